/- The walk of the law OptionPuts. Condition: the slice holds options. -/
import Derived.Test.YtcofkdcjcckdfaaOptWn
namespace Go.Proofs.Ytcofkdcjcckdfaa
set_option linter.unusedVariables false
set_option linter.unusedSimpArgs false
open Go.RowKit

theorem wide_tabN (n : Nat) : ∀ f ∈ tabN n, Wide f := by
  unfold tabN Wide spot
  split <;> decide
theorem wide_tab (k : Int) : ∀ f ∈ tab k, Wide f := by
  unfold tab
  split
  · simp
  · exact wide_tabN _
/-- What is put is got. -/
theorem getR_told {x : Opt} (hok : x.ok) (h : rightB x = true) (rest : List UInt8) : getR (ob x ++ rest) = (x, rest, 0) := by
  have hs := right_sz h
  have hr := sz_range hs
  obtain ⟨k, hk⟩ := Int.eq_ofNat_of_zero_le (show 0 ≤ x.kind by omega)
  have hob : ob x = [UInt8.ofNat (u64 x.kind)] ++ toldB x (tab x.kind) := by unfold ob; rw [byte_one]
  have hkk : (UInt8.ofNat (u64 x.kind)).toNat = k := by
    rw [UInt8.toNat_ofNat']
    have := u64_int x.kind
    omega
  have hp : prs (zK x.kind) (tab x.kind) (toldB x (tab x.kind)) = x := by
    have h1 := h
    rw [right_eq x hok] at h1
    unfold rrightB at h1
    split at h1
    · cases h1
    · split at h1
      · cases h1
      · rw [ob_drop] at h1
        exact (eqO_iff _ _).1 h1
  have hlen : (toldB x (tab x.kind)).length = long (tab x.kind) := toldB_length _ _
  have hokL : okL (tab x.kind) (toldB x (tab x.kind)) = true := by
    rw [okL_iff (tab x.kind) (zK x.kind) _ (wide_tab _) (fine_tab _).2.2 hlen, hp]
  rw [hob, List.append_assoc, List.singleton_append, ← List.singleton_append, getR_cons, hkk]
  rw [hk] at hp hlen hokL ⊢
  unfold getK
  rw [if_neg (by rw [List.length_append]; omega), List.take_left' hlen, List.drop_left' hlen, hp, hokL, h]
  rfl
theorem all_take {os : List Opt} (h : os.all rightB = true) (j : Nat) : (os.take j).all rightB = true := List.all_eq_true.2 fun y hy => List.all_eq_true.1 h y (List.mem_of_mem_take hy)
theorem all_at {os : List Opt} (h : os.all rightB = true) {j : Nat} (hj : j < os.length) : rightB (os.getD j (zK 0)) = true := by
  refine List.all_eq_true.1 h _ ?_
  simp [List.getD_eq_getElem?_getD, List.getElem?_eq_getElem hj]
theorem drop_getD {os : List Opt} {j : Nat} (h : j < os.length) : os.drop j = os.getD j (zK 0) :: os.drop (j + 1) := by
  rw [List.drop_eq_getElem_cons h]
  simp [List.getD_eq_getElem?_getD, List.getElem?_eq_getElem h]

set_option maxRecDepth 8000 in
set_option maxHeartbeats 3200000 in
theorem Puts_bad (A : Option Addr) (n c : Nat) (os : List Opt) (w : World) (h : OS w A n c os) (hn : ¬ 50 < n) (hall : os.all rightB = false) :
    Calls Try.prog 3 #[.slice A n c] w (Held w) := by
  have hmx := h.max
  have hcp := h.cap
  have HLN := Lib.hid h.len
  have HBAD := Lib.hid hall
  clear hall
  go_enter Try.func3, Try.ntmps3
  go_wp2_with fail
  refine (wakes_any _).mono ?_
  rintro e w1 ⟨rfl, b1⟩
  have h1 := h.below b1
  clear h
  go_wp2_with fail
  refine (Puts_any A n c os w1 h1 (by omega)).mono ?_
  rintro e w2 ⟨_, p2, b2⟩
  obtain rfl := p2 HBAD.out
  have h2 := h1.below b2
  have b3 := below_trans b1 b2
  clear h1 b1 b2 p2
  go_wp2_with fail
  go_loopw [5, 6, 26] (fun v t i wr => ∃ j : Nat, j ≤ n ∧ i = .int .i64 j ∧ t = .bool ((os.take j).all rightB) ∧ wr.ownsRow w2.heap.size 5 1 v (obs (os.take j)).length (bv (obs (os.take j))) ∧ Below w2.heap.size w2 wr) (fun _ _ i _ => n - (intOf i).toNat)
  case atStart => exact ⟨0, Nat.zero_le _, rfl, rfl, World.ownsRow_nil _ _ _ _, Below.refl _ _⟩
  case round =>
    obtain ⟨j, hj, rfl, rfl, hown, hb⟩ := hrel
    by_cases hlt : j < n
    · obtain ⟨b, o, rfl, hc0⟩ := h2.at_ hlt
      have hc := range_below hc0 hb
      have hok := h2.ok hlt
      have HT := Lib.hid (take_getD (os := os) (j := j) (by rw [HLN.out]; exact hlt))
      have HAL := Lib.hid (fun (e : os.all rightB = true) => all_at e (j := j) (by rw [HLN.out]; exact hlt))
      clear hc0 h2
      generalize os.getD j (zK 0) = x at *
      have HR := Lib.hid (fun W => Right_any x W hok)
      have HQ0 := fun W => rRight_any x W hok
      rw [← right_eq x hok] at HQ0
      have HQ := Lib.hid HQ0
      have HO := Lib.hid (fun W => rbytes_any x W hok)
      have HOL := ob_le x
      have hL49 := obs_le (os.take j)
      rw [List.length_take] at hL49
      have HAP : Hid (obs (os.take (j + 1)) = obs (os.take j) ++ ob x) := Lib.hid (by rw [HT.out, obs_append]; simp [obs])
      have HALL : Hid ((os.take (j + 1)).all rightB = ((os.take j).all rightB && rightB x)) := Lib.hid (by rw [HT.out, List.all_append]; simp)
      have HLE : Hid ((obs (os.take (j + 1))).length = (obs (os.take j)).length + (ob x).length) := Lib.hid (by rw [HAP.out, List.length_append])
      clear HQ0

      generalize (obs (os.take j)).length = tl at *
      generalize obs (os.take j) = T at *
      generalize (ob x).length = xl at *
      generalize ob x = X at *
      cases hx : rightB x with
      | false =>
        rw [hx] at HR HQ HALL
        clear hx HAL
        generalize ht : (os.take j).all rightB = tk at *
        cases tk with
        | false =>
          clear ht
          go_wp2_with (first
            | ((with_reducible refine wpList_here ?_); refine wpList_loadV (o := ⟨some 29, _, _, _, _, _⟩) rfl 31 (.tmp 28) rfl b _ x.vals rfl hc _ Try.underlying31 rfl infoOpt ?_)
            | ((with_reducible refine wpList_here ?_); refine wpList_allocV (o := ⟨some 8, _, _, _, _, _⟩) rfl 31 rfl (zK 0).vals zeroOpt _ rfl ?_; intro w5 z5 d5 s5)
            | ((with_reducible refine wpList_here ?_); refine wpList_storeV rfl 31 (.tmp 8) (.tmp 29) rfl _ _ x.vals rfl rfl z5 rfl (vals_one x) infoOpt ?_; intro w6 z6 g6 s6))
          have d6 := v_below_g d5 g6 d5.size (Nat.le_refl _)
          clear z5 d5 g6 s5 s6 hc
          have s0 : Own w6.drew wr.heap.size x.vals ∧ Below wr.heap.size wr w6.drew := ⟨z6.below (Below.refl _ _).drew, d6.drew⟩
          refine wp_region_noPanic ?_
          refine wp_region_held_drew (S := fun W => Own W wr.heap.size x.vals ∧ Below wr.heap.size wr W) (by kernel_rfl) s0 (fun _ => ?_)
          refine held_take (i := 0) (v := .agg x.vals.toArray) (some 30) rfl rfl (by kernel_rfl) (by kernel_rfl) (by kernel_rfl) (fun _ _ _ h => h) (yieldsIf_load_mid (by rfl) 31 (.tmp 8) rfl wr.heap.size 0 rfl x.vals _ (fun W hW => hW.1.range) Try.underlying31 rfl infoOpt) s0 ?_
          simp only [Act.put, List.setIfInBounds_toArray, List.set_cons_zero, List.set_cons_succ]
          refine held_take (i := 2) (v := .agg x.vals.toArray) (some 32) rfl rfl (by kernel_rfl) (by kernel_rfl) (by kernel_rfl) (fun _ _ _ h => h) (yieldsIf_load_mid (by rfl) 31 (.tmp 8) rfl wr.heap.size 0 rfl x.vals _ (fun W hW => hW.1.range) Try.underlying31 rfl infoOpt) s0 ?_
          simp only [Act.put, List.setIfInBounds_toArray, List.set_cons_zero, List.set_cons_succ]
          refine wpAnyH_ready (rs := [1]) (by kernel_rfl) (by simp) ?_
          refine AllReadyH.cons rfl (fun K hK => ?_) AllReadyH.nil
          go_simp
          refine (HR.out _).mono ?_
          rintro e wa ⟨rfl, ba⟩
          have sa : Own wa wr.heap.size x.vals ∧ Below wr.heap.size wr wa := ⟨s0.1.below ba, below_trans s0.2 ba⟩
          dsimp only
          refine hK.out _ _ sa (fun _ => ?_)
          clear hK
          refine wpAnyH_ready (rs := [3]) (by kernel_rfl) (by simp) ?_
          refine AllReadyH.cons rfl (fun K hK => ?_) AllReadyH.nil
          go_simp
          refine (HQ.out _).mono ?_
          rintro e wb ⟨rfl, bb⟩
          have sb : Own wb wr.heap.size x.vals ∧ Below wr.heap.size wr wb := ⟨sa.1.below bb, below_trans sa.2 bb⟩
          dsimp only
          refine hK.out _ _ sb (fun _ => ?_)
          clear hK sa ba bb
          refine held_take (i := 4) (v := .bool false) (some 34) rfl rfl (by kernel_rfl) (by kernel_rfl) (by kernel_rfl) (fun _ _ _ h => h) (Or.inl ⟨by rfl, fun W _ => by go_simp⟩) sb ?_
          simp only [Act.put, List.setIfInBounds_toArray, List.set_cons_zero, List.set_cons_succ]
          refine wpAnyH_done (by kernel_rfl) ?_ _
          refine NoPanic.normal ?_
          have sc := sb
          clear sb s0
          go_wp2_with (first
            | ((with_reducible refine wpList_here ?_); refine wpList_loadV (o := ⟨some 41, _, _, _, _, _⟩) rfl 31 (.tmp 8) rfl _ _ x.vals rfl sc.1.range _ Try.underlying31 rfl infoOpt ?_))
          refine (HO.out _).mono ?_
          rintro e wd ⟨Ad, cd, rfl, rd, _, bd⟩
          have sd := below_trans sc.2 bd
          have own7 := own_below hown sd
          have hb7 := hb.trans (sd.mono hb.size)
          have base7 := hb7.size
          clear sc bd sd
          go_wp2_with (at_builtin; refine wpList_app _ rfl (.tmp 40) (.tmp 42) 24 5 rfl Try.underlying24 infoByte w2.heap.size _ tl T rfl own7 _ xl _ X rfl rd (by omega) base7 ?_; intro v8 w8 own8 g8 _)
          have hb8 := below_grown hb7 own7 g8
          clear own7 hb7 base7 g8 rd
          go_roundw
          case rel => exact ⟨j + 1, by omega, by go_num, by rw [HALL.out]; rfl, by rw [HLE.out, HAP.out]; exact own8, hb8⟩
          case measure => simp [intOf]; omega
        | true =>
          clear ht
          go_wp2_with (first
            | ((with_reducible refine wpList_here ?_); refine wpList_loadV (o := ⟨some 29, _, _, _, _, _⟩) rfl 31 (.tmp 28) rfl b _ x.vals rfl hc _ Try.underlying31 rfl infoOpt ?_)
            | ((with_reducible refine wpList_here ?_); refine wpList_allocV (o := ⟨some 8, _, _, _, _, _⟩) rfl 31 rfl (zK 0).vals zeroOpt _ rfl ?_; intro w5 z5 d5 s5)
            | ((with_reducible refine wpList_here ?_); refine wpList_storeV rfl 31 (.tmp 8) (.tmp 29) rfl _ _ x.vals rfl rfl z5 rfl (vals_one x) infoOpt ?_; intro w6 z6 g6 s6))
          have d6 := v_below_g d5 g6 d5.size (Nat.le_refl _)
          clear z5 d5 g6 s5 s6 hc
          have s0 : Own w6.drew wr.heap.size x.vals ∧ Below wr.heap.size wr w6.drew := ⟨z6.below (Below.refl _ _).drew, d6.drew⟩
          refine wp_region_noPanic ?_
          refine wp_region_held_drew (S := fun W => Own W wr.heap.size x.vals ∧ Below wr.heap.size wr W) (by kernel_rfl) s0 (fun _ => ?_)
          refine held_take (i := 0) (v := .agg x.vals.toArray) (some 30) rfl rfl (by kernel_rfl) (by kernel_rfl) (by kernel_rfl) (fun _ _ _ h => h) (yieldsIf_load_mid (by rfl) 31 (.tmp 8) rfl wr.heap.size 0 rfl x.vals _ (fun W hW => hW.1.range) Try.underlying31 rfl infoOpt) s0 ?_
          simp only [Act.put, List.setIfInBounds_toArray, List.set_cons_zero, List.set_cons_succ]
          refine held_take (i := 2) (v := .agg x.vals.toArray) (some 32) rfl rfl (by kernel_rfl) (by kernel_rfl) (by kernel_rfl) (fun _ _ _ h => h) (yieldsIf_load_mid (by rfl) 31 (.tmp 8) rfl wr.heap.size 0 rfl x.vals _ (fun W hW => hW.1.range) Try.underlying31 rfl infoOpt) s0 ?_
          simp only [Act.put, List.setIfInBounds_toArray, List.set_cons_zero, List.set_cons_succ]
          refine wpAnyH_ready (rs := [1]) (by kernel_rfl) (by simp) ?_
          refine AllReadyH.cons rfl (fun K hK => ?_) AllReadyH.nil
          go_simp
          refine (HR.out _).mono ?_
          rintro e wa ⟨rfl, ba⟩
          have sa : Own wa wr.heap.size x.vals ∧ Below wr.heap.size wr wa := ⟨s0.1.below ba, below_trans s0.2 ba⟩
          dsimp only
          refine hK.out _ _ sa (fun _ => ?_)
          clear hK
          refine wpAnyH_ready (rs := [3]) (by kernel_rfl) (by simp) ?_
          refine AllReadyH.cons rfl (fun K hK => ?_) AllReadyH.nil
          go_simp
          refine (HQ.out _).mono ?_
          rintro e wb ⟨rfl, bb⟩
          have sb : Own wb wr.heap.size x.vals ∧ Below wr.heap.size wr wb := ⟨sa.1.below bb, below_trans sa.2 bb⟩
          dsimp only
          refine hK.out _ _ sb (fun _ => ?_)
          clear hK sa ba bb
          refine held_take (i := 4) (v := .bool false) (some 34) rfl rfl (by kernel_rfl) (by kernel_rfl) (by kernel_rfl) (fun _ _ _ h => h) (Or.inl ⟨by rfl, fun W _ => by go_simp⟩) sb ?_
          simp only [Act.put, List.setIfInBounds_toArray, List.set_cons_zero, List.set_cons_succ]
          refine wpAnyH_done (by kernel_rfl) ?_ _
          refine NoPanic.normal ?_
          go_wp2_with (first
            | ((with_reducible refine wpList_here ?_); refine wpList_loadV (o := ⟨some 37, _, _, _, _, _⟩) rfl 31 (.tmp 8) rfl _ _ x.vals rfl sb.1.range _ Try.underlying31 rfl infoOpt ?_))
          refine (HQ.out _).mono ?_
          rintro e wc ⟨rfl, bc⟩
          have sc : Own wc wr.heap.size x.vals ∧ Below wr.heap.size wr wc := ⟨sb.1.below bc, below_trans sb.2 bc⟩
          clear sb bc s0
          go_wp2_with (first
            | ((with_reducible refine wpList_here ?_); refine wpList_loadV (o := ⟨some 41, _, _, _, _, _⟩) rfl 31 (.tmp 8) rfl _ _ x.vals rfl sc.1.range _ Try.underlying31 rfl infoOpt ?_))
          refine (HO.out _).mono ?_
          rintro e wd ⟨Ad, cd, rfl, rd, _, bd⟩
          have sd := below_trans sc.2 bd
          have own7 := own_below hown sd
          have hb7 := hb.trans (sd.mono hb.size)
          have base7 := hb7.size
          clear sc bd sd
          go_wp2_with (at_builtin; refine wpList_app _ rfl (.tmp 40) (.tmp 42) 24 5 rfl Try.underlying24 infoByte w2.heap.size _ tl T rfl own7 _ xl _ X rfl rd (by omega) base7 ?_; intro v8 w8 own8 g8 _)
          have hb8 := below_grown hb7 own7 g8
          clear own7 hb7 base7 g8 rd
          go_roundw
          case rel => exact ⟨j + 1, by omega, by go_num, by rw [HALL.out]; rfl, by rw [HLE.out, HAP.out]; exact own8, hb8⟩
          case measure => simp [intOf]; omega
      | true =>
        rw [hx] at HR HQ HALL
        clear hx HAL
        generalize ht : (os.take j).all rightB = tk at *
        cases tk with
        | false =>
          clear ht
          go_wp2_with (first
            | ((with_reducible refine wpList_here ?_); refine wpList_loadV (o := ⟨some 29, _, _, _, _, _⟩) rfl 31 (.tmp 28) rfl b _ x.vals rfl hc _ Try.underlying31 rfl infoOpt ?_)
            | ((with_reducible refine wpList_here ?_); refine wpList_allocV (o := ⟨some 8, _, _, _, _, _⟩) rfl 31 rfl (zK 0).vals zeroOpt _ rfl ?_; intro w5 z5 d5 s5)
            | ((with_reducible refine wpList_here ?_); refine wpList_storeV rfl 31 (.tmp 8) (.tmp 29) rfl _ _ x.vals rfl rfl z5 rfl (vals_one x) infoOpt ?_; intro w6 z6 g6 s6))
          have d6 := v_below_g d5 g6 d5.size (Nat.le_refl _)
          clear z5 d5 g6 s5 s6 hc
          have s0 : Own w6.drew wr.heap.size x.vals ∧ Below wr.heap.size wr w6.drew := ⟨z6.below (Below.refl _ _).drew, d6.drew⟩
          refine wp_region_noPanic ?_
          refine wp_region_held_drew (S := fun W => Own W wr.heap.size x.vals ∧ Below wr.heap.size wr W) (by kernel_rfl) s0 (fun _ => ?_)
          refine held_take (i := 0) (v := .agg x.vals.toArray) (some 30) rfl rfl (by kernel_rfl) (by kernel_rfl) (by kernel_rfl) (fun _ _ _ h => h) (yieldsIf_load_mid (by rfl) 31 (.tmp 8) rfl wr.heap.size 0 rfl x.vals _ (fun W hW => hW.1.range) Try.underlying31 rfl infoOpt) s0 ?_
          simp only [Act.put, List.setIfInBounds_toArray, List.set_cons_zero, List.set_cons_succ]
          refine held_take (i := 2) (v := .agg x.vals.toArray) (some 32) rfl rfl (by kernel_rfl) (by kernel_rfl) (by kernel_rfl) (fun _ _ _ h => h) (yieldsIf_load_mid (by rfl) 31 (.tmp 8) rfl wr.heap.size 0 rfl x.vals _ (fun W hW => hW.1.range) Try.underlying31 rfl infoOpt) s0 ?_
          simp only [Act.put, List.setIfInBounds_toArray, List.set_cons_zero, List.set_cons_succ]
          refine wpAnyH_ready (rs := [1]) (by kernel_rfl) (by simp) ?_
          refine AllReadyH.cons rfl (fun K hK => ?_) AllReadyH.nil
          go_simp
          refine (HR.out _).mono ?_
          rintro e wa ⟨rfl, ba⟩
          have sa : Own wa wr.heap.size x.vals ∧ Below wr.heap.size wr wa := ⟨s0.1.below ba, below_trans s0.2 ba⟩
          dsimp only
          refine hK.out _ _ sa (fun _ => ?_)
          clear hK
          refine wpAnyH_ready (rs := [3]) (by kernel_rfl) (by simp) ?_
          refine AllReadyH.cons rfl (fun K hK => ?_) AllReadyH.nil
          go_simp
          refine (HQ.out _).mono ?_
          rintro e wb ⟨rfl, bb⟩
          have sb : Own wb wr.heap.size x.vals ∧ Below wr.heap.size wr wb := ⟨sa.1.below bb, below_trans sa.2 bb⟩
          dsimp only
          refine hK.out _ _ sb (fun _ => ?_)
          clear hK sa ba bb
          refine held_take (i := 4) (v := .bool false) (some 34) rfl rfl (by kernel_rfl) (by kernel_rfl) (by kernel_rfl) (fun _ _ _ h => h) (Or.inl ⟨by rfl, fun W _ => by go_simp⟩) sb ?_
          simp only [Act.put, List.setIfInBounds_toArray, List.set_cons_zero, List.set_cons_succ]
          refine wpAnyH_done (by kernel_rfl) ?_ _
          refine NoPanic.normal ?_
          have sc := sb
          clear sb s0
          go_wp2_with (first
            | ((with_reducible refine wpList_here ?_); refine wpList_loadV (o := ⟨some 41, _, _, _, _, _⟩) rfl 31 (.tmp 8) rfl _ _ x.vals rfl sc.1.range _ Try.underlying31 rfl infoOpt ?_))
          refine (HO.out _).mono ?_
          rintro e wd ⟨Ad, cd, rfl, rd, _, bd⟩
          have sd := below_trans sc.2 bd
          have own7 := own_below hown sd
          have hb7 := hb.trans (sd.mono hb.size)
          have base7 := hb7.size
          clear sc bd sd
          go_wp2_with (at_builtin; refine wpList_app _ rfl (.tmp 40) (.tmp 42) 24 5 rfl Try.underlying24 infoByte w2.heap.size _ tl T rfl own7 _ xl _ X rfl rd (by omega) base7 ?_; intro v8 w8 own8 g8 _)
          have hb8 := below_grown hb7 own7 g8
          clear own7 hb7 base7 g8 rd
          go_roundw
          case rel => exact ⟨j + 1, by omega, by go_num, by rw [HALL.out]; rfl, by rw [HLE.out, HAP.out]; exact own8, hb8⟩
          case measure => simp [intOf]; omega
        | true =>
          clear ht
          go_wp2_with (first
            | ((with_reducible refine wpList_here ?_); refine wpList_loadV (o := ⟨some 29, _, _, _, _, _⟩) rfl 31 (.tmp 28) rfl b _ x.vals rfl hc _ Try.underlying31 rfl infoOpt ?_)
            | ((with_reducible refine wpList_here ?_); refine wpList_allocV (o := ⟨some 8, _, _, _, _, _⟩) rfl 31 rfl (zK 0).vals zeroOpt _ rfl ?_; intro w5 z5 d5 s5)
            | ((with_reducible refine wpList_here ?_); refine wpList_storeV rfl 31 (.tmp 8) (.tmp 29) rfl _ _ x.vals rfl rfl z5 rfl (vals_one x) infoOpt ?_; intro w6 z6 g6 s6))
          have d6 := v_below_g d5 g6 d5.size (Nat.le_refl _)
          clear z5 d5 g6 s5 s6 hc
          have s0 : Own w6.drew wr.heap.size x.vals ∧ Below wr.heap.size wr w6.drew := ⟨z6.below (Below.refl _ _).drew, d6.drew⟩
          refine wp_region_noPanic ?_
          refine wp_region_held_drew (S := fun W => Own W wr.heap.size x.vals ∧ Below wr.heap.size wr W) (by kernel_rfl) s0 (fun _ => ?_)
          refine held_take (i := 0) (v := .agg x.vals.toArray) (some 30) rfl rfl (by kernel_rfl) (by kernel_rfl) (by kernel_rfl) (fun _ _ _ h => h) (yieldsIf_load_mid (by rfl) 31 (.tmp 8) rfl wr.heap.size 0 rfl x.vals _ (fun W hW => hW.1.range) Try.underlying31 rfl infoOpt) s0 ?_
          simp only [Act.put, List.setIfInBounds_toArray, List.set_cons_zero, List.set_cons_succ]
          refine held_take (i := 2) (v := .agg x.vals.toArray) (some 32) rfl rfl (by kernel_rfl) (by kernel_rfl) (by kernel_rfl) (fun _ _ _ h => h) (yieldsIf_load_mid (by rfl) 31 (.tmp 8) rfl wr.heap.size 0 rfl x.vals _ (fun W hW => hW.1.range) Try.underlying31 rfl infoOpt) s0 ?_
          simp only [Act.put, List.setIfInBounds_toArray, List.set_cons_zero, List.set_cons_succ]
          refine wpAnyH_ready (rs := [1]) (by kernel_rfl) (by simp) ?_
          refine AllReadyH.cons rfl (fun K hK => ?_) AllReadyH.nil
          go_simp
          refine (HR.out _).mono ?_
          rintro e wa ⟨rfl, ba⟩
          have sa : Own wa wr.heap.size x.vals ∧ Below wr.heap.size wr wa := ⟨s0.1.below ba, below_trans s0.2 ba⟩
          dsimp only
          refine hK.out _ _ sa (fun _ => ?_)
          clear hK
          refine wpAnyH_ready (rs := [3]) (by kernel_rfl) (by simp) ?_
          refine AllReadyH.cons rfl (fun K hK => ?_) AllReadyH.nil
          go_simp
          refine (HQ.out _).mono ?_
          rintro e wb ⟨rfl, bb⟩
          have sb : Own wb wr.heap.size x.vals ∧ Below wr.heap.size wr wb := ⟨sa.1.below bb, below_trans sa.2 bb⟩
          dsimp only
          refine hK.out _ _ sb (fun _ => ?_)
          clear hK sa ba bb
          refine held_take (i := 4) (v := .bool false) (some 34) rfl rfl (by kernel_rfl) (by kernel_rfl) (by kernel_rfl) (fun _ _ _ h => h) (Or.inl ⟨by rfl, fun W _ => by go_simp⟩) sb ?_
          simp only [Act.put, List.setIfInBounds_toArray, List.set_cons_zero, List.set_cons_succ]
          refine wpAnyH_done (by kernel_rfl) ?_ _
          refine NoPanic.normal ?_
          go_wp2_with (first
            | ((with_reducible refine wpList_here ?_); refine wpList_loadV (o := ⟨some 37, _, _, _, _, _⟩) rfl 31 (.tmp 8) rfl _ _ x.vals rfl sb.1.range _ Try.underlying31 rfl infoOpt ?_))
          refine (HQ.out _).mono ?_
          rintro e wc ⟨rfl, bc⟩
          have sc : Own wc wr.heap.size x.vals ∧ Below wr.heap.size wr wc := ⟨sb.1.below bc, below_trans sb.2 bc⟩
          clear sb bc s0
          go_wp2_with (first
            | ((with_reducible refine wpList_here ?_); refine wpList_loadV (o := ⟨some 41, _, _, _, _, _⟩) rfl 31 (.tmp 8) rfl _ _ x.vals rfl sc.1.range _ Try.underlying31 rfl infoOpt ?_))
          refine (HO.out _).mono ?_
          rintro e wd ⟨Ad, cd, rfl, rd, _, bd⟩
          have sd := below_trans sc.2 bd
          have own7 := own_below hown sd
          have hb7 := hb.trans (sd.mono hb.size)
          have base7 := hb7.size
          clear sc bd sd
          go_wp2_with (at_builtin; refine wpList_app _ rfl (.tmp 40) (.tmp 42) 24 5 rfl Try.underlying24 infoByte w2.heap.size _ tl T rfl own7 _ xl _ X rfl rd (by omega) base7 ?_; intro v8 w8 own8 g8 _)
          have hb8 := below_grown hb7 own7 g8
          clear own7 hb7 base7 g8 rd
          go_roundw
          case rel => exact ⟨j + 1, by omega, by go_num, by rw [HALL.out]; rfl, by rw [HLE.out, HAP.out]; exact own8, hb8⟩
          case measure => simp [intOf]; omega
    · obtain rfl : j = n := by omega
      have ht : (os.take j).all rightB = false := by rw [List.take_of_length_le (by rw [HLN.out]; exact Nat.le_refl _)]; exact HBAD.out
      rw [ht]
      go_wp2_with fail
      go_ret
      exact ⟨rfl, b3.trans (hb.mono b3.size)⟩

set_option maxRecDepth 8000 in
set_option maxHeartbeats 3200000 in
theorem Puts_good (A : Option Addr) (n c : Nat) (os : List Opt) (w : World) (h : OS w A n c os) (hn : ¬ 50 < n) (hall : os.all rightB = true) :
    Calls Try.prog 3 #[.slice A n c] w (Held w) := by
  have hmx := h.max
  have hcp := h.cap
  have HLN := Lib.hid h.len
  have HGOOD := Lib.hid hall
  have HD : Hid (∀ j, j < n → obs (os.drop j) = ob (os.getD j (zK 0)) ++ obs (os.drop (j + 1))) := Lib.hid (fun j hj => by
    rw [drop_getD (by rw [HLN.out]; exact hj)]
    rfl)
  have HLEN : Hid (∀ j, (obs (os.drop j)).length ≤ 2450) := Lib.hid (fun j => by
    have := obs_le (os.drop j)
    rw [List.length_drop, HLN.out] at this
    omega)
  clear hall
  go_enter Try.func3, Try.ntmps3
  go_wp2_with fail
  refine (wakes_any _).mono ?_
  rintro e w1 ⟨rfl, b1⟩
  have h1 := h.below b1
  clear h
  go_wp2_with fail
  refine (Puts_any A n c os w1 h1 (by omega)).mono ?_
  rintro e w2 ⟨p2, _, b2⟩
  obtain ⟨A2, c2, rfl, r2⟩ := p2 HGOOD.out
  have h2 := h1.below b2
  have b3 := below_trans b1 b2
  have hcp2 := r2.cap
  have hmx2 := r2.max
  clear h1 b1 b2 p2
  have hol := HLEN.out 0
  rw [List.drop_zero] at hol
  go_wp2_with fail
  go_loopw [5, 6, 26] (fun v t i wr => ∃ j : Nat, j ≤ n ∧ i = .int .i64 j ∧ t = .bool ((os.take j).all rightB) ∧ wr.ownsRow w2.heap.size 5 1 v (obs (os.take j)).length (bv (obs (os.take j))) ∧ Below w2.heap.size w2 wr) (fun _ _ i _ => n - (intOf i).toNat)
  case atStart => exact ⟨0, Nat.zero_le _, rfl, rfl, World.ownsRow_nil _ _ _ _, Below.refl _ _⟩
  case round =>
    obtain ⟨j, hj, rfl, rfl, hown, hb⟩ := hrel
    by_cases hlt : j < n
    · obtain ⟨b, o, rfl, hc0⟩ := h2.at_ hlt
      have hc := range_below hc0 hb
      have hok := h2.ok hlt
      have HT := Lib.hid (take_getD (os := os) (j := j) (by rw [HLN.out]; exact hlt))
      have HAL := Lib.hid (fun (e : os.all rightB = true) => all_at e (j := j) (by rw [HLN.out]; exact hlt))
      clear hc0 h2
      generalize os.getD j (zK 0) = x at *
      have HR := Lib.hid (fun W => Right_any x W hok)
      have HQ0 := fun W => rRight_any x W hok
      rw [← right_eq x hok] at HQ0
      have HQ := Lib.hid HQ0
      have HO := Lib.hid (fun W => rbytes_any x W hok)
      have HOL := ob_le x
      have hL49 := obs_le (os.take j)
      rw [List.length_take] at hL49
      have HAP : Hid (obs (os.take (j + 1)) = obs (os.take j) ++ ob x) := Lib.hid (by rw [HT.out, obs_append]; simp [obs])
      have HALL : Hid ((os.take (j + 1)).all rightB = ((os.take j).all rightB && rightB x)) := Lib.hid (by rw [HT.out, List.all_append]; simp)
      have HLE : Hid ((obs (os.take (j + 1))).length = (obs (os.take j)).length + (ob x).length) := Lib.hid (by rw [HAP.out, List.length_append])
      clear HQ0

      generalize (obs (os.take j)).length = tl at *
      generalize obs (os.take j) = T at *
      generalize (ob x).length = xl at *
      generalize ob x = X at *
      have hx := HAL.out HGOOD.out
      have htk := all_take HGOOD.out j
      rw [hx] at HR HQ HALL
      rw [htk] at HALL ⊢
      clear hx HAL htk
      go_wp2_with (first
        | ((with_reducible refine wpList_here ?_); refine wpList_loadV (o := ⟨some 29, _, _, _, _, _⟩) rfl 31 (.tmp 28) rfl b _ x.vals rfl hc _ Try.underlying31 rfl infoOpt ?_)
        | ((with_reducible refine wpList_here ?_); refine wpList_allocV (o := ⟨some 8, _, _, _, _, _⟩) rfl 31 rfl (zK 0).vals zeroOpt _ rfl ?_; intro w5 z5 d5 s5)
        | ((with_reducible refine wpList_here ?_); refine wpList_storeV rfl 31 (.tmp 8) (.tmp 29) rfl _ _ x.vals rfl rfl z5 rfl (vals_one x) infoOpt ?_; intro w6 z6 g6 s6))
      have d6 := v_below_g d5 g6 d5.size (Nat.le_refl _)
      clear z5 d5 g6 s5 s6 hc
      have s0 : Own w6.drew wr.heap.size x.vals ∧ Below wr.heap.size wr w6.drew := ⟨z6.below (Below.refl _ _).drew, d6.drew⟩
      refine wp_region_noPanic ?_
      refine wp_region_held_drew (S := fun W => Own W wr.heap.size x.vals ∧ Below wr.heap.size wr W) (by kernel_rfl) s0 (fun _ => ?_)
      refine held_take (i := 0) (v := .agg x.vals.toArray) (some 30) rfl rfl (by kernel_rfl) (by kernel_rfl) (by kernel_rfl) (fun _ _ _ h => h) (yieldsIf_load_mid (by rfl) 31 (.tmp 8) rfl wr.heap.size 0 rfl x.vals _ (fun W hW => hW.1.range) Try.underlying31 rfl infoOpt) s0 ?_
      simp only [Act.put, List.setIfInBounds_toArray, List.set_cons_zero, List.set_cons_succ]
      refine held_take (i := 2) (v := .agg x.vals.toArray) (some 32) rfl rfl (by kernel_rfl) (by kernel_rfl) (by kernel_rfl) (fun _ _ _ h => h) (yieldsIf_load_mid (by rfl) 31 (.tmp 8) rfl wr.heap.size 0 rfl x.vals _ (fun W hW => hW.1.range) Try.underlying31 rfl infoOpt) s0 ?_
      simp only [Act.put, List.setIfInBounds_toArray, List.set_cons_zero, List.set_cons_succ]
      refine wpAnyH_ready (rs := [1]) (by kernel_rfl) (by simp) ?_
      refine AllReadyH.cons rfl (fun K hK => ?_) AllReadyH.nil
      go_simp
      refine (HR.out _).mono ?_
      rintro e wa ⟨rfl, ba⟩
      have sa : Own wa wr.heap.size x.vals ∧ Below wr.heap.size wr wa := ⟨s0.1.below ba, below_trans s0.2 ba⟩
      dsimp only
      refine hK.out _ _ sa (fun _ => ?_)
      clear hK
      refine wpAnyH_ready (rs := [3]) (by kernel_rfl) (by simp) ?_
      refine AllReadyH.cons rfl (fun K hK => ?_) AllReadyH.nil
      go_simp
      refine (HQ.out _).mono ?_
      rintro e wb ⟨rfl, bb⟩
      have sb : Own wb wr.heap.size x.vals ∧ Below wr.heap.size wr wb := ⟨sa.1.below bb, below_trans sa.2 bb⟩
      dsimp only
      refine hK.out _ _ sb (fun _ => ?_)
      clear hK sa ba bb
      refine held_take (i := 4) (v := .bool false) (some 34) rfl rfl (by kernel_rfl) (by kernel_rfl) (by kernel_rfl) (fun _ _ _ h => h) (Or.inl ⟨by rfl, fun W _ => by go_simp⟩) sb ?_
      simp only [Act.put, List.setIfInBounds_toArray, List.set_cons_zero, List.set_cons_succ]
      refine wpAnyH_done (by kernel_rfl) ?_ _
      refine NoPanic.normal ?_
      go_wp2_with (first
        | ((with_reducible refine wpList_here ?_); refine wpList_loadV (o := ⟨some 37, _, _, _, _, _⟩) rfl 31 (.tmp 8) rfl _ _ x.vals rfl sb.1.range _ Try.underlying31 rfl infoOpt ?_))
      refine (HQ.out _).mono ?_
      rintro e wc ⟨rfl, bc⟩
      have sc : Own wc wr.heap.size x.vals ∧ Below wr.heap.size wr wc := ⟨sb.1.below bc, below_trans sb.2 bc⟩
      clear sb bc s0
      go_wp2_with (first
        | ((with_reducible refine wpList_here ?_); refine wpList_loadV (o := ⟨some 41, _, _, _, _, _⟩) rfl 31 (.tmp 8) rfl _ _ x.vals rfl sc.1.range _ Try.underlying31 rfl infoOpt ?_))
      refine (HO.out _).mono ?_
      rintro e wd ⟨Ad, cd, rfl, rd, _, bd⟩
      have sd := below_trans sc.2 bd
      have own7 := own_below hown sd
      have hb7 := hb.trans (sd.mono hb.size)
      have base7 := hb7.size
      clear sc bd sd
      go_wp2_with (at_builtin; refine wpList_app _ rfl (.tmp 40) (.tmp 42) 24 5 rfl Try.underlying24 infoByte w2.heap.size _ tl T rfl own7 _ xl _ X rfl rd (by omega) base7 ?_; intro v8 w8 own8 g8 _)
      have hb8 := below_grown hb7 own7 g8
      clear own7 hb7 base7 g8 rd
      go_roundw
      case rel => exact ⟨j + 1, by omega, by go_num, by rw [HALL.out]; rfl, by rw [HLE.out, HAP.out]; exact own8, hb8⟩
      case measure => simp [intOf]; omega
    · obtain rfl : j = n := by omega
      have ht : os.take j = os := List.take_of_length_le (by rw [HLN.out]; exact Nat.le_refl _)
      rw [ht] at hown ⊢
      rw [HGOOD.out]
      obtain ⟨A5, c5, rfl, r5, _⟩ := RB.of_own hown
      have h5 := h2.below hb
      have r6 := r2.below hb
      have b6 := b3.trans (hb.mono b3.size)
      have HSM := Lib.hid (Same_yes A2 A5 _ c2 _ c5 (obs os) wr r6 r5)
      clear hown r2 h2 b3 hb r5
      go_wp2_with fail
      refine HSM.out.mono ?_
      rintro e w7 ⟨rfl, b7⟩
      have h7 := h5.below b7
      have r7 := r6.below b7
      have b8 := below_trans b6 b7
      have e0 : os.drop 0 = os := rfl
      rw [← e0] at r7
      clear h5 r6 b6 b7 HSM ht
      go_wp2_with fail
      go_loopw [3, 64] (fun v i wx => ∃ (k : Nat) (A8 : Option Addr) (c8 : Nat), k ≤ j ∧ i = .int .i64 k ∧ v = .slice A8 (obs (os.drop k)).length c8 ∧ RB wx A8 (obs (os.drop k)).length c8 (obs (os.drop k)) ∧ OS wx A j c os ∧ Below w.heap.size w wx) (fun _ i _ => j - (intOf i).toNat)
      case atStart => exact ⟨0, A2, c2, Nat.zero_le _, rfl, rfl, r7, h7, b8⟩
      case round =>
        obtain ⟨k, A8, c8, hk, rfl, rfl, hr8, hos, hbx⟩ := hrel
        clear r7 h7 b8
        by_cases hkj : k < j
        · obtain ⟨b, o, rfl, hc⟩ := hos.at_ hkj
          have hok := hos.ok hkj
          have hxr := all_at HGOOD.out (j := k) (by rw [HLN.out]; exact hkj)
          have HDK := Lib.hid (HD.out k hkj)
          have h245 := HLEN.out k
          have h246 := HLEN.out (k + 1)
          rw [HDK.out] at hr8 h245 ⊢
          generalize os.getD k (zK 0) = x at *
          generalize hRK : obs (os.drop (k + 1)) = R at *
          have HRK := Lib.hid hRK
          clear hRK
          have HGT := Lib.hid (getR_told hok hxr R)
          have HE := Lib.hid (eqO_same x)
          have HG : Hid (∀ W, RB W A8 (ob x ++ R).length c8 (ob x ++ R) → Calls Try.prog 14 #[.slice A8 (ob x ++ R).length c8] W (GetMade W (x, R, 0))) := Lib.hid (fun W hW => by
            have := Get_any A8 _ c8 _ W hW (by omega)
            rw [HGT.out] at this
            exact this)
          generalize (ob x ++ R).length = m at *
          generalize ob x ++ R = Z at *
          clear hxr
          go_wp2_with (first
            | ((with_reducible refine wpList_here ?_); refine wpList_loadV (o := ⟨some 67, _, _, _, _, _⟩) rfl 31 (.tmp 66) rfl b _ x.vals rfl hc _ Try.underlying31 rfl infoOpt ?_)
            | ((with_reducible refine wpList_here ?_); refine wpList_allocV (o := ⟨some 10, _, _, _, _, _⟩) rfl 31 rfl (zK 0).vals zeroOpt _ rfl ?_; intro w9 z9 d9 s9)
            | ((with_reducible refine wpList_here ?_); refine wpList_storeV rfl 31 (.tmp 10) (.tmp 67) rfl _ _ x.vals rfl rfl z9 rfl (vals_one x) infoOpt ?_; intro w10 z10 g10 s10))
          have d10 := v_below_g d9 g10 d9.size (Nat.le_refl _)
          have r10 := hr8.below d10
          have o10 := hos.below d10
          have b10 := below_trans hbx d10
          clear z9 d9 g10 s9 s10 hc hr8 hos hbx d10
          refine (HG.out _ r10).mono ?_
          rintro e w11 ⟨A11, c11, rfl, r11, b11⟩
          have z11 := z10.below b11
          have o11 := o10.below b11
          have b12 := below_trans b10 b11
          clear z10 r10 o10 b10 b11 HG
          dsimp only at r11 ⊢
          go_wp2_with (first
            | ((with_reducible refine wpList_here ?_); refine wpList_allocV (o := ⟨some 11, _, _, _, _, _⟩) rfl 31 rfl (zK 0).vals zeroOpt _ rfl ?_; intro w12 z12 d12 s12)
            | ((with_reducible refine wpList_here ?_); refine wpList_storeV rfl 31 (.tmp 11) (.tmp 71) rfl _ _ x.vals rfl rfl z12 rfl (vals_one x) infoOpt ?_; intro w13 z13 g13 s13
               have d13 := v_below_g d12 g13 d12.size (Nat.le_refl _)
               have y13 := z11.below d13)
            | ((with_reducible refine wpList_here ?_); refine wpList_loadV (o := ⟨some 77, _, _, _, _, _⟩) rfl 31 (.tmp 11) rfl _ _ x.vals rfl z13.range _ Try.underlying31 rfl infoOpt ?_)
            | ((with_reducible refine wpList_here ?_); refine wpList_loadV (o := ⟨some 78, _, _, _, _, _⟩) rfl 31 (.tmp 10) rfl _ _ x.vals rfl y13.range _ Try.underlying31 rfl infoOpt ?_)
            | ((with_reducible refine wpList_here ?_); refine wpList_neqO (o := ⟨some 79, _, _, _, _, _⟩) rfl (.tmp 77) (.tmp 78) _ rfl x x rfl rfl ?_; rw [HE.out, Bool.not_true]))
          go_roundw
          case rel => exact ⟨k + 1, A11, c11, by omega, by go_num, by rw [HRK.out], by rw [HRK.out]; exact r11.below d13, o11.below d13, below_trans b12 d13⟩
          case measure => simp [intOf]; omega
        · obtain rfl : k = j := by omega
          have e2 : obs (os.drop k) = [] := by rw [List.drop_eq_nil_of_le (by rw [HLN.out]; exact Nat.le_refl _)]; rfl
          rw [e2]
          go_wp2_with fail
          go_ret
          exact ⟨rfl, hbx⟩

set_option maxRecDepth 8000 in
set_option maxHeartbeats 800000 in
theorem LawPuts_any (A : Option Addr) (n c : Nat) (os : List Opt) (w : World) (h : OS w A n c os) :
    Calls Try.prog 3 #[.slice A n c] w (Held w) := by
  have hmx := h.max
  have hcp := h.cap
  by_cases hn : 50 < n
  · go_enter Try.func3, Try.ntmps3
    go_wp2_with fail
    refine (wakes_any _).mono ?_
    rintro e w1 ⟨rfl, b1⟩
    go_wp2_with fail
    go_ret
    exact ⟨rfl, b1⟩
  · cases hall : os.all rightB with
    | true => exact Puts_good A n c os w h hn hall
    | false => exact Puts_bad A n c os w h hn hall
end Go.Proofs.Ytcofkdcjcckdfaa

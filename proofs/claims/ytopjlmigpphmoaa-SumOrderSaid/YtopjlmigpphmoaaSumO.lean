/- The walk of the law SumOrder: for every argument it returns true, and writes nothing that was there. -/
import Derived.Test.YtopjlmigpphmoaaSumW
import Derived.Test.YtopjlmigpphmoaaInt
import Derived.Test.YtopjlmigpphmoaaStepA
import Derived.Deep.RegionHeld3
import Derived.BigRegion
namespace Go.Proofs.Ytopjlmigpphmoaa
set_option linter.unusedVariables false
open Go.RowKit

theorem infoWord : (Try.prog.info? 26).map (fun i => (i.zero, i.size, i.bytes)) = some (some (.int .u16 0), 1, 2) := by kernel_rfl

/-- Two rows of bytes of the call's own, in two places. -/
def Two (base : Nat) (e : TypeId) (w : World) (v u : Value) (n : Nat) (l r : List UInt8) (m : Nat) : Prop :=
  w.ownsRow base e 1 v n (bv l) ∧ w.ownsRow base e 1 u m (bv r) ∧ ∀ b, v.ownBlock = some b → u.ownBlock ≠ some b
theorem own_other {w w' : World} {base : Nat} {e : TypeId} {n : Nat} {v : Value} {xs : List Value} {row : Option Nat} (h : w.ownsRow base e 1 v n xs) (hg : w.grownBy w' row) (hr : ∀ b, v.ownBlock = some b → row ≠ some b) : w'.ownsRow base e 1 v n xs := by
  refine ⟨h.1, ?_⟩
  rcases h.2 with hn | ⟨g, cap, cur, rfl, h1, hg2, rest⟩
  · exact .inl hn
  · exact .inr ⟨g, cap, cur, rfl, h1, (hg.block g (Array.getElem?_eq_some_iff.1 hg2).1 (fun e => hr g rfl e.symm)).trans hg2, rest⟩
theorem Two.after {base : Nat} {e : TypeId} {w : World} {v u : Value} {n m : Nat} {l r : List UInt8} (h : Two base e w v u n l r m) (o : Obj) : Two base e (w.alloc o).drew v u n l r m :=
  ⟨(h.1.alloc o).drew, (h.2.1.alloc o).drew, h.2.2⟩
theorem Two.left {base : Nat} {e : TypeId} {w w' : World} {v v' u : Value} {n n' m : Nat} {l l' r : List UInt8} (h : Two base e w v u n l r m) (h1 : w'.ownsRow base e 1 v' n' (bv l')) (hg : w.grownBy w' v.ownBlock)
    (ha : v'.ownBlock = v.ownBlock ∨ v'.ownBlock = some w.heap.size) : Two base e w' v' u n' l' r m := by
  refine ⟨h1, own_other h.2.1 hg fun b hb hv => h.2.2 b hv hb, fun b hb hu => ?_⟩
  rcases ha with ha | ha
  · exact h.2.2 b (ha ▸ hb) hu
  · have := (h.2.1.lt b hu).2
    rw [ha] at hb
    injection hb with hb
    omega
theorem Two.right {base : Nat} {e : TypeId} {w w' : World} {v u' u : Value} {n n' m : Nat} {l r' r : List UInt8} (h : Two base e w v u n l r m) (h1 : w'.ownsRow base e 1 u' n' (bv r')) (hg : w.grownBy w' u.ownBlock)
    (ha : u'.ownBlock = u.ownBlock ∨ u'.ownBlock = some w.heap.size) : Two base e w' v u' n l r' n' := by
  refine ⟨own_other h.1 hg fun b hb hv => h.2.2 b hb hv, h1, fun b hb hu => ?_⟩
  rcases ha with ha | ha
  · exact h.2.2 b hb (ha ▸ hu)
  · have := (h.1.lt b hb).2
    rw [ha] at hu
    injection hu with hu
    omega

theorem u16_at {zs : List Int} (h : ∀ z ∈ zs, (Lit.int .u16 z).wf = true) (j : Nat) : 0 ≤ zs.getD j 0 ∧ zs.getD j 0 ≤ 65535 := by
  rcases Nat.lt_or_ge j zs.length with hj | hj
  · have := bounds_u16 (h (zs.getD j 0) (by simp [hj]))
    omega
  · simp [hj]

theorem set_bd {l : List Int} (h : ∀ j, 0 ≤ l.getD j 0 ∧ l.getD j 0 ≤ 65535) (i : Nat) {x : Int} (hx : 0 ≤ x ∧ x ≤ 65535) (j : Nat) : 0 ≤ (l.set i x).getD j 0 ∧ (l.set i x).getD j 0 ≤ 65535 := by
  have hj := h j
  simp only [List.getD_eq_getElem?_getD, List.getElem?_set] at hj ⊢
  split
  · split
    · exact hx
    · simp
  · exact hj
/-- A literal of a number's two bytes. -/
theorem RB.two (w : World) (t : TypeId) {z : Int} (h : 0 ≤ z ∧ z ≤ 65535) : RB (w.alloc (.cells #[.int .u8 (IntKind.u8.wrap (z / 256)), .int .u8 (IntKind.u8.wrap z)] t)) (some ⟨w.heap.size, 0, none⟩) 2 2 (be z.toNat 2) := by
  rw [be_two, IntKind.wrap_u8, IntKind.wrap_u8]
  exact RB.lit2 w _ _ _ _ t (by rw [UInt8.toNat_ofNat']; omega) (by rw [UInt8.toNat_ofNat']; omega)
theorem of_pz (zs ms : List Int) (n i k : Nat) (zi zk : Int) (hn : zs.length = n) (hm : ms.length = n) (hz : ∀ j, 0 ≤ zs.getD j 0 ∧ zs.getD j 0 ≤ 65535) (hi : i < n) (hk : k < n) (ei : zs.getD i 0 = zi) (ek : zs.getD k 0 = zk)
    (e : (zs.set i zk).set k zi = ms) : of (pairs ((ms.take n).map Int.toNat)) = of (pairs ((zs.take n).map Int.toNat)) := by
  have hg : ∀ i, i < n → (zs.map Int.toNat).getD i 0 = (zs.getD i 0).toNat := by
    intro i hi
    simp [show i < zs.length from by omega]
  rw [List.take_of_length_le (by omega), List.take_of_length_le (by omega), ← of_swap (zs.map Int.toNat) i k _ (by simpa [hn] using hi) (by simpa [hn] using hk), ← e, List.map_set, List.map_set, swap, hg i hi, hg k hk, ei, ek]
  intro z hzm
  obtain ⟨x, hx, rfl⟩ := List.mem_map.1 hzm
  obtain ⟨q, hq, rfl⟩ := List.getElem_of_mem hx
  have := hz q
  simp [hq] at this
  omega

/-- Numbers of 16 bits, as bytes. -/
def pz (zs : List Int) (j : Nat) : List UInt8 := pairs ((zs.take j).map Int.toNat)
theorem pz_step (zs : List Int) (j : Nat) (h : j < zs.length) : pz zs (j + 1) = pz zs j ++ be (zs.getD j 0).toNat 2 := by
  unfold pz
  rw [List.take_succ_eq_append_getElem h, List.map_append, List.map_singleton, pairs_snoc]
  simp [h]

set_option maxRecDepth 100000 in
set_option maxHeartbeats 1600000 in
theorem Order_any (A : Option Addr) (n c a b : Nat) (zs : List Int) (w : World) (h : RI .u16 w A n c zs) (hz : ∀ z ∈ zs, (Lit.int .u16 z).wf = true) (ha : a < 256) (hb : b < 256) :
    Calls Try.prog 6 #[.slice A n c, .int .u8 (a : Int), .int .u8 (b : Int)] w (Held w) := by
  have hmx := h.max
  have hcp := h.cap
  have HL := Lib.hid h.len
  by_cases hn : 200 < n
  · have hn0 : ((n : Int) == 0) = false := by rw [beq_eq_false_iff_ne]; omega
    go_enter Try.func6, Try.ntmps6
    go_wp2_with (go_at_call 8; refine (wakes_any _).mono ?_; rintro e w1 ⟨rfl, hb1⟩)
    go_ret
    exact ⟨rfl, hb1⟩
  · rcases Nat.eq_zero_or_pos n with h0 | h0
    · subst h0
      go_enter Try.func6, Try.ntmps6
      go_wp2_with (go_at_call 8; refine (wakes_any _).mono ?_; rintro e w1 ⟨rfl, hb1⟩)
      go_ret
      exact ⟨rfl, hb1⟩
    · have hn0 : ((n : Int) == 0) = false := by rw [beq_eq_false_iff_ne]; omega
      have hi : a % n < n := Nat.mod_lt _ h0
      have hk : b % n < n := Nat.mod_lt _ h0
      have hnz : ¬ ((n : Int) = 0) := by omega
      have hia : IntKind.i64.wrap ((a : Int).tmod (n : Int)) = ((a % n : Nat) : Int) := by
        rw [Int.tmod_eq_emod_of_nonneg (by omega)]
        exact IntWalk.i64_in _ (by have := Int.emod_nonneg (a : Int) hnz; have := Int.emod_lt_of_pos (a : Int) (b := (n : Int)) (by omega); omega)
      have hkb : IntKind.i64.wrap ((b : Int).tmod (n : Int)) = ((b % n : Nat) : Int) := by
        rw [Int.tmod_eq_emod_of_nonneg (by omega)]
        exact IntWalk.i64_in _ (by have := Int.emod_nonneg (b : Int) hnz; have := Int.emod_lt_of_pos (b : Int) (b := (n : Int)) (by omega); omega)
      go_enter Try.func6, Try.ntmps6
      go_wp2_with fail
      refine (wakes_any _).mono ?_
      rintro e w1 ⟨rfl, hb1⟩
      have r1 := h.below hb1
      clear h
      go_wp2_with (at_builtin; refine wpList_appi_lit rfl (.tmp 23) (.tmp 24) .u16 33 26 2 rfl Try.underlying33 infoWord (by decide) rfl A n c zs rfl r1 (by omega) ?_; intro A2 c2 w2 r2 o2 s2)
      go_quiet (fail)
      rw [show (a : Int) % (n : Int) = ((a % n : Nat) : Int) from rfl, show (b : Int) % (n : Int) = ((b % n : Nat) : Int) from rfl]
      obtain ⟨g, cap, hv, hg, hcap, hcap2, hcells⟩ := owni_at (w := w2.drewN nq) (show (w2.drewN nq).ownsRow w1.heap.size 26 1 (.slice A2 n c2) n (iv .u16 zs) from o2) h0
      injection hv with e1 _ e3
      subst e1 e3
      have hci := hcells _ hi
      have hck := hcells _ hk
      have s3 : Below w1.heap.size w1 (w2.drewN nq) := below_drewN s2 nq
      have o3 : (w2.drewN nq).ownsRow w1.heap.size 26 1 (.slice (some ⟨g, 0, none⟩) n c2) n (iv .u16 zs) := o2
      clear hcells r2 o2 s2 hia hkb
      generalize a % n = i at *
      generalize b % n = k at *
      generalize w2.drewN nq = w3 at *
      obtain ⟨hci1, hci2⟩ := hci
      obtain ⟨hck1, hck2⟩ := hck
      have hz' : ∀ j, 0 ≤ zs.getD j 0 ∧ zs.getD j 0 ≤ 65535 := u16_at hz
      have hzi := hz' i
      have hzk := hz' k
      generalize ei : zs.getD i 0 = zi at *
      generalize ek : zs.getD k 0 = zk at *
      have EI := Lib.hid ei
      have EK := Lib.hid ek
      clear ei ek hz
      have hi' : (i : Int) < (n : Int) := by omega
      have hk' : (k : Int) < (n : Int) := by omega
      obtain ⟨v1, hy1⟩ := cell?_setCell_some (w := w3) (p := ⟨g, i, none⟩) (x := .int .u16 zk) (q := ⟨g, k, none⟩) hck1
      obtain ⟨v2, hy2⟩ := cell?_setCell_some (w := w3.drew) (p := ⟨g, i, none⟩) (x := .int .u16 zk) (q := ⟨g, k, none⟩) hck1
      have o4 := owni_set (j := k) (x := zi) (owni_set (j := i) (x := zk) o3)
      have b4 := (s3.setCell (p := ⟨g, i, none⟩) hg (.int .u16 zk)).setCell (p := ⟨g, k, none⟩) hg (.int .u16 zi)
      go_wp2_with fail
      go_region
      generalize (w3.setCell ⟨g, i, none⟩ (.int .u16 zk)).setCell ⟨g, k, none⟩ (.int .u16 zi) = w4 at *
      have b5 : Below w1.heap.size w1 w4.drew := b4.drew
      obtain ⟨A5, c5, hv5, r5, _⟩ := RI.of_own (w := w4.drew) (show w4.drew.ownsRow w1.heap.size 26 1 (.slice (some ⟨g, 0, none⟩) n c2) n (iv .u16 ((zs.set i zk).set k zi)) from o4)
      injection hv5 with e1 _ e3
      subst e1 e3
      have r6 := r1.below b5
      have hb5 := below_trans hb1 b5
      generalize w4.drew = w5 at *
      generalize hms : (zs.set i zk).set k zi = ms at *
      have HMS := Lib.hid hms
      have hm' : ∀ j, 0 ≤ ms.getD j 0 ∧ ms.getD j 0 ≤ 65535 := by
        rw [← hms]
        exact set_bd (set_bd hz' i hzk) k hzi
      have HP : Hid (of (pz ms n) = of (pz zs n)) := Lib.hid (of_pz zs ms n i k zi zk HL.out r5.len hz' hi hk EI.out EK.out HMS.out)
      have HZ' := Lib.hid hz'
      have HM' := Lib.hid hm'
      clear hz' hm' hms o4 b4 o3 r1 s3 hy1 hy2 hci1 hci2 hck1 hck2 hi hk hi' hk' b5 hb1
      go_wp2_with fail
      go_loopw [10, 11, 52] (fun x y i wr => ∃ j : Nat, j ≤ n ∧ i = .int .i64 j ∧ Two w5.heap.size 5 wr x y (2 * j) (pz zs j) (pz ms j) (2 * j) ∧ Below w5.heap.size w5 wr) (fun _ _ i _ => n - (intOf i).toNat)
      case atStart => exact ⟨0, Nat.zero_le _, rfl, ⟨World.ownsRow_nil _ _ _ _, World.ownsRow_nil _ _ _ _, fun b h => by cases h⟩, Below.refl _ _⟩
      case round =>
        obtain ⟨j, hj, rfl, h2, hb⟩ := hrel
        by_cases hlt : j < n
        · have hlt' : (j : Int) < (n : Int) := by omega
          have q6 := r6.below hb
          have q5 := r5.below hb
          have HZ := Lib.hid (pz_step zs j (by rw [HL.out]; exact hlt))
          have HY := Lib.hid (pz_step ms j (by rw [q5.len]; exact hlt))
          have hzb := HZ'.out j
          have hyb := HM'.out j
          obtain ⟨b', o', rfl, hc6⟩ := q6.at_ hlt
          have lb6 := World.block_lt_of_cell? wr _ hc6
          have hb6' : b' < w5.heap.size := World.block_lt_of_cell? w5 _ (r6.cell hlt)
          have n6 : u10.ownBlock ≠ some b' := fun e => by have := (h2.1.lt _ e).1; omega
          clear q5 q6
          generalize zs.getD j 0 = z at *
          go_wp2_with fail
          go_region_held3 (fun w' => w'.cell? ⟨b', o' + j, none⟩ = some (.int .u16 z)) (first
              | go_keep
              | (rw [hgrow.cell_far _ (by simp; omega) (Ne.symm n6)]; assumption))
            ((refine step_app _ (by rfl) _ _ _ _ (by rfl) Try.underlying24 infoByte w5.heap.size _ _ _ (by rfl) ((h2.1.alloc _).drew) _ 2 2 (be z.toNat 2) (by rfl) (RB.two wr _ hzb).drew ?_ ?_ ?_; (first | omega | skip); (first | (simp; have := hb.size; omega) | skip); intro v' w6 hown' hgrow hat))
          have h3 := (h2.after _).left hown' hgrow hat
          have hb6 := below_grown ((hb.alloc hb.size _).drew) (h2.after _).1 hgrow
          rw [← HZ.out] at h3
          have q7 := r5.below hb6
          have hc7 := q7.cell hlt
          rw [Nat.zero_add] at hc7
          have lb7 := World.block_lt_of_cell? w6 _ hc7
          have hb7' : g < w5.heap.size := World.block_lt_of_cell? w5 _ (r5.cell hlt)
          have n7 : u11.ownBlock ≠ some g := fun e => by have := (h3.2.1.lt _ e).1; omega
          clear q7 h2 hgrow hown' hat hc6 lb6 n6
          generalize ms.getD j 0 = y at *
          go_wp2_with fail
          go_region_held3 (fun w' => w'.cell? ⟨g, j, none⟩ = some (.int .u16 y)) (first
              | go_keep
              | (rw [hgrow.cell_far _ (by simp; omega) (Ne.symm n7)]; assumption))
            ((refine step_app _ (by rfl) _ _ _ _ (by rfl) Try.underlying24 infoByte w5.heap.size _ _ _ (by rfl) ((h3.2.1.alloc _).drew) _ 2 2 (be y.toNat 2) (by rfl) (RB.two w6 _ hyb).drew ?_ ?_ ?_; (first | omega | skip); (first | (simp; have := hb6.size; omega) | skip); intro v'' w8 hown' hgrow hat))
          have h4 := (h3.after _).right hown' hgrow hat
          have hb8 := below_grown ((hb6.alloc hb6.size _).drew) (h3.after _).2.1 hgrow
          rw [← HY.out] at h4
          clear h3 hgrow hown' hat hc7 lb7 n7
          go_wp2
          go_roundw
          case rel => exact ⟨j + 1, by omega, by go_num, by rw [show 2 * (j + 1) = 2 * j + 2 from by omega]; exact h4, hb8⟩
          case measure => simp [intOf]; omega
        · obtain rfl : j = n := by omega
          obtain ⟨A7, c7, rfl, r7, _⟩ := RB.of_own h2.1
          obtain ⟨A8, c8, rfl, r8, _⟩ := RB.of_own h2.2.1
          have hb7 := below_trans hb5 hb
          clear h2 hb hb5
          go_wp2_with fail
          refine (Of_one (by simp) r7 (by omega)).mono ?_
          rintro e w' ⟨rfl, rfl⟩
          go_wp2_with fail
          refine (Of_one (by simp) (r8.alloc _) (by omega)).mono ?_
          rintro e w' ⟨rfl, rfl⟩
          rw [HP.out]
          generalize of (pz zs j) = s at *
          go_wp2
          go_ret
          exact ⟨rfl, (hb7.alloc hb7.size _).alloc (by have := hb7.size; simp; omega) _⟩
end Go.Proofs.Ytopjlmigpphmoaa

/- The contracts of long, fit and told: how many bytes fields have, whether what stands in them fits, and what they tell. Conditions: the slice holds an option's fields. -/
import Derived.Test.YtbbpemndkphgeaaDoorOptG
import Derived.Test.YtbbpemndkphgeaaDoorOptS
import Derived.Test.YtbbpemndkphgeaaDoorPut
namespace Go.Proofs.YtbbpemndkphgeaaDoor
set_option linter.unusedVariables false
set_option linter.unusedSimpArgs false
open Go.RowKit

theorem zeroField : (Tryd.prog.info? 85).map (·.zero) = some (some (.agg [Value.nilIface, Value.int .i64 0].toArray)) := by kernel_rfl
/-- The field in place j. -/
def at2 (l : List (Nat × Nat)) (j : Nat) : Nat × Nat := l.getD j (0, 0)
theorem at2_mem {l : List (Nat × Nat)} {j : Nat} (h : j < l.length) : at2 l j ∈ l := by
  unfold at2
  simp [List.getD_eq_getElem?_getD, List.getElem?_eq_getElem h]
theorem take_at2 {l : List (Nat × Nat)} {j : Nat} (h : j < l.length) : l.take (j + 1) = l.take j ++ [at2 l j] := by
  rw [List.take_succ_eq_append_getElem h]
  simp [at2, List.getD_eq_getElem?_getD, List.getElem?_eq_getElem h]
theorem long_append (a b : List (Nat × Nat)) : long (a ++ b) = long a + long b := by simp [long]
theorem long_one (f : Nat × Nat) : long [f] = f.2 := by simp [long]
theorem long_le {l : List (Nat × Nat)} (h : ∀ f ∈ l, f.2 ≤ 8) : long l ≤ 8 * l.length := by
  induction l with
  | nil => simp [long]
  | cons f r ih =>
    have h1 := ih fun f hf => h f (List.mem_cons_of_mem _ hf)
    have h2 := h f (List.mem_cons_self ..)
    have : long (f :: r) = f.2 + long r := by simp [long]
    simp only [List.length_cons]
    omega
theorem Fine.wide {l : List (Nat × Nat)} (h : Fine l) {j : Nat} (hj : j < l.length) : spot (at2 l j).1 ∧ 1 ≤ (at2 l j).2 ∧ (at2 l j).2 ≤ 8 := h.1 _ (at2_mem hj)
theorem Fine.long {l : List (Nat × Nat)} (h : Fine l) (k : Nat) : long (l.take k) ≤ 48 := by
  have h1 := long_le (l := l.take k) fun f hf => (h.1 f (List.mem_of_mem_take hf)).2.2
  have h2 : (l.take k).length ≤ 6 := Nat.le_trans (List.length_take_le' ..) h.2.1
  omega

set_option maxRecDepth 8000 in
set_option maxHeartbeats 1600000 in
theorem long_any (A : Option Addr) (n c g : Nat) (l : List (Nat × Nat)) (w : World) (h : FL w A n c g l) (hl : Fine l) :
    Calls Tryd.prog 64 #[.slice A n c] w fun e w' => e = .returned (.int .i64 (long l : Nat)) ∧ Below w.heap.size w w' := by
  have hmx := h.max
  have hcp := h.cap
  have HLN := Lib.hid h.len
  have h48 := hl.long
  go_enter Tryd.func64, Tryd.ntmps64
  go_wp2_with fail
  go_loopw [3, 8] (fun v i wr => ∃ j : Nat, j ≤ n ∧ i = .int .i64 j ∧ v = .int .i64 (long (l.take j) : Nat) ∧ Below w.heap.size w wr) (fun _ i _ => n - (intOf i).toNat)
  case atStart => exact ⟨0, Nat.zero_le _, rfl, rfl, Below.refl _ _⟩
  case round =>
    obtain ⟨j, hj, rfl, rfl, hb⟩ := hrel
    by_cases hlt : j < n
    · obtain ⟨b, o, rfl, hc0⟩ := h.at_ hlt
      have hc : wr.rangeAt b (o + j * 2) (fv g (at2 l j)) := range_below hc0 hb
      have hw := hl.wide (j := j) (by rw [HLN.out]; exact hlt)
      have hT := h48 j
      have HS := Lib.hid (show long (l.take (j + 1)) = long (l.take j) + (at2 l j).2 from by rw [take_at2 (by rw [HLN.out]; exact hlt), long_append, long_one])
      clear h hc0 h48
      generalize long (l.take j) = x at *
      generalize at2 l j = f at *
      go_wp2_with (first
        | ((with_reducible refine wpList_here ?_); refine wpList_loadV rfl 85 (.tmp 10) rfl b _ (fv g f) rfl hc _ Tryd.underlying85 rfl infoField ?_)
        | ((with_reducible refine wpList_here ?_); refine wpList_allocV rfl 85 rfl _ zeroField _ rfl ?_; intro w1 z1 b1 s1)
        | ((with_reducible refine wpList_here ?_); refine wpList_storeV rfl 85 (.tmp 5) (.tmp 11) rfl _ _ (fv g f) rfl rfl z1 rfl (fv_one g f) infoField ?_; intro w2 z2 g2 s2; have k2 : w2.cell? ⟨wr.heap.size, 1, none⟩ = some (.int .i64 (f.2 : Int)) := (z2 1 (Nat.succ_lt_succ (Nat.zero_lt_succ _))).1))
      have hb2 := v_below_g (below_trans hb b1) g2 (by have := hb.size; omega) hb.size
      go_roundw
      case rel => exact ⟨j + 1, by omega, by go_num, by rw [HS.out]; go_num, hb2⟩
      case measure => simp [intOf]; omega
    · obtain rfl : j = n := by omega
      have HE := Lib.hid (show l.take j = l from List.take_of_length_le (by rw [HLN.out]; exact Nat.le_refl _))
      go_wp2_with fail
      go_ret
      rw [HE.out]
      exact ⟨rfl, hb⟩

/-- What stands in each world of a round: the option, the field, and all that was there. -/
def Rst (w W : World) (g q : Nat) (o : Opt) (f : Nat × Nat) : Prop := Own W g o.vals ∧ Own W q (fv g f) ∧ Below w.heap.size w W
theorem Rst.keep {w W W' : World} {g q : Nat} {o : Opt} {f : Nat × Nat} (h : Rst w W g q o f) (hb : Below W.heap.size W W') : Rst w W' g q o f :=
  ⟨h.1.below hb, h.2.1.below hb, below_trans h.2.2 hb⟩
theorem Rst.c0 {w W : World} {g q : Nat} {o : Opt} {f : Nat × Nat} (h : Rst w W g q o f) : W.cell? ⟨q, 0, none⟩ = some (.iface (pt f.1) (.pointer (some ⟨g, f.1, none⟩))) := (h.2.1 0 (Nat.zero_lt_succ _)).1
theorem Rst.c1 {w W : World} {g q : Nat} {o : Opt} {f : Nat × Nat} (h : Rst w W g q o f) : W.cell? ⟨q, 1, none⟩ = some (.int .i64 (f.2 : Int)) := (h.2.1 1 (Nat.succ_lt_succ (Nat.zero_lt_succ _))).1

theorem shr_run (x wd : Nat) (h1 : 1 ≤ wd) (h8 : wd ≤ 8) (W : World) : (Op.shift .shr .u64 (x : Int) .i64 (IntKind.i64.wrap (8 * (wd : Int)))).run Tryd.prog W = .ok (.int .u64 ((x / 256 ^ wd : Nat) : Int)) W := by
  have e1 : IntKind.i64.wrap (8 * (wd : Int)) = ((8 * wd : Nat) : Int) := by
    have := IntWalk.i64_in (8 * (wd : Int)) (by omega)
    rw [this]
    omega
  have e2 : (256 : Nat) ^ wd = 2 ^ (8 * wd) := by rw [Nat.pow_mul]
  have e3 : min (((8 * wd : Nat) : Int).toNat) IntKind.u64.bits = 8 * wd := by simp [IntKind.bits]; omega
  rw [e1, e2]
  simp only [Op.shift, e3]
  rw [if_neg (by omega)]
  simp only [Sem.run_pure]
  rw [Int.fdiv_eq_ediv_of_nonneg _ (by exact Int.le_of_lt (Int.pow_pos (by omega)))]
  simp
theorem fitB_append (o : Opt) (a b : List (Nat × Nat)) : fitB o (a ++ b) = (fitB o a && fitB o b) := by simp [fitB]
theorem fitB_one (o : Opt) (f : Nat × Nat) : fitB o [f] = decide (o.num f.1 < 256 ^ f.2) := by simp [fitB]

set_option maxRecDepth 8000 in
set_option maxHeartbeats 1600000 in
theorem fit_any (A : Option Addr) (n c g : Nat) (l : List (Nat × Nat)) (o : Opt) (w : World) (h : FL w A n c g l) (hl : Fine l) (ho : Own w g o.vals) (hok : o.ok) :
    Calls Tryd.prog 54 #[.slice A n c] w fun e w' => e = .returned (.bool (fitB o l)) ∧ Below w.heap.size w w' := by
  have hmx := h.max
  have hcp := h.cap
  have HLN := Lib.hid h.len
  go_enter Tryd.func54, Tryd.ntmps54
  go_wp2_with fail
  go_loopw [7] (fun i wr => ∃ j : Nat, j ≤ n ∧ i = .int .i64 j ∧ fitB o (l.take j) = true ∧ Below w.heap.size w wr) (fun i _ => n - (intOf i).toNat)
  case atStart => exact ⟨0, Nat.zero_le _, rfl, rfl, Below.refl _ _⟩
  case round =>
    obtain ⟨j, hj, rfl, hfit, hb⟩ := hrel
    have HFIT := Lib.hid hfit
    clear hfit
    by_cases hlt : j < n
    · obtain ⟨b, a, rfl, hc0⟩ := h.at_ hlt
      have hc : wr.rangeAt b (a + j * 2) (fv g (at2 l j)) := range_below hc0 hb
      have hw := hl.wide (j := j) (by rw [HLN.out]; exact hlt)
      have HS := Lib.hid (show l.take (j + 1) = l.take j ++ [at2 l j] from take_at2 (by rw [HLN.out]; exact hlt))
      have hx := num_lt64 hok hw.1
      have ho1 := ho.below hb
      clear h hc0
      generalize at2 l j = f at *
      go_wp2_with (first
        | ((with_reducible refine wpList_here ?_); refine wpList_loadV rfl 85 (.tmp 9) rfl b _ (fv g f) rfl hc _ Tryd.underlying85 rfl infoField ?_)
        | ((with_reducible refine wpList_here ?_); refine wpList_allocV rfl 85 rfl _ zeroField _ rfl ?_; intro w1 z1 b1 s1)
        | ((with_reducible refine wpList_here ?_); refine wpList_storeV rfl 85 (.tmp 4) (.tmp 10) rfl _ _ (fv g f) rfl rfl z1 rfl (fv_one g f) infoField ?_; intro w2 z2 g2 s2))
      have hb2 := v_below_g (below_trans hb b1) g2 (by have := hb.size; omega) hb.size
      have ho2 := (ho1.below b1).far g2 (by intro e; injection e with e; have := ho1.lt (Nat.zero_lt_succ _); omega)
      have h0 : Rst w w2 g wr.heap.size o f := ⟨ho2, z2, hb2⟩
      have h1 := h0.c0
      have h2 := h0.c1
      have hs1 := hw.1
      have hsh := fun W => shr_run (o.num f.1) f.2 hw.2.1 hw.2.2 W
      have HN := Lib.hid (fun W h => number_any g f o W h hok hs1)
      have HQ : Hid (o.num f.1 < 256 ^ f.2 ↔ o.num f.1 / 256 ^ f.2 = 0) := Lib.hid (by rw [Nat.div_eq_zero_iff]; have : 0 < 256 ^ f.2 := Nat.pow_pos (by omega); omega)
      generalize o.num f.1 / 256 ^ f.2 = q at *
      by_cases hq : q = 0
      · subst hq
        have HQ2 := Lib.hid (HQ.out.2 rfl)
        clear hc ho1 z1 b1 g2 ho2 z2 hb2 s1 s2 HQ
        go_region_held3 (fun W => W.cell? ⟨wr.heap.size, 0, none⟩ = some (.iface (pt f.1) (.pointer (some ⟨g, f.1, none⟩))) ∧ W.cell? ⟨wr.heap.size, 1, none⟩ = some (.int .i64 (f.2 : Int)) ∧ Rst w W g wr.heap.size o f)
          (first
            | exact ⟨h0.c0, h0.c1, h0⟩
            | exact ⟨h3.c0, h3.c1, h3⟩
            | exact ⟨(h0.keep (Below.refl _ _).drew).c0, (h0.keep (Below.refl _ _).drew).c1, h0.keep (Below.refl _ _).drew⟩)
          (first | (go_at_call 57; refine (HN.out _ (h0.keep (Below.refl _ _).drew).1).mono ?_; rintro e w9 ⟨rfl, b9⟩; have h3 := (h0.keep (Below.refl _ _).drew).keep b9))
        go_wp2_with fail
        go_roundw
        case rel => exact ⟨j + 1, by omega, by go_num, by rw [HS.out, fitB_append, HFIT.out, fitB_one, decide_eq_true HQ2.out]; rfl, h3.2.2⟩
        case measure => simp [intOf]; omega
      · have hq1 : ((q : Int) != 0) = true := by simp; omega
        have HQ2 := Lib.hid (fun e => hq (HQ.out.1 e))
        clear hc ho1 z1 b1 g2 ho2 z2 hb2 s1 s2 HQ hq
        go_region_held3 (fun W => W.cell? ⟨wr.heap.size, 0, none⟩ = some (.iface (pt f.1) (.pointer (some ⟨g, f.1, none⟩))) ∧ W.cell? ⟨wr.heap.size, 1, none⟩ = some (.int .i64 (f.2 : Int)) ∧ Rst w W g wr.heap.size o f)
          (first
            | exact ⟨h0.c0, h0.c1, h0⟩
            | exact ⟨h3.c0, h3.c1, h3⟩
            | exact ⟨(h0.keep (Below.refl _ _).drew).c0, (h0.keep (Below.refl _ _).drew).c1, h0.keep (Below.refl _ _).drew⟩)
          (first | (go_at_call 57; refine (HN.out _ (h0.keep (Below.refl _ _).drew).1).mono ?_; rintro e w9 ⟨rfl, b9⟩; have h3 := (h0.keep (Below.refl _ _).drew).keep b9))
        go_wp2_with fail
        go_ret
        refine ⟨?_, h3.2.2⟩
        have e : fitB o l = false := by
          cases hc : fitB o l with
          | false => rfl
          | true =>
            exfalso
            have h5 : fitB o (l.take (j + 1)) = true := by
              have := List.all_eq_true.1 hc
              exact List.all_eq_true.2 fun x hx => this x (List.mem_of_mem_take hx)
            rw [HS.out, fitB_append, fitB_one, Bool.and_eq_true] at h5
            exact HQ2.out (of_decide_eq_true h5.2)
        rw [e]
        rfl
    · obtain rfl : j = n := by omega
      have HE := Lib.hid (show l.take j = l from List.take_of_length_le (by rw [HLN.out]; exact Nat.le_refl _))
      go_wp2_with fail
      go_ret
      refine ⟨?_, hb⟩
      have := HFIT.out
      rw [HE.out] at this
      rw [this]
      rfl
end Go.Proofs.YtbbpemndkphgeaaDoor

/- A copy of runs; runs put in the order of their beginnings, over the library's sort; a set's New. Conditions: the slice holds runs, at most 2^40. -/
import Derived.Test.YtancbdnpmabpfaaSpG
import Derived.Test.YtancbdnpmabpfaaSpLy
import Derived.Lib.OwnBridge
import Derived.Lib.SliceRun
namespace Go.Proofs.Ytancbdnpmabpfaa
set_option linter.unusedVariables false
set_option linter.unusedSimpArgs false
open Go.RowKit Go.Shelf Go.Lib Go.Sort

/-- A copy of the runs, in memory of its own. -/
def CloneR (w : World) (l : List Rn) (e : Ending) (w' : World) : Prop := ∃ v', e = .returned v' ∧ Row w' v' l ∧ (∀ k, v'.ownBlock = some k → w.heap.size ≤ k) ∧ Below w.heap.size w w'

theorem eqNil (W : World) (A : Option Addr) (n c : Nat) : (binOp .eql 56 (.slice A n c) (.slice none 0 0)).run Try.prog W = .ok (.bool A.isNone) W := run_eql_slice_nil W 56 61 A n c 0 0 undRun

set_option maxRecDepth 20000 in
set_option maxHeartbeats 1600000 in
theorem clone_any {w : World} {v : Value} {l : List Rn} (h : Row w v l) (hU : l.length ≤ 1099511627776) : Calls Try.prog 36 #[v] w (CloneR w l) := by
  rcases h with ⟨rfl, rfl⟩ | ⟨g, o, c, cs, rfl, hb, h1, h2, h3, h4⟩
  · have HF : Hid (CloneR w [] (.returned (.slice none 0 0)) w) := Lib.hid ⟨_, rfl, .inl ⟨rfl, rfl⟩, (fun k hk => by cases hk), Below.refl _ _⟩
    have he := eqNil w none 0 0
    go_enter Try.func36, Try.ntmps36
    go_wp2_with fail
    go_ret
    exact HF.out
  · obtain ⟨W1, hW1⟩ : ∃ W1, W1 = w.alloc (.cells #[] 61) := ⟨_, rfl⟩
    have hb1 : Below w.heap.size w W1 := by rw [hW1]; exact below_a w _
    have hr4 : W1.rangeAt g o (rv l) := by rw [hW1]; exact World.rangeAt_alloc h4 _
    have hs1 : W1.heap.size = w.heap.size + 1 := by rw [hW1]; simp
    obtain ⟨i, hi, hzz⟩ := Option.map_eq_some_iff.1 infoRun
    simp only [Prod.mk.injEq] at hzz
    obtain ⟨hz, hi2, hi3⟩ := hzz
    by_cases hl : l.length = 0
    · have hnil := List.length_eq_zero_iff.1 hl
      subst hnil
      have hr : ∀ ty, (Builtin.append_ #[56, 56] ty #[.slice (some ⟨w.heap.size, 0, none⟩) 0 0, .slice (some ⟨g, o, none⟩) 0 c]).run Try.prog W1 = .ok (.slice (some ⟨w.heap.size, 0, none⟩) 0 0) W1 := fun ty => by
        simp [Builtin.append_, run_underlying undRun, sizeOf, typeInfo, hi, hi2, Builtin.lenOf, Builtin.firstCells, loadCells, loadCellsFrom, storeCells]
      have HF : Hid (CloneR w [] (.returned (.slice (some ⟨w.heap.size, 0, none⟩) 0 0)) W1) := Lib.hid ⟨_, rfl, .inr ⟨w.heap.size, 0, 0, #[], rfl, by rw [hW1]; exact heap_alloc_new w _, Nat.le_refl _, by omega, by simp, fun j v hv => by simp [rv] at hv⟩, fun k hk => Nat.le_of_eq (Option.some.inj hk), hb1⟩
      rw [hW1] at hr HF
      clear hb1 hr4 hs1 hb h4 hl
      have he := eqNil w (some ⟨g, o, none⟩) 0 c
      dsimp only [Option.isNone] at he
      go_enter Try.func36, Try.ntmps36
      go_wp2_with (at_builtin; refine Lib.wpList_append_run _ rfl _ _ _ _ rfl _ _ rfl rfl _ _ (hr _) ?_)
      go_ret
      exact HF.out
    · have hr := fun ty => run_append_grow (P := Try.prog) W1 56 ty 61 i _ undRun hi hz ⟨w.heap.size, 0, none⟩ 0 0 [] (by simp) (by simp) ⟨g, o, none⟩ l.length c (rv l) (by rw [hi2, rv_length]) (fun j v hv => by rw [Addr.add_mid]; exact hr4 j v hv) (by omega) (by omega) (growslice_fits (by omega) (by rw [hi3]; omega))
      have hge := grownCap_ge W1 (0 + l.length) 0 61
      have hle := grownCap_le_maxLen W1 (0 + l.length) 0 61 (by unfold maxLen; omega)
      unfold maxLen at hle
      rw [Nat.zero_add] at hr hge hle
      generalize grownCap W1 l.length 0 61 = cc at *
      obtain ⟨W3, hW3⟩ : ∃ W3, W3 = W1.drew.alloc (.cells (([] : List Value).toArray ++ (rv l).toArray ++ Builtin.zeroCells (Value.agg #[.int .i64 0, .int .i64 0]).cells (cc - l.length)) 61) := ⟨_, rfl⟩
      have hd : W1.drew.heap.size = W1.heap.size := rfl
      have hcs : W3.heap[W1.heap.size]? = some (.cells (rv l ++ (Builtin.zeroCells (Value.agg #[.int .i64 0, .int .i64 0]).cells (cc - l.length)).toList).toArray 61 (0, 0)) := by
        rw [hW3, ← hd, heap_alloc_new W1.drew]
        congr 2
        apply Array.ext'
        simp
      have HF : Hid (CloneR w l (.returned (.slice (some ⟨W1.heap.size, 0, none⟩) l.length cc)) W3) := Lib.hid ⟨_, rfl, .inr ⟨W1.heap.size, 0, cc, _, rfl, hcs, hge, hle, by simp [rv_length, Builtin.zeroCells, Value.cells]; omega, fun j v hv => by
          rw [cell_of_row _ _ _ _ _ _ hcs]
          have := (List.getElem?_eq_some_iff.1 hv).1
          simp [List.getElem?_append_left this, hv]⟩, fun k hk => by have := Option.some.inj hk; have e : W1.heap.size = k := this; omega, by rw [hW3]; exact (hb1.drew).alloc (by rw [hd]; omega) _⟩
      have hr' : ∀ ty, (Builtin.append_ #[56, 56] ty #[.slice (some ⟨w.heap.size, 0, none⟩) 0 0, .slice (some ⟨g, o, none⟩) l.length c]).run Try.prog W1 = .ok (.slice (some ⟨W1.heap.size, 0, none⟩) l.length cc) W3 := fun ty => by rw [hr ty, hW3]
      rw [hs1] at hr' HF
      rw [hW1] at hr'
      clear hr hW3 hcs hge hle hb1 hr4 hs1 hb h4 hd hW1 hi hz hi2 hi3
      have hlx : ¬ ((l.length : Int) = 0) := by omega
      generalize l.length = n at *
      have he := eqNil w (some ⟨g, o, none⟩) n c
      dsimp only [Option.isNone] at he
      go_enter Try.func36, Try.ntmps36
      go_wp2_with (at_builtin; refine Lib.wpList_append_run _ rfl _ _ _ _ rfl _ _ rfl rfl _ _ (hr' _) ?_)
      go_ret
      exact HF.out

theorem nan_any (x : Int) (w : World) : Calls Try.prog 56 #[.int .i64 x] w fun e w' => e = .returned (.bool false) ∧ w' = w := by
  go_enter Try.func56, Try.ntmps56
  go_wp2_with fail
  go_ret
  exact ⟨rfl, rfl⟩
theorem cmp_any (x y : Int) (w : World) : Calls Try.prog 39 #[.int .i64 x, .int .i64 y] w fun e w' => e = .returned (.int .i64 (Lib.compareInt x y)) ∧ w' = w := by
  have HX := Lib.hid (fun w => nan_any x w)
  have HY := Lib.hid (fun w => nan_any y w)
  unfold Lib.compareInt
  by_cases h1 : x < y
  · go_enter Try.func39, Try.ntmps39
    go_wp2_with fail
    refine (HX.out _).mono ?_
    rintro e w' ⟨rfl, rfl⟩
    go_wp2_with fail
    refine (HY.out _).mono ?_
    rintro e w' ⟨rfl, rfl⟩
    go_wp2_with fail
    go_ret
    simp [h1]
  · by_cases h2 : y < x
    · go_enter Try.func39, Try.ntmps39
      go_wp2_with fail
      refine (HX.out _).mono ?_
      rintro e w' ⟨rfl, rfl⟩
      go_wp2_with fail
      refine (HY.out _).mono ?_
      rintro e w' ⟨rfl, rfl⟩
      go_wp2_with fail
      go_ret
      simp [h1, h2]
    · go_enter Try.func39, Try.ntmps39
      go_wp2_with fail
      refine (HX.out _).mono ?_
      rintro e w' ⟨rfl, rfl⟩
      go_wp2_with fail
      refine (HY.out _).mono ?_
      rintro e w' ⟨rfl, rfl⟩
      go_wp2_with fail
      go_ret
      simp [h1, h2]

def rc (r : Rn) : List Value := [.int .i64 r.1, .int .i64 r.2]
theorem clos_any (x y : Rn) (W : World) : Calls Try.prog 38 #[.agg (rc x).toArray, .agg (rc y).toArray] W fun e w' => e = .returned (.int .i64 (Lib.compareInt x.1 y.1)) ∧ ∃ q os', w' = grow (W.drewN q) os' := by
  have HC := Lib.hid (fun w => cmp_any x.1 y.1 w)
  generalize Lib.compareInt x.1 y.1 = r at *
  obtain ⟨a, b⟩ := x
  obtain ⟨a', b'⟩ := y
  unfold rc
  dsimp only at *
  go_enter Try.func38, Try.ntmps38
  go_wp2_with fail
  refine (HC.out _).mono ?_
  rintro e w' ⟨rfl, rfl⟩
  go_wp2_with fail
  go_ret
  exact ⟨rfl, 0, _, by rw [alloc_eq_grow, alloc_eq_grow, grow_grow]; rfl⟩

theorem lt_rn (x y : Rn) : ltOf (fun x y : Rn => Lib.compareInt x.1 y.1) x y = decide (x.1 < y.1) := by
  unfold ltOf Lib.compareInt
  by_cases h1 : x.1 < y.1
  · simp [h1]
  · by_cases h3 : y.1 < x.1 <;> simp [h1, h3]
theorem swo_rn : SWO (ltOf (fun x y : Rn => Lib.compareInt x.1 y.1)) where
  irrefl x := by rw [lt_rn]; simp
  trans x y z h1 h2 := by rw [lt_rn] at *; simp at *; omega
  ntrans x y z h1 h2 := by rw [lt_rn] at *; simp at *; omega

theorem rv_at2 (l : List Rn) (t : Nat) (h : t < l.length * 2) : (rv l)[t]? = (rc (l.getD (t / 2) (0, 0)))[t % 2]? := by
  have h1 : t / 2 < l.length := by omega
  obtain ⟨a1, a2⟩ := rv_at l (t / 2) h1
  have : t % 2 = 0 ∨ t % 2 = 1 := by omega
  rcases this with e | e
  · rw [e]
    rw [show t / 2 * 2 = t from by omega] at a1
    rw [a1]
    rfl
  · rw [e]
    rw [show t / 2 * 2 + 1 = t from by omega] at a2
    rw [a2]
    rfl
theorem flat_rv (l : List Rn) (t : Nat) (h : t < l.length * 2) : (flatK rc 2 l.toArray)[t]! = ((rv l)[t]?).getD default := by
  have h1 : t / 2 < l.length := by omega
  rw [get_flatK _ _ _ t (by simpa using h), rv_at2 l t h]
  have e1 : (l.toArray)[t / 2]! = l.getD (t / 2) (0, 0) := by
    simp [h1]
  rw [e1]
  have hl : t % 2 < (rc (l.getD (t / 2) (0, 0))).length := by
    show t % 2 < 2
    omega
  rw [getElem!_pos (rc (l.getD (t / 2) (0, 0))) (t % 2) hl, List.getElem?_eq_getElem hl]
  rfl
end Go.Proofs.Ytancbdnpmabpfaa

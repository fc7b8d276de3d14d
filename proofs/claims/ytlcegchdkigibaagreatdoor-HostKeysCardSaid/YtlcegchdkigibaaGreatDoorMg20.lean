/- A path manager: what it says, and how the program has it in memory. No condition.
A path manager: the program's Tell, Untell and Told; whether a pair is joined, or known. Conditions: the manager stands.
Pairs and addresses as lists: the mathematics; rows of pairs in memory. No condition.
A path manager: how many flows there are, and whether there may be more; its pairs; its addresses. Conditions: the manager stands.
A path manager: Join, Gone and Next. Conditions: the manager stands. -/
import Derived.Test.YtlcegchdkigibaaGreatDoorMg4
import Derived.Test.YtlcegchdkigibaaGreatDoorMg2
import Derived.Deep.RegionHeld3
namespace Go.Proofs.YtlcegchdkigibaaGreatDoor.LP
set_option linter.unusedVariables false
set_option linter.unusedSimpArgs false
open Go.RowKit Go.Lib

def ptr (b : Nat) : Value := .pointer (some ⟨b, 0, none⟩)

/-- What a path manager knows: which own addresses were told, which of the other side's, which pairs have a flow, and how many there may be. -/
structure Pm where
  ow : Nat → Bool
  ot : Nat → Bool
  fl : Nat → Nat → Bool
  mo : Nat
def upd (f : Nat → Bool) (i : Nat) (b : Bool) : Nat → Bool := fun k => if k = i then b else f k
def upd2 (f : Nat → Nat → Bool) (i j : Nat) (b : Bool) : Nat → Nat → Bool := fun k m => if k = i ∧ m = j then b else f k m
def Pm.setO (p : Pm) (i : Nat) (b : Bool) : Pm := { p with ow := upd p.ow i b }
def Pm.setT (p : Pm) (i : Nat) (b : Bool) : Pm := { p with ot := upd p.ot i b }
def Pm.setF (p : Pm) (i j : Nat) (b : Bool) : Pm := { p with fl := upd2 p.fl i j b }
def Pm.cs (p : Pm) : Array Value := #[.bool (p.ow 0), .bool (p.ow 1), .bool (p.ow 2), .bool (p.ow 3), .bool (p.ot 0), .bool (p.ot 1), .bool (p.ot 2), .bool (p.ot 3),
  .bool (p.fl 0 0), .bool (p.fl 0 1), .bool (p.fl 0 2), .bool (p.fl 0 3), .bool (p.fl 1 0), .bool (p.fl 1 1), .bool (p.fl 1 2), .bool (p.fl 1 3),
  .bool (p.fl 2 0), .bool (p.fl 2 1), .bool (p.fl 2 2), .bool (p.fl 2 3), .bool (p.fl 3 0), .bool (p.fl 3 1), .bool (p.fl 3 2), .bool (p.fl 3 3), .int .i64 (p.mo : Int)]

theorem four {P : Nat → Prop} (h0 : P 0) (h1 : P 1) (h2 : P 2) (h3 : P 3) {i : Nat} (hi : i < 4) : P i := by
  match i, hi with
  | 0, _ => exact h0
  | 1, _ => exact h1
  | 2, _ => exact h2
  | 3, _ => exact h3

/-- At block b the manager stands. -/
def St (w : World) (b : Nat) (p : Pm) : Prop := w.heap[b]? = some (.cells p.cs 193 (0, 0))
section
variable {w w' : World} {b : Nat} {p : Pm}
theorem St.lt (h : St w b p) : b < w.heap.size := (Array.getElem?_eq_some_iff.1 h).1
theorem St.o (h : St w b p) {i : Nat} (hi : i < 4) : w.cell? ⟨b, i, none⟩ = some (.bool (p.ow i)) := by
  rw [cell_of_row w b i _ _ (0, 0) h]
  exact four (P := fun i => p.cs[i]? = some (.bool (p.ow i))) rfl rfl rfl rfl hi
theorem St.t (h : St w b p) {i : Nat} (hi : i < 4) : w.cell? ⟨b, 4 + i, none⟩ = some (.bool (p.ot i)) := by
  rw [cell_of_row w b (4 + i) _ _ (0, 0) h]
  exact four (P := fun i => p.cs[4 + i]? = some (.bool (p.ot i))) rfl rfl rfl rfl hi
theorem St.f (h : St w b p) {i j : Nat} (hi : i < 4) (hj : j < 4) : w.cell? ⟨b, 8 + i * 4 + j, none⟩ = some (.bool (p.fl i j)) := by
  rw [cell_of_row w b (8 + i * 4 + j) _ _ (0, 0) h]
  refine four (P := fun i => p.cs[8 + i * 4 + j]? = some (.bool (p.fl i j))) ?_ ?_ ?_ ?_ hi
  · exact four (P := fun j => p.cs[8 + 0 * 4 + j]? = some (.bool (p.fl 0 j))) rfl rfl rfl rfl hj
  · exact four (P := fun j => p.cs[8 + 1 * 4 + j]? = some (.bool (p.fl 1 j))) rfl rfl rfl rfl hj
  · exact four (P := fun j => p.cs[8 + 2 * 4 + j]? = some (.bool (p.fl 2 j))) rfl rfl rfl rfl hj
  · exact four (P := fun j => p.cs[8 + 3 * 4 + j]? = some (.bool (p.fl 3 j))) rfl rfl rfl rfl hj
theorem St.m (h : St w b p) : w.cell? ⟨b, 24, none⟩ = some (.int .i64 (p.mo : Int)) := by rw [cell_of_row w b 24 _ _ (0, 0) h]; rfl
theorem St.fz (h : St w b p) (j : Nat) : w.frozen? ⟨b, j, none⟩ = false := by simp [World.frozen?, show w.heap[b]? = _ from h]
theorem St.ch (h : St w b p) {m : Nat → Prop} (k : Ch w w' m) (hb : ¬ m b) : St w' b p := (k.block b h.lt hb).trans h
theorem St.below (h : St w b p) (k : Below w.heap.size w w') : St w' b p := (k.block b h.lt).trans h
theorem St.drewN (h : St w b p) (n : Nat) : St (w.drewN n) b p := h
theorem St.set (h : St w b p) (k : Nat) (v : Value) {q : Pm} (hq : p.cs.setIfInBounds k v = q.cs) : St (w.setCell ⟨b, k, none⟩ v) b q := by
  have := h
  unfold St at *
  rw [← hq]
  simp [World.setCell, Array.getElem?_modify, this]
theorem St.setO (h : St w b p) {i : Nat} (hi : i < 4) (v : Bool) : St (w.setCell ⟨b, i, none⟩ (.bool v)) b (p.setO i v) :=
  h.set i _ (four (P := fun i => p.cs.setIfInBounds i (.bool v) = (p.setO i v).cs) rfl rfl rfl rfl hi)
theorem St.setT (h : St w b p) {i : Nat} (hi : i < 4) (v : Bool) : St (w.setCell ⟨b, 4 + i, none⟩ (.bool v)) b (p.setT i v) :=
  h.set _ _ (four (P := fun i => p.cs.setIfInBounds (4 + i) (.bool v) = (p.setT i v).cs) rfl rfl rfl rfl hi)
theorem St.setF (h : St w b p) {i j : Nat} (hi : i < 4) (hj : j < 4) (v : Bool) : St (w.setCell ⟨b, 8 + i * 4 + j, none⟩ (.bool v)) b (p.setF i j v) := by
  refine h.set _ _ ?_
  refine four (P := fun i => p.cs.setIfInBounds (8 + i * 4 + j) (.bool v) = (p.setF i j v).cs) ?_ ?_ ?_ ?_ hi
  · exact four (P := fun j => p.cs.setIfInBounds (8 + 0 * 4 + j) (.bool v) = (p.setF 0 j v).cs) rfl rfl rfl rfl hj
  · exact four (P := fun j => p.cs.setIfInBounds (8 + 1 * 4 + j) (.bool v) = (p.setF 1 j v).cs) rfl rfl rfl rfl hj
  · exact four (P := fun j => p.cs.setIfInBounds (8 + 2 * 4 + j) (.bool v) = (p.setF 2 j v).cs) rfl rfl rfl rfl hj
  · exact four (P := fun j => p.cs.setIfInBounds (8 + 3 * 4 + j) (.bool v) = (p.setF 3 j v).cs) rfl rfl rfl rfl hj
end
theorem ch_set {w : World} {b k : Nat} {v : Value} : Ch w (w.setCell ⟨b, k, none⟩ v) (fun x => x = b) := (Ch.refl w _).setCell (m := fun x => x = b) (fun _ => rfl) v

/-- There may be such an address. -/
def mb (x : Int) : Bool := decide (0 ≤ x ∧ x < 4)
theorem mb_nat {x : Int} (h : mb x = true) : ∃ i : Nat, x = (i : Int) ∧ i < 4 := by
  have := of_decide_eq_true h
  exact ⟨x.toNat, by omega, by omega⟩
theorem mb_of {i : Nat} (h : i < 4) : mb (i : Int) = true := decide_eq_true (by omega)

theorem mayBe_any (x : Int) (w : World) : Calls Tryz.prog 153 #[.int .i64 x] w fun e w' => e = .returned (.bool (mb x)) ∧ w' = w := by
  by_cases h : mb x = true
  · have h1 := of_decide_eq_true h
    have h2 : (0 : Int) ≤ x := h1.1
    have h3 : x < 4 := h1.2
    rw [h]
    clear h h1
    go_enter Tryz.func153, Tryz.ntmps153
    go_wp2_with fail
    go_ret
    exact ⟨rfl, rfl⟩
  · have h' : mb x = false := by simpa using h
    have h1 := of_decide_eq_false h'
    rw [h']
    clear h h'
    by_cases h2 : (0 : Int) ≤ x
    · have h3 : ¬ x < 4 := fun h => h1 ⟨h2, h⟩
      clear h1
      go_enter Tryz.func153, Tryz.ntmps153
      go_wp2_with fail
      go_ret
      exact ⟨rfl, rfl⟩
    · clear h1
      go_enter Tryz.func153, Tryz.ntmps153
      go_wp2_with fail
      go_ret
      exact ⟨rfl, rfl⟩

def pr (x y : Int) : Value := .agg #[.int .i64 x, .int .i64 y]
theorem cell2 (w : World) (x y : Value) (t : TypeId) : (w.alloc (.cells #[x, y] t)).cell? ⟨w.heap.size, 0, none⟩ = some x ∧ (w.alloc (.cells #[x, y] t)).cell? ⟨w.heap.size, 1, none⟩ = some y :=
  ⟨by rw [cell_of_row _ _ _ _ _ _ (heap_alloc_new w _)]; rfl, by rw [cell_of_row _ _ _ _ _ _ (heap_alloc_new w _)]; rfl⟩
theorem pmayBe_any (x y : Int) (w : World) : Calls Tryz.prog 146 #[pr x y] w fun e w' => e = .returned (.bool (mb x && mb y)) ∧ Below w.heap.size w w' := by
  have HX := Lib.hid (fun w => mayBe_any x w)
  have HY := Lib.hid (fun w => mayBe_any y w)
  have HB := Lib.hid (below_a w (.cells #[.int .i64 x, .int .i64 y] 187))
  unfold pr
  generalize mb x = a at *
  generalize mb y = b at *
  cases a
  all_goals
    go_enter Tryz.func146, Tryz.ntmps146
    go_wp2_with fail
    refine (HX.out _).mono ?_
    rintro e w1 ⟨rfl, rfl⟩
    go_wp2_with fail
    try
      refine (HY.out _).mono ?_
      rintro e w1 ⟨rfl, rfl⟩
      go_wp2_with fail
    go_ret
    exact ⟨rfl, HB.out⟩
end Go.Proofs.YtlcegchdkigibaaGreatDoor.LP

namespace Go.Proofs.YtlcegchdkigibaaGreatDoor.LP
set_option linter.unusedVariables false
set_option linter.unusedSimpArgs false
open Go.RowKit Go.Lib

def Pm.tellE (p : Pm) (x : Int) : Int := if mb x = true then (if p.ow x.toNat = true then 8 else 0) else 1
def Pm.tellS (p : Pm) (x : Int) : Pm := if mb x = true then p.setO x.toNat true else p
def Pm.untE (p : Pm) (x : Int) : Int := if mb x = true then (if p.ow x.toNat = true then 0 else 6) else 1
def Pm.untS (p : Pm) (x : Int) : Pm := if mb x = true then p.setO x.toNat false else p
def Pm.toldS (p : Pm) (x : Int) : Pm := if mb x = true then p.setT x.toNat true else p
theorem upd_same {f : Nat → Bool} {i : Nat} {v : Bool} (h : f i = v) : upd f i v = f := by
  funext k
  unfold upd
  split
  · rename_i e
    rw [e, h]
  · rfl
theorem upd2_same {f : Nat → Nat → Bool} {i j : Nat} {v : Bool} (h : f i j = v) : upd2 f i j v = f := by
  funext k m
  unfold upd2
  split
  · rename_i e
    rw [e.1, e.2, h]
  · rfl
theorem Pm.setO_same {p : Pm} {i : Nat} {v : Bool} (h : p.ow i = v) : p.setO i v = p := by unfold Pm.setO; rw [upd_same h]
theorem Pm.setT_same {p : Pm} {i : Nat} {v : Bool} (h : p.ot i = v) : p.setT i v = p := by unfold Pm.setT; rw [upd_same h]
theorem Pm.setF_same {p : Pm} {i j : Nat} {v : Bool} (h : p.fl i j = v) : p.setF i j v = p := by unfold Pm.setF; rw [upd2_same h]

section
variable {p : Pm} {i j : Nat}
theorem tellE_yes (hi : i < 4) : p.tellE (i : Int) = if p.ow i = true then 8 else 0 := by unfold Pm.tellE; rw [if_pos (mb_of hi)]; rfl
theorem tellS_yes (hi : i < 4) : p.tellS (i : Int) = p.setO i true := by unfold Pm.tellS; rw [if_pos (mb_of hi)]; rfl
theorem untE_yes (hi : i < 4) : p.untE (i : Int) = if p.ow i = true then 0 else 6 := by unfold Pm.untE; rw [if_pos (mb_of hi)]; rfl
theorem untS_yes (hi : i < 4) : p.untS (i : Int) = p.setO i false := by unfold Pm.untS; rw [if_pos (mb_of hi)]; rfl
theorem toldS_yes (hi : i < 4) : p.toldS (i : Int) = p.setT i true := by unfold Pm.toldS; rw [if_pos (mb_of hi)]; rfl
variable {x : Int}
theorem tellE_no (h : mb x = false) : p.tellE x = 1 := by unfold Pm.tellE; rw [h]; rfl
theorem tellS_no (h : mb x = false) : p.tellS x = p := by unfold Pm.tellS; rw [h]; rfl
theorem untE_no (h : mb x = false) : p.untE x = 1 := by unfold Pm.untE; rw [h]; rfl
theorem untS_no (h : mb x = false) : p.untS x = p := by unfold Pm.untS; rw [h]; rfl
theorem toldS_no (h : mb x = false) : p.toldS x = p := by unfold Pm.toldS; rw [h]; rfl
end

/-- What a call leaves that wrote the manager alone. -/
def Did (w : World) (pb : Nat) (v : Value) (p' : Pm) (e : Ending) (w' : World) : Prop := e = .returned v ∧ St w' pb p' ∧ Ch w w' (fun k => k = pb)

theorem tell_any {w : World} {pb : Nat} {p : Pm} (h : St w pb p) (x : Int) : Calls Tryz.prog 105 #[ptr pb, .int .i64 x] w (Did w pb (.int .i64 (p.tellE x)) (p.tellS x)) := by
  have HX := Lib.hid (mayBe_any x w)
  cases hm : mb x
  · rw [hm] at HX
    rw [tellE_no hm, tellS_no hm]
    have HS := Lib.hid h
    clear h hm
    unfold ptr
    go_enter Tryz.func105, Tryz.ntmps105
    go_wp2_with fail
    refine (HX.out).mono ?_
    rintro e w1 ⟨rfl, rfl⟩
    go_wp2_with fail
    go_ret
    exact ⟨rfl, HS.out, Ch.refl _ _⟩
  · rw [hm] at HX
    obtain ⟨i, rfl, hi⟩ := mb_nat hm
    rw [tellE_yes hi, tellS_yes hi]
    have c0 := h.o hi
    have f0 := h.fz i
    have HS := Lib.hid h
    have HS2 := Lib.hid (h.setO hi true)
    have HI := Lib.hid (@Pm.setO_same p i true)
    clear h hm
    unfold ptr
    cases hp : p.ow i
    · rw [hp] at c0
      clear hp HI
      rw [if_neg (show ¬ (false = true) from by decide)]
      go_enter Tryz.func105, Tryz.ntmps105
      go_wp2_with fail
      refine (HX.out).mono ?_
      rintro e w1 ⟨rfl, rfl⟩
      go_wp2_with fail
      go_ret
      exact ⟨rfl, HS2.out, ch_set⟩
    · rw [HI.out hp]
      rw [hp] at c0
      clear hp HI
      rw [if_pos rfl]
      go_enter Tryz.func105, Tryz.ntmps105
      go_wp2_with fail
      refine (HX.out).mono ?_
      rintro e w1 ⟨rfl, rfl⟩
      go_wp2_with fail
      go_ret
      exact ⟨rfl, HS.out, Ch.refl _ _⟩

/-- What a call without results leaves. -/
def DidN (w : World) (pb : Nat) (p' : Pm) (e : Ending) (w' : World) : Prop := (∃ v, e = .returned v) ∧ St w' pb p' ∧ Ch w w' (fun k => k = pb)
theorem told_any {w : World} {pb : Nat} {p : Pm} (h : St w pb p) (x : Int) : Calls Tryz.prog 256 #[ptr pb, .int .i64 x] w (DidN w pb (p.toldS x)) := by
  have HX := Lib.hid (mayBe_any x w)
  cases hm : mb x
  · rw [hm] at HX
    rw [toldS_no hm]
    have HS := Lib.hid h
    clear h hm
    unfold ptr
    go_enter Tryz.func256, Tryz.ntmps256
    go_wp2_with fail
    refine (HX.out).mono ?_
    rintro e w1 ⟨rfl, rfl⟩
    go_wp2_with fail
    go_end0
    exact ⟨⟨_, rfl⟩, HS.out, Ch.refl _ _⟩
  · rw [hm] at HX
    obtain ⟨i, rfl, hi⟩ := mb_nat hm
    rw [toldS_yes hi]
    have c0 := h.t hi
    have f0 := h.fz (4 + i)
    have HS2 := Lib.hid (h.setT hi true)
    clear h hm
    unfold ptr
    go_enter Tryz.func256, Tryz.ntmps256
    go_wp2_with fail
    refine (HX.out).mono ?_
    rintro e w1 ⟨rfl, rfl⟩
    go_wp2_with fail
    go_end0
    exact ⟨⟨_, rfl⟩, HS2.out, ch_set⟩

theorem joined_any {w : World} {pb : Nat} {p : Pm} (h : St w pb p) {i j : Nat} (hi : i < 4) (hj : j < 4) : Calls Tryz.prog 148 #[ptr pb, pr (i : Int) (j : Int)] w fun e w' => e = .returned (.bool (p.fl i j)) ∧ Below w.heap.size w w' := by
  have hb := below_a w (.cells #[.int .i64 (i : Int), .int .i64 (j : Int)] 187)
  have HB := Lib.hid (fun n => below_dn hb n)
  have c0 := (h.below hb).f hi hj
  obtain ⟨y0, y1⟩ := cell2 w (.int .i64 (i : Int)) (.int .i64 (j : Int)) 187
  clear h hb
  generalize p.fl i j = v at *
  unfold ptr pr
  go_enter Tryz.func148, Tryz.ntmps148
  go_wp2_with fail
  go_quiet (fail)
  go_wp2_with fail
  go_ret
  exact ⟨rfl, HB.out _⟩

theorem knows_any {w : World} {pb : Nat} {p : Pm} (h : St w pb p) {i j : Nat} (hi : i < 4) (hj : j < 4) : Calls Tryz.prog 147 #[ptr pb, pr (i : Int) (j : Int)] w fun e w' => e = .returned (.bool (p.ow i && p.ot j)) ∧ Below w.heap.size w w' := by
  have hb := below_a w (.cells #[.int .i64 (i : Int), .int .i64 (j : Int)] 187)
  have HB := Lib.hid (fun n => below_dn hb n)
  have c0 := (h.below hb).o hi
  have c1 := (h.below hb).t hj
  obtain ⟨y0, y1⟩ := cell2 w (.int .i64 (i : Int)) (.int .i64 (j : Int)) 187
  clear h hb
  generalize p.ow i = u at *
  generalize p.ot j = v at *
  unfold ptr pr
  cases u
  all_goals
    go_enter Tryz.func147, Tryz.ntmps147
    go_wp2_with fail
    go_quiet (fail)
    go_wp2_with fail
    go_ret
    exact ⟨rfl, HB.out _⟩
end Go.Proofs.YtlcegchdkigibaaGreatDoor.LP

namespace Go.Proofs.YtlcegchdkigibaaGreatDoor.LP
set_option linter.unusedVariables false
set_option linter.unusedSimpArgs false
open Go.RowKit Go.Lib

/-- Of the first k pairs, by own, then by other, those for which g holds. -/
def prs (g : Nat → Nat → Bool) (k : Nat) : List (Int × Int) := ((List.range k).filter fun k => g (k / 4) (k % 4)).map fun k => (((k / 4 : Nat) : Int), ((k % 4 : Nat) : Int))
/-- Of the first k addresses those for which f holds. -/
def adr (f : Nat → Bool) (k : Nat) : List Int := ((List.range k).filter f).map fun (k : Nat) => (k : Int)
section
variable {g : Nat → Nat → Bool} {f : Nat → Bool} {i j k : Nat}
theorem prs_zero (g : Nat → Nat → Bool) : prs g 0 = [] := rfl
theorem prs_yes (hj : j < 4) (h : g i j = true) : prs g (i * 4 + j + 1) = prs g (i * 4 + j) ++ [((i : Int), (j : Int))] := by
  have h1 : (i * 4 + j) / 4 = i := by omega
  have h2 : (i * 4 + j) % 4 = j := by omega
  unfold prs
  rw [List.range_succ, List.filter_append, List.map_append]
  simp [h1, h2, h]
  omega
theorem prs_no (hj : j < 4) (h : g i j = false) : prs g (i * 4 + j + 1) = prs g (i * 4 + j) := by
  have h1 : (i * 4 + j) / 4 = i := by omega
  have h2 : (i * 4 + j) % 4 = j := by omega
  unfold prs
  rw [List.range_succ, List.filter_append, List.map_append]
  simp [h1, h2, h]
theorem prs_len (g : Nat → Nat → Bool) (k : Nat) : (prs g k).length ≤ k := by
  unfold prs
  rw [List.length_map]
  exact Nat.le_trans (List.length_filter_le _ _) (by simp)
theorem prs_mem {x : Int × Int} : x ∈ prs g 16 ↔ ∃ i j : Nat, i < 4 ∧ j < 4 ∧ g i j = true ∧ x = ((i : Int), (j : Int)) := by
  unfold prs
  rw [List.mem_map]
  constructor
  · rintro ⟨k, hk, rfl⟩
    obtain ⟨h1, h2⟩ := List.mem_filter.1 hk
    have := List.mem_range.1 h1
    exact ⟨k / 4, k % 4, by omega, by omega, h2, rfl⟩
  · rintro ⟨i, j, hi, hj, h, rfl⟩
    refine ⟨i * 4 + j, List.mem_filter.2 ⟨List.mem_range.2 (by omega), ?_⟩, ?_⟩
    · rw [show (i * 4 + j) / 4 = i by omega, show (i * 4 + j) % 4 = j by omega]
      exact h
    · rw [show (i * 4 + j) / 4 = i by omega, show (i * 4 + j) % 4 = j by omega]
/-- Ahead of: by own, then by other. -/
def lx (a b : Int × Int) : Prop := a.1 < b.1 ∨ a.1 = b.1 ∧ a.2 < b.2
theorem lx_ne {a b : Int × Int} (h : lx a b) : a ≠ b := by
  rintro rfl
  unfold lx at h
  omega
theorem prs_rises (g : Nat → Nat → Bool) (k : Nat) : (prs g k).Pairwise lx := by
  unfold prs
  rw [List.pairwise_map]
  refine (List.pairwise_lt_range.filter _).imp fun {a b} h => ?_
  unfold lx
  dsimp only
  omega
theorem prs_nodup (g : Nat → Nat → Bool) (k : Nat) : (prs g k).Nodup := (prs_rises g k).imp fun h => lx_ne h
theorem adr_zero (f : Nat → Bool) : adr f 0 = [] := rfl
theorem adr_yes (h : f k = true) : adr f (k + 1) = adr f k ++ [(k : Int)] := by
  unfold adr
  rw [List.range_succ, List.filter_append, List.map_append]
  simp [h]
theorem adr_no (h : f k = false) : adr f (k + 1) = adr f k := by
  unfold adr
  rw [List.range_succ, List.filter_append, List.map_append]
  simp [h]
theorem adr_len (f : Nat → Bool) (k : Nat) : (adr f k).length ≤ k := by
  unfold adr
  rw [List.length_map]
  exact Nat.le_trans (List.length_filter_le _ _) (by simp)
theorem adr_mem {x : Int} : x ∈ adr f k ↔ ∃ i : Nat, i < k ∧ f i = true ∧ x = (i : Int) := by
  unfold adr
  rw [List.mem_map]
  constructor
  · rintro ⟨i, hi, rfl⟩
    obtain ⟨h1, h2⟩ := List.mem_filter.1 hi
    exact ⟨i, List.mem_range.1 h1, h2, rfl⟩
  · rintro ⟨i, hi, h, rfl⟩
    exact ⟨i, List.mem_filter.2 ⟨List.mem_range.2 hi, h⟩, rfl⟩
theorem adr_rises (f : Nat → Bool) (k : Nat) : (adr f k).Pairwise (· < ·) := by
  unfold adr
  rw [List.pairwise_map]
  exact (List.pairwise_lt_range.filter f).imp fun h => by omega
end

/-- The cells of a row of pairs. -/
def pv (l : List (Int × Int)) : List Value := l.flatMap fun x => [.int .i64 x.1, .int .i64 x.2]
def zp : Int × Int := (0, 0)
theorem pv_length (l : List (Int × Int)) : (pv l).length = l.length * 2 := by
  induction l with
  | nil => rfl
  | cons x r ih =>
    show ([_, _] ++ pv r).length = _
    rw [List.length_append, ih]
    simp
    omega
theorem pv_append (l r : List (Int × Int)) : pv (l ++ r) = pv l ++ pv r := by unfold pv; rw [List.flatMap_append]
theorem pv_get (l : List (Int × Int)) : ∀ {j : Nat}, j < l.length → (pv l)[j * 2]? = some (.int .i64 (l.getD j zp).1) ∧ (pv l)[j * 2 + 1]? = some (.int .i64 (l.getD j zp).2) := by
  induction l with
  | nil => intro j h; cases h
  | cons x r ih =>
    intro j h
    have e : pv (x :: r) = .int .i64 x.1 :: .int .i64 x.2 :: pv r := rfl
    cases j with
    | zero =>
      rw [e]
      exact ⟨rfl, rfl⟩
    | succ j =>
      rw [e, show (j + 1) * 2 = j * 2 + 1 + 1 by omega]
      have := ih (j := j) (by simp at h; omega)
      simp only [List.getElem?_cons_succ, List.getD_cons_succ]
      exact this
theorem pv_one (l : List (Int × Int)) : ∀ u ∈ pv l, u.oneCell' = true := by
  intro u hu
  unfold pv at hu
  obtain ⟨x, _, hx⟩ := List.mem_flatMap.1 hu
  simp at hx
  rcases hx with rfl | rfl <;> rfl

/-- The slice '.slice A n c' holds the pairs l. -/
def PS (w : World) (A : Option Addr) (n c : Nat) (l : List (Int × Int)) : Prop :=
  l.length = n ∧ n ≤ c ∧ c ≤ 9223372036854775807 ∧ (0 < n → ∃ b o, A = some ⟨b, o, none⟩ ∧ ∀ j, j < n → w.cell? ⟨b, o + j * 2, none⟩ = some (.int .i64 (l.getD j zp).1) ∧ w.cell? ⟨b, o + j * 2 + 1, none⟩ = some (.int .i64 (l.getD j zp).2))
section
variable {w w' : World} {A : Option Addr} {n c : Nat} {l : List (Int × Int)}
theorem PS.below (h : PS w A n c l) (k : Below w.heap.size w w') : PS w' A n c l :=
  ⟨h.1, h.2.1, h.2.2.1, fun hn => by
    obtain ⟨b, o, e, hc⟩ := h.2.2.2 hn
    have hk : ∀ p v, w.cell? p = some v → w'.cell? p = some v := fun p v hp => (World.cell?_of_block (k.block _ (World.block_lt_of_cell? _ _ hp))).trans hp
    exact ⟨b, o, e, fun j hj => ⟨hk _ _ (hc j hj).1, hk _ _ (hc j hj).2⟩⟩⟩
theorem PS.at_ (h : PS w A n c l) {j : Nat} (hj : j < n) : ∃ b o, A = some ⟨b, o, none⟩ ∧ w.cell? ⟨b, o + j * 2, none⟩ = some (.int .i64 (l.getD j zp).1) ∧ w.cell? ⟨b, o + j * 2 + 1, none⟩ = some (.int .i64 (l.getD j zp).2) := by
  obtain ⟨b, o, e, hc⟩ := h.2.2.2 (by omega)
  exact ⟨b, o, e, hc j hj⟩
theorem PS.cell {b o : Nat} (h : PS w (some ⟨b, o, none⟩) n c l) {j : Nat} (hj : j < n) : w.cell? ⟨b, o + j * 2, none⟩ = some (.int .i64 (l.getD j zp).1) ∧ w.cell? ⟨b, o + j * 2 + 1, none⟩ = some (.int .i64 (l.getD j zp).2) := by
  obtain ⟨b', o', e, hc⟩ := h.at_ hj
  injection e with e
  injection e with e1 e2
  subst e1 e2
  exact hc
theorem PS.nil_ (w : World) : PS w none 0 0 [] := ⟨rfl, Nat.le_refl _, Nat.zero_le _, fun h => absurd h (by omega)⟩
theorem PS.of_own {base : Nat} {e : TypeId} {v : Value} (h : w.ownsRow base e 2 v n (pv l)) : ∃ A c, v = .slice A n c ∧ PS w A n c l := by
  have hl : l.length = n := by have := h.1; rw [pv_length] at this; omega
  rcases h.2 with ⟨rfl, rfl⟩ | ⟨g, cap, cur, rfl, hb, hg, hnc, hm, hs, ht⟩
  · obtain rfl : l = [] := List.eq_nil_of_length_eq_zero hl
    exact ⟨none, 0, rfl, PS.nil_ w⟩
  · refine ⟨_, cap, rfl, hl, hnc, by unfold maxLen at hm; omega, fun hn => ⟨g, 0, rfl, fun j hj => ?_⟩⟩
    have h1 := World.ownsRow.cellAt h (j * 2) (by omega)
    have h2 := World.ownsRow.cellAt h (j * 2 + 1) (by omega)
    obtain ⟨k1, k2⟩ := pv_get l (j := j) (by omega)
    rw [Nat.zero_add]
    exact ⟨h1.trans k1, h2.trans k2⟩
end
/-- A pair by itself, as it lies in its new block. -/
theorem PS.lit (w : World) (x y : Int) (t : TypeId) : Src (w.alloc (.cells #[.int .i64 x, .int .i64 y] t)) (some ⟨w.heap.size, 0, none⟩) 1 1 2 (pv [(x, y)]) :=
  ⟨rfl, by decide, by decide, pv_one _, fun _ => ⟨_, 0, rfl, fun j v hv => by
    rw [Nat.zero_add, cell_of_row _ _ _ _ _ _ (heap_alloc_new w _)]
    have e : pv [(x, y)] = [.int .i64 x, .int .i64 y] := rfl
    rw [e] at hv
    simpa using hv⟩⟩
theorem infoPair : (Tryz.prog.info? 187).map (fun i => (i.zero, i.size, i.bytes)) = some (some (.agg #[.int .i64 0, .int .i64 0]), 2, 16) := by kernel_rfl

/-- A function of the program is entered. -/
theorem callFunc_in {P : Program} {f : FuncId} {fn : Func} {c : Code} (hf : P.funcs[f]? = some fn) (hname : (fn.name == "runtime.NumGoroutine") = false) (hb : fn.body = some c) (args : Array Value) (w : World) : (callFunc f args).run P w = .ok (.enter f args) w := by
  have h1 : fn.name ≠ "runtime.NumGoroutine" := by simpa using hname
  simp [callFunc, hf, h1, hb]

theorem keepc {a b : World} (h : Below a.heap.size a b) {p : Addr} {v : Value} (hc : a.cell? p = some v) : b.cell? p = some v := (World.cell?_of_block (h.block _ (World.block_lt_of_cell? _ _ hc))).trans hc
/-- append of a pair onto a row of the call's own. -/
theorem wpList_app2 {W w : World} {ops : Array Oper} {rest : List Oper} {o : Oper} {a : Act} {Q : Exit → Act → World → Prop} (hgd : o.guard = none) (s x : Operand) (t e : TypeId)
    (ho : o.op = .call { callee := .builtin .append, args := #[s, x], argTypes := #[t, t] }) (ht : Tryz.prog.underlying t = some (.slice e)) (hi : (Tryz.prog.info? e).map (fun i => (i.zero, i.size, i.bytes)) = some (some (.agg #[.int .i64 0, .int .i64 0]), 2, 16))
    (v : Value) (n : Nat) (l : List (Int × Int)) (hs : a.eval s = v) (hown : w.ownsRow W.heap.size e 2 v n (pv l)) (hb : Below W.heap.size W w) (u u' : Int) (hx : a.eval x = .slice (some ⟨w.heap.size, 0, none⟩) 1 1) (h40 : n ≤ 1000000)
    (h : ∀ A' c' w', w'.ownsRow W.heap.size e 2 (.slice A' (n + 1) c') (n + 1) (pv (l ++ [(u, u')])) → Below W.heap.size W w' → wpList Tryz.prog ops Q rest (a.put o.dst (.slice A' (n + 1) c')) w') :
    wpList Tryz.prog ops Q (o :: rest) a (w.alloc (.cells #[.int .i64 u, .int .i64 u'] e)) := by
  have hba := below_a w (.cells #[.int .i64 u, .int .i64 u'] e)
  refine wpList_appG hgd s x t e ho _ 2 16 ht hi rfl (by decide) (by decide) W.heap.size v n (pv l) hs (own_below hown hba) _ 1 1 (pv [(u, u')]) hx (PS.lit w u u' e) (by omega) (by have := hb.size; simp; omega) fun v' w' h1 h2 h3 => ?_
  have hbb := (hb.trans (hba.mono hb.size)).grown h2 (by have := hb.size; simp; omega) fun k hk => (hown.lt k hk).1
  rw [← pv_append] at h1
  obtain ⟨A', c', rfl, -⟩ := PS.of_own h1
  exact h A' c' w' h1 hbb

set_option maxHeartbeats 3200000 in
theorem pairs_any {w : World} {F : Nat} {fs cs : Array Value} {g : Nat → Nat → Bool} (hF : ∀ (args : Array Value) (w : World), (callFunc F args).run Tryz.prog w = .ok (.enter F args) w)
    (H : ∀ w', Below w.heap.size w w' → ∀ i j : Nat, i < 4 → j < 4 → Calls Tryz.prog F (fs.push (pr (i : Int) (j : Int)) ++ cs) w' fun e w'' => e = .returned (.bool (g i j)) ∧ Below w'.heap.size w' w'') :
    Calls Tryz.prog 211 #[.func (.func F) fs cs] w fun e w' => ∃ A n c, e = .returned (.slice A n c) ∧ w'.ownsRow w.heap.size 187 2 (.slice A n c) n (pv (prs g 16)) ∧ Below w.heap.size w w' := by
  have HH := Lib.hid H
  clear H
  go_enter Tryz.func211, Tryz.ntmps211
  go_wp2_with fail
  go_loopw [3, 7] (fun s3 ix wr => ∃ (q : Nat) (A' : Option Addr) (m c' : Nat), q ≤ 4 ∧ s3 = .slice A' m c' ∧ ix = .int .i64 (q : Int) ∧ wr.ownsRow w.heap.size 187 2 (.slice A' m c') m (pv (prs g (q * 4))) ∧ Below w.heap.size w wr) (fun _ ix _ => 4 - (intOf ix).toNat)
  case atStart => exact ⟨0, none, 0, 0, Nat.zero_le _, rfl, rfl, World.ownsRow_nil _ _ _ _, Below.refl _ _⟩
  case round =>
    obtain ⟨q, A1, m1, c1, hq, rfl, rfl, hO, B⟩ := hrel
    have HO := Lib.hid hO
    have HB := Lib.hid B
    clear hO B
    by_cases hqn : q < 4
    · have HQ := Lib.hid hqn
      obtain ⟨wx, rfl⟩ : ∃ wx, wx = wr := ⟨_, rfl⟩
      go_wp2_with fail
      clear hqn
      generalize decide ((q : Int) < 4) = d8
      go_loopw [3, 10] (fun s3 ix wr => ∃ (r : Nat) (A' : Option Addr) (m c' : Nat), r ≤ 4 ∧ s3 = .slice A' m c' ∧ ix = .int .i64 (r : Int) ∧ wr.ownsRow w.heap.size 187 2 (.slice A' m c') m (pv (prs g (q * 4 + r))) ∧ Below w.heap.size w wr) (fun _ ix _ => 4 - (intOf ix).toNat)
      case atStart => exact ⟨0, A1, m1, c1, Nat.zero_le _, rfl, rfl, HO.out, HB.out⟩
      case round =>
        obtain ⟨r, A2, m2, c2, hr, rfl, rfl, hO2, B2⟩ := hrel
        have HM2 : Hid (m2 ≤ 16) := Lib.hid (by
          have h1 := hO2.1
          rw [pv_length] at h1
          have := prs_len g (q * 4 + r)
          omega)
        have HO2 := Lib.hid hO2
        have HB2 := Lib.hid B2
        clear hO2 B2 HO HB
        by_cases hrn : r < 4
        · have HR := Lib.hid hrn
          have hb := below_a wr (.cells #[.int .i64 (q : Int), .int .i64 (r : Int)] 187)
          have HB3 := Lib.hid (HB2.out.trans (hb.mono HB2.out.size))
          have HO3 := Lib.hid (own_below HO2.out hb)
          have HC := Lib.hid (HH.out _ HB3.out q r HQ.out HR.out)
          have HCL := Lib.hid (cell2 wr (.int .i64 (q : Int)) (.int .i64 (r : Int)) 187)
          clear hb
          unfold pr at HC
          go_wp2_with fail
          refine (HC.out).mono ?_
          rintro e w3 ⟨rfl, b3⟩
          have HB4 := Lib.hid (HB3.out.trans (b3.mono HB3.out.size))
          have HO4 := Lib.hid (own_below HO3.out b3)
          have y0 := keepc b3 HCL.out.1
          have y1 := keepc b3 HCL.out.2
          clear b3 HC HCL HB3 HO3 HO2 HB2
          cases hg : g q r
          · have HE := Lib.hid (prs_no HR.out hg)
            clear hg
            go_wp2_with fail
            go_roundw
            case rel => exact ⟨r + 1, A2, m2, c2, HR.out, rfl, by go_num, by rw [← Nat.add_assoc, HE.out]; exact HO4.out, HB4.out⟩
            case measure => have := HR.out; simp [intOf]; omega
          · have HE := Lib.hid (prs_yes HR.out hg)
            clear hg
            go_wp2_with (at_builtin; refine wpList_app2 (W := w) rfl _ _ 254 187 rfl Tryz.underlying254 infoPair _ m2 _ rfl HO4.out HB4.out (q : Int) (r : Int) rfl (by have := HM2.out; omega) ?_; intro A5 c5 w5 o5 b5)
            go_roundw
            case rel => exact ⟨r + 1, A5, m2 + 1, c5, HR.out, rfl, by go_num, by rw [← Nat.add_assoc, HE.out]; exact o5, b5⟩
            case measure => have := HR.out; simp [intOf]; omega
        · obtain rfl : r = 4 := by omega
          have HE : Hid (q * 4 + 4 = (q + 1) * 4) := Lib.hid (by omega)
          go_wp2_with fail
          go_roundw
          case rel => exact ⟨q + 1, A2, m2, c2, HQ.out, rfl, by go_num, by rw [← HE.out]; exact HO2.out, HB2.out⟩
          case measure => have := HQ.out; simp [intOf]; omega
    · obtain rfl : q = 4 := by omega
      go_wp2_with fail
      go_ret
      exact ⟨A1, m1, c1, rfl, HO.out, HB.out⟩
end Go.Proofs.YtlcegchdkigibaaGreatDoor.LP

namespace Go.Proofs.YtlcegchdkigibaaGreatDoor.LP
set_option linter.unusedVariables false
set_option linter.unusedSimpArgs false
open Go.RowKit Go.Lib

def Pm.cnt (p : Pm) : Nat := (prs p.fl 16).length
def Pm.full (p : Pm) : Bool := decide (p.mo ≤ p.cnt)
theorem inJoined (args : Array Value) (w : World) : (callFunc 148 args).run Tryz.prog w = .ok (.enter 148 args) w := callFunc_in (fn := Tryz.f148) (by kernel_rfl) (by kernel_rfl) rfl args w
theorem joins_any {w : World} {pb : Nat} {p : Pm} (h : St w pb p) : Calls Tryz.prog 211 #[.func (.func 148) #[ptr pb] #[]] w fun e w' => ∃ A n c, e = .returned (.slice A n c) ∧ w'.ownsRow w.heap.size 187 2 (.slice A n c) n (pv (prs p.fl 16)) ∧ Below w.heap.size w w' :=
  pairs_any inJoined fun w' b i j hi hj => joined_any (h.below b) hi hj

theorem own_pairs {w : World} {base : Nat} {e : TypeId} {A : Option Addr} {n c : Nat} {l : List (Int × Int)} (h : w.ownsRow base e 2 (.slice A n c) n (pv l)) : l.length = n ∧ n ≤ c ∧ c ≤ 9223372036854775807 := by
  obtain ⟨A', c', e', h1, h2, h3, -⟩ := PS.of_own h
  injection e' with _ _ e'
  subst e'
  exact ⟨h1, h2, h3⟩

set_option maxHeartbeats 1600000 in
theorem full_any {w : World} {pb : Nat} {p : Pm} (h : St w pb p) : Calls Tryz.prog 149 #[ptr pb] w fun e w' => e = .returned (.bool p.full) ∧ Below w.heap.size w w' := by
  have HP := Lib.hid (fun n => joins_any (h.drewN n))
  have c0 := h.m
  have HC : Hid (∀ w', Below w.heap.size w w' → w'.cell? ⟨pb, 24, none⟩ = some (.int .i64 (p.mo : Int))) := Lib.hid fun w' b => (h.below b).m
  have HBD := Lib.hid (fun n => below_dn (Below.refl w.heap.size w) n)
  have HL : Hid ((prs p.fl 16).length = p.cnt) := Lib.hid rfl
  have HFU : Hid (p.full = decide (p.mo ≤ p.cnt)) := Lib.hid rfl
  rw [HFU.out]
  have hmf : ∀ (fn : Fn) (first cap : Array Value) (w : World), (Instr.makeFunc fn first cap).run Tryz.prog w = .ok (.func fn first cap) w := fun _ _ _ _ => rfl
  unfold ptr at *
  clear h HFU
  generalize prs p.fl 16 = l at *
  generalize p.cnt = k at *
  generalize p.mo = mo at *
  go_enter Tryz.func149, Tryz.ntmps149
  go_wp2_with fail
  go_region_held3 (fun V => V.cell? ⟨pb, 24, none⟩ = some (.int .i64 (mo : Int)))
    (first | exact c0 | exact c1)
    (first
      | (go_at_call 211; refine (HP.out 1).mono ?_; rintro e w1 ⟨A, n, c, rfl, o1, b1⟩; have c1 := HC.out w1 ((HBD.out 1).trans b1); have hn := own_pairs o1; obtain ⟨hn1, hn2, hn3⟩ := hn; have HB1 := Lib.hid ((HBD.out 1).trans b1); clear o1 b1))
  obtain rfl : n = k := hn1.symm.trans HL.out
  go_wp2_with fail
  go_ret
  exact ⟨rfl, HB1.out⟩

theorem Pairs_any {w : World} {pb : Nat} {p : Pm} (h : St w pb p) : Calls Tryz.prog 265 #[ptr pb] w fun e w' => ∃ A n c, e = .returned (.slice A n c) ∧ w'.ownsRow w.heap.size 187 2 (.slice A n c) n (pv (prs p.fl 16)) ∧ Below w.heap.size w w' := by
  have HP := Lib.hid (joins_any h)
  have hmf : ∀ (fn : Fn) (first cap : Array Value) (w : World), (Instr.makeFunc fn first cap).run Tryz.prog w = .ok (.func fn first cap) w := fun _ _ _ _ => rfl
  unfold ptr at *
  clear h
  go_enter Tryz.func265, Tryz.ntmps265
  go_wp2_with fail
  refine (HP.out).mono ?_
  rintro e w1 ⟨A, n, c, rfl, o1, b1⟩
  have HO := Lib.hid o1
  have HB := Lib.hid b1
  clear o1 b1
  go_wp2_with fail
  go_ret
  exact ⟨A, n, c, rfl, HO.out, HB.out⟩

theorem infoInt : (Tryz.prog.info? 3).map (fun i => (i.zero, i.size, i.bytes)) = some (some (.int .i64 0), 1, 8) := by kernel_rfl
theorem _root_.Go.Proofs.YtlcegchdkigibaaGreatDoor.RI.lit1 (w : World) (x : Int) (t : TypeId) : RI .i64 (w.alloc (.cells #[.int .i64 x] t)) (some ⟨w.heap.size, 0, none⟩) 1 1 [x] := RI.lit .i64 w [x] t (by show 1 ≤ 9223372036854775807; decide)
def ags (f : Nat → Bool) : Value := .agg #[.bool (f 0), .bool (f 1), .bool (f 2), .bool (f 3)]
theorem idx_ags (f : Nat → Bool) {q : Nat} (hq : q < 4) (w : World) : (Instr.index 190 (ags f) (.int .i64 (q : Int))).run Tryz.prog w = .ok (.bool (f q)) w :=
  four (P := fun q => (Instr.index 190 (ags f) (.int .i64 (q : Int))).run Tryz.prog w = .ok (.bool (f q)) w) (by kernel_rfl) (by kernel_rfl) (by kernel_rfl) (by kernel_rfl) hq

set_option maxHeartbeats 1600000 in
theorem rising_any (f : Nat → Bool) (w : World) : Calls Tryz.prog 333 #[ags f] w fun e w' => ∃ A n c, e = .returned (.slice A n c) ∧ w'.ownsRow w.heap.size 3 1 (.slice A n c) n (iv .i64 (adr f 4)) ∧ Below w.heap.size w w' := by
  have HI := Lib.hid (fun (q : Nat) (hq : q < 4) (w : World) => idx_ags f hq w)
  have hb := below_a w (.cells #[.bool (f 0), .bool (f 1), .bool (f 2), .bool (f 3)] 190)
  have HB := Lib.hid hb
  clear hb
  unfold ags at *
  go_enter Tryz.func333, Tryz.ntmps333
  go_wp2_with fail
  go_loopw [3, 7] (fun s3 ix wr => ∃ (q : Nat) (A' : Option Addr) (m c' : Nat), q ≤ 4 ∧ s3 = .slice A' m c' ∧ ix = .int .i64 (q : Int) ∧ wr.ownsRow w.heap.size 3 1 (.slice A' m c') m (iv .i64 (adr f q)) ∧ Below w.heap.size w wr) (fun _ ix _ => 4 - (intOf ix).toNat)
  case atStart => exact ⟨0, none, 0, 0, Nat.zero_le _, rfl, rfl, World.ownsRow_nil _ _ _ _, HB.out⟩
  case round =>
    obtain ⟨q, A1, m, c1, hq, rfl, rfl, hO, B⟩ := hrel
    have HM : Hid (m ≤ 4) := Lib.hid (by
      have h1 := hO.1
      rw [iv_length] at h1
      have := adr_len f q
      omega)
    have HO := Lib.hid hO
    have HB1 := Lib.hid B
    clear hO B HB
    by_cases hqn : q < 4
    · have HQ := Lib.hid hqn
      have hix := fun w => HI.out q hqn w
      cases hr : f q
      · have HE := Lib.hid (adr_no hr)
        rw [hr] at hix
        clear hr
        go_wp2_with fail
        go_roundw
        case rel => exact ⟨q + 1, A1, m, c1, HQ.out, rfl, by go_num, by rw [HE.out]; exact HO.out, HB1.out⟩
        case measure => have := HQ.out; simp [intOf]; omega
      · have HE := Lib.hid (adr_yes hr)
        rw [hr] at hix
        clear hr
        go_wp2_with (at_builtin; refine wpList_appi (W := w) rfl _ _ .i64 55 3 8 rfl Tryz.underlying55 infoInt (by decide) _ _ _ rfl (own_below HO.out (below_a _ _)) (HB1.out.alloc HB1.out.size _) _ 1 1 [(q : Int)] rfl (RI.lit1 _ _ _) (by have := HM.out; omega) ?_; intro A3 c3 w5 r5 o5 b5; clear r5)
        go_roundw
        case rel => exact ⟨q + 1, A3, m + 1, c3, HQ.out, rfl, by go_num, by rw [HE.out]; exact o5, b5⟩
        case measure => have := HQ.out; simp [intOf]; omega
    · obtain rfl : q = 4 := by omega
      go_wp2_with fail
      go_ret
      exact ⟨A1, m, c1, rfl, HO.out, HB1.out⟩

theorem Own_any {w : World} {pb : Nat} {p : Pm} (h : St w pb p) : Calls Tryz.prog 264 #[ptr pb] w fun e w' => ∃ A n c, e = .returned (.slice A n c) ∧ w'.ownsRow w.heap.size 3 1 (.slice A n c) n (iv .i64 (adr p.ow 4)) ∧ Below w.heap.size w w' := by
  have HP := Lib.hid (rising_any p.ow w)
  have c0 : w.cell? ⟨pb, 0, none⟩ = _ := h.o (i := 0) (by decide)
  have c1 : w.cell? ⟨pb, 1, none⟩ = _ := h.o (i := 1) (by decide)
  have c2 : w.cell? ⟨pb, 2, none⟩ = _ := h.o (i := 2) (by decide)
  have c3 : w.cell? ⟨pb, 3, none⟩ = _ := h.o (i := 3) (by decide)
  unfold ptr
  unfold ags at HP
  clear h
  go_enter Tryz.func264, Tryz.ntmps264
  go_wp2_with fail
  refine (HP.out).mono ?_
  rintro e w1 ⟨A, n, c, rfl, o1, b1⟩
  have HO := Lib.hid o1
  have HB := Lib.hid b1
  clear o1 b1
  go_wp2_with fail
  go_ret
  exact ⟨A, n, c, rfl, HO.out, HB.out⟩
theorem Other_any {w : World} {pb : Nat} {p : Pm} (h : St w pb p) : Calls Tryz.prog 263 #[ptr pb] w fun e w' => ∃ A n c, e = .returned (.slice A n c) ∧ w'.ownsRow w.heap.size 3 1 (.slice A n c) n (iv .i64 (adr p.ot 4)) ∧ Below w.heap.size w w' := by
  have HP := Lib.hid (rising_any p.ot w)
  have c0 : w.cell? ⟨pb, 4, none⟩ = _ := h.t (i := 0) (by decide)
  have c1 : w.cell? ⟨pb, 5, none⟩ = _ := h.t (i := 1) (by decide)
  have c2 : w.cell? ⟨pb, 6, none⟩ = _ := h.t (i := 2) (by decide)
  have c3 : w.cell? ⟨pb, 7, none⟩ = _ := h.t (i := 3) (by decide)
  unfold ptr
  unfold ags at HP
  clear h
  go_enter Tryz.func263, Tryz.ntmps263
  go_wp2_with fail
  refine (HP.out).mono ?_
  rintro e w1 ⟨A, n, c, rfl, o1, b1⟩
  have HO := Lib.hid o1
  have HB := Lib.hid b1
  clear o1 b1
  go_wp2_with fail
  go_ret
  exact ⟨A, n, c, rfl, HO.out, HB.out⟩
end Go.Proofs.YtlcegchdkigibaaGreatDoor.LP

namespace Go.Proofs.YtlcegchdkigibaaGreatDoor.LP
set_option linter.unusedVariables false
set_option linter.unusedSimpArgs false
open Go.RowKit Go.Lib

def Pm.joinE (p : Pm) (x y : Int) : Int :=
  if (mb x && mb y) = true then (if (p.ow x.toNat && p.ot y.toNat) = true then (if p.fl x.toNat y.toNat = true then 8 else if p.full = true then 7 else 0) else 6) else 1
def Pm.joinS (p : Pm) (x y : Int) : Pm := if p.joinE x y = 0 then p.setF x.toNat y.toNat true else p
def Pm.goneB (p : Pm) (x y : Int) : Bool := mb x && mb y && p.fl x.toNat y.toNat
def Pm.goneS (p : Pm) (x y : Int) : Pm := if p.goneB x y = true then p.setF x.toNat y.toNat false else p
section
variable {p : Pm} {x y : Int} {i j : Nat}
theorem joinE_bad (h : (mb x && mb y) = false) : p.joinE x y = 1 := by unfold Pm.joinE; rw [h]; rfl
theorem joinS_bad (h : (mb x && mb y) = false) : p.joinS x y = p := by unfold Pm.joinS; rw [joinE_bad h]; rfl
theorem mb2_nat (h : (mb x && mb y) = true) : ∃ i j : Nat, x = (i : Int) ∧ y = (j : Int) ∧ i < 4 ∧ j < 4 := by
  rw [Bool.and_eq_true] at h
  obtain ⟨i, e1, h1⟩ := mb_nat h.1
  obtain ⟨j, e2, h2⟩ := mb_nat h.2
  exact ⟨i, j, e1, e2, h1, h2⟩
theorem mb2_of (hi : i < 4) (hj : j < 4) : (mb (i : Int) && mb (j : Int)) = true := by rw [mb_of hi, mb_of hj]; rfl
theorem joinE_good (hi : i < 4) (hj : j < 4) : p.joinE (i : Int) (j : Int) = if (p.ow i && p.ot j) = true then (if p.fl i j = true then 8 else if p.full = true then 7 else 0) else 6 := by
  unfold Pm.joinE
  rw [mb2_of hi hj]
  rfl
theorem join6 (hi : i < 4) (hj : j < 4) (h : (p.ow i && p.ot j) = false) : p.joinE (i : Int) (j : Int) = 6 := by rw [joinE_good hi hj, h]; rfl
theorem join8 (hi : i < 4) (hj : j < 4) (h : (p.ow i && p.ot j) = true) (h2 : p.fl i j = true) : p.joinE (i : Int) (j : Int) = 8 := by rw [joinE_good hi hj, h, h2]; rfl
theorem join7 (hi : i < 4) (hj : j < 4) (h : (p.ow i && p.ot j) = true) (h2 : p.fl i j = false) (h3 : p.full = true) : p.joinE (i : Int) (j : Int) = 7 := by rw [joinE_good hi hj, h, h2, h3]; rfl
theorem join0 (hi : i < 4) (hj : j < 4) (h : (p.ow i && p.ot j) = true) (h2 : p.fl i j = false) (h3 : p.full = false) : p.joinE (i : Int) (j : Int) = 0 := by rw [joinE_good hi hj, h, h2, h3]; rfl
theorem joinS_no (h : p.joinE x y ≠ 0) : p.joinS x y = p := by unfold Pm.joinS; rw [if_neg h]
theorem joinS_yes (h : p.joinE (i : Int) (j : Int) = 0) : p.joinS (i : Int) (j : Int) = p.setF i j true := by unfold Pm.joinS; rw [if_pos h]; rfl
end

set_option maxHeartbeats 1600000 in
theorem join_any {w : World} {pb : Nat} {p : Pm} (h : St w pb p) (x y : Int) : Calls Tryz.prog 103 #[ptr pb, .int .i64 x, .int .i64 y] w (Did w pb (.int .i64 (p.joinE x y)) (p.joinS x y)) := by
  have hb := below_a w (.cells #[.int .i64 x, .int .i64 y] 187)
  have HX := Lib.hid (fun w => pmayBe_any x y w)
  have HB := Lib.hid hb
  have HST := Lib.hid (fun w' (b : Below w.heap.size w w') => h.below b)
  have hcell := cell2 w (.int .i64 x) (.int .i64 y) 187
  have HCL := Lib.hid hcell
  obtain ⟨y0, y1⟩ := hcell
  unfold pr at HX
  unfold ptr
  cases hm : mb x && mb y
  · rw [hm] at HX
    rw [joinE_bad hm, joinS_bad hm]
    clear h hm hb
    go_enter Tryz.func103, Tryz.ntmps103
    go_wp2_with fail
    refine (HX.out _).mono ?_
    rintro e w1 ⟨rfl, b1⟩
    have HB1 := Lib.hid (HB.out.trans (b1.mono HB.out.size))
    clear b1
    go_wp2_with fail
    go_ret
    exact ⟨rfl, HST.out _ HB1.out, Ch.of_below _ HB1.out⟩
  · rw [hm] at HX
    obtain ⟨i, j, rfl, rfl, hi, hj⟩ := mb2_nat hm
    have HK := Lib.hid (fun w' (b : Below w.heap.size w w') => knows_any (h.below b) hi hj)
    have HJ := Lib.hid (fun w' (b : Below w.heap.size w w') => joined_any (h.below b) hi hj)
    have HF := Lib.hid (fun w' (b : Below w.heap.size w w') => full_any (h.below b))
    have HC := Lib.hid (fun w' (b : Below w.heap.size w w') => And.intro ((h.below b).f hi hj) ((h.below b).fz (8 + i * 4 + j)))
    have HS := Lib.hid (fun w' (b : Below w.heap.size w w') => (h.below b).setF hi hj true)
    have H6 := Lib.hid (@join6 p i j hi hj)
    have H8 := Lib.hid (@join8 p i j hi hj)
    have H7 := Lib.hid (@join7 p i j hi hj)
    have H0 := Lib.hid (@join0 p i j hi hj)
    have HSN := Lib.hid (@joinS_no p (i : Int) (j : Int))
    have HSY := Lib.hid (@joinS_yes p i j)
    unfold pr ptr at *
    have HI := Lib.hid (And.intro hi hj)
    clear h hm hb
    cases hu : p.ow i && p.ot j
    · rw [HSN.out (by rw [H6.out hu]; decide), H6.out hu]
      rw [hu] at HK
      clear hu
      go_enter Tryz.func103, Tryz.ntmps103
      go_wp2_with fail
      refine (HX.out _).mono ?_
      rintro e w1 ⟨rfl, b1⟩
      have HB1 := Lib.hid (HB.out.trans (b1.mono HB.out.size))
      obtain ⟨y0, y1⟩ := HCL.out
      replace y0 := keepc b1 y0
      replace y1 := keepc b1 y1
      clear b1
      go_wp2_with fail
      refine (HK.out _ HB1.out).mono ?_
      rintro e w2 ⟨rfl, b2⟩
      have HB2 := Lib.hid (HB1.out.trans (b2.mono HB1.out.size))
      clear b2
      go_wp2_with fail
      go_ret
      exact ⟨rfl, HST.out _ HB2.out, Ch.of_below _ HB2.out⟩
    · rw [hu] at HK
      cases hv : p.fl i j
      · rw [hv] at HJ HC
        cases hz : p.full
        · rw [hz] at HF
          rw [HSY.out (H0.out hu hv hz), H0.out hu hv hz]
          clear hu hv hz
          go_enter Tryz.func103, Tryz.ntmps103
          go_wp2_with fail
          refine (HX.out _).mono ?_
          rintro e w1 ⟨rfl, b1⟩
          have HB1 := Lib.hid (HB.out.trans (b1.mono HB.out.size))
          obtain ⟨y0, y1⟩ := HCL.out
          replace y0 := keepc b1 y0
          replace y1 := keepc b1 y1
          clear b1
          go_wp2_with fail
          refine (HK.out _ HB1.out).mono ?_
          rintro e w2 ⟨rfl, b2⟩
          have HB2 := Lib.hid (HB1.out.trans (b2.mono HB1.out.size))
          replace y0 := keepc b2 y0
          replace y1 := keepc b2 y1
          clear b2
          go_wp2_with fail
          refine (HJ.out _ HB2.out).mono ?_
          rintro e w3 ⟨rfl, b3⟩
          have HB3 := Lib.hid (HB2.out.trans (b3.mono HB2.out.size))
          clear b3 y0 y1
          go_wp2_with fail
          refine (HF.out _ HB3.out).mono ?_
          rintro e w4 ⟨rfl, b4⟩
          have HB4 := Lib.hid (HB3.out.trans (b4.mono HB3.out.size))
          clear b4
          obtain ⟨c4, f4⟩ := HC.out _ HB4.out
          obtain ⟨hi, hj⟩ := HI.out
          go_wp2_with fail
          go_ret
          exact ⟨rfl, HS.out _ HB4.out, (Ch.of_below _ HB4.out).then_ ch_set⟩
        · rw [hz] at HF
          rw [HSN.out (by rw [H7.out hu hv hz]; decide), H7.out hu hv hz]
          clear hu hv hz
          go_enter Tryz.func103, Tryz.ntmps103
          go_wp2_with fail
          refine (HX.out _).mono ?_
          rintro e w1 ⟨rfl, b1⟩
          have HB1 := Lib.hid (HB.out.trans (b1.mono HB.out.size))
          obtain ⟨y0, y1⟩ := HCL.out
          replace y0 := keepc b1 y0
          replace y1 := keepc b1 y1
          clear b1
          go_wp2_with fail
          refine (HK.out _ HB1.out).mono ?_
          rintro e w2 ⟨rfl, b2⟩
          have HB2 := Lib.hid (HB1.out.trans (b2.mono HB1.out.size))
          replace y0 := keepc b2 y0
          replace y1 := keepc b2 y1
          clear b2
          go_wp2_with fail
          refine (HJ.out _ HB2.out).mono ?_
          rintro e w3 ⟨rfl, b3⟩
          have HB3 := Lib.hid (HB2.out.trans (b3.mono HB2.out.size))
          clear b3 y0 y1
          go_wp2_with fail
          refine (HF.out _ HB3.out).mono ?_
          rintro e w4 ⟨rfl, b4⟩
          have HB4 := Lib.hid (HB3.out.trans (b4.mono HB3.out.size))
          clear b4
          go_wp2_with fail
          go_ret
          exact ⟨rfl, HST.out _ HB4.out, Ch.of_below _ HB4.out⟩
      · rw [hv] at HJ
        rw [HSN.out (by rw [H8.out hu hv]; decide), H8.out hu hv]
        clear hu hv
        go_enter Tryz.func103, Tryz.ntmps103
        go_wp2_with fail
        refine (HX.out _).mono ?_
        rintro e w1 ⟨rfl, b1⟩
        have HB1 := Lib.hid (HB.out.trans (b1.mono HB.out.size))
        obtain ⟨y0, y1⟩ := HCL.out
        replace y0 := keepc b1 y0
        replace y1 := keepc b1 y1
        clear b1
        go_wp2_with fail
        refine (HK.out _ HB1.out).mono ?_
        rintro e w2 ⟨rfl, b2⟩
        have HB2 := Lib.hid (HB1.out.trans (b2.mono HB1.out.size))
        replace y0 := keepc b2 y0
        replace y1 := keepc b2 y1
        clear b2
        go_wp2_with fail
        refine (HJ.out _ HB2.out).mono ?_
        rintro e w3 ⟨rfl, b3⟩
        have HB3 := Lib.hid (HB2.out.trans (b3.mono HB2.out.size))
        clear b3 y0 y1
        go_wp2_with fail
        go_ret
        exact ⟨rfl, HST.out _ HB3.out, Ch.of_below _ HB3.out⟩

theorem goneB_bad {p : Pm} {x y : Int} (h : (mb x && mb y) = false) : p.goneB x y = false := by unfold Pm.goneB; rw [h]; rfl
theorem goneB_good {p : Pm} {i j : Nat} (hi : i < 4) (hj : j < 4) : p.goneB (i : Int) (j : Int) = p.fl i j := by unfold Pm.goneB; rw [mb2_of hi hj]; rfl
theorem goneS_no {p : Pm} {x y : Int} (h : p.goneB x y = false) : p.goneS x y = p := by unfold Pm.goneS; rw [h]; rfl
theorem goneS_yes {p : Pm} {i j : Nat} (h : p.goneB (i : Int) (j : Int) = true) : p.goneS (i : Int) (j : Int) = p.setF i j false := by unfold Pm.goneS; rw [h]; rfl

set_option maxHeartbeats 1600000 in
theorem gone_any {w : World} {pb : Nat} {p : Pm} (h : St w pb p) (x y : Int) : Calls Tryz.prog 330 #[ptr pb, .int .i64 x, .int .i64 y] w (Did w pb (.bool (p.goneB x y)) (p.goneS x y)) := by
  have hb := below_a w (.cells #[.int .i64 x, .int .i64 y] 187)
  have HX := Lib.hid (fun w => pmayBe_any x y w)
  have HB := Lib.hid hb
  have HST := Lib.hid (fun w' (b : Below w.heap.size w w') => h.below b)
  have hcell := cell2 w (.int .i64 x) (.int .i64 y) 187
  have HCL := Lib.hid hcell
  obtain ⟨y0, y1⟩ := hcell
  unfold pr at HX
  unfold ptr
  cases hm : mb x && mb y
  · rw [hm] at HX
    rw [goneS_no (goneB_bad hm), goneB_bad hm]
    clear h hm hb
    go_enter Tryz.func330, Tryz.ntmps330
    go_wp2_with fail
    refine (HX.out _).mono ?_
    rintro e w1 ⟨rfl, b1⟩
    have HB1 := Lib.hid (HB.out.trans (b1.mono HB.out.size))
    clear b1
    go_wp2_with fail
    go_ret
    exact ⟨rfl, HST.out _ HB1.out, Ch.of_below _ HB1.out⟩
  · rw [hm] at HX
    obtain ⟨i, j, rfl, rfl, hi, hj⟩ := mb2_nat hm
    have HJ := Lib.hid (fun w' (b : Below w.heap.size w w') => joined_any (h.below b) hi hj)
    have HC := Lib.hid (fun w' (b : Below w.heap.size w w') => And.intro ((h.below b).f hi hj) ((h.below b).fz (8 + i * 4 + j)))
    have HS := Lib.hid (fun w' (b : Below w.heap.size w w') => (h.below b).setF hi hj false)
    have HG := Lib.hid (@goneB_good p i j hi hj)
    have HSN := Lib.hid (@goneS_no p (i : Int) (j : Int))
    have HSY := Lib.hid (@goneS_yes p i j)
    unfold pr ptr at *
    have HI := Lib.hid (And.intro hi hj)
    clear h hm hb
    cases hv : p.fl i j
    · rw [hv] at HJ HG
      rw [HSN.out HG.out, HG.out]
      clear hv
      go_enter Tryz.func330, Tryz.ntmps330
      go_wp2_with fail
      refine (HX.out _).mono ?_
      rintro e w1 ⟨rfl, b1⟩
      have HB1 := Lib.hid (HB.out.trans (b1.mono HB.out.size))
      obtain ⟨y0, y1⟩ := HCL.out
      replace y0 := keepc b1 y0
      replace y1 := keepc b1 y1
      clear b1
      go_wp2_with fail
      refine (HJ.out _ HB1.out).mono ?_
      rintro e w3 ⟨rfl, b3⟩
      have HB3 := Lib.hid (HB1.out.trans (b3.mono HB1.out.size))
      clear b3 y0 y1
      go_wp2_with fail
      go_ret
      exact ⟨rfl, HST.out _ HB3.out, Ch.of_below _ HB3.out⟩
    · rw [hv] at HJ HC HG
      rw [HSY.out HG.out, HG.out]
      clear hv
      go_enter Tryz.func330, Tryz.ntmps330
      go_wp2_with fail
      refine (HX.out _).mono ?_
      rintro e w1 ⟨rfl, b1⟩
      have HB1 := Lib.hid (HB.out.trans (b1.mono HB.out.size))
      obtain ⟨y0, y1⟩ := HCL.out
      replace y0 := keepc b1 y0
      replace y1 := keepc b1 y1
      clear b1
      go_wp2_with fail
      refine (HJ.out _ HB1.out).mono ?_
      rintro e w3 ⟨rfl, b3⟩
      have HB3 := Lib.hid (HB1.out.trans (b3.mono HB1.out.size))
      clear b3 y0 y1
      obtain ⟨c4, f4⟩ := HC.out _ HB3.out
      obtain ⟨hi, hj⟩ := HI.out
      go_wp2_with fail
      go_ret
      exact ⟨rfl, HS.out _ HB3.out, (Ch.of_below _ HB3.out).then_ ch_set⟩
end Go.Proofs.YtlcegchdkigibaaGreatDoor.LP

/- A path manager: what it says, and how the program has it in memory. No condition. -/
import Derived.Test.YtpkhalneclmoeaaGen
import Derived.Test.YtpkhalneclmoeaaInt
namespace Go.Proofs.Ytpkhalneclmoeaa
set_option linter.unusedVariables false
set_option linter.unusedSimpArgs false
open Go.RowKit Go.Lib

def ptr (b : Nat) : Value := .pointer (some ⟨b, 0, none⟩)

/-- What a path manager knows: which own addresses were told, which of the other side's, which pairs have a flow, and how many there may be. -/
structure Pm where
  ow : Nat → Bool
  ot : Nat → Bool
  fl : Nat → Nat → Bool
  mo : Nat
def upd (f : Nat → Bool) (i : Nat) (b : Bool) : Nat → Bool := fun k => if k = i then b else f k
def upd2 (f : Nat → Nat → Bool) (i j : Nat) (b : Bool) : Nat → Nat → Bool := fun k m => if k = i ∧ m = j then b else f k m
def Pm.setO (p : Pm) (i : Nat) (b : Bool) : Pm := { p with ow := upd p.ow i b }
def Pm.setT (p : Pm) (i : Nat) (b : Bool) : Pm := { p with ot := upd p.ot i b }
def Pm.setF (p : Pm) (i j : Nat) (b : Bool) : Pm := { p with fl := upd2 p.fl i j b }
def Pm.cs (p : Pm) : Array Value := #[.bool (p.ow 0), .bool (p.ow 1), .bool (p.ow 2), .bool (p.ow 3), .bool (p.ot 0), .bool (p.ot 1), .bool (p.ot 2), .bool (p.ot 3),
  .bool (p.fl 0 0), .bool (p.fl 0 1), .bool (p.fl 0 2), .bool (p.fl 0 3), .bool (p.fl 1 0), .bool (p.fl 1 1), .bool (p.fl 1 2), .bool (p.fl 1 3),
  .bool (p.fl 2 0), .bool (p.fl 2 1), .bool (p.fl 2 2), .bool (p.fl 2 3), .bool (p.fl 3 0), .bool (p.fl 3 1), .bool (p.fl 3 2), .bool (p.fl 3 3), .int .i64 (p.mo : Int)]

theorem four {P : Nat → Prop} (h0 : P 0) (h1 : P 1) (h2 : P 2) (h3 : P 3) {i : Nat} (hi : i < 4) : P i := by
  match i, hi with
  | 0, _ => exact h0
  | 1, _ => exact h1
  | 2, _ => exact h2
  | 3, _ => exact h3

/-- At block b the manager stands. -/
def St (w : World) (b : Nat) (p : Pm) : Prop := w.heap[b]? = some (.cells p.cs 67 (0, 0))
section
variable {w w' : World} {b : Nat} {p : Pm}
theorem St.lt (h : St w b p) : b < w.heap.size := (Array.getElem?_eq_some_iff.1 h).1
theorem St.o (h : St w b p) {i : Nat} (hi : i < 4) : w.cell? ⟨b, i, none⟩ = some (.bool (p.ow i)) := by
  rw [cell_of_row w b i _ _ (0, 0) h]
  exact four (P := fun i => p.cs[i]? = some (.bool (p.ow i))) rfl rfl rfl rfl hi
theorem St.t (h : St w b p) {i : Nat} (hi : i < 4) : w.cell? ⟨b, 4 + i, none⟩ = some (.bool (p.ot i)) := by
  rw [cell_of_row w b (4 + i) _ _ (0, 0) h]
  exact four (P := fun i => p.cs[4 + i]? = some (.bool (p.ot i))) rfl rfl rfl rfl hi
theorem St.f (h : St w b p) {i j : Nat} (hi : i < 4) (hj : j < 4) : w.cell? ⟨b, 8 + i * 4 + j, none⟩ = some (.bool (p.fl i j)) := by
  rw [cell_of_row w b (8 + i * 4 + j) _ _ (0, 0) h]
  refine four (P := fun i => p.cs[8 + i * 4 + j]? = some (.bool (p.fl i j))) ?_ ?_ ?_ ?_ hi
  · exact four (P := fun j => p.cs[8 + 0 * 4 + j]? = some (.bool (p.fl 0 j))) rfl rfl rfl rfl hj
  · exact four (P := fun j => p.cs[8 + 1 * 4 + j]? = some (.bool (p.fl 1 j))) rfl rfl rfl rfl hj
  · exact four (P := fun j => p.cs[8 + 2 * 4 + j]? = some (.bool (p.fl 2 j))) rfl rfl rfl rfl hj
  · exact four (P := fun j => p.cs[8 + 3 * 4 + j]? = some (.bool (p.fl 3 j))) rfl rfl rfl rfl hj
theorem St.m (h : St w b p) : w.cell? ⟨b, 24, none⟩ = some (.int .i64 (p.mo : Int)) := by rw [cell_of_row w b 24 _ _ (0, 0) h]; rfl
theorem St.fz (h : St w b p) (j : Nat) : w.frozen? ⟨b, j, none⟩ = false := by simp [World.frozen?, show w.heap[b]? = _ from h]
theorem St.ch (h : St w b p) {m : Nat → Prop} (k : Ch w w' m) (hb : ¬ m b) : St w' b p := (k.block b h.lt hb).trans h
theorem St.below (h : St w b p) (k : Below w.heap.size w w') : St w' b p := (k.block b h.lt).trans h
theorem St.drewN (h : St w b p) (n : Nat) : St (w.drewN n) b p := h
theorem St.set (h : St w b p) (k : Nat) (v : Value) {q : Pm} (hq : p.cs.setIfInBounds k v = q.cs) : St (w.setCell ⟨b, k, none⟩ v) b q := by
  have := h
  unfold St at *
  rw [← hq]
  simp [World.setCell, Array.getElem?_modify, this]
theorem St.setO (h : St w b p) {i : Nat} (hi : i < 4) (v : Bool) : St (w.setCell ⟨b, i, none⟩ (.bool v)) b (p.setO i v) :=
  h.set i _ (four (P := fun i => p.cs.setIfInBounds i (.bool v) = (p.setO i v).cs) rfl rfl rfl rfl hi)
theorem St.setT (h : St w b p) {i : Nat} (hi : i < 4) (v : Bool) : St (w.setCell ⟨b, 4 + i, none⟩ (.bool v)) b (p.setT i v) :=
  h.set _ _ (four (P := fun i => p.cs.setIfInBounds (4 + i) (.bool v) = (p.setT i v).cs) rfl rfl rfl rfl hi)
theorem St.setF (h : St w b p) {i j : Nat} (hi : i < 4) (hj : j < 4) (v : Bool) : St (w.setCell ⟨b, 8 + i * 4 + j, none⟩ (.bool v)) b (p.setF i j v) := by
  refine h.set _ _ ?_
  refine four (P := fun i => p.cs.setIfInBounds (8 + i * 4 + j) (.bool v) = (p.setF i j v).cs) ?_ ?_ ?_ ?_ hi
  · exact four (P := fun j => p.cs.setIfInBounds (8 + 0 * 4 + j) (.bool v) = (p.setF 0 j v).cs) rfl rfl rfl rfl hj
  · exact four (P := fun j => p.cs.setIfInBounds (8 + 1 * 4 + j) (.bool v) = (p.setF 1 j v).cs) rfl rfl rfl rfl hj
  · exact four (P := fun j => p.cs.setIfInBounds (8 + 2 * 4 + j) (.bool v) = (p.setF 2 j v).cs) rfl rfl rfl rfl hj
  · exact four (P := fun j => p.cs.setIfInBounds (8 + 3 * 4 + j) (.bool v) = (p.setF 3 j v).cs) rfl rfl rfl rfl hj
end
theorem ch_set {w : World} {b k : Nat} {v : Value} : Ch w (w.setCell ⟨b, k, none⟩ v) (fun x => x = b) := (Ch.refl w _).setCell (m := fun x => x = b) (fun _ => rfl) v

/-- There may be such an address. -/
def mb (x : Int) : Bool := decide (0 ≤ x ∧ x < 4)
theorem mb_nat {x : Int} (h : mb x = true) : ∃ i : Nat, x = (i : Int) ∧ i < 4 := by
  have := of_decide_eq_true h
  exact ⟨x.toNat, by omega, by omega⟩
theorem mb_of {i : Nat} (h : i < 4) : mb (i : Int) = true := decide_eq_true (by omega)

theorem mayBe_any (x : Int) (w : World) : Calls Try.prog 29 #[.int .i64 x] w fun e w' => e = .returned (.bool (mb x)) ∧ w' = w := by
  by_cases h : mb x = true
  · have h1 := of_decide_eq_true h
    have h2 : (0 : Int) ≤ x := h1.1
    have h3 : x < 4 := h1.2
    rw [h]
    clear h h1
    go_enter Try.func29, Try.ntmps29
    go_wp2_with fail
    go_ret
    exact ⟨rfl, rfl⟩
  · have h' : mb x = false := by simpa using h
    have h1 := of_decide_eq_false h'
    rw [h']
    clear h h'
    by_cases h2 : (0 : Int) ≤ x
    · have h3 : ¬ x < 4 := fun h => h1 ⟨h2, h⟩
      clear h1
      go_enter Try.func29, Try.ntmps29
      go_wp2_with fail
      go_ret
      exact ⟨rfl, rfl⟩
    · clear h1
      go_enter Try.func29, Try.ntmps29
      go_wp2_with fail
      go_ret
      exact ⟨rfl, rfl⟩

def pr (x y : Int) : Value := .agg #[.int .i64 x, .int .i64 y]
theorem cell2 (w : World) (x y : Value) (t : TypeId) : (w.alloc (.cells #[x, y] t)).cell? ⟨w.heap.size, 0, none⟩ = some x ∧ (w.alloc (.cells #[x, y] t)).cell? ⟨w.heap.size, 1, none⟩ = some y :=
  ⟨by rw [cell_of_row _ _ _ _ _ _ (heap_alloc_new w _)]; rfl, by rw [cell_of_row _ _ _ _ _ _ (heap_alloc_new w _)]; rfl⟩
theorem pmayBe_any (x y : Int) (w : World) : Calls Try.prog 37 #[pr x y] w fun e w' => e = .returned (.bool (mb x && mb y)) ∧ Below w.heap.size w w' := by
  have HX := Lib.hid (fun w => mayBe_any x w)
  have HY := Lib.hid (fun w => mayBe_any y w)
  have HB := Lib.hid (below_a w (.cells #[.int .i64 x, .int .i64 y] 45))
  unfold pr
  generalize mb x = a at *
  generalize mb y = b at *
  cases a
  all_goals
    go_enter Try.func37, Try.ntmps37
    go_wp2_with fail
    refine (HX.out _).mono ?_
    rintro e w1 ⟨rfl, rfl⟩
    go_wp2_with fail
    try
      refine (HY.out _).mono ?_
      rintro e w1 ⟨rfl, rfl⟩
      go_wp2_with fail
    go_ret
    exact ⟨rfl, HB.out⟩
end Go.Proofs.Ytpkhalneclmoeaa

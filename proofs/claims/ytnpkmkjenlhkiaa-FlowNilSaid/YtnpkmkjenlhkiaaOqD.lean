/- The contracts of a piece's length. Condition: the piece stands, its data are at most 2^40 bytes. -/
import Derived.Test.YtnpkmkjenlhkiaaOqC
namespace Go.Proofs.Ytnpkmkjenlhkiaa
set_option linter.unusedVariables false
set_option linter.unusedSimpArgs false
open Go.RowKit

/-- An element of an array that is a value. -/
theorem run_index_row (W : World) (t e : TypeId) (n : Nat) (cs : Array Value) (k : Int) (v : Value) (ht : Try.prog.underlying t = some (.array n e)) (hs : ∀ W : World, (sizeOf e).run Try.prog W = .ok 1 W) (ha : ∀ W : World, (isAgg e).run Try.prog W = .ok false W)
    (h0 : 0 ≤ k) (hk : k < n) (hv : cs[k.toNat]? = some v) : (Instr.index t (.agg cs) (.int .i64 k)).run Try.prog W = .ok v W := by
  simp [Instr.index, run_underlying ht, asIntOf, h0, hk, hs, part, ha, hv, show ¬ (n : Int) ≤ k by omega]
theorem szBool (W : World) : (sizeOf 4).run Try.prog W = .ok 1 W := by kernel_rfl
theorem aggBool (W : World) : (isAgg 4).run Try.prog W = .ok false W := by kernel_rfl

/-- The cells of a segment with two flags and data alone. -/
def sgv (syn fin : Bool) (A : Option Addr) (n c : Nat) : List Value := [.int .i64 0, .int .i64 0, .int .i64 0, .int .i64 0, .int .u32 0, .int .u32 0, .bool syn, .bool false, .bool fin, .bool false, .int .i64 0, .slice none 0 0, .slice A n c]
theorem sgv_length (syn fin : Bool) (A : Option Addr) (n c : Nat) : (sgv syn fin A n c).length = 13 := rfl

set_option maxRecDepth 8000 in
set_option maxHeartbeats 1600000 in
theorem Long_any (syn fin : Bool) (dA : Option Addr) (dn dc : Nat) (w : World) (hl : dn ≤ dc) (hm : dc ≤ 9223372036854775807) (hd : dn ≤ 1099511627776) :
    Calls Try.prog 62 #[.agg (sgv syn fin dA dn dc).toArray] w fun e w' => e = .returned (.int .i64 ((dn + bn syn + bn fin : Nat) : Int)) ∧ Below w.heap.size w w' := by
  cases syn <;> cases fin
  · go_enter Try.func62, Try.ntmps62
    go_wp2_with (first
      | ((with_reducible refine wpList_here ?_); refine wpList_boxV (o := ⟨some 1, _, _, _, _, _⟩) rfl 47 (.tmp 0) rfl (sgv false false dA dn dc) rfl _ rfl ?_; intro w1 z1 b1 s1; have k6 : w1.cell? ⟨w.heap.size, 6, none⟩ = some (.bool false) := (z1 6 (by rw [sgv_length]; omega)).1; have k8 : w1.cell? ⟨w.heap.size, 8, none⟩ = some (.bool false) := (z1 8 (by rw [sgv_length]; omega)).1; have k12 : w1.cell? ⟨w.heap.size, 12, none⟩ = some (.slice dA dn dc) := (z1 12 (by rw [sgv_length]; omega)).1))
    have i0 := fun W => run_index_row W 110 4 2 #[.bool false, .bool false] 0 _ Try.underlying110 szBool aggBool (by omega) (by omega) rfl
    have i1 := fun W => run_index_row W 110 4 2 #[.bool false, .bool false] 1 _ Try.underlying110 szBool aggBool (by omega) (by omega) rfl
    go_loopw [3, 14] (fun x i wr => wr = w1 ∧ ((i = .int .i64 0 ∧ x = .int .i64 (dn : Int)) ∨ (i = .int .i64 1 ∧ x = .int .i64 ((dn + bn false : Nat) : Int)) ∨ (i = .int .i64 2 ∧ x = .int .i64 ((dn + bn false + bn false : Nat) : Int)))) (fun _ i _ => 2 - (intOf i).toNat)
    case atStart => exact ⟨rfl, Or.inl ⟨rfl, rfl⟩⟩
    case round =>
      obtain ⟨rfl, ⟨rfl, rfl⟩ | ⟨rfl, rfl⟩ | ⟨rfl, rfl⟩⟩ := hrel
      · go_wp2
        go_roundw
        case rel => exact ⟨trivial, Or.inr (Or.inl ⟨rfl, rfl⟩)⟩
        case measure => simp [intOf]
      · simp only [bn, if_true, Bool.false_eq_true, if_false, Nat.add_zero]
        go_wp2
        go_roundw
        case rel => exact ⟨trivial, Or.inr (Or.inr ⟨rfl, rfl⟩)⟩
        case measure => simp [intOf]
      · go_wp2
        go_ret
        exact ⟨rfl, b1⟩
  · go_enter Try.func62, Try.ntmps62
    go_wp2_with (first
      | ((with_reducible refine wpList_here ?_); refine wpList_boxV (o := ⟨some 1, _, _, _, _, _⟩) rfl 47 (.tmp 0) rfl (sgv false true dA dn dc) rfl _ rfl ?_; intro w1 z1 b1 s1; have k6 : w1.cell? ⟨w.heap.size, 6, none⟩ = some (.bool false) := (z1 6 (by rw [sgv_length]; omega)).1; have k8 : w1.cell? ⟨w.heap.size, 8, none⟩ = some (.bool true) := (z1 8 (by rw [sgv_length]; omega)).1; have k12 : w1.cell? ⟨w.heap.size, 12, none⟩ = some (.slice dA dn dc) := (z1 12 (by rw [sgv_length]; omega)).1))
    have i0 := fun W => run_index_row W 110 4 2 #[.bool false, .bool true] 0 _ Try.underlying110 szBool aggBool (by omega) (by omega) rfl
    have i1 := fun W => run_index_row W 110 4 2 #[.bool false, .bool true] 1 _ Try.underlying110 szBool aggBool (by omega) (by omega) rfl
    go_loopw [3, 14] (fun x i wr => wr = w1 ∧ ((i = .int .i64 0 ∧ x = .int .i64 (dn : Int)) ∨ (i = .int .i64 1 ∧ x = .int .i64 ((dn + bn false : Nat) : Int)) ∨ (i = .int .i64 2 ∧ x = .int .i64 ((dn + bn false + bn true : Nat) : Int)))) (fun _ i _ => 2 - (intOf i).toNat)
    case atStart => exact ⟨rfl, Or.inl ⟨rfl, rfl⟩⟩
    case round =>
      obtain ⟨rfl, ⟨rfl, rfl⟩ | ⟨rfl, rfl⟩ | ⟨rfl, rfl⟩⟩ := hrel
      · go_wp2
        go_roundw
        case rel => exact ⟨trivial, Or.inr (Or.inl ⟨rfl, rfl⟩)⟩
        case measure => simp [intOf]
      · simp only [bn, if_true, Bool.false_eq_true, if_false, Nat.add_zero]
        go_wp2
        go_roundw
        case rel => exact ⟨trivial, Or.inr (Or.inr ⟨rfl, rfl⟩)⟩
        case measure => simp [intOf]
      · go_wp2
        go_ret
        exact ⟨rfl, b1⟩
  · go_enter Try.func62, Try.ntmps62
    go_wp2_with (first
      | ((with_reducible refine wpList_here ?_); refine wpList_boxV (o := ⟨some 1, _, _, _, _, _⟩) rfl 47 (.tmp 0) rfl (sgv true false dA dn dc) rfl _ rfl ?_; intro w1 z1 b1 s1; have k6 : w1.cell? ⟨w.heap.size, 6, none⟩ = some (.bool true) := (z1 6 (by rw [sgv_length]; omega)).1; have k8 : w1.cell? ⟨w.heap.size, 8, none⟩ = some (.bool false) := (z1 8 (by rw [sgv_length]; omega)).1; have k12 : w1.cell? ⟨w.heap.size, 12, none⟩ = some (.slice dA dn dc) := (z1 12 (by rw [sgv_length]; omega)).1))
    have i0 := fun W => run_index_row W 110 4 2 #[.bool true, .bool false] 0 _ Try.underlying110 szBool aggBool (by omega) (by omega) rfl
    have i1 := fun W => run_index_row W 110 4 2 #[.bool true, .bool false] 1 _ Try.underlying110 szBool aggBool (by omega) (by omega) rfl
    go_loopw [3, 14] (fun x i wr => wr = w1 ∧ ((i = .int .i64 0 ∧ x = .int .i64 (dn : Int)) ∨ (i = .int .i64 1 ∧ x = .int .i64 ((dn + bn true : Nat) : Int)) ∨ (i = .int .i64 2 ∧ x = .int .i64 ((dn + bn true + bn false : Nat) : Int)))) (fun _ i _ => 2 - (intOf i).toNat)
    case atStart => exact ⟨rfl, Or.inl ⟨rfl, rfl⟩⟩
    case round =>
      obtain ⟨rfl, ⟨rfl, rfl⟩ | ⟨rfl, rfl⟩ | ⟨rfl, rfl⟩⟩ := hrel
      · go_wp2
        go_roundw
        case rel => exact ⟨trivial, Or.inr (Or.inl ⟨rfl, rfl⟩)⟩
        case measure => simp [intOf]
      · simp only [bn, if_true, Bool.false_eq_true, if_false, Nat.add_zero]
        go_wp2
        go_roundw
        case rel => exact ⟨trivial, Or.inr (Or.inr ⟨rfl, rfl⟩)⟩
        case measure => simp [intOf]
      · go_wp2
        go_ret
        exact ⟨rfl, b1⟩
  · go_enter Try.func62, Try.ntmps62
    go_wp2_with (first
      | ((with_reducible refine wpList_here ?_); refine wpList_boxV (o := ⟨some 1, _, _, _, _, _⟩) rfl 47 (.tmp 0) rfl (sgv true true dA dn dc) rfl _ rfl ?_; intro w1 z1 b1 s1; have k6 : w1.cell? ⟨w.heap.size, 6, none⟩ = some (.bool true) := (z1 6 (by rw [sgv_length]; omega)).1; have k8 : w1.cell? ⟨w.heap.size, 8, none⟩ = some (.bool true) := (z1 8 (by rw [sgv_length]; omega)).1; have k12 : w1.cell? ⟨w.heap.size, 12, none⟩ = some (.slice dA dn dc) := (z1 12 (by rw [sgv_length]; omega)).1))
    have i0 := fun W => run_index_row W 110 4 2 #[.bool true, .bool true] 0 _ Try.underlying110 szBool aggBool (by omega) (by omega) rfl
    have i1 := fun W => run_index_row W 110 4 2 #[.bool true, .bool true] 1 _ Try.underlying110 szBool aggBool (by omega) (by omega) rfl
    go_loopw [3, 14] (fun x i wr => wr = w1 ∧ ((i = .int .i64 0 ∧ x = .int .i64 (dn : Int)) ∨ (i = .int .i64 1 ∧ x = .int .i64 ((dn + bn true : Nat) : Int)) ∨ (i = .int .i64 2 ∧ x = .int .i64 ((dn + bn true + bn true : Nat) : Int)))) (fun _ i _ => 2 - (intOf i).toNat)
    case atStart => exact ⟨rfl, Or.inl ⟨rfl, rfl⟩⟩
    case round =>
      obtain ⟨rfl, ⟨rfl, rfl⟩ | ⟨rfl, rfl⟩ | ⟨rfl, rfl⟩⟩ := hrel
      · go_wp2
        go_roundw
        case rel => exact ⟨trivial, Or.inr (Or.inl ⟨rfl, rfl⟩)⟩
        case measure => simp [intOf]
      · simp only [bn, if_true, Bool.false_eq_true, if_false, Nat.add_zero]
        go_wp2
        go_roundw
        case rel => exact ⟨trivial, Or.inr (Or.inr ⟨rfl, rfl⟩)⟩
        case measure => simp [intOf]
      · go_wp2
        go_ret
        exact ⟨rfl, b1⟩

/-- A new variable's cells. -/
theorem new_pc (w : World) (p : Pc) : Own (w.alloc (.cells #[.int .u32 (p.seq : Int), .bool p.syn, .bool p.fin, .slice p.dA p.dn p.dc, .int .i64 p.dsn, .bool p.last] 52)) w.heap.size p.vals := Own.new w p.vals _
theorem len_pc {p : Pc} {w : World} (h : PG w p) : p.key.len = p.dn + bn p.syn + bn p.fin := by
  unfold Ky.len Pc.key
  rw [h.data.len]

set_option maxRecDepth 8000 in
set_option maxHeartbeats 1600000 in
theorem long_any (p : Pc) (w : World) (h : PG w p) (hd : p.dn ≤ 1099511627776) :
    Calls Try.prog 78 #[.agg p.vals.toArray] w fun e w' => e = .returned (.int .i64 (p.key.len : Int)) ∧ Below w.heap.size w w' := by
  have HL := Lib.hid (fun W => Long_any p.syn p.fin p.dA p.dn p.dc W h.data.cap h.data.max hd)
  rw [← len_pc h] at HL
  generalize p.key.len = n at *
  clear h
  go_enter Try.func78, Try.ntmps78
  go_wp2_with (first
    | ((with_reducible refine wpList_here ?_); refine wpList_boxV (o := ⟨some 1, _, _, _, _, _⟩) rfl 52 (.tmp 0) rfl p.vals rfl _ rfl ?_; intro w1 z1 b1 s1; have k1 : w1.cell? ⟨w.heap.size, 1, none⟩ = some (.bool p.syn) := (z1 1 (by rw [p.vals_length]; omega)).1; have k2 : w1.cell? ⟨w.heap.size, 2, none⟩ = some (.bool p.fin) := (z1 2 (by rw [p.vals_length]; omega)).1; have k3 : w1.cell? ⟨w.heap.size, 3, none⟩ = some (.slice p.dA p.dn p.dc) := (z1 3 (by rw [p.vals_length]; omega)).1)
    | (go_at_call 62; refine (HL.out _).mono ?_; rintro e w2 ⟨rfl, b2⟩))
  go_ret
  exact ⟨rfl, below_trans b1 b2⟩

end Go.Proofs.Ytnpkmkjenlhkiaa

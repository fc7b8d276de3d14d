/- The contract of a piece copied. Condition: the piece stands, its data are at most 2^48 bytes.
The contracts of a piece's length. Condition: the piece stands, its data are at most 2^40 bytes.
The contract of pieces copied. Condition: they stand, at most 2^40, with data of at most 2^40 bytes each.
Numbers that go round, as numbers: steps from one to another one, a number so many steps on (cut out of layer 6's). No condition. -/
import Derived.Test.YtnpkmkjenlhkiaaMg2
import Derived.Test.YtnpkmkjenlhkiaaMg1
import Derived.IntWalk
import Derived.Deep.RegionHeld3
import Derived.Lib.Hide
namespace Go.Proofs.Ytnpkmkjenlhkiaa
set_option linter.unusedVariables false
set_option linter.unusedSimpArgs false
open Go.RowKit

theorem sizeSl : (Try.prog.info? 30).map (·.size) = some 1 := by kernel_rfl
theorem sizeByte : (Try.prog.info? 5).map (·.size) = some 1 := by kernel_rfl
/-- What a call leaves that answers a piece that says k, with data of its own. -/
def CopP (w : World) (k : Ky) (e : Ending) (w' : World) : Prop := ∃ q : Pc, e = .returned (.agg q.vals.toArray) ∧ q.key = k ∧ PO w.heap.size w' q ∧ Below w.heap.size w w'

set_option maxRecDepth 8000 in
set_option maxHeartbeats 1600000 in
theorem copied_any (p : Pc) (w : World) (h : PG w p) (hd : p.dn ≤ 281474976710656) :
    Calls Try.prog 71 #[.agg p.vals.toArray] w (CopP w p.key) := by
  have hcp := h.data.cap
  have hmx := h.data.max
  have H := Lib.hid h
  have HL := Lib.hid h.data.len
  clear h
  by_cases hn : p.dn = 0
  · have hgt : decide ((0 : Int) < (p.dn : Int)) = false := decide_eq_false (by omega)
    go_enter Try.func71, Try.ntmps71
    go_wp2_with (first
      | ((with_reducible refine wpList_here ?_); refine wpList_boxV (o := ⟨some 1, _, _, _, _, _⟩) rfl 52 (.tmp 0) rfl p.vals rfl _ rfl ?_; intro w1 z1 b1 s1)
      | ((with_reducible refine wpList_here ?_); refine wpList_allocV (o := ⟨some 2, _, _, _, _, _⟩) rfl 52 rfl zP.vals zeroPc _ s1 ?_; intro w2 z2 b2 s2; have z3 := z1.below b2; have k3 : w2.cell? ⟨w.heap.size, 3, none⟩ = some (.slice p.dA p.dn p.dc) := (z3 3 (by rw [p.vals_length]; omega)).1; have b3 := below_trans b1 b2)
      | ((with_reducible refine wpList_here ?_); refine wpList_setV rfl 30 (.tmp 17) (.tmp 16) rfl _ 3 p.vals (.slice none 0 0) rfl rfl z3 (by rw [p.vals_length]; omega) rfl sizeSl ?_; intro w4 z4 g4 s4; have z5 : Own w4 w.heap.size ({ p with dA := none, dn := 0, dc := 0, ds := [] } : Pc).vals := z4; have z6 := z2.far g4 (by intro e; injection e with e; omega))
      | ((with_reducible refine wpList_here ?_); refine wpList_loadV (o := ⟨some 18, _, _, _, _, _⟩) rfl 52 (.tmp 1) rfl _ _ _ rfl z5.range _ Try.underlying52 rfl infoPc ?_)
      | ((with_reducible refine wpList_here ?_); refine wpList_storeV rfl 52 (.tmp 2) (.tmp 18) rfl _ _ _ rfl rfl z6 rfl (pc_one _) infoPc ?_; intro w7 z7 g7 s7))
    have b4 := v_below_g b3 g4 b3.size (Nat.le_refl _)
    have b7 := v_below_g b4 g7 b4.size (by omega)
    have hl0 : p.ds = [] := List.eq_nil_of_length_eq_zero (by rw [HL.out]; exact hn)
    exact bodyPost_ret (results_c0 rfl _ _ (w.heap.size + 1) _ _ rfl z7.range Try.underlying52 rfl infoPc) rfl ⟨_, rfl, by unfold Pc.key; rw [hl0], ⟨H.out.seq, H.out.dsn, World.ownsRow_nil _ _ _ _⟩, b7⟩
  · have hgt : (0 : Int) < (p.dn : Int) := by omega
    have hpos : 0 < p.dn := by omega
    go_enter Try.func71, Try.ntmps71
    go_wp2_with (first
      | ((with_reducible refine wpList_here ?_); refine wpList_boxV (o := ⟨some 1, _, _, _, _, _⟩) rfl 52 (.tmp 0) rfl p.vals rfl _ rfl ?_; intro w1 z1 b1 s1)
      | ((with_reducible refine wpList_here ?_); refine wpList_allocV (o := ⟨some 2, _, _, _, _, _⟩) rfl 52 rfl zP.vals zeroPc _ s1 ?_; intro w2 z2 b2 s2; have z3 := z1.below b2; have k3 : w2.cell? ⟨w.heap.size, 3, none⟩ = some (.slice p.dA p.dn p.dc) := (z3 3 (by rw [p.vals_length]; omega)).1; have b3 := below_trans b1 b2; have r3 := H.out.data.below b3)
      | (at_make; refine wpList_makeB rfl (.tmp 10) (.tmp 10) 30 5 rfl Try.underlying30 infoByte p.dn rfl rfl hd _ s2 ?_; intro xs w4 o4 b4; have z4 := z3.below b4; have y4 := z2.below b4; have r4 := r3.below b4; have b5 := below_trans b3 b4; have k5 : w4.cell? ⟨w.heap.size, 3, none⟩ = some (.slice p.dA p.dn p.dc) := (z4 3 (by rw [p.vals_length]; omega)).1; have s4 := b4.size; clear k3 z3 z2 r3 z1)
      | ((with_reducible refine wpList_here ?_); refine wpList_copyB rfl (.tmp 12) (.tmp 14) 30 5 rfl Try.underlying30 sizeByte _ _ p.dn xs o4 p.dA p.dc p.ds r4 hpos rfl rfl ?_; intro w6 o6 g6 s6; have z6 := z4.far g6 (by intro e; injection e with e; omega); have y6 := y4.far g6 (by intro e; injection e with e; omega); have b6 := v_below_g b5 g6 b5.size (by omega); clear z4 y4 r4 o4 k5)
      | ((with_reducible refine wpList_here ?_); refine wpList_setV rfl 30 (.tmp 17) (.tmp 16) rfl _ 3 p.vals (.slice (some ⟨w.heap.size + 1 + 1, 0, none⟩) p.dn p.dn) rfl rfl z6 (by rw [p.vals_length]; omega) rfl sizeSl ?_; intro w7 z7 g7 s7; have z8 : Own w7 w.heap.size ({ p with dA := some ⟨w.heap.size + 1 + 1, 0, none⟩, dc := p.dn } : Pc).vals := z7; have y8 := y6.far g7 (by intro e; injection e with e; omega); have o8 := o6.kept g7 (Or.inr (fun e => by have h1 : w.heap.size + 1 + 1 = w.heap.size := Option.some.inj e; omega)); have b8 := v_below_g b6 g7 b6.size (Nat.le_refl _); clear z7 y6 o6)
      | ((with_reducible refine wpList_here ?_); refine wpList_loadV (o := ⟨some 18, _, _, _, _, _⟩) rfl 52 (.tmp 1) rfl _ _ _ rfl z8.range _ Try.underlying52 rfl infoPc ?_)
      | ((with_reducible refine wpList_here ?_); refine wpList_storeV rfl 52 (.tmp 2) (.tmp 18) rfl _ _ _ rfl rfl y8 rfl (pc_one _) infoPc ?_; intro w9 z9 g9 s9; have o9 := o8.kept g9 (Or.inr (fun e => by have h1 : w.heap.size + 1 + 1 = w.heap.size + 1 := Option.some.inj e; omega))))
    have b9 := v_below_g b8 g9 b8.size (by omega)
    exact bodyPost_ret (results_c0 rfl _ _ (w.heap.size + 1) _ _ rfl z9.range Try.underlying52 rfl infoPc) rfl ⟨_, rfl, rfl, ⟨H.out.seq, H.out.dsn, own_mono o9 (by omega)⟩, b9⟩
end Go.Proofs.Ytnpkmkjenlhkiaa

namespace Go.Proofs.Ytnpkmkjenlhkiaa
set_option linter.unusedVariables false
set_option linter.unusedSimpArgs false
open Go.RowKit

/-- An element of an array that is a value. -/
theorem run_index_row (W : World) (t e : TypeId) (n : Nat) (cs : Array Value) (k : Int) (v : Value) (ht : Try.prog.underlying t = some (.array n e)) (hs : ∀ W : World, (sizeOf e).run Try.prog W = .ok 1 W) (ha : ∀ W : World, (isAgg e).run Try.prog W = .ok false W)
    (h0 : 0 ≤ k) (hk : k < n) (hv : cs[k.toNat]? = some v) : (Instr.index t (.agg cs) (.int .i64 k)).run Try.prog W = .ok v W := by
  simp [Instr.index, run_underlying ht, asIntOf, h0, hk, hs, part, ha, hv, show ¬ (n : Int) ≤ k by omega]
theorem szBool (W : World) : (sizeOf 4).run Try.prog W = .ok 1 W := by kernel_rfl
theorem aggBool (W : World) : (isAgg 4).run Try.prog W = .ok false W := by kernel_rfl

/-- The cells of a segment with two flags and data alone. -/
def sgv (syn fin : Bool) (A : Option Addr) (n c : Nat) : List Value := [.int .i64 0, .int .i64 0, .int .i64 0, .int .i64 0, .int .u32 0, .int .u32 0, .bool syn, .bool false, .bool fin, .bool false, .int .i64 0, .slice none 0 0, .slice A n c]
theorem sgv_length (syn fin : Bool) (A : Option Addr) (n c : Nat) : (sgv syn fin A n c).length = 13 := rfl

set_option maxRecDepth 8000 in
set_option maxHeartbeats 1600000 in
theorem Long_any (syn fin : Bool) (dA : Option Addr) (dn dc : Nat) (w : World) (hl : dn ≤ dc) (hm : dc ≤ 9223372036854775807) (hd : dn ≤ 1099511627776) :
    Calls Try.prog 62 #[.agg (sgv syn fin dA dn dc).toArray] w fun e w' => e = .returned (.int .i64 ((dn + bn syn + bn fin : Nat) : Int)) ∧ Below w.heap.size w w' := by
  cases syn <;> cases fin
  · go_enter Try.func62, Try.ntmps62
    go_wp2_with (first
      | ((with_reducible refine wpList_here ?_); refine wpList_boxV (o := ⟨some 1, _, _, _, _, _⟩) rfl 47 (.tmp 0) rfl (sgv false false dA dn dc) rfl _ rfl ?_; intro w1 z1 b1 s1; have k6 : w1.cell? ⟨w.heap.size, 6, none⟩ = some (.bool false) := (z1 6 (by rw [sgv_length]; omega)).1; have k8 : w1.cell? ⟨w.heap.size, 8, none⟩ = some (.bool false) := (z1 8 (by rw [sgv_length]; omega)).1; have k12 : w1.cell? ⟨w.heap.size, 12, none⟩ = some (.slice dA dn dc) := (z1 12 (by rw [sgv_length]; omega)).1))
    have i0 := fun W => run_index_row W 110 4 2 #[.bool false, .bool false] 0 _ Try.underlying110 szBool aggBool (by omega) (by omega) rfl
    have i1 := fun W => run_index_row W 110 4 2 #[.bool false, .bool false] 1 _ Try.underlying110 szBool aggBool (by omega) (by omega) rfl
    go_loopw [3, 14] (fun x i wr => wr = w1 ∧ ((i = .int .i64 0 ∧ x = .int .i64 (dn : Int)) ∨ (i = .int .i64 1 ∧ x = .int .i64 ((dn + bn false : Nat) : Int)) ∨ (i = .int .i64 2 ∧ x = .int .i64 ((dn + bn false + bn false : Nat) : Int)))) (fun _ i _ => 2 - (intOf i).toNat)
    case atStart => exact ⟨rfl, Or.inl ⟨rfl, rfl⟩⟩
    case round =>
      obtain ⟨rfl, ⟨rfl, rfl⟩ | ⟨rfl, rfl⟩ | ⟨rfl, rfl⟩⟩ := hrel
      · go_wp2
        go_roundw
        case rel => exact ⟨trivial, Or.inr (Or.inl ⟨rfl, rfl⟩)⟩
        case measure => simp [intOf]
      · simp only [bn, if_true, Bool.false_eq_true, if_false, Nat.add_zero]
        go_wp2
        go_roundw
        case rel => exact ⟨trivial, Or.inr (Or.inr ⟨rfl, rfl⟩)⟩
        case measure => simp [intOf]
      · go_wp2
        go_ret
        exact ⟨rfl, b1⟩
  · go_enter Try.func62, Try.ntmps62
    go_wp2_with (first
      | ((with_reducible refine wpList_here ?_); refine wpList_boxV (o := ⟨some 1, _, _, _, _, _⟩) rfl 47 (.tmp 0) rfl (sgv false true dA dn dc) rfl _ rfl ?_; intro w1 z1 b1 s1; have k6 : w1.cell? ⟨w.heap.size, 6, none⟩ = some (.bool false) := (z1 6 (by rw [sgv_length]; omega)).1; have k8 : w1.cell? ⟨w.heap.size, 8, none⟩ = some (.bool true) := (z1 8 (by rw [sgv_length]; omega)).1; have k12 : w1.cell? ⟨w.heap.size, 12, none⟩ = some (.slice dA dn dc) := (z1 12 (by rw [sgv_length]; omega)).1))
    have i0 := fun W => run_index_row W 110 4 2 #[.bool false, .bool true] 0 _ Try.underlying110 szBool aggBool (by omega) (by omega) rfl
    have i1 := fun W => run_index_row W 110 4 2 #[.bool false, .bool true] 1 _ Try.underlying110 szBool aggBool (by omega) (by omega) rfl
    go_loopw [3, 14] (fun x i wr => wr = w1 ∧ ((i = .int .i64 0 ∧ x = .int .i64 (dn : Int)) ∨ (i = .int .i64 1 ∧ x = .int .i64 ((dn + bn false : Nat) : Int)) ∨ (i = .int .i64 2 ∧ x = .int .i64 ((dn + bn false + bn true : Nat) : Int)))) (fun _ i _ => 2 - (intOf i).toNat)
    case atStart => exact ⟨rfl, Or.inl ⟨rfl, rfl⟩⟩
    case round =>
      obtain ⟨rfl, ⟨rfl, rfl⟩ | ⟨rfl, rfl⟩ | ⟨rfl, rfl⟩⟩ := hrel
      · go_wp2
        go_roundw
        case rel => exact ⟨trivial, Or.inr (Or.inl ⟨rfl, rfl⟩)⟩
        case measure => simp [intOf]
      · simp only [bn, if_true, Bool.false_eq_true, if_false, Nat.add_zero]
        go_wp2
        go_roundw
        case rel => exact ⟨trivial, Or.inr (Or.inr ⟨rfl, rfl⟩)⟩
        case measure => simp [intOf]
      · go_wp2
        go_ret
        exact ⟨rfl, b1⟩
  · go_enter Try.func62, Try.ntmps62
    go_wp2_with (first
      | ((with_reducible refine wpList_here ?_); refine wpList_boxV (o := ⟨some 1, _, _, _, _, _⟩) rfl 47 (.tmp 0) rfl (sgv true false dA dn dc) rfl _ rfl ?_; intro w1 z1 b1 s1; have k6 : w1.cell? ⟨w.heap.size, 6, none⟩ = some (.bool true) := (z1 6 (by rw [sgv_length]; omega)).1; have k8 : w1.cell? ⟨w.heap.size, 8, none⟩ = some (.bool false) := (z1 8 (by rw [sgv_length]; omega)).1; have k12 : w1.cell? ⟨w.heap.size, 12, none⟩ = some (.slice dA dn dc) := (z1 12 (by rw [sgv_length]; omega)).1))
    have i0 := fun W => run_index_row W 110 4 2 #[.bool true, .bool false] 0 _ Try.underlying110 szBool aggBool (by omega) (by omega) rfl
    have i1 := fun W => run_index_row W 110 4 2 #[.bool true, .bool false] 1 _ Try.underlying110 szBool aggBool (by omega) (by omega) rfl
    go_loopw [3, 14] (fun x i wr => wr = w1 ∧ ((i = .int .i64 0 ∧ x = .int .i64 (dn : Int)) ∨ (i = .int .i64 1 ∧ x = .int .i64 ((dn + bn true : Nat) : Int)) ∨ (i = .int .i64 2 ∧ x = .int .i64 ((dn + bn true + bn false : Nat) : Int)))) (fun _ i _ => 2 - (intOf i).toNat)
    case atStart => exact ⟨rfl, Or.inl ⟨rfl, rfl⟩⟩
    case round =>
      obtain ⟨rfl, ⟨rfl, rfl⟩ | ⟨rfl, rfl⟩ | ⟨rfl, rfl⟩⟩ := hrel
      · go_wp2
        go_roundw
        case rel => exact ⟨trivial, Or.inr (Or.inl ⟨rfl, rfl⟩)⟩
        case measure => simp [intOf]
      · simp only [bn, if_true, Bool.false_eq_true, if_false, Nat.add_zero]
        go_wp2
        go_roundw
        case rel => exact ⟨trivial, Or.inr (Or.inr ⟨rfl, rfl⟩)⟩
        case measure => simp [intOf]
      · go_wp2
        go_ret
        exact ⟨rfl, b1⟩
  · go_enter Try.func62, Try.ntmps62
    go_wp2_with (first
      | ((with_reducible refine wpList_here ?_); refine wpList_boxV (o := ⟨some 1, _, _, _, _, _⟩) rfl 47 (.tmp 0) rfl (sgv true true dA dn dc) rfl _ rfl ?_; intro w1 z1 b1 s1; have k6 : w1.cell? ⟨w.heap.size, 6, none⟩ = some (.bool true) := (z1 6 (by rw [sgv_length]; omega)).1; have k8 : w1.cell? ⟨w.heap.size, 8, none⟩ = some (.bool true) := (z1 8 (by rw [sgv_length]; omega)).1; have k12 : w1.cell? ⟨w.heap.size, 12, none⟩ = some (.slice dA dn dc) := (z1 12 (by rw [sgv_length]; omega)).1))
    have i0 := fun W => run_index_row W 110 4 2 #[.bool true, .bool true] 0 _ Try.underlying110 szBool aggBool (by omega) (by omega) rfl
    have i1 := fun W => run_index_row W 110 4 2 #[.bool true, .bool true] 1 _ Try.underlying110 szBool aggBool (by omega) (by omega) rfl
    go_loopw [3, 14] (fun x i wr => wr = w1 ∧ ((i = .int .i64 0 ∧ x = .int .i64 (dn : Int)) ∨ (i = .int .i64 1 ∧ x = .int .i64 ((dn + bn true : Nat) : Int)) ∨ (i = .int .i64 2 ∧ x = .int .i64 ((dn + bn true + bn true : Nat) : Int)))) (fun _ i _ => 2 - (intOf i).toNat)
    case atStart => exact ⟨rfl, Or.inl ⟨rfl, rfl⟩⟩
    case round =>
      obtain ⟨rfl, ⟨rfl, rfl⟩ | ⟨rfl, rfl⟩ | ⟨rfl, rfl⟩⟩ := hrel
      · go_wp2
        go_roundw
        case rel => exact ⟨trivial, Or.inr (Or.inl ⟨rfl, rfl⟩)⟩
        case measure => simp [intOf]
      · simp only [bn, if_true, Bool.false_eq_true, if_false, Nat.add_zero]
        go_wp2
        go_roundw
        case rel => exact ⟨trivial, Or.inr (Or.inr ⟨rfl, rfl⟩)⟩
        case measure => simp [intOf]
      · go_wp2
        go_ret
        exact ⟨rfl, b1⟩

/-- A new variable's cells. -/
theorem new_pc (w : World) (p : Pc) : Own (w.alloc (.cells #[.int .u32 (p.seq : Int), .bool p.syn, .bool p.fin, .slice p.dA p.dn p.dc, .int .i64 p.dsn, .bool p.last] 52)) w.heap.size p.vals := Own.new w p.vals _
theorem len_pc {p : Pc} {w : World} (h : PG w p) : p.key.len = p.dn + bn p.syn + bn p.fin := by
  unfold Ky.len Pc.key
  rw [h.data.len]

set_option maxRecDepth 8000 in
set_option maxHeartbeats 1600000 in
theorem long_any (p : Pc) (w : World) (h : PG w p) (hd : p.dn ≤ 1099511627776) :
    Calls Try.prog 78 #[.agg p.vals.toArray] w fun e w' => e = .returned (.int .i64 (p.key.len : Int)) ∧ Below w.heap.size w w' := by
  have HL := Lib.hid (fun W => Long_any p.syn p.fin p.dA p.dn p.dc W h.data.cap h.data.max hd)
  rw [← len_pc h] at HL
  generalize p.key.len = n at *
  clear h
  go_enter Try.func78, Try.ntmps78
  go_wp2_with (first
    | ((with_reducible refine wpList_here ?_); refine wpList_boxV (o := ⟨some 1, _, _, _, _, _⟩) rfl 52 (.tmp 0) rfl p.vals rfl _ rfl ?_; intro w1 z1 b1 s1; have k1 : w1.cell? ⟨w.heap.size, 1, none⟩ = some (.bool p.syn) := (z1 1 (by rw [p.vals_length]; omega)).1; have k2 : w1.cell? ⟨w.heap.size, 2, none⟩ = some (.bool p.fin) := (z1 2 (by rw [p.vals_length]; omega)).1; have k3 : w1.cell? ⟨w.heap.size, 3, none⟩ = some (.slice p.dA p.dn p.dc) := (z1 3 (by rw [p.vals_length]; omega)).1)
    | (go_at_call 62; refine (HL.out _).mono ?_; rintro e w2 ⟨rfl, b2⟩))
  go_ret
  exact ⟨rfl, below_trans b1 b2⟩

end Go.Proofs.Ytnpkmkjenlhkiaa

namespace Go.Proofs.Ytnpkmkjenlhkiaa
set_option linter.unusedVariables false
set_option linter.unusedSimpArgs false
open Go.RowKit

theorem PO.kept {base : Nat} {w w' : World} {row : Option Nat} {p : Pc} (h : PO base w p) (hg : w.grownBy w' row) (hne : p.blk = none ∨ p.blk ≠ row) : PO base w' p := ⟨h.seq, h.dsn, h.data.kept hg hne⟩
/-- Pieces with data of their own, that say ks. -/
def Own6 (base : Nat) (w : World) (v : Value) (ks : List Ky) : Prop := ∃ qs : List Pc, w.ownsRow base 52 6 v ks.length (pv qs) ∧ qs.map Pc.key = ks ∧ ∀ q ∈ qs, PO base w q
/-- What a call leaves that answers such pieces. -/
def AllP (w : World) (ks : List Ky) (e : Ending) (w' : World) : Prop := ∃ v, e = .returned v ∧ Own6 w.heap.size w' v ks ∧ Below w.heap.size w w'

theorem mid_get {qs l : List Pc} {j : Nat} (h : qs.length = j) (hj : j < l.length) : (qs ++ l.drop j).getD j zP = l.getD j zP := by
  subst h
  simp [List.getD_eq_getElem?_getD, List.getElem?_append_right]
theorem mid_set {qs l : List Pc} {j : Nat} (h : qs.length = j) (hj : j < l.length) (q : Pc) : (qs ++ l.drop j).set j q = (qs ++ [q]) ++ l.drop (j + 1) := by
  subst h
  rw [List.set_append_right _ _ (Nat.le_refl _), Nat.sub_self, List.drop_eq_getElem_cons hj, List.set_cons_zero, List.append_assoc]
  rfl
theorem take_keyP {l : List Pc} {j : Nat} (hj : j < l.length) : (l.take (j + 1)).map Pc.key = (l.take j).map Pc.key ++ [(l.getD j zP).key] := by
  rw [List.take_succ_eq_append_getElem hj, List.map_append]
  simp [List.getD_eq_getElem?_getD, hj]
theorem own_rangeP {w : World} {base g n c j : Nat} {l : List Pc} (h : w.ownsRow base 52 6 (.slice (some ⟨g, 0, none⟩) n c) n (pv l)) (hj : j < n) : w.rangeAt g (j * 6) (l.getD j zP).vals := by
  have hl := h.1
  rw [pv_length] at hl
  intro k v hv
  have hk : k < 6 := (List.getElem?_eq_some_iff.1 hv).1
  rw [World.ownsRow.cellAt h (j * 6 + k) (by omega), pv_at l j k (by omega) hk]
  exact hv

set_option maxRecDepth 8000 in
set_option maxHeartbeats 3200000 in
theorem all_any (A : Option Addr) (n c : Nat) (l : List Pc) (w : World) (h : PS w A n c l) (hn : n ≤ 1099511627776) (hd : ∀ p ∈ l, p.dn ≤ 1099511627776) :
    Calls Try.prog 57 #[.slice A n c] w (AllP w (l.map Pc.key)) := by
  have hcp := h.cap
  have hmx := h.max
  have HLN := Lib.hid h.len
  have HP := Lib.hid h
  have HD := Lib.hid hd
  clear hd
  go_enter Try.func57, Try.ntmps57
  go_wp2_with (first
    | (at_make; refine wpList_makeP rfl (.tmp 7) (.tmp 7) 42 52 rfl Try.underlying42 infoPcF n rfl rfl hn _ rfl ?_; intro xs w1 o1 b1; have h1 := h.below b1; clear h)
    | ((with_reducible refine wpList_here ?_); refine wpList_copyP rfl (.tmp 9) (.tmp 10) 42 52 rfl Try.underlying42 infoPc _ _ n xs o1 A c l h1 rfl rfl ?_; intro w2 o2 g2 s2; have b2 := v_below_g b1 g2 b1.size (Nat.le_refl _); clear o1 h1))
  go_loopw [14] (fun i wr => ∃ (j : Nat) (qs : List Pc), j ≤ n ∧ i = .int .i64 j ∧ qs.length = j ∧ qs.map Pc.key = (l.take j).map Pc.key ∧ (∀ q ∈ qs, PO w.heap.size wr q) ∧ wr.ownsRow w.heap.size 52 6 (.slice (some ⟨w.heap.size, 0, none⟩) n n) n (pv (qs ++ l.drop j)) ∧ Below w.heap.size w wr) (fun i _ => n - (intOf i).toNat)
  case atStart => exact ⟨0, [], Nat.zero_le _, rfl, rfl, rfl, (fun q hq => by cases hq), o2, b2⟩
  case round =>
    obtain ⟨j, qs, hj, rfl, hql, hqk, hqo, ho, hb⟩ := hrel
    have HQL := Lib.hid hql
    have HQK := Lib.hid hqk
    have HQO := Lib.hid hqo
    clear hql hqk hqo
    by_cases hlt : j < n
    · have hjl : j < l.length := by rw [HLN.out]; exact hlt
      have HT := Lib.hid (take_keyP hjl)
      have HS := Lib.hid (mid_set (qs := qs) HQL.out hjl)
      have hr := own_rangeP ho hlt
      rw [mid_get HQL.out hjl] at hr
      have HO := Lib.hid ho
      have HPG := Lib.hid ((HP.out.ok hlt).below hb)
      have HDN := Lib.hid (HD.out _ (getD_memP hjl))
      have HB := Lib.hid hb
      clear ho hjl
      generalize l.getD j zP = p at *
      go_wp2_with (first
        | ((with_reducible refine wpList_here ?_); refine wpList_loadV (o := ⟨some 18, _, _, _, _, _⟩) rfl 52 (.tmp 17) rfl _ _ p.vals rfl hr _ Try.underlying52 rfl infoPc ?_)
        | ((with_reducible refine wpList_here ?_); refine wpList_allocV (o := ⟨some 5, _, _, _, _, _⟩) rfl 52 rfl zP.vals zeroPc _ rfl ?_; intro w4 z4 b4 s4)
        | ((with_reducible refine wpList_here ?_); refine wpList_storeV rfl 52 (.tmp 5) (.tmp 18) rfl _ _ p.vals rfl rfl z4 rfl (pc_one p) infoPc ?_; intro w5 z5 g5 s5; have b5 := v_below_g b4 g5 b4.size (Nat.le_refl _); clear z4 b4 g5)
        | ((with_reducible refine wpList_here ?_); refine wpList_loadV (o := ⟨some 21, _, _, _, _, _⟩) rfl 52 (.tmp 5) rfl _ _ p.vals rfl z5.range _ Try.underlying52 rfl infoPc ?_)
        | (go_at_call 71; refine (copied_any p w5 (HPG.out.below b5) (by have := HDN.out; omega)).mono ?_; rintro e w6 ⟨q, rfl, hqk, hqo, b6⟩; have b7 := below_trans b5 b6; have o7 := own_below HO.out b7; have HK6 := Lib.hid hqk; have HO6 := Lib.hid hqo; clear z5 hqk hqo hr)
        | ((with_reducible refine wpList_here ?_); refine wpList_storeR rfl 52 52 (.tmp 23) (.tmp 22) rfl _ _ n n j _ q rfl rfl o7 hlt infoPc ?_; intro w8 o8 g8 s8))
      have hs6 := HB.out.size
      have b8 := v_below_g (below_trans HB.out b7) g8 (by have := b7.size; omega) (Nat.le_refl _)
      rw [HS.out] at o8
      have hall : ∀ x ∈ qs ++ [q], PO w.heap.size w8 x := fun x hx => by
        rcases List.mem_append.1 hx with hx | hx
        · have h1 := (HQO.out x hx).below b7
          refine h1.kept g8 (Or.inr fun e => ?_)
          obtain ⟨cs, h2⟩ := (HQO.out x hx).obj e
          rcases HO.out.2 with ⟨hv, _⟩ | ⟨g', cap, cur, hv, _, hg, _⟩
          · cases hv
          · injection hv with hv
            injection hv with hv
            injection hv with hv
            rw [← hv, h2] at hg
            injection hg with hg
            injection hg with _ hg
            exact absurd hg (by decide)
        · simp at hx
          subst hx
          have h1 := HO6.out
          refine (h1.mono (by have := b5.size; omega)).kept g8 (Or.inr fun e => ?_)
          have := (h1.lt e).1
          have := b5.size
          have := (HO.out.lt w.heap.size rfl).2
          omega
      go_roundw
      case rel => exact ⟨j + 1, qs ++ [q], by omega, by go_num, by simp [HQL.out], by rw [HT.out, List.map_append, HQK.out]; simp [HK6.out], hall, o8, b8⟩
      case measure => simp [intOf]; omega
    · obtain rfl : j = n := by omega
      rw [List.drop_eq_nil_of_le (by rw [HLN.out]; exact Nat.le_refl _), List.append_nil] at ho
      have hk := HQK.out
      rw [List.take_of_length_le (by rw [HLN.out]; exact Nat.le_refl _)] at hk
      have hln : (l.map Pc.key).length = j := by rw [List.length_map, HLN.out]
      have HR : Hid (Own6 w.heap.size wr (.slice (some ⟨w.heap.size, 0, none⟩) j j) (l.map Pc.key)) := Lib.hid ⟨qs, by rw [hln]; exact ho, hk, HQO.out⟩
      clear hk ho hln
      go_wp2_with fail
      go_ret
      exact ⟨_, rfl, HR.out, hb⟩
end Go.Proofs.Ytnpkmkjenlhkiaa

namespace Go.Proofs.Ytnpkmkjenlhkiaa
set_option linter.unusedVariables false
set_option linter.unusedSimpArgs false
open Go.RowKit

/-- How many steps it is from a to b. -/
def st (a b : Nat) : Nat := (b + 4294967296 - a) % 4294967296
/-- The number n steps behind a. -/
def on (a : Nat) (n : Int) : Nat := ((a + n) % 4294967296).toNat
/-- Is a before b? -/
def bf (a b : Nat) : Bool := decide (1 ≤ st a b ∧ st a b < 2147483648)

theorem st_lt (a b : Nat) : st a b < 4294967296 := by unfold st; omega
theorem on_lt (a : Nat) (n : Int) : on a n < 4294967296 := by unfold on; omega
theorem on_int (a : Nat) (n : Int) : (on a n : Int) = (a + n) % 4294967296 := by unfold on; omega
theorem st_int {a b : Nat} (ha : a < 4294967296) (hb : b < 4294967296) : (st a b : Int) = ((b : Int) - a) % 4294967296 := by unfold st; omega
theorem st_on {a b : Nat} (ha : a < 4294967296) (hb : b < 4294967296) (n : Int) : st (on a n) (on b n) = st a b := by
  have h1 := st_int (on_lt a n) (on_lt b n)
  have h2 := st_int ha hb
  rw [on_int, on_int] at h1
  omega
theorem st_on_self {a : Nat} (ha : a < 4294967296) (n : Int) : (st a (on a n) : Int) = n % 4294967296 := by
  rw [st_int ha (on_lt a n), on_int]
  omega
theorem on_st {a b : Nat} (ha : a < 4294967296) (hb : b < 4294967296) : on a (st a b) = b := by
  have h1 := st_int ha hb
  have h2 := on_int a (st a b)
  omega
theorem on_back {a b : Nat} (ha : a < 4294967296) (hb : b < 4294967296) : on b (-(st a b : Int)) = a := by
  have h1 := st_int ha hb
  have h2 := on_int b (-(st a b : Int))
  omega

/-- b less a, cut to 32 bits. -/
theorem wrap_st {a b : Nat} (ha : a < 4294967296) (hb : b < 4294967296) : IntKind.u32.wrap ((b : Int) - (a : Int)) = (st a b : Nat) := by
  rw [st_int ha hb]
  simp [IntKind.wrap, IntKind.bits, IntKind.signed]
theorem wrap_on (a : Nat) (n : Int) : IntKind.u32.wrap ((a : Int) + IntKind.u32.wrap n) = (on a n : Nat) := by
  rw [on_int]
  simp [IntKind.wrap, IntKind.bits, IntKind.signed]

set_option maxHeartbeats 800000 in
theorem steps_any (a b : Nat) (w : World) (ha : a < 4294967296) (hb : b < 4294967296) :
    Calls Try.prog 83 #[.agg #[.int .u32 (a : Int)], .int .u32 (b : Int)] w fun e w' => e = .returned (.int .i64 (st a b : Nat)) ∧ Below w.heap.size w w' := by
  have hlt := st_lt a b
  have HW := wrap_st ha hb
  generalize st a b = x at *
  go_enter Try.func83, Try.ntmps83
  go_wp2
  go_ret
  exact ⟨rfl, below_a w _⟩

set_option maxHeartbeats 800000 in
theorem onr_any (a : Nat) (n : Int) (w : World) (ha : a < 4294967296) (hn : -9223372036854775808 ≤ n ∧ n ≤ 9223372036854775807) :
    Calls Try.prog 58 #[.agg #[.int .u32 (a : Int)], .int .i64 n] w fun e w' => e = .returned (.int .u32 (on a n : Nat)) ∧ Below w.heap.size w w' := by
  have hlt := on_lt a n
  have HW := wrap_on a n
  generalize on a n = x at *
  go_enter Try.func58, Try.ntmps58
  go_wp2
  go_ret
  exact ⟨by rw [← HW]; rfl, below_a w _⟩

/-- Behind a box of a run: its two cells, and that nothing that was there has turned. -/
def Two (w W : World) (a : Nat) (n : Int) : Prop := W.cell? ⟨w.heap.size, 0, none⟩ = some (.int .u32 (a : Int)) ∧ W.cell? ⟨w.heap.size, 1, none⟩ = some (.int .i64 n) ∧ w.heap.size < W.heap.size ∧ Below w.heap.size w W
theorem Two.new (w : World) (a : Nat) (n : Int) (t : TypeId) : Two w (w.alloc (.cells #[.int .u32 (a : Int), .int .i64 n] t)) a n := by
  refine ⟨?_, ?_, by simp, below_a w _⟩
  · rw [cell_of_row (w.alloc (.cells #[.int .u32 (a : Int), .int .i64 n] t)) w.heap.size 0 #[.int .u32 (a : Int), .int .i64 n] t (0, 0) (heap_alloc_new w _)]
    rfl
  · rw [cell_of_row (w.alloc (.cells #[.int .u32 (a : Int), .int .i64 n] t)) w.heap.size 1 #[.int .u32 (a : Int), .int .i64 n] t (0, 0) (heap_alloc_new w _)]
    rfl
theorem Two.drew {w W : World} {a : Nat} {n : Int} (h : Two w W a n) : Two w W.drew a n := ⟨h.1, h.2.1, h.2.2.1, h.2.2.2.drew⟩
theorem Two.below {w W W' : World} {a : Nat} {n : Int} (h : Two w W a n) (b : Below W.heap.size W W') : Two w W' a n :=
  ⟨(b.cell h.2.2.1).trans h.1, (b.cell h.2.2.1).trans h.2.1, Nat.lt_of_lt_of_le h.2.2.1 b.size, below_trans h.2.2.2 b⟩

set_option maxHeartbeats 800000 in
theorem has_any (a b : Nat) (n : Int) (w : World) (ha : a < 4294967296) (hb : b < 4294967296) (hn : -9223372036854775808 ≤ n ∧ n ≤ 9223372036854775807) :
    Calls Try.prog 76 #[.agg #[.int .u32 (a : Int), .int .i64 n], .int .u32 (b : Int)] w fun e w' => e = .returned (.bool (decide ((st a b : Int) < n))) ∧ Below w.heap.size w w' := by
  have hlt := st_lt a b
  have HS := Lib.hid (fun W => steps_any a b W ha hb)
  generalize st a b = x at *
  go_enter Try.func76, Try.ntmps76
  go_wp2_with fail
  have h0 : Two w (w.alloc (.cells #[.int .u32 (a : Int), .int .i64 n] 112)) a n := Two.new w a n _
  have h1 := h0.1
  have h2 := h0.2.1
  go_region_held3 (fun W => W.cell? ⟨w.heap.size, 0, none⟩ = some (.int .u32 (a : Int)) ∧ W.cell? ⟨w.heap.size, 1, none⟩ = some (.int .i64 n) ∧ Two w W a n)
    (first
      | exact ⟨h0.1, h0.2.1, h0⟩
      | exact ⟨h3.1, h3.2.1, h3⟩
      | exact ⟨h0.drew.1, h0.drew.2.1, h0.drew⟩)
    (first | (go_at_call 83; refine (HS.out _).mono ?_; rintro e w9 ⟨rfl, b⟩; have h3 := h0.drew.below b))
  go_wp2_with fail
  go_ret
  exact ⟨rfl, h3.2.2.2⟩

set_option maxHeartbeats 800000 in
theorem Steps_any (a b : Nat) (w : World) (ha : a < 4294967296) (hb : b < 4294967296) :
    Calls Try.prog 85 #[.int .u32 (a : Int), .int .u32 (b : Int)] w fun e w' => e = .returned (.int .i64 (st a b : Nat)) ∧ Below w.heap.size w w' := by
  have hlt := st_lt a b
  have HS := Lib.hid (fun W => steps_any a b W ha hb)
  generalize st a b = x at *
  go_enter Try.func85, Try.ntmps85
  go_wp2_with (first | (go_at_call 83; refine (HS.out _).mono ?_; rintro e w1 ⟨rfl, b1⟩))
  go_ret
  exact ⟨rfl, b1⟩

set_option maxHeartbeats 800000 in
theorem On_any (a : Nat) (n : Int) (w : World) (ha : a < 4294967296) (hn : -9223372036854775808 ≤ n ∧ n ≤ 9223372036854775807) :
    Calls Try.prog 34 #[.int .u32 (a : Int), .int .i64 n] w fun e w' => e = .returned (.int .u32 (on a n : Nat)) ∧ Below w.heap.size w w' := by
  have hlt := on_lt a n
  have HS := Lib.hid (fun W => onr_any a n W ha hn)
  generalize on a n = x at *
  go_enter Try.func34, Try.ntmps34
  go_wp2_with (first | (go_at_call 58; refine (HS.out _).mono ?_; rintro e w1 ⟨rfl, b1⟩))
  go_ret
  exact ⟨rfl, b1⟩

set_option maxHeartbeats 800000 in
theorem In_any (x a : Nat) (n : Int) (w : World) (hx : x < 4294967296) (ha : a < 4294967296) (hn : -9223372036854775808 ≤ n ∧ n ≤ 9223372036854775807) :
    Calls Try.prog 84 #[.int .u32 (x : Int), .int .u32 (a : Int), .int .i64 n] w fun e w' => e = .returned (.bool (decide ((st a x : Int) < n))) ∧ Below w.heap.size w w' := by
  have HS := Lib.hid (fun W => has_any a x n W ha hx hn)
  generalize hd : decide ((st a x : Int) < n) = d at *
  clear hd
  go_enter Try.func84, Try.ntmps84
  go_wp2_with (first | (go_at_call 76; refine (HS.out _).mono ?_; rintro e w1 ⟨rfl, b1⟩))
  go_ret
  exact ⟨rfl, b1⟩

theorem tmod_pos {n m : Int} (h : 0 ≤ n) : n.tmod m = n % m := Int.tmod_eq_emod_of_nonneg h
theorem tmod_neg (n m : Int) (h : n < 0) : n.tmod m = -((-n) % m) := by
  obtain ⟨k, rfl⟩ : ∃ k, n = -k := ⟨-n, by omega⟩
  rw [Int.neg_tmod, Int.neg_neg, Int.tmod_eq_emod_of_nonneg (by omega)]

end Go.Proofs.Ytnpkmkjenlhkiaa

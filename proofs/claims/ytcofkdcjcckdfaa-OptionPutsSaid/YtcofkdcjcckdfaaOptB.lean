/- Words for the document's own way to put an option in bytes. No condition. -/
import Derived.Test.YtcofkdcjcckdfaaOptX
import Derived.Test.YtcofkdcjcckdfaaStepA
namespace Go.Proofs.Ytcofkdcjcckdfaa
set_option linter.unusedVariables false
set_option linter.unusedSimpArgs false
open Go.RowKit

/-- What stands while an option's bytes are put one behind the other: the option, and the bytes so far, in memory of the call's own. -/
structure Bst (w0 : World) (B g : Nat) (o : Opt) (w : World) (v : Value) (n : Nat) (l : List UInt8) : Prop where
  opt : Own w g o.vals
  own : w.ownsRow B 5 1 v n (bv l)
  below : Below w0.heap.size w0 w
  base : B ≤ w.heap.size
  lt : g < B
  old : w0.heap.size ≤ B
section
variable {w0 w w1 w2 : World} {B g n m : Nat} {o : Opt} {v v' : Value} {l r : List UInt8}
theorem Bst.keep (h : Bst w0 B g o w v n l) (hb : Below w.heap.size w w1) : Bst w0 B g o w1 v n l :=
  ⟨h.opt.below hb, own_below h.own hb, below_trans h.below hb, Nat.le_trans h.base hb.size, h.lt, h.old⟩
theorem Bst.app (h : Bst w0 B g o w v n l) (ho : w2.ownsRow B 5 1 v' (n + m) (bv (l ++ r))) (hg : w.grownBy w2 v.ownBlock) : Bst w0 B g o w2 v' (n + m) (l ++ r) :=
  ⟨h.opt.far hg (fun e => by have h1 := (h.own.lt g e.symm).1; have h2 := h.lt; omega), ho, h.below.grown hg (Nat.le_trans h.old h.base) fun k hk => Nat.le_trans h.old (h.own.lt k hk).1, Nat.le_trans h.base hg.size, h.lt, h.old⟩
theorem Bst.cell (h : Bst w0 B g o w v n l) (s : Nat) (hs : s < 14) : w.cell? ⟨g, s, none⟩ = o.vals[s]? := (h.opt s hs).1
end
theorem byte_int (x : Int) : x % 256 = ((UInt8.ofNat (u64 x)).toNat : Int) := by
  rw [UInt8.toNat_ofNat']
  have := u64_int x
  omega
theorem byte_one (n : Nat) : be n 1 = [UInt8.ofNat n] := by simp [be]
theorem byte_bool (b : Bool) : ((b2n b : Nat) : Int) = ((UInt8.ofNat (b2n b)).toNat : Int) := by cases b <;> rfl
/-- The first byte. -/
theorem Bst.start (w0 w1 : World) (g : Nat) (o : Opt) (x : Int) (b : UInt8) (hx : x = (b.toNat : Int)) (h : Own w1 g o.vals) (hb : Below w0.heap.size w0 w1) (hg : g < w1.heap.size) :
    Bst w0 w1.heap.size g o (w1.alloc (.cells #[.int .u8 x] 5)) (.slice (some ⟨w1.heap.size, 0, none⟩) 1 1) 1 [b] := by
  subst hx
  have ha := below_a w1 (.cells #[.int .u8 (b.toNat : Int)] 5)
  refine ⟨h.below ha, ?_, below_trans hb ha, by simp, hg, hb.size⟩
  exact World.ownsRow_lit (base := w1.heap.size) (e := 5) (size := 1) w1 #[.int .u8 (b.toNat : Int)] 1 (Nat.le_refl _) (by unfold maxLen; omega) rfl
/-- A new slice of one byte. -/
theorem wpList_byte1 {ops : Array Oper} {rest : List Oper} {o : Oper} {a : Act} {w : World} {Q : Exit → Act → World → Prop} (hgd : Region.wanted o (yielded ops a.tmps) = true) (x : Operand) (ho : o.op = .buildSlice 24 1 #[(0, x)]) (v : Int) (hx : a.eval x = .int .u8 v) (g : Nat) (hg : w.heap.size = g)
    (h : ∀ w', w' = w.alloc (.cells #[.int .u8 v] 5) → wpList Try.prog ops Q rest (a.put o.dst (.slice (some ⟨g, 0, none⟩) 1 1)) w') : wpList Try.prog ops Q (o :: rest) a w := by
  subst hg
  refine wpList_want hgd fun _ hK => ?_
  have hrun : (Instr.buildSlice 24 1 #[(0, .int .u8 v)]).run Try.prog w = .ok (.slice (some ⟨w.heap.size, 0, none⟩) 1 1) (w.alloc (.cells #[.int .u8 v] 5)) := by kernel_rfl
  have hr : (execOp a.eval o).run Try.prog w = .ok (.value (.slice (some ⟨w.heap.size, 0, none⟩) 1 1)) (w.alloc (.cells #[.int .u8 v] 5)) := by
    simp [execOp, ho, hx, hrun]
  unfold Oper.wp
  rw [hr, Oper.upon_value]
  exact hK _ _ (h _ rfl)
end Go.Proofs.Ytcofkdcjcckdfaa

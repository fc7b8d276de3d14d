/- Two rows of bytes of the call's own, side by side. No condition. -/
import Derived.Test.YtdgllpcljjhhdaaDoorBase
namespace Go.Proofs.YtdgllpcljjhhdaaDoor
set_option linter.unusedVariables false
open Go.RowKit

/-- Two rows of bytes of the call's own, in two places. -/
def Two (base : Nat) (e : TypeId) (w : World) (v u : Value) (n : Nat) (l r : List UInt8) (m : Nat) : Prop :=
  w.ownsRow base e 1 v n (bv l) ∧ w.ownsRow base e 1 u m (bv r) ∧ ∀ b, v.ownBlock = some b → u.ownBlock ≠ some b
theorem own_other {w w' : World} {base : Nat} {e : TypeId} {n : Nat} {v : Value} {xs : List Value} {row : Option Nat} (h : w.ownsRow base e 1 v n xs) (hg : w.grownBy w' row) (hr : ∀ b, v.ownBlock = some b → row ≠ some b) : w'.ownsRow base e 1 v n xs := by
  refine ⟨h.1, ?_⟩
  rcases h.2 with hn | ⟨g, cap, cur, rfl, h1, hg2, rest⟩
  · exact .inl hn
  · exact .inr ⟨g, cap, cur, rfl, h1, (hg.block g (Array.getElem?_eq_some_iff.1 hg2).1 (fun e => hr g rfl e.symm)).trans hg2, rest⟩
theorem Two.after {base : Nat} {e : TypeId} {w : World} {v u : Value} {n m : Nat} {l r : List UInt8} (h : Two base e w v u n l r m) (o : Obj) : Two base e (w.alloc o).drew v u n l r m :=
  ⟨(h.1.alloc o).drew, (h.2.1.alloc o).drew, h.2.2⟩
theorem Two.left {base : Nat} {e : TypeId} {w w' : World} {v v' u : Value} {n n' m : Nat} {l l' r : List UInt8} (h : Two base e w v u n l r m) (h1 : w'.ownsRow base e 1 v' n' (bv l')) (hg : w.grownBy w' v.ownBlock)
    (ha : v'.ownBlock = v.ownBlock ∨ v'.ownBlock = some w.heap.size) : Two base e w' v' u n' l' r m := by
  refine ⟨h1, own_other h.2.1 hg fun b hb hv => h.2.2 b hv hb, fun b hb hu => ?_⟩
  rcases ha with ha | ha
  · exact h.2.2 b (ha ▸ hb) hu
  · have := (h.2.1.lt b hu).2
    rw [ha] at hb
    injection hb with hb
    omega
theorem Two.right {base : Nat} {e : TypeId} {w w' : World} {v u' u : Value} {n n' m : Nat} {l r' r : List UInt8} (h : Two base e w v u n l r m) (h1 : w'.ownsRow base e 1 u' n' (bv r')) (hg : w.grownBy w' u.ownBlock)
    (ha : u'.ownBlock = u.ownBlock ∨ u'.ownBlock = some w.heap.size) : Two base e w' v u' n l r' n' := by
  refine ⟨own_other h.1 hg fun b hb hv => h.2.2 b hb hv, h1, fun b hb hu => ?_⟩
  rcases ha with ha | ha
  · exact h.2.2 b hb (ha ▸ hu)
  · have := (h.1.lt b hb).2
    rw [ha] at hu
    injection hu with hu
    omega
theorem Two.alloc {base : Nat} {e : TypeId} {w : World} {v u : Value} {n m : Nat} {l r : List UInt8} (h : Two base e w v u n l r m) (o : Obj) : Two base e (w.alloc o) v u n l r m := ⟨h.1.alloc o, h.2.1.alloc o, h.2.2⟩
theorem Two.below {base : Nat} {e : TypeId} {w w' : World} {v u : Value} {n m : Nat} {l r : List UInt8} (h : Two base e w v u n l r m) (hb : Below w.heap.size w w') : Two base e w' v u n l r m := ⟨own_below h.1 hb, own_below h.2.1 hb, h.2.2⟩
end Go.Proofs.YtdgllpcljjhhdaaDoor

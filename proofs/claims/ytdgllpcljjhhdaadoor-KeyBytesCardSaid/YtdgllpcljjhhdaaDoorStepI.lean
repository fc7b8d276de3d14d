/- append of numbers onto a slice that the call owns, as a step of a region that draws its order; rows of words of 32 bits. Condition: what comes out is at most 2^40 numbers long. -/
import Derived.Test.YtdgllpcljjhhdaaDoorInt
import Derived.Test.YtdgllpcljjhhdaaDoorShaM
import Derived.Deep.RegionLaw
import Derived.Deep.AppendLies
namespace Go.Proofs.YtdgllpcljjhhdaaDoor
set_option linter.unusedVariables false
open Go.RowKit

theorem step_appi {P : Program} (w : World) (k : IntKind) {ops : Array Oper} {o : Oper} {a : Act} {K : Act → World → Prop} {Q : Exit → Act → World → Prop} {E : Prop} (hgd : o.guard = none) (s x : Operand) (t e : TypeId) (by_ : Nat)
    (ho : o.op = .call { callee := .builtin .append, args := #[s, x], argTypes := #[t, t] })
    (ht : P.underlying t = some (.slice e)) (hi : (P.info? e).map (fun i => (i.zero, i.size, i.bytes)) = some (some (.int k 0), 1, by_)) (h8 : by_ ≤ 8)
    (base : Nat) (v : Value) (n : Nat) (l : List Int) (hs : a.eval s = v) (hown : w.ownsRow base e 1 v n (iv k l))
    (A : Option Addr) (m c : Nat) (r : List Int) (hx : a.eval x = .slice A m c) (hr : RI k w A m c r) (h40 : n + m ≤ 1099511627776) (hb : base ≤ w.heap.size)
    (h : ∀ v' w', w'.ownsRow base e 1 v' (n + m) (iv k (l ++ r)) → w.grownBy w' v.ownBlock → (v'.ownBlock = v.ownBlock ∨ v'.ownBlock = some w.heap.size) → K (a.put o.dst v') w') :
    if Region.wanted o (yielded ops a.tmps) = true then Oper.wp P o a w K Q else E := by
  have hw : Region.wanted o (yielded ops a.tmps) = true := by simp [Region.wanted, hgd]
  rw [if_pos hw]
  obtain ⟨v', w', hrun, h1, h2, h3⟩ := appi_run (P := P) w k t o.type e by_ ht hi h8 base v n l hown A m c r hr h40 hb
  exact Lib.wp_append_run w s x t t ho _ _ hs hx v' w' hrun (h v' w' h1 h2 h3)

theorem RI.drew {k : IntKind} {w : World} {A : Option Addr} {n c : Nat} {zs : List Int} (h : RI k w A n c zs) : RI k w.drew A n c zs := h
/-- Words, as numbers. -/
def us (l : List UInt32) : List Int := l.map fun (x : UInt32) => (x.toNat : Int)
theorem us_length (l : List UInt32) : (us l).length = l.length := by simp [us]
theorem us_append (l r : List UInt32) : us (l ++ r) = us l ++ us r := by simp [us]
theorem us_at (l : List UInt32) (j : Nat) : (us l).getD j 0 = ((l.getD j 0).toNat : Int) := by
  unfold us
  by_cases h : j < l.length
  · simp [List.getD_eq_getElem?_getD, h]
  · simp [List.getD_eq_getElem?_getD, List.getElem?_eq_none (show l.length ≤ j by omega)]
/-- A row of words, read. -/
theorem RI.word {w : World} {b o n c : Nat} {l : List UInt32} (h : RI .u32 w (some ⟨b, o, none⟩) n c (us l)) {j : Nat} (hj : j < n) : w.cell? ⟨b, o + j, none⟩ = some (c32 (l.getD j 0)) := by
  rw [h.cell hj, us_at]
theorem RI.lit1 (w : World) (x : UInt32) (t : TypeId) : RI .u32 (w.alloc (.cells #[c32 x] t)) (some ⟨w.heap.size, 0, none⟩) 1 1 (us [x]) := RI.lit .u32 w (us [x]) t (by unfold maxLen; simp [us])
theorem RI.lit8 (w : World) (a b c d e f g h : Int) (t : TypeId) : RI .u32 (w.alloc (.cells #[.int .u32 a, .int .u32 b, .int .u32 c, .int .u32 d, .int .u32 e, .int .u32 f, .int .u32 g, .int .u32 h] t)) (some ⟨w.heap.size, 0, none⟩) 8 8 [a, b, c, d, e, f, g, h] :=
  RI.lit .u32 w [a, b, c, d, e, f, g, h] t (by unfold maxLen; simp)
theorem w_by (y : UInt8) : IntKind.u32.wrap (y.toNat : Int) = ((by4 y).toNat : Int) := by
  have := y.toNat_lt
  unfold by4
  rw [IntKind.wrap_u32', UInt32.toNat_ofNat']
  omega
theorem w_shlw (x : UInt32) (k : Nat) (z : Int) (hz : z = 2 ^ k) (hk : k < 32) : IntKind.u32.wrap ((x.toNat : Int) * z) = ((x <<< UInt32.ofNat k).toNat : Int) := by
  subst hz
  exact (IntKind.wrap_u32' _).trans (w_shl x k hk)
/-- A word out of four bytes, in its new block. -/
theorem RI.four (w : World) (a b c d : UInt8) (t : TypeId) :
    RI .u32 (w.alloc (.cells #[.int .u32 (bits .or .u32 (bits .or .u32 (bits .or .u32 (IntKind.u32.wrap (IntKind.u32.wrap (a.toNat : Int) * 16777216)) (IntKind.u32.wrap (IntKind.u32.wrap (b.toNat : Int) * 65536))) (IntKind.u32.wrap (IntKind.u32.wrap (c.toNat : Int) * 256))) (IntKind.u32.wrap (d.toNat : Int)))] t)) (some ⟨w.heap.size, 0, none⟩) 1 1
      (us [by4 a <<< 24 ||| by4 b <<< 16 ||| by4 c <<< 8 ||| by4 d]) := by
  rw [w_by, w_by, w_by, w_by, w_shlw (by4 a) 24 _ (by decide) (by omega), w_shlw (by4 b) 16 _ (by decide) (by omega), w_shlw (by4 c) 8 _ (by decide) (by omega), w_or, w_or, w_or]
  exact RI.lit1 w _ t
/-- A sum of four words, in its new block. -/
theorem RI.sum4 (w : World) (a b c d : UInt32) (t : TypeId) :
    RI .u32 (w.alloc (.cells #[.int .u32 (IntKind.u32.wrap (IntKind.u32.wrap (IntKind.u32.wrap ((a.toNat : Int) + (b.toNat : Int)) + (c.toNat : Int)) + (d.toNat : Int)))] t)) (some ⟨w.heap.size, 0, none⟩) 1 1 (us [a + b + c + d]) := by
  rw [w_addw, w_addw, w_addw]
  exact RI.lit1 w _ t
theorem RI.sum2 (w : World) (a b : UInt32) (t : TypeId) :
    RI .u32 (w.alloc (.cells #[.int .u32 (IntKind.u32.wrap ((a.toNat : Int) + (b.toNat : Int)))] t)) (some ⟨w.heap.size, 0, none⟩) 1 1 (us [a + b]) := by
  rw [w_addw]
  exact RI.lit1 w _ t
/-- A slice of eight words of the call's own, as an array. -/
theorem arr_own {w : World} {base : Nat} {e : TypeId} {v : Value} {l : List UInt32} {n : Nat} (h : w.ownsRow base e 1 v n (iv .u32 (us l))) (hn : 0 < n) :
    ∃ g cap, v = .slice (some ⟨g, 0, none⟩) n cap ∧ base ≤ g ∧ cap ≤ 9223372036854775807 ∧ n ≤ cap ∧ Arr w g n (fun i => l.getD i 0) := by
  obtain ⟨g, cap, hv, hg, hc, hnc, hcell⟩ := owni_at h hn
  exact ⟨g, cap, hv, hg, hc, hnc, fun j hj => by have := hcell j hj; rw [us_at] at this; exact this⟩
end Go.Proofs.YtdgllpcljjhhdaaDoor

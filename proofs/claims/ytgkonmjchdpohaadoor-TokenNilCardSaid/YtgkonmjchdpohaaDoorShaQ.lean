/- What the laws over the digest lean on: two digests compared, the digest of one piece in a new list, a text's bytes in a block that bears a mark. Condition: the table holds FIPS 180-4's constants. -/
import Derived.Test.YtgkonmjchdpohaaDoorShaO
import Derived.Stop.BytesEq
import Derived.Lib.SlBytesConst
namespace Go.Proofs.YtgkonmjchdpohaaDoor
set_option linter.unusedVariables false
set_option linter.unusedSimpArgs false
open Go.RowKit

theorem sizeOfU8 (W : World) : (sizeOf 5).run Tryd.prog W = .ok 1 W := by kernel_rfl
/-- Two digests of the same bytes are the same. -/
theorem dig_same (W : World) (l : List UInt8) : (binOp .eql 69 (.agg (bv (dg l)).toArray) (.agg (bv (dg l)).toArray)).run Tryd.prog W = .ok (.bool true) W := by
  have h := run_eql_bytes (P := Tryd.prog) W 69 5 32 Tryd.underlying69 Tryd.underlying5 sizeOfU8 (dg l) (dg l) (dg_length l) (dg_length l)
  rw [show (dg l == dg l) = true from by simp] at h
  exact h
/-- The digest of one piece in a new list. -/
theorem sha_one {A : Option Addr} {n c : Nat} {l : List UInt8} {w : World} {t : TypeId} {g : Nat} (hg : g = w.heap.size) (h : RB w A n c l) (hn : n ≤ 274877906944) (hT : Tab w) :
    Calls Tryd.prog 24 #[.slice (some ⟨g, 0, none⟩) 1 1] (w.alloc (.cells #[.slice A n c] t)) (Dig l (w.alloc (.cells #[.slice A n c] t))) := by
  subst hg
  have e1 : fl [l] 1 = l := by simp [fl]
  have e2 : tl [l] 1 = n := by rw [tl, e1, h.len]
  have hp : Parts (w.alloc (.cells #[.slice A n c] t)) (some ⟨w.heap.size, 0, none⟩) 1 1 [l] := Parts.one (cell_new w _ t) (h.alloc _)
  have := sha_any (some ⟨w.heap.size, 0, none⟩) 1 1 [l] _ hp (by rw [e2]; exact hn) (hT.below (below_a w _))
  rw [e1] at this
  exact this

/-- A text's bytes, in their new block, which bears a mark. -/
theorem RB.litf (w : World) (l : List UInt8) (t : TypeId) (fr : Nat × Nat) (hl : l.length ≤ maxLen) : RB (w.alloc (.cells (bv l).toArray t fr)) (some ⟨w.heap.size, 0, none⟩) l.length l.length l := by
  refine ⟨rfl, Nat.le_refl _, hl, fun _ => ⟨_, 0, rfl, fun j hj => ?_⟩⟩
  rw [Nat.zero_add]
  have h := cell_of_row (w.alloc (.cells (bv l).toArray t fr)) w.heap.size j (bv l).toArray t fr (heap_alloc_new w _)
  rw [h]
  simpa using bv_at l j hj
end Go.Proofs.YtgkonmjchdpohaaDoor

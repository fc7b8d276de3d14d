/- Three nests are made: the contract of rings. No condition. -/
import Derived.Test.YtkmhgcdjmfafhaaWhA
namespace Go.Proofs.Ytkmhgcdjmfafhaa
set_option linter.unusedVariables false
set_option linter.unusedSimpArgs false
open Go.RowKit

/-- A nest that is new: its lists are empty. -/
def nestO (d : Int) (v : Value) : Obj := .cells #[.int .i64 d, .slice none 0 0, .slice none 0 0, .slice none 0 0, .slice none 0 0, .slice none 0 0, .slice none 0 0, .slice none 0 0, .slice none 0 0, .slice none 0 0, .slice none 0 0, .slice none 0 0, .slice none 0 0, .slice none 0 0, .slice none 0 0, .slice none 0 0, .slice none 0 0, v] 79

set_option maxHeartbeats 1600000 in
theorem rings_any (w : World) :
    Calls Try.prog 24 #[.int .i64 3] w fun e w' => e = .returned (ptr (w.heap.size + 2)) ∧
      w' = ((w.alloc (nestO 1 (.pointer none))).alloc (nestO 16 (ptr w.heap.size))).alloc (nestO 256 (ptr (w.heap.size + 1))) := by
  unfold nestO ptr
  go_enter Try.func24, Try.ntmps24
  go_wp2_with fail
  refine wp_loop_rounds 4 ?_
  rw [rounds_succ]
  go_wp2_with fail
  rw [rounds_succ]
  go_wp2_with fail
  rw [rounds_succ]
  go_wp2_with fail
  rw [rounds_succ]
  go_wp2_with fail
  go_ret
  exact ⟨rfl, rfl⟩

end Go.Proofs.Ytkmhgcdjmfafhaa

/- Two small calls of the law: near, same. No condition; the rows of same hold the same. -/
import Derived.Test.YtkmhgcdjmfafhaaWiC
namespace Go.Proofs.Ytkmhgcdjmfafhaa
set_option linter.unusedVariables false
set_option linter.unusedSimpArgs false
open Go.RowKit

def near (t : Int) : Int := min (max t (-1125899906842624)) 1125899906842624

set_option maxHeartbeats 1600000 in
theorem near_any (t : Int) (w : World) : Calls Try.prog 11 #[.int .i64 t] w fun e w' => e = .returned (.int .i64 (near t)) ∧ w' = w := by
  unfold near
  go_enter Try.func11, Try.ntmps11
  go_wp2_with fail
  go_ret
  exact ⟨rfl, rfl⟩

set_option maxRecDepth 20000 in
set_option maxHeartbeats 4000000 in
theorem same_any {w : World} {b1 b2 : Nat} {v1 v2 : Value} {out : List (Int × Int)} (h1 : w.ownsRow b1 53 2 v1 out.length (dv out)) (h2 : w.ownsRow b2 47 2 v2 out.length (dv out)) :
    Calls Try.prog 17 #[v1, v2] w fun e w' => e = .returned (.bool true) ∧ Sim w w' := by
  obtain ⟨A, c, rfl, ha1, ha2⟩ := own_slice h1
  obtain ⟨A', c', rfl, hb1, hb2⟩ := own_slice h2
  have H1 := Lib.hid h1
  have H2 := Lib.hid h2
  clear h1 h2
  generalize hon : out.length = on at *
  have HON := Lib.hid hon
  clear hon
  go_enter Try.func17, Try.ntmps17
  go_wp2_with fail
  go_loopw [13] (fun ix wz => ∃ q : Nat, q ≤ on ∧ ix = .int .i64 q ∧ Sim w wz) (fun ix _ => on - (intOf ix).toNat)
  case atStart => exact ⟨0, Nat.zero_le _, rfl, ⟨rfl, rfl, rfl, rfl⟩⟩
  case round =>
    obtain ⟨q, hq, rfl, S⟩ := hrel
    by_cases hql : q < on
    · have r1 := own_ch2 H1.out (S.ch fun _ => False) fun _ _ h => h
      have r2 := own_ch2 H2.out (S.ch fun _ => False) fun _ _ h => h
      rw [← HON.out] at r1 r2
      obtain ⟨g1, rfl, x0, x1⟩ := own_cells r1 (by rw [HON.out]; exact hql)
      obtain ⟨g2, rfl, y0, y1⟩ := own_cells r2 (by rw [HON.out]; exact hql)
      clear r1 r2
      generalize (out.getD q (0, 0)).1 = p1 at *
      generalize (out.getD q (0, 0)).2 = p2 at *
      go_wp2_with fail
      go_quiet (fail)
      go_wp2_with fail
      go_roundw
      case rel => exact ⟨q + 1, by omega, by go_num, S.1, S.2.1, S.2.2.1, S.2.2.2⟩
      case measure => simp [intOf]; omega
    · obtain rfl : q = on := by omega
      go_wp2_with fail
      go_ret
      exact ⟨rfl, S⟩

end Go.Proofs.Ytkmhgcdjmfafhaa

/- The walks of the laws KeyToken and KeyProof. Condition: the table holds FIPS 180-4's constants. -/
import Derived.Test.YtdgllpcljjhhdaaDoorKeyT
import Derived.Test.YtdgllpcljjhhdaaDoorKeyR
namespace Go.Proofs.YtdgllpcljjhhdaaDoor
set_option linter.unusedVariables false
open Go.RowKit

set_option maxHeartbeats 800000 in
theorem KToken_any (k : Nat) (w : World) (hk : k < 18446744073709551616) (hT : Tab w) :
    Calls Tryd.prog 3 #[.int .u64 (k : Int)] w (Held w) := by
  go_enter Tryd.func3, Tryd.ntmps3
  go_wp2_with fail
  refine (kwakes_any _ hT).mono ?_
  rintro e w1 ⟨rfl, b1⟩
  have t1 := hT.below b1
  clear hT
  have hlt := kt_lt k
  have HA := Lib.hid (fun W h => token_any k W hk h)
  have HB := Lib.hid (fun W => rtoken_any k W hk)
  generalize kt k = x at *
  go_wp2_with fail
  refine (HA.out _ t1).mono ?_
  rintro e w2 ⟨rfl, b2⟩
  have b3 := below_trans b1 b2
  go_wp2_with fail
  refine (HB.out _).mono ?_
  rintro e w4 ⟨rfl, b4⟩
  have b5 := below_trans b3 b4
  clear b1 b2 b3 b4 t1
  go_wp2_with fail
  go_ret
  exact ⟨rfl, b5⟩
end Go.Proofs.YtdgllpcljjhhdaaDoor

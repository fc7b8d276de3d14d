/- The contract of key.Token. Condition: the table holds FIPS 180-4's constants; the key is a number of 64 bits. -/
import Derived.Test.YtgkonmjchdpohaaDoorKeyFa
import Derived.Test.YtgkonmjchdpohaaDoorKeyM
import Derived.Test.YtgkonmjchdpohaaDoorShaQ
namespace Go.Proofs.YtgkonmjchdpohaaDoor
set_option linter.unusedVariables false
set_option linter.unusedSimpArgs false
open Go.RowKit

theorem wn8 : wn 8 = 8 := rfl
theorem wn4 : wn 4 = 4 := rfl

set_option maxHeartbeats 800000 in
theorem token_any (k : Nat) (w : World) (hk : k < 18446744073709551616) (hT : Tab w) :
    Calls Tryd.prog 13 #[.int .u64 (k : Int)] w fun e w' => e = .returned (.int .u32 (kt k : Nat)) ∧ Below w.heap.size w w' := by
  have hlt := kt_lt k
  have HD := Lib.hid (dg_length (be k 8))
  have HK : Hid (kt k = num ((dg (be k 8)).take 4)) := Lib.hid rfl
  go_enter Tryd.func13, Tryd.ntmps13
  go_wp2_with (first
    | (go_at_call 25; refine (put_one rfl hk wn8).mono ?_; rintro e w1 ⟨A1, c1, rfl, r1, b1⟩; have t1 := hT.below b1; clear hT)
    | (go_at_call 24; refine (sha_one rfl r1 (by omega) t1).mono ?_; rintro e w2 ⟨rfl, b2⟩; have b3 := below_trans (below_trans b1 (below_a w1 _)) b2; clear b1 b2 t1 r1)
    | (go_at_call 23; refine (front_any (dg (be k 8)) HD.out 4 4 (.inl ⟨rfl, rfl⟩) _).mono ?_; rw [← HK.out]; generalize hx : kt k = x at *; have HX := Lib.hid hx; clear hx; rintro e w4 ⟨rfl, b4⟩; have b5 := below_trans b3 b4; clear b3 b4))
  go_ret
  exact ⟨by rw [HX.out]; rfl, b5⟩


end Go.Proofs.YtgkonmjchdpohaaDoor

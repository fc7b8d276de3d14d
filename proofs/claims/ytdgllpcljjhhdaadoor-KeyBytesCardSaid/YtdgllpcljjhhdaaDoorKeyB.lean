/- The walk of the law KeyBytes. Condition: the table holds FIPS 180-4's constants. -/
import Derived.Test.YtdgllpcljjhhdaaDoorKeyW
import Derived.Test.YtdgllpcljjhhdaaDoorHel
namespace Go.Proofs.YtdgllpcljjhhdaaDoor
set_option linter.unusedVariables false
open Go.RowKit

set_option maxRecDepth 8000 in
set_option maxHeartbeats 1600000 in
theorem KBytes_any (k : Nat) (w : World) (hk : k < 18446744073709551616) (hT : Tab w) :
    Calls Tryd.prog 5 #[.int .u64 (k : Int)] w (Held w) := by
  go_enter Tryd.func5, Tryd.ntmps5
  go_wp2_with fail
  refine (kwakes_any _ hT).mono ?_
  rintro e w1 ⟨rfl, b1⟩
  have t1 := hT.below b1
  clear hT
  have hlt := kt_lt k
  have HA := Lib.hid (fun W h => token_any k W hk h)
  have HD := Lib.hid (dg_length (be k 8))
  have HK : Hid (kt k = num ((dg (be k 8)).take 4)) := Lib.hid rfl
  go_wp2_with fail
  refine (Put_any none 0 0 k 8 [] w1 (RB.nil_ w1) hk (by omega)).mono ?_
  rw [wn8]
  rintro e w2 ⟨A2, c2, rfl, r2, b2⟩
  rw [List.nil_append] at r2
  have b3 := below_trans b1 b2
  have t2 := t1.below b2
  clear b1 b2 t1
  go_wp2_with fail
  refine (sha_one rfl r2 (by omega) t2).mono ?_
  rintro e w4 ⟨rfl, b4⟩
  have b6 := below_trans (below_a w2 _) b4
  have b5 := below_trans b3 b6
  have t4 := t2.below b6
  clear b3 b4 b6 r2 t2
  generalize dg (be k 8) = D at *
  go_wp2_with (first
      | ((with_reducible refine wpList_here ?_); refine wpList_zerosA rfl 31 rfl 32 zero32 _ rfl ?_; intro w8 z8 b8 s8)
      | ((with_reducible refine wpList_here ?_); refine wpList_storeA rfl 31 (.tmp 3) (.tmp 12) rfl w4.heap.size 32 _ D rfl rfl z8 HD.out info32 ?_; intro w10 z10 g10 s10
         have b10 := below_g b8 g10 b8.size (Nat.le_refl _)
         have b11 := below_trans b5 b10
         have t10 := t4.below b10
         have r10 := z10.rb HD.out (by omega)
         clear g10 z10 z8 s8 s10 b10 b5 b8 t4))
  refine (Take_ok _ 32 32 4 D _ r10 (by rw [wn4]; omega) (by omega)).mono ?_
  rw [wn4, ← HK.out]
  generalize kt k = x at *
  rintro e w12 ⟨A3, c3, rfl, r3, b12⟩
  have b13 := below_trans b11 b12
  have t12 := t10.below b12
  clear r3 r10 b11 b12 t10
  go_wp2_with fail
  refine (HA.out _ t12).mono ?_
  rintro e w14 ⟨rfl, b14⟩
  have b15 := below_trans b13 b14
  clear HA b13 b14 t12
  go_wp2_with fail
  go_ret
  exact ⟨rfl, b15⟩
end Go.Proofs.YtdgllpcljjhhdaaDoor

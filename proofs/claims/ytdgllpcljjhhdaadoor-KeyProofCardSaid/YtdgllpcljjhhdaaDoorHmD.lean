/- The contract of the digest of a key and of all pieces behind it. Conditions: the key has 64 bytes; the pieces hold at most 2^37 bytes, and are at most 2^37; the table holds FIPS 180-4's constants. -/
import Derived.Test.YtdgllpcljjhhdaaDoorHmB
import Derived.Test.YtdgllpcljjhhdaaDoorPil
namespace Go.Proofs.YtdgllpcljjhhdaaDoor
set_option linter.unusedVariables false
open Go.RowKit

set_option maxRecDepth 8000 in
set_option maxHeartbeats 1600000 in
theorem hdig_any (k : List UInt8) (hk : k.length = 64) (A : Option Addr) (n c : Nat) (ps : List (List UInt8)) (w : World) (h : Parts w A n c ps) (ht : tl ps n ≤ 137438953472) (hn : n ≤ 137438953472) (hT : Tab w) :
    Calls Tryd.prog 30 #[.agg (bv k).toArray, .slice A n c] w (Dig (k ++ fl ps n) w) := by
  have HF := Lib.hid (fl_cons k ps n)
  have HT : Hid (tl (k :: ps) (n + 1) ≤ 274877906944) := Lib.hid (by rw [tl_cons, hk]; omega)
  have HDL := Lib.hid (dg_length (k ++ fl ps n))
  have hmx := h.max
  have hcp := h.cap
  go_enter Tryd.func30, Tryd.ntmps30
  go_wp2_with (first
    | ((with_reducible refine wpList_here ?_); refine wpList_boxA rfl 61 (.tmp 0) rfl k 64 hk rfl ?_; intro w1 z1 b1 s1)
    | ((with_reducible refine wpList_here ?_); refine wpList_zerosA rfl 31 rfl 32 zero32 (w.heap.size + 1) s1 ?_; intro w2 d2 b2 s2
       have b3 := below_trans b1 b2
       have r2 := (z1.rb hk (by omega)).below b2
       have h2 := h.below b3
       have t2 := hT.below b3
       clear z1 h hT b1 b2)
    | (go_at_call 38; refine (ConcatP_two s2.symm (by rw [s2]) r2 h2 (by omega)).mono ?_; rintro e w3 ⟨A3, c3, rfl, p3, b4⟩
       have b5 := (below_a2 w2 _ _).trans (b4.mono (by simp; omega))
       have d3 := d2.below b5
       have t3 := t2.below b5
       have b6 := below_trans b3 b5
       clear d2 t2 r2 h2 b4 b5 b3)
    | (go_at_call 11; refine (sha_any A3 (n + 1) c3 (k :: ps) w3 p3 HT.out t3).mono ?_; rw [HF.out]; rintro e w4 ⟨rfl, b7⟩
       have d4 := d3.below b7
       have b8 := below_trans b6 b7
       clear p3 t3 d3 b6 b7)
    | ((with_reducible refine wpList_here ?_); refine wpList_storeA rfl 31 (.tmp 4) (.tmp 10) rfl (w.heap.size + 1) 32 _ (dg (k ++ fl ps n)) rfl rfl d4 HDL.out info32 ?_; intro w5 d5 g5 s5))
  refine bodyPost_ret (results_A rfl _ _ (w.heap.size + 1) 32 (dg (k ++ fl ps n)) (.array 32 5) rfl d5 HDL.out Tryd.underlying31 rfl info32) rfl ⟨rfl, below_g b8 g5 b8.size (Nat.le_succ _)⟩
end Go.Proofs.YtdgllpcljjhhdaaDoor

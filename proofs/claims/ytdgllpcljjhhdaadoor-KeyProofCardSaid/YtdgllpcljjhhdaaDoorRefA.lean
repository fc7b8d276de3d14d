/- The contracts of the document's own digest, first part: rotations, the constants. Condition: a rotation by 1 to 31. -/
import Derived.Test.YtdgllpcljjhhdaaDoorBase
import Derived.Test.YtdgllpcljjhhdaaDoorStepI
import Derived.Test.YtdgllpcljjhhdaaDoorArb
namespace Go.Proofs.YtdgllpcljjhhdaaDoor
set_option linter.unusedVariables false
open Go.RowKit

theorem infoU32 : (Tryd.prog.info? 24).map (fun i => (i.zero, i.size, i.bytes)) = some (some (.int .u32 0), 1, 4) := by kernel_rfl

theorem rotr_any (x : UInt32) (k : Nat) (h1 : 1 ≤ k) (h2 : k ≤ 31) (w : World) :
    Calls Tryd.prog 37 #[c32 x, .int .u32 (k : Int)] w fun e w' => e = .returned (c32 (rr k x)) ∧ w' = w := by
  have hb : (32 - (k : Int)) % 4294967296 = ((32 - k : Nat) : Int) := by omega
  have hb' : IntKind.u32.wrap (32 - (k : Int)) = ((32 - k : Nat) : Int) := by rw [IntKind.wrap_u32']; omega
  have HL := Lib.hid (w_shl x (32 - k) (by omega))
  have HR := Lib.hid (w_shr x k (by omega))
  have HE : Hid (rr k x = (x >>> UInt32.ofNat k) ||| (x <<< UInt32.ofNat (32 - k))) := Lib.hid rfl
  have h3 : (32 - k) ≤ 32 := by omega
  have h4 : k ≤ 32 := by omega
  go_enter Tryd.func37, Tryd.ntmps37
  generalize 32 - k = m at *
  go_wp2_with fail
  go_ret
  exact ⟨by rw [HL.out, HR.out, w_or, ← HE.out]; rfl, rfl⟩

/-- What a call leaves that answers n words in memory of its own. -/
def MadeW (W : World) (n : Nat) (l : List UInt32) (e : Ending) (w' : World) : Prop := ∃ A c, e = .returned (.slice A n c) ∧ RI .u32 w' A n c (us l) ∧ Below W.heap.size W w'

theorem us_kk : us kk = [1116352408, 1899447441, 3049323471, 3921009573, 961987163, 1508970993, 2453635748, 2870763221] ++ [3624381080, 310598401, 607225278, 1426881987, 1925078388, 2162078206, 2614888103, 3248222580] ++ [3835390401, 4022224774, 264347078, 604807628, 770255983, 1249150122, 1555081692, 1996064986] ++ [2554220882, 2821834349, 2952996808, 3210313671, 3336571891, 3584528711, 113926993, 338241895] ++ [666307205, 773529912, 1294757372, 1396182291, 1695183700, 1986661051, 2177026350, 2456956037] ++ [2730485921, 2820302411, 3259730800, 3345764771, 3516065817, 3600352804, 4094571909, 275423344] ++ [430227734, 506948616, 659060556, 883997877, 958139571, 1322822218, 1537002063, 1747873779] ++ [1955562222, 2024104815, 2227730452, 2361852424, 2428436474, 2756734187, 3204031479, 3329325298] := by decide +kernel

set_option maxRecDepth 8000 in
set_option maxHeartbeats 1600000 in
theorem Words_any (w : World) : Calls Tryd.prog 36 #[] w (MadeW w 64 kk) := by
  have HU := Lib.hid us_kk
  have hown : w.ownsRow w.heap.size 24 1 (.slice none 0 0) 0 (iv .u32 []) := World.ownsRow_nil _ _ _ _
  have hb := Below.refl w.heap.size w
  go_enter Tryd.func36, Tryd.ntmps36
  go_wp2_with (at_builtin; refine wpList_appi (W := w) rfl _ _ .u32 58 24 4 rfl Tryd.underlying58 infoU32 (by decide) _ _ _ rfl (hown.alloc _) (hb.alloc hb.size _) _ 8 8 _ rfl (RI.lit8 _ _ _ _ _ _ _ _ _ _) (by omega) ?_; clear hown hb; intro A1 c1 w1 hr hown hb)
  go_ret
  rw [List.nil_append, ← HU.out] at hr
  exact ⟨A1, c1, rfl, hr, hb⟩
end Go.Proofs.YtdgllpcljjhhdaaDoor

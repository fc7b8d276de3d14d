/- Layer 5's mathematics: a key's token, and what proves two keys. No program, no condition. -/
import Derived.Test.YtgkonmjchdpohaaDoorHmM
namespace Go.Proofs.YtgkonmjchdpohaaDoor
set_option linter.unusedVariables false
set_option linter.unusedSimpArgs false

/-- The first four bytes of a key's digest; the first eight of what proves two keys. -/
def kt (k : Nat) : Nat := num ((dg (be k 8)).take 4)
def kp (own other nonce back : Nat) : Nat := num ((hm (be own 8 ++ be other 8) (be nonce 4 ++ be back 4)).take 8)
theorem kt_lt (k : Nat) : kt k < 4294967296 := by
  have h := num_lt ((dg (be k 8)).take 4)
  rw [List.length_take, dg_length] at h
  exact h
theorem kp_lt (own other nonce back : Nat) : kp own other nonce back < 18446744073709551616 := by
  have h := num_lt ((hm (be own 8 ++ be other 8) (be nonce 4 ++ be back 4)).take 8)
  rw [List.length_take, hm_length] at h
  exact h
set_option maxRecDepth 100000 in
theorem kt_zero : kt 0 = 2941612277 := by
  unfold kt
  have e : (dg [0, 0, 0, 0, 0, 0, 0, 0]).take 4 = [175, 85, 112, 245] := by decide +kernel
  have e0 : be 0 8 = [0, 0, 0, 0, 0, 0, 0, 0] := by decide +kernel
  rw [e0, e]
  decide +kernel
end Go.Proofs.YtgkonmjchdpohaaDoor

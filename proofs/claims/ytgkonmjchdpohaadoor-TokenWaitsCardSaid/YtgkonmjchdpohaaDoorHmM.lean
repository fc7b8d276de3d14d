/- Layer 4's mathematics: a key filled, a number added to each byte without carry, the digest with a key. No program, no condition. -/
import Derived.Test.YtgkonmjchdpohaaDoorShaM
namespace Go.Proofs.YtgkonmjchdpohaaDoor
set_option linter.unusedVariables false
set_option linter.unusedSimpArgs false

/-- A key, filled; a number added to each byte without carry; the digest with a key. -/
def ks (k : List UInt8) : List UInt8 := if 64 < k.length then dg k else k
def kf (k : List UInt8) : List UInt8 := ks k ++ List.replicate (64 - (ks k).length) 0
def xo (n : UInt8) (k : List UInt8) : List UInt8 := k.map fun x => x ^^^ n
def hm (k t : List UInt8) : List UInt8 := dg (xo 92 (kf k) ++ dg (xo 54 (kf k) ++ t))
theorem ks_length (k : List UInt8) : (ks k).length ≤ 64 := by
  unfold ks
  split
  · rw [dg_length]; omega
  · omega
theorem kf_length (k : List UInt8) : (kf k).length = 64 := by
  have := ks_length k
  rw [kf, List.length_append, List.length_replicate]
  omega
theorem xo_length (n : UInt8) (k : List UInt8) : (xo n k).length = k.length := by simp [xo]
theorem hm_length (k t : List UInt8) : (hm k t).length = 32 := dg_length _
theorem b_xor (x y : UInt8) : bits .xor .u8 (x.toNat : Int) (y.toNat : Int) = ((x ^^^ y).toNat : Int) := by
  rw [u8_xor_nat _ _ x.toNat_lt y.toNat_lt, UInt8.toNat_xor]
theorem kf_long (k : List UInt8) (h : 64 < k.length) : kf (dg k) = kf k := by
  have e : ks (dg k) = ks k := by
    unfold ks
    rw [dg_length, if_neg (by omega), if_pos h]
  unfold kf
  rw [e]
theorem kf_zeros (k : List UInt8) (n : Nat) (h : k.length + n ≤ 64) : kf (k ++ List.replicate n 0) = kf k := by
  have e1 : ks (k ++ List.replicate n 0) = k ++ List.replicate n 0 := by
    unfold ks
    rw [if_neg (by simp; omega)]
  have e2 : ks k = k := by
    unfold ks
    rw [if_neg (by omega)]
  unfold kf
  rw [e1, e2, List.append_assoc, List.replicate_append_replicate]
  congr 2
  simp
  omega
theorem hm_long (k t : List UInt8) (h : 64 < k.length) : hm (dg k) t = hm k t := by unfold hm; rw [kf_long k h]
theorem hm_zeros (k t : List UInt8) (n : Nat) (h : k.length + n ≤ 64) : hm (k ++ List.replicate n 0) t = hm k t := by unfold hm; rw [kf_zeros k n h]

/-- The document's example, its two digests one by one. -/
theorem kf_jefe : kf [74, 101, 102, 101] = [74, 101, 102, 101, 0, 0, 0, 0, 0, 0, 0, 0, 0, 0, 0, 0, 0, 0, 0, 0, 0, 0, 0, 0, 0, 0, 0, 0, 0, 0, 0, 0, 0, 0, 0, 0, 0, 0, 0, 0, 0, 0, 0, 0, 0, 0, 0, 0, 0, 0, 0, 0, 0, 0, 0, 0, 0, 0, 0, 0, 0, 0, 0, 0] := by decide +kernel
set_option maxRecDepth 100000 in
theorem in_jefe : dg (xo 54 (kf [74, 101, 102, 101]) ++ ([119, 104, 97, 116, 32, 100, 111, 32, 121, 97, 32, 119, 97, 110, 116, 32] ++ [102, 111, 114, 32, 110, 111, 116, 104, 105, 110, 103, 63])) = [162, 228, 133, 134, 61, 39, 249, 216, 100, 172, 141, 128, 36, 50, 161, 237, 71, 125, 140, 76, 111, 52, 157, 22, 212, 231, 233, 23, 198, 41, 202, 215] := by
  rw [kf_jefe]
  decide +kernel
set_option maxRecDepth 100000 in
theorem hm_jefe : (hm [74, 101, 102, 101] ([119, 104, 97, 116, 32, 100, 111, 32, 121, 97, 32, 119, 97, 110, 116, 32] ++ [102, 111, 114, 32, 110, 111, 116, 104, 105, 110, 103, 63])).take 4 = [91, 220, 193, 70] := by
  unfold hm
  rw [in_jefe, kf_jefe]
  decide +kernel
end Go.Proofs.YtgkonmjchdpohaaDoor

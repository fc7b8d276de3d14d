/- Layer 3's mathematics, second part: a block's words and its rounds, as lists and in place, and that both are one; the digest of any bytes. No program, no condition. -/
import Derived.Test.YtgkonmjchdpohaaDoorArr
import Derived.Test.YtgkonmjchdpohaaDoorNum
namespace Go.Proofs.YtgkonmjchdpohaaDoor
set_option linter.unusedVariables false
set_option linter.unusedSimpArgs false

/-- FIPS 180-4's constants. -/
def kk : List UInt32 := [1116352408, 1899447441, 3049323471, 3921009573, 961987163, 1508970993, 2453635748, 2870763221, 3624381080, 310598401, 607225278, 1426881987, 1925078388, 2162078206, 2614888103, 3248222580, 3835390401, 4022224774, 264347078, 604807628, 770255983, 1249150122, 1555081692, 1996064986, 2554220882, 2821834349, 2952996808, 3210313671, 3336571891, 3584528711, 113926993, 338241895, 666307205, 773529912, 1294757372, 1396182291, 1695183700, 1986661051, 2177026350, 2456956037, 2730485921, 2820302411, 3259730800, 3345764771, 3516065817, 3600352804, 4094571909, 275423344, 430227734, 506948616, 659060556, 883997877, 958139571, 1322822218, 1537002063, 1747873779, 1955562222, 2024104815, 2227730452, 2361852424, 2428436474, 2756734187, 3204031479, 3329325298]
def kn (t : Nat) : UInt32 := kk.getD t 0
def hh : List UInt32 := [1779033703, 3144134277, 1013904242, 2773480762, 1359893119, 2600822924, 528734635, 1541459225]

/-- A byte as a word; word j of a block. -/
def by4 (x : UInt8) : UInt32 := UInt32.ofNat x.toNat
def be4 (l : List UInt8) (j : Nat) : UInt32 := by4 (l.getD (4 * j) 0) <<< 24 ||| by4 (l.getD (4 * j + 1) 0) <<< 16 ||| by4 (l.getD (4 * j + 2) 0) <<< 8 ||| by4 (l.getD (4 * j + 3) 0)
def sg0 (x : UInt32) : UInt32 := rr 7 x ^^^ rr 18 x ^^^ x >>> 3
def sg1 (x : UInt32) : UInt32 := rr 17 x ^^^ rr 19 x ^^^ x >>> 10
/-- The words of a block, as they are told. -/
def wnext (l : List UInt8) (w : List UInt32) (t : Nat) : UInt32 := if t < 16 then be4 l t else sg1 (w.getD (t - 2) 0) + w.getD (t - 7) 0 + sg0 (w.getD (t - 15) 0) + w.getD (t - 16) 0
def wl (l : List UInt8) (n : Nat) : List UInt32 := Nat.rec [] (fun t w => w ++ [wnext l w t]) n
theorem wl_step (l : List UInt8) (n : Nat) : wl l (n + 1) = wl l n ++ [wnext l (wl l n) n] := rfl
theorem wl_length (l : List UInt8) (n : Nat) : (wl l n).length = n := by
  induction n with
  | zero => rfl
  | succ n ih => rw [wl_step, List.length_append, ih]; rfl
theorem getD_snoc {α : Type} (l : List α) (x d : α) (j n : Nat) (h : l.length = n) : (l ++ [x]).getD j d = if j < n then l.getD j d else if j = n then x else d := by
  subst h
  simp only [List.getD_eq_getElem?_getD]
  by_cases h1 : j < l.length
  · rw [if_pos h1, List.getElem?_append_left h1]
  · rw [if_neg h1, List.getElem?_append_right (by omega)]
    by_cases h2 : j = l.length
    · subst h2; simp
    · rw [if_neg h2, List.getElem?_eq_none (by simp; omega)]; rfl

/-- .. in place: the bytes first, one by one; then word by word. -/
def bw (l : List UInt8) : Nat → (Nat → UInt32)
  | 0 => fun _ => 0
  | i + 1 => put (bw l i) (i / 4) (bw l i (i / 4) <<< 8 ||| by4 (l.getD i 0))
def xw (l : List UInt8) : Nat → (Nat → UInt32)
  | 0 => bw l 64
  | k + 1 => put (xw l k) (k + 16) ((rrs [17, 19] (xw l k (k + 14)) ^^^ xw l k (k + 14) >>> 10) + xw l k (k + 9) + (rrs [7, 18] (xw l k (k + 1)) ^^^ xw l k (k + 1) >>> 3) + xw l k k)

theorem bw_zero (l : List UInt8) (j i : Nat) (h : i ≤ 4 * j) : bw l i j = 0 := by
  induction i with
  | zero => rfl
  | succ i ih => rw [bw, put_other _ _ _ _ (by omega)]; exact ih (by omega)
theorem bw_hit (l : List UInt8) (j i : Nat) (h : i / 4 = j) : bw l (i + 1) j = bw l i j <<< 8 ||| by4 (l.getD i 0) := by
  rw [bw, h, put_same]
theorem shl_or (a b : UInt32) : (a ||| b) <<< 8 = a <<< 8 ||| b <<< 8 := by
  apply UInt32.toBitVec_inj.1
  simp [UInt32.toBitVec_shiftLeft, UInt32.toBitVec_or, BitVec.shiftLeft_or_distrib]
theorem shl_88 (a : UInt32) : a <<< 8 <<< 8 = a <<< 16 := by
  apply UInt32.toBitVec_inj.1
  simp [UInt32.toBitVec_shiftLeft, ← BitVec.shiftLeft_add]
theorem shl_168 (a : UInt32) : a <<< 8 <<< 16 = a <<< 24 := by
  apply UInt32.toBitVec_inj.1
  simp [UInt32.toBitVec_shiftLeft, ← BitVec.shiftLeft_add]
theorem bw_four (l : List UInt8) (j k : Nat) : bw l (4 * j + 4 + k) j = be4 l j := by
  induction k with
  | zero =>
    rw [Nat.add_zero, bw_hit l j (4 * j + 3) (by omega), bw_hit l j (4 * j + 2) (by omega), bw_hit l j (4 * j + 1) (by omega), bw_hit l j (4 * j) (by omega), bw_zero l j (4 * j) (Nat.le_refl _)]
    unfold be4
    rw [show (0 : UInt32) <<< 8 = 0 from rfl, UInt32.zero_or, shl_or, shl_or, shl_or, shl_88, shl_88, shl_168]
  | succ k ih => rw [← Nat.add_assoc, bw, put_other _ _ _ _ (by omega)]; exact ih
theorem sg_near (x : UInt32) : rrs [17, 19] x ^^^ x >>> 10 = sg1 x := by simp [rrs, sg1]
theorem sg_far (x : UInt32) : rrs [7, 18] x ^^^ x >>> 3 = sg0 x := by simp [rrs, sg0]
theorem wl_low (l : List UInt8) (n : Nat) (hn : n ≤ 16) (j : Nat) (hj : j < n) : (wl l n).getD j 0 = be4 l j := by
  induction n with
  | zero => omega
  | succ n ih =>
    rw [wl_step, getD_snoc _ _ _ _ n (wl_length l n)]
    by_cases h : j < n
    · rw [if_pos h]; exact ih (by omega) h
    · obtain rfl : j = n := by omega
      rw [if_neg h, if_pos rfl, wnext, if_pos (by omega)]
theorem xw_wl (l : List UInt8) (k : Nat) (hk : k ≤ 48) (j : Nat) (hj : j < 16 + k) : xw l k j = (wl l (16 + k)).getD j 0 := by
  induction k generalizing j with
  | zero =>
    rw [Nat.add_zero, wl_low l 16 (Nat.le_refl _) j hj]
    have := bw_four l j (60 - 4 * j)
    rw [show 4 * j + 4 + (60 - 4 * j) = 64 by omega] at this
    exact this
  | succ k ih =>
    rw [← Nat.add_assoc, wl_step, getD_snoc _ _ _ _ (16 + k) (wl_length l _), xw]
    by_cases h : j < 16 + k
    · rw [if_pos h, put_other _ _ _ _ (by omega)]; exact ih (by omega) j h
    · obtain rfl : j = 16 + k := by omega
      rw [if_neg h, if_pos rfl, show 16 + k = k + 16 from Nat.add_comm _ _, put_same, sg_near, sg_far, wnext, if_neg (by omega)]
      rw [ih (by omega) (k + 14) (by omega), ih (by omega) (k + 9) (by omega), ih (by omega) (k + 1) (by omega), ih (by omega) k (by omega)]
      rw [show k + 16 - 2 = k + 14 by omega, show k + 16 - 7 = k + 9 by omega, show k + 16 - 15 = k + 1 by omega, show k + 16 - 16 = k by omega, show 16 + k = k + 16 from Nat.add_comm _ _]
/-- The words of a block. -/
def ww (l : List UInt8) (t : Nat) : UInt32 := (wl l 64).getD t 0
theorem xw_all (l : List UInt8) (j : Nat) (hj : j < 64) : xw l 48 j = ww l j := xw_wl l 48 (Nat.le_refl _) j hj
theorem wl_keep (l : List UInt8) (n m j : Nat) (hj : j < n) : (wl l (n + m)).getD j 0 = (wl l n).getD j 0 := by
  induction m with
  | zero => rfl
  | succ m ih => rw [← Nat.add_assoc, wl_step, getD_snoc _ _ _ _ (n + m) (wl_length l _), if_pos (by omega), ih]

/-- A round, as lists. -/
def S0 (x : UInt32) : UInt32 := rr 2 x ^^^ rr 13 x ^^^ rr 22 x
def S1 (x : UInt32) : UInt32 := rr 6 x ^^^ rr 11 x ^^^ rr 25 x
def rstep (v : List UInt32) (k x : UInt32) : List UInt32 :=
  let t1 := v.getD 7 0 + S1 (v.getD 4 0) + ch (v.getD 4 0) (v.getD 5 0) (v.getD 6 0) + k + x
  let t2 := S0 (v.getD 0 0) + mj (v.getD 0 0) (v.getD 1 0) (v.getD 2 0)
  [t1 + t2, v.getD 0 0, v.getD 1 0, v.getD 2 0, v.getD 3 0 + t1, v.getD 4 0, v.getD 5 0, v.getD 6 0]
def rl (l : List UInt8) (h : List UInt32) (n : Nat) : List UInt32 := Nat.rec h (fun t v => rstep v (kn t) ((wl l 64).getD t 0)) n
theorem rl_step (l : List UInt8) (h : List UInt32) (n : Nat) : rl l h (n + 1) = rstep (rl l h n) (kn n) (ww l n) := rfl
/-- A block's share. -/
def comp (h : List UInt32) (l : List UInt8) : List UInt32 := (List.range 8).map fun i => h.getD i 0 + (rl l h 64).getD i 0

/-- The rounds in place. -/
def st (l : List UInt8) (v : Nat → UInt32) : Nat → (Nat → UInt32)
  | 0 => v
  | t + 1 => rnd (st l v t) t (ww l t + kn t)
theorem rrs_S0 (x : UInt32) : rrs [2, 13, 22] x = S0 x := by simp [rrs, S0]
theorem rrs_S1 (x : UInt32) : rrs [6, 11, 25] x = S1 x := by simp [rrs, S1]
theorem rnd_at (f : Nat → UInt32) (t : Nat) (n : UInt32) (ht : t < 64) :
    rnd f t n (at8 0 (t + 1)) = rsum f t n + S0 (f (at8 0 t)) + mj (f (at8 0 t)) (f (at8 1 t)) (f (at8 2 t)) ∧ rnd f t n (at8 4 (t + 1)) = f (at8 3 t) + rsum f t n ∧
    ∀ i, i ≠ 0 → i ≠ 4 → i < 8 → rnd f t n (at8 i (t + 1)) = f (at8 (i - 1) t) := by
  have e0 : at8 0 (t + 1) = at8 7 t := by unfold at8; omega
  have e4 : at8 4 (t + 1) = at8 3 t := by unfold at8; omega
  have h37 : at8 3 t ≠ at8 7 t := by unfold at8; omega
  unfold rnd
  refine ⟨by rw [e0, put_same, rrs_S0], by rw [e4, put_other _ _ _ _ h37, put_same], fun i h0 h4 h8 => ?_⟩
  have e : at8 i (t + 1) = at8 (i - 1) t := by unfold at8; omega
  rw [e, put_other _ _ _ _ (by unfold at8; omega), put_other _ _ _ _ (by unfold at8; omega)]
theorem sum5 (a b c d e : UInt32) : (e + d) + (a + b + c) = a + b + c + d + e := by ac_rfl
theorem st_rl (l : List UInt8) (v : Nat → UInt32) (h : List UInt32) (hv : ∀ i, i < 8 → h.getD i 0 = v i) (t : Nat) (ht : t ≤ 64) (i : Nat) (hi : i < 8) : (rl l h t).getD i 0 = st l v t (at8 i t) := by
  induction t generalizing i with
  | zero =>
    have e : at8 i 0 = i := by unfold at8; omega
    rw [e]
    exact hv i hi
  | succ t ih =>
    have ih := ih (by omega)
    obtain ⟨r0, r4, ro⟩ := rnd_at (st l v t) t (ww l t + kn t) (by omega)
    have hs : rsum (st l v t) t (ww l t + kn t) = (rl l h t).getD 7 0 + S1 ((rl l h t).getD 4 0) + ch ((rl l h t).getD 4 0) ((rl l h t).getD 5 0) ((rl l h t).getD 6 0) + kn t + ww l t := by
      unfold rsum
      rw [rrs_S1, ← ih 7 (by omega), ← ih 4 (by omega), ← ih 5 (by omega), ← ih 6 (by omega)]
      exact sum5 _ _ _ _ _
    rw [rl_step, st]
    match i, hi with
    | 0, _ => rw [r0, hs, ← ih 0 (by omega), ← ih 1 (by omega), ← ih 2 (by omega), UInt32.add_assoc]; rfl
    | 4, _ => rw [r4, hs, ← ih 3 (by omega)]; rfl
    | 1, _ => rw [ro 1 (by omega) (by omega) (by omega), ← ih 0 (by omega)]; rfl
    | 2, _ => rw [ro 2 (by omega) (by omega) (by omega), ← ih 1 (by omega)]; rfl
    | 3, _ => rw [ro 3 (by omega) (by omega) (by omega), ← ih 2 (by omega)]; rfl
    | 5, _ => rw [ro 5 (by omega) (by omega) (by omega), ← ih 4 (by omega)]; rfl
    | 6, _ => rw [ro 6 (by omega) (by omega) (by omega), ← ih 5 (by omega)]; rfl
    | 7, _ => rw [ro 7 (by omega) (by omega) (by omega), ← ih 6 (by omega)]; rfl
theorem comp_at (l : List UInt8) (h : List UInt32) (v : Nat → UInt32) (hv : ∀ i, i < 8 → h.getD i 0 = v i) (i : Nat) (hi : i < 8) : (comp h l).getD i 0 = st l v 64 i + v i := by
  have h1 := st_rl l v h hv 64 (Nat.le_refl _) i hi
  have e : at8 i 64 = i := by unfold at8; omega
  rw [e] at h1
  unfold comp
  rw [← h1, ← hv i hi, UInt32.add_comm]
  simp [hi]
theorem comp_length (h : List UInt32) (l : List UInt8) : (comp h l).length = 8 := by simp [comp]

/-- What ends a text of n bytes; the words behind the first k blocks; the digest. -/
def ends (n : Nat) : List UInt8 := 0x80 :: List.replicate ((119 - n % 64) % 64) 0 ++ be (8 * n % 18446744073709551616) 8
def full (l : List UInt8) : List UInt8 := l ++ ends l.length
def blocks (m : List UInt8) (k : Nat) : List UInt32 := Nat.rec hh (fun i h => comp h ((m.drop (64 * i)).take 64)) k
theorem blocks_step (m : List UInt8) (k : Nat) : blocks m (k + 1) = comp (blocks m k) ((m.drop (64 * k)).take 64) := rfl
theorem blocks_length (m : List UInt8) (k : Nat) : (blocks m k).length = 8 := by
  cases k with
  | zero => rfl
  | succ k => rw [blocks_step, comp_length]
def wbytes (h : List UInt32) : Nat → UInt8 := fun i => UInt8.ofNat ((h.getD (i / 4) 0).toNat / 2 ^ (24 - 8 * (i % 4)) % 256)
def dg (l : List UInt8) : List UInt8 := (List.range 32).map (wbytes (blocks (full l) ((full l).length / 64)))
theorem dg_length (l : List UInt8) : (dg l).length = 32 := by simp [dg]
set_option maxRecDepth 100000 in
theorem dg_abc : (dg [97, 98, 99]).take 4 = [186, 120, 22, 191] := by decide +kernel
end Go.Proofs.YtgkonmjchdpohaaDoor

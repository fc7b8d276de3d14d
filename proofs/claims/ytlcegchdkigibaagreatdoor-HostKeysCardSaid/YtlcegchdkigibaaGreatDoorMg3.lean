/- Layer 3's mathematics: words of 32 bits, a block's words, its rounds, in the two ways in which they are reckoned, and that these are one. No program, no condition.
The contracts of the digest's small functions: rotations, spot, choice, majority. Conditions: a rotation by 1 to 31; a name below 8, a round below 64.
Words of our own for arrays of words of 32 bits that lie in a block of their own, without any program: what a block holds; what a store of one cell, a new block, another block's writer leaves. No condition.
The contract of a round. Conditions: the receiver is a block of eight words, the round's number is below 64.
Layer 3's mathematics, second part: a block's words and its rounds, as lists and in place, and that both are one; the digest of any bytes. No program, no condition.
The contract of the digest's schedule. Condition: a block of 64 bytes.
The contract of a block's share. Conditions: the receiver is a block of eight words, not the table's; a block of 64 bytes; the table holds FIPS 180-4's constants.
Out of the row's condition: the package's table holds FIPS 180-4's constants. Condition: the listed variable reads as the program's text lays it. -/
import Derived.Test.YtlcegchdkigibaaGreatDoorMg2
import Derived.Laws.BitsAllLaws
import Derived.Deep.MidRow
import Derived.Deep.AppendLies
import Derived.Maps.AppendAt
import Derived.Deep.RegionHeld3
import Derived.Deep.Cut
import Derived.Deep.DeepCutAuto
import Derived.Test.YtlcegchdkigibaaGreatDoorRows
import Derived.Lib.LaidTab
import Derived.LaidMore
import Derived.LaidByTextLater
namespace Go.Proofs.YtlcegchdkigibaaGreatDoor.LK
set_option linter.unusedVariables false
set_option linter.unusedSimpArgs false

/-- A word as a value. -/
abbrev c32 (x : UInt32) : Value := .int .u32 (x.toNat : Int)

theorem w_lt (x : UInt32) : x.toNat < 4294967296 := x.toNat_lt
theorem w_add (x y : UInt32) : ((x.toNat : Int) + (y.toNat : Int)) % 4294967296 = ((x + y).toNat : Int) := by
  rw [UInt32.toNat_add]; omega
theorem w_addw (x y : UInt32) : IntKind.u32.wrap ((x.toNat : Int) + (y.toNat : Int)) = ((x + y).toNat : Int) := (IntKind.wrap_u32' _).trans (w_add x y)
theorem w_and (x y : UInt32) : bits .and .u32 (x.toNat : Int) (y.toNat : Int) = ((x &&& y).toNat : Int) := by
  rw [u32_and_nat _ _ (w_lt x) (w_lt y), UInt32.toNat_and]
theorem w_or (x y : UInt32) : bits .or .u32 (x.toNat : Int) (y.toNat : Int) = ((x ||| y).toNat : Int) := by
  rw [u32_or_nat _ _ (w_lt x) (w_lt y), UInt32.toNat_or]
theorem w_xor (x y : UInt32) : bits .xor .u32 (x.toNat : Int) (y.toNat : Int) = ((x ^^^ y).toNat : Int) := by
  rw [u32_xor_nat _ _ (w_lt x) (w_lt y), UInt32.toNat_xor]
theorem w_not (x : UInt32) : (4294967295 : Int) - (x.toNat : Int) = ((~~~x).toNat : Int) := by
  have := w_lt x
  rw [UInt32.toNat_not, show UInt32.size = 4294967296 from rfl]; omega
theorem w_shr (x : UInt32) (k : Nat) (hk : k < 32) : (x.toNat : Int) / 2 ^ k = ((x >>> UInt32.ofNat k).toNat : Int) := by
  rw [UInt32.toNat_shiftRight, UInt32.toNat_ofNat', Nat.mod_eq_of_lt (show k < 2 ^ 32 by omega), Nat.mod_eq_of_lt hk, Nat.shiftRight_eq_div_pow]
  push_cast; rfl
theorem w_shl (x : UInt32) (k : Nat) (hk : k < 32) : (x.toNat : Int) * 2 ^ k % 4294967296 = ((x <<< UInt32.ofNat k).toNat : Int) := by
  rw [UInt32.toNat_shiftLeft, UInt32.toNat_ofNat', Nat.mod_eq_of_lt (show k < 2 ^ 32 by omega), Nat.mod_eq_of_lt hk, Nat.shiftLeft_eq]
  rw [Int.natCast_emod, Int.natCast_mul, Int.natCast_pow]; rfl

/-- Rotated right. -/
def rr (k : Nat) (x : UInt32) : UInt32 := (x >>> UInt32.ofNat k) ||| (x <<< UInt32.ofNat (32 - k))
def rrs (ks : List Nat) (x : UInt32) : UInt32 := ks.foldl (fun s k => s ^^^ rr k x) 0
def ch (e f g : UInt32) : UInt32 := (e &&& f) ^^^ (~~~e &&& g)
def mj (a b c : UInt32) : UInt32 := (a &&& b) ^^^ (a &&& c) ^^^ (b &&& c)
end Go.Proofs.YtlcegchdkigibaaGreatDoor.LK

namespace Go.Proofs.YtlcegchdkigibaaGreatDoor.LK
set_option linter.unusedVariables false
set_option linter.unusedSimpArgs false
open Go.RowKit

theorem rot_amount (k : Nat) (h1 : 1 ≤ k) (h2 : k ≤ 31) : bits .and .u64 (IntKind.u64.wrap (-(k : Int))) 31 = ((32 - k : Nat) : Int) := by
  have e : IntKind.u64.wrap (-(k : Int)) = ((18446744073709551616 - k : Nat) : Int) := by
    simp [IntKind.wrap, IntKind.bits, IntKind.signed]
    omega
  rw [e]
  refine (u64_and_nat (18446744073709551616 - k) 31 (by omega) (by omega)).trans ?_
  rw [show (31 : Nat) = 2 ^ 5 - 1 from rfl, Nat.and_two_pow_sub_one_eq_mod]
  omega

theorem Rot_any (x : UInt32) (k : Nat) (h1 : 1 ≤ k) (h2 : k ≤ 31) (w : World) :
    Calls Tryz.prog 393 #[c32 x, .int .i64 (-(k : Int))] w fun e w' => e = .returned (c32 (rr k x)) ∧ w = w' := by
  have ha := rot_amount k h1 h2
  have hb : IntKind.u64.wrap (32 - ((32 - k : Nat) : Int)) = (k : Int) := by
    rw [IntWalk.u64_in _ (by omega)]; omega
  have HL := Lib.hid (w_shl x (32 - k) (by omega))
  have HR := Lib.hid (w_shr x k (by omega))
  have HE : Hid (rr k x = (x >>> UInt32.ofNat k) ||| (x <<< UInt32.ofNat (32 - k))) := Lib.hid rfl
  have h3 : (32 - k) ≤ 32 := by omega
  have h4 : k ≤ 32 := by omega
  go_enter Tryz.func393, Tryz.ntmps393
  generalize 32 - k = m at *
  go_wp2_with fail
  go_ret
  exact ⟨by rw [HL.out, HR.out, w_or, UInt32.or_comm, ← HE.out]; rfl, rfl⟩

theorem spot_any (i t : Nat) (hi : i < 8) (ht : t < 64) (w : World) :
    Calls Tryz.prog 356 #[.int .i64 (i : Int), .int .i64 (t : Int)] w fun e w' => e = .returned (.int .i64 (((i + 64 - t) % 8 : Nat) : Int)) ∧ w = w' := by
  go_enter Tryz.func356, Tryz.ntmps356
  go_wp2_with fail
  go_ret
  exact ⟨by rw [show ((i : Int) + 64 - (t : Int)) % 8 = (((i + 64 - t) % 8 : Nat) : Int) by omega]; rfl, rfl⟩

theorem w_not' (x : UInt32) : bits .xor .u32 IntKind.u32.max (x.toNat : Int) = ((~~~x).toNat : Int) := by
  have h := w_xor 4294967295 x
  refine (show bits .xor .u32 IntKind.u32.max (x.toNat : Int) = bits .xor .u32 ((4294967295 : UInt32).toNat : Int) (x.toNat : Int) from rfl).trans (h.trans ?_)
  congr 2
theorem choice_any (e f g : UInt32) (w : World) :
    Calls Tryz.prog 357 #[c32 e, c32 f, c32 g] w fun r w' => r = .returned (c32 (ch e f g)) ∧ w = w' := by
  have hsg : IntKind.u32.signed = false := rfl
  go_enter Tryz.func357, Tryz.ntmps357
  go_wp2_with fail
  go_ret
  exact ⟨by rw [w_not', w_and, w_and, w_xor]; rfl, rfl⟩

theorem majority_any (e f g : UInt32) (w : World) :
    Calls Tryz.prog 358 #[c32 e, c32 f, c32 g] w fun r w' => r = .returned (c32 (mj e f g)) ∧ w = w' := by
  go_enter Tryz.func358, Tryz.ntmps358
  go_wp2_with fail
  go_ret
  exact ⟨by rw [w_and, w_and, w_and, w_xor, w_xor]; rfl, rfl⟩

def ints (ks : List Nat) : List Int := ks.map fun (k : Nat) => (k : Int)
/-- The sum of the first j rotations. -/
def rrk (ks : List Nat) (x : UInt32) (j : Nat) : UInt32 := rrs (ks.take j) x
theorem rrk_step (ks : List Nat) (x : UInt32) (j : Nat) (h : j < ks.length) : rrk ks x (j + 1) = rrk ks x j ^^^ rr (ks.getD j 0) x := by
  unfold rrk rrs
  rw [List.take_succ_eq_append_getElem h, List.foldl_append]
  simp [h]
theorem rotated_any (x : UInt32) (A : Option Addr) (n c : Nat) (ks : List Nat) (w : World) (h : RI .i64 w A n c (ints ks)) (hk : ∀ j, j < n → 1 ≤ ks.getD j 0 ∧ ks.getD j 0 ≤ 31) :
    Calls Tryz.prog 355 #[c32 x, .slice A n c] w fun r w' => r = .returned (c32 (rrs ks x)) ∧ w = w' := by
  have hl := h.len
  rw [ints, List.length_map] at hl
  have HK := Lib.hid hk
  have HL := Lib.hid hl
  have hn := h.max
  have hn' := h.cap
  clear hk hl
  go_enter Tryz.func355, Tryz.ntmps355
  go_wp2_with fail
  go_loop [5, 10] (fun s i => ∃ j : Nat, j ≤ n ∧ i = .int .i64 j ∧ s = c32 (rrk ks x j)) (fun _ i => n - (intOf i).toNat)
  case atStart => exact ⟨0, Nat.zero_le _, rfl, rfl⟩
  case round =>
    obtain ⟨j, hj, rfl, rfl⟩ := hrel
    by_cases hlt : j < n
    · obtain ⟨b, o, rfl, hc⟩ := h.at_ hlt
      have hkj := HK.out j hlt
      have HS := Lib.hid (rrk_step ks x j (by rw [HL.out]; exact hlt))
      have hg : (ints ks).getD j 0 = ((ks.getD j 0 : Nat) : Int) := by
        have := HL.out
        simp [ints, List.getD_eq_getElem?_getD, hlt, this]
      rw [hg] at hc
      clear h hg
      generalize ks.getD j 0 = k at *
      generalize rrk ks x j = s at *
      go_wp2_with (go_at_call 393; refine (Rot_any x k hkj.1 hkj.2 _).mono ?_; rintro e w' ⟨rfl, rfl⟩)
      rw [w_xor, ← HS.out]
      go_round
      case rel => exact ⟨j + 1, by omega, by go_num, rfl⟩
      case measure => simp [intOf]; omega
    · obtain rfl : j = n := by omega
      have HA : Hid (rrk ks x j = rrs ks x) := Lib.hid (by unfold rrk; rw [List.take_of_length_le (by rw [HL.out]; exact Nat.le_refl _)])
      go_wp2
      go_ret
      exact ⟨by rw [HA.out]; rfl, rfl⟩
end Go.Proofs.YtlcegchdkigibaaGreatDoor.LK

namespace Go.Proofs.YtlcegchdkigibaaGreatDoor.LK
set_option linter.unusedVariables false
set_option linter.unusedSimpArgs false
open Go.RowKit

/-- Block b holds the words f 0 .. f (n - 1) and may be written. -/
def Arr (w : World) (b n : Nat) (f : Nat → UInt32) : Prop := ∀ j, j < n → w.cell? ⟨b, j, none⟩ = some (c32 (f j)) ∧ w.frozen? ⟨b, j, none⟩ = false
/-- f, but x at k. -/
def put (f : Nat → UInt32) (k : Nat) (x : UInt32) : Nat → UInt32 := fun j => if j = k then x else f j
theorem put_same (f : Nat → UInt32) (k : Nat) (x : UInt32) : put f k x k = x := by simp [put]
theorem put_other (f : Nat → UInt32) (k j : Nat) (x : UInt32) (h : j ≠ k) : put f k x j = f j := by simp [put, h]

section
variable {w w' : World} {b n : Nat} {f : Nat → UInt32}
theorem Arr.lt (h : Arr w b n f) (hn : 0 < n) : b < w.heap.size := World.block_lt_of_cell? w _ (h 0 hn).1
theorem Arr.far {row : Option Nat} (h : Arr w b n f) (hg : w.grownBy w' row) (hne : some b ≠ row) : Arr w' b n f := fun j hj =>
  ⟨(hg.cell_far _ (h.lt (by omega)) hne).trans (h j hj).1, (hg.frozen_far _ (h.lt (by omega)) hne).trans (h j hj).2⟩
theorem Arr.below (h : Arr w b n f) (hb : Below w.heap.size w w') : Arr w' b n f := fun j hj =>
  ⟨(hb.cell (h.lt (by omega))).trans (h j hj).1, (hb.frozen (h.lt (by omega))).trans (h j hj).2⟩
theorem Arr.alloc (h : Arr w b n f) (o : Obj) : Arr (w.alloc o) b n f := h.below ((Below.refl _ _).alloc (Nat.le_refl _) o)
theorem Arr.drew (h : Arr w b n f) : Arr w.drew b n f := h
theorem Arr.drewN (h : Arr w b n f) (k : Nat) : Arr (w.drewN k) b n f := h
theorem Arr.set (h : Arr w b n f) (k : Nat) (x : UInt32) : Arr (w.setCell ⟨b, k, none⟩ (c32 x)) b n (put f k x) := fun j hj => by
  refine ⟨?_, by rw [World.frozen?_setCell]; exact (h j hj).2⟩
  by_cases e : j = k
  · subst e
    rw [put_same]
    exact World.cell?_setCell_same w _ _ (h j hj).1
  · rw [put_other _ _ _ _ e, World.cell?_setCell_other w _ _ _ (by intro h; injection h with _ h; exact e h.symm)]
    exact (h j hj).1
theorem Arr.congr (h : Arr w b n f) {g : Nat → UInt32} (e : ∀ j, j < n → f j = g j) : Arr w b n g := fun j hj => by rw [← e j hj]; exact h j hj

/-- The cells of an array. -/
def cells (n : Nat) (f : Nat → UInt32) : List Value := (List.range n).map fun j => c32 (f j)
theorem cells_length (n : Nat) (f : Nat → UInt32) : (cells n f).length = n := by simp [cells]
theorem cells_at (n : Nat) (f : Nat → UInt32) (j : Nat) (h : j < n) : (cells n f)[j]? = some (c32 (f j)) := by simp [cells, h]
theorem cells_one (n : Nat) (f : Nat → UInt32) : ∀ u ∈ cells n f, u.oneCell' = true := by
  intro u hu
  obtain ⟨x, _, rfl⟩ := List.mem_map.1 hu
  rfl
theorem Arr.range (h : Arr w b n f) : w.rangeAt b 0 (cells n f) := fun j v hv => by
  have hj : j < n := by have := (List.getElem?_eq_some_iff.1 hv).1; rwa [cells_length] at this
  rw [cells_at n f j hj] at hv
  rw [← hv, Nat.zero_add]
  exact (h j hj).1
theorem Arr.there (h : Arr w b n f) : w.there b 0 n := fun j hj => by
  rw [Nat.zero_add, (h j hj).1]
  exact ⟨rfl, (h j hj).2⟩
/-- A new block of words. -/
theorem Arr.new (w : World) (cs : List Value) (t : TypeId) (n : Nat) (f : Nat → UInt32) (h : ∀ j, j < n → cs[j]? = some (c32 (f j))) : Arr (w.alloc (.cells cs.toArray t)) w.heap.size n f := fun j hj => by
  refine ⟨?_, World.frozen?_alloc_at _ t _ j rfl⟩
  rw [cell_of_row _ w.heap.size j _ t (0, 0) (heap_alloc_new w _), List.getElem?_toArray]
  exact h j hj
end

/-- A new block of zeros. -/
theorem Arr.zero (w : World) (n : Nat) (t : TypeId) : Arr (w.alloc (.cells (List.replicate n (Value.int .u32 0)).toArray t)) w.heap.size n (fun _ => 0) :=
  Arr.new w _ t n _ fun j hj => by simp [hj]
theorem below_setCells {B : Nat} {a : World} (b : Nat) (hb : B ≤ b) : ∀ (vs : List Value) (o : Nat) (w : World), Below B a w → Below B a (w.setCells b o vs)
  | [], _, _, h => h
  | v :: r, o, w, h => below_setCells b hb r (o + 1) _ (h.setCell (p := ⟨b, o, none⟩) hb v)
/-- An array that a call answers out of its own block. -/
theorem results_cell_mid {P : Program} {fn : Func} {p : Tmp} {ty : TypeId} (h : fn.results = #[.cell p ty]) (tmps : Array Value) (w : World) (g : Nat) (cs : List Value) (d : TypeDesc)
    (hp : tmps.getD p undef = .pointer (some ⟨g, 0, none⟩)) (hc : w.rangeAt g 0 cs) (hu : P.underlying ty = some d) (hd : d.isRow = true) (hi : (P.info? ty).map (·.size) = some cs.length) :
    (results fn tmps).run P w = .ok (.agg cs.toArray) w := by
  have hp' : tmps[p]?.getD undef = .pointer (some ⟨g, 0, none⟩) := by simpa using hp
  simp [results, h, hp', asAddr, run_loadVar_mid w g 0 ty cs d hc hu hd hi]
theorem g_refl (w : World) (row : Option Nat) : w.grownBy w row := ⟨rfl, rfl, rfl, Nat.le_refl _, fun _ _ _ => rfl⟩
theorem g_drew (w : World) (row : Option Nat) : w.grownBy w.drew row := ⟨rfl, rfl, rfl, Nat.le_refl _, fun _ _ _ => rfl⟩
theorem g_drewN (w : World) (n : Nat) (row : Option Nat) : w.grownBy (w.drewN n) row := ⟨rfl, rfl, rfl, Nat.le_refl _, fun _ _ _ => rfl⟩
theorem g_alloc (w : World) (o : Obj) (row : Option Nat) : w.grownBy (w.alloc o) row := ⟨rfl, rfl, rfl, by simp, fun k hk _ => Below.heap_alloc _ _ _ hk⟩
theorem g_set (w : World) (b k : Nat) (v : Value) : w.grownBy (w.setCell ⟨b, k, none⟩ v) (some b) := ⟨rfl, rfl, rfl, by simp [World.setCell], fun i _ hi => Below.heap_setCell _ _ _ _ (fun e => hi (by rw [e]))⟩
theorem g_setCells (b : Nat) : ∀ (vs : List Value) (o : Nat) (w : World), w.grownBy (w.setCells b o vs) (some b)
  | [], _, w => g_refl w _
  | v :: r, o, w => (g_set w b o v).trans (g_setCells b r (o + 1) _)
/-- A block that was there, written whole. -/
theorem Arr.whole {w : World} {b n : Nat} {g : Nat → UInt32} (h : Arr w b n g) (f : Nat → UInt32) : Arr (w.setCells b 0 (cells n f)) b n f := fun j hj => by
  have h1 := World.rangeAt_setCells_same w b 0 (cells n f) (by rw [cells_length]; exact h.there) j _ (cells_at n f j hj)
  rw [Nat.zero_add] at h1
  exact ⟨h1, by rw [World.frozen?_setCells]; exact (h j hj).2⟩
theorem cells_get (n : Nat) (f : Nat → UInt32) (j : Nat) (h : j < n) : (cells n f).toArray[j]? = some (c32 (f j)) := by simp [cells, h]
/-- The first k of S's words, f's added. -/
def ad (S f : Nat → UInt32) (k : Nat) : Nat → UInt32 := fun i => if i < k then S i + f i else S i
theorem ad_zero (S f : Nat → UInt32) : ad S f 0 = S := by funext i; simp [ad]
theorem ad_step (S f : Nat → UInt32) (k : Nat) : put (ad S f k) k (S k + f k) = ad S f (k + 1) := by
  funext i
  unfold put ad
  by_cases h : i = k
  · subst h; simp
  · by_cases h2 : i < k
    · simp [h, h2, Nat.lt_succ_of_lt h2]
    · simp [h, h2, show ¬ i < k + 1 by omega]
theorem g_below {w w' : World} (h : Below w.heap.size w w') (row : Option Nat) : w.grownBy w' row := ⟨h.os, h.tape, h.output, h.size, fun k hk _ => h.block k hk⟩
theorem below_g {B : Nat} {a w w' : World} {b : Nat} (h : Below B a w) (hg : w.grownBy w' (some b)) (hB : B ≤ w.heap.size) (hb : B ≤ b) : Below B a w' := h.grown hg hB fun k hk => by injection hk with hk; omega

/-- Where name i stands in round t. -/
def at8 (i t : Nat) : Nat := (i + 64 - t) % 8
theorem at8_lt (i t : Nat) : at8 i t < 8 := Nat.mod_lt _ (by omega)
/-- The words behind round t. -/
def rsum (f : Nat → UInt32) (t : Nat) (n : UInt32) : UInt32 := n + (f (at8 7 t) + rrs [6, 11, 25] (f (at8 4 t)) + ch (f (at8 4 t)) (f (at8 5 t)) (f (at8 6 t)))
def rnd (f : Nat → UInt32) (t : Nat) (n : UInt32) : Nat → UInt32 :=
  put (put f (at8 3 t) (f (at8 3 t) + rsum f t n)) (at8 7 t) (rsum f t n + rrs [2, 13, 22] (f (at8 0 t)) + mj (f (at8 0 t)) (f (at8 1 t)) (f (at8 2 t)))


end Go.Proofs.YtlcegchdkigibaaGreatDoor.LK

namespace Go.Proofs.YtlcegchdkigibaaGreatDoor.LK
set_option linter.unusedVariables false
set_option linter.unusedSimpArgs false
open Go.RowKit

theorem spot_at (i t : Nat) (hi : i < 8) (ht : t < 64) (w : World) :
    Calls Tryz.prog 356 #[.int .i64 (i : Int), .int .i64 (t : Int)] w fun e w' => e = .returned (.int .i64 (at8 i t : Int)) ∧ w' = w :=
  (spot_any i t hi ht w).mono fun _ _ ⟨h, e⟩ => ⟨h, e.symm⟩

set_option maxRecDepth 8000 in
set_option maxHeartbeats 1600000 in
theorem round_any (b t : Nat) (n : UInt32) (f : Nat → UInt32) (w : World) (h : Arr w b 8 f) (ht : t < 64) :
    Calls Tryz.prog 297 #[.pointer (some ⟨b, 0, none⟩), .int .i64 (t : Int), c32 n] w fun e w' => e = .returned (.tuple #[]) ∧ Arr w' b 8 (rnd f t n) ∧ w.grownBy w' (some b) := by
  have C0 : Hid (∀ w, Calls Tryz.prog 356 #[.int .i64 0, .int .i64 (t : Int)] w fun e w' => e = .returned (.int .i64 (at8 0 t : Int)) ∧ w' = w) := Lib.hid (spot_at 0 t (by omega) ht)
  have C1 : Hid (∀ w, Calls Tryz.prog 356 #[.int .i64 1, .int .i64 (t : Int)] w fun e w' => e = .returned (.int .i64 (at8 1 t : Int)) ∧ w' = w) := Lib.hid (spot_at 1 t (by omega) ht)
  have C2 : Hid (∀ w, Calls Tryz.prog 356 #[.int .i64 2, .int .i64 (t : Int)] w fun e w' => e = .returned (.int .i64 (at8 2 t : Int)) ∧ w' = w) := Lib.hid (spot_at 2 t (by omega) ht)
  have C3 : Hid (∀ w, Calls Tryz.prog 356 #[.int .i64 3, .int .i64 (t : Int)] w fun e w' => e = .returned (.int .i64 (at8 3 t : Int)) ∧ w' = w) := Lib.hid (spot_at 3 t (by omega) ht)
  have C4 : Hid (∀ w, Calls Tryz.prog 356 #[.int .i64 4, .int .i64 (t : Int)] w fun e w' => e = .returned (.int .i64 (at8 4 t : Int)) ∧ w' = w) := Lib.hid (spot_at 4 t (by omega) ht)
  have C5 : Hid (∀ w, Calls Tryz.prog 356 #[.int .i64 5, .int .i64 (t : Int)] w fun e w' => e = .returned (.int .i64 (at8 5 t : Int)) ∧ w' = w) := Lib.hid (spot_at 5 t (by omega) ht)
  have C6 : Hid (∀ w, Calls Tryz.prog 356 #[.int .i64 6, .int .i64 (t : Int)] w fun e w' => e = .returned (.int .i64 (at8 6 t : Int)) ∧ w' = w) := Lib.hid (spot_at 6 t (by omega) ht)
  have C7 : Hid (∀ w, Calls Tryz.prog 356 #[.int .i64 7, .int .i64 (t : Int)] w fun e w' => e = .returned (.int .i64 (at8 7 t : Int)) ∧ w' = w) := Lib.hid (spot_at 7 t (by omega) ht)
  have HR : Hid (rnd f t n = put (put f (at8 3 t) (f (at8 3 t) + (n + (f (at8 7 t) + rrs [6, 11, 25] (f (at8 4 t)) + ch (f (at8 4 t)) (f (at8 5 t)) (f (at8 6 t)))))) (at8 7 t) (n + (f (at8 7 t) + rrs [6, 11, 25] (f (at8 4 t)) + ch (f (at8 4 t)) (f (at8 5 t)) (f (at8 6 t))) + rrs [2, 13, 22] (f (at8 0 t)) + mj (f (at8 0 t)) (f (at8 1 t)) (f (at8 2 t)))) := Lib.hid rfl
  have h37 : Hid (at8 3 t ≠ at8 7 t) := Lib.hid (by unfold at8; omega)
  have h0 := at8_lt 0 t
  have h1 := at8_lt 1 t
  have h2 := at8_lt 2 t
  have h3 := at8_lt 3 t
  have h4 := at8_lt 4 t
  have h5 := at8_lt 5 t
  have h6 := at8_lt 6 t
  have h7 := at8_lt 7 t
  generalize at8 0 t = s0 at *
  generalize at8 1 t = s1 at *
  generalize at8 2 t = s2 at *
  generalize at8 3 t = s3 at *
  generalize at8 4 t = s4 at *
  generalize at8 5 t = s5 at *
  generalize at8 6 t = s6 at *
  generalize at8 7 t = s7 at *
  have i0 : (s0 : Int) < 8 := by omega
  have i1 : (s1 : Int) < 8 := by omega
  have i2 : (s2 : Int) < 8 := by omega
  have i4 : (s4 : Int) < 8 := by omega
  have i5 : (s5 : Int) < 8 := by omega
  have i6 : (s6 : Int) < 8 := by omega
  have k0 := (h s0 h0).1
  have k1 := (h s1 h1).1
  have k2 := (h s2 h2).1
  have k4 := (h s4 h4).1
  have k5 := (h s5 h5).1
  have k6 := (h s6 h6).1
  go_enter Tryz.func297, Tryz.ntmps297
  go_wp2_with fail
  go_quiet (first | (go_at_call_of 356 (Value.int IntKind.i64 0); exact Calls.quiet_of_same (C0.out _)) | (go_at_call_of 356 (Value.int IntKind.i64 1); exact Calls.quiet_of_same (C1.out _)) | (go_at_call_of 356 (Value.int IntKind.i64 2); exact Calls.quiet_of_same (C2.out _)))
  have hA := h.drewN nq
  have gA := g_drewN w nq (some b)
  have ka := (hA s4 h4).1
  have kb := (hA s5 h5).1
  have kc := (hA s6 h6).1
  clear k0 k1 k2 k4 k5 k6 h
  generalize w.drewN nq = w1 at *
  go_wp2_with fail
  go_quiet (first | (go_at_call_of 356 (Value.int IntKind.i64 4); exact Calls.quiet_of_same (C4.out _)) | (go_at_call_of 356 (Value.int IntKind.i64 5); exact Calls.quiet_of_same (C5.out _)) | (go_at_call_of 356 (Value.int IntKind.i64 6); exact Calls.quiet_of_same (C6.out _)))
  have hB := hA.drewN nq
  have gB := gA.trans (g_drewN w1 nq (some b))
  have kd := (hB s7 h7).1
  clear ka kb kc hA gA
  generalize w1.drewN nq = w2 at *
  generalize e0 : f s0 = v0
  generalize e1 : f s1 = v1
  generalize e2 : f s2 = v2
  generalize e4 : f s4 = v4
  generalize e5 : f s5 = v5
  generalize e6 : f s6 = v6
  generalize e7 : f s7 = v7 at kd
  have E0 := Lib.hid e0
  have E1 := Lib.hid e1
  have E2 := Lib.hid e2
  have E4 := Lib.hid e4
  have E5 := Lib.hid e5
  have E6 := Lib.hid e6
  have E7 := Lib.hid e7
  clear e0 e1 e2 e4 e5 e6 e7 i0 i1 i2 i4 i5 i6
  have i7 : (s7 : Int) < 8 := by omega
  go_wp2_with fail
  go_cut [2] (fun x wx => x = c32 (n + (v7 + rrs [6, 11, 25] v4 + ch v4 v5 v6)) ∧ Arr wx b 8 f ∧ w.grownBy wx (some b))
  case first =>
    go_region_held3 (fun w' => w'.cell? ⟨b, s7, none⟩ = some (c32 v7)) (first | go_keep)
      (first
        | (go_at_call 356; refine (C7.out _).mono ?_; rintro e w' ⟨rfl, rfl⟩)
        | (go_at_call 357; refine (choice_any v4 v5 v6 _).mono ?_; rintro e w' ⟨rfl, rfl⟩)
        | (go_at_call 355; refine (rotated_any v4 (some ⟨w2.heap.size, 0, none⟩) 3 3 [6, 11, 25] (w2.alloc (.cells #[.int .i64 6, .int .i64 11, .int .i64 25] 3)).drew (RI.lit .i64 w2 (ints [6, 11, 25]) 3 (by decide)) (by decide)).mono ?_; rintro e w' ⟨rfl, rfl⟩))
    all_goals
      rw [w_addw, w_addw, w_addw]
      go_wp2_with fail
      go_meet
      exact ⟨rfl, (hB.alloc _).drew, (gB.trans (g_alloc _ _ _)).trans (g_drew _ _)⟩
  case rest =>
    obtain ⟨rfl, hC, gC⟩ := hcut
    obtain ⟨ke, kf⟩ := hC s3 h3
    have i3 : (s3 : Int) < 8 := by omega
    generalize e3 : f s3 = v3 at ke
    have E3 := Lib.hid e3
    clear e3 kd hB gB i7
    generalize em : n + (v7 + rrs [6, 11, 25] v4 + ch v4 v5 v6) = m at *
    have EM := Lib.hid em
    clear em
    go_wp2_with fail
    go_region_with (first | (go_at_call 356; refine (C3.out _).mono ?_; rintro e w' ⟨rfl, rfl⟩))
    rw [w_addw]
    have hD := (hC.set s3 (v3 + m)).drew
    have gD := (gC.trans (g_set _ b s3 (c32 (v3 + m)))).trans (g_drew _ _)
    clear ke kf hC gC i3
    have HR2 : Hid (put (put f s3 (v3 + m)) s7 (m + rrs [2, 13, 22] v0 + mj v0 v1 v2) = rnd f t n) := Lib.hid (by
      rw [HR.out, E0.out, E1.out, E2.out, E3.out, E4.out, E5.out, E6.out, E7.out, EM.out])
    clear HR E0 E1 E2 E3 E4 E5 E6 E7 EM C0 C1 C2 C3 C4 C5 C6 h37
    generalize (wc.setCell ⟨b, s3, none⟩ (c32 (v3 + m))).drew = w4 at *
    obtain ⟨ke, kf⟩ := hD s7 h7
    have hlt := hD.lt (by omega)
    have hca : ∀ o, (w4.alloc o).cell? ⟨b, s7, none⟩ = some (c32 (put f s3 (v3 + m) s7)) := fun o => ((hD.alloc o) s7 h7).1
    have hfa : ∀ o, (w4.alloc o).frozen? ⟨b, s7, none⟩ = false := fun o => ((hD.alloc o) s7 h7).2
    have i7 : (s7 : Int) < 8 := by omega
    have hE := ((hD.set s7 (m + rrs [2, 13, 22] v0 + mj v0 v1 v2)).alloc (.cells #[.int .i64 2, .int .i64 13, .int .i64 22] 3)).drew
    have gE := ((gD.trans (g_set _ b s7 (c32 (m + rrs [2, 13, 22] v0 + mj v0 v1 v2)))).trans (g_alloc _ (.cells #[.int .i64 2, .int .i64 13, .int .i64 22] 3) _)).trans (g_drew _ _)
    rw [HR2.out] at hE
    go_wp2_with fail
    go_region_with (first
        | (go_at_call 356; refine (C7.out _).mono ?_; rintro e w' ⟨rfl, rfl⟩)
        | (go_at_call 358; refine (majority_any v0 v1 v2 _).mono ?_; rintro e w' ⟨rfl, rfl⟩)
        | (go_at_call 355; refine (rotated_any v0 (some ⟨w4.heap.size, 0, none⟩) 3 3 [2, 13, 22] (w4.alloc (.cells #[.int .i64 2, .int .i64 13, .int .i64 22] 3)).drew (RI.lit .i64 w4 (ints [2, 13, 22]) 3 (by decide)) (by decide)).mono ?_; rintro e w' ⟨rfl, rfl⟩))
    all_goals
      rw [w_addw, w_addw]
      go_wp2_with fail
      go_end0
      exact ⟨rfl, hE, gE⟩
end Go.Proofs.YtlcegchdkigibaaGreatDoor.LK

namespace Go.Proofs.YtlcegchdkigibaaGreatDoor.LK
set_option linter.unusedVariables false
set_option linter.unusedSimpArgs false

/-- FIPS 180-4's constants. -/
def kk : List UInt32 := [1116352408, 1899447441, 3049323471, 3921009573, 961987163, 1508970993, 2453635748, 2870763221, 3624381080, 310598401, 607225278, 1426881987, 1925078388, 2162078206, 2614888103, 3248222580, 3835390401, 4022224774, 264347078, 604807628, 770255983, 1249150122, 1555081692, 1996064986, 2554220882, 2821834349, 2952996808, 3210313671, 3336571891, 3584528711, 113926993, 338241895, 666307205, 773529912, 1294757372, 1396182291, 1695183700, 1986661051, 2177026350, 2456956037, 2730485921, 2820302411, 3259730800, 3345764771, 3516065817, 3600352804, 4094571909, 275423344, 430227734, 506948616, 659060556, 883997877, 958139571, 1322822218, 1537002063, 1747873779, 1955562222, 2024104815, 2227730452, 2361852424, 2428436474, 2756734187, 3204031479, 3329325298]
def kn (t : Nat) : UInt32 := kk.getD t 0
def hh : List UInt32 := [1779033703, 3144134277, 1013904242, 2773480762, 1359893119, 2600822924, 528734635, 1541459225]

/-- A byte as a word; word j of a block. -/
def by4 (x : UInt8) : UInt32 := UInt32.ofNat x.toNat
def be4 (l : List UInt8) (j : Nat) : UInt32 := by4 (l.getD (4 * j) 0) <<< 24 ||| by4 (l.getD (4 * j + 1) 0) <<< 16 ||| by4 (l.getD (4 * j + 2) 0) <<< 8 ||| by4 (l.getD (4 * j + 3) 0)
def sg0 (x : UInt32) : UInt32 := rr 7 x ^^^ rr 18 x ^^^ x >>> 3
def sg1 (x : UInt32) : UInt32 := rr 17 x ^^^ rr 19 x ^^^ x >>> 10
/-- The words of a block, as they are told. -/
def wnext (l : List UInt8) (w : List UInt32) (t : Nat) : UInt32 := if t < 16 then be4 l t else sg1 (w.getD (t - 2) 0) + w.getD (t - 7) 0 + sg0 (w.getD (t - 15) 0) + w.getD (t - 16) 0
def wl (l : List UInt8) (n : Nat) : List UInt32 := Nat.rec [] (fun t w => w ++ [wnext l w t]) n
theorem wl_step (l : List UInt8) (n : Nat) : wl l (n + 1) = wl l n ++ [wnext l (wl l n) n] := rfl
theorem wl_length (l : List UInt8) (n : Nat) : (wl l n).length = n := by
  induction n with
  | zero => rfl
  | succ n ih => rw [wl_step, List.length_append, ih]; rfl
theorem getD_snoc {α : Type} (l : List α) (x d : α) (j n : Nat) (h : l.length = n) : (l ++ [x]).getD j d = if j < n then l.getD j d else if j = n then x else d := by
  subst h
  simp only [List.getD_eq_getElem?_getD]
  by_cases h1 : j < l.length
  · rw [if_pos h1, List.getElem?_append_left h1]
  · rw [if_neg h1, List.getElem?_append_right (by omega)]
    by_cases h2 : j = l.length
    · subst h2; simp
    · rw [if_neg h2, List.getElem?_eq_none (by simp; omega)]; rfl

/-- .. in place: the bytes first, one by one; then word by word. -/
def bw (l : List UInt8) : Nat → (Nat → UInt32)
  | 0 => fun _ => 0
  | i + 1 => put (bw l i) (i / 4) (bw l i (i / 4) <<< 8 ||| by4 (l.getD i 0))
def xw (l : List UInt8) : Nat → (Nat → UInt32)
  | 0 => bw l 64
  | k + 1 => put (xw l k) (k + 16) ((rrs [17, 19] (xw l k (k + 14)) ^^^ xw l k (k + 14) >>> 10) + xw l k (k + 9) + (rrs [7, 18] (xw l k (k + 1)) ^^^ xw l k (k + 1) >>> 3) + xw l k k)

theorem bw_zero (l : List UInt8) (j i : Nat) (h : i ≤ 4 * j) : bw l i j = 0 := by
  induction i with
  | zero => rfl
  | succ i ih => rw [bw, put_other _ _ _ _ (by omega)]; exact ih (by omega)
theorem bw_hit (l : List UInt8) (j i : Nat) (h : i / 4 = j) : bw l (i + 1) j = bw l i j <<< 8 ||| by4 (l.getD i 0) := by
  rw [bw, h, put_same]
theorem shl_or (a b : UInt32) : (a ||| b) <<< 8 = a <<< 8 ||| b <<< 8 := by
  apply UInt32.toBitVec_inj.1
  simp [UInt32.toBitVec_shiftLeft, UInt32.toBitVec_or, BitVec.shiftLeft_or_distrib]
theorem shl_88 (a : UInt32) : a <<< 8 <<< 8 = a <<< 16 := by
  apply UInt32.toBitVec_inj.1
  simp [UInt32.toBitVec_shiftLeft, ← BitVec.shiftLeft_add]
theorem shl_168 (a : UInt32) : a <<< 8 <<< 16 = a <<< 24 := by
  apply UInt32.toBitVec_inj.1
  simp [UInt32.toBitVec_shiftLeft, ← BitVec.shiftLeft_add]
theorem bw_four (l : List UInt8) (j k : Nat) : bw l (4 * j + 4 + k) j = be4 l j := by
  induction k with
  | zero =>
    rw [Nat.add_zero, bw_hit l j (4 * j + 3) (by omega), bw_hit l j (4 * j + 2) (by omega), bw_hit l j (4 * j + 1) (by omega), bw_hit l j (4 * j) (by omega), bw_zero l j (4 * j) (Nat.le_refl _)]
    unfold be4
    rw [show (0 : UInt32) <<< 8 = 0 from rfl, UInt32.zero_or, shl_or, shl_or, shl_or, shl_88, shl_88, shl_168]
  | succ k ih => rw [← Nat.add_assoc, bw, put_other _ _ _ _ (by omega)]; exact ih
theorem sg_near (x : UInt32) : rrs [17, 19] x ^^^ x >>> 10 = sg1 x := by simp [rrs, sg1]
theorem sg_far (x : UInt32) : rrs [7, 18] x ^^^ x >>> 3 = sg0 x := by simp [rrs, sg0]
theorem wl_low (l : List UInt8) (n : Nat) (hn : n ≤ 16) (j : Nat) (hj : j < n) : (wl l n).getD j 0 = be4 l j := by
  induction n with
  | zero => omega
  | succ n ih =>
    rw [wl_step, getD_snoc _ _ _ _ n (wl_length l n)]
    by_cases h : j < n
    · rw [if_pos h]; exact ih (by omega) h
    · obtain rfl : j = n := by omega
      rw [if_neg h, if_pos rfl, wnext, if_pos (by omega)]
theorem xw_wl (l : List UInt8) (k : Nat) (hk : k ≤ 48) (j : Nat) (hj : j < 16 + k) : xw l k j = (wl l (16 + k)).getD j 0 := by
  induction k generalizing j with
  | zero =>
    rw [Nat.add_zero, wl_low l 16 (Nat.le_refl _) j hj]
    have := bw_four l j (60 - 4 * j)
    rw [show 4 * j + 4 + (60 - 4 * j) = 64 by omega] at this
    exact this
  | succ k ih =>
    rw [← Nat.add_assoc, wl_step, getD_snoc _ _ _ _ (16 + k) (wl_length l _), xw]
    by_cases h : j < 16 + k
    · rw [if_pos h, put_other _ _ _ _ (by omega)]; exact ih (by omega) j h
    · obtain rfl : j = 16 + k := by omega
      rw [if_neg h, if_pos rfl, show 16 + k = k + 16 from Nat.add_comm _ _, put_same, sg_near, sg_far, wnext, if_neg (by omega)]
      rw [ih (by omega) (k + 14) (by omega), ih (by omega) (k + 9) (by omega), ih (by omega) (k + 1) (by omega), ih (by omega) k (by omega)]
      rw [show k + 16 - 2 = k + 14 by omega, show k + 16 - 7 = k + 9 by omega, show k + 16 - 15 = k + 1 by omega, show k + 16 - 16 = k by omega, show 16 + k = k + 16 from Nat.add_comm _ _]
/-- The words of a block. -/
def ww (l : List UInt8) (t : Nat) : UInt32 := (wl l 64).getD t 0
theorem xw_all (l : List UInt8) (j : Nat) (hj : j < 64) : xw l 48 j = ww l j := xw_wl l 48 (Nat.le_refl _) j hj
theorem wl_keep (l : List UInt8) (n m j : Nat) (hj : j < n) : (wl l (n + m)).getD j 0 = (wl l n).getD j 0 := by
  induction m with
  | zero => rfl
  | succ m ih => rw [← Nat.add_assoc, wl_step, getD_snoc _ _ _ _ (n + m) (wl_length l _), if_pos (by omega), ih]

/-- A round, as lists. -/
def S0 (x : UInt32) : UInt32 := rr 2 x ^^^ rr 13 x ^^^ rr 22 x
def S1 (x : UInt32) : UInt32 := rr 6 x ^^^ rr 11 x ^^^ rr 25 x
def rstep (v : List UInt32) (k x : UInt32) : List UInt32 :=
  let t1 := v.getD 7 0 + S1 (v.getD 4 0) + ch (v.getD 4 0) (v.getD 5 0) (v.getD 6 0) + k + x
  let t2 := S0 (v.getD 0 0) + mj (v.getD 0 0) (v.getD 1 0) (v.getD 2 0)
  [t1 + t2, v.getD 0 0, v.getD 1 0, v.getD 2 0, v.getD 3 0 + t1, v.getD 4 0, v.getD 5 0, v.getD 6 0]
def rl (l : List UInt8) (h : List UInt32) (n : Nat) : List UInt32 := Nat.rec h (fun t v => rstep v (kn t) ((wl l 64).getD t 0)) n
theorem rl_step (l : List UInt8) (h : List UInt32) (n : Nat) : rl l h (n + 1) = rstep (rl l h n) (kn n) (ww l n) := rfl
/-- A block's share. -/
def comp (h : List UInt32) (l : List UInt8) : List UInt32 := (List.range 8).map fun i => h.getD i 0 + (rl l h 64).getD i 0

/-- The rounds in place. -/
def st (l : List UInt8) (v : Nat → UInt32) : Nat → (Nat → UInt32)
  | 0 => v
  | t + 1 => rnd (st l v t) t (ww l t + kn t)
theorem rrs_S0 (x : UInt32) : rrs [2, 13, 22] x = S0 x := by simp [rrs, S0]
theorem rrs_S1 (x : UInt32) : rrs [6, 11, 25] x = S1 x := by simp [rrs, S1]
theorem rnd_at (f : Nat → UInt32) (t : Nat) (n : UInt32) (ht : t < 64) :
    rnd f t n (at8 0 (t + 1)) = rsum f t n + S0 (f (at8 0 t)) + mj (f (at8 0 t)) (f (at8 1 t)) (f (at8 2 t)) ∧ rnd f t n (at8 4 (t + 1)) = f (at8 3 t) + rsum f t n ∧
    ∀ i, i ≠ 0 → i ≠ 4 → i < 8 → rnd f t n (at8 i (t + 1)) = f (at8 (i - 1) t) := by
  have e0 : at8 0 (t + 1) = at8 7 t := by unfold at8; omega
  have e4 : at8 4 (t + 1) = at8 3 t := by unfold at8; omega
  have h37 : at8 3 t ≠ at8 7 t := by unfold at8; omega
  unfold rnd
  refine ⟨by rw [e0, put_same, rrs_S0], by rw [e4, put_other _ _ _ _ h37, put_same], fun i h0 h4 h8 => ?_⟩
  have e : at8 i (t + 1) = at8 (i - 1) t := by unfold at8; omega
  rw [e, put_other _ _ _ _ (by unfold at8; omega), put_other _ _ _ _ (by unfold at8; omega)]
theorem sum5 (a b c d e : UInt32) : (e + d) + (a + b + c) = a + b + c + d + e := by ac_rfl
theorem st_rl (l : List UInt8) (v : Nat → UInt32) (h : List UInt32) (hv : ∀ i, i < 8 → h.getD i 0 = v i) (t : Nat) (ht : t ≤ 64) (i : Nat) (hi : i < 8) : (rl l h t).getD i 0 = st l v t (at8 i t) := by
  induction t generalizing i with
  | zero =>
    have e : at8 i 0 = i := by unfold at8; omega
    rw [e]
    exact hv i hi
  | succ t ih =>
    have ih := ih (by omega)
    obtain ⟨r0, r4, ro⟩ := rnd_at (st l v t) t (ww l t + kn t) (by omega)
    have hs : rsum (st l v t) t (ww l t + kn t) = (rl l h t).getD 7 0 + S1 ((rl l h t).getD 4 0) + ch ((rl l h t).getD 4 0) ((rl l h t).getD 5 0) ((rl l h t).getD 6 0) + kn t + ww l t := by
      unfold rsum
      rw [rrs_S1, ← ih 7 (by omega), ← ih 4 (by omega), ← ih 5 (by omega), ← ih 6 (by omega)]
      exact sum5 _ _ _ _ _
    rw [rl_step, st]
    match i, hi with
    | 0, _ => rw [r0, hs, ← ih 0 (by omega), ← ih 1 (by omega), ← ih 2 (by omega), UInt32.add_assoc]; rfl
    | 4, _ => rw [r4, hs, ← ih 3 (by omega)]; rfl
    | 1, _ => rw [ro 1 (by omega) (by omega) (by omega), ← ih 0 (by omega)]; rfl
    | 2, _ => rw [ro 2 (by omega) (by omega) (by omega), ← ih 1 (by omega)]; rfl
    | 3, _ => rw [ro 3 (by omega) (by omega) (by omega), ← ih 2 (by omega)]; rfl
    | 5, _ => rw [ro 5 (by omega) (by omega) (by omega), ← ih 4 (by omega)]; rfl
    | 6, _ => rw [ro 6 (by omega) (by omega) (by omega), ← ih 5 (by omega)]; rfl
    | 7, _ => rw [ro 7 (by omega) (by omega) (by omega), ← ih 6 (by omega)]; rfl
theorem comp_at (l : List UInt8) (h : List UInt32) (v : Nat → UInt32) (hv : ∀ i, i < 8 → h.getD i 0 = v i) (i : Nat) (hi : i < 8) : (comp h l).getD i 0 = st l v 64 i + v i := by
  have h1 := st_rl l v h hv 64 (Nat.le_refl _) i hi
  have e : at8 i 64 = i := by unfold at8; omega
  rw [e] at h1
  unfold comp
  rw [← h1, ← hv i hi, UInt32.add_comm]
  simp [hi]
theorem comp_length (h : List UInt32) (l : List UInt8) : (comp h l).length = 8 := by simp [comp]

/-- What ends a text of n bytes; the words behind the first k blocks; the digest. -/
def ends (n : Nat) : List UInt8 := 0x80 :: List.replicate ((119 - n % 64) % 64) 0 ++ be (8 * n % 18446744073709551616) 8
def full (l : List UInt8) : List UInt8 := l ++ ends l.length
def blocks (m : List UInt8) (k : Nat) : List UInt32 := Nat.rec hh (fun i h => comp h ((m.drop (64 * i)).take 64)) k
theorem blocks_step (m : List UInt8) (k : Nat) : blocks m (k + 1) = comp (blocks m k) ((m.drop (64 * k)).take 64) := rfl
theorem blocks_length (m : List UInt8) (k : Nat) : (blocks m k).length = 8 := by
  cases k with
  | zero => rfl
  | succ k => rw [blocks_step, comp_length]
def wbytes (h : List UInt32) : Nat → UInt8 := fun i => UInt8.ofNat ((h.getD (i / 4) 0).toNat / 2 ^ (24 - 8 * (i % 4)) % 256)
def dg (l : List UInt8) : List UInt8 := (List.range 32).map (wbytes (blocks (full l) ((full l).length / 64)))
theorem dg_length (l : List UInt8) : (dg l).length = 32 := by simp [dg]
set_option maxRecDepth 100000 in
theorem dg_abc : (dg [97, 98, 99]).take 4 = [186, 120, 22, 191] := by decide +kernel
end Go.Proofs.YtlcegchdkigibaaGreatDoor.LK

namespace Go.Proofs.YtlcegchdkigibaaGreatDoor.LK
set_option linter.unusedVariables false
set_option linter.unusedSimpArgs false
open Go.RowKit

theorem info64 : (Tryz.prog.info? 341).map (·.size) = some 64 := by kernel_rfl
/-- What schedule answers: the words, as an array. -/
def Words64 (l : List UInt8) (W : World) (e : Ending) (w' : World) : Prop := e = .returned (.agg (cells 64 (ww l)).toArray) ∧ Below W.heap.size W w'

set_option maxRecDepth 8000 in
set_option maxHeartbeats 1600000 in
theorem schedule_any (A : Option Addr) (c : Nat) (l : List UInt8) (w : World) (h : RB w A 64 c l) :
    Calls Tryz.prog 296 #[.slice A 64 c] w (Words64 l w) := by
  have hn := h.max
  have hn' := h.cap
  go_enter Tryz.func296, Tryz.ntmps296
  go_wp2_with fail
  have hl := Lib.hid h.len
  have z1 := Arr.zero w 64 341
  have z2 := Arr.zero (w.alloc (.cells (List.replicate 64 (Value.int .u32 0)).toArray 341)) 64 341
  rw [show (w.alloc (.cells (List.replicate 64 (Value.int .u32 0)).toArray 341)).heap.size = w.heap.size + 1 from by simp] at z2
  have z3 := z1.alloc (.cells (List.replicate 64 (Value.int .u32 0)).toArray 341)
  have zb := below_a2 w (.cells (List.replicate 64 (Value.int .u32 0)).toArray 341) (.cells (List.replicate 64 (Value.int .u32 0)).toArray 341)
  go_loopw [11] (fun i wr => ∃ k : Nat, k ≤ 64 ∧ i = .int .i64 k ∧ Arr wr (w.heap.size + 1) 64 (bw l k) ∧ Arr wr w.heap.size 64 (fun _ => 0) ∧ Below w.heap.size w wr) (fun i _ => 64 - (intOf i).toNat)
  case atStart => exact ⟨0, Nat.zero_le _, rfl, z2, z3, zb⟩
  case round =>
    obtain ⟨k, hk, rfl, ha, hz, hb⟩ := hrel
    clear z1 z2 z3 zb
    by_cases hlt : k < 64
    · obtain ⟨b, o, rfl, hc⟩ := (h.below hb).at_ hlt
      have hlt' : (k : Int) < 64 := by omega
      have hq : (k : Int) / 4 = ((k / 4 : Nat) : Int) := by omega
      have hq1 : k / 4 < 64 := by omega
      have hq2 : ((k / 4 : Nat) : Int) < 64 := by omega
      obtain ⟨ka, kf⟩ := ha (k / 4) hq1
      have HW : Hid (bw l (k + 1) = put (bw l k) (k / 4) (bw l k (k / 4) <<< 8 ||| by4 (l.getD k 0))) := Lib.hid rfl
      have hx := (l.getD k 0).toNat_lt
      have HB : Hid ((((l.getD k 0).toNat : Nat) : Int) = ((by4 (l.getD k 0)).toNat : Int)) := Lib.hid (by unfold by4; rw [UInt32.toNat_ofNat']; omega)
      have HQ := Lib.hid hq
      clear h
      generalize k / 4 = q at *
      generalize l.getD k 0 = y at *
      generalize bw l k q = x at *
      go_wp2_with fail
      have HE : Hid (bits BinOp.or IntKind.u32 ((x.toNat : Int) * 256 % 4294967296) (y.toNat : Int) = ((x <<< 8 ||| by4 y).toNat : Int)) := Lib.hid (by
        rw [HB.out]
        exact (congrArg (fun z => bits BinOp.or IntKind.u32 z ((by4 y).toNat : Int)) (show _ = ((x <<< 8).toNat : Int) from w_shl x 8 (by omega))).trans (w_or _ _))
      rw [HE.out]
      go_roundw
      case rel => exact ⟨k + 1, by omega, by go_num, by rw [HW.out]; exact ha.set q _, hz.far (g_set _ _ _ _) (by simp), hb.setCell (by simp) _⟩
      case measure => simp [intOf]; omega
    · obtain rfl : k = 64 := by omega
      rw [show ((64 : Nat) : Int) = 64 from rfl]
      go_wp2_with fail
      go_loopw [6] (fun i wr => ∃ k : Nat, k ≤ 48 ∧ i = .int .i64 ((k + 16 : Nat) : Int) ∧ Arr wr (w.heap.size + 1) 64 (xw l k) ∧ Arr wr w.heap.size 64 (fun _ => 0) ∧ Below w.heap.size w wr) (fun i _ => 64 - (intOf i).toNat)
      case atStart => exact ⟨0, Nat.zero_le _, rfl, ha, hz, hb⟩
      case round =>
        obtain ⟨k, hk, rfl, ha, hz, hb⟩ := hrel
        by_cases hlt : k < 48
        · have k0 := ha k (by omega)
          have k1 := ha (k + 1) (by omega)
          have k9 := ha (k + 9) (by omega)
          have k14 := ha (k + 14) (by omega)
          have k16 := ha (k + 16) (by omega)
          have HW : Hid (xw l (k + 1) = put (xw l k) (k + 16) ((rrs [17, 19] (xw l k (k + 14)) ^^^ xw l k (k + 14) >>> 10) + xw l k (k + 9) + (rrs [7, 18] (xw l k (k + 1)) ^^^ xw l k (k + 1) >>> 3) + xw l k k)) := Lib.hid rfl
          have e0 : ((k + 16 : Nat) : Int) - 16 = (k : Int) := by omega
          have e1 : ((k + 16 : Nat) : Int) - 15 = ((k + 1 : Nat) : Int) := by omega
          have e9 : ((k + 16 : Nat) : Int) - 7 = ((k + 9 : Nat) : Int) := by omega
          have e14 : ((k + 16 : Nat) : Int) - 2 = ((k + 14 : Nat) : Int) := by omega
          have d0 : k + 16 ≠ k := by omega
          have d9 : k + 16 ≠ k + 9 := by omega
          have b0 : k < 64 := by omega
          have b1 : k + 1 < 64 := by omega
          have b9 : k + 9 < 64 := by omega
          have b14 : k + 14 < 64 := by omega
          have b16 : k + 16 < 64 := by omega
          have c0 : (k : Int) < 64 := by omega
          have c1 : ((k + 1 : Nat) : Int) < 64 := by omega
          have c9 : ((k + 9 : Nat) : Int) < 64 := by omega
          have c14 : ((k + 14 : Nat) : Int) < 64 := by omega
          have c16 : ((k + 16 : Nat) : Int) < 64 := by omega
          have HK : Hid (∃ n, n = k + 16) := Lib.hid ⟨_, rfl⟩
          have HI : Hid (((k + 16 : Nat) : Int) + 1 = ((k + 1 + 16 : Nat) : Int)) := Lib.hid (by omega)
          generalize xw l k k = x0 at *
          generalize xw l k (k + 1) = x1 at *
          generalize xw l k (k + 9) = x9 at *
          generalize xw l k (k + 14) = x14 at *
          generalize xw l k (k + 16) = x16 at *
          generalize k + 16 = m16 at *
          generalize k + 14 = m14 at *
          generalize k + 9 = m9 at *
          generalize hm1 : k + 1 = m1 at *
          have HM1 := Lib.hid hm1
          clear hm1
          obtain ⟨k0, _⟩ := k0
          obtain ⟨k1, _⟩ := k1
          obtain ⟨k9, _⟩ := k9
          obtain ⟨k14, _⟩ := k14
          obtain ⟨k16, f16⟩ := k16
          go_wp2_with fail
          go_quiet (fail)
          have hA := ha.drewN nq
          have hZ := hz.drewN nq
          have hB := hb.trans (show Below w.heap.size wr (wr.drewN nq) from ⟨rfl, rfl, rfl, Nat.le_refl _, fun _ _ => rfl⟩)
          have K0 : (wr.drewN nq).cell? ⟨w.heap.size + 1, k, none⟩ = some (c32 x0) := k0
          have K9 : (wr.drewN nq).cell? ⟨w.heap.size + 1, m9, none⟩ = some (c32 x9) := k9
          have K16 : (wr.drewN nq).cell? ⟨w.heap.size + 1, m16, none⟩ = some (c32 x16) := k16
          have F16 : (wr.drewN nq).frozen? ⟨w.heap.size + 1, m16, none⟩ = false := f16
          clear k0 k1 k9 k14 k16 f16 ha hz hb
          generalize wr.drewN nq = w1 at *
          have R1 : Hid (RI .i64 (w1.alloc (.cells #[.int .i64 17, .int .i64 19] 3)) (some ⟨w1.heap.size, 0, none⟩) 2 2 (ints [17, 19])) := Lib.hid (RI.lit .i64 w1 (ints [17, 19]) 3 (by decide))
          have R2 : Hid (RI .i64 ((w1.alloc (.cells #[.int .i64 17, .int .i64 19] 3)).alloc (.cells #[.int .i64 7, .int .i64 18] 3)) (some ⟨w1.heap.size + 1, 0, none⟩) 2 2 (ints [7, 18])) := Lib.hid (by
            have := RI.lit .i64 (w1.alloc (.cells #[.int .i64 17, .int .i64 19] 3)) (ints [7, 18]) 3 (by decide)
            rw [show (w1.alloc (.cells #[.int .i64 17, .int .i64 19] 3)).heap.size = w1.heap.size + 1 from by simp] at this
            exact this)
          go_wp2_with (first
            | (go_at_call_of 355 (c32 x14); refine (rotated_any x14 (some ⟨w1.heap.size, 0, none⟩) 2 2 [17, 19] (w1.alloc (.cells #[.int .i64 17, .int .i64 19] 3)) R1.out (by decide)).mono ?_; rintro e w' ⟨rfl, rfl⟩)
            | (go_at_call_of 355 (c32 x1); refine (rotated_any x1 (some ⟨w1.heap.size + 1, 0, none⟩) 2 2 [7, 18] ((w1.alloc (.cells #[.int .i64 17, .int .i64 19] 3)).alloc (.cells #[.int .i64 7, .int .i64 18] 3)) R2.out (by decide)).mono ?_; rintro e w' ⟨rfl, rfl⟩))
          have HN : Hid (bits BinOp.xor IntKind.u32 ((rrs [17, 19] x14).toNat : Int) ((x14.toNat : Int) / 1024) = ((rrs [17, 19] x14 ^^^ x14 >>> 10).toNat : Int)) := Lib.hid
            ((congrArg (fun z => bits BinOp.xor IntKind.u32 ((rrs [17, 19] x14).toNat : Int) z) (show _ = ((x14 >>> 10).toNat : Int) from w_shr x14 10 (by omega))).trans (w_xor _ _))
          have HF : Hid (bits BinOp.xor IntKind.u32 ((rrs [7, 18] x1).toNat : Int) ((x1.toNat : Int) / 8) = ((rrs [7, 18] x1 ^^^ x1 >>> 3).toNat : Int)) := Lib.hid
            ((congrArg (fun z => bits BinOp.xor IntKind.u32 ((rrs [7, 18] x1).toNat : Int) z) (show _ = ((x1 >>> 3).toNat : Int) from w_shr x1 3 (by omega))).trans (w_xor _ _))
          rw [HN.out, HF.out]
          have hA2 := (hA.alloc (.cells #[.int .i64 17, .int .i64 19] 3)).alloc (.cells #[.int .i64 7, .int .i64 18] 3)
          have hZ2 := (hZ.alloc (.cells #[.int .i64 17, .int .i64 19] 3)).alloc (.cells #[.int .i64 7, .int .i64 18] 3)
          have hB2 := (hB.alloc hB.size (.cells #[.int .i64 17, .int .i64 19] 3)).alloc (by have := hB.size; simp; omega) (.cells #[.int .i64 7, .int .i64 18] 3)
          have hg := hA.lt (by omega)
          have L0 := (World.cell?_alloc_lt (w1.alloc (.cells #[.int .i64 17, .int .i64 19] 3)) (.cells #[.int .i64 7, .int .i64 18] 3) ⟨w.heap.size + 1, k, none⟩ (by simp; omega)).trans ((World.cell?_alloc_lt w1 _ _ hg).trans K0)
          have L9 := (World.cell?_alloc_lt (w1.alloc (.cells #[.int .i64 17, .int .i64 19] 3)) (.cells #[.int .i64 7, .int .i64 18] 3) ⟨w.heap.size + 1, m9, none⟩ (by simp; omega)).trans ((World.cell?_alloc_lt w1 _ _ hg).trans K9)
          obtain ⟨L16, F17⟩ := hA2 m16 b16
          clear K0 K9 K16 F16 hA hZ hB hg R1 R2 HN HF c1 c14 e14 e1
          generalize rrs [17, 19] x14 ^^^ x14 >>> 10 = near at *
          generalize rrs [7, 18] x1 ^^^ x1 >>> 3 = far at *
          generalize (w1.alloc (.cells #[.int .i64 17, .int .i64 19] 3)).alloc (.cells #[.int .i64 7, .int .i64 18] 3) = w2 at *
          have W0 : IntKind.i64.wrap ((m16 : Int) - 16) = (k : Int) := by rw [IntWalk.i64_in _ (by omega)]; exact e0
          have W9 : IntKind.i64.wrap ((m16 : Int) - 7) = (m9 : Int) := by rw [IntWalk.i64_in _ (by omega)]; exact e9
          clear e0 e9
          have hA3 := (hA2.set m16 (near + x9 + far + x0)).drew
          rw [← HW.out] at hA3
          have hZ3 := (hZ2.far (g_set w2 (w.heap.size + 1) m16 (c32 (near + x9 + far + x0))) (by simp)).drew
          have hB3 := (hB2.setCell (p := ⟨w.heap.size + 1, m16, none⟩) (by simp) (c32 (near + x9 + far + x0))).drew
          go_region_with (first | fail)
          all_goals
            rw [w_addw, w_addw, w_addw]
            clear HW hA2 hZ2 hB2 L0 L9 L16 F17 W0 W9
            generalize near + x9 + far + x0 = nx at *
            go_wp2_with fail
            go_roundw
            case rel => exact ⟨m1, by have := HM1.out; omega, by rw [HI.out], hA3, hZ3, hB3⟩
            case measure => have := HM1.out; have := HI.out; simp [intOf]; omega
        · obtain rfl : k = 48 := by omega
          have hA := ha.congr (xw_all l)
          have hc := ha.range
          have ht := hz.there
          go_wp2_with (first
            | (refine wpList_load_mid rfl 341 (.tmp 3) rfl _ 0 rfl (cells 64 (ww l)) (.array 64 36) hA.range Tryz.underlying341 rfl info64 ?_)
            | (refine wpList_store_mid rfl 341 (.tmp 2) (.tmp 67) rfl _ 0 (cells 64 (ww l)).toArray rfl rfl ht info64 (all_oneCell_toArray (cells_one 64 _)) ?_))
          refine bodyPost_ret (results_cell_mid rfl _ _ w.heap.size (cells 64 (ww l)) (.array 64 36) rfl (World.rangeAt_setCells_same _ _ _ _ (by rw [cells_length]; exact ht)) Tryz.underlying341 rfl info64) rfl ⟨rfl, below_setCells _ (Nat.le_refl _) _ _ _ hb⟩
end Go.Proofs.YtlcegchdkigibaaGreatDoor.LK

namespace Go.Proofs.YtlcegchdkigibaaGreatDoor.LK
set_option linter.unusedVariables false
set_option linter.unusedSimpArgs false
open Go.RowKit

/-- The table of constants, as the package's variable holds it. -/
def Tab (w : World) : Prop := ∀ i, i < 64 → w.cell? ⟨1, i, none⟩ = some (c32 (kn i))
theorem Tab.lt {w : World} (h : Tab w) : 1 < w.heap.size := World.block_lt_of_cell? w _ (h 0 (by omega))
theorem Tab.far {w w' : World} {row : Option Nat} (h : Tab w) (hg : w.grownBy w' row) (hne : some 1 ≠ row) : Tab w' := fun i hi => (hg.cell_far _ h.lt hne).trans (h i hi)
theorem Tab.below {w w' : World} (h : Tab w) (hb : Below w.heap.size w w') : Tab w' := h.far (g_below hb none) (by simp)
theorem info8 : (Tryz.prog.info? 261).map (·.size) = some 8 := by kernel_rfl

theorem sizeOfWord (W : World) : (sizeOf 36).run Tryz.prog W = .ok 1 W := by kernel_rfl
theorem isAggWord (W : World) : (isAgg 36).run Tryz.prog W = .ok false W := by kernel_rfl
/-- An element of an array that is a value. -/
theorem run_index_words (W : World) (t : TypeId) (n : Nat) (cs : Array Value) (k : Nat) (v : Value) (ht : Tryz.prog.underlying t = some (.array n 36)) (hk : k < n) (hv : cs[k]? = some v) :
    (Instr.index t (.agg cs) (.int .i64 (k : Int))).run Tryz.prog W = .ok v W := by
  have hk' : (k : Int) < (n : Int) := by omega
  simp [Instr.index, run_underlying ht, asIntOf, hk', sizeOfWord, part, isAggWord, hv, show ¬ n ≤ k by omega]

theorem wpList_here {P : Program} {ops : Array Oper} {rest : List Oper} {op : Oper} {a : Act} {w : World} {Q : Exit → Act → World → Prop} (h : wpList P ops Q (op :: rest) a w) : wpList P ops Q (op :: rest) a w := h

set_option maxRecDepth 8000 in
set_option maxHeartbeats 400000 in
theorem take_any (b : Nat) (f : Nat → UInt32) (A : Option Addr) (c : Nat) (l : List UInt8) (w : World) (ha : Arr w b 8 f) (hr : RB w A 64 c l) (ht : Tab w) (hb : b ≠ 1) :
    Calls Tryz.prog 215 #[.pointer (some ⟨b, 0, none⟩), .slice A 64 c] w fun e w' => e = .returned (.tuple #[]) ∧ Arr w' b 8 (fun i => st l f 64 i + f i) ∧ w.grownBy w' (some b) := by
  go_enter Tryz.func215, Tryz.ntmps215
  have z0 : Arr (w.alloc (.cells #[.int .u32 0, .int .u32 0, .int .u32 0, .int .u32 0, .int .u32 0, .int .u32 0, .int .u32 0, .int .u32 0] 261)) w.heap.size 8 (fun _ => 0) := Arr.zero w 8 261
  have z1 := z0.whole f
  have hst := Lib.hid z0.there
  have bel0 : Below w.heap.size w ((w.alloc (.cells #[.int .u32 0, .int .u32 0, .int .u32 0, .int .u32 0, .int .u32 0, .int .u32 0, .int .u32 0, .int .u32 0] 261)).setCells w.heap.size 0 (cells 8 f)) := below_setCells _ (Nat.le_refl _) _ _ _ ((Below.refl _ _).alloc (Nat.le_refl _) _)
  have hbl := ha.lt (by omega)
  have hr1 := hr.below bel0
  have ha1 := ha.below bel0
  have ht1 := ht.below bel0
  have g1 := g_below bel0 none
  have hS := Lib.hid (schedule_any A c l ((w.alloc (.cells #[.int .u32 0, .int .u32 0, .int .u32 0, .int .u32 0, .int .u32 0, .int .u32 0, .int .u32 0, .int .u32 0] 261)).setCells w.heap.size 0 (cells 8 f)) hr1)
  have hL := Lib.hid ha.range
  clear z0 hr bel0 hr1
  go_wp2_with (first
    | (go_at_call 296; refine hS.out.mono ?_; rintro e w1 ⟨rfl, bel1⟩)
    | ((with_reducible refine wpList_here ?_); refine wpList_load_mid rfl 261 (.tmp 10) rfl _ 0 rfl (cells 8 f) (.array 8 36) hL.out Tryz.underlying261 rfl info8 ?_)
    | ((with_reducible refine wpList_here ?_); refine wpList_store_mid rfl 261 (.tmp 4) (.tmp 11) rfl w.heap.size 0 (cells 8 f).toArray rfl rfl hst.out info8 (all_oneCell_toArray (cells_one 8 _)) ?_; rw [List.toList_toArray]; generalize (w.alloc (.cells #[.int .u32 0, .int .u32 0, .int .u32 0, .int .u32 0, .int .u32 0, .int .u32 0, .int .u32 0, .int .u32 0] 261)).setCells w.heap.size 0 (cells 8 f) = w0 at *))
  have h1 := ha1.below bel1
  have h2 := z1.below bel1
  have h3 := ht1.below bel1
  have h4 := (g1.trans (g_below bel1 none))
  clear z1 g1 bel1 ha1 ht1 hS hL hst
  go_loopw [14] (fun i wr => ∃ k : Nat, k ≤ 64 ∧ i = .int .i64 k ∧ Arr wr b 8 (st l f k) ∧ Arr wr w.heap.size 8 f ∧ Tab wr ∧ w.grownBy wr (some b)) (fun i _ => 64 - (intOf i).toNat)
  case atStart => exact ⟨0, Nat.zero_le _, rfl, h1, h2, h3, h4.but _⟩
  case round =>
    obtain ⟨k, hk, rfl, q1, q2, q3, q4⟩ := hrel
    clear h1 h2 h3 h4
    by_cases hlt : k < 64
    · have hlt' : (k : Int) < 64 := by omega
      have hcg := cells_get 64 (ww l) k hlt
      have htk := q3 k hlt
      have hin := fun W => run_index_words W 341 64 _ k _ Tryz.underlying341 hlt hcg
      clear hcg
      have HS : Hid (st l f (k + 1) = rnd (st l f k) k (ww l k + kn k)) := Lib.hid rfl
      generalize ww l k = x at *
      generalize kn k = y at *
      go_wp2_with fail
      rw [w_add]
      refine (round_any b k (x + y) (st l f k) wr q1 hlt).mono ?_
      rintro e w2 ⟨rfl, r1, r2⟩
      rw [← HS.out] at r1
      have r3 := q2.far r2 (by simp; omega)
      have r4 := q3.far r2 (by simp; omega)
      have r5 := q4.trans r2
      clear q1 q2 q3 q4 r2 htk hin HS
      go_wp2_with fail
      go_roundw
      case rel => exact ⟨k + 1, by omega, by go_num, r1, r3, r4, r5⟩
      case measure => simp [intOf]; omega
    · obtain rfl : k = 64 := by omega
      have hL := Lib.hid q2.range
      go_wp2_with (((with_reducible refine wpList_here ?_); refine wpList_load_mid rfl 261 (.tmp 4) rfl _ 0 rfl (cells 8 f) (.array 8 36) hL.out Tryz.underlying261 rfl info8 ?_))
      generalize eS : st l f 64 = S at *
      have ES := Lib.hid eS
      clear eS
      go_loopw [28] (fun i wr => ∃ k : Nat, k ≤ 8 ∧ i = .int .i64 k ∧ Arr wr b 8 (ad S f k) ∧ w.grownBy wr (some b)) (fun i _ => 8 - (intOf i).toNat)
      case atStart => exact ⟨0, Nat.zero_le _, rfl, by rw [ad_zero]; exact q1, q4⟩
      case round =>
        obtain ⟨k, hk, rfl, q1, q4⟩ := hrel
        by_cases hlt : k < 8
        · have hlt' : (k : Int) < 8 := by omega
          have hin := fun W => run_index_words W 261 8 _ k _ Tryz.underlying261 hlt (cells_get 8 f k hlt)
          obtain ⟨k1, k2⟩ := q1 k hlt
          have hk3 : ad S f k k = S k := by simp [ad]
          rw [hk3] at k1
          have HS := Lib.hid (ad_step S f k)
          clear hk3
          generalize e1 : S k = x at *
          generalize e2 : f k = y at *
          clear e1 e2
          have hA := (q1.set k (x + y)).drew
          rw [HS.out] at hA
          have hG := (q4.trans (g_set wr b k (c32 (x + y)))).trans (g_drew _ _)
          clear q1 q4 HS
          go_wp2_with fail
          go_region_with (first | fail)
          all_goals
            rw [w_addw]
            generalize x + y = z at *
            go_wp2_with fail
            go_roundw
            case rel => exact ⟨k + 1, by omega, by go_num, hA, hG⟩
            case measure => simp [intOf]; omega
        · obtain rfl : k = 8 := by omega
          have hA := q1.congr (g := fun i => S i + f i) (fun j hj => by simp [ad, hj])
          go_wp2_with fail
          go_end0
          have e := ES.out
          subst e
          exact ⟨rfl, hA, q4⟩
end Go.Proofs.YtlcegchdkigibaaGreatDoor.LK

namespace Go.Proofs.YtlcegchdkigibaaGreatDoor.LK
set_option linter.unusedVariables false
set_option linter.unusedSimpArgs false

def kz : List Int := [1116352408, 1899447441, 3049323471, 3921009573, 961987163, 1508970993, 2453635748, 2870763221, 3624381080, 310598401, 607225278, 1426881987, 1925078388, 2162078206, 2614888103, 3248222580, 3835390401, 4022224774, 264347078, 604807628, 770255983, 1249150122, 1555081692, 1996064986, 2554220882, 2821834349, 2952996808, 3210313671, 3336571891, 3584528711, 113926993, 338241895, 666307205, 773529912, 1294757372, 1396182291, 1695183700, 1986661051, 2177026350, 2456956037, 2730485921, 2820302411, 3259730800, 3345764771, 3516065817, 3600352804, 4094571909, 275423344, 430227734, 506948616, 659060556, 883997877, 958139571, 1322822218, 1537002063, 1747873779, 1955562222, 2024104815, 2227730452, 2361852424, 2428436474, 2756734187, 3204031479, 3329325298]
theorem kz_kn : ∀ i, i < 64 → kz.getD i 0 = ((kn i).toNat : Int) := by decide +kernel
theorem gTab : Tryz.prog.globalNamed "ferrybridge/sha.factors" = some 1 := by kernel_rfl
theorem gTabType : (Tryz.prog.globals[1]?).map (·.type) = some 341 := by kernel_rfl
theorem tab_of {W : World} (h : laidMetH Tryz.prog [("ferrybridge/sha.factors", Rows.laid_ferrybridge_sha_factors)] W) : Tab W := by
  rw [MakeChecks.laidMetH_plain _ _ _ (by kernel_rfl)] at h
  have h' : laidMet Tryz.prog (("ferrybridge/sha.factors", Lib.tabData .u32 kz) :: []) W := h
  have hT := Lib.tabIs_of_head gTab gTabType Tryz.underlying341 Tryz.underlying36 (by kernel_rfl) (by kernel_rfl) h'
  intro i hi
  rw [hT.cell gTab i hi, kz_kn i hi]
end Go.Proofs.YtlcegchdkigibaaGreatDoor.LK

/- Layer 4's mathematics: a key filled, a number added to each byte without carry, the digest with a key. No program, no condition.
Contracts of what joins pieces: slices.Grow at nil, slices.Concat, octet.Join. Conditions: the pieces hold bytes, and all of them together are at most 2^40 bytes long.
The contract of the width that octet has. No condition.
The contract of octet.Put. Conditions: the slice holds bytes, at most 2^39 of them; the number is one of 64 bits.
The words of Arr for arrays of bytes, without any program. No condition.
The contracts of what ends a text, and of the digest's bytes. Conditions: a text of at most 2^38 bytes; the receiver is a block of eight words.
The contract of a key to whose bytes a number is added. Condition: the key has 64 bytes.
The contracts of octet.Cut. Condition: the slice holds bytes, at most 2^39 of them.
The contracts of octet.Take. Condition: the slices hold bytes, at most 2^39 of them.
Contracts of key.front and key.put. Conditions: the digest has 32 bytes, four or eight of them are taken; the list holds at most a thousand numbers of 64 bits.
Layer 5's mathematics: a key's token, and what proves two keys. No program, no condition. -/
import Derived.Test.YtlcegchdkigibaaGreatDoorMg3
import Derived.Test.YtlcegchdkigibaaGreatDoorMg2
import Derived.Deep.RegionWith
import Derived.Laws.BitsAllLaws
namespace Go.Proofs.YtlcegchdkigibaaGreatDoor.LK
set_option linter.unusedVariables false
set_option linter.unusedSimpArgs false

/-- A key, filled; a number added to each byte without carry; the digest with a key. -/
def ks (k : List UInt8) : List UInt8 := if 64 < k.length then dg k else k
def kf (k : List UInt8) : List UInt8 := ks k ++ List.replicate (64 - (ks k).length) 0
def xo (n : UInt8) (k : List UInt8) : List UInt8 := k.map fun x => x ^^^ n
def hm (k t : List UInt8) : List UInt8 := dg (xo 92 (kf k) ++ dg (xo 54 (kf k) ++ t))
theorem ks_length (k : List UInt8) : (ks k).length ≤ 64 := by
  unfold ks
  split
  · rw [dg_length]; omega
  · omega
theorem kf_length (k : List UInt8) : (kf k).length = 64 := by
  have := ks_length k
  rw [kf, List.length_append, List.length_replicate]
  omega
theorem xo_length (n : UInt8) (k : List UInt8) : (xo n k).length = k.length := by simp [xo]
theorem hm_length (k t : List UInt8) : (hm k t).length = 32 := dg_length _
theorem b_xor (x y : UInt8) : bits .xor .u8 (x.toNat : Int) (y.toNat : Int) = ((x ^^^ y).toNat : Int) := by
  rw [u8_xor_nat _ _ x.toNat_lt y.toNat_lt, UInt8.toNat_xor]
theorem kf_long (k : List UInt8) (h : 64 < k.length) : kf (dg k) = kf k := by
  have e : ks (dg k) = ks k := by
    unfold ks
    rw [dg_length, if_neg (by omega), if_pos h]
  unfold kf
  rw [e]
theorem kf_zeros (k : List UInt8) (n : Nat) (h : k.length + n ≤ 64) : kf (k ++ List.replicate n 0) = kf k := by
  have e1 : ks (k ++ List.replicate n 0) = k ++ List.replicate n 0 := by
    unfold ks
    rw [if_neg (by simp; omega)]
  have e2 : ks k = k := by
    unfold ks
    rw [if_neg (by omega)]
  unfold kf
  rw [e1, e2, List.append_assoc, List.replicate_append_replicate]
  congr 2
  simp
  omega
theorem hm_long (k t : List UInt8) (h : 64 < k.length) : hm (dg k) t = hm k t := by unfold hm; rw [kf_long k h]
theorem hm_zeros (k t : List UInt8) (n : Nat) (h : k.length + n ≤ 64) : hm (k ++ List.replicate n 0) t = hm k t := by unfold hm; rw [kf_zeros k n h]

/-- The document's example, its two digests one by one. -/
theorem kf_jefe : kf [74, 101, 102, 101] = [74, 101, 102, 101, 0, 0, 0, 0, 0, 0, 0, 0, 0, 0, 0, 0, 0, 0, 0, 0, 0, 0, 0, 0, 0, 0, 0, 0, 0, 0, 0, 0, 0, 0, 0, 0, 0, 0, 0, 0, 0, 0, 0, 0, 0, 0, 0, 0, 0, 0, 0, 0, 0, 0, 0, 0, 0, 0, 0, 0, 0, 0, 0, 0] := by decide +kernel
set_option maxRecDepth 100000 in
theorem in_jefe : dg (xo 54 (kf [74, 101, 102, 101]) ++ ([119, 104, 97, 116, 32, 100, 111, 32, 121, 97, 32, 119, 97, 110, 116, 32] ++ [102, 111, 114, 32, 110, 111, 116, 104, 105, 110, 103, 63])) = [162, 228, 133, 134, 61, 39, 249, 216, 100, 172, 141, 128, 36, 50, 161, 237, 71, 125, 140, 76, 111, 52, 157, 22, 212, 231, 233, 23, 198, 41, 202, 215] := by
  rw [kf_jefe]
  decide +kernel
set_option maxRecDepth 100000 in
theorem hm_jefe : (hm [74, 101, 102, 101] ([119, 104, 97, 116, 32, 100, 111, 32, 121, 97, 32, 119, 97, 110, 116, 32] ++ [102, 111, 114, 32, 110, 111, 116, 104, 105, 110, 103, 63])).take 4 = [91, 220, 193, 70] := by
  unfold hm
  rw [in_jefe, kf_jefe]
  decide +kernel
end Go.Proofs.YtlcegchdkigibaaGreatDoor.LK

namespace Go.Proofs.YtlcegchdkigibaaGreatDoor.LK
set_option linter.unusedVariables false
set_option linter.unusedSimpArgs false
open Go.RowKit

/-- The slice of slices '.slice A n c' holds the pieces ps in w. -/
def Parts (w : World) (A : Option Addr) (n c : Nat) (ps : List (List UInt8)) : Prop :=
  ps.length = n ∧ n ≤ c ∧ c ≤ maxLen ∧ (0 < n → ∃ b o, A = some ⟨b, o, none⟩ ∧ ∀ j, j < n → ∃ B m d, w.cell? ⟨b, o + j, none⟩ = some (.slice B m d) ∧ RB w B m d (ps.getD j []))

section
variable {w w' : World} {A : Option Addr} {n c : Nat} {ps : List (List UInt8)}
theorem Parts.len (h : Parts w A n c ps) : ps.length = n := h.1
theorem Parts.cap (h : Parts w A n c ps) : n ≤ c := h.2.1
theorem Parts.max (h : Parts w A n c ps) : c ≤ 9223372036854775807 := by have := h.2.2.1; unfold maxLen at this; omega
theorem Parts.at_ (h : Parts w A n c ps) {j : Nat} (hj : j < n) : ∃ b o B m d, A = some ⟨b, o, none⟩ ∧ w.cell? ⟨b, o + j, none⟩ = some (.slice B m d) ∧ RB w B m d (ps.getD j []) := by
  obtain ⟨b, o, e, hc⟩ := h.2.2.2 (by omega)
  obtain ⟨B, m, d, h1, h2⟩ := hc j hj
  exact ⟨b, o, B, m, d, e, h1, h2⟩
theorem Parts.below (h : Parts w A n c ps) (hb : Below w.heap.size w w') : Parts w' A n c ps :=
  ⟨h.1, h.2.1, h.2.2.1, fun hn => by
    obtain ⟨b, o, e, hc⟩ := h.2.2.2 hn
    refine ⟨b, o, e, fun j hj => ?_⟩
    obtain ⟨B, m, d, h1, h2⟩ := hc j hj
    exact ⟨B, m, d, (hb.cell (World.block_lt_of_cell? w _ h1)).trans h1, h2.below hb⟩⟩
end

/-- The first k pieces, joined; and how long that is. -/
def fl (ps : List (List UInt8)) (k : Nat) : List UInt8 := (ps.take k).flatten
def tl (ps : List (List UInt8)) (k : Nat) : Nat := (fl ps k).length
theorem fl_zero (ps : List (List UInt8)) : fl ps 0 = [] := rfl
theorem tl_zero (ps : List (List UInt8)) : tl ps 0 = 0 := rfl
theorem fl_step (ps : List (List UInt8)) (k : Nat) (h : k < ps.length) : fl ps (k + 1) = fl ps k ++ ps.getD k [] := by
  unfold fl
  rw [List.take_succ_eq_append_getElem h, List.flatten_append]
  simp [h]
theorem tl_step (ps : List (List UInt8)) (k : Nat) (h : k < ps.length) : tl ps (k + 1) = tl ps k + (ps.getD k []).length := by
  unfold tl
  rw [fl_step ps k h, List.length_append]
theorem fl_all (ps : List (List UInt8)) (k : Nat) (h : ps.length = k) : fl ps k = ps.flatten := by
  unfold fl
  rw [List.take_of_length_le (by omega)]
theorem tl_le (ps : List (List UInt8)) (k n : Nat) (h : k ≤ n) : tl ps k ≤ tl ps n := by
  unfold tl fl
  have e : ps.take n = ps.take k ++ (ps.take n).drop k := by
    have := List.take_append_drop k (ps.take n)
    rw [List.take_take, Nat.min_eq_left h] at this
    exact this.symm
  rw [e, List.flatten_append, List.length_append]
  omega

set_option maxHeartbeats 400000 in
theorem Grow_any (n : Nat) (w : World) (hn : n ≤ 1099511627776) :
    Calls Tryz.prog 354 #[.slice none 0 0, .int .i64 (n : Int)] w (Made w 5 0 []) := by
  rcases Nat.eq_zero_or_pos n with h0 | h0
  · subst h0
    go_enter Tryz.func354, Tryz.ntmps354
    go_wp2
    go_ret
    exact ⟨_, rfl, World.ownsRow_nil _ _ _ _, Below.refl _ _⟩
  · obtain ⟨i0, hi, hz0, hz1, hz2⟩ := info_parts infoByte
    have hrun := fun W => Lib.run_append_nil_zeros (P := Tryz.prog) W 38 3 38 5 i0 _ .i64 .i64 Tryz.underlying38 Tryz.underlying3 hi hz0 n h0 (by omega) (by omega) (by rw [hz2]; omega)
    have HR := Lib.hid hrun
    have hg := grownCap_ge w n 0 5
    have hm := grownCap_le_maxLen w n 0 5 (by unfold maxLen; omega)
    clear hrun hi hz0 hz1 hz2
    have hm' : grownCap w n 0 5 ≤ 9223372036854775807 := by unfold maxLen at hm; omega
    have HM := Lib.hid hm
    clear hm
    go_enter Tryz.func354, Tryz.ntmps354
    go_wp2_with (at_builtin; refine Lib.wpList_append_run _ rfl (.tmp 20) (.tmp 21) 38 3 rfl _ _ rfl rfl _ _ (HR.out _) ?_)
    go_ret
    have hown := World.ownsRow_made (base := w.heap.size) (e := 5) (size := 1) w.drew (Builtin.zeroCells (Value.int .u8 0).cells n ++ Builtin.zeroCells (Value.int .u8 0).cells (grownCap w n 0 5 - n)) (grownCap w n 0 5) (Nat.le_refl _) HM.out
      (by simp only [Array.size_append, size_zeroCells]; rw [show (Value.int IntKind.u8 0).cells.size = 1 from rfl]; omega)
    exact ⟨_, rfl, hown, (Below.refl _ _).drew.alloc (Nat.le_refl _) _⟩
set_option maxHeartbeats 800000 in
theorem Concat_any (A : Option Addr) (n c : Nat) (ps : List (List UInt8)) (w : World) (h : Parts w A n c ps) (ht : tl ps n ≤ 1099511627776) :
    Calls Tryz.prog 295 #[.slice A n c] w (Made w 5 (tl ps n) (fl ps n)) := by
  have hl := Lib.hid h.len
  have hn := h.max
  have hn' := h.cap
  go_enter Tryz.func295, Tryz.ntmps295
  go_wp2
  go_loop [3, 11] (fun x i => ∃ k : Nat, k ≤ n ∧ i = .int .i64 k ∧ x = .int .i64 (tl ps k : Nat)) (fun _ i => n - (intOf i).toNat)
  case atStart => exact ⟨0, Nat.zero_le _, rfl, rfl⟩
  case round =>
    obtain ⟨k, hk, rfl, rfl⟩ := hrel
    have hT := Nat.le_trans (tl_le ps k n hk) ht
    by_cases hlt : k < n
    · have hT' := Nat.le_trans (tl_le ps (k + 1) n hlt) ht
      have hS := tl_step ps k (by rw [hl.out]; exact hlt)
      obtain ⟨b, o, B, m, d, rfl, hc, hr⟩ := h.at_ hlt
      rw [hr.len] at hS
      rw [hS] at hT'
      have HS := Lib.hid hS
      clear hS h hr
      generalize tl ps k = x at *
      have hx : ¬ ((x : Int) + (m : Int) < 0) := by omega
      go_wp2
      go_round
      case rel => exact ⟨k + 1, by omega, by go_num, by rw [HS.out]; go_num⟩
      case measure => simp [intOf]; omega
    · obtain rfl : k = n := by omega
      go_wp2_with (go_at_call 354; refine (Grow_any _ _ (by omega)).mono ?_; rintro e w1 ⟨v1, rfl, hown1, hbel1⟩)
      go_loopw [6, 27] (fun v i wr => ∃ j : Nat, j ≤ k ∧ i = .int .i64 j ∧ wr.ownsRow w.heap.size 5 1 v (tl ps j) (bv (fl ps j)) ∧ Below w.heap.size w wr) (fun _ i _ => k - (intOf i).toNat)
      case atStart => exact ⟨0, Nat.zero_le _, rfl, hown1, hbel1⟩
      case round =>
        obtain ⟨j, hj, rfl, hown, hbel⟩ := hrel
        by_cases hjk : j < k
        · have hT' := Nat.le_trans (tl_le ps (j + 1) k hjk) ht
          have hS := tl_step ps j (by rw [hl.out]; exact hjk)
          have hF := fl_step ps j (by rw [hl.out]; exact hjk)
          obtain ⟨b, o, B, m, d, rfl, hc, hr⟩ := (h.below hbel).at_ hjk
          rw [hr.len] at hS
          rw [hS] at hT'
          have HS := Lib.hid hS
          have HF := Lib.hid hF
          have HB := Lib.hid hbel
          have hz := hbel.size
          clear hS hF h hbel1 hown1 hbel
          generalize tl ps j = x at *
          go_wp2_with (at_builtin; refine wpList_app _ rfl (.tmp 31) (.tmp 32) 38 5 rfl Tryz.underlying38 infoByte w.heap.size _ x (fl ps j) rfl hown _ m _ (ps.getD j []) rfl hr (by omega) (by omega) ?_; intro v' w2 hown' hg' _)
          have hb2 := below_grown HB.out hown hg'
          rw [← HF.out, ← HS.out] at hown'
          clear hg' hown HB hr
          go_wp2
          go_roundw
          case rel => exact ⟨j + 1, by omega, by go_num, hown', hb2⟩
          case measure => simp [intOf]; omega
        · obtain rfl : j = k := by omega
          go_wp2
          go_ret
          exact ⟨_, rfl, hown, hbel⟩

set_option maxHeartbeats 400000 in
theorem Join_any (A : Option Addr) (n c : Nat) (ps : List (List UInt8)) (w : World) (h : Parts w A n c ps) (ht : tl ps n ≤ 1099511627776) :
    Calls Tryz.prog 213 #[.slice A n c] w (Made w 5 (tl ps n) (fl ps n)) := by
  go_enter Tryz.func213, Tryz.ntmps213
  go_wp2_with (go_at_call 295; refine (Concat_any _ _ _ _ _ h ht).mono ?_; rintro e w1 ⟨v1, rfl, hown1, hbel1⟩)
  go_ret
  exact ⟨_, rfl, hown1, hbel1⟩
theorem Parts.one {w : World} {g : Nat} {B : Option Addr} {m d : Nat} {l : List UInt8} (hc : w.cell? ⟨g, 0, none⟩ = some (.slice B m d)) (hr : RB w B m d l) : Parts w (some ⟨g, 0, none⟩) 1 1 [l] := by
  refine ⟨rfl, Nat.le_refl _, by unfold maxLen; omega, fun _ => ⟨g, 0, rfl, fun j hj => ?_⟩⟩
  obtain rfl : j = 0 := by omega
  exact ⟨B, m, d, hc, hr⟩

theorem Join_one {g : Nat} {B : Option Addr} {m d : Nat} {l : List UInt8} {w : World} (hc : w.cell? ⟨g, 0, none⟩ = some (.slice B m d)) (hr : RB w B m d l) (hm : m ≤ 1099511627776) :
    Calls Tryz.prog 213 #[.slice (some ⟨g, 0, none⟩) 1 1] w (MadeRB w m l) := by
  have e1 : fl [l] 1 = l := by simp [fl]
  have e2 : tl [l] 1 = m := by rw [tl, e1, hr.len]
  refine (Join_any _ 1 1 [l] w (Parts.one hc hr) (by rw [e2]; exact hm)).mono ?_
  rintro e w' ⟨v, rfl, hown, hb⟩
  rw [e1, e2] at hown
  obtain ⟨A, c, rfl, h, _⟩ := RB.of_own hown
  exact ⟨A, c, rfl, h, hb⟩

theorem Join_two {A B : Option Addr} {n c m d : Nat} {l r : List UInt8} {w : World} {t : TypeId} {g : Nat} (hg : g = w.heap.size) (h : RB w A n c l) (h' : RB w B m d r) (hm : n + m ≤ 1099511627776) :
    Calls Tryz.prog 213 #[.slice (some ⟨g, 0, none⟩) 2 2] (w.alloc (.cells #[.slice A n c, .slice B m d] t)) (MadeRB (w.alloc (.cells #[.slice A n c, .slice B m d] t)) (n + m) (l ++ r)) := by
  subst hg
  have e1 : fl [l, r] 2 = l ++ r := by simp [fl]
  have e2 : tl [l, r] 2 = n + m := by rw [tl, e1, List.length_append, h.len, h'.len]
  refine (Join_any _ 2 2 [l, r] _ ⟨rfl, Nat.le_refl _, by unfold maxLen; omega, fun _ => ⟨_, 0, rfl, fun j hj => ?_⟩⟩ (by rw [e2]; exact hm)).mono ?_
  · rw [Nat.zero_add, cell_of_row _ w.heap.size j _ t (0, 0) (heap_alloc_new w _)]
    match j, hj with
    | 0, _ => exact ⟨A, n, c, rfl, h.alloc _⟩
    | 1, _ => exact ⟨B, m, d, rfl, h'.alloc _⟩
  · rintro e w' ⟨v, rfl, hown, hb⟩
    rw [e1, e2] at hown
    obtain ⟨A2, c2, rfl, h2, _⟩ := RB.of_own hown
    exact ⟨A2, c2, rfl, h2, hb⟩
theorem Join_three {A B C : Option Addr} {n c m d k f : Nat} {l r s : List UInt8} {w : World} {t : TypeId} {g : Nat} (hg : g = w.heap.size) (h : RB w A n c l) (h' : RB w B m d r) (h'' : RB w C k f s) (hm : n + m + k ≤ 1099511627776) :
    Calls Tryz.prog 213 #[.slice (some ⟨g, 0, none⟩) 3 3] (w.alloc (.cells #[.slice A n c, .slice B m d, .slice C k f] t)) (OwnMade (w.alloc (.cells #[.slice A n c, .slice B m d, .slice C k f] t)) (n + m + k) (l ++ r ++ s)) := by
  subst hg
  have e1 : fl [l, r, s] 3 = l ++ r ++ s := by simp [fl]
  have e2 : tl [l, r, s] 3 = n + m + k := by rw [tl, e1, List.length_append, List.length_append, h.len, h'.len, h''.len]
  refine (Join_any _ 3 3 [l, r, s] _ ⟨rfl, Nat.le_refl _, by unfold maxLen; omega, fun _ => ⟨_, 0, rfl, fun j hj => ?_⟩⟩ (by rw [e2]; exact hm)).mono ?_
  · rw [Nat.zero_add, cell_of_row _ w.heap.size j _ t (0, 0) (heap_alloc_new w _)]
    match j, hj with
    | 0, _ => exact ⟨A, n, c, rfl, h.alloc _⟩
    | 1, _ => exact ⟨B, m, d, rfl, h'.alloc _⟩
    | 2, _ => exact ⟨C, k, f, rfl, h''.alloc _⟩
  · rintro e w' ⟨v, rfl, hown, hb⟩
    rw [e1, e2] at hown
    obtain ⟨A2, c2, rfl, h2, _⟩ := RB.of_own hown
    exact ⟨A2, c2, rfl, h2, hown, hb⟩
end Go.Proofs.YtlcegchdkigibaaGreatDoor.LK

namespace Go.Proofs.YtlcegchdkigibaaGreatDoor.LK
set_option linter.unusedVariables false
set_option linter.unusedSimpArgs false
open Go.RowKit

theorem mm_wn (n : Int) : min (max n 1) 8 = (wn n : Int) := by
  unfold wn
  rw [Int.max_def, Int.min_def]
  split <;> split <;> (try split) <;> (try split) <;> omega

theorem width_any (n : Int) (w : World) : Calls Tryz.prog 294 #[.int .i64 n] w fun e w' => e = .returned (.int .i64 (wn n : Nat)) ∧ w = w' := by
  have H := Lib.hid (mm_wn n)
  go_enter Tryz.func294, Tryz.ntmps294
  go_wp2
  go_ret
  exact ⟨by rw [← H.out]; rfl, rfl⟩
end Go.Proofs.YtlcegchdkigibaaGreatDoor.LK

namespace Go.Proofs.YtlcegchdkigibaaGreatDoor.LK
set_option linter.unusedVariables false
set_option linter.unusedSimpArgs false
open Go.RowKit

/-- The digit in place j of eight behind i rounds. -/
def dig (a i j : Nat) : Nat := if 8 ≤ i + j then a / 256 ^ (7 - j) % 256 else 0
theorem dig_new (a m : Nat) (h : m < 8) : dig a (m + 1) (7 - m) = a / 2 ^ (8 * m) % 256 := by
  unfold dig
  rw [if_pos (by omega), show 7 - (7 - m) = m from by omega, show 2 ^ (8 * m) = 256 ^ m from by rw [Nat.pow_mul]]
theorem dig_old (a m j : Nat) (h : j ≠ 7 - m) (hj : j < 8) : dig a (m + 1) j = dig a m j := by
  unfold dig
  split <;> split <;> first | rfl | omega
theorem dig_end (a k j : Nat) (hk : k ≤ 8) (hj : j < k) : dig a 8 (8 - k + j) = ((be a k).getD j 0).toNat := by
  rw [be_at a k j hj, UInt8.toNat_ofNat']
  unfold dig
  rw [if_pos (by omega), show 7 - (8 - k + j) = k - 1 - j from by omega]

/-- Eight digits in the block g. -/
def Digits (a g m : Nat) (w : World) : Prop := (∀ j, j < 8 → w.cell? ⟨g, j, none⟩ = some (.int .u8 (dig a m j : Nat))) ∧ ∀ j, j < 8 → w.frozen? ⟨g, j, none⟩ = false
theorem Digits.start (a : Nat) (w : World) (t : TypeId) : Digits a w.heap.size 0 (w.alloc (.cells #[.int .u8 0, .int .u8 0, .int .u8 0, .int .u8 0, .int .u8 0, .int .u8 0, .int .u8 0, .int .u8 0] t)) := by
  refine ⟨fun j hj => ?_, fun j hj => ?_⟩
  · rw [cell_of_row _ w.heap.size j _ t (0, 0) (heap_alloc_new w _)]
    have e : dig a 0 j = 0 := by unfold dig; rw [if_neg (by omega)]
    rw [e]
    match j, hj with
    | 0, _ => rfl
    | 1, _ => rfl
    | 2, _ => rfl
    | 3, _ => rfl
    | 4, _ => rfl
    | 5, _ => rfl
    | 6, _ => rfl
    | 7, _ => rfl
  · exact frozen_of_row _ w.heap.size j _ t (heap_alloc_new w _)
theorem Digits.step {a g m : Nat} {w : World} (h : Digits a g m w) (hm : m < 8) : Digits a g (m + 1) (w.setCell ⟨g, 7 - m, none⟩ (.int .u8 ((a : Int) / 2 ^ (8 * m) % 256))) := by
  refine ⟨fun j hj => ?_, fun j hj => ?_⟩
  · by_cases e : j = 7 - m
    · subst e
      rw [World.cell?_setCell_same _ _ _ (h.1 (7 - m) (by omega)), dig_new a m hm]
      congr
    · rw [World.cell?_setCell_other _ _ _ _ (by intro x; injection x with _ x; exact e x.symm), h.1 j hj, dig_old a m j e hj]
  · rw [World.frozen?_setCell, h.2 j hj]

theorem arrOf : Tryz.prog.underlying 344 = some (.array (Tryz.prog.arrayLen 344) (Tryz.prog.elem 344)) := by kernel_rfl
theorem lenOf : Tryz.prog.arrayLen 344 = 8 := by kernel_rfl
theorem sizeOfArr (W : World) : (sizeOf (Tryz.prog.elem 344)).run Tryz.prog W = .ok 1 W := by kernel_rfl
theorem cutArray (k : Nat) (g : Nat) (h1 : 1 ≤ k) (h8 : k ≤ 8) (W : World) :
    (Instr.sliceAt 344 (.pointer (some ⟨g, 0, none⟩)) (some (.int .i64 (8 - (k : Int)))) none none).run Tryz.prog W = .ok (.slice (some ⟨g, 8 - k, none⟩) k k) W := by
  rw [run_sliceAt_array_l (P := Tryz.prog) W 344 ⟨g, 0, none⟩ arrOf .i64 (8 - (k : Int)) (by omega) (by rw [lenOf]; omega), sizeOfArr, lenOf]
  have e : (8 - (k : Int)).toNat = 8 - k := by omega
  simp only [Result.andThen, slicedAt, e]
  rw [if_neg (by omega), Addr.add_lit, show 8 - (8 - k) = k from by omega]
  simp

set_option maxHeartbeats 800000 in
theorem Put_any (A : Option Addr) (n c a : Nat) (k : Int) (l : List UInt8) (w : World) (h : RB w A n c l) (ha : a < 18446744073709551616) (ht : n ≤ 549755813888) :
    Calls Tryz.prog 217 #[.slice A n c, .int .u64 (a : Int), .int .i64 k] w (MadeRB w (n + wn k) (l ++ be a (wn k))) := by
  have hlo := wn_lo k
  have hhi := wn_hi k
  have hD := Digits.start a w 344
  go_enter Tryz.func217, Tryz.ntmps217
  go_wp2_with fail
  go_loopw [9] (fun i wr => ∃ m : Nat, m ≤ 8 ∧ i = .int .i64 m ∧ Digits a w.heap.size m wr ∧ Below w.heap.size w wr) (fun i _ => 8 - (intOf i).toNat)
  case atStart => exact ⟨0, Nat.zero_le _, rfl, hD, below_a _ _⟩
  case round =>
    obtain ⟨m, hm, rfl, hd, hb⟩ := hrel
    by_cases hlt : m < 8
    · have hc7 := hd.1 (7 - m) (by omega)
      have hf7 := hd.2 (7 - m) (by omega)
      have hd' := hd.step hlt
      clear h hD
      go_wp2_with fail
      go_roundw
      case rel => exact ⟨m + 1, by omega, by go_num, hd', hb.setCell (Nat.le_refl _) _⟩
      case measure => simp [intOf]; omega
    · obtain rfl : m = 8 := by omega
      have hcut := cutArray (wn k) w.heap.size hlo hhi
      have hr2 : RB wr (some ⟨w.heap.size, 8 - wn k, none⟩) (wn k) (wn k) (be a (wn k)) :=
        ⟨be_length a _, Nat.le_refl _, by unfold maxLen; omega, fun _ => ⟨_, _, rfl, fun j hj => by rw [hd.1 _ (by omega), dig_end a _ j hhi hj]⟩⟩
      have hr1 := h.below hb
      clear h hD hd
      go_wp2_with (first
        | (go_at_call 294; refine (width_any _ _).mono ?_; rintro e w' ⟨rfl, rfl⟩)
        | (go_at_call 213; refine (Join_two rfl hr1 hr2 (by omega)).mono ?_; rintro e w2 ⟨A2, c2, rfl, hr3, hb2⟩))
      go_ret
      exact ⟨_, _, rfl, hr3, hb.trans ((below_trans (below_a _ _) hb2).mono hb.size)⟩
end Go.Proofs.YtlcegchdkigibaaGreatDoor.LK

namespace Go.Proofs.YtlcegchdkigibaaGreatDoor.LK
set_option linter.unusedVariables false
set_option linter.unusedSimpArgs false
open Go.RowKit

abbrev c8 (x : UInt8) : Value := .int .u8 (x.toNat : Int)
/-- Block b holds the bytes f 0 .. f (n - 1) and may be written. -/
def Arb (w : World) (b n : Nat) (f : Nat → UInt8) : Prop := ∀ j, j < n → w.cell? ⟨b, j, none⟩ = some (c8 (f j)) ∧ w.frozen? ⟨b, j, none⟩ = false
def putb (f : Nat → UInt8) (k : Nat) (x : UInt8) : Nat → UInt8 := fun j => if j = k then x else f j
theorem putb_same (f : Nat → UInt8) (k : Nat) (x : UInt8) : putb f k x k = x := by simp [putb]
theorem putb_other (f : Nat → UInt8) (k j : Nat) (x : UInt8) (h : j ≠ k) : putb f k x j = f j := by simp [putb, h]
section
variable {w w' : World} {b n : Nat} {f : Nat → UInt8}
theorem Arb.lt (h : Arb w b n f) (hn : 0 < n) : b < w.heap.size := World.block_lt_of_cell? w _ (h 0 hn).1
theorem Arb.far {row : Option Nat} (h : Arb w b n f) (hg : w.grownBy w' row) (hne : some b ≠ row) : Arb w' b n f := fun j hj =>
  ⟨(hg.cell_far _ (h.lt (by omega)) hne).trans (h j hj).1, (hg.frozen_far _ (h.lt (by omega)) hne).trans (h j hj).2⟩
theorem Arb.below (h : Arb w b n f) (hb : Below w.heap.size w w') : Arb w' b n f := h.far (g_below hb none) (by simp)
theorem Arb.set (h : Arb w b n f) (k : Nat) (x : UInt8) : Arb (w.setCell ⟨b, k, none⟩ (c8 x)) b n (putb f k x) := fun j hj => by
  refine ⟨?_, by rw [World.frozen?_setCell]; exact (h j hj).2⟩
  by_cases e : j = k
  · subst e
    rw [putb_same]
    exact World.cell?_setCell_same w _ _ (h j hj).1
  · rw [putb_other _ _ _ _ e, World.cell?_setCell_other w _ _ _ (by intro h; injection h with _ h; exact e h.symm)]
    exact (h j hj).1
theorem Arb.congr (h : Arb w b n f) {g : Nat → UInt8} (e : ∀ j, j < n → f j = g j) : Arb w b n g := fun j hj => by rw [← e j hj]; exact h j hj
/-- The bytes' cells. -/
theorem bv_range (n : Nat) (f : Nat → UInt8) (j : Nat) (h : j < n) : (bv ((List.range n).map f))[j]? = some (c8 (f j)) := by simp [bv, h]
theorem Arb.range (h : Arb w b n f) : w.rangeAt b 0 (bv ((List.range n).map f)) := fun j v hv => by
  have hj : j < n := by have := (List.getElem?_eq_some_iff.1 hv).1; simpa [bv] using this
  rw [bv_range n f j hj] at hv
  rw [← hv, Nat.zero_add]
  exact (h j hj).1
theorem Arb.there (h : Arb w b n f) : w.there b 0 n := fun j hj => by
  rw [Nat.zero_add, (h j hj).1]
  exact ⟨rfl, (h j hj).2⟩
theorem Arb.zero (w : World) (n : Nat) (t : TypeId) : Arb (w.alloc (.cells (List.replicate n (Value.int .u8 0)).toArray t)) w.heap.size n (fun _ => 0) := fun j hj => by
  refine ⟨?_, World.frozen?_alloc_at _ t _ j rfl⟩
  rw [cell_of_row _ w.heap.size j _ t (0, 0) (heap_alloc_new w _), List.getElem?_toArray]
  simp [hj]
/-- An array of bytes, sliced whole or in part, holds its bytes. -/
theorem _root_.Go.Proofs.YtlcegchdkigibaaGreatDoor.RB.of_range {l : List UInt8} {k n : Nat} (h : w.rangeAt b 0 (bv l)) (hk : k ≤ l.length) (hn : k ≤ n) (hm : n ≤ maxLen) : RB w (some ⟨b, 0, none⟩) k n (l.take k) := by
  refine ⟨by rw [List.length_take]; omega, hn, hm, fun _ => ⟨b, 0, rfl, fun j hj => ?_⟩⟩
  rw [h j _ (bv_at l j (by omega))]
  simp [hj]
end
end Go.Proofs.YtlcegchdkigibaaGreatDoor.LK

namespace Go.Proofs.YtlcegchdkigibaaGreatDoor.LK
set_option linter.unusedVariables false
set_option linter.unusedSimpArgs false
open Go.RowKit

theorem ends_eq (n : Nat) (h : n ≤ 274877906944) : ends n = (List.replicate ((119 - n % 64) % 64 + 1) (0 : UInt8)).set 0 128 ++ be (8 * n) 8 := by
  unfold ends
  rw [Nat.mod_eq_of_lt (show 8 * n < 18446744073709551616 by omega), List.replicate_succ]
  rfl
theorem made_bv (n : Nat) : (madeCells (Value.int .u8 0).cells (n * 1)).toList = bv (List.replicate n 0) := by
  rw [Nat.mul_one]
  simp [madeCells, bv, Value.cells, Nat.mod_one, List.map_const']

set_option maxHeartbeats 400000 in
theorem ending_any (n : Nat) (w : World) (hn : n ≤ 274877906944) :
    Calls Tryz.prog 214 #[.int .i64 (n : Int)] w (MadeRB w ((119 - n % 64) % 64 + 1 + 8) (ends n)) := by
  obtain ⟨i0, hi, hz0, hz1, hz2⟩ := info_parts infoByte
  have hz : (119 - (n : Int) % 64) % 64 = (((119 - n % 64) % 64 : Nat) : Int) := by omega
  have hlt := Nat.mod_lt (119 - n % 64) (show 0 < 64 by omega)
  have HE := Lib.hid (ends_eq n hn)
  generalize (119 - n % 64) % 64 = z at *
  have HI := Lib.hid hi
  have H0 := Lib.hid hz0
  have H1 := Lib.hid hz1
  have H2 := Lib.hid hz2
  clear hi hz0 hz1 hz2
  have h8 : 8 * (n : Int) = ((8 * n : Nat) : Int) := by omega
  have hm : 8 * n < 18446744073709551616 := by omega
  generalize 8 * n = m at *
  go_enter Tryz.func214, Tryz.ntmps214
  go_wp2_with (first
    | (go_at_call 217; refine (Put_any (some ⟨w.heap.size, 0, none⟩) (z + 1) (z + 1) m 8 _ _ hr hm (by omega)).mono ?_; rintro e w3 ⟨A3, c3, rfl, hr3, hb3⟩)
    | (at_make; refine wpList_make_full w rfl (.tmp 10) (.tmp 10) 38 rfl w.heap.size 5 i0 _ 1 Tryz.underlying38 HI.out H0.out H1.out .i64 .i64 _ _ (z + 1) rfl rfl (by omega) (by omega) (by rw [H2.out]; omega) (by unfold maxLen; omega) (Nat.le_refl _) ?_
       intro w1 hown hg
       rw [made_bv] at hown
       obtain ⟨g, cap, hv, _, _, _, hc, hf⟩ := own_at hown (j := 0) (by omega)
       injection hv with e1 _ e3
       injection e1 with e1
       injection e1 with e1
       subst e1 e3
       have ho := own_set (j := 0) (x := 128) hown (by omega) (by omega)
       have hb2 : Below w.heap.size w (w1.setCell ⟨w.heap.size, 0, none⟩ (.int .u8 128)) := ((Below.refl _ _).grown hg (Nat.le_refl _) (fun k hk => by cases hk)).setCell (Nat.le_refl _) _
       obtain ⟨A2, c2, hv2, hr, _⟩ := RB.of_own ho
       injection hv2 with e1 _ e3
       subst e1 e3
       clear hown hg ho))
  go_ret
  have e : (z + 1 + wn 8) = z + 1 + 8 := rfl
  rw [HE.out]
  exact ⟨A3, c3, rfl, hr3, hb2.trans (hb3.mono hb2.size)⟩

theorem info32 : (Tryz.prog.info? 195).map (·.size) = some 32 := by kernel_rfl
theorem byte_of (x : UInt32) (m : Nat) : ((x.toNat : Int) / 2 ^ m) % 256 = ((UInt8.ofNat (x.toNat / 2 ^ m % 256)).toNat : Int) := by
  rw [UInt8.toNat_ofNat']
  have e : (x.toNat : Int) / 2 ^ m = ((x.toNat / 2 ^ m : Nat) : Int) := by
    rw [Int.natCast_ediv, Int.natCast_pow]; rfl
  rw [e]
  omega
/-- The digest's first k bytes. -/
def dgs (f : Nat → UInt32) (k : Nat) : Nat → UInt8 := fun i => if i < k then UInt8.ofNat ((f (i / 4)).toNat / 2 ^ (24 - 8 * (i % 4)) % 256) else 0
theorem dgs_zero (f : Nat → UInt32) : dgs f 0 = fun _ => 0 := by funext i; simp [dgs]
theorem dgs_step (f : Nat → UInt32) (k : Nat) : putb (dgs f k) k (UInt8.ofNat ((f (k / 4)).toNat / 2 ^ (24 - 8 * (k % 4)) % 256)) = dgs f (k + 1) := by
  funext i
  unfold putb dgs
  by_cases h : i = k
  · subst h; simp
  · by_cases h2 : i < k
    · simp [h, h2, Nat.lt_succ_of_lt h2]
    · simp [h, h2, show ¬ i < k + 1 by omega]
def dgl (f : Nat → UInt32) : List UInt8 := (List.range 32).map fun i => UInt8.ofNat ((f (i / 4)).toNat / 2 ^ (24 - 8 * (i % 4)) % 256)

set_option maxRecDepth 8000 in
set_option maxHeartbeats 800000 in
theorem digest_any (b : Nat) (f : Nat → UInt32) (w : World) (h : Arr w b 8 f) :
    Calls Tryz.prog 216 #[.pointer (some ⟨b, 0, none⟩)] w fun e w' => e = .returned (.agg (bv (dgl f)).toArray) ∧ Below w.heap.size w w' := by
  have z1 := Arb.zero w 32 195
  have z2 := Arb.zero (w.alloc (.cells (List.replicate 32 (Value.int .u8 0)).toArray 195)) 32 195
  rw [show (w.alloc (.cells (List.replicate 32 (Value.int .u8 0)).toArray 195)).heap.size = w.heap.size + 1 from by simp] at z2
  have z3 := z1.below (below_a _ (.cells (List.replicate 32 (Value.int .u8 0)).toArray 195))
  have zb := below_a2 w (.cells (List.replicate 32 (Value.int .u8 0)).toArray 195) (.cells (List.replicate 32 (Value.int .u8 0)).toArray 195)
  go_enter Tryz.func216, Tryz.ntmps216
  go_wp2_with fail
  go_loopw [5] (fun i wr => ∃ k : Nat, k ≤ 32 ∧ i = .int .i64 k ∧ Arb wr (w.heap.size + 1) 32 (dgs f k) ∧ Arb wr w.heap.size 32 (fun _ => 0) ∧ Below w.heap.size w wr) (fun i _ => 32 - (intOf i).toNat)
  case atStart => exact ⟨0, Nat.zero_le _, rfl, by rw [dgs_zero]; exact z2, z3, zb⟩
  case round =>
    obtain ⟨k, hk, rfl, ha, hz, hb⟩ := hrel
    clear z1 z2 z3 zb
    by_cases hlt : k < 32
    · have hlt' : (k : Int) < 32 := by omega
      have hq : (k : Int) / 4 = ((k / 4 : Nat) : Int) := by omega
      have hq1 : k / 4 < 8 := by omega
      have hq2 : ((k / 4 : Nat) : Int) < 8 := by omega
      have hs : 24 - 8 * ((k : Int) % 4) = ((24 - 8 * (k % 4) : Nat) : Int) := by omega
      have hs2 : 24 - 8 * (k % 4) ≤ 32 := by omega
      obtain ⟨c1, _⟩ := (h.below hb) (k / 4) hq1
      obtain ⟨c2, f2⟩ := ha k hlt
      have HS := Lib.hid (dgs_step f k)
      generalize k / 4 = q at *
      generalize 24 - 8 * (k % 4) = m at *
      generalize f q = x at *
      have HB := Lib.hid (byte_of x m)
      generalize UInt8.ofNat (x.toNat / 2 ^ m % 256) = y at *
      go_wp2_with fail
      rw [HB.out]
      go_roundw
      case rel => exact ⟨k + 1, by omega, by go_num, by rw [← HS.out]; exact ha.set k y, hz.far (g_set _ _ _ _) (by simp), hb.setCell (by simp) _⟩
      case measure => simp [intOf]; omega
    · obtain rfl : k = 32 := by omega
      have hA := Lib.hid ha.range
      have hT := Lib.hid hz.there
      have hD : Hid ((List.range 32).map (dgs f 32) = dgl f) := Lib.hid (by
        unfold dgl
        apply List.map_congr_left
        intro i hi
        have : i < 32 := by simpa using hi
        simp [dgs, this])
      rw [hD.out] at hA
      have hl : (bv (dgl f)).length = 32 := by simp [bv, dgl]
      have hi : (Tryz.prog.info? 195).map (·.size) = some (bv (dgl f)).length := by rw [hl]; exact info32
      have hT2 : wr.there w.heap.size 0 (bv (dgl f)).toArray.size := by show wr.there w.heap.size 0 (bv (dgl f)).length; rw [hl]; exact hT.out
      have HI := Lib.hid hi
      have HT := Lib.hid hT2
      clear hi hT2 hT hD
      go_wp2_with (first
        | ((with_reducible refine wpList_here ?_); refine wpList_load_mid rfl 195 (.tmp 3) rfl _ 0 rfl (bv (dgl f)) (.array 32 5) hA.out Tryz.underlying195 rfl HI.out ?_)
        | ((with_reducible refine wpList_here ?_); refine wpList_store_mid rfl 195 (.tmp 2) (.tmp 23) rfl _ 0 (bv (dgl f)).toArray rfl rfl HT.out HI.out (all_oneCell_toArray (bv_one _)) ?_))
      refine bodyPost_ret (results_cell_mid rfl _ _ w.heap.size (bv (dgl f)) (.array 32 5) rfl (World.rangeAt_setCells_same _ _ _ _ (show wr.there _ 0 (bv (dgl f)).length from HT.out)) Tryz.underlying195 rfl HI.out) rfl ⟨rfl, below_setCells _ (Nat.le_refl _) _ _ _ hb⟩
end Go.Proofs.YtlcegchdkigibaaGreatDoor.LK

namespace Go.Proofs.YtlcegchdkigibaaGreatDoor.LK
set_option linter.unusedVariables false
set_option linter.unusedSimpArgs false
open Go.RowKit

theorem infoBlock : (Tryz.prog.info? 288).map (·.size) = some 64 := by kernel_rfl

/-- The key's bytes, to the first i of which n is added. -/
def xok (n : UInt8) (k : List UInt8) (i : Nat) : Nat → UInt8 := fun j => if j < i then k.getD j 0 ^^^ n else k.getD j 0
theorem xok_zero (n : UInt8) (k : List UInt8) : xok n k 0 = fun j => k.getD j 0 := by funext j; simp [xok]
theorem xok_at (n : UInt8) (k : List UInt8) (i : Nat) : xok n k i i = k.getD i 0 := by simp [xok]
theorem xok_step (n : UInt8) (k : List UInt8) (i : Nat) : putb (xok n k i) i (k.getD i 0 ^^^ n) = xok n k (i + 1) := by
  funext j
  unfold putb xok
  by_cases h : j = i
  · subst h; simp
  · by_cases h2 : j < i
    · simp [h, h2, Nat.lt_succ_of_lt h2]
    · simp [h, h2, show ¬ j < i + 1 by omega]
theorem xok_all (n : UInt8) (k : List UInt8) (h : k.length = 64) : (List.range 64).map (xok n k 64) = xo n k := by
  apply List.ext_getElem
  · simp [xo, h]
  · intro i h1 h2
    have hi : i < 64 := by simpa using h1
    simp [xok, xo, hi, h]
section
variable {w w' : World} {b n : Nat} {l : List UInt8}
/-- Bytes in a new block. -/
theorem Arb.new (w : World) (k : List UInt8) (t : TypeId) : Arb (w.alloc (.cells (bv k).toArray t)) w.heap.size k.length (fun j => k.getD j 0) := fun j hj => by
  refine ⟨?_, World.frozen?_alloc_at _ t _ j rfl⟩
  rw [cell_of_row _ w.heap.size j _ t (0, 0) (heap_alloc_new w _), List.getElem?_toArray]
  exact bv_at k j hj
theorem getD_range (l : List UInt8) : (List.range l.length).map (fun j => l.getD j 0) = l := by
  apply List.ext_getElem
  · simp
  · intro i h1 h2
    simp [h2]
theorem Arb.list (h : Arb w b n (fun j => l.getD j 0)) (hl : l.length = n) : w.rangeAt b 0 (bv l) := by
  have := h.range
  rw [← hl, getD_range] at this
  exact this
theorem Arb.rb (h : Arb w b n (fun j => l.getD j 0)) (hl : l.length = n) (hn : n ≤ 1099511627776) : RB w (some ⟨b, 0, none⟩) n n l :=
  ⟨hl, Nat.le_refl _, by unfold maxLen; omega, fun _ => ⟨b, 0, rfl, fun j hj => by rw [Nat.zero_add]; exact (h j hj).1⟩⟩
theorem Arb.of_range {f : Nat → UInt8} (h0 : Arb w b n f) (hl : l.length = n) : Arb (w.setCells b 0 (bv l)) b n (fun j => l.getD j 0) := fun j hj => by
  have h1 := World.rangeAt_setCells_same w b 0 (bv l) (by rw [bv_length, hl]; exact h0.there) j _ (bv_at l j (by omega))
  rw [Nat.zero_add] at h1
  exact ⟨h1, by rw [World.frozen?_setCells]; exact (h0 j hj).2⟩
theorem size_setCells (b : Nat) : ∀ (vs : List Value) (o : Nat) (w : World), (w.setCells b o vs).heap.size = w.heap.size
  | [], _, _ => rfl
  | v :: r, o, w => by rw [World.setCells, size_setCells b r (o + 1)]; simp [World.setCell]
end

section
variable {P : Program} {ops : Array Oper} {rest : List Oper} {o : Oper} {a : Act} {w : World} {Q : Exit → Act → World → Prop}
/-- A new variable that holds bytes as an array. -/
theorem wpList_boxA (hg : o.guard = none) (t : TypeId) (x : Operand) (ho : o.op = .box t x)
    (l : List UInt8) (n : Nat) (hl : l.length = n) (hx : a.eval x = .agg (bv l).toArray)
    (h : ∀ w', Arb w' w.heap.size n (fun j => l.getD j 0) → Below w.heap.size w w' → w'.heap.size = w.heap.size + 1 → wpList P ops Q rest (a.put o.dst (.pointer (some ⟨w.heap.size, 0, none⟩))) w') : wpList P ops Q (o :: rest) a w := by
  subst hl
  refine wpList_plain hg fun K hK => ?_
  unfold Oper.wp execOp
  simp only [ho, hx, Sem.run_bind, Instr.box, newVar, newRow, run_newObj_alloc, Sem.run_pure, Result.andThen_ok]
  exact hK _ _ (h _ (Arb.new w l t) (below_a w _) (by simp))
/-- A new variable that holds so many zeros. -/
theorem wpList_zerosA (hgd : o.guard = none) (t : TypeId) (ho : o.op = .alloc t)
    (n : Nat) (hz : (P.info? t).map (·.zero) = some (some (.agg (List.replicate n (Value.int .u8 0)).toArray))) (g : Nat) (hg : w.heap.size = g)
    (h : ∀ w', Arb w' g n (fun _ => 0) → Below w.heap.size w w' → w'.heap.size = g + 1 → wpList P ops Q rest (a.put o.dst (.pointer (some ⟨g, 0, none⟩))) w') : wpList P ops Q (o :: rest) a w := by
  subst hg
  refine wpList_plain hgd fun K hK => ?_
  cases hi : P.info? t with
  | none => simp [hi] at hz
  | some i =>
    have hz' : i.zero = some (.agg (List.replicate n (Value.int .u8 0)).toArray) := by simpa [hi] using hz
    have hrun : (execOp a.eval o).run P w = .ok (.value (.pointer (some ⟨w.heap.size, 0, none⟩))) (w.alloc (.cells (List.replicate n (Value.int .u8 0)).toArray t)) := by
      simp [execOp, ho, Instr.alloc, newVar, newRow, zeroValue, typeInfo, hi, hz', Value.cells, Result.andThen]
    unfold Oper.wp
    rw [hrun, Oper.upon_value]
    exact hK _ _ (h _ (Arb.zero w n t) (below_a w _) (by simp))
/-- A whole array of bytes, loaded. -/
theorem wpList_loadA (hgd : o.guard = none) (ty : TypeId) (x : Operand) (ho : o.op = .load ty x)
    (b n : Nat) (l : List UInt8) (hx : a.eval x = .pointer (some ⟨b, 0, none⟩)) (hA : Arb w b n (fun j => l.getD j 0)) (hl : l.length = n) (d : TypeDesc)
    (hu : P.underlying ty = some d) (hd : d.isRow = true) (hi : (P.info? ty).map (·.size) = some n)
    (h : wpList P ops Q rest (a.put o.dst (.agg (bv l).toArray)) w) : wpList P ops Q (o :: rest) a w :=
  wpList_load_mid hgd ty x ho b 0 hx (bv l) d (hA.list hl) hu hd (by rw [bv_length, hl]; exact hi) h
/-- .. and stored. -/
theorem wpList_storeA (hgd : o.guard = none) (ty : TypeId) (x y : Operand) (ho : o.op = .store ty x y)
    (b n : Nat) (f : Nat → UInt8) (l : List UInt8) (hx : a.eval x = .pointer (some ⟨b, 0, none⟩)) (hy : a.eval y = .agg (bv l).toArray) (hA : Arb w b n f) (hl : l.length = n)
    (hi : (P.info? ty).map (·.size) = some n)
    (h : ∀ w', Arb w' b n (fun j => l.getD j 0) → w.grownBy w' (some b) → w'.heap.size = w.heap.size → wpList P ops Q rest (a.put o.dst undef) w') : wpList P ops Q (o :: rest) a w := by
  refine wpList_store_mid hgd ty x y ho b 0 (bv l).toArray hx hy ?_ ?_ (all_oneCell_toArray (bv_one l)) (h _ (hA.of_range hl) (g_setCells b _ 0 w) (size_setCells b _ 0 w))
  · show w.there b 0 (bv l).length
    rw [bv_length, hl]; exact hA.there
  · show _ = some (bv l).length
    rw [bv_length, hl]; exact hi
end
/-- An array of bytes that a call answers out of its own block. -/
theorem results_A {P : Program} {fn : Func} {p : Tmp} {ty : TypeId} (h : fn.results = #[.cell p ty]) (tmps : Array Value) (w : World) (g n : Nat) (l : List UInt8) (d : TypeDesc)
    (hp : tmps.getD p undef = .pointer (some ⟨g, 0, none⟩)) (hA : Arb w g n (fun j => l.getD j 0)) (hl : l.length = n) (hu : P.underlying ty = some d) (hd : d.isRow = true) (hi : (P.info? ty).map (·.size) = some n) :
    (results fn tmps).run P w = .ok (.agg (bv l).toArray) w :=
  results_cell_mid h tmps w g (bv l) d hp (hA.list hl) hu hd (by rw [bv_length, hl]; exact hi)
theorem zero32 : (Tryz.prog.info? 195).map (·.zero) = some (some (.agg (List.replicate 32 (Value.int .u8 0)).toArray)) := by kernel_rfl
theorem zeroBlock : (Tryz.prog.info? 288).map (·.zero) = some (some (.agg (List.replicate 64 (Value.int .u8 0)).toArray)) := by kernel_rfl

set_option maxRecDepth 8000 in
set_option maxHeartbeats 800000 in
theorem added_any (k : List UInt8) (hk : k.length = 64) (n : UInt8) (w : World) :
    Calls Tryz.prog 239 #[.agg (bv k).toArray, .int .u8 (n.toNat : Int)] w fun e w' => e = .returned (.agg (bv (xo n k)).toArray) ∧ Below w.heap.size w w' := by
  have HX := Lib.hid (xok_all n k hk)
  have HXL : Hid ((xo n k).length = 64) := Lib.hid (by rw [xo_length, hk])
  go_enter Tryz.func239, Tryz.ntmps239
  go_wp2_with (first
    | ((with_reducible refine wpList_here ?_); refine wpList_boxA rfl 288 (.tmp 0) rfl k 64 hk rfl ?_; intro w1 z1 zb hsz)
    | ((with_reducible refine wpList_here ?_); refine wpList_zerosA rfl 288 rfl 64 zeroBlock (w.heap.size + 1) hsz ?_; intro w2 z2 zb2 hsz2))
  have z3 := z1.below zb2
  have zb3 := below_trans zb zb2
  clear z1 zb zb2
  go_loopw [6] (fun i wr => ∃ j : Nat, j ≤ 64 ∧ i = .int .i64 j ∧ Arb wr w.heap.size 64 (xok n k j) ∧ Arb wr (w.heap.size + 1) 64 (fun _ => 0) ∧ Below w.heap.size w wr) (fun i _ => 64 - (intOf i).toNat)
  case atStart => exact ⟨0, Nat.zero_le _, rfl, by rw [xok_zero]; exact z3, z2, zb3⟩
  case round =>
    obtain ⟨j, hj, rfl, ha, hz, hb⟩ := hrel
    clear z2 z3 zb3
    by_cases hlt : j < 64
    · have hlt' : (j : Int) < 64 := by omega
      obtain ⟨c1, f1⟩ := ha j hlt
      have HS := Lib.hid (xok_step n k j)
      rw [xok_at] at c1
      generalize k.getD j 0 = x at *
      go_wp2_with fail
      rw [b_xor]
      go_roundw
      case rel => exact ⟨j + 1, by omega, by go_num, by rw [← HS.out]; exact ha.set j _, hz.far (g_set _ _ _ _) (by simp), hb.setCell (Nat.le_refl _) _⟩
      case measure => simp [intOf]; omega
    · obtain rfl : j = 64 := by omega
      have ha2 : Arb wr w.heap.size 64 (fun j => (xo n k).getD j 0) := ha.congr (fun j hj => by rw [← HX.out]; simp [hj])
      go_wp2_with (first
        | ((with_reducible refine wpList_here ?_); refine wpList_loadA rfl 288 (.tmp 2) rfl _ 64 (xo n k) rfl ha2 HXL.out (.array 64 5) Tryz.underlying288 rfl infoBlock ?_)
        | ((with_reducible refine wpList_here ?_); refine wpList_storeA rfl 288 (.tmp 4) (.tmp 16) rfl _ 64 _ (xo n k) rfl rfl hz HXL.out infoBlock ?_; intro w5 z5 g5 _))
      refine bodyPost_ret (results_A rfl _ _ (w.heap.size + 1) 64 (xo n k) (.array 64 5) rfl z5 HXL.out Tryz.underlying288 rfl infoBlock) rfl ⟨rfl, below_g hb g5 hb.size (Nat.le_succ _)⟩
end Go.Proofs.YtlcegchdkigibaaGreatDoor.LK

namespace Go.Proofs.YtlcegchdkigibaaGreatDoor.LK
set_option linter.unusedVariables false
set_option linter.unusedSimpArgs false
open Go.RowKit

/-- What octet.Cut leaves where it cuts. -/
def CutMade (W : World) (n1 : Nat) (l1 : List UInt8) (n2 : Nat) (l2 : List UInt8) (e : Ending) (w' : World) : Prop :=
  ∃ A1 c1 A2 c2, e = .returned (.tuple #[.slice A1 n1 c1, .slice A2 n2 c2, .int .i64 0]) ∧ RB w' A1 n1 c1 l1 ∧ RB w' A2 n2 c2 l2 ∧ Below W.heap.size W w'

set_option maxHeartbeats 800000 in
theorem Cut_ok (A : Option Addr) (n c k : Nat) (l : List UInt8) (w : World) (h : RB w A n c l) (hk : k ≤ n) (ht : n ≤ 549755813888) :
    Calls Tryz.prog 293 #[.slice A n c, .int .i64 (k : Int)] w (CutMade w k (l.take k) (n - k) (l.drop k)) := by
  have hn := h.max
  have hn' := h.cap
  have hk1 : k ≤ 1099511627776 := by omega
  have hk2 : n - k ≤ 1099511627776 := by omega
  obtain ⟨A2, hrun, h2⟩ := h.from_ hk
  have h1 := h.take hk
  go_enter Tryz.func293, Tryz.ntmps293
  go_wp2
  clear h
  go_region_with (first
    | (go_at_call 213; refine (Join_one (B := A) (m := k) (d := c) (l := l.take k) ?_ (h1.below ?_) hk1).mono ?_; (first | exact cell_new _ _ _ | exact cell_new2 _ _ _ _ | exact cell_old2 _ _ _ _); (first | exact below_d (below_a _ _) | exact below_d (below_a2 _ _ _)); rintro e w1 ⟨B1, c1, rfl, hr1, hb1⟩; (first | have hbw1 := below_trans (below_d (below_a w _)) hb1 | have hbw1 := below_trans (below_d (below_a2 w _ _)) hb1); first | have hc2 := cell_later hb1 (cell_new2 _ _ (.slice A2 (n - k) (c - k)) _) | have hc2 := cell_later hb1 (cell_old2 _ _ (.slice A2 (n - k) (c - k)) _) | have hc2 := True.intro)
    | (go_at_call 213; refine (Join_one (B := A2) (m := n - k) (d := c - k) (l := l.drop k) ?_ (h2.below ?_) hk2).mono ?_; (first | exact cell_new _ _ _ | exact hc2); (first | exact hbw1 | exact below_trans hbw1 (below_a _ _)); rintro e w2 ⟨B2, c2, rfl, hr2, hb2⟩; first | (have hr3 := hr1.below hb2; have hbw2 := below_trans hbw1 hb2) | (have hr3 := (hr1.alloc _).below hb2; have hbw2 := below_trans (below_trans hbw1 (below_a _ _)) hb2)))
  all_goals
    go_wp2
    go_ret3
    exact ⟨_, _, _, _, rfl, hr3, hr2, hbw2⟩
/-- What a call of three results leaves that is refused. -/
theorem Cut_below (A : Option Addr) (n c : Nat) (k : Int) (w : World) (hk : k < 0) :
    Calls Tryz.prog 293 #[.slice A n c, .int .i64 k] w fun e w' => e = .returned (.tuple #[.slice none 0 0, .slice none 0 0, .int .i64 1]) ∧ w = w' := by
  go_enter Tryz.func293, Tryz.ntmps293
  go_wp2
  go_ret3
  exact ⟨rfl, rfl⟩

theorem Cut_above (A : Option Addr) (n c : Nat) (k : Int) (w : World) (hk : (n : Int) < k) :
    Calls Tryz.prog 293 #[.slice A n c, .int .i64 k] w fun e w' => e = .returned (.tuple #[.slice none 0 0, .slice none 0 0, .int .i64 3]) ∧ w = w' := by
  have h0 : ¬ k < 0 := by omega
  go_enter Tryz.func293, Tryz.ntmps293
  go_wp2
  go_ret3
  exact ⟨rfl, rfl⟩
end Go.Proofs.YtlcegchdkigibaaGreatDoor.LK

namespace Go.Proofs.YtlcegchdkigibaaGreatDoor.LK
set_option linter.unusedVariables false
set_option linter.unusedSimpArgs false
open Go.RowKit

theorem or_byte (x y : Nat) (hx : x ≤ 72057594037927935) (hy : y < 2 ^ 8) : bits .or .u64 ((x : Int) * 256) (y : Int) = ((256 * x + y : Nat) : Int) := by
  have h := u64_or_nat (x * 256) y (by omega) (by omega)
  rw [Int.natCast_mul] at h
  refine h.trans ?_
  have e : x * 256 ||| y = 256 * x + y := by
    rw [show x * 256 = 2 ^ 8 * x from by rw [Nat.mul_comm]]
    exact (Nat.two_pow_add_eq_or_of_lt hy x).symm
  rw [e]

/-- What octet.Take leaves where it takes. -/
def TakeMade (W : World) (x : Nat) (n2 : Nat) (l2 : List UInt8) (e : Ending) (w' : World) : Prop :=
  ∃ A2 c2, e = .returned (.tuple #[.int .u64 (x : Int), .slice A2 n2 c2, .int .i64 0]) ∧ RB w' A2 n2 c2 l2 ∧ Below W.heap.size W w'

set_option maxHeartbeats 800000 in
theorem Take_ok (A : Option Addr) (n c : Nat) (k : Int) (l : List UInt8) (w : World) (h : RB w A n c l) (hk : wn k ≤ n) (ht : n ≤ 549755813888) :
    Calls Tryz.prog 212 #[.slice A n c, .int .i64 k] w (TakeMade w (num (l.take (wn k))) (n - wn k) (l.drop (wn k))) := by
  have hlo := wn_lo k
  have hhi := wn_hi k
  go_enter Tryz.func212, Tryz.ntmps212
  go_wp2_with (first
    | (go_at_call 294; refine (width_any _ _).mono ?_; rintro e w' ⟨rfl, rfl⟩)
    | (go_at_call 293; refine (Cut_ok _ _ _ _ _ _ h hk ht).mono ?_; rintro e w1 ⟨A1, c1, A2, c2, rfl, hr1, hr2, hb1⟩))
  have hl := Lib.hid hr1.len
  have hm := hr1.max
  clear h
  generalize wn k = K at *
  generalize l.take K = d at *
  go_loop [10, 26] (fun x i => ∃ j : Nat, j ≤ K ∧ i = .int .i64 j ∧ x = .int .u64 (num (d.take j) : Nat)) (fun _ i => K - (intOf i).toNat)
  case atStart => exact ⟨0, Nat.zero_le _, rfl, rfl⟩
  case round =>
    obtain ⟨j, hj, rfl, rfl⟩ := hrel
    by_cases hlt : j < K
    · have hb := num_take_seven d j (by omega)
      have hx := (d.getD j 0).toNat_lt
      have HS := Lib.hid (num_step d j (by rw [hl.out]; exact hlt))
      obtain ⟨b, o, rfl, hc⟩ := hr1.at_ hlt
      clear hr1 hr2
      generalize num (d.take j) = x at *
      generalize (d.getD j 0).toNat = y at *
      go_wp2
      go_round
      case rel => exact ⟨j + 1, by omega, by go_num, by rw [HS.out, or_byte x y hb hx]⟩
      case measure => simp [intOf]; omega
    · obtain rfl : j = K := by omega
      have HD := Lib.hid (show d.take j = d from List.take_of_length_le (by rw [hl.out]; exact Nat.le_refl _))
      rw [HD.out]
      go_wp2
      go_ret3
      exact ⟨_, _, rfl, hr2, hb1⟩
theorem Take_few (A : Option Addr) (n c : Nat) (k : Int) (w : World) (hk : n < wn k) :
    Calls Tryz.prog 212 #[.slice A n c, .int .i64 k] w fun e w' => e = .returned (.tuple #[.int .u64 0, .slice none 0 0, .int .i64 3]) ∧ w = w' := by
  go_enter Tryz.func212, Tryz.ntmps212
  go_wp2_with (first
    | (go_at_call 294; refine (width_any _ _).mono ?_; rintro e w' ⟨rfl, rfl⟩)
    | (go_at_call 293; refine (Cut_above _ _ _ _ _ (by omega)).mono ?_; rintro e w1 ⟨rfl, rfl⟩))
  go_ret3
  exact ⟨rfl, rfl⟩

/-- Take, of a number's bytes and what is behind them. -/
theorem Take_at (A : Option Addr) (n c : Nat) (k : Int) (d l : List UInt8) (w : World) (hd : d.length = wn k) (h : RB w A (wn k + n) c (d ++ l)) (ht : n ≤ 1073741824) :
    Calls Tryz.prog 212 #[.slice A (wn k + n) c, .int .i64 k] w (TakeMade w (num d) n l) := by
  have hhi := wn_hi k
  have h1 := Take_ok A (wn k + n) c k (d ++ l) w h (by omega) (by omega)
  rw [List.take_left' hd, List.drop_left' hd, show wn k + n - wn k = n from by omega] at h1
  exact h1
end Go.Proofs.YtlcegchdkigibaaGreatDoor.LK

namespace Go.Proofs.YtlcegchdkigibaaGreatDoor.LK
set_option linter.unusedVariables false
set_option linter.unusedSimpArgs false
open Go.RowKit

set_option maxRecDepth 8000 in
theorem front_any (D : List UInt8) (hD : D.length = 32) (K : Int) (k : Nat) (hk : (K = 4 ∧ k = 4) ∨ (K = 8 ∧ k = 8)) (w : World) :
    Calls Tryz.prog 150 #[.agg (bv D).toArray, .int .i64 K] w fun e w' => e = .returned (.int .u64 (num (D.take k) : Nat)) ∧ Below w.heap.size w w' := by
  have HL := Lib.hid hD
  have w4 : wn 4 = 4 := rfl
  have w8 : wn 8 = 8 := rfl
  have HT4 := Lib.hid (show (D.take 4).take (wn 4) = D.take 4 from by rw [w4, List.take_take]; rfl)
  have HT8 := Lib.hid (show (D.take 8).take (wn 8) = D.take 8 from by rw [w8, List.take_take]; rfl)
  have hn4 := num_lt (D.take 4)
  have hn8 := num_lt (D.take 8)
  clear hn4 hn8
  rcases hk with ⟨rfl, rfl⟩ | ⟨rfl, rfl⟩
  · go_enter Tryz.func150, Tryz.ntmps150
    go_wp2_with (first
      | ((with_reducible refine wpList_here ?_); refine wpList_boxA rfl 195 (.tmp 0) rfl D 32 HL.out rfl ?_; intro w1 z1 b1 s1; have r1 := (z1.rb HL.out (by omega)).take (k := 4) (by omega); clear z1)
      | (go_at_call 212; refine (Take_ok _ 4 32 4 (D.take 4) _ r1 (by rw [w4]; exact Nat.le_refl _) (by omega)).mono ?_; rw [HT4.out]; rintro e w2 ⟨A2, c2, rfl, r2, b2⟩))
    go_ret
    exact ⟨rfl, below_trans b1 b2⟩
  · go_enter Tryz.func150, Tryz.ntmps150
    go_wp2_with (first
      | ((with_reducible refine wpList_here ?_); refine wpList_boxA rfl 195 (.tmp 0) rfl D 32 HL.out rfl ?_; intro w1 z1 b1 s1; have r1 := (z1.rb HL.out (by omega)).take (k := 8) (by omega); clear z1)
      | (go_at_call 212; refine (Take_ok _ 8 32 8 (D.take 8) _ r1 (by rw [w8]; exact Nat.le_refl _) (by omega)).mono ?_; rw [HT8.out]; rintro e w2 ⟨A2, c2, rfl, r2, b2⟩))
    go_ret
    exact ⟨rfl, below_trans b1 b2⟩

/-- The first j of some numbers, in k bytes each, one behind the other. -/
def ub (us : List Nat) (k j : Nat) : List UInt8 := (us.take j).flatMap fun u => be u k
theorem ub_step (us : List Nat) (k j : Nat) (h : j < us.length) : ub us k (j + 1) = ub us k j ++ be (us.getD j 0) k := by
  unfold ub
  rw [List.take_succ_eq_append_getElem h, List.flatMap_append]
  simp [h]
theorem ub_length (us : List Nat) (k : Nat) : ∀ j, j ≤ us.length → (ub us k j).length = j * k := by
  intro j
  induction j with
  | zero => intro _; simp [ub]
  | succ j ih => intro h; rw [ub_step us k j (by omega), List.length_append, ih (by omega), be_length, Nat.succ_mul]

/-- Numbers that are none below 0, as a row of numbers has them. -/
def un (us : List Nat) : List Int := us.map Int.ofNat
theorem un_at (us : List Nat) (j : Nat) : (un us).getD j 0 = ((us.getD j 0 : Nat) : Int) := by
  simp only [un, List.getD_eq_getElem?_getD, List.getElem?_map]
  cases us[j]? <;> rfl
theorem un_length (us : List Nat) : (un us).length = us.length := by simp [un]

set_option maxHeartbeats 800000 in
theorem put_any (K : Int) (A : Option Addr) (n c : Nat) (us : List Nat) (w : World) (h : RI .u64 w A n c (un us)) (hu : ∀ j, us.getD j 0 < 18446744073709551616) (hn : n ≤ 1000) :
    Calls Tryz.prog 152 #[.int .i64 K, .slice A n c] w (MadeRB w (n * wn K) (ub us (wn K) n)) := by
  have hl : us.length = n := by rw [← un_length]; exact h.len
  have HL := Lib.hid hl
  have hhi := wn_hi K
  have hmx := h.max
  have hcp := h.cap
  clear hl
  go_enter Tryz.func152, Tryz.ntmps152
  go_wp2_with fail
  go_loopw [5, 10] (fun v i wr => ∃ j : Nat, j ≤ n ∧ i = .int .i64 j ∧ (∃ A1 c1, v = .slice A1 (j * wn K) c1 ∧ RB wr A1 (j * wn K) c1 (ub us (wn K) j)) ∧ Below w.heap.size w wr) (fun _ i _ => n - (intOf i).toNat)
  case atStart => exact ⟨0, Nat.zero_le _, rfl, ⟨none, 0, by rw [Nat.zero_mul], by rw [Nat.zero_mul]; exact RB.nil_ w⟩, Below.refl _ _⟩
  case round =>
    obtain ⟨j, hj, rfl, ⟨A1, c1, rfl, r1⟩, hb⟩ := hrel
    by_cases hlt : j < n
    · obtain ⟨b, o, rfl, hc0⟩ := h.at_ hlt
      have hc := (hb.cell (World.block_lt_of_cell? w _ hc0)).trans hc0
      rw [un_at] at hc
      have HS := Lib.hid (ub_step us (wn K) j (by rw [HL.out]; exact hlt))
      have HM := Lib.hid (Nat.succ_mul j (wn K))
      have ha := hu j
      have hjk : j * wn K ≤ 8000 := Nat.le_trans (Nat.mul_le_mul (show j ≤ 1000 by omega) hhi) (by decide)
      clear h hc0 hu
      generalize us.getD j 0 = a at *
      generalize j * wn K = q at *
      generalize ub us (wn K) j = x at *
      go_wp2_with (go_at_call 217; refine (Put_any A1 q c1 a K x wr r1 ha (by omega)).mono ?_; rintro e w2 ⟨A2, c2, rfl, r2, b2⟩)
      have hb2 := below_trans hb b2
      clear hb b2 r1 hc
      go_roundw
      case rel => exact ⟨j + 1, by omega, by go_num, ⟨A2, c2, by rw [show (j + 1) * wn K = q + wn K from HM.out], by rw [show (j + 1) * wn K = q + wn K from HM.out, HS.out]; exact r2⟩, hb2⟩
      case measure => simp [intOf]; omega
    · obtain rfl : j = n := by omega
      go_wp2_with fail
      go_ret
      exact ⟨A1, c1, rfl, r1, hb⟩
theorem ub_one (a k : Nat) : ub [a] k 1 = be a k := by simp [ub]
theorem ub_two (a b k : Nat) : ub [a, b] k 2 = be a k ++ be b k := by simp [ub]
/-- put, of one number, of two, in a new list. -/
theorem put_one {a k : Nat} {K : Int} {w : World} {t : TypeId} {g : Nat} (hg : g = w.heap.size) (ha : a < 18446744073709551616) (hk : wn K = k) :
    Calls Tryz.prog 152 #[.int .i64 K, .slice (some ⟨g, 0, none⟩) 1 1] (w.alloc (.cells #[.int .u64 (a : Int)] t)) (MadeRB w k (be a k)) := by
  subst hg hk
  have := put_any K _ 1 1 [a] _ (RI.lit .u64 w [(a : Int)] t (by unfold maxLen; simp)) (by intro j; match j with | 0 => exact ha | j + 1 => simp) (by omega)
  rw [ub_one, Nat.one_mul] at this
  exact this.mono fun e w' ⟨A, c, he, hr, hb⟩ => ⟨A, c, he, hr, below_trans (below_a w _) hb⟩
theorem put_two {a b k : Nat} {K : Int} {w : World} {t : TypeId} {g : Nat} (hg : g = w.heap.size) (ha : a < 18446744073709551616) (hb : b < 18446744073709551616) (hk : wn K = k) :
    Calls Tryz.prog 152 #[.int .i64 K, .slice (some ⟨g, 0, none⟩) 2 2] (w.alloc (.cells #[.int .u64 (a : Int), .int .u64 (b : Int)] t)) (MadeRB w (2 * k) (be a k ++ be b k)) := by
  subst hg hk
  have := put_any K _ 2 2 [a, b] _ (RI.lit .u64 w [(a : Int), (b : Int)] t (by unfold maxLen; simp)) (by intro j; match j with | 0 => exact ha | 1 => exact hb | j + 2 => simp) (by omega)
  rw [ub_two] at this
  exact this.mono fun e w' ⟨A, c, he, hr, hb⟩ => ⟨A, c, he, hr, below_trans (below_a w _) hb⟩
end Go.Proofs.YtlcegchdkigibaaGreatDoor.LK

namespace Go.Proofs.YtlcegchdkigibaaGreatDoor.LK
set_option linter.unusedVariables false
set_option linter.unusedSimpArgs false

/-- The first four bytes of a key's digest; the first eight of what proves two keys. -/
def kt (k : Nat) : Nat := num ((dg (be k 8)).take 4)
def kp (own other nonce back : Nat) : Nat := num ((hm (be own 8 ++ be other 8) (be nonce 4 ++ be back 4)).take 8)
theorem kt_lt (k : Nat) : kt k < 4294967296 := by
  have h := num_lt ((dg (be k 8)).take 4)
  rw [List.length_take, dg_length] at h
  exact h
theorem kp_lt (own other nonce back : Nat) : kp own other nonce back < 18446744073709551616 := by
  have h := num_lt ((hm (be own 8 ++ be other 8) (be nonce 4 ++ be back 4)).take 8)
  rw [List.length_take, hm_length] at h
  exact h
set_option maxRecDepth 100000 in
theorem kt_zero : kt 0 = 2941612277 := by
  unfold kt
  have e : (dg [0, 0, 0, 0, 0, 0, 0, 0]).take 4 = [175, 85, 112, 245] := by decide +kernel
  have e0 : be 0 8 = [0, 0, 0, 0, 0, 0, 0, 0] := by decide +kernel
  rw [e0, e]
  decide +kernel
end Go.Proofs.YtlcegchdkigibaaGreatDoor.LK

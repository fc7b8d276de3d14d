/- The contracts of sum.fold and sum.Of. Conditions: the number is one of 64 bits; the pieces hold bytes, at most 2^40 of them.
The contracts of sum.Put and sum.Good. Condition: a slice that holds bytes, at most 2^38 of them.
The contract of segment.Put: a right segment's bytes, or an error. Conditions: the segment and the table of widths stand.
Layer 7's mathematics, second part: bytes that tell fields tell what these told; an option is right just if it is what its own bytes tell. No condition.
The contract of the document's own number of some bytes. Condition: a slice of at most eight bytes.
The contract of the document's own width. No condition.
The contract of the document's own way to put a number in bytes: what it answers lies in memory of its own. Condition: the number is one of 64 bits. -/
import Derived.Test.YtbbpemndkphgeaaDoorMg3
import Derived.Test.YtbbpemndkphgeaaDoorMg9
import Derived.Laws.BitsAllLaws
import Derived.Test.YtbbpemndkphgeaaDoorMg4
import Derived.Test.YtbbpemndkphgeaaDoorMg8
import Derived.Test.YtbbpemndkphgeaaDoorMg1
namespace Go.Proofs.YtbbpemndkphgeaaDoor
set_option linter.unusedSimpArgs false
set_option linter.unusedVariables false
open Go.RowKit

theorem and_low (x : Nat) (h : x < 18446744073709551616) : bits .and .u64 (x : Int) 65535 = ((x % 65536 : Nat) : Int) := by
  have h1 := u64_and_nat x 65535 h (by omega)
  refine h1.trans ?_
  rw [show (65535 : Nat) = 2 ^ 16 - 1 from rfl, Nat.and_two_pow_sub_one_eq_mod]

set_option maxHeartbeats 400000 in
theorem fold_any (x : Nat) (w : World) (hx : x < 18446744073709551616) :
    Calls Tryd.prog 59 #[.int .u64 (x : Int)] w fun e w' => e = .returned (.int .u16 (fo x : Nat)) ∧ w = w' := by
  go_enter Tryd.func59, Tryd.ntmps59
  go_wp2_with fail
  go_loop [0] (fun t => ∃ y : Nat, y < 18446744073709551616 ∧ fo y = fo x ∧ t = .int .u64 (y : Int)) (fun t => (intOf t).toNat)
  case atStart => exact ⟨x, hx, rfl, rfl⟩
  case round =>
    obtain ⟨y, hy, hf, rfl⟩ := hrel
    have HF := Lib.hid hf
    have hb := and_low y hy
    have hsm := fo_small y
    have hst := fo_step y
    have HB := Lib.hid hb
    have HS := Lib.hid hsm
    have HT := Lib.hid hst
    clear hf hb hsm hst
    by_cases hlt : 65535 < y
    · go_wp2
      go_round
      case rel => exact ⟨y / 65536 + y % 65536, by omega, by rw [HT.out hlt]; exact HF.out, by rw [HB.out, IntWalk.u64_in _ (by omega)]; go_num⟩
      case measure => rw [HB.out, IntWalk.u64_in _ (by omega)]; simp [intOf]; omega
    · have H1 := Lib.hid (HF.out.symm.trans (HS.out (by omega)))
      go_wp2
      go_ret
      exact ⟨by rw [H1.out]; rfl, rfl⟩

theorem xor_all (x : Nat) (h : x < 65536) : 65535 ^^^ x = 65535 - x := by
  apply Nat.eq_of_testBit_eq
  intro i
  rw [Nat.testBit_xor, show (65535 : Nat) = 2 ^ 16 - 1 from rfl, Nat.testBit_two_pow_sub_one, show 2 ^ 16 - 1 - x = 2 ^ 16 - (x + 1) from by omega, Nat.testBit_two_pow_sub_succ h]
  by_cases hi : i < 16
  · simp [hi]
  · have : x.testBit i = false := Nat.testBit_lt_two_pow (Nat.lt_of_lt_of_le h (Nat.pow_le_pow_right (n := 2) (by decide) (by omega : 16 ≤ i)))
    simp [hi, this]
theorem not_fo (x : Nat) : bits .xor .u16 IntKind.u16.max ((fo x : Nat) : Int) = ((65535 - fo x : Nat) : Int) := by
  have h := fo_le x
  have h1 := u16_xor_nat 65535 (fo x) (by omega) (by omega)
  refine (show bits .xor .u16 IntKind.u16.max ((fo x : Nat) : Int) = bits .xor .u16 ((65535 : Nat) : Int) ((fo x : Nat) : Int) from rfl).trans (h1.trans ?_)
  rw [xor_all _ (by omega)]

/-- The sum of the first k pieces and j bytes more. -/
def part (ps : List (List UInt8)) (k j : Nat) : List UInt8 := fl ps k ++ (ps.getD k []).take j
theorem part_zero (ps : List (List UInt8)) (k : Nat) : part ps k 0 = fl ps k := by simp [part]
theorem part_length (ps : List (List UInt8)) (k j m : Nat) (hm : (ps.getD k []).length = m) (h : j ≤ m) : (part ps k j).length = tl ps k + j := by
  unfold part tl
  rw [List.length_append, List.length_take]
  omega
theorem part_step (ps : List (List UInt8)) (k j m : Nat) (hm : (ps.getD k []).length = m) (h : j < m) : part ps k (j + 1) = part ps k j ++ [(ps.getD k []).getD j 0] := by
  unfold part
  rw [take_snoc _ _ (by omega), List.append_assoc]
theorem part_all (ps : List (List UInt8)) (k m : Nat) (hk : k < ps.length) (hm : (ps.getD k []).length = m) : part ps k m = fl ps (k + 1) := by
  unfold part
  rw [fl_step ps k hk, List.take_of_length_le (by omega)]

/-- The sum so far, and whether the next byte has the higher place. -/
def su (ps : List (List UInt8)) (k j : Nat) : Nat := sm true (part ps k j)
def hi (ps : List (List UInt8)) (k j : Nat) : Bool := ev (part ps k j).length
theorem su_le (ps : List (List UInt8)) (k j m : Nat) (hm : (ps.getD k []).length = m) (h : j ≤ m) : su ps k j ≤ 65280 * (tl ps k + j) := by
  have := sm_le true (part ps k j)
  rw [part_length ps k j m hm h] at this
  exact this
theorem su_high (ps : List (List UInt8)) (k j m : Nat) (hm : (ps.getD k []).length = m) (h : j < m) (hh : hi ps k j = true) : su ps k (j + 1) = su ps k j + 256 * ((ps.getD k []).getD j 0).toNat := by
  unfold su hi at *
  rw [part_step ps k j m hm h, sm_snoc, hh]
  rfl
theorem su_low (ps : List (List UInt8)) (k j m : Nat) (hm : (ps.getD k []).length = m) (h : j < m) (hh : hi ps k j = false) : su ps k (j + 1) = su ps k j + ((ps.getD k []).getD j 0).toNat := by
  unfold su hi at *
  rw [part_step ps k j m hm h, sm_snoc, hh]
  rfl
theorem hi_step (ps : List (List UInt8)) (k j m : Nat) (hm : (ps.getD k []).length = m) (h : j < m) : hi ps k (j + 1) = !hi ps k j := by
  unfold hi
  rw [part_step ps k j m hm h, List.length_append, List.length_singleton, ev_succ]
theorem su_next (ps : List (List UInt8)) (k m : Nat) (hk : k < ps.length) (hm : (ps.getD k []).length = m) : su ps k m = su ps (k + 1) 0 ∧ hi ps k m = hi ps (k + 1) 0 := by
  unfold su hi
  rw [part_all ps k m hk hm, part_zero]
  exact ⟨rfl, rfl⟩

set_option maxHeartbeats 800000 in
theorem Of_any (A : Option Addr) (n c : Nat) (ps : List (List UInt8)) (w : World) (h : Parts w A n c ps) (ht : tl ps n ≤ 1099511627776) :
    Calls Tryd.prog 40 #[.slice A n c] w fun e w' => e = .returned (.int .u16 (of (fl ps n) : Nat)) ∧ w = w' := by
  have hl := Lib.hid h.len
  have hn := h.max
  have hn' := h.cap
  go_enter Tryd.func40, Tryd.ntmps40
  go_wp2_with fail
  go_loop [3, 4, 11] (fun x b i => ∃ k : Nat, k ≤ n ∧ i = .int .i64 k ∧ x = .int .u64 (su ps k 0 : Nat) ∧ b = .bool (hi ps k 0)) (fun _ _ i => n - (intOf i).toNat)
  case atStart => exact ⟨0, Nat.zero_le _, rfl, rfl, rfl⟩
  case round =>
    obtain ⟨k, hk, rfl, rfl, rfl⟩ := hrel
    by_cases hlt : k < n
    · have hT := Nat.le_trans (tl_le ps (k + 1) n hlt) ht
      have hS := tl_step ps k (by rw [hl.out]; exact hlt)
      obtain ⟨b, o, B, m, d, rfl, hc, hr⟩ := h.at_ hlt
      have hm := hr.len
      have HN := Lib.hid (su_next ps k m (by rw [hl.out]; exact hlt) hm)
      rw [hm] at hS
      have HM := Lib.hid hm
      rw [hS] at hT
      clear hS hm
      have hrm := hr.max
      have hrc := hr.cap
      go_wp2_with fail
      go_loop [3, 4, 17] (fun x b i => ∃ j : Nat, j ≤ m ∧ i = .int .i64 j ∧ x = .int .u64 (su ps k j : Nat) ∧ b = .bool (hi ps k j)) (fun _ _ i => m - (intOf i).toNat)
      case atStart => exact ⟨0, Nat.zero_le _, rfl, rfl, rfl⟩
      case round =>
        obtain ⟨j, hj, rfl, rfl, rfl⟩ := hrel
        by_cases hjm : j < m
        · have hle := su_le ps k j m HM.out hj
          have HH := Lib.hid (su_high ps k j m HM.out hjm)
          have HL := Lib.hid (su_low ps k j m HM.out hjm)
          have HE := Lib.hid (hi_step ps k j m HM.out hjm)
          obtain ⟨b', o', rfl, hc'⟩ := hr.at_ hjm
          have hx := ((ps.getD k []).getD j 0).toNat_lt
          clear h hr
          generalize ((ps.getD k []).getD j 0).toNat = y at *
          generalize su ps k j = x at *
          cases hb : hi ps k j with
          | true =>
            rw [hb] at HE HH
            clear hb HL
            go_wp2
            go_round
            case rel => exact ⟨j + 1, by omega, by go_num, by rw [HH.out rfl]; go_num, by rw [HE.out]; rfl⟩
            case measure => simp [intOf]; omega
          | false =>
            rw [hb] at HE HL
            clear hb HH
            go_wp2
            go_round
            case rel => exact ⟨j + 1, by omega, by go_num, by rw [HL.out rfl]; go_num, by rw [HE.out]; rfl⟩
            case measure => simp [intOf]; omega
        · obtain rfl : j = m := by omega
          go_wp2
          go_round
          case rel => exact ⟨k + 1, by omega, by go_num, by rw [HN.out.1], by rw [HN.out.2]⟩
          case measure => simp [intOf]; omega
    · obtain rfl : k = n := by omega
      have hle := su_le ps k 0 _ rfl (Nat.zero_le _)
      have HF := Lib.hid (show su ps k 0 = sm true (fl ps k) by unfold su; rw [part_zero])
      have hx : su ps k 0 < 18446744073709551616 := by omega
      have hsg : IntKind.u16.signed = false := rfl
      rw [HF.out] at hx hle ⊢
      go_wp2_with (go_at_call 59; refine (fold_any _ _ hx).mono ?_; rintro e w' ⟨rfl, rfl⟩)
      go_ret
      exact ⟨by unfold of; rw [← not_fo]; rfl, rfl⟩
end Go.Proofs.YtbbpemndkphgeaaDoor

namespace Go.Proofs.YtbbpemndkphgeaaDoor
set_option linter.unusedSimpArgs false
set_option linter.unusedVariables false
open Go.RowKit

/-- The sum of one piece, in a slice that the caller has just made. -/
theorem Of_one {A : Option Addr} {n c g : Nat} {l : List UInt8} {w : World} {t : TypeId} (hg : g = w.heap.size) (h : RB w A n c l) (hn : n ≤ 1099511627776) :
    Calls Tryd.prog 40 #[.slice (some ⟨g, 0, none⟩) 1 1] (w.alloc (.cells #[.slice A n c] t)) fun e w' => e = .returned (.int .u16 (of l : Nat)) ∧ w.alloc (.cells #[.slice A n c] t) = w' := by
  subst hg
  have e1 : fl [l] 1 = l := by simp [fl]
  have e2 : tl [l] 1 = n := by rw [tl, e1, h.len]
  have := Of_any _ 1 1 [l] _ (Parts.one (cell_new w _ t) (h.alloc (.cells #[.slice A n c] t))) (by rw [e2]; exact hn)
  rw [e1] at this
  exact this

theorem Put_sum (a : Nat) (w : World) (ha : a ≤ 65535) : Calls Tryd.prog 39 #[.slice none 0 0, .int .u64 (a : Int), .int .i64 2] w (MadeRB w 2 (be a 2)) :=
  Put_any none 0 0 a 2 [] w (RB.nil_ w) (by omega) (by decide)

set_option maxHeartbeats 800000 in
theorem SPut_any (A : Option Addr) (n c m : Nat) (l : List UInt8) (w : World) (h : RB w A n c l) (ht : n ≤ 274877906944) (hm : m = n + n % 2 + 2) :
    Calls Tryd.prog 20 #[.slice A n c] w (OwnMade w m (sput l)) := by
  have hl := h.len
  have hn := h.max
  have hn' := h.cap
  have HL := Lib.hid hl
  have hob := of_le l
  have HM := Lib.hid hm
  clear hl hm
  rcases Nat.mod_two_eq_zero_or_one n with h2 | h2
  · have HP : Hid (sput l = l ++ [] ++ be (of l) 2) := Lib.hid (by unfold sput pad; rw [HL.out, h2]; rfl)
    have hmod : (n : Int) % 2 = 0 := by omega
    have hmk : ∀ w, (Instr.makeSlice 24 (.int .i64 0) (.int .i64 0)).run Tryd.prog w = .ok (.slice (some ⟨w.heap.size, 0, none⟩) 0 0) (w.alloc (.cells #[] 5)) := fun _ => by kernel_rfl
    have H2 := Lib.hid h2
    clear h2
    go_enter Tryd.func20, Tryd.ntmps20
    go_wp2_with fail
    refine (Of_one (by simp) (h.alloc _) (by omega)).mono ?_
    rintro e w' ⟨rfl, rfl⟩
    generalize of l = s at *
    go_wp2_with fail
    refine (Put_sum s _ hob).mono ?_
    rintro e w2 ⟨A2, c2, rfl, r2, b2⟩
    have r1 : RB w2 (some ⟨w.heap.size, 0, none⟩) 0 0 [] := RB.zero w2 _ (Nat.zero_le _)
    have r0 := ((h.alloc _).alloc _).below b2
    have b02 := below_trans (below_a2 w _ _) b2
    clear h b2
    go_wp2_with fail
    refine (Join_three rfl r0 r1 r2 (by omega)).mono ?_
    rintro e w3 ⟨A3, c3, rfl, r3, o3, b3⟩
    go_wp2
    go_ret
    have e : n + 0 + 2 = m := by have := HM.out; have := H2.out; omega
    rw [← HP.out, e] at r3 o3
    exact ⟨A3, c3, by rw [← e]; rfl, r3, own_mono o3 (below_trans b02 (below_a w2 _)).size, below_trans (below_trans b02 (below_a w2 _)) b3⟩
  · have HP : Hid (sput l = l ++ [0] ++ be (of l) 2) := Lib.hid (by unfold sput pad; rw [HL.out, h2]; rfl)
    have hmod : (n : Int) % 2 = 1 := by omega
    have hmk : ∀ w, (Instr.makeSlice 24 (.int .i64 1) (.int .i64 1)).run Tryd.prog w = .ok (.slice (some ⟨w.heap.size, 0, none⟩) 1 1) (w.alloc (.cells #[.int .u8 0] 5)) := fun _ => by kernel_rfl
    have H2 := Lib.hid h2
    clear h2
    go_enter Tryd.func20, Tryd.ntmps20
    go_wp2_with fail
    refine (Of_one (by simp) (h.alloc _) (by omega)).mono ?_
    rintro e w' ⟨rfl, rfl⟩
    generalize of l = s at *
    go_wp2_with fail
    refine (Put_sum s _ hob).mono ?_
    rintro e w2 ⟨A2, c2, rfl, r2, b2⟩
    have r1 : RB w2 (some ⟨w.heap.size, 0, none⟩) 1 1 [0] := ((RB.lit1 w 0 0 _ rfl).alloc _).below b2
    have r0 := ((h.alloc _).alloc _).below b2
    have b02 := below_trans (below_a2 w _ _) b2
    clear h b2
    go_wp2_with fail
    refine (Join_three rfl r0 r1 r2 (by omega)).mono ?_
    rintro e w3 ⟨A3, c3, rfl, r3, o3, b3⟩
    go_wp2
    go_ret
    have e : n + 1 + 2 = m := by have := HM.out; have := H2.out; omega
    rw [← HP.out, e] at r3 o3
    exact ⟨A3, c3, by rw [← e]; rfl, r3, own_mono o3 (below_trans b02 (below_a w2 _)).size, below_trans (below_trans b02 (below_a w2 _)) b3⟩

set_option maxHeartbeats 800000 in
theorem Good_any (A : Option Addr) (n c : Nat) (l : List UInt8) (w : World) (h : RB w A n c l) (ht : n ≤ 1099511627776) :
    Calls Tryd.prog 27 #[.slice A n c] w fun e w' => e = .returned (.bool (sgood l)) ∧ Below w.heap.size w w' := by
  have hl := h.len
  have hn := h.max
  have hn' := h.cap
  have HL := Lib.hid hl
  clear hl
  by_cases h1 : n < 2
  · have HG : Hid (sgood l = false) := Lib.hid (by unfold sgood; rw [HL.out, decide_eq_false (by omega)]; rfl)
    have hd : ¬ (2 : Int) ≤ n := by omega
    go_enter Tryd.func27, Tryd.ntmps27
    go_wp2
    go_ret
    exact ⟨by rw [HG.out]; rfl, Below.refl _ _⟩
  · rcases Nat.mod_two_eq_zero_or_one n with h2 | h2
    · have HG : Hid (sgood l = decide (of l = 0)) := Lib.hid (by unfold sgood; rw [HL.out, decide_eq_true (by omega), decide_eq_true h2]; rfl)
      have hd : (2 : Int) ≤ n := by omega
      have hmod : (n : Int) % 2 = 0 := by omega
      clear h2
      go_enter Tryd.func27, Tryd.ntmps27
      go_wp2_with fail
      refine (Of_one (by simp) h (by omega)).mono ?_
      rintro e w' ⟨rfl, rfl⟩
      have hob := of_le l
      by_cases h0 : of l = 0
      · have HD : Hid (sgood l = true) := Lib.hid (by rw [HG.out]; exact decide_eq_true h0)
        rw [h0]
        clear h0 HG
        go_wp2
        go_ret
        exact ⟨by rw [HD.out]; rfl, below_a w _⟩
      · have HD : Hid (sgood l = false) := Lib.hid (by rw [HG.out]; exact decide_eq_false h0)
        generalize of l = s at *
        have hd0 : ((s : Int) == 0) = false := by rw [beq_eq_false_iff_ne]; omega
        clear h0 HG
        go_wp2
        go_ret
        exact ⟨by rw [HD.out]; rfl, below_a w _⟩
    · have HG : Hid (sgood l = false) := Lib.hid (by unfold sgood; rw [HL.out, decide_eq_true (by omega), decide_eq_false (by omega)]; rfl)
      have hd : (2 : Int) ≤ n := by omega
      have hmod : (n : Int) % 2 = 1 := by omega
      clear h2
      go_enter Tryd.func27, Tryd.ntmps27
      go_wp2
      go_ret
      exact ⟨by rw [HG.out]; rfl, Below.refl _ _⟩
end Go.Proofs.YtbbpemndkphgeaaDoor

namespace Go.Proofs.YtbbpemndkphgeaaDoor
set_option linter.unusedVariables false
set_option linter.unusedSimpArgs false
open Go.RowKit

/-- A segment's bytes, ahead of what makes them even; and all of them. -/
def sby (s : Seg) : List UInt8 := hby s.head 10 ++ obs s.os ++ s.ds
def sbs (s : Seg) : List UInt8 := sput (sby s)
theorem head_lt {w : World} {s : Seg} (h : SG w s) : ∀ x ∈ s.head, x < 18446744073709551616 := by
  have h1 := h.seq
  have h2 := h.ack
  have h3 := h.opts.cap
  have h4 := h.opts.max
  have h5 := h.data.cap
  have h6 := h.data.max
  have h7 := flN_lt s.syn s.acks s.fin s.rst
  have g1 := u64_lt s.src
  have g2 := u64_lt s.dst
  have g3 := u64_lt s.sport
  have g4 := u64_lt s.dport
  have g5 := u64_lt s.win
  intro x hx
  simp only [Seg.head, List.mem_cons, List.not_mem_nil, or_false] at hx
  rcases hx with rfl | rfl | rfl | rfl | rfl | rfl | rfl | rfl | rfl | rfl <;> omega
theorem sby_length {w : World} {s : Seg} (h : SG w s) : (sby s).length = 19 + (obs s.os).length + s.dn := by
  unfold sby
  rw [List.length_append, List.length_append, hby_length _ 10 (Nat.le_refl _), h.data.len]
  rfl
theorem sbs_length {w : World} {s : Seg} (h : SG w s) : (sbs s).length = 19 + (obs s.os).length + s.dn + (19 + (obs s.os).length + s.dn) % 2 + 2 := by
  unfold sbs
  rw [sput_length, sby_length h]
theorem right_few {s : Seg} (h : rightS s = true) : s.on ≤ 4 ∧ s.dn ≤ 8 ∧ s.os.all rightB = true := by
  unfold rightS at h
  simp only [Bool.and_eq_true, decide_eq_true_eq] at h
  exact ⟨h.1.1.2, h.1.2, h.2⟩
/-- What Put leaves. -/
def SPutMade (W : World) (s : Seg) (e : Ending) (w' : World) : Prop :=
  (rightS s = true → ∃ A c, e = .returned (.tuple #[.slice A (sbs s).length c, .int .i64 0]) ∧ RB w' A (sbs s).length c (sbs s) ∧ w'.ownsRow W.heap.size 5 1 (.slice A (sbs s).length c) (sbs s).length (bv (sbs s))) ∧
  (rightS s = false → e = .returned (.tuple #[.slice none 0 0, .int .i64 1])) ∧ Below W.heap.size W w'
/-- What stands while a segment is put. -/
def Pst (w W : World) (s : Seg) (A : Option Addr) (n c : Nat) : Prop := Own W w.heap.size s.vals ∧ SG W s ∧ Tab W ∧ RB W A n c (obs s.os) ∧ Below w.heap.size w W
theorem Pst.keep {w W W' : World} {s : Seg} {A : Option Addr} {n c : Nat} (h : Pst w W s A n c) (hb : Below W.heap.size W W') : Pst w W' s A n c :=
  ⟨h.1.below hb, h.2.1.below hb, h.2.2.1.below hb, h.2.2.2.1.below hb, below_trans h.2.2.2.2 hb⟩

set_option maxRecDepth 8000 in
set_option maxHeartbeats 1600000 in
theorem SegPut_bad (s : Seg) (w : World) (h : SG w s) (hr : rightS s = false) :
    Calls Tryd.prog 9 #[.agg s.vals.toArray] w (SPutMade w s) := by
  have HR := Lib.hid (fun W hW => SRight_any s W hW)
  rw [hr] at HR
  have HRS := Lib.hid hr
  clear hr
  go_enter Tryd.func9, Tryd.ntmps9
  go_wp2_with (first
    | ((with_reducible refine wpList_here ?_); refine wpList_boxV (o := ⟨some 1, _, _, _, _, _⟩) rfl 26 (.tmp 0) rfl s.vals rfl _ rfl ?_; intro w1 z1 b1 s1)
    | ((with_reducible refine wpList_here ?_); refine wpList_loadV (o := ⟨some 6, _, _, _, _, _⟩) rfl 26 (.tmp 1) rfl _ _ s.vals rfl z1.range _ Tryd.underlying26 rfl infoSeg ?_))
  refine (HR.out _ (h.below b1)).mono ?_
  rintro e w2 ⟨rfl, b2⟩
  go_wp2_with fail
  go_ret2
  exact ⟨fun hc => (by rw [HRS.out] at hc; cases hc), fun _ => rfl, below_trans b1 b2⟩

set_option maxRecDepth 8000 in
set_option maxHeartbeats 3200000 in
theorem SegPut_ok (s : Seg) (w : World) (h : SG w s) (hT : Tab w) (hr : rightS s = true) :
    Calls Tryd.prog 9 #[.agg s.vals.toArray] w (SPutMade w s) := by
  obtain ⟨h4, h8, hall⟩ := right_few hr
  have HR := Lib.hid (fun W hW => SRight_any s W hW)
  rw [hr] at HR
  have HRS := Lib.hid hr
  have HALL := Lib.hid hall
  have HB := Lib.hid (head_lt h)
  have HPU := Lib.hid (fun W hW => Puts_any s.oA s.on s.oc s.os W hW (by omega))
  have HM := Lib.hid (sbs_length h)
  have hle := obs_le s.os
  rw [h.opts.len] at hle
  clear hr hall
  go_enter Tryd.func9, Tryd.ntmps9
  go_wp2_with (first
    | ((with_reducible refine wpList_here ?_); refine wpList_boxV (o := ⟨some 1, _, _, _, _, _⟩) rfl 26 (.tmp 0) rfl s.vals rfl _ rfl ?_; intro w1 z1 b1 s1)
    | ((with_reducible refine wpList_here ?_); refine wpList_loadV (o := ⟨some 6, _, _, _, _, _⟩) rfl 26 (.tmp 1) rfl _ _ s.vals rfl z1.range _ Tryd.underlying26 rfl infoSeg ?_))
  refine (HR.out _ (h.below b1)).mono ?_
  rintro e w2 ⟨rfl, b2⟩
  have z2 := z1.below b2
  have b3 := below_trans b1 b2
  have h3 := h.below b3
  have t3 := hT.below b3
  have k11 := z2.cels.c11
  clear z1 b1 b2 s1 h hT
  go_wp2_with fail
  refine (HPU.out _ h3.opts).mono ?_
  rintro e w4 ⟨p4, _, b4⟩
  obtain ⟨A4, c4, rfl, r4⟩ := p4 HALL.out
  have s4 : Pst w w4 s A4 (obs s.os).length c4 := ⟨z2.below b4, h3.below b4, t3.below b4, r4, below_trans b3 b4⟩
  clear p4 z2 b3 h3 t3 k11 b4 r4
  generalize (obs s.os).length = n4 at *
  go_wp2_with fail
  have s5 := Pst.keep s4 (Below.refl _ _).drew
  refine wp_region_noPanic ?_
  refine wp_region_held_drew (S := fun W => Pst w W s A4 n4 c4) (by kernel_rfl) s5 (fun _ => ?_)
  refine held_take (i := 0) (v := .agg s.vals.toArray) (some 18) rfl rfl (by kernel_rfl) (by kernel_rfl) (by kernel_rfl) (fun _ _ _ h => h) (yieldsIf_load_mid (by rfl) 26 (.tmp 1) rfl w.heap.size 0 rfl s.vals _ (fun W hW => hW.1.range) Tryd.underlying26 rfl infoSeg) s5 ?_
  simp only [Act.put, List.setIfInBounds_toArray, List.set_cons_zero, List.set_cons_succ]
  refine held_take (i := 3) (v := .slice A4 n4 c4) (some 21) rfl rfl (by kernel_rfl) (by kernel_rfl) (by kernel_rfl) (fun _ _ _ h => h) (Or.inl ⟨by rfl, fun W hW => by go_simp⟩) s5 ?_
  simp only [Act.put, List.setIfInBounds_toArray, List.set_cons_zero, List.set_cons_succ]
  refine held_take (i := 4) (v := .pointer (some ⟨w.heap.size, 12, none⟩)) (some 22) rfl rfl (by kernel_rfl) (by kernel_rfl) (by kernel_rfl) (fun _ _ _ h => h) (Or.inl ⟨by rfl, fun W hW => by go_simp⟩) s5 ?_
  simp only [Act.put, List.setIfInBounds_toArray, List.set_cons_zero, List.set_cons_succ]
  refine held_take (i := 5) (v := .slice s.dA s.dn s.dc) (some 23) rfl rfl (by kernel_rfl) (by kernel_rfl) (by kernel_rfl) (fun _ _ _ h => h) (Or.inl ⟨by rfl, fun W hW => by have hc := hW.1.cels.c12; go_simp⟩) s5 ?_
  simp only [Act.put, List.setIfInBounds_toArray, List.set_cons_zero, List.set_cons_succ]
  refine wpAnyH_ready (rs := [1]) (by kernel_rfl) (by simp) ?_
  refine AllReadyH.cons rfl (fun K hK => ?_) AllReadyH.nil
  go_simp
  refine (headOf_any s _ s5.2.1).mono ?_
  rintro e w6 ⟨rfl, b6⟩
  have s6 := Pst.keep s5 b6
  dsimp only
  refine hK.out _ _ s6 (fun _ => ?_)
  clear hK
  try simp only [Act.put, List.setIfInBounds_toArray, List.set_cons_zero, List.set_cons_succ]
  refine wpAnyH_ready (rs := [2]) (by kernel_rfl) (by simp) ?_
  refine AllReadyH.cons rfl (fun K hK => ?_) AllReadyH.nil
  go_simp
  refine (bytes_any s.head _ rfl HB.out s6.2.2.1).mono ?_
  rintro e w7 ⟨A7, c7, rfl, r7, _, b7⟩
  have s7 := Pst.keep s6 b7
  dsimp only
  refine hK.out _ _ s7 (fun _ => ?_)
  clear hK
  try simp only [Act.put, List.setIfInBounds_toArray, List.set_cons_zero, List.set_cons_succ]
  refine wpAnyH_ready (rs := [6]) (by kernel_rfl) (by simp) ?_
  refine AllReadyH.cons rfl (fun K hK => ?_) AllReadyH.nil
  go_simp
  have s8 : Pst w (w7.alloc (.cells #[.slice A7 19 c7, .slice A4 n4 c4, .slice s.dA s.dn s.dc] 24)) s A4 n4 c4 := Pst.keep s7 (below_a w7 _)
  refine hK.out _ _ s8 (fun _ => ?_)
  clear hK
  try simp only [Act.put, List.setIfInBounds_toArray, List.set_cons_zero, List.set_cons_succ]
  refine wpAnyH_ready (rs := [7]) (by kernel_rfl) (by simp) ?_
  refine AllReadyH.cons rfl (fun K hK => ?_) AllReadyH.nil
  go_simp
  refine (Join_three rfl r7 s7.2.2.2.1 s7.2.1.data (by omega)).mono ?_
  rintro e w9 ⟨A9, c9, rfl, r9, _, b9⟩
  have s9 := Pst.keep s8 b9
  dsimp only
  refine hK.out _ _ s9 (fun _ => ?_)
  clear hK
  try simp only [Act.put, List.setIfInBounds_toArray, List.set_cons_zero, List.set_cons_succ]
  refine wpAnyH_ready (rs := [8]) (by kernel_rfl) (by simp) ?_
  refine AllReadyH.cons rfl (fun K hK => ?_) AllReadyH.nil
  go_simp
  refine (SPut_any A9 (19 + n4 + s.dn) c9 (sbs s).length _ _ r9 (by omega) HM.out).mono ?_
  rintro e w10 ⟨A10, c10, rfl, r10, o10, b10⟩
  have s10 := Pst.keep s9 b10
  dsimp only
  refine hK.out _ _ s10 (fun _ => ?_)
  clear hK
  try simp only [Act.put, List.setIfInBounds_toArray, List.set_cons_zero, List.set_cons_succ]
  refine held_take (i := 9) (v := .slice A10 (sbs s).length c10) (some 2) rfl rfl (by kernel_rfl) (by kernel_rfl) (by kernel_rfl) (fun _ _ _ h => h) (Or.inl ⟨by rfl, fun W hW => by go_simp⟩) s10 ?_
  simp only [Act.put, List.setIfInBounds_toArray, List.set_cons_zero, List.set_cons_succ]
  refine held_take (i := 10) (v := .int .i64 0) (some 3) rfl rfl (by kernel_rfl) (by kernel_rfl) (by kernel_rfl) (fun _ _ _ h => h) (Or.inl ⟨by rfl, fun W hW => by go_simp⟩) s10 ?_
  simp only [Act.put, List.setIfInBounds_toArray, List.set_cons_zero, List.set_cons_succ]
  refine wpAnyH_done (by kernel_rfl) ?_ _
  refine NoPanic.normal ?_
  have hlt := s9.2.2.2.2.size
  go_wp2_with fail
  go_ret2
  exact ⟨fun _ => ⟨A10, c10, rfl, r10, own_mono o10 hlt⟩, fun hc => (by rw [HRS.out] at hc; cases hc), s10.2.2.2.2⟩
theorem SegPut_any (s : Seg) (w : World) (h : SG w s) (hT : Tab w) : Calls Tryd.prog 9 #[.agg s.vals.toArray] w (SPutMade w s) := by
  cases hr : rightS s with
  | false => exact SegPut_bad s w h hr
  | true => exact SegPut_ok s w h hT hr
end Go.Proofs.YtbbpemndkphgeaaDoor

namespace Go.Proofs.YtbbpemndkphgeaaDoor
set_option linter.unusedVariables false
set_option linter.unusedSimpArgs false
open Go.RowKit

theorem be_succ (n k : Nat) : be n (k + 1) = be (n / 256) k ++ [UInt8.ofNat n] := by
  unfold be
  rw [List.range_succ, List.map_append]
  congr 1
  · apply List.map_congr_left
    intro i hi
    have hi' : i < k := List.mem_range.1 hi
    rw [Nat.div_div_eq_div_mul, show k + 1 - 1 - i = (k - 1 - i) + 1 from by omega, Nat.pow_succ, Nat.mul_comm]
  · simp
theorem be_num (l : List UInt8) : ∀ k, l.length = k → be (num l) k = l := by
  intro k
  induction k generalizing l with
  | zero => intro h; rw [List.eq_nil_of_length_eq_zero h]; rfl
  | succ k ih =>
    intro h
    obtain ⟨r, x, rfl⟩ : ∃ r x, l = r ++ [x] := ⟨l.dropLast, l.getLast (by intro e; rw [e] at h; cases h), (List.dropLast_concat_getLast _).symm⟩
    have hr : r.length = k := by simpa using h
    have hx := x.toNat_lt
    rw [num_snoc, be_succ, show (256 * num r + x.toNat) / 256 = num r from by omega, ih r hr]
    congr 2
    apply UInt8.toNat_inj.1
    rw [UInt8.toNat_ofNat']
    omega
theorem num_put_other (o : Opt) {s s' n : Nat} (h : s' ≠ s) : (o.put s n).num s' = o.num s' := by
  unfold Opt.put
  split <;> (unfold Opt.num; split <;> first | rfl | omega)
/-- A field's width is one that its place may have. -/
def Wide (f : Nat × Nat) : Prop := spot f.1 ∧ 1 ≤ f.2 ∧ f.2 ≤ 8 ∧ (f.1 = 3 ∨ f.1 = 4 → f.2 ≤ 4) ∧ (isB f.1 = true → f.2 = 1)
theorem num_put_same (o : Opt) {s n : Nat} (hs : spot s) (hn : n < 18446744073709551616) (h4 : s = 3 ∨ s = 4 → n < 4294967296) : (o.put s n).num s = if isB s then b2n (n == 1) else n := by
  rcases spot_or hs with rfl | rfl | rfl | rfl | rfl | rfl | rfl | rfl | rfl | rfl | rfl | rfl | rfl
  all_goals simp only [Opt.put, Opt.num, isB, Bool.false_eq_true, if_false, if_true]
  · exact Nat.mod_eq_of_lt (h4 (.inl rfl))
  · exact Nat.mod_eq_of_lt (h4 (.inr rfl))
  all_goals
    unfold u64 s64
    split <;> omega
theorem num_prs_other : ∀ (l : List (Nat × Nat)) (o : Opt) (b : List UInt8) {s : Nat}, s ∉ l.map (·.1) → (prs o l b).num s = o.num s
  | [], _, _, _, _ => rfl
  | f :: r, o, b, s, h => by
    simp only [List.map_cons, List.mem_cons, not_or] at h
    show (prs (o.put f.1 (num (b.take f.2))) r (b.drop f.2)).num s = _
    rw [num_prs_other r _ _ h.2, num_put_other o h.1]
theorem toldB_cons (o : Opt) (f : Nat × Nat) (r : List (Nat × Nat)) : toldB o (f :: r) = be (o.num f.1) f.2 ++ toldB o r := rfl
/-- Bytes tell what may be just if that tells the bytes. -/
theorem okL_iff : ∀ (l : List (Nat × Nat)) (o : Opt) (b : List UInt8), (∀ f ∈ l, Wide f) → (l.map (·.1)).Nodup → b.length = long l → (okL l b = true ↔ toldB (prs o l b) l = b)
  | [], o, b, _, _, hb => by
    obtain rfl : b = [] := List.eq_nil_of_length_eq_zero hb
    exact ⟨fun _ => rfl, fun _ => rfl⟩
  | f :: r, o, b, hw, hd, hb => by
    obtain ⟨h1, h2, h3, h4, h5⟩ := hw f (List.mem_cons_self ..)
    rw [List.map_cons, List.nodup_cons] at hd
    rw [long_cons] at hb
    have hlt : (b.take f.2).length = f.2 := by rw [List.length_take]; omega
    have hld : (b.drop f.2).length = long r := by rw [List.length_drop]; omega
    have ih := okL_iff r (o.put f.1 (num (b.take f.2))) (b.drop f.2) (fun g hg => hw g (List.mem_cons_of_mem _ hg)) hd.2 hld
    have hn := num_wide b h3
    have hnw : num (b.take f.2) < 256 ^ f.2 := Nat.lt_of_lt_of_le (num_lt _) (Nat.pow_le_pow_right (by decide) (List.length_take_le _ _))
    have hn4 : f.1 = 3 ∨ f.1 = 4 → num (b.take f.2) < 4294967296 := fun e => by
      have e1 := h4 e
      have e2 := num_lt (b.take f.2)
      have e3 : 256 ^ (b.take f.2).length ≤ 256 ^ 4 := Nat.pow_le_pow_right (by decide) (by omega)
      omega
    have hfin : (prs o (f :: r) b).num f.1 = if isB f.1 then b2n (num (b.take f.2) == 1) else num (b.take f.2) := by
      show (prs (o.put f.1 (num (b.take f.2))) r (b.drop f.2)).num f.1 = _
      rw [num_prs_other r _ _ hd.1, num_put_same o h1 hn hn4]
    have hok : okL (f :: r) b = (okN f.1 (num (b.take f.2)) && okL r (b.drop f.2)) := rfl
    rw [toldB_cons, hfin, hok, Bool.and_eq_true, ih]
    have hbe := be_num (b.take f.2) f.2 hlt
    have hsplit : b.take f.2 ++ b.drop f.2 = b := List.take_append_drop _ _
    show _ ↔ be _ f.2 ++ toldB (prs (o.put f.1 (num (b.take f.2))) r (b.drop f.2)) r = b
    generalize toldB (prs (o.put f.1 (num (b.take f.2))) r (b.drop f.2)) r = t
    generalize num (b.take f.2) = n at *
    unfold okN
    cases hB : isB f.1 with
    | false =>
      simp only [Bool.false_eq_true, if_false, true_and]
      rw [hbe]
      constructor
      · intro e; rw [e, hsplit]
      · intro e
        have : b.take f.2 ++ t = b.take f.2 ++ b.drop f.2 := by rw [e, hsplit]
        exact List.append_cancel_left this
    | true =>
      have hw1 := h5 hB
      simp only [if_true, decide_eq_true_eq]
      by_cases hn1 : n ≤ 1
      · have e1 : b2n (n == 1) = n := by
          rcases (show n = 0 ∨ n = 1 from by omega) with rfl | rfl <;> rfl
        rw [e1, hbe]
        constructor
        · rintro ⟨_, e⟩; rw [e, hsplit]
        · intro e
          have : b.take f.2 ++ t = b.take f.2 ++ b.drop f.2 := by rw [e, hsplit]
          exact ⟨hn1, List.append_cancel_left this⟩
      · have e1 : b2n (n == 1) = 0 := by
          have : (n == 1) = false := by simp; omega
          rw [this]; rfl
        constructor
        · rintro ⟨e, _⟩; exact absurd e hn1
        · intro e
          exfalso
          have h6 : (be 0 f.2 ++ t).take f.2 = b.take f.2 := by rw [e1] at e; rw [e]
          rw [List.take_left' (be_length 0 f.2)] at h6
          rw [← hbe] at h6
          have h7 : num (be 0 f.2) = num (be n f.2) := by rw [h6]
          rw [num_be, num_be, hw1] at h7
          rw [hw1] at hnw
          omega
end Go.Proofs.YtbbpemndkphgeaaDoor

namespace Go.Proofs.YtbbpemndkphgeaaDoor
set_option linter.unusedSimpArgs false
set_option linter.unusedVariables false
open Go.RowKit

set_option maxHeartbeats 400000 in
theorem Number_any (A : Option Addr) (n c : Nat) (l : List UInt8) (w : World) (h : RB w A n c l) (h8 : n ≤ 8) :
    Calls Tryd.prog 61 #[.slice A n c] w fun e w' => e = .returned (.int .u64 (num l : Nat)) ∧ w = w' := by
  have hl := Lib.hid h.len
  go_enter Tryd.func61, Tryd.ntmps61
  go_wp2
  go_loop [3, 4] (fun x i => ∃ k : Nat, k ≤ n ∧ i = .int .i64 k ∧ x = .int .u64 (num (l.take k) : Nat)) (fun _ i => n - (intOf i).toNat)
  case atStart => exact ⟨0, Nat.zero_le _, rfl, rfl⟩
  case round =>
    obtain ⟨k, hk, rfl, rfl⟩ := hrel
    by_cases hlt : k < n
    · have hb := num_take_seven l k (by omega)
      have hx := (l.getD k 0).toNat_lt
      have HS := Lib.hid (num_step l k (by rw [hl.out]; exact hlt))
      obtain ⟨b, o, rfl, hc⟩ := h.at_ hlt
      clear h
      generalize num (l.take k) = x at *
      generalize (l.getD k 0).toNat = y at *
      go_wp2
      go_round
      case rel => exact ⟨k + 1, by omega, by go_num, by rw [HS.out]; go_num⟩
      case measure => simp [intOf]; omega
    · go_wp2
      go_ret
      exact ⟨by rw [List.take_of_length_le (by rw [hl.out]; omega)]; rfl, rfl⟩
end Go.Proofs.YtbbpemndkphgeaaDoor

namespace Go.Proofs.YtbbpemndkphgeaaDoor
set_option linter.unusedSimpArgs false
set_option linter.unusedVariables false
open Go.RowKit

theorem Width_any (n : Int) (w : World) : Calls Tryd.prog 66 #[.int .i64 n] w fun e w' => e = .returned (.int .i64 (wn n : Nat)) ∧ w = w' := by
  rcases Int.lt_or_le n 1 with h | h
  · have H := Lib.hid (wn_one h)
    go_enter Tryd.func66, Tryd.ntmps66
    go_wp2
    go_ret
    exact ⟨by rw [H.out]; rfl, rfl⟩
  · rcases Int.lt_or_le 8 n with h8 | h8
    · have H := Lib.hid (wn_eight h8)
      have h' : ¬ n < 1 := by omega
      go_enter Tryd.func66, Tryd.ntmps66
      go_wp2
      go_ret
      exact ⟨by rw [H.out]; rfl, rfl⟩
    · have H := Lib.hid (wn_mid h h8)
      have h' : ¬ n < 1 := by omega
      have h9 : ¬ 8 < n := by omega
      go_enter Tryd.func66, Tryd.ntmps66
      go_wp2
      go_ret
      exact ⟨by rw [H.out]; rfl, rfl⟩
end Go.Proofs.YtbbpemndkphgeaaDoor

namespace Go.Proofs.YtbbpemndkphgeaaDoor
set_option linter.unusedSimpArgs false
set_option linter.unusedVariables false
open Go.RowKit

theorem div_step (a k j m : Nat) (h : j + 1 ≤ m) : a / 256 ^ (m - (j + 1)) / 256 = a / 256 ^ (m + 1 - (j + 1)) := by
  rw [Nat.div_div_eq_div_mul, ← Nat.pow_succ, show (m - (j + 1)).succ = m + 1 - (j + 1) from by omega]

theorem low_byte {x : Nat} : (x : Int) % 256 = ((UInt8.ofNat x).toNat : Int) := by rw [UInt8.toNat_ofNat']; omega

set_option maxHeartbeats 800000 in
theorem Bytes_any (a : Nat) (n : Int) (w : World) (ha : a < 18446744073709551616) :
    Calls Tryd.prog 50 #[.int .u64 (a : Int), .int .i64 n] w (Made w 5 (wn n) (be a (wn n))) := by
  have hlo := wn_lo n
  have hhi := wn_hi n
  go_enter Tryd.func50, Tryd.ntmps50
  go_wp2_with (go_at_call 66; refine (Width_any _ _).mono ?_; rintro e w' ⟨rfl, rfl⟩)
  generalize wn n = K at *
  go_loopw [5, 6] (fun v i wr => ∃ j : Nat, j ≤ K ∧ i = .int .i64 j ∧ wr.ownsRow w.heap.size 5 1 v j (bv ((be a K).take j)) ∧ Below w.heap.size w wr) (fun _ i _ => K - (intOf i).toNat)
  case atStart => exact ⟨0, Nat.zero_le _, rfl, World.ownsRow_nil _ _ _ _, Below.refl _ _⟩
  case round =>
    obtain ⟨j, hj, rfl, hown, hbel⟩ := hrel
    by_cases hlt : j < K
    · have h0 : a / 256 ^ (j + 1 - (j + 1)) = a := by rw [Nat.sub_self]; simp
      have H0 := Lib.hid h0
      clear h0
      go_wp2
      go_loop [7, 8] (fun x m => ∃ k : Nat, j + 1 ≤ k ∧ k ≤ K ∧ m = .int .i64 k ∧ x = .int .u64 ((a / 256 ^ (k - (j + 1)) : Nat) : Int)) (fun _ m => K - (intOf m).toNat)
      case atStart => exact ⟨j + 1, Nat.le_refl _, hlt, rfl, by rw [H0.out]⟩
      case round =>
        obtain ⟨k, hk1, hk2, rfl, rfl⟩ := hrel
        have hx : a / 256 ^ (k - (j + 1)) < 18446744073709551616 := Nat.lt_of_le_of_lt (Nat.div_le_self _ _) ha
        have hb := @low_byte (a / 256 ^ (k - (j + 1)))
        by_cases hkl : k < K
        · clear hb
          have HS := Lib.hid (div_step a k j k hk1)
          generalize a / 256 ^ (k - (j + 1)) = x at *
          go_wp2
          go_round
          case rel => exact ⟨k + 1, by omega, by omega, by go_num, by rw [← HS.out]; rfl⟩
          case measure => simp [intOf]; omega
        · obtain rfl : k = K := by omega
          have HT := Lib.hid (be_take a k j hlt)
          rw [show k - 1 - j = k - (j + 1) from by omega] at HT
          generalize a / 256 ^ (k - (j + 1)) = x at *
          have HB := Lib.hid hb
          clear hb
          go_wp2_with (at_builtin; refine wpList_app _ rfl (.tmp 26) (.tmp 30) 24 5 rfl Tryd.underlying24 infoByte w.heap.size _ j ((be a k).take j) rfl (hown.alloc _) _ 1 1 [UInt8.ofNat x] rfl (RB.lit1 _ _ _ _ HB.out) (by omega) (by have := hbel.size; simp; omega) ?_; intro v' w1 hown' hg' _)
          have R := own_one hbel hown hown' hg' HT.out
          clear hown' hg' hown hbel
          go_wp2
          go_roundw
          case rel => exact ⟨j + 1, by omega, by go_num, R.1, R.2⟩
          case measure => simp [intOf]; omega
    · obtain rfl : j = K := by omega
      go_wp2
      go_ret
      exact ⟨_, rfl, by rw [List.take_of_length_le (by rw [be_length]; exact Nat.le_refl _)] at hown; exact hown, hbel⟩
theorem Bytes_own (a : Nat) (k : Int) (w : World) (ha : a < 18446744073709551616) :
    Calls Tryd.prog 50 #[.int .u64 (a : Int), .int .i64 k] w (OwnMade w (wn k) (be a (wn k))) :=
  (Bytes_any a k w ha).mono fun e w' ⟨v, he, hown, hb⟩ => by
    obtain ⟨A, c, rfl, hr, _⟩ := RB.of_own hown
    exact ⟨A, c, he, hr, hown, hb⟩
end Go.Proofs.YtbbpemndkphgeaaDoor

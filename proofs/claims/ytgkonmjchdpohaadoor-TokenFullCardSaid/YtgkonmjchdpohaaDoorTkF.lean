/- TokenFull, walked: a table takes just as many as its capacity, and then refuses, whatever keys there are, till a quarantine ends. Condition: the table of constants holds. -/
import Derived.Test.YtgkonmjchdpohaaDoorTkW
namespace Go.Proofs.YtgkonmjchdpohaaDoor
set_option linter.unusedVariables false
set_option linter.unusedSimpArgs false
open Go.RowKit

set_option maxRecDepth 100000 in
theorem kt1 : kt 1 = 3441844757 := by
  unfold kt
  have e : (dg [0, 0, 0, 0, 0, 0, 0, 1]).take 4 = [205, 38, 98, 21] := by decide +kernel
  have e0 : be 1 8 = [0, 0, 0, 0, 0, 0, 0, 1] := by decide +kernel
  rw [e0, e]
  decide +kernel
set_option maxRecDepth 100000 in
theorem kt2 : kt 2 = 3439633525 := by
  unfold kt
  have e : (dg [0, 0, 0, 0, 0, 0, 0, 2]).take 4 = [205, 4, 164, 117] := by decide +kernel
  have e0 : be 2 8 = [0, 0, 0, 0, 0, 0, 0, 2] := by decide +kernel
  rw [e0, e]
  decide +kernel
set_option maxRecDepth 100000 in
theorem kt3 : kt 3 = 3580398162 := by
  unfold kt
  have e : (dg [0, 0, 0, 0, 0, 0, 0, 3]).take 4 = [213, 104, 138, 82] := by decide +kernel
  have e0 : be 3 8 = [0, 0, 0, 0, 0, 0, 0, 3] := by decide +kernel
  rw [e0, e]
  decide +kernel
set_option maxRecDepth 100000 in
theorem kt4 : kt 4 = 2147872813 := by
  unfold kt
  have e : (dg [0, 0, 0, 0, 0, 0, 0, 4]).take 4 = [128, 5, 240, 45] := by decide +kernel
  have e0 : be 4 8 = [0, 0, 0, 0, 0, 0, 0, 4] := by decide +kernel
  rw [e0, e]
  decide +kernel
set_option maxRecDepth 100000 in
theorem kt7 : kt 7 = 2750123448 := by
  unfold kt
  have e : (dg [0, 0, 0, 0, 0, 0, 0, 7]).take 4 = [163, 235, 141, 184] := by decide +kernel
  have e0 : be 7 8 = [0, 0, 0, 0, 0, 0, 0, 7] := by decide +kernel
  rw [e0, e]
  decide +kernel
set_option maxRecDepth 100000 in
theorem kt100 : kt 100 = 1607180899 := by
  unfold kt
  have e : (dg [0, 0, 0, 0, 0, 0, 0, 100]).take 4 = [95, 203, 162, 99] := by decide +kernel
  have e0 : be 100 8 = [0, 0, 0, 0, 0, 0, 0, 100] := by decide +kernel
  rw [e0, e]
  decide +kernel
def K8 : List Nat := [2941612277, 3441844757, 3439633525, 3580398162, 2147872813, 1575898582, 346838908, 2750123448]
theorem kt_at (i : Nat) (h : i < 8) : kt i = K8.getD i 0 := by
  match i, h with
  | 0, _ => exact kt_zero
  | 1, _ => exact kt1
  | 2, _ => exact kt2
  | 3, _ => exact kt3
  | 4, _ => exact kt4
  | 5, _ => exact kt5
  | 6, _ => exact kt6
  | 7, _ => exact kt7
theorem K8_inj : ∀ i, i < 8 → ∀ j, j < 8 → K8.getD i 0 = K8.getD j 0 → i = j := by decide
theorem K8_far : ∀ i, i < 8 → K8.getD i 0 ≠ 1607180899 := by decide

/-- The first m keys' entries. -/
def fl8 (m : Nat) : Ents := (List.range m).map fun i => (kt i, ⟨true, (i : Int), 0⟩)
theorem fl8_len (m : Nat) : (fl8 m).length = m := by simp [fl8]
theorem fl8_succ (m : Nat) : fl8 m ++ [(kt m, ⟨true, (m : Int), 0⟩)] = fl8 (m + 1) := by simp [fl8, List.range_succ]
theorem fl8_mem {m : Nat} {p : Nat × Ent} (h : p ∈ fl8 m) : ∃ i, i < m ∧ p = (kt i, ⟨true, (i : Int), 0⟩) := by
  obtain ⟨i, hi, rfl⟩ := List.mem_map.1 h
  exact ⟨i, List.mem_range.1 hi, rfl⟩
theorem fl8_key {m k : Nat} (h : k ∈ keys (fl8 m)) : ∃ i, i < m ∧ k = kt i := by
  obtain ⟨p, hp, rfl⟩ := List.mem_map.1 h
  obtain ⟨i, hi, rfl⟩ := fl8_mem hp
  exact ⟨i, hi, rfl⟩
theorem fl8_new {m : Nat} (hm : m < 8) : kt m ∉ keys (fl8 m) := fun h => by
  obtain ⟨i, hi, e⟩ := fl8_key h
  rw [kt_at m hm, kt_at i (by omega)] at e
  have := K8_inj m hm i (by omega) e
  omega
theorem fl8_far {m : Nat} (hm : m ≤ 8) : kt 100 ∉ keys (fl8 m) := fun h => by
  obtain ⟨i, hi, e⟩ := fl8_key h
  rw [kt100, kt_at i (by omega)] at e
  exact K8_far i (by omega) e.symm
theorem fl8_keys (m : Nat) : keys (fl8 m) = (List.range m).map kt := by simp [keys, fl8, Function.comp_def]
theorem fl8_nd {m : Nat} (hm : m ≤ 8) : (keys (fl8 m)).Nodup := by
  rw [fl8_keys, List.Nodup, List.pairwise_map]
  refine List.Pairwise.imp_of_mem (fun {a b} ha hb hne e => hne ?_) (List.nodup_range (n := m))
  have ha' := List.mem_range.1 ha
  have hb' := List.mem_range.1 hb
  rw [kt_at a (by omega), kt_at b (by omega)] at e
  exact K8_inj a (by omega) b (by omega) e

set_option maxRecDepth 20000 in
set_option maxHeartbeats 3200000 in
theorem Full_any (cap : Nat) (w : World) (hc : cap < 256) (hT : Tab w) : Calls Tryd.prog 5 #[.int .u8 (cap : Int)] w (Held w) := by
  have HW := Lib.hid (wakes_any w hT)
  have HT := Lib.hid hT
  obtain ⟨c, hce⟩ : ∃ c : Nat, c = 1 + cap % 8 := ⟨_, rfl⟩
  have hc8 : 1 ≤ c ∧ c ≤ 8 := by omega
  have HCE := Lib.hid (show (1 : Int) + (cap : Int) % 8 = c from by omega)
  clear hT hce
  go_enter Tryd.func5, Tryd.ntmps5
  go_wp2_with fail
  refine (HW.out).mono ?_
  rintro e w0 ⟨rfl, b0⟩
  have HN := Lib.hid (tnew_any (c : Int) (by unfold isI; omega) w0)
  rw [show cp (c : Int) = c from by unfold cp; omega] at HN
  have HB := Lib.hid b0
  clear b0 HW
  go_wp2_with fail
  rw [HCE.out]
  refine (HN.out).mono ?_
  rintro e w1 ⟨tb, mb, rfl, T1, b1, _, hm1⟩
  have S1 := Lib.hid (Ts.new_ HT.out HB.out T1 b1 hm1)
  clear T1 b1 hm1 HN HB
  unfold ptr
  go_wp2_with fail
  go_loopw [5, 28] (fun gv ix wr => ∃ q : Nat, q ≤ 20 ∧ ix = .int .u64 (q : Int) ∧ gv = .int .i64 ((min q c : Nat) : Int) ∧ Ts w wr tb mb c (fl8 (min q c))) (fun _ ix _ => 20 - (intOf ix).toNat)
  case atStart => exact ⟨0, by omega, rfl, by rw [Nat.zero_min]; rfl, by rw [Nat.zero_min]; exact S1.out⟩
  case round =>
    obtain ⟨q, hq, rfl, rfl, S⟩ := hrel
    have HS := Lib.hid S
    clear S S1
    by_cases hq20 : q < 20
    · have hwq : IntKind.i64.wrap (q : Int) = q := by
        simp [IntKind.wrap, IntKind.bits, IntKind.signed]
        omega
      by_cases hqc : q < c
      · have e1 : min q c = q := by omega
        have e2 : min (q + 1) c = q + 1 := by omega
        rw [e1] at HS ⊢
        have HT1 := Lib.hid (take1_hit (owner := (q : Int)) HS.out.t HS.out.tab (by rw [fl8_len]; exact hqc) (k := q) (by omega) (fl8_new (by omega)))
        have HE2 := Lib.hid e2
        clear e1 e2
        unfold ptr at HT1
        go_wp2_with fail
        refine (HT1.out).mono ?_
        rintro e w2 ⟨rfl, T2, c2⟩
        rw [fl8_succ] at T2
        have S2 := Lib.hid (HS.out.turn T2 c2)
        clear T2 c2 HT1
        go_wp2_with fail
        go_roundw
        case rel => exact ⟨q + 1, by omega, by go_num, by rw [HE2.out]; go_num, by rw [HE2.out]; exact S2.out⟩
        case measure => simp [intOf]; omega
      · have e1 : min q c = c := by omega
        have e2 : min (q + 1) c = c := by omega
        rw [e1] at HS ⊢
        have HT1 := Lib.hid (take1_full (owner := (q : Int)) HS.out.t (fl8_len c) (A := some ⟨wr.heap.size, 0, none⟩) (n := 1) (cc := 1) (o := .cells #[.int .u64 (q : Int)] 28))
        have HE2 := Lib.hid e2
        clear e1 e2
        unfold ptr at HT1
        go_wp2_with fail
        refine (HT1.out).mono ?_
        rintro e w2 ⟨rfl, b2⟩
        have S2 := Lib.hid (HS.out.below b2)
        clear b2 HT1
        go_wp2_with fail
        go_roundw
        case rel => exact ⟨q + 1, by omega, by go_num, by rw [HE2.out], by rw [HE2.out]; exact S2.out⟩
        case measure => simp [intOf]; omega
    · obtain rfl : q = 20 := by omega
      have e1 : min 20 c = c := by omega
      rw [e1] at HS ⊢
      clear e1
      have HF1 := Lib.hid (take1_full (owner := 9) HS.out.t (fl8_len c) (A := some ⟨wr.heap.size, 0, none⟩) (n := 2) (cc := 2) (o := .cells #[.int .u64 100, .int .u64 101] 28))
      unfold ptr at HF1
      go_wp2_with fail
      refine (HF1.out).mono ?_
      rintro e w2 ⟨rfl, b2⟩
      have S2 := Lib.hid (HS.out.below b2)
      clear b2 HF1 HS
      go_wp2_with fail
      refine (tall_any S2.out.t (fun p hp => by
        obtain ⟨i, hi, rfl⟩ := fl8_mem hp
        show isI 0
        unfold isI
        omega)).mono ?_
      rintro e w3 ⟨v3, out, rfl, er, td, b3⟩
      have hol := td.length (fl8_nd hc8.2)
      rw [fl8_len] at hol
      obtain ⟨A, cc, rfl, hcc1, hcc2, hcell⟩ := er
      obtain ⟨g, rfl, _, hx⟩ := hcell (by omega)
      have x0 := hx 0 (by omega) 0 (by omega)
      have hmem : out.getD 0 default ∈ out := by
        rw [List.getD_eq_getElem?_getD, List.getElem?_eq_getElem (by omega)]
        exact List.getElem_mem _
      obtain ⟨p, hp, he⟩ := (td.mem _).1 hmem
      obtain ⟨i, hi, rfl⟩ := fl8_mem hp
      rw [he] at x0
      have x1 : w3.cell? ⟨g, 0, none⟩ = some (.int .u32 (kt i : Nat)) := x0
      have hlc : 0 < out.length := by omega
      have S3 := Lib.hid (S2.out.below b3)
      have HP := Lib.hid hp
      have HKI := Lib.hid (kt_lt i)
      have HI := Lib.hid hi
      clear x0 hx hcell he hmem td b3 S2 hp hi hcc2
      generalize out.length = ol at *
      have hfnd := fnd_mem (fl8_nd hc8.2) HP.out
      have HFR := Lib.hid (tfree_yes S3.out.t HKI.out (by rw [hfnd]; rfl) 0)
      clear hfnd
      have HU : Hid ((upd (fl8 c) (kt i) ⟨false, 0, 0⟩).length = c) := Lib.hid (by unfold upd; rw [List.length_map, fl8_len])
      have HUK : Hid (kt 100 ∉ keys ((upd (fl8 c) (kt i) ⟨false, 0, 0⟩).filter fun p => !ov p.2 10)) := Lib.hid (fun h => by
        obtain ⟨p, hp, e⟩ := List.mem_map.1 h
        have h1 := mem_keys (List.mem_filter.1 hp).1
        rw [keys_upd, e] at h1
        exact fl8_far hc8.2 h1)
      have HUL : Hid (((upd (fl8 c) (kt i) ⟨false, 0, 0⟩).filter fun p => !ov p.2 10).length < c) := Lib.hid (by
        have h1 : ((upd (fl8 c) (kt i) ⟨false, 0, 0⟩).filter fun p => !ov p.2 10).length < (upd (fl8 c) (kt i) ⟨false, 0, 0⟩).length := List.length_filter_lt_length_iff_exists.2 ⟨(kt i, ⟨false, 0, 0⟩), by
          unfold upd
          exact List.mem_map.2 ⟨_, HP.out, by simp⟩, by simp [ov]⟩
        rw [HU.out] at h1
        exact h1)
      have HUF : Hid (∀ p ∈ upd (fl8 c) (kt i) ⟨false, 0, 0⟩, isI p.2.freed) := Lib.hid (fun p hp => by
        rcases mem_upd hp with ⟨_, h2⟩ | ⟨_, h2⟩
        · rw [h2]
          show isI 0
          unfold isI
          omega
        · obtain ⟨i, hi, rfl⟩ := fl8_mem h2
          show isI 0
          unfold isI
          omega)
      generalize upd (fl8 c) (kt i) ⟨false, 0, 0⟩ = l2 at *
      generalize kt i = t at *
      unfold ptr at HFR
      go_wp2_with fail
      refine (HFR.out).mono ?_
      rintro e w4 ⟨rfl, T4, c4⟩
      have S4 := Lib.hid (S3.out.turn T4 c4)
      clear T4 c4 S3 HFR
      have HF2 := Lib.hid (take1_full (owner := 9) S4.out.t HU.out (A := some ⟨w4.heap.size, 0, none⟩) (n := 2) (cc := 2) (o := .cells #[.int .u64 100, .int .u64 101] 28))
      unfold ptr at HF2
      go_wp2_with fail
      refine (HF2.out).mono ?_
      rintro e w5 ⟨rfl, b5⟩
      have S5 := Lib.hid (S4.out.below b5)
      clear b5 S4 HF2
      go_wp2_with fail
      refine (ttick_any S5.out.t HUF.out (t := 10) (by unfold isI; omega)).mono ?_
      rintro e w6 ⟨rfl, T6, c6⟩
      have S6 := Lib.hid (S5.out.turn T6 c6)
      clear T6 c6 S5
      go_wp2_with fail
      refine (take2_first (owner := 9) (k := 100) (j := 101) S6.out.t S6.out.tab HUL.out (by omega) (by omega) HUK.out).mono ?_
      rintro e w7 ⟨rfl, T7, c7⟩
      have S7 := Lib.hid (S6.out.turn T7 c7)
      clear T7 c7 S6
      go_wp2_with fail
      go_ret
      exact ⟨rfl, S7.out.bel⟩
end Go.Proofs.YtgkonmjchdpohaaDoor

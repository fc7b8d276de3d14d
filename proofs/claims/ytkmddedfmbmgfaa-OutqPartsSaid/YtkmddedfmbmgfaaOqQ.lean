/- The law OutqParts. No condition. -/
import Derived.Test.YtkmddedfmbmgfaaOqO
import Derived.Test.YtkmddedfmbmgfaaPcFr
namespace Go.Proofs.Ytkmddedfmbmgfaa
set_option linter.unusedVariables false
set_option linter.unusedSimpArgs false
open Go.RowKit

/-- Pieces of eight numbers each. -/
def Eight (ks : List Ky) : Prop := ∀ k ∈ ks, k.len = 8
theorem eight_tot : ∀ {ks : List Ky}, Eight ks → tot ks = 8 * ks.length
  | [], _ => rfl
  | k :: ks, h => by
    have h1 := h k (List.mem_cons_self ..)
    have h2 := eight_tot (ks := ks) (fun x hx => h x (List.mem_cons_of_mem _ hx))
    show k.len + tot ks = _
    rw [List.length_cons]
    omega
theorem eight_cnt0 {ks : List Ky} (h : Eight ks) {d : Nat} (hd : d < 8) : cnt ks d = 0 := by
  cases ks with
  | nil => rfl
  | cons k ks => exact cnt_stop (by rw [h k (List.mem_cons_self ..)]; exact hd)
theorem eight_cnt1 {ks : List Ky} (h : Eight ks) {d : Nat} (hd : 8 ≤ d) (hd2 : d < 16) (hl : 1 ≤ ks.length) : cnt ks d = 1 := by
  cases ks with
  | nil => simp at hl
  | cons k ks =>
    have h1 := h k (List.mem_cons_self ..)
    rw [cnt_go (by rw [h1]; exact hd), eight_cnt0 (fun x hx => h x (List.mem_cons_of_mem _ hx)) (by rw [h1]; omega)]
theorem eight_push {ks : List Ky} (h : Eight ks) {k : Ky} (hk : k.len = 8) : pushK ks k = ks ++ [k] ∧ Eight (pushK ks k) := by
  have e : pushK ks k = ks ++ [k] := by
    unfold pushK
    rw [if_pos (by omega)]
  refine ⟨e, ?_⟩
  rw [e]
  intro x hx
  rcases List.mem_append.1 hx with hx | hx
  · exact h x hx
  · simp at hx
    rw [hx]
    exact hk
def oneK : Ky := ⟨0, false, false, 0, false, [49, 50, 51, 52, 53, 54, 55, 56]⟩

theorem push8 {W w : World} {qb : Nat} {v : Value} {l : List Pc} {b : Nat} {ks : List Ky} {en : Nat} (h : Sq 54 W w qb v l b ks en) (hn : ks.length ≤ 1000) :
    Calls Try.prog 9 #[.pointer (some ⟨qb, 0, none⟩), .agg #[.int .u32 0, .bool false, .bool false, .slice (some ⟨w.heap.size, 0, none⟩) 8 8, .int .i64 0, .bool false]] (w.alloc (.cells #[.int .u8 49, .int .u8 50, .int .u8 51, .int .u8 52, .int .u8 53, .int .u8 54, .int .u8 55, .int .u8 56] 5 (8, 9)))
      (SPush W (w.alloc (.cells #[.int .u8 49, .int .u8 50, .int .u8 51, .int .u8 52, .int .u8 53, .int .u8 54, .int .u8 55, .int .u8 56] 5 (8, 9))) qb v l b ks en oneK) :=
  spush_any (h.below (below_a w _)) hn (dP (some ⟨w.heap.size, 0, none⟩) 8 8 [49, 50, 51, 52, 53, 54, 55, 56]) (dP_ok (RB.litf w [49, 50, 51, 52, 53, 54, 55, 56] 5 (8, 9) (by unfold maxLen; simp))) (Nat.le_of_ble_eq_true rfl) (fun g o s e _ => by
    injection e with e
    injection e with e _ _
    subst e
    refine ⟨fun e2 => ?_, fun e2 => ?_⟩
    · have := (h.in_ (.inl rfl)).2
      omega
    · have := (h.in_ (.inr (.inl e2))).2
      omega)

set_option maxRecDepth 8000 in
set_option maxHeartbeats 3200000 in
theorem Parts_any (s n z : Nat) (W : World) (hs : s < 4294967296) (hn : n < 256) (hz : z < 256) :
    Calls Try.prog 6 #[.int .u32 (s : Int), .int .u8 (n : Int), .int .u8 (z : Int)] W (Held W) := by
  have HW := Lib.hid (wakes_any W)
  have HN := Lib.hid (fun w b => snew_any W w s hs b)
  have hi1 : IntKind.i64.wrap (n : Int) = (n : Int) := by rw [IntKind.wrap_i64]; omega
  have hi2 : IntKind.i64.wrap (z : Int) = (z : Int) := by rw [IntKind.wrap_i64]; omega
  go_enter Try.func6, Try.ntmps6
  go_wp2_with fail
  refine (HW.out).mono ?_
  rintro e w1 ⟨rfl, b1⟩
  have HB1 := Lib.hid b1
  clear b1
  go_wp2_with fail
  refine (HN.out w1 HB1.out).mono ?_
  rintro e w2 ⟨qb, rfl, -, S2, -⟩
  have HS2 := Lib.hid S2
  clear S2
  unfold ptr
  go_wp2_with fail
  go_loopw [19] (fun i wr => ∃ (j : Nat) (v : Value) (l : List Pc) (ks : List Ky) (en : Nat), (j : Int) ≤ 1 + (n : Int) % 6 ∧ i = .int .i64 j ∧ Sq 54 W wr qb v l s ks en ∧ ks.length = j ∧ Eight ks) (fun i _ => 7 - (intOf i).toNat)
  case atStart => exact ⟨0, _, _, _, _, by omega, rfl, HS2.out, rfl, fun k hk => by cases hk⟩
  case round =>
    obtain ⟨j, v, l, ks, en, hj, rfl, S, hkl, h8⟩ := hrel
    have HS := Lib.hid S
    have HKL := Lib.hid hkl
    have H8 := Lib.hid h8
    have HQL := Lib.hid S.llen
    clear S hkl h8
    by_cases hlt : (j : Int) < 1 + (n : Int) % 6
    · have HP := Lib.hid (push8 HS.out (by have := HKL.out; omega))
      have hcv := text_at wr #[.int .u8 49, .int .u8 50, .int .u8 51, .int .u8 52, .int .u8 53, .int .u8 54, .int .u8 55, .int .u8 56] 8 8
      have hcv : (convert 31 31 (.slice (some ⟨wr.heap.size, 0, none⟩) 8 8)).run Try.prog (wr.alloc (.cells #[.int .u8 49, .int .u8 50, .int .u8 51, .int .u8 52, .int .u8 53, .int .u8 54, .int .u8 55, .int .u8 56] 5)) = .ok (.slice (some ⟨wr.heap.size, 0, none⟩) 8 8) (wr.alloc (.cells #[.int .u8 49, .int .u8 50, .int .u8 51, .int .u8 52, .int .u8 53, .int .u8 54, .int .u8 55, .int .u8 56] 5 (8, 9))) := hcv
      go_wp2_with fail
      refine (HP.out).mono ?_
      rintro e w4 ⟨q, v', l', m, rfl, -, -, -, S4, -, -, -⟩
      have hpk := eight_push H8.out (k := oneK.at en) rfl
      have HS4 := Lib.hid S4
      have HPK := Lib.hid hpk
      clear S4 hpk HP hcv
      go_wp2_with fail
      go_roundw
      case rel => exact ⟨j + 1, _, _, _, _, by omega, by go_num, HS4.out, by rw [HPK.out.1, List.length_append, HKL.out]; rfl, HPK.out.2⟩
      case measure => simp [intOf]; omega
    · have hje : (j : Int) = 1 + (n : Int) % 6 := by omega
      have hlen : l.length = j := by rw [HQL.out, HKL.out]
      have htot := eight_tot H8.out
      rw [HKL.out] at htot
      have HL := Lib.hid (Len_any HS.out.qu)
      rw [hlen] at HL
      have HO1 := Lib.hid (fun w => rOn_any s (1 + (z : Int) % 7) w hs (by omega))
      have HO2 := Lib.hid (fun w => rOn_any s (8 + (z : Int) % 8) w hs (by omega))
      have hd1 := st_on_self hs (1 + (z : Int) % 7)
      have hd2 := st_on_self hs (8 + (z : Int) % 8)
      have HL1 := Lib.hid (on_lt s (1 + (z : Int) % 7))
      have HL2 := Lib.hid (on_lt s (8 + (z : Int) % 8))
      have hc0 := eight_cnt0 H8.out (d := st s (on s (1 + (z : Int) % 7))) (by omega)
      have hj7 : j ≤ 6 := by omega
      have HA1 : Hid (∀ (w : World) (v : Value) (l : List Pc), Sq 54 W w qb v l s ks en → Calls Try.prog 14 #[.pointer (some ⟨qb, 0, none⟩), .int .u32 (on s (1 + (z : Int) % 7) : Nat)] w (SAck W w qb v l s ks en (st s (on s (1 + (z : Int) % 7))))) := Lib.hid (fun w v l S => sack_yes S (by rw [HKL.out]; omega) _ HL1.out (by rw [htot]; omega))
      have HA2 : Hid (∀ (w : World) (v : Value) (l : List Pc), Sq 54 W w qb v l s ks en → st s (on s (8 + (z : Int) % 8)) ≤ tot ks → Calls Try.prog 14 #[.pointer (some ⟨qb, 0, none⟩), .int .u32 (on s (8 + (z : Int) % 8) : Nat)] w (SAck W w qb v l s ks en (st s (on s (8 + (z : Int) % 8))))) := Lib.hid (fun w v l S h => sack_yes S (by rw [HKL.out]; omega) _ HL2.out h)
      have HA3 : Hid (∀ (w : World) (v : Value) (l : List Pc), Sq 54 W w qb v l s ks en → tot ks < st s (on s (8 + (z : Int) % 8)) → Calls Try.prog 14 #[.pointer (some ⟨qb, 0, none⟩), .int .u32 (on s (8 + (z : Int) % 8) : Nat)] w (fun e w' => e = .returned (.tuple #[.slice none 0 0, .bool false]) ∧ Below w.heap.size w w')) := Lib.hid (fun w v l S h => sack_no S (by rw [HKL.out]; omega) _ HL2.out h)
      generalize st s (on s (1 + (z : Int) % 7)) = d1 at *
      have hc1 := eight_cnt1 H8.out (d := st s (on s (8 + (z : Int) % 8))) (by omega) (by omega) (by rw [HKL.out]; omega)
      generalize st s (on s (8 + (z : Int) % 8)) = d2 at *
      generalize on s (1 + (z : Int) % 7) = a1 at *
      generalize on s (8 + (z : Int) % 8) = a2 at *
      have HC0 := Lib.hid hc0
      have HC1 := Lib.hid hc1
      have HTOT := Lib.hid htot
      have HJE := Lib.hid hje
      have hjb : (j : Int) ≤ 6 := by omega
      have HLEN := Lib.hid hlen
      clear hc0 hc1 htot hje hlen hd1
      unfold ptr at *
      go_wp2_with fail
      refine (HL.out).mono ?_
      rintro e w3 ⟨rfl, rfl⟩
      go_wp2_with fail
      refine (HO1.out _).mono ?_
      rintro e w4 ⟨rfl, b4⟩
      have HS4 := Lib.hid (HS.out.below b4)
      clear b4 HS HL
      go_wp2_with fail
      refine (HA1.out _ _ _ HS4.out).mono ?_
      rintro e w5 ⟨vo, v5, l5, rfl, o5, S5, -, -⟩
      have hbk : begK s ks d1 = s := by
        unfold begK
        rw [HC0.out]
        exact on_zero hs
      rw [HC0.out] at o5 S5
      rw [hbk] at S5
      have S5 : Sq 54 W w5 qb v5 l5 s ks en := S5
      have o5 : Own6 w4.heap.size w5 vo [] := o5
      obtain ⟨A5, c5, qs5, rfl, hx1, hx2, -, -⟩ := o5.ps
      have hl5 : l5.length = j := by rw [S5.llen, HKL.out]
      have hbg : beg l5 en = s := Chn.beg (by rw [S5.ky]; exact S5.ch)
      have HL5 := Lib.hid (Len_any S5.qu)
      have HB5 := Lib.hid (Begin_any S5.qu)
      rw [hl5] at HL5
      rw [hbg] at HB5
      have HS5 := Lib.hid S5
      have hz0 : ([] : List Ky).length = 0 := rfl
      rw [hz0] at hx1 ⊢
      clear S5 o5 hbk hl5 hbg hz0 HA1
      unfold ptr at *
      go_wp2_with fail
      refine (HL5.out).mono ?_
      rintro e w6 ⟨rfl, rfl⟩
      go_wp2_with fail
      refine (HB5.out).mono ?_
      rintro e w6 ⟨rfl, rfl⟩
      go_wp2_with fail
      refine (HO2.out _).mono ?_
      rintro e w7 ⟨rfl, b7⟩
      have HS7 := Lib.hid (HS5.out.below b7)
      clear b7 HL5 HB5 HS5
      go_wp2_with fail
      by_cases hle : d2 ≤ tot ks
      · refine (HA2.out _ _ _ HS7.out hle).mono ?_
        rintro e w8 ⟨vo8, v8, l8, rfl, o8, S8, -, -⟩
        rw [HC1.out] at o8 S8
        have hl8 : l8.length = j - 1 := by rw [S8.llen, List.length_drop, HKL.out]
        have HL8 := Lib.hid (Len_any S8.qu)
        have e8 : ((l8.length : Nat) : Int) = (j : Int) - 1 := by
          have := HJE.out
          omega
        rw [e8] at HL8
        have HS8 := Lib.hid S8.bel
        obtain ⟨A8, c8, qs8, rfl, hx3, hx4, -, -⟩ := o8.ps
        have hz1 : (ks.take 1).length = 1 := by
          have := HJE.out
          rw [List.length_take, HKL.out]
          omega
        rw [hz1] at hx3 ⊢
        have hw : IntKind.i64.wrap ((j : Int) - 1) = (j : Int) - 1 := by rw [IntKind.wrap_i64]; omega
        clear S8 o8 hl8 e8 hz1 HA2 HA3 hle HS7
        unfold ptr at *
        go_wp2_with fail
        refine (HL8.out).mono ?_
        rintro e w9 ⟨rfl, rfl⟩
        go_wp2_with fail
        go_ret
        exact ⟨by simp, HS8.out⟩
      · have hj1 : j = 1 := by
          have := HTOT.out
          have := HJE.out
          omega
        have hz8 : (0 : Int) < (z : Int) % 8 := by
          have := HTOT.out
          omega
        refine (HA3.out _ _ _ HS7.out (by omega)).mono ?_
        rintro e w8 ⟨rfl, b8⟩
        have HS8 := Lib.hid (HS7.out.below b8).bel
        clear HA2 HA3 hle HS7 b8 HS4 hd2
        subst hj1
        go_wp2_with fail
        go_ret
        exact ⟨by simp, HS8.out⟩
end Go.Proofs.Ytkmddedfmbmgfaa

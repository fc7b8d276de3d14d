/- The law PathTwice. No condition. -/
import Derived.Test.YtpkhalneclmoeaaPaI
namespace Go.Proofs.Ytpkhalneclmoeaa
set_option linter.unusedVariables false
set_option linter.unusedSimpArgs false
open Go.RowKit Go.Lib

def tw0 : Pm := Pm.new 0 0 (most 8)
def tw1 (a b : Nat) : Pm := tw0.joinS a b
def tw2 (a b : Nat) : Pm := (tw1 a b).tellS a
def tw3 (a b : Nat) : Pm := (tw2 a b).toldS b
def tw4 (a b : Nat) : Pm := (tw3 a b).joinS a b
def tw5 (a b : Nat) : Pm := (tw4 a b).joinS a b
def tw6 (a b : Nat) : Pm := (tw5 a b).goneS a b
def tw7 (a b : Nat) : Pm := (tw6 a b).goneS a b
theorem tw_says : ∀ a, a < 4 → ∀ b, b < 4 → (tw0.joinE (a : Nat) (b : Nat) = if a = 0 ∧ b = 0 then 8 else 6) ∧ ((tw3 a b).joinE a b = if a = 0 ∧ b = 0 then 8 else 0) ∧ (tw4 a b).joinE a b = 8 ∧ (tw5 a b).goneB a b = true ∧ (tw6 a b).goneB a b = false ∧ (tw7 a b).joinE a b = 0 := by decide +kernel

theorem did_below {W w w' : World} {pb : Nat} (b : Below W.heap.size W w) (c : Ch w w' (fun k => k = pb)) (hg : W.heap.size ≤ pb) : Below W.heap.size W w' :=
  ((Ch.of_below (fun k => k = pb) b).then_ (c.mono fun _ _ h => h)).below fun k hk e => by omega

set_option maxHeartbeats 6400000 in
theorem Twice_any (m n : Nat) (W : World) (hm : m < 256) (hn : n < 256) : Calls Try.prog 6 #[.int .u8 (m : Int), .int .u8 (n : Int)] W (Held W) := by
  have HW := Lib.hid (wakes_any W)
  have HN := Lib.hid (fun w => new_good (i := 0) (j := 0) (by decide) (by decide) 8 w)
  obtain ⟨a, ha⟩ : ∃ a, a = m % 4 := ⟨_, rfl⟩
  obtain ⟨b, hb⟩ : ∃ b, b = n % 4 := ⟨_, rfl⟩
  have hta : Int.tmod (m : Int) 4 = (a : Int) := by rw [Int.tmod_eq_emod_of_nonneg (by omega)]; omega
  have htb : Int.tmod (n : Int) 4 = (b : Int) := by rw [Int.tmod_eq_emod_of_nonneg (by omega)]; omega
  have hma : IntKind.i64.wrap (m : Int) = (m : Int) := by rw [IntKind.wrap_i64]; omega
  have hna : IntKind.i64.wrap (n : Int) = (n : Int) := by rw [IntKind.wrap_i64]; omega
  have hma2 : ((m : Int) % 4) = (a : Int) := by omega
  have hna2 : ((n : Int) % 4) = (b : Int) := by omega
  have ha4 : a < 4 := by omega
  have hb4 : b < 4 := by omega
  have hwa : IntKind.i64.wrap (a : Int) = (a : Int) := by rw [IntKind.wrap_i64]; omega
  have hwb : IntKind.i64.wrap (b : Int) = (b : Int) := by rw [IntKind.wrap_i64]; omega
  have hws : IntKind.i64.wrap ((a : Int) + (b : Int)) = (a : Int) + (b : Int) := by rw [IntKind.wrap_i64]; omega
  have HE := Lib.hid (tw_says a ha4 b hb4)
  clear ha hb hm hn
  unfold pr ptr at *
  by_cases h0 : a = 0 ∧ b = 0
  · have ka : ((a : Int) == 0) = true := by simp; omega
    have kb : ((b : Int) == 0) = true := by simp; omega
    have ks : decide ((0 : Int) < (a : Int) + (b : Int)) = false := decide_eq_false (by omega)
    have kn : ¬ (0 : Int) < (a : Int) + (b : Int) := by omega
    obtain ⟨E1, E4, E5, G6, G7, E8⟩ := HE.out
    replace E1 : tw0.joinE (a : Int) (b : Int) = 8 := E1.trans (if_pos h0)
    replace E4 : (tw3 a b).joinE (a : Int) (b : Int) = 8 := E4.trans (if_pos h0)
    have HE1 := Lib.hid E1
    have HE4 := Lib.hid E4
    have HE5 := Lib.hid E5
    have HG6 := Lib.hid G6
    have HG7 := Lib.hid G7
    have HE8 := Lib.hid E8
    clear E1 E4 E5 G6 G7 E8 HE ha4 hb4 h0
    go_enter Try.func6, Try.ntmps6
    go_wp2_with fail
    refine (HW.out).mono ?_
    rintro e w1 ⟨rfl, b1⟩
    have B1 := Lib.hid b1
    clear b1
    go_wp2_with fail
    refine (HN.out _).mono ?_
    rintro e w2 ⟨pb, rfl, S2, b2, hg⟩
    have B2 := Lib.hid (B1.out.trans (b2.mono B1.out.size))
    have HG : Hid (W.heap.size ≤ pb) := Lib.hid (Nat.le_trans B1.out.size hg)
    have HJ1 := Lib.hid (join_any (p := tw0) S2 (a : Int) (b : Int))
    rw [HE1.out] at HJ1
    clear S2 b2 hg HN
    unfold ptr at HJ1
    go_wp2_with fail
    refine (HJ1.out).mono ?_
    rintro e w3 ⟨rfl, S3, c3⟩
    have B3 := Lib.hid (did_below B2.out c3 HG.out)
    have HT2 := Lib.hid (tell_any (p := tw1 a b) S3 (a : Int))
    unfold ptr at HT2
    clear S3 c3 HJ1
    go_wp2_with fail
    refine (HT2.out).mono ?_
    rintro e w4 ⟨rfl, S4, c4⟩
    have B4 := Lib.hid (did_below B3.out c4 HG.out)
    have HT3 := Lib.hid (told_any (p := tw2 a b) S4 (b : Int))
    unfold ptr at HT3
    clear S4 c4 HT2
    go_wp2_with fail
    refine (HT3.out).mono ?_
    rintro e w5 ⟨⟨v, rfl⟩, S5, c5⟩
    have B5 := Lib.hid (did_below B4.out c5 HG.out)
    have HJ4 := Lib.hid (join_any (p := tw3 a b) S5 (a : Int) (b : Int))
    rw [HE4.out] at HJ4
    unfold ptr at HJ4
    clear S5 c5 HT3
    go_wp2_with fail
    refine (HJ4.out).mono ?_
    rintro e w6 ⟨rfl, S6, c6⟩
    have B6 := Lib.hid (did_below B5.out c6 HG.out)
    have HJ5 := Lib.hid (join_any (p := tw4 a b) S6 (a : Int) (b : Int))
    rw [HE5.out] at HJ5
    unfold ptr at HJ5
    clear S6 c6 HJ4
    go_wp2_with fail
    refine (HJ5.out).mono ?_
    rintro e w7 ⟨rfl, S7, c7⟩
    have B7 := Lib.hid (did_below B6.out c7 HG.out)
    have HG1 := Lib.hid (gone_any (p := tw5 a b) S7 (a : Int) (b : Int))
    rw [HG6.out] at HG1
    unfold ptr at HG1
    clear S7 c7 HJ5
    go_wp2_with fail
    refine (HG1.out).mono ?_
    rintro e w8 ⟨rfl, S8, c8⟩
    have B8 := Lib.hid (did_below B7.out c8 HG.out)
    have HG2 := Lib.hid (gone_any (p := tw6 a b) S8 (a : Int) (b : Int))
    rw [HG7.out] at HG2
    unfold ptr at HG2
    clear S8 c8 HG1
    go_wp2_with fail
    refine (HG2.out).mono ?_
    rintro e w9 ⟨rfl, S9, c9⟩
    have B9 := Lib.hid (did_below B8.out c9 HG.out)
    have HJ8 := Lib.hid (join_any (p := tw7 a b) S9 (a : Int) (b : Int))
    rw [HE8.out] at HJ8
    unfold ptr at HJ8
    clear S9 c9 HG2
    go_wp2_with fail
    refine (HJ8.out).mono ?_
    rintro e w10 ⟨rfl, S10, c10⟩
    have B10 := Lib.hid (did_below B9.out c10 HG.out)
    clear S10 c10 HJ8
    go_wp2_with fail
    go_ret
    exact ⟨rfl, B10.out⟩
  · by_cases h1 : a = 0
    · have hb0 : ¬ b = 0 := fun e => h0 ⟨h1, e⟩
      have ka : ((a : Int) == 0) = true := by simp; omega
      have kb : ((b : Int) == 0) = false := by simp; omega
      have ks : decide ((0 : Int) < (a : Int) + (b : Int)) = true := decide_eq_true (by omega)
      have kn : (0 : Int) < (a : Int) + (b : Int) := by omega
      obtain ⟨E1, E4, E5, G6, G7, E8⟩ := HE.out
      replace E1 : tw0.joinE (a : Int) (b : Int) = 6 := E1.trans (if_neg h0)
      replace E4 : (tw3 a b).joinE (a : Int) (b : Int) = 0 := E4.trans (if_neg h0)
      have HE1 := Lib.hid E1
      have HE4 := Lib.hid E4
      have HE5 := Lib.hid E5
      have HG6 := Lib.hid G6
      have HG7 := Lib.hid G7
      have HE8 := Lib.hid E8
      clear E1 E4 E5 G6 G7 E8 HE ha4 hb4 h0 h1 hb0
      go_enter Try.func6, Try.ntmps6
      go_wp2_with fail
      refine (HW.out).mono ?_
      rintro e w1 ⟨rfl, b1⟩
      have B1 := Lib.hid b1
      clear b1
      go_wp2_with fail
      refine (HN.out _).mono ?_
      rintro e w2 ⟨pb, rfl, S2, b2, hg⟩
      have B2 := Lib.hid (B1.out.trans (b2.mono B1.out.size))
      have HG : Hid (W.heap.size ≤ pb) := Lib.hid (Nat.le_trans B1.out.size hg)
      have HJ1 := Lib.hid (join_any (p := tw0) S2 (a : Int) (b : Int))
      rw [HE1.out] at HJ1
      clear S2 b2 hg HN
      unfold ptr at HJ1
      go_wp2_with fail
      refine (HJ1.out).mono ?_
      rintro e w3 ⟨rfl, S3, c3⟩
      have B3 := Lib.hid (did_below B2.out c3 HG.out)
      have HT2 := Lib.hid (tell_any (p := tw1 a b) S3 (a : Int))
      unfold ptr at HT2
      clear S3 c3 HJ1
      go_wp2_with fail
      refine (HT2.out).mono ?_
      rintro e w4 ⟨rfl, S4, c4⟩
      have B4 := Lib.hid (did_below B3.out c4 HG.out)
      have HT3 := Lib.hid (told_any (p := tw2 a b) S4 (b : Int))
      unfold ptr at HT3
      clear S4 c4 HT2
      go_wp2_with fail
      refine (HT3.out).mono ?_
      rintro e w5 ⟨⟨v, rfl⟩, S5, c5⟩
      have B5 := Lib.hid (did_below B4.out c5 HG.out)
      have HJ4 := Lib.hid (join_any (p := tw3 a b) S5 (a : Int) (b : Int))
      rw [HE4.out] at HJ4
      unfold ptr at HJ4
      clear S5 c5 HT3
      go_wp2_with fail
      refine (HJ4.out).mono ?_
      rintro e w6 ⟨rfl, S6, c6⟩
      have B6 := Lib.hid (did_below B5.out c6 HG.out)
      have HJ5 := Lib.hid (join_any (p := tw4 a b) S6 (a : Int) (b : Int))
      rw [HE5.out] at HJ5
      unfold ptr at HJ5
      clear S6 c6 HJ4
      go_wp2_with fail
      refine (HJ5.out).mono ?_
      rintro e w7 ⟨rfl, S7, c7⟩
      have B7 := Lib.hid (did_below B6.out c7 HG.out)
      have HG1 := Lib.hid (gone_any (p := tw5 a b) S7 (a : Int) (b : Int))
      rw [HG6.out] at HG1
      unfold ptr at HG1
      clear S7 c7 HJ5
      go_wp2_with fail
      refine (HG1.out).mono ?_
      rintro e w8 ⟨rfl, S8, c8⟩
      have B8 := Lib.hid (did_below B7.out c8 HG.out)
      have HG2 := Lib.hid (gone_any (p := tw6 a b) S8 (a : Int) (b : Int))
      rw [HG7.out] at HG2
      unfold ptr at HG2
      clear S8 c8 HG1
      go_wp2_with fail
      refine (HG2.out).mono ?_
      rintro e w9 ⟨rfl, S9, c9⟩
      have B9 := Lib.hid (did_below B8.out c9 HG.out)
      have HJ8 := Lib.hid (join_any (p := tw7 a b) S9 (a : Int) (b : Int))
      rw [HE8.out] at HJ8
      unfold ptr at HJ8
      clear S9 c9 HG2
      go_wp2_with fail
      refine (HJ8.out).mono ?_
      rintro e w10 ⟨rfl, S10, c10⟩
      have B10 := Lib.hid (did_below B9.out c10 HG.out)
      clear S10 c10 HJ8
      go_wp2_with fail
      go_ret
      exact ⟨rfl, B10.out⟩
    · have ka : ((a : Int) == 0) = false := by simp; omega
      have ks : decide ((0 : Int) < (a : Int) + (b : Int)) = true := decide_eq_true (by omega)
      have kn : (0 : Int) < (a : Int) + (b : Int) := by omega
      obtain ⟨E1, E4, E5, G6, G7, E8⟩ := HE.out
      replace E1 : tw0.joinE (a : Int) (b : Int) = 6 := E1.trans (if_neg h0)
      replace E4 : (tw3 a b).joinE (a : Int) (b : Int) = 0 := E4.trans (if_neg h0)
      have HE1 := Lib.hid E1
      have HE4 := Lib.hid E4
      have HE5 := Lib.hid E5
      have HG6 := Lib.hid G6
      have HG7 := Lib.hid G7
      have HE8 := Lib.hid E8
      clear E1 E4 E5 G6 G7 E8 HE ha4 hb4 h0 h1
      go_enter Try.func6, Try.ntmps6
      go_wp2_with fail
      refine (HW.out).mono ?_
      rintro e w1 ⟨rfl, b1⟩
      have B1 := Lib.hid b1
      clear b1
      go_wp2_with fail
      refine (HN.out _).mono ?_
      rintro e w2 ⟨pb, rfl, S2, b2, hg⟩
      have B2 := Lib.hid (B1.out.trans (b2.mono B1.out.size))
      have HG : Hid (W.heap.size ≤ pb) := Lib.hid (Nat.le_trans B1.out.size hg)
      have HJ1 := Lib.hid (join_any (p := tw0) S2 (a : Int) (b : Int))
      rw [HE1.out] at HJ1
      clear S2 b2 hg HN
      unfold ptr at HJ1
      go_wp2_with fail
      refine (HJ1.out).mono ?_
      rintro e w3 ⟨rfl, S3, c3⟩
      have B3 := Lib.hid (did_below B2.out c3 HG.out)
      have HT2 := Lib.hid (tell_any (p := tw1 a b) S3 (a : Int))
      unfold ptr at HT2
      clear S3 c3 HJ1
      go_wp2_with fail
      refine (HT2.out).mono ?_
      rintro e w4 ⟨rfl, S4, c4⟩
      have B4 := Lib.hid (did_below B3.out c4 HG.out)
      have HT3 := Lib.hid (told_any (p := tw2 a b) S4 (b : Int))
      unfold ptr at HT3
      clear S4 c4 HT2
      go_wp2_with fail
      refine (HT3.out).mono ?_
      rintro e w5 ⟨⟨v, rfl⟩, S5, c5⟩
      have B5 := Lib.hid (did_below B4.out c5 HG.out)
      have HJ4 := Lib.hid (join_any (p := tw3 a b) S5 (a : Int) (b : Int))
      rw [HE4.out] at HJ4
      unfold ptr at HJ4
      clear S5 c5 HT3
      go_wp2_with fail
      refine (HJ4.out).mono ?_
      rintro e w6 ⟨rfl, S6, c6⟩
      have B6 := Lib.hid (did_below B5.out c6 HG.out)
      have HJ5 := Lib.hid (join_any (p := tw4 a b) S6 (a : Int) (b : Int))
      rw [HE5.out] at HJ5
      unfold ptr at HJ5
      clear S6 c6 HJ4
      go_wp2_with fail
      refine (HJ5.out).mono ?_
      rintro e w7 ⟨rfl, S7, c7⟩
      have B7 := Lib.hid (did_below B6.out c7 HG.out)
      have HG1 := Lib.hid (gone_any (p := tw5 a b) S7 (a : Int) (b : Int))
      rw [HG6.out] at HG1
      unfold ptr at HG1
      clear S7 c7 HJ5
      go_wp2_with fail
      refine (HG1.out).mono ?_
      rintro e w8 ⟨rfl, S8, c8⟩
      have B8 := Lib.hid (did_below B7.out c8 HG.out)
      have HG2 := Lib.hid (gone_any (p := tw6 a b) S8 (a : Int) (b : Int))
      rw [HG7.out] at HG2
      unfold ptr at HG2
      clear S8 c8 HG1
      go_wp2_with fail
      refine (HG2.out).mono ?_
      rintro e w9 ⟨rfl, S9, c9⟩
      have B9 := Lib.hid (did_below B8.out c9 HG.out)
      have HJ8 := Lib.hid (join_any (p := tw7 a b) S9 (a : Int) (b : Int))
      rw [HE8.out] at HJ8
      unfold ptr at HJ8
      clear S9 c9 HG2
      go_wp2_with fail
      refine (HJ8.out).mono ?_
      rintro e w10 ⟨rfl, S10, c10⟩
      have B10 := Lib.hid (did_below B9.out c10 HG.out)
      clear S10 c10 HJ8
      go_wp2_with fail
      go_ret
      exact ⟨rfl, B10.out⟩
end Go.Proofs.Ytpkhalneclmoeaa

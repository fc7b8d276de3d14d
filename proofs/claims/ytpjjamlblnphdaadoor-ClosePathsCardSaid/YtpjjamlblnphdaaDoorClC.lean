/- The document's own answers: where a move leads, and whether some move leads from one to another. No condition. -/
import Derived.Test.YtpjjamlblnphdaaDoorClB
namespace Go.Proofs.YtpjjamlblnphdaaDoor
set_option linter.unusedVariables false
set_option linter.unusedSimpArgs false
open Go.RowKit Go.Lib

set_option maxHeartbeats 3200000 in
theorem To_in (s e : Int) (w : World) (hs : s = 0 ∨ s = 1 ∨ s = 2 ∨ s = 3 ∨ s = 4 ∨ s = 5 ∨ s = 6 ∨ s = 7) (he : e = 0 ∨ e = 1 ∨ e = 2 ∨ e = 3 ∨ e = 4 ∨ e = 5) : Calls Tryd.prog 9 #[.int .i64 s, .int .i64 e] w fun x w' => x = .returned (.int .i64 (to_ s e)) ∧ w' = w := by
  rcases hs with rfl | rfl | rfl | rfl | rfl | rfl | rfl | rfl <;> rcases he with rfl | rfl | rfl | rfl | rfl | rfl
  all_goals
    go_enter Tryd.func9, Tryd.ntmps9
    go_wp2_with fail
    go_ret
    exact ⟨rfl, rfl⟩
set_option maxHeartbeats 3200000 in
theorem To_ev (s e : Int) (w : World) (hs : s = 0 ∨ s = 1 ∨ s = 2 ∨ s = 3 ∨ s = 4 ∨ s = 5 ∨ s = 6 ∨ s = 7) (he : e < 0 ∨ 6 ≤ e) : Calls Tryd.prog 9 #[.int .i64 s, .int .i64 e] w fun x w' => x = .returned (.int .i64 (to_ s e)) ∧ w' = w := by
  have HT : Hid (to_ s e = -1) := Lib.hid (by unfold to_; rw [fnd_out (.inr (.inr he))]; rfl)
  have e0 : (e == 0) = false := by simp; omega
  have e1 : (e == 1) = false := by simp; omega
  have e2 : (e == 2) = false := by simp; omega
  have e3 : (e == 3) = false := by simp; omega
  have e4 : (e == 4) = false := by simp; omega
  have e5 : (e == 5) = false := by simp; omega
  clear he
  generalize to_ s e = r at *
  rcases hs with rfl | rfl | rfl | rfl | rfl | rfl | rfl | rfl
  all_goals
    go_enter Tryd.func9, Tryd.ntmps9
    go_wp2_with fail
    go_ret
    exact ⟨by rw [HT.out]; rfl, rfl⟩
set_option maxHeartbeats 3200000 in
theorem To_out (s e : Int) (w : World) (hs : s < 0 ∨ 8 ≤ s) : Calls Tryd.prog 9 #[.int .i64 s, .int .i64 e] w fun x w' => x = .returned (.int .i64 (to_ s e)) ∧ w' = w := by
  have HT : Hid (to_ s e = -1) := Lib.hid (by unfold to_; rw [fnd_out (by omega)]; rfl)
  have e0 : (s == 0) = false := by simp; omega
  have e1 : (s == 1) = false := by simp; omega
  have e2 : (s == 2) = false := by simp; omega
  have e3 : (s == 3) = false := by simp; omega
  have e4 : (s == 4) = false := by simp; omega
  have e5 : (s == 5) = false := by simp; omega
  have e6 : (s == 6) = false := by simp; omega
  have e7 : (s == 7) = false := by simp; omega
  by_cases h5 : e = 5
  · subst h5
    by_cases h0 : 0 ≤ s
    · have h8 : decide (s < 8) = false := decide_eq_false (by omega)
      have h8' : ¬ s < 8 := by omega
      have h0' : decide (0 ≤ s) = true := decide_eq_true h0
      clear hs
      generalize to_ s 5 = r at *
      go_enter Tryd.func9, Tryd.ntmps9
      go_wp2_with fail
      go_ret
      exact ⟨by rw [HT.out]; rfl, rfl⟩
    · have h0' : decide (0 ≤ s) = false := decide_eq_false h0
      clear hs
      generalize to_ s 5 = r at *
      go_enter Tryd.func9, Tryd.ntmps9
      go_wp2_with fail
      go_ret
      exact ⟨by rw [HT.out]; rfl, rfl⟩
  · have h5' : (e == 5) = false := by simpa using h5
    clear h5 hs
    generalize to_ s e = r at *
    go_enter Tryd.func9, Tryd.ntmps9
    go_wp2_with fail
    go_ret
    exact ⟨by rw [HT.out]; rfl, rfl⟩
theorem To_any (s e : Int) (w : World) : Calls Tryd.prog 9 #[.int .i64 s, .int .i64 e] w fun x w' => x = .returned (.int .i64 (to_ s e)) ∧ w' = w := by
  by_cases hs : s < 0 ∨ 8 ≤ s
  · exact To_out s e w hs
  · by_cases he : e < 0 ∨ 6 ≤ e
    · exact To_ev s e w (by omega) he
    · exact To_in s e w (by omega) (by omega)

/-- The document's: some move leads from one to the other, or they are the same. -/
theorem Leads_any (a b : Int) (w : World) : Calls Tryd.prog 12 #[.int .i64 a, .int .i64 b] w fun x w' => x = .returned (.bool (ld a b)) ∧ w' = w := by
  have HT := Lib.hid (fun e => To_any a e w)
  have HY := Lib.hid (fun e => @ld_hit a b e)
  have HN := Lib.hid (@ld_none a b)
  go_enter Tryd.func12, Tryd.ntmps12
  go_wp2_with fail
  go_loopw [5] (fun ix wr => ∃ k : Nat, k ≤ 6 ∧ ix = .int .i64 (k : Int) ∧ wr = w ∧ ∀ j : Nat, j < k → ¬ (to_ a (j : Int) = b ∧ 0 ≤ b)) (fun ix _ => 6 - (intOf ix).toNat)
  case atStart => exact ⟨0, by omega, rfl, rfl, fun j hj => absurd hj (by omega)⟩
  case round =>
    obtain ⟨k, hk, rfl, rfl, hno⟩ := hrel
    have HNO := Lib.hid hno
    clear hno
    by_cases hlt : k < 6
    · have HK := Lib.hid hlt
      have hlt' : (k : Int) ≤ 5 := by omega
      have HYK := Lib.hid (HY.out (k : Int))
      have HTK := Lib.hid (HT.out (k : Int))
      have HS : Hid (¬ (to_ a (k : Int) = b ∧ 0 ≤ b) → ∀ j : Nat, j < k + 1 → ¬ (to_ a (j : Int) = b ∧ 0 ≤ b)) := Lib.hid fun h j hj => by
        rcases Nat.lt_succ_iff_lt_or_eq.1 hj with h1 | rfl
        · exact HNO.out j h1
        · exact h
      clear HT HY
      go_wp2_with fail
      refine (HTK.out).mono ?_
      rintro x w1 ⟨rfl, rfl⟩
      clear HTK
      generalize to_ a (k : Int) = t at *
      by_cases h1 : t = b
      · by_cases h2 : 0 ≤ b
        · have HR := Lib.hid (HYK.out h1 h2)
          have e1 : (t == b) = true := by simpa using h1
          have e2 : decide (0 ≤ b) = true := decide_eq_true h2
          clear h1 HYK HS
          go_wp2_with fail
          go_ret
          exact ⟨by rw [HR.out]; rfl, rfl⟩
        · have HR := Lib.hid (HS.out fun h => h2 h.2)
          have e1 : (t == b) = true := by simpa using h1
          have e2 : decide (0 ≤ b) = false := decide_eq_false h2
          clear h1 HYK HS
          go_wp2_with fail
          go_roundw
          case rel => exact ⟨k + 1, HK.out, by go_num, trivial, HR.out⟩
          case measure => have := HK.out; simp [intOf]; omega
      · have HR := Lib.hid (HS.out fun h => h1 h.1)
        have e1 : (t == b) = false := by simpa using h1
        clear h1 HYK HS
        go_wp2_with fail
        go_roundw
        case rel => exact ⟨k + 1, HK.out, by go_num, trivial, HR.out⟩
        case measure => have := HK.out; simp [intOf]; omega
    · obtain rfl : k = 6 := by omega
      have HR := Lib.hid (HN.out HNO.out)
      go_wp2_with fail
      go_ret
      refine ⟨?_, rfl⟩
      rw [HR.out]
      rfl
end Go.Proofs.YtpjjamlblnphdaaDoor

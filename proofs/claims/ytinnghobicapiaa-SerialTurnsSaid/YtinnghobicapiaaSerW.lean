/- The walks of the laws SerialSays, SerialGoes, SerialTurns and SerialIn. No condition. -/
import Derived.Test.YtinnghobicapiaaSerB
namespace Go.Proofs.Ytinnghobicapiaa
set_option linter.unusedVariables false
open Go.RowKit

set_option maxHeartbeats 1600000 in
theorem Says_any (a b : Nat) (n : Int) (w : World) (ha : a < 4294967296) (hb : b < 4294967296) (hn : -9223372036854775808 ≤ n ∧ n ≤ 9223372036854775807) :
    Calls Try.prog 3 #[.int .u32 (a : Int), .int .u32 (b : Int), .int .i64 n] w (Held w) := by
  have HW := Lib.hid wakes_any
  have HS := Lib.hid (fun W => Steps_any a b W ha hb)
  have RS := Lib.hid (fun W => rSteps_any a b W ha hb)
  have HB := Lib.hid (fun W => Before_any a b W ha hb)
  have RB := Lib.hid (fun W => rBefore_any a b W ha hb)
  have HL := Lib.hid (fun W => Later_any a b W ha hb)
  have HO := Lib.hid (fun W => On_any a n W ha hn)
  have RO := Lib.hid (fun W => rOn_any a n W ha hn)
  have HI := Lib.hid (fun W => In_any b a n W hb ha hn)
  have hx := st_lt a b
  have ho := on_lt a n
  unfold lt2 at HL
  generalize st a b = x at *
  generalize on a n = o at *
  generalize bf a b = d at *
  by_cases hi : (x : Int) < n
  · rw [decide_eq_true hi] at HI
    cases d
    · rw [if_neg (by simp)] at HL
      go_enter Try.func3, Try.ntmps3
      go_wp2_with fail
      refine (HW.out _).mono ?_
      rintro e w1 ⟨rfl, b1⟩
      go_wp2_with fail
      refine (RB.out _).mono ?_
      rintro e w2 ⟨rfl, d2⟩
      have b2 := below_trans b1 d2
      clear b1 d2
      go_wp2_with fail
      refine (HS.out _).mono ?_
      rintro e w3 ⟨rfl, d3⟩
      have b3 := below_trans b2 d3
      clear b2 d3
      go_wp2_with fail
      refine (RS.out _).mono ?_
      rintro e w4 ⟨rfl, d4⟩
      have b4 := below_trans b3 d4
      clear b3 d4
      go_wp2_with fail
      refine (HB.out _).mono ?_
      rintro e w5 ⟨rfl, d5⟩
      have b5 := below_trans b4 d5
      clear b4 d5
      go_wp2_with fail
      refine (RB.out _).mono ?_
      rintro e w6 ⟨rfl, d6⟩
      have b6 := below_trans b5 d6
      clear b5 d6
      go_wp2_with fail
      refine (HL.out _).mono ?_
      rintro e w7 ⟨rfl, d7⟩
      have b7 := below_trans b6 d7
      clear b6 d7
      go_wp2_with fail
      refine (HO.out _).mono ?_
      rintro e w8 ⟨rfl, d8⟩
      have b8 := below_trans b7 d8
      clear b7 d8
      go_wp2_with fail
      refine (RO.out _).mono ?_
      rintro e w9 ⟨rfl, d9⟩
      have b9 := below_trans b8 d9
      clear b8 d9
      go_wp2_with fail
      refine (HI.out _).mono ?_
      rintro e w10 ⟨rfl, d10⟩
      have b10 := below_trans b9 d10
      clear b9 d10
      go_wp2_with fail
      refine (RS.out _).mono ?_
      rintro e w11 ⟨rfl, d11⟩
      have b11 := below_trans b10 d11
      clear b10 d11
      go_wp2_with fail
      go_ret
      exact ⟨rfl, b11⟩
    · rw [if_pos rfl] at HL
      go_enter Try.func3, Try.ntmps3
      go_wp2_with fail
      refine (HW.out _).mono ?_
      rintro e w1 ⟨rfl, b1⟩
      go_wp2_with fail
      refine (RB.out _).mono ?_
      rintro e w2 ⟨rfl, d2⟩
      have b2 := below_trans b1 d2
      clear b1 d2
      go_wp2_with fail
      refine (HS.out _).mono ?_
      rintro e w3 ⟨rfl, d3⟩
      have b3 := below_trans b2 d3
      clear b2 d3
      go_wp2_with fail
      refine (RS.out _).mono ?_
      rintro e w4 ⟨rfl, d4⟩
      have b4 := below_trans b3 d4
      clear b3 d4
      go_wp2_with fail
      refine (HB.out _).mono ?_
      rintro e w5 ⟨rfl, d5⟩
      have b5 := below_trans b4 d5
      clear b4 d5
      go_wp2_with fail
      refine (RB.out _).mono ?_
      rintro e w6 ⟨rfl, d6⟩
      have b6 := below_trans b5 d6
      clear b5 d6
      go_wp2_with fail
      refine (HL.out _).mono ?_
      rintro e w7 ⟨rfl, d7⟩
      have b7 := below_trans b6 d7
      clear b6 d7
      go_wp2_with fail
      refine (HO.out _).mono ?_
      rintro e w8 ⟨rfl, d8⟩
      have b8 := below_trans b7 d8
      clear b7 d8
      go_wp2_with fail
      refine (RO.out _).mono ?_
      rintro e w9 ⟨rfl, d9⟩
      have b9 := below_trans b8 d9
      clear b8 d9
      go_wp2_with fail
      refine (HI.out _).mono ?_
      rintro e w10 ⟨rfl, d10⟩
      have b10 := below_trans b9 d10
      clear b9 d10
      go_wp2_with fail
      refine (RS.out _).mono ?_
      rintro e w11 ⟨rfl, d11⟩
      have b11 := below_trans b10 d11
      clear b10 d11
      go_wp2_with fail
      go_ret
      exact ⟨rfl, b11⟩
  · rw [decide_eq_false hi] at HI
    have hf : decide ((x : Int) < n) = false := decide_eq_false hi
    clear hi
    cases d
    · rw [if_neg (by simp)] at HL
      go_enter Try.func3, Try.ntmps3
      go_wp2_with fail
      refine (HW.out _).mono ?_
      rintro e w1 ⟨rfl, b1⟩
      go_wp2_with fail
      refine (RB.out _).mono ?_
      rintro e w2 ⟨rfl, d2⟩
      have b2 := below_trans b1 d2
      clear b1 d2
      go_wp2_with fail
      refine (HS.out _).mono ?_
      rintro e w3 ⟨rfl, d3⟩
      have b3 := below_trans b2 d3
      clear b2 d3
      go_wp2_with fail
      refine (RS.out _).mono ?_
      rintro e w4 ⟨rfl, d4⟩
      have b4 := below_trans b3 d4
      clear b3 d4
      go_wp2_with fail
      refine (HB.out _).mono ?_
      rintro e w5 ⟨rfl, d5⟩
      have b5 := below_trans b4 d5
      clear b4 d5
      go_wp2_with fail
      refine (RB.out _).mono ?_
      rintro e w6 ⟨rfl, d6⟩
      have b6 := below_trans b5 d6
      clear b5 d6
      go_wp2_with fail
      refine (HL.out _).mono ?_
      rintro e w7 ⟨rfl, d7⟩
      have b7 := below_trans b6 d7
      clear b6 d7
      go_wp2_with fail
      refine (HO.out _).mono ?_
      rintro e w8 ⟨rfl, d8⟩
      have b8 := below_trans b7 d8
      clear b7 d8
      go_wp2_with fail
      refine (RO.out _).mono ?_
      rintro e w9 ⟨rfl, d9⟩
      have b9 := below_trans b8 d9
      clear b8 d9
      go_wp2_with fail
      refine (HI.out _).mono ?_
      rintro e w10 ⟨rfl, d10⟩
      have b10 := below_trans b9 d10
      clear b9 d10
      go_wp2_with fail
      refine (RS.out _).mono ?_
      rintro e w11 ⟨rfl, d11⟩
      have b11 := below_trans b10 d11
      clear b10 d11
      go_wp2_with fail
      go_ret
      exact ⟨rfl, b11⟩
    · rw [if_pos rfl] at HL
      go_enter Try.func3, Try.ntmps3
      go_wp2_with fail
      refine (HW.out _).mono ?_
      rintro e w1 ⟨rfl, b1⟩
      go_wp2_with fail
      refine (RB.out _).mono ?_
      rintro e w2 ⟨rfl, d2⟩
      have b2 := below_trans b1 d2
      clear b1 d2
      go_wp2_with fail
      refine (HS.out _).mono ?_
      rintro e w3 ⟨rfl, d3⟩
      have b3 := below_trans b2 d3
      clear b2 d3
      go_wp2_with fail
      refine (RS.out _).mono ?_
      rintro e w4 ⟨rfl, d4⟩
      have b4 := below_trans b3 d4
      clear b3 d4
      go_wp2_with fail
      refine (HB.out _).mono ?_
      rintro e w5 ⟨rfl, d5⟩
      have b5 := below_trans b4 d5
      clear b4 d5
      go_wp2_with fail
      refine (RB.out _).mono ?_
      rintro e w6 ⟨rfl, d6⟩
      have b6 := below_trans b5 d6
      clear b5 d6
      go_wp2_with fail
      refine (HL.out _).mono ?_
      rintro e w7 ⟨rfl, d7⟩
      have b7 := below_trans b6 d7
      clear b6 d7
      go_wp2_with fail
      refine (HO.out _).mono ?_
      rintro e w8 ⟨rfl, d8⟩
      have b8 := below_trans b7 d8
      clear b7 d8
      go_wp2_with fail
      refine (RO.out _).mono ?_
      rintro e w9 ⟨rfl, d9⟩
      have b9 := below_trans b8 d9
      clear b8 d9
      go_wp2_with fail
      refine (HI.out _).mono ?_
      rintro e w10 ⟨rfl, d10⟩
      have b10 := below_trans b9 d10
      clear b9 d10
      go_wp2_with fail
      refine (RS.out _).mono ?_
      rintro e w11 ⟨rfl, d11⟩
      have b11 := below_trans b10 d11
      clear b10 d11
      go_wp2_with fail
      go_ret
      exact ⟨rfl, b11⟩

theorem st_self (a : Nat) : st a a = 0 := by unfold st; omega
theorem bf_self (a : Nat) : bf a a = false := bf_no (by rw [st_self]; omega)
theorem st_turn {a b : Nat} (ha : a < 4294967296) (hb : b < 4294967296) : (st b a : Int) = (-(st a b : Int)) % 4294967296 := by
  have h1 := st_int ha hb
  have h2 := st_int hb ha
  omega
theorem st_zero {a b : Nat} (ha : a < 4294967296) (hb : b < 4294967296) (h : st a b = 0) : a = b := by
  have h1 := st_int ha hb
  omega
theorem bf_half {a b : Nat} (ha : a < 4294967296) (hb : b < 4294967296) (h : (st a b : Int) = 2147483648) : bf a b = false ∧ bf b a = false := by
  have h1 := st_turn ha hb
  exact ⟨bf_no (by omega), bf_no (by omega)⟩
theorem bf_turn {a b : Nat} (ha : a < 4294967296) (hb : b < 4294967296) (hab : a ≠ b) (h : (st a b : Int) ≠ 2147483648) : bf b a = !bf a b := by
  have h1 := st_turn ha hb
  have h0 : st a b ≠ 0 := fun e => hab (st_zero ha hb e)
  have hl := st_lt a b
  by_cases hc : st a b < 2147483648
  · rw [bf_yes (by omega) hc, bf_no (by omega)]
    rfl
  · rw [bf_no (a := a) (b := b) (by omega), bf_yes (a := b) (b := a) (by omega) (by omega)]
    rfl

set_option maxHeartbeats 1600000 in
theorem Goes_any (a b : Nat) (w : World) (ha : a < 4294967296) (hb : b < 4294967296) :
    Calls Try.prog 4 #[.int .u32 (a : Int), .int .u32 (b : Int)] w (Held w) := by
  have hx := st_lt a b
  have HW := Lib.hid wakes_any
  have HS := Lib.hid (fun W => Steps_any a b W ha hb)
  have HA := Lib.hid (fun W => On_any a (st a b : Int) W ha (by omega))
  have HC := Lib.hid (fun W => On_any b (-(st a b : Int)) W hb (by omega))
  rw [on_st ha hb] at HA
  rw [on_back ha hb] at HC
  have HB := Lib.hid (fun W => Before_any a b W ha hb)
  have HD := Lib.hid (fun W => Before_any b a W hb ha)
  by_cases hab : a = b
  · subst hab
    rw [bf_self] at HB HD
    generalize st a a = x at *
    go_enter Try.func4, Try.ntmps4
    go_wp2_with fail
    refine (HW.out _).mono ?_
    rintro e w1 ⟨rfl, b1⟩
    go_wp2_with fail
    refine (HS.out _).mono ?_
    rintro e w2 ⟨rfl, d2⟩
    have b2 := below_trans b1 d2
    clear b1 d2
    go_wp2_with fail
    refine (HA.out _).mono ?_
    rintro e w3 ⟨rfl, d3⟩
    have b3 := below_trans b2 d3
    clear b2 d3
    go_wp2_with fail
    refine (HS.out _).mono ?_
    rintro e w4 ⟨rfl, d4⟩
    have b4 := below_trans b3 d4
    clear b3 d4
    go_wp2_with fail
    refine (HC.out _).mono ?_
    rintro e w5 ⟨rfl, d5⟩
    have b5 := below_trans b4 d5
    clear b4 d5
    go_wp2_with fail
    refine (HB.out _).mono ?_
    rintro e w6 ⟨rfl, d6⟩
    have b6 := below_trans b5 d6
    clear b5 d6
    go_wp2_with fail
    refine (HD.out _).mono ?_
    rintro e w7 ⟨rfl, d7⟩
    have b7 := below_trans b6 d7
    clear b6 d7
    go_wp2_with fail
    go_ret
    exact ⟨rfl, b7⟩
  · by_cases hh : (st a b : Int) = 2147483648
    · obtain ⟨e1, e2⟩ := bf_half ha hb hh
      rw [e1] at HB
      rw [e2] at HD
      rw [hh] at HS HA HC
      have hab' : ((a : Int) == (b : Int)) = false := beq_eq_false_iff_ne.2 (by omega)
      clear e1 e2 hh hab hx
      go_enter Try.func4, Try.ntmps4
      go_wp2_with fail
      refine (HW.out _).mono ?_
      rintro e w1 ⟨rfl, b1⟩
      go_wp2_with fail
      refine (HS.out _).mono ?_
      rintro e w2 ⟨rfl, d2⟩
      have b2 := below_trans b1 d2
      clear b1 d2
      go_wp2_with fail
      refine (HA.out _).mono ?_
      rintro e w3 ⟨rfl, d3⟩
      have b3 := below_trans b2 d3
      clear b2 d3
      go_wp2_with fail
      refine (HS.out _).mono ?_
      rintro e w4 ⟨rfl, d4⟩
      have b4 := below_trans b3 d4
      clear b3 d4
      go_wp2_with fail
      refine (HC.out _).mono ?_
      rintro e w5 ⟨rfl, d5⟩
      have b5 := below_trans b4 d5
      clear b4 d5
      go_wp2_with fail
      refine (HS.out _).mono ?_
      rintro e w6 ⟨rfl, d6⟩
      have b6 := below_trans b5 d6
      clear b5 d6
      go_wp2_with fail
      refine (HB.out _).mono ?_
      rintro e w7 ⟨rfl, d7⟩
      have b7 := below_trans b6 d7
      clear b6 d7
      go_wp2_with fail
      refine (HD.out _).mono ?_
      rintro e w8 ⟨rfl, d8⟩
      have b8 := below_trans b7 d8
      clear b7 d8
      go_wp2_with fail
      go_ret
      exact ⟨rfl, b8⟩
    · rw [bf_turn ha hb hab hh] at HD
      have hab' : ((a : Int) == (b : Int)) = false := beq_eq_false_iff_ne.2 (by omega)
      have hh' : ((st a b : Int) == 2147483648) = false := beq_eq_false_iff_ne.2 hh
      clear hh hab
      generalize st a b = x at *
      generalize bf a b = d at *
      cases d
      · rw [Bool.not_false] at HD
        go_enter Try.func4, Try.ntmps4
        go_wp2_with fail
        refine (HW.out _).mono ?_
        rintro e w1 ⟨rfl, b1⟩
        go_wp2_with fail
        refine (HS.out _).mono ?_
        rintro e w2 ⟨rfl, d2⟩
        have b2 := below_trans b1 d2
        clear b1 d2
        go_wp2_with fail
        refine (HA.out _).mono ?_
        rintro e w3 ⟨rfl, d3⟩
        have b3 := below_trans b2 d3
        clear b2 d3
        go_wp2_with fail
        refine (HS.out _).mono ?_
        rintro e w4 ⟨rfl, d4⟩
        have b4 := below_trans b3 d4
        clear b3 d4
        go_wp2_with fail
        refine (HC.out _).mono ?_
        rintro e w5 ⟨rfl, d5⟩
        have b5 := below_trans b4 d5
        clear b4 d5
        go_wp2_with fail
        refine (HS.out _).mono ?_
        rintro e w6 ⟨rfl, d6⟩
        have b6 := below_trans b5 d6
        clear b5 d6
        go_wp2_with fail
        refine (HB.out _).mono ?_
        rintro e w7 ⟨rfl, d7⟩
        have b7 := below_trans b6 d7
        clear b6 d7
        go_wp2_with fail
        refine (HD.out _).mono ?_
        rintro e w8 ⟨rfl, d8⟩
        have b8 := below_trans b7 d8
        clear b7 d8
        go_wp2_with fail
        go_ret
        exact ⟨rfl, b8⟩
      · rw [Bool.not_true] at HD
        go_enter Try.func4, Try.ntmps4
        go_wp2_with fail
        refine (HW.out _).mono ?_
        rintro e w1 ⟨rfl, b1⟩
        go_wp2_with fail
        refine (HS.out _).mono ?_
        rintro e w2 ⟨rfl, d2⟩
        have b2 := below_trans b1 d2
        clear b1 d2
        go_wp2_with fail
        refine (HA.out _).mono ?_
        rintro e w3 ⟨rfl, d3⟩
        have b3 := below_trans b2 d3
        clear b2 d3
        go_wp2_with fail
        refine (HS.out _).mono ?_
        rintro e w4 ⟨rfl, d4⟩
        have b4 := below_trans b3 d4
        clear b3 d4
        go_wp2_with fail
        refine (HC.out _).mono ?_
        rintro e w5 ⟨rfl, d5⟩
        have b5 := below_trans b4 d5
        clear b4 d5
        go_wp2_with fail
        refine (HS.out _).mono ?_
        rintro e w6 ⟨rfl, d6⟩
        have b6 := below_trans b5 d6
        clear b5 d6
        go_wp2_with fail
        refine (HB.out _).mono ?_
        rintro e w7 ⟨rfl, d7⟩
        have b7 := below_trans b6 d7
        clear b6 d7
        go_wp2_with fail
        refine (HD.out _).mono ?_
        rintro e w8 ⟨rfl, d8⟩
        have b8 := below_trans b7 d8
        clear b7 d8
        go_wp2_with fail
        go_ret
        exact ⟨rfl, b8⟩

theorem bf_on_on {a b : Nat} (ha : a < 4294967296) (hb : b < 4294967296) (n : Int) : bf (on a n) (on b n) = bf a b := by unfold bf; rw [st_on ha hb]
theorem lt2_on {a b : Nat} (ha : a < 4294967296) (hb : b < 4294967296) (n : Int) : lt2 (on a n) (on b n) = on (lt2 a b) n := by
  unfold lt2
  rw [bf_on_on ha hb]
  split <;> rfl

set_option maxHeartbeats 1600000 in
theorem Turns_any (a b : Nat) (n : Int) (w : World) (ha : a < 4294967296) (hb : b < 4294967296) (hn : -9223372036854775808 ≤ n ∧ n ≤ 9223372036854775807) :
    Calls Try.prog 5 #[.int .u32 (a : Int), .int .u32 (b : Int), .int .i64 n] w (Held w) := by
  have hp := on_lt a n
  have hq := on_lt b n
  have hl := lt2_lt ha hb
  have HW := Lib.hid wakes_any
  have HA := Lib.hid (fun W => On_any a n W ha hn)
  have HC := Lib.hid (fun W => On_any b n W hb hn)
  have HB := Lib.hid (fun W => Before_any a b W ha hb)
  have HD := Lib.hid (fun W => Before_any (on a n) (on b n) W hp hq)
  have HS := Lib.hid (fun W => Steps_any a b W ha hb)
  have HT := Lib.hid (fun W => Steps_any (on a n) (on b n) W hp hq)
  have HL := Lib.hid (fun W => Later_any a b W ha hb)
  have HM := Lib.hid (fun W => Later_any (on a n) (on b n) W hp hq)
  have HO := Lib.hid (fun W => On_any (lt2 a b) n W hl hn)
  have hx := st_lt a b
  have ho := on_lt (lt2 a b) n
  rw [bf_on_on ha hb] at HD
  rw [st_on ha hb] at HT
  rw [lt2_on ha hb] at HM
  generalize on (lt2 a b) n = o at *
  generalize lt2 a b = l at *
  generalize st a b = x at *
  generalize bf a b = d at *
  generalize on a n = p at *
  generalize on b n = q at *
  go_enter Try.func5, Try.ntmps5
  go_wp2_with fail
  refine (HW.out _).mono ?_
  rintro e w1 ⟨rfl, b1⟩
  go_wp2_with fail
  refine (HA.out _).mono ?_
  rintro e w2 ⟨rfl, d2⟩
  have b2 := below_trans b1 d2
  clear b1 d2
  go_wp2_with fail
  refine (HC.out _).mono ?_
  rintro e w3 ⟨rfl, d3⟩
  have b3 := below_trans b2 d3
  clear b2 d3
  go_wp2_with fail
  refine (HD.out _).mono ?_
  rintro e w4 ⟨rfl, d4⟩
  have b4 := below_trans b3 d4
  clear b3 d4
  go_wp2_with fail
  refine (HB.out _).mono ?_
  rintro e w5 ⟨rfl, d5⟩
  have b5 := below_trans b4 d5
  clear b4 d5
  go_wp2_with fail
  refine (HT.out _).mono ?_
  rintro e w6 ⟨rfl, d6⟩
  have b6 := below_trans b5 d6
  clear b5 d6
  go_wp2_with fail
  refine (HS.out _).mono ?_
  rintro e w7 ⟨rfl, d7⟩
  have b7 := below_trans b6 d7
  clear b6 d7
  go_wp2_with fail
  refine (HM.out _).mono ?_
  rintro e w8 ⟨rfl, d8⟩
  have b8 := below_trans b7 d8
  clear b7 d8
  go_wp2_with fail
  refine (HL.out _).mono ?_
  rintro e w9 ⟨rfl, d9⟩
  have b9 := below_trans b8 d9
  clear b8 d9
  go_wp2_with fail
  refine (HO.out _).mono ?_
  rintro e w10 ⟨rfl, d10⟩
  have b10 := below_trans b9 d10
  clear b9 d10
  go_wp2_with fail
  go_ret
  exact ⟨rfl, b10⟩

set_option maxHeartbeats 1600000 in
theorem In1_any (a k : Nat) (w : World) (ha : a < 4294967296) (hk : k < 65536) :
    Calls Try.prog 6 #[.int .u32 (a : Int), .int .u16 (k : Int)] w (Held w) := by
  have s1 := st_on_self ha (-1)
  have s2 := st_on_self ha (k : Int)
  have s3 := st_on_self ha ((k : Int) - 1)
  have HW := Lib.hid wakes_any
  have HI := Lib.hid (fun W => In_any a a (k : Int) W ha ha (by omega))
  have HA := Lib.hid (fun W => On_any a (-1) W ha (by omega))
  have HB := Lib.hid (fun W => In_any (on a (-1)) a (k : Int) W (on_lt _ _) ha (by omega))
  have HC := Lib.hid (fun W => On_any a (k : Int) W ha (by omega))
  have HD := Lib.hid (fun W => In_any (on a (k : Int)) a (k : Int) W (on_lt _ _) ha (by omega))
  have HE := Lib.hid (fun W => On_any a ((k : Int) - 1) W ha (by omega))
  have HF := Lib.hid (fun W => In_any (on a ((k : Int) - 1)) a (k : Int) W (on_lt _ _) ha (by omega))
  have l1 := on_lt a (-1)
  have l2 := on_lt a (k : Int)
  have l3 := on_lt a ((k : Int) - 1)
  rw [st_self] at HI
  rw [decide_eq_false (by omega)] at HB HD
  clear s1 s2
  by_cases h0 : 0 < (k : Int)
  · rw [decide_eq_true (by omega)] at HI HF
    have h00 : ¬ (k : Int) = 0 := by omega
    have h01 : 0 ≤ (k : Int) - 1 := by omega
    clear s3
    generalize on a (-1) = p at *
    generalize on a ((k : Int) - 1) = r at *
    generalize on a (k : Int) = q at *
    go_enter Try.func6, Try.ntmps6
    go_wp2_with fail
    refine (HW.out _).mono ?_
    rintro e w1 ⟨rfl, b1⟩
    go_wp2_with fail
    refine (HI.out _).mono ?_
    rintro e w2 ⟨rfl, d2⟩
    have b2 := below_trans b1 d2
    clear b1 d2
    go_wp2_with fail
    refine (HA.out _).mono ?_
    rintro e w3 ⟨rfl, d3⟩
    have b3 := below_trans b2 d3
    clear b2 d3
    go_wp2_with fail
    refine (HB.out _).mono ?_
    rintro e w4 ⟨rfl, d4⟩
    have b4 := below_trans b3 d4
    clear b3 d4
    go_wp2_with fail
    refine (HC.out _).mono ?_
    rintro e w5 ⟨rfl, d5⟩
    have b5 := below_trans b4 d5
    clear b4 d5
    go_wp2_with fail
    refine (HD.out _).mono ?_
    rintro e w6 ⟨rfl, d6⟩
    have b6 := below_trans b5 d6
    clear b5 d6
    go_wp2_with fail
    refine (HE.out _).mono ?_
    rintro e w7 ⟨rfl, d7⟩
    have b7 := below_trans b6 d7
    clear b6 d7
    go_wp2_with fail
    refine (HF.out _).mono ?_
    rintro e w8 ⟨rfl, d8⟩
    have b8 := below_trans b7 d8
    clear b7 d8
    go_wp2_with fail
    go_ret
    exact ⟨rfl, b8⟩
  · obtain rfl : k = 0 := by omega
    rw [decide_eq_false (by omega)] at HI
    clear s3 HE HF
    generalize on a (-1) = p at *
    generalize on a ((0 : Nat) : Int) = q at *
    go_enter Try.func6, Try.ntmps6
    go_wp2_with fail
    refine (HW.out _).mono ?_
    rintro e w1 ⟨rfl, b1⟩
    go_wp2_with fail
    refine (HI.out _).mono ?_
    rintro e w2 ⟨rfl, d2⟩
    have b2 := below_trans b1 d2
    clear b1 d2
    go_wp2_with fail
    refine (HA.out _).mono ?_
    rintro e w3 ⟨rfl, d3⟩
    have b3 := below_trans b2 d3
    clear b2 d3
    go_wp2_with fail
    refine (HB.out _).mono ?_
    rintro e w4 ⟨rfl, d4⟩
    have b4 := below_trans b3 d4
    clear b3 d4
    go_wp2_with fail
    refine (HC.out _).mono ?_
    rintro e w5 ⟨rfl, d5⟩
    have b5 := below_trans b4 d5
    clear b4 d5
    go_wp2_with fail
    refine (HD.out _).mono ?_
    rintro e w6 ⟨rfl, d6⟩
    have b6 := below_trans b5 d6
    clear b5 d6
    go_wp2_with fail
    go_ret
    exact ⟨rfl, b6⟩

end Go.Proofs.Ytinnghobicapiaa

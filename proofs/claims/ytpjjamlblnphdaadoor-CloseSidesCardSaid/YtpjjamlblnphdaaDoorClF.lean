/- The law CloseSides. Condition: the package's variable holds the moves; the argument is a slice of bytes. -/
import Derived.Test.YtpjjamlblnphdaaDoorClD
namespace Go.Proofs.YtpjjamlblnphdaaDoor
set_option linter.unusedVariables false
set_option linter.unusedSimpArgs false
open Go.RowKit Go.Lib

def td (s : Int) : Bool := decide (s = 2 ∨ s = 3 ∨ s = 5 ∨ s = 6 ∨ s = 7)
def en_ (s : Int) : Bool := decide (s = 4 ∨ s = 5 ∨ s = 6 ∨ s = 7)
/-- Where a side may be, and what was told by it, and to it. -/
def Sd (s : Int) (a b : Bool) : Prop := 0 ≤ s ∧ s ≤ 8 ∧ (s = 8 ∨ (a = td s ∧ b = en_ s))
theorem Sd.cases {s : Int} {a b : Bool} (h : Sd s a b) : s = 8 ∨ (a = td s ∧ b = en_ s ∧ (s = 0 ∨ s = 1 ∨ s = 2 ∨ s = 3 ∨ s = 4 ∨ s = 5 ∨ s = 6 ∨ s = 7)) := by
  obtain ⟨h0, h1, rfl | ⟨h2, h3⟩⟩ := h
  · exact .inl rfl
  · by_cases h8 : s = 8
    · exact .inl h8
    · exact .inr ⟨h2, h3, by omega⟩
theorem Sd.step {s e : Int} {a b : Bool} (h : Sd s a b) (he : 0 ≤ e ∧ e < 6) (hm : mvd s e = true) : Sd (nx s e) (a || decide (e = 1)) (b || decide (e = 3)) := by
  rcases h.cases with rfl | ⟨rfl, rfl, hs⟩
  · unfold mvd at hm
    rw [fnd_out (by omega)] at hm
    cases hm
  · have he' : e = 0 ∨ e = 1 ∨ e = 2 ∨ e = 3 ∨ e = 4 ∨ e = 5 := by omega
    rcases hs with rfl | rfl | rfl | rfl | rfl | rfl | rfl | rfl <;> rcases he' with rfl | rfl | rfl | rfl | rfl | rfl <;> revert hm <;> unfold Sd <;> decide
theorem Sd.good {s : Int} {a b : Bool} (h : Sd s a b) : ((wr_ s && a) || (rd_ s && b) || ((s == 7) && !(a && b))) = false := by
  rcases h.cases with rfl | ⟨rfl, rfl, hs⟩
  · rfl
  · rcases hs with rfl | rfl | rfl | rfl | rfl | rfl | rfl | rfl <;> decide

set_option maxHeartbeats 6400000 in
theorem Sides_any (A : Option Addr) (n c : Nat) (l : List UInt8) (W : World) (h : RB W A n c l) (hT : Tab W) : Calls Tryd.prog 6 #[.slice A n c] W (Held W) := by
  have HW := Lib.hid (wakes_any W hT)
  have HT := Lib.hid hT
  have HL := Lib.hid h
  have hcp := h.cap
  have hmx := h.max
  clear h hT
  by_cases hlong : 50 < n
  · go_enter Tryd.func6, Tryd.ntmps6
    go_wp2_with fail
    refine (HW.out).mono ?_
    rintro e w1 ⟨rfl, b1⟩
    have B1 := Lib.hid b1
    clear b1
    go_wp2_with fail
    go_ret
    exact ⟨rfl, B1.out⟩
  · go_enter Tryd.func6, Tryd.ntmps6
    go_wp2_with fail
    refine (HW.out).mono ?_
    rintro e w1 ⟨rfl, b1⟩
    have HB1 := Lib.hid b1
    clear b1 HW
    go_wp2_with fail
    go_loopw [3, 4, 5, 17] (fun sx ax bx ix wr => ∃ (q : Nat) (s : Int) (a b : Bool), q ≤ n ∧ sx = .int .i64 s ∧ ax = .bool a ∧ bx = .bool b ∧ ix = .int .i64 (q : Int) ∧ Sd s a b ∧ Below W.heap.size W wr) (fun _ _ _ ix _ => n - (intOf ix).toNat)
    case atStart => exact ⟨0, 0, false, false, Nat.zero_le _, rfl, rfl, rfl, rfl, ⟨by decide, by decide, .inr ⟨rfl, rfl⟩⟩, HB1.out⟩
    case round =>
      obtain ⟨q, s, a, b, hq, rfl, rfl, rfl, rfl, hs, hb⟩ := hrel
      have HS := Lib.hid hs
      have HB := Lib.hid hb
      clear hs hb HB1
      by_cases hqn : q < n
      · have HQ := Lib.hid hqn
        obtain ⟨g, o, rfl, k0⟩ := (HL.out.below HB.out).at_ hqn
        have hy := (l.getD q 0).toNat_lt
        generalize (l.getD q 0).toNat = y at *
        have hwy : IntKind.i64.wrap (y : Int) = (y : Int) := by rw [IntKind.wrap_i64]; omega
        have hty : (y : Int).tmod 6 = ((y % 6 : Nat) : Int) := rfl
        have hey : (y : Int) % 6 = ((y % 6 : Nat) : Int) := by omega
        have hw6 : IntKind.i64.wrap ((y % 6 : Nat) : Int) = ((y % 6 : Nat) : Int) := by rw [IntKind.wrap_i64]; omega
        have he : ∃ e : Int, e = ((y % 6 : Nat) : Int) ∧ 0 ≤ e ∧ e < 6 := ⟨_, rfl, by omega, by omega⟩
        obtain ⟨e, hee, he0, he6⟩ := he
        rw [← hee] at hty hey hw6
        have HST := Lib.hid (Step_any s e wr (HT.out.below HB.out))
        have HSN := Lib.hid (fun hm => HS.out.step ⟨he0, he6⟩ hm)
        clear hee he0 he6 hy
        generalize nx s e = z at *
        generalize mvd s e = m at *
        have he1 : (e == 1) = decide (e = 1) := by by_cases h1 : e = 1 <;> simp [h1]
        have he3 : (e == 3) = decide (e = 3) := by by_cases h1 : e = 3 <;> simp [h1]
        generalize decide (e = 1) = d1 at *
        generalize decide (e = 3) = d3 at *
        go_wp2_with fail
        refine (HST.out).mono ?_
        rintro r w3 ⟨rfl, b3⟩
        have HB3 := Lib.hid (HB.out.trans (b3.mono HB.out.size))
        clear b3 HST HB k0
        cases m
        · clear HSN
          go_wp2_with fail
          go_roundw
          case rel => exact ⟨q + 1, s, a, b, HQ.out, rfl, rfl, rfl, by go_num, HS.out, HB3.out⟩
          case measure => have := HQ.out; simp [intOf]; omega
        · have HN := Lib.hid (HSN.out rfl)
          have HG := Lib.hid (HN.out.good)
          have HWR := Lib.hid (fun w => Writes_any z w)
          have HRD := Lib.hid (fun w => Reads_any z w)
          have hv : ∃ v, (z == 7) = v := ⟨_, rfl⟩
          obtain ⟨v, hv⟩ := hv
          rw [hv] at HG
          clear HSN HS
          generalize wr_ z = p at *
          generalize rd_ z = r at *
          cases a <;> cases b <;> cases d1 <;> cases d3
          all_goals
            cases p <;> cases r <;> cases v
          all_goals first
            | exact absurd HG.out (by decide)
            | (go_wp2_with fail
               refine (HWR.out _).mono ?_
               rintro r w4 ⟨rfl, rfl⟩
               go_wp2_with fail
               refine (HRD.out _).mono ?_
               rintro r w5 ⟨rfl, rfl⟩
               go_wp2_with fail
               go_roundw
               case rel => exact ⟨q + 1, z, _, _, HQ.out, rfl, rfl, rfl, by go_num, HN.out, HB3.out⟩
               case measure => have := HQ.out; simp [intOf]; omega)
      · obtain rfl : q = n := by omega
        go_wp2_with fail
        go_ret
        exact ⟨rfl, HB.out⟩
end Go.Proofs.YtpjjamlblnphdaaDoor

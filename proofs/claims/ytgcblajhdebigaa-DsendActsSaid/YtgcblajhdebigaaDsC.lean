/- A sender's taken, mayAck, End, Write. Conditions: the sender stands; bytes of at most 2^40. -/
import Derived.Test.YtgcblajhdebigaaDsB
namespace Go.Proofs.Ytgcblajhdebigaa
set_option linter.unusedVariables false
set_option linter.unusedSimpArgs false
open Go.RowKit Go.Lib

section
variable {base : Nat} {w : World} {sb : Nat} {z : Sh} {d : Dq}
theorem Sd.drew (h : Sd base w sb z d) : Sd base w.drew sb z d := h.below (Below.refl _ _).drew
theorem taken_any (H : Sd base w sb z d) : Calls Try.prog 39 #[ptr sb] w fun e w' => e = .returned (.bool (decide (d.next = d.fin))) ∧ Below w.heap.size w w' := by
  have d3 : w.drew.cell? ⟨sb, 3, none⟩ = some (.int .i64 (d.next : Int)) := H.cell 3
  have HE := Lib.hid (end_sd H.drew)
  have hq : ((d.next : Int) == (d.fin : Int)) = decide (d.next = d.fin) := by
    by_cases h : d.next = d.fin
    · rw [h]; simp
    · rw [decide_eq_false h]; simp; omega
  have HB : Hid (Below w.heap.size w w.drew) := Lib.hid (Below.refl _ _).drew
  generalize decide (d.next = d.fin) = r at *
  unfold ptr at *
  clear H
  go_enter Try.func39, Try.ntmps39
  go_wp2_with fail
  go_region_held3 (fun V => V.cell? ⟨sb, 3, none⟩ = some (.int .i64 (d.next : Int)))
    (first | exact d3 | exact keepc b5 d3)
    (first | (go_at_call 36; refine (HE.out).mono ?_; rintro e w5 ⟨rfl, b5⟩))
  all_goals
    go_wp2_with fail
    go_ret
    exact ⟨rfl, HB.out.trans (b5.mono HB.out.size)⟩

def Dq.mayA (d : Dq) (a : Int) : Bool := decide (((d.una : Int) ≤ a ∧ a ≤ (d.next : Int)) ∨ (d.told = true ∧ d.next = d.fin ∧ a = (d.fin : Int) + 1))
set_option maxHeartbeats 1600000 in
theorem mayAck_any (H : Sd base w sb z d) (a : Int) : Calls Try.prog 35 #[ptr sb, .int .i64 a] w fun e w' => e = .returned (.bool (d.mayA a)) ∧ Below w.heap.size w w' := by
  have d2 : w.cell? ⟨sb, 2, none⟩ = some (.int .i64 (d.una : Int)) := H.cell 2
  have d3 : w.cell? ⟨sb, 3, none⟩ = some (.int .i64 (d.next : Int)) := H.cell 3
  have d5 : w.cell? ⟨sb, 5, none⟩ = some (.bool d.told) := H.cell 5
  have HT := Lib.hid (taken_any H)
  have HE := Lib.hid (fun W (h : Sd base W sb z d) => end_sd h)
  have HH := Lib.hid H
  have hn := H.nums
  by_cases c1 : (d.una : Int) ≤ a ∧ a ≤ (d.next : Int)
  · obtain ⟨c1, c2⟩ := c1
    have hm : d.mayA a = true := by unfold Dq.mayA; rw [decide_eq_true_iff]; exact .inl ⟨c1, c2⟩
    rw [hm]
    unfold ptr at *
    clear hm H
    go_enter Try.func35, Try.ntmps35
    go_wp2_with fail
    go_ret
    exact ⟨rfl, Below.refl _ _⟩
  · have hm : d.mayA a = decide (d.told = true ∧ d.next = d.fin ∧ a = (d.fin : Int) + 1) := by
      unfold Dq.mayA
      by_cases c2 : d.told = true ∧ d.next = d.fin ∧ a = (d.fin : Int) + 1
      · rw [decide_eq_true c2, decide_eq_true (.inr c2)]
      · rw [decide_eq_false c2, decide_eq_false (fun h => h.elim c1 c2)]
    rw [hm]
    clear hm
    have hc1 : (d.una : Int) ≤ a → ¬ a ≤ (d.next : Int) := fun h1 h2 => c1 ⟨h1, h2⟩
    cases ht : d.told with
    | false =>
      have hr : decide (false = true ∧ d.next = d.fin ∧ a = (d.fin : Int) + 1) = false := by simp
      rw [hr]
      rw [ht] at d5
      unfold ptr at *
      clear hr H
      by_cases h1 : (d.una : Int) ≤ a
      · have h2 := hc1 h1
        go_enter Try.func35, Try.ntmps35
        go_wp2_with fail
        go_ret
        exact ⟨rfl, Below.refl _ _⟩
      · go_enter Try.func35, Try.ntmps35
        go_wp2_with fail
        go_ret
        exact ⟨rfl, Below.refl _ _⟩
    | true =>
      rw [ht] at d5
      have hw : IntKind.i64.wrap ((d.fin : Int) + 1) = (d.fin : Int) + 1 := by rw [IntKind.wrap_i64]; omega
      have key : Calls Try.prog 35 #[ptr sb, .int .i64 a] w fun e w' => e = .returned (.bool (decide (true = true ∧ d.next = d.fin ∧ a = (d.fin : Int) + 1))) ∧ Below w.heap.size w w' := by
        have split : ¬ (d.una : Int) ≤ a ∨ ((d.una : Int) ≤ a ∧ ¬ a ≤ (d.next : Int)) := by omega
        by_cases hf : d.next = d.fin
        · have hf' : decide (d.next = d.fin) = true := decide_eq_true hf
          rw [hf'] at HT
          have hr : decide (true = true ∧ d.next = d.fin ∧ a = (d.fin : Int) + 1) = decide (a = (d.fin : Int) + 1) := by
            by_cases h : a = (d.fin : Int) + 1
            · rw [decide_eq_true h, decide_eq_true ⟨rfl, hf, h⟩]
            · rw [decide_eq_false h, decide_eq_false (fun q => h q.2.2)]
          rw [hr]
          unfold ptr at *
          clear hr hf' hf H c1 hc1 ht
          rcases split with h1 | ⟨h1, h2⟩
          · go_enter Try.func35, Try.ntmps35
            go_wp2_with fail
            refine (HT.out).mono ?_
            rintro e w1 ⟨rfl, b1⟩
            have HE1 := Lib.hid (HE.out w1 (HH.out.below b1))
            have HB1 := Lib.hid b1
            clear b1
            go_wp2_with fail
            refine (HE1.out).mono ?_
            rintro e w2 ⟨rfl, b2⟩
            have HB2 := Lib.hid (HB1.out.trans (b2.mono HB1.out.size))
            clear b2
            go_wp2_with fail
            go_ret
            exact ⟨rfl, HB2.out⟩
          · go_enter Try.func35, Try.ntmps35
            go_wp2_with fail
            refine (HT.out).mono ?_
            rintro e w1 ⟨rfl, b1⟩
            have HE1 := Lib.hid (HE.out w1 (HH.out.below b1))
            have HB1 := Lib.hid b1
            clear b1
            go_wp2_with fail
            refine (HE1.out).mono ?_
            rintro e w2 ⟨rfl, b2⟩
            have HB2 := Lib.hid (HB1.out.trans (b2.mono HB1.out.size))
            clear b2
            go_wp2_with fail
            go_ret
            exact ⟨rfl, HB2.out⟩
        · have hf' : decide (d.next = d.fin) = false := decide_eq_false hf
          rw [hf'] at HT
          have hr : decide (true = true ∧ d.next = d.fin ∧ a = (d.fin : Int) + 1) = false := decide_eq_false (fun q => hf q.2.1)
          rw [hr]
          unfold ptr at *
          clear hr hf' hf H c1 hc1 ht
          rcases split with h1 | ⟨h1, h2⟩
          · go_enter Try.func35, Try.ntmps35
            go_wp2_with fail
            refine (HT.out).mono ?_
            rintro e w1 ⟨rfl, b1⟩
            have HB1 := Lib.hid b1
            clear b1
            go_wp2_with fail
            go_ret
            exact ⟨rfl, HB1.out⟩
          · go_enter Try.func35, Try.ntmps35
            go_wp2_with fail
            refine (HT.out).mono ?_
            rintro e w1 ⟨rfl, b1⟩
            have HB1 := Lib.hid b1
            clear b1
            go_wp2_with fail
            go_ret
            exact ⟨rfl, HB1.out⟩
      exact key

theorem End_any (H : Sd base w sb z d) : Calls Try.prog 21 #[ptr sb] w fun e w' => e = .returned (.int .i64 (if d.told then 8 else 0)) ∧ Left base w sb z d.tell w' z := by
  have d5 : w.cell? ⟨sb, 5, none⟩ = some (.bool d.told) := H.cell 5
  have f5 := H.fz 5
  cases ht : d.told with
  | true =>
    have HL : Hid (Left base w sb z d.tell w z) := by
      have e : d.tell = d := by unfold Dq.tell; cases d; simp only at ht ⊢; rw [ht]
      rw [e]
      exact Lib.hid (Left.refl H)
    rw [ht] at d5
    unfold ptr
    clear H
    go_enter Try.func21, Try.ntmps21
    go_wp2_with fail
    go_ret
    exact ⟨rfl, HL.out⟩
  | false =>
    have HL : Hid (Left base w sb z d.tell (w.setCell ⟨sb, 5, none⟩ (.bool true)) z) := by
      have c : Ch w (w.setCell ⟨sb, 5, none⟩ (.bool true)) (fun k => k = sb) := Ch.setCell (m := fun k => k = sb) (Ch.refl w _) (fun _ => rfl) _
      have c2 : Ch w (w.setCell ⟨sb, 5, none⟩ (.bool true)) (fun k => k = sb ∨ z.dv.ownBlock = some k) := c.mono fun _ _ e => .inl e
      have hd := own_ch2 H.data c (fun g hg e => H.apart.2.1 (e ▸ hg))
      exact Lib.hid ⟨H.upd (dv' := z.dv) (blk_set H.blk 5 _) c2 H.ls hd H.ok.tell H.cap H.ecap, c.mono fun _ _ e => .inl e, fun _ h => .inl h⟩
    rw [ht] at d5
    unfold ptr
    clear H
    go_enter Try.func21, Try.ntmps21
    go_wp2_with fail
    go_ret
    exact ⟨rfl, HL.out⟩
end
end Go.Proofs.Ytgcblajhdebigaa

/- A sender's New, Due, Lost, and the run of which a beginning is to be sent. Conditions: the sender stands; numbers of at most 2^40. -/
import Derived.Test.YtgcblajhdebigaaDsN
import Derived.Test.YtgcblajhdebigaaDsD
namespace Go.Proofs.Ytgcblajhdebigaa
set_option linter.unusedVariables false
set_option linter.unusedSimpArgs false
open Go.RowKit Go.Lib

section
variable {base : Nat} {w : World} {sb : Nat} {z : Sh} {d : Dq}
/-- One cell of the sender's own turns. -/
theorem Sd.setc (H : Sd base w sb z d) {d' : Dq} (j : Nat) (u : Value) (hc : cellsOf z d' = (cellsOf z d).setIfInBounds j u) (hL : d'.L = d.L) (hd : d'.held = d.held ∧ d'.all.drop (d'.una - 1) = d.all.drop (d.una - 1)) (ho : d'.ok) (h1 : d'.fin ≤ 1073741824) (h2 : d'.edge ≤ 2147483648) :
    Left base w sb z d' (w.setCell ⟨sb, j, none⟩ u) z := by
  have c : Ch w (w.setCell ⟨sb, j, none⟩ u) (fun k => k = sb) := Ch.setCell (m := fun k => k = sb) (Ch.refl w _) (fun _ => rfl) _
  have hd' := own_ch2 H.data c (fun g hg e => H.apart.2.1 (e ▸ hg))
  refine ⟨H.upd (dv' := z.dv) ?_ (c.mono fun _ _ e => .inl e) (hL ▸ H.ls) (by rw [hd.1, hd.2]; exact hd') ho h1 h2, c.mono fun _ _ e => .inl e, fun _ h => .inl h⟩
  have hb := blk_set H.blk j u
  rw [← hc] at hb
  exact hb
/-- The set alone turns. -/
theorem Sd.setl (H : Sd base w sb z d) {w' : World} {v' : Value} {l' : List Rn} {L' : Nat → Bool} (s : St w' z.ob v' l') (c : Ch w w' (fun k => k = z.ob ∨ z.lv.ownBlock = some k)) (o : ∀ k, v'.ownBlock = some k → z.lv.ownBlock = some k ∨ w.heap.size ≤ k) (hL : Ls l' L') (hs : ∀ k, L' k = true → d.una ≤ k ∧ k < d.next) :
    Left base w sb z { d with L := L' } w' { z with lv := v', l := l' } := by
  obtain ⟨a1, a2, a3, a4, a5⟩ := H.apart
  refine ⟨⟨(c.block sb H.lt (fun e => e.elim (fun e => a1 e.symm) a3)).trans H.blk, s, hL, own_ch2 H.data c (fun g hg e => e.elim (fun e => a4 (e ▸ hg)) (fun e => a5 g hg e)), ⟨H.ok.u1, H.ok.un, H.ok.ne, H.ok.ng, H.ok.room, hs⟩, H.cap, H.ecap, H.lo, fun k hk => (o k hk).elim (H.lvlo k) (fun q => Nat.le_trans (Nat.le_trans H.lo.1 (Nat.le_of_lt H.lt)) q)⟩, c.mono fun _ _ e => e.elim (fun e => .inr (.inl e)) (fun e => .inr (.inr (.inr e))), fun k hk => ?_⟩
  rcases hk with hk | hk | hk | hk
  · exact .inl (.inl hk)
  · exact .inl (.inr (.inl hk))
  · exact .inl (.inr (.inr (.inl hk)))
  · exact (o k hk).imp (fun q => .inr (.inr (.inr q))) id

def NewS (base : Nat) (w : World) (e : Ending) (w' : World) : Prop := ∃ (sb : Nat) (z : Sh), e = .returned (ptr sb) ∧ Sd base w' sb z Dq.new ∧ Below w.heap.size w w' ∧ ∀ k, z.T sb k → w.heap.size ≤ k
set_option maxRecDepth 8000 in
set_option maxHeartbeats 1600000 in
theorem New_sd (base : Nat) (w : World) (hb : base ≤ w.heap.size) : Calls Try.prog 9 #[] w (NewS base w) := by
  have HN := Lib.hid (New_any (w := w) (v := .slice none 0 0) (l := []) (.inl ⟨rfl, rfl⟩) (by simp) (fun r hr => by cases hr))
  go_enter Try.func9, Try.ntmps9
  go_wp2_with fail
  refine (HN.out).mono ?_
  rintro e w1 ⟨ob, v1, l1, rfl, S1, hh, b1, lo1, o1⟩
  obtain rfl : l1 = [] := tid_ext (b := 0) S1.tid trivial (fun n => ⟨fun h => (((hh n).1 h).elim (fun r hr => by cases hr.1)), fun h => absurd h (has_nil n)⟩)
  have HF : Hid (NewS base w (.returned (ptr w1.heap.size)) (w1.alloc (.cells #[ptr ob, .slice none 0 0, .int .i64 1, .int .i64 1, .int .i64 33, .bool false, .bool false] 64))) := by
    have hs1 := b1.size
    refine Lib.hid ⟨w1.heap.size, ⟨ob, .slice none 0 0, v1, []⟩, rfl, ⟨heap_alloc_new w1 _, S1.below (below_a w1 _), fun n => ⟨fun h => absurd h (has_nil n), fun h => by cases h.2⟩, World.ownsRow_nil _ _ _ _, Dq.new_ok, by decide, by decide, ⟨by omega, show base ≤ ob by omega⟩, fun k hk => by have := o1 k hk; omega⟩, b1.alloc hs1 _, fun k hk => ?_⟩
    rcases hk with hk | hk | hk | hk
    · omega
    · have hk : k = ob := hk
      omega
    · cases hk
    · exact o1 k hk
  clear S1 hh b1 lo1 o1 HN
  unfold ptr at *
  go_wp2_with fail
  go_ret
  exact HF.out

def DueP (w : World) (d : Dq) (e : Ending) (w' : World) : Prop := e = .returned (.tuple #[.int .i64 (d.due : Int), .bool (decide (0 < d.due))]) ∧ Below w.heap.size w w'
theorem due_no (h : ¬ (d.told = true ∧ d.next = d.fin ∧ d.from_ = d.next ∧ d.done = false)) {w' : World} (b : Below w.heap.size w w') : DueP w d (.returned (.tuple #[.int .i64 0, .bool false])) w' := by
  have : d.due = 0 := by unfold Dq.due; rw [if_neg h]
  unfold DueP
  rw [this]
  exact ⟨rfl, b⟩
set_option maxRecDepth 8000 in
set_option maxHeartbeats 1600000 in
theorem Due_any (H : Sd base w sb z d) : Calls Try.prog 27 #[ptr sb] w (DueP w d) := by
  have HH := Lib.hid H
  have c0 : w.cell? ⟨sb, 0, none⟩ = some (ptr z.ob) := H.cell 0
  have c5 : w.cell? ⟨sb, 5, none⟩ = some (.bool d.told) := H.cell 5
  have c6 : w.cell? ⟨sb, 6, none⟩ = some (.bool d.done) := H.cell 6
  have HT := Lib.hid (taken_any H)
  obtain ⟨-, -, -, r4, r5⟩ := H.ok.run H.st.tid H.ls
  have hmz := many_zero H.st.tid
  have hmn := many_nonneg H.st.tid
  cases ht : d.told with
  | false =>
    have HF := Lib.hid (fun (w' : World) (b : Below w.heap.size w w') => due_no (d := d) (w := w) (fun h => by rw [ht] at h; cases h.1) b)
    rw [ht] at c5
    unfold ptr at *
    clear H HH r4 r5 hmz hmn
    go_enter Try.func27, Try.ntmps27
    go_wp2_with fail
    go_ret2
    exact HF.out _ (Below.refl _ _)
  | true =>
    rw [ht] at c5
    by_cases hf : d.next = d.fin
    · rw [decide_eq_true hf] at HT
      by_cases hl : z.l = []
      · have hm := hmz.2 hl
        have hfr := r4 hl
        cases hd : d.done with
        | true =>
          have HF := Lib.hid (fun (w' : World) (b : Below w.heap.size w w') => due_no (d := d) (w := w) (fun h => by rw [hd] at h; cases h.2.2.2) b)
          rw [hd] at c6
          unfold ptr at *
          clear H r4 r5 hmz hmn hl
          go_enter Try.func27, Try.ntmps27
          go_wp2_with fail
          refine (HT.out).mono ?_
          rintro e w1 ⟨rfl, b1⟩
          have HB1 := Lib.hid b1
          have c10 := keepc b1 c0
          have c16 := keepc b1 c6
          have HM1 := Lib.hid (Many_any (HH.out.below b1).st)
          unfold ptr at HM1
          clear b1
          go_wp2_with fail
          refine (HM1.out).mono ?_
          rintro e w2 ⟨rfl, b2⟩
          rw [hm]
          have HB2 := Lib.hid (HB1.out.trans (b2.mono HB1.out.size))
          have c26 := keepc b2 c16
          clear b2 HM1
          go_wp2_with fail
          go_ret2
          exact HF.out _ HB2.out
        | false =>
          have hdu : d.due = d.fin := by unfold Dq.due; rw [if_pos ⟨ht, hf, hfr, hd⟩]
          have HF : Hid (∀ w', Below w.heap.size w w' → DueP w d (.returned (.tuple #[.int .i64 (d.fin : Int), .bool true])) w') := by
            refine Lib.hid (fun w' b => ⟨?_, b⟩)
            rw [hdu, decide_eq_true (show 0 < d.fin from by unfold Dq.fin; omega)]
          rw [hd] at c6
          unfold ptr at *
          clear H r4 r5 hmz hmn hl
          go_enter Try.func27, Try.ntmps27
          go_wp2_with fail
          refine (HT.out).mono ?_
          rintro e w1 ⟨rfl, b1⟩
          have HB1 := Lib.hid b1
          have c10 := keepc b1 c0
          have c16 := keepc b1 c6
          have HM1 := Lib.hid (Many_any (HH.out.below b1).st)
          unfold ptr at HM1
          clear b1
          go_wp2_with fail
          refine (HM1.out).mono ?_
          rintro e w2 ⟨rfl, b2⟩
          rw [hm]
          have HB2 := Lib.hid (HB1.out.trans (b2.mono HB1.out.size))
          have c26 := keepc b2 c16
          have HE2 := Lib.hid (end_sd ((HH.out.below HB1.out).below b2))
          unfold ptr at HE2
          clear b2 HM1
          go_wp2_with fail
          refine (HE2.out).mono ?_
          rintro e w3 ⟨rfl, b3⟩
          have HB3 := Lib.hid (HB2.out.trans (b3.mono HB2.out.size))
          clear b3
          go_wp2_with fail
          go_ret2
          exact HF.out _ HB3.out
      · have hm : 0 < many z.l := by
          rcases Int.lt_or_le 0 (many z.l) with h | h
          · exact h
          · exact absurd (hmz.1 (by omega)) hl
        have hfr := (r5 hl).1
        have HF := Lib.hid (fun (w' : World) (b : Below w.heap.size w w') => due_no (d := d) (w := w) (fun h => by have := h.2.2.1; omega) b)
        unfold ptr at *
        clear H r4 r5 hmz hmn hl hfr
        go_enter Try.func27, Try.ntmps27
        go_wp2_with fail
        refine (HT.out).mono ?_
        rintro e w1 ⟨rfl, b1⟩
        have HB1 := Lib.hid b1
        have c10 := keepc b1 c0
        have c16 := keepc b1 c6
        have HM1 := Lib.hid (Many_any (HH.out.below b1).st)
        unfold ptr at HM1
        clear b1
        go_wp2_with fail
        refine (HM1.out).mono ?_
        rintro e w2 ⟨rfl, b2⟩
        generalize many z.l = mm at *
        have HB2 := Lib.hid (HB1.out.trans (b2.mono HB1.out.size))
        clear b2 HM1
        go_wp2_with fail
        go_ret2
        exact HF.out _ HB2.out
    · rw [decide_eq_false hf] at HT
      have HF := Lib.hid (fun (w' : World) (b : Below w.heap.size w w') => due_no (d := d) (w := w) (fun h => hf h.2.1) b)
      unfold ptr at *
      clear H r4 r5 hmz hmn
      go_enter Try.func27, Try.ntmps27
      go_wp2_with fail
      refine (HT.out).mono ?_
      rintro e w1 ⟨rfl, b1⟩
      have HB1 := Lib.hid b1
      clear b1
      go_wp2_with fail
      go_ret2
      exact HF.out _ HB1.out

def LostP (base : Nat) (w : World) (sb : Nat) (z : Sh) (d : Dq) (f t : Nat) (e : Ending) (w' : World) : Prop := e = .returned (.int .i64 (kept d.L f (t - f) : Int)) ∧ ∃ z', Left base w sb z (d.lose f t) w' z'
set_option maxRecDepth 8000 in
set_option maxHeartbeats 1600000 in
theorem Lost_any (H : Sd base w sb z d) {x g : Int} (hx : -1099511627776 ≤ x ∧ x ≤ 4294967296) (hg : -1099511627776 ≤ g ∧ g ≤ 1099511627776) : Calls Try.prog 17 #[ptr sb, .int .i64 x, .int .i64 g] w (LostP base w sb z d (d.lf x) (d.lt x g)) := by
  have c0 : w.cell? ⟨sb, 0, none⟩ = some (ptr z.ob) := H.cell 0
  have c2 : w.cell? ⟨sb, 2, none⟩ = some (.int .i64 (d.una : Int)) := H.cell 2
  have c3 : w.cell? ⟨sb, 3, none⟩ = some (.int .i64 (d.next : Int)) := H.cell 3
  have hn := H.nums
  obtain ⟨l1, l2, l3⟩ := H.ok.lt x g
  have hlf : max x (d.una : Int) = (d.lf x : Int) := by unfold Dq.lf; omega
  obtain ⟨g0, hg0⟩ : ∃ g0, g0 = max g 0 := ⟨_, rfl⟩
  have hlt : max (d.lf x : Int) (min x ((d.next : Int) - g0) + g0) = (d.lt x g : Int) := by rw [← hlf, hg0]; unfold Dq.lt; omega
  have hfb : d.lf x ≤ 4294967296 := by unfold Dq.lf; omega
  have hw1 : IntKind.i64.wrap ((d.next : Int) - g0) = (d.next : Int) - g0 := by rw [IntKind.wrap_i64]; omega
  have hw2 : IntKind.i64.wrap (min x ((d.next : Int) - g0) + g0) = min x ((d.next : Int) - g0) + g0 := by rw [IntKind.wrap_i64]; omega
  have hw3 : IntKind.i64.wrap ((d.lt x g : Int) - (d.lf x : Int)) = (d.lt x g : Int) - (d.lf x : Int) := by rw [IntKind.wrap_i64]; omega
  have HA := Lib.hid (Add_any H.st (f := (d.lf x : Int)) (g := (d.lt x g : Int) - (d.lf x : Int)) (by unfold isI; omega) (by unfold isI; omega))
  have HF : Hid (∀ e w', AddP w z.ob z.lv z.l (d.lf x : Int) ((d.lt x g : Int) - (d.lf x : Int)) e w' → LostP base w sb z d (d.lf x) (d.lt x g) e w' ∧ ∃ q : Int, e = .returned (.int .i64 q)) := by
    refine Lib.hid ?_
    rintro e w' ⟨v', l', rfl, s', a', _, c', o'⟩
    have hL := ls_lose H.ls l2 (by omega) a'
    refine ⟨⟨?_, { z with lv := v', l := l' }, H.setl s' c' o' hL (H.ok.lose l1 l3).lost⟩, _, rfl⟩
    rw [many_lose H.ok H.st.tid s'.tid H.ls l1 l2 l3 hL]
  rw [hg0] at hlt hw1 hw2
  clear H hn l1 l2 l3 hfb hg0 hx hg
  generalize d.lf x = f at *
  generalize d.lt x g = t at *
  obtain ⟨g0, hg0⟩ : ∃ g0, max g 0 = g0 := ⟨_, rfl⟩
  rw [hg0] at hlt hw1 hw2
  unfold ptr at *
  go_enter Try.func17, Try.ntmps17
  go_wp2_with fail
  refine (HA.out).mono ?_
  intro e w1 h
  obtain ⟨h, q, rfl⟩ := HF.out e w1 h
  have HX := Lib.hid h
  clear h HA
  go_wp2_with fail
  go_ret
  exact HX.out
end
end Go.Proofs.Ytgcblajhdebigaa

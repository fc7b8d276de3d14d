/- Picked by turns: sets of places, as maps to truths; the mathematics; the law SchedTurns. Conditions: the argument is a slice of paths; whole numbers of 64 bits. -/
import Derived.Test.YtanigkmcmefpaaaScG
import Derived.Maps.Own
namespace Go.Proofs.Ytanigkmcmefpaaa
set_option linter.unusedVariables false
set_option linter.unusedSimpArgs false
open Go.RowKit Go.Lib

def isI (h : Int) : Prop := -9223372036854775808 ≤ h ∧ h ≤ 9223372036854775807
theorem isI.wf {h : Int} (i : isI h) : (Lit.int .i64 h).wf = true := by
  unfold isI at i
  simp [Lit.wf, IntKind.min, IntKind.max, IntKind.bits, IntKind.signed]
  omega
theorem keyInt : Maps.Keyed Try.prog 3 := Maps.int_keyed Try.underlying3
theorem keyOfInt {h : Int} (i : isI h) : keyOf Try.prog 3 (.int .i64 h) = some (.int .i64 h) := Maps.keyOf_int_mk Try.underlying3 i.wf
theorem isKeyI (h : Int) (i : isI h) : WideAt.IsKeyLit (.int .i64 h) := by
  first
    | exact trivial
    | simp [WideAt.IsKeyLit]
/-- Block mb is a map that has the handles R, each once, each true. -/
def MapB (w : World) (mb : Nat) (R : List Int) : Prop :=
  ∃ D : DataW Unit, w.ownsMap Try.prog 3 (plainElem Try.prog 4) mb R.length D ∧ Maps.size D = R.length ∧ (∀ h, isI h → Maps.has D (.int .i64 h) = decide (h ∈ R))

theorem pl_false {P : Program} {e : TypeId} (he : P.underlying e = some .bool) {v : Value} {ps : List MemPlace} (h : plainElem (H := Unit) P e v = some (.lit (.bool false), ps)) : v = .bool false := by
  unfold plainElem at h
  rw [he] at h
  cases v with
  | bool x =>
    simp at h
    rw [h.1]
  | _ => simp at h
theorem peB_false {v : Value} {ps : List MemPlace} (h : plainElem (H := Unit) Try.prog 4 v = some (.lit (.bool false), ps)) : v = .bool false := pl_false Try.underlying4 h

section
variable {w w' : World} {mb : Nat} {R : List Int}
theorem MapB.lt (h : MapB w mb R) : mb < w.heap.size := h.elim fun _ h => h.1.lt
theorem MapB.keep (h : MapB w mb R) (e : w'.heap[mb]? = w.heap[mb]?) : MapB w' mb R := by
  obtain ⟨D, ⟨es, cl, hb, rest⟩, r2⟩ := h
  exact ⟨D, ⟨es, cl, e.trans hb, rest⟩, r2⟩
theorem MapB.made (w : World) : MapB (w.alloc (.map #[] 0)) w.heap.size [] :=
  ⟨.map [], World.ownsMap_made w _ _ _, rfl, fun _ _ => rfl⟩
theorem MapB.look (hM : MapB w mb R) {h : Int} (i : isI h) (hR : h ∉ R) (W : World) (hW : W.heap = w.heap) : (Instr.lookup 30 (.map (some mb)) (.int .i64 h) false).run Try.prog W = .ok (.bool false) W := by
  obtain ⟨D, hown, _, h1⟩ := hM.keep (w' := W) (by rw [hW])
  obtain ⟨v, ps, hrun, hv⟩ := hown.lookup keyInt Try.underlying30 (Try.zeroValue4 W) (plainElem_bool Try.underlying4 false) (keyOfInt i)
  have h2 := h1 h i
  rw [decide_eq_false hR] at h2
  rw [Maps.atKey_of_not_has h2] at hv
  rw [peB_false hv] at hrun
  exact hrun
theorem MapB.cell_ne (hM : MapB w mb R) {g o : Nat} {v : Value} (hc : w.cell? ⟨g, o, none⟩ = some v) : g ≠ mb := by
  rintro rfl
  obtain ⟨D, ⟨es, cl, hb, _⟩, _⟩ := hM
  simp [World.cell?, hb] at hc
end

section
variable {w : World} {ops : Array Oper} {rest : List Oper} {o : Oper} {a : Act} {Q : Exit → Act → World → Prop} {mb : Nat} {R : List Int}
theorem wpList_putB (hg : o.guard = none) (m x v : Operand) (hop : o.op = Op.mapUpdate 30 m x v) (hm : a.eval m = .map (some mb)) (hM : MapB w mb R) {h : Int} (i : isI h) (hx : a.eval x = .int .i64 h) (hR : h ∉ R) (hv : a.eval v = .bool true) (hn : R.length ≤ 1099511627776)
    (hK : ∀ w', MapB w' mb (R ++ [h]) → w.mapTurned w' mb → wpList Try.prog ops Q rest (a.put o.dst undef) w') :
    wpList Try.prog ops Q (o :: rest) a w := by
  obtain ⟨D, hown, hsz, h1⟩ := hM
  refine wpList_mapUpdate_in w hg m x v 30 hop 3 4 keyInt Try.underlying30 (plainElem Try.prog 4) mb R.length D hm hown (by unfold maxLen; omega) (.int .i64 h) (.bool true) (.int .i64 h) hx hv (keyOfInt i) _ [] (plainElem_bool Try.underlying4 true) fun w' hown' ht => hK w' ?_ ht
  have hs := Maps.size_put (k := .int .i64 h) (hown.tidy keyInt) (.lit (.bool true))
  rw [h1 h i, decide_eq_false hR, hsz] at hs
  simp at hs
  refine ⟨_, by rw [List.length_append]; exact hown', by rw [List.length_append]; exact hs, fun k ik => ?_⟩
  by_cases e : k = h
  · subst e
    rw [Maps.has_put_same hown.isMap (isKeyI k i)]
    simp
  · rw [Maps.has_put_other (fun e' => e (by injection e')), h1 k ik]
    simp [e]
theorem wpList_lenB (hg : o.guard = none) (m : Operand) (hop : o.op = Op.call { callee := Callee.builtin Builtin.len, args := #[m], argTypes := #[30] }) (hm : a.eval m = .map (some mb)) (hM : MapB w mb R)
    (hK : wpList Try.prog ops Q rest (a.put o.dst (.int .i64 (R.length : Int))) w) :
    wpList Try.prog ops Q (o :: rest) a w := by
  obtain ⟨D, hown, hsz, _⟩ := hM
  refine wpList_len_own w hg m 30 hop 3 4 Try.underlying30 (plainElem Try.prog 4) mb R.length D hm hown ?_
  rw [hsz]
  exact hK
end


theorem Pas.ch {w w' : World} {A : Option Addr} {n c gb : Nat} {l : List Pa} {R : List Int} (h : Pas w A n c l) (k : Ch w w' (fun x => x = gb)) (hM : MapB w gb R) : Pas w' A n c l := by
  refine ⟨h.len, h.cap, h.max, h.ok, fun hn => ?_⟩
  obtain ⟨g, o, e, hc⟩ := h.mem hn
  have hg : g ≠ gb := hM.cell_ne (hc 0 hn).1
  exact ⟨g, o, e, fun j hj => ⟨k.cell (hc j hj).1 hg, k.cell (hc j hj).2.1 hg, k.cell (hc j hj).2.2.1 hg, k.cell (hc j hj).2.2.2 hg⟩⟩

/-- Picked by turns: q were, R, the newest one last. -/
def Tn (a : List Int) (q : Nat) (last : Int) (R : List Int) : Prop := R.length = q ∧ (q = 0 ∨ ∃ i0, i0 < a.length ∧ R = (List.range q).map (fun t => a.getD ((i0 + t) % a.length) 0) ∧ last = a.getD ((i0 + (q - 1)) % a.length) 0)
theorem Tn.start (a : List Int) (last : Int) : Tn a 0 last [] := ⟨rfl, .inl rfl⟩
theorem md {x n : Nat} (h : x < 2 * n) : x % n = if x < n then x else x - n := by
  split
  · exact Nat.mod_eq_of_lt (by assumption)
  · rw [Nat.mod_eq_sub_mod (by omega), Nat.mod_eq_of_lt (by omega)]
theorem rises_one {a : List Int} (h : a.Pairwise (· < ·)) {i j : Nat} (hi : i < a.length) (hj : j < a.length) (he : a.getD i 0 = a.getD j 0) : i = j := by
  rcases Nat.lt_trichotomy i j with e | e | e
  · have := rises_at h e hj
    omega
  · exact e
  · have := rises_at h e hi
    omega
theorem Ixt.next {a : List Int} (h : a.Pairwise (· < ·)) {p : Nat} (hp : p < a.length) : Ixt a (a.getD p 0) ((p + 1) % a.length) := by
  rw [md (by omega)]
  split
  · rename_i h1
    refine ⟨h1, .inl ⟨rises_at h (by omega) h1, fun j hj => ?_⟩⟩
    rcases Nat.eq_or_lt_of_le (show j ≤ p by omega) with rfl | h2
    · exact Int.le_refl _
    · exact Int.le_of_lt (rises_at h h2 hp)
  · rename_i h1
    refine ⟨by omega, .inr ⟨by omega, fun j hj => ?_⟩⟩
    rcases Nat.eq_or_lt_of_le (show j ≤ p by omega) with rfl | h2
    · exact Int.le_refl _
    · exact Int.le_of_lt (rises_at h h2 hp)
theorem Tn.step {a : List Int} (h : a.Pairwise (· < ·)) {q i : Nat} {last : Int} {R : List Int} (t : Tn a q last R) (hq : q < a.length) (hi : Ixt a last i) : a.getD i 0 ∉ R ∧ Tn a (q + 1) (a.getD i 0) (R ++ [a.getD i 0]) := by
  obtain ⟨hl, t⟩ := t
  rcases t with rfl | ⟨i0, h0, hR, hlast⟩
  · obtain rfl := List.eq_nil_of_length_eq_zero hl
    refine ⟨by simp, rfl, .inr ⟨i, hi.1, ?_, ?_⟩⟩
    · simp [Nat.mod_eq_of_lt hi.1]
    · show a.getD i 0 = a.getD ((i + 0) % a.length) 0
      rw [Nat.add_zero, Nat.mod_eq_of_lt hi.1]
  · rcases Nat.eq_zero_or_pos q with rfl | hq0
    · obtain rfl := List.eq_nil_of_length_eq_zero hl
      refine ⟨by simp, rfl, .inr ⟨i, hi.1, ?_, ?_⟩⟩
      · simp [Nat.mod_eq_of_lt hi.1]
      · show a.getD i 0 = a.getD ((i + 0) % a.length) 0
        rw [Nat.add_zero, Nat.mod_eq_of_lt hi.1]
    · have hn : 0 < a.length := by omega
      have hp : (i0 + (q - 1)) % a.length < a.length := Nat.mod_lt _ hn
      rw [hlast] at hi
      have hii := hi.one (Ixt.next h hp)
      rw [Nat.mod_add_mod, show i0 + (q - 1) + 1 = i0 + q from by omega] at hii
      subst hii
      refine ⟨fun hm => ?_, by rw [List.length_append, hl]; rfl, .inr ⟨i0, h0, ?_, rfl⟩⟩
      · rw [hR] at hm
        obtain ⟨t, ht, he⟩ := List.mem_map.1 hm
        have htq := List.mem_range.1 ht
        have hij := rises_one h (Nat.mod_lt _ hn) (Nat.mod_lt _ hn) he
        rw [md (show i0 + t < 2 * a.length by omega), md (show i0 + q < 2 * a.length by omega)] at hij
        split at hij <;> split at hij <;> omega
      · rw [List.range_succ, List.map_append, ← hR]
        rfl

set_option maxHeartbeats 6400000 in
theorem Turns_any (A : Option Addr) (n c : Nat) (l : List Pa) (last : Int) (W : World) (h : Pas W A n c l) (bl : B64 last) : Calls Try.prog 4 #[.slice A n c, .int .i64 last] W (Held W) := by
  have HW := Lib.hid (wakes_any W)
  have HL := Lib.hid h
  have hcp := h.cap
  have hmx := h.max
  have hn := h.len
  have hmm := @run_makeMap Try.prog
  clear h bl
  by_cases hlong : 50 < n
  · clear hn
    go_enter Try.func4, Try.ntmps4
    go_wp2_with fail
    refine (HW.out).mono ?_
    rintro e w1 ⟨rfl, b1⟩
    have B1 := Lib.hid b1
    clear b1
    go_wp2_with fail
    go_ret
    exact ⟨rfl, B1.out⟩
  · have H40 : Hid (n ≤ 1099511627776) := Lib.hid (by omega)
    have H50 : Hid (n ≤ 50) := Lib.hid (by omega)
    have HN := Lib.hid hn
    clear hn
    go_enter Try.func4, Try.ntmps4
    go_wp2_with fail
    refine (HW.out).mono ?_
    rintro e w1 ⟨rfl, b1⟩
    have HB1 := Lib.hid b1
    have HL1 := Lib.hid (HL.out.below b1)
    have HA := Lib.hid (rAble_any HL1.out H40.out)
    clear b1 HW HL
    go_wp2_with fail
    refine (HA.out).mono ?_
    rintro e w2 ⟨B, m, cb, rfl, R2, b2⟩
    have hcb := R2.cap
    have hmb := R2.max
    have HRL := Lib.hid R2.len
    have HMN : Hid (m ≤ 50) := Lib.hid (by have := ables_len l n; have := H50.out; have := HRL.out; omega)
    have HB2 := Lib.hid (HB1.out.trans (b2.mono HB1.out.size))
    have HL2 := Lib.hid (HL1.out.below b2)
    have HRI := Lib.hid (ables_rises l n)
    have HBX := Lib.hid (fun (i : Nat) (hi : i < (ables l n).length) => (show isI ((ables l n).getD i 0) from by obtain ⟨x, e, lx, -⟩ := ables_at l hi; unfold isI; omega))
    have HPE : Hid (∀ last r, PickR 1 last l r → (ables l n = [] → r = []) ∧ (ables l n ≠ [] → ∃ i, Ixt (ables l n) last i ∧ r = [(ables l n).getD i 0])) := Lib.hid fun last r hp => by
      rw [← HN.out]
      exact ⟨fun e => hp.1 (.inr (.inr e)), fun e => (hp.2 e).2.1 rfl⟩
    clear R2 b2 HA HB1 HL1
    generalize ables l n = a at *
    have HM0 := Lib.hid (MapB.made w2)
    have HB3 := Lib.hid (HB2.out.alloc HB2.out.size (.map #[] 0))
    have HL3 := Lib.hid (HL2.out.below (below_a w2 (.map #[] 0)))
    have HGE := Lib.hid (HB2.out.size)
    obtain ⟨gb, hgb⟩ : ∃ gb, w2.heap.size = gb := ⟨_, rfl⟩
    rw [hgb] at HM0 HGE
    go_wp2_with fail
    clear hgb HB2 HL2
    generalize w2.alloc (.map #[] 0) = w3 at *
    go_loopw [1, 18] (fun lx ix wr => ∃ (q : Nat) (la : Int) (R : List Int), q ≤ m ∧ lx = .int .i64 la ∧ ix = .int .i64 (q : Int) ∧ Tn a q la R ∧ MapB wr gb R ∧ Below W.heap.size W wr ∧ Pas wr A n c l) (fun _ ix _ => m - (intOf ix).toNat)
    case atStart => exact ⟨0, last, [], Nat.zero_le _, rfl, rfl, Tn.start _ _, HM0.out, HB3.out, HL3.out⟩
    case round =>
      obtain ⟨q, la, R, hq, rfl, rfl, hT, hM, B4, L4⟩ := hrel
      have HT := Lib.hid hT
      have HM := Lib.hid hM
      have HB4 := Lib.hid B4
      have HL4 := Lib.hid L4
      have HP := Lib.hid (Pick_any L4 H40.out 1 la ⟨by decide, by decide⟩)
      clear hT hM B4 L4 HM0 HB3 HL3
      by_cases hqm : q < m
      · have HQ := Lib.hid hqm
        go_wp2_with fail
        refine (HP.out).mono ?_
        rintro e w5 ⟨A5, m5, c5, r5, rfl, R5, p5, b5⟩
        have hne : a ≠ [] := fun e => by have := HRL.out; rw [e] at this; have : (0 : Nat) = m := this; omega
        obtain ⟨i, hix, rfl⟩ := ((HPE.out _ _ p5).2 hne)
        obtain rfl : m5 = 1 := R5.len.symm
        have hc5 := R5.cap
        have hm5 := R5.max
        obtain ⟨g5, o5, rfl, x5⟩ := R5.at_ (show 0 < 1 by decide)
        rw [Nat.add_zero] at x5
        change w5.cell? ⟨g5, o5, none⟩ = some (.int .i64 (a.getD i 0)) at x5
        obtain ⟨hnot, hT5⟩ := HT.out.step HRI.out (by rw [HRL.out]; exact hqm) hix
        have HIB := Lib.hid (HBX.out i hix.1)
        have HT5 := Lib.hid hT5
        have HNOT := Lib.hid hnot
        have HM5 := Lib.hid (HM.out.keep (b5.block gb HM.out.lt))
        have HNEG := Lib.hid (HM5.out.cell_ne x5)
        have HB5 := Lib.hid (HB4.out.trans (b5.mono HB4.out.size))
        have HL5 := Lib.hid (HL4.out.below b5)
        have HRQ : Hid (R.length = q) := Lib.hid HT.out.1
        have X5 := Lib.hid x5
        have HG5 : Hid (∀ w', w5.mapTurned w' gb → Ch w5 w' (fun x => x = gb)) := Lib.hid fun w' tu => (Ch.refl w5 _).turned tu fun _ => rfl
        clear R5 p5 b5 HP HM HB4 HL4 hne hix hnot hT5 HT
        generalize a.getD i 0 = v at *
        have hlook := HM5.out.look HIB.out HNOT.out w5 rfl
        go_wp2_with (first | (at_mapUpdate; refine wpList_putB rfl _ _ _ rfl rfl HM5.out (h := v) HIB.out rfl HNOT.out rfl (by have := HRQ.out; have := HMN.out; omega) ?_; intro w6 M6 tu; have x6 := (HG5.out _ tu).cell X5.out HNEG.out; clear hlook))
        go_roundw
        case rel => exact ⟨q + 1, v, _, HQ.out, rfl, by go_num, HT5.out, M6, HB5.out.grown tu.grown HB5.out.size (fun k hk => by injection hk with hk; subst hk; exact HGE.out), HL5.out.ch (HG5.out _ tu) HM5.out⟩
        case measure => have := HQ.out; simp [intOf]; omega
      · obtain rfl : q = m := by omega
        have HRQ : Hid (R.length = q) := Lib.hid HT.out.1
        by_cases hm0 : q = 0
        · subst hm0
          have hR : (R.length : Int) = 0 := by rw [HRQ.out]; rfl
          go_wp2_with (first | (at_len; refine wpList_lenB rfl _ rfl rfl HM.out ?_))
          refine (HP.out).mono ?_
          rintro e w5 ⟨A5, m5, c5, r5, rfl, R5, p5, b5⟩
          have hr := (HPE.out _ _ p5).1 (List.eq_nil_of_length_eq_zero HRL.out)
          obtain rfl : m5 = 0 := by rw [← R5.len, hr]; rfl
          have HB5 := Lib.hid (HB4.out.trans (b5.mono HB4.out.size))
          clear R5 p5 b5 hr
          go_wp2_with fail
          go_ret
          exact ⟨rfl, HB5.out⟩
        · have hR : (R.length : Int) = (q : Int) := by rw [HRQ.out]
          have hq0 : (0 : Int) < (q : Int) := by omega
          go_wp2_with (first | (at_len; refine wpList_lenB rfl _ rfl rfl HM.out ?_))
          go_ret
          exact ⟨rfl, HB4.out⟩
end Go.Proofs.Ytanigkmcmefpaaa

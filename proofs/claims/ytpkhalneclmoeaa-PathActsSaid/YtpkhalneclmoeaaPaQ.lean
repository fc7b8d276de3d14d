/- The document's manager: Untold and Join. Conditions: it stands. -/
import Derived.Test.YtpkhalneclmoeaaPaP
namespace Go.Proofs.Ytpkhalneclmoeaa
set_option linter.unusedVariables false
set_option linter.unusedSimpArgs false
open Go.RowKit Go.Lib

/-- append of a pair onto a row of the call's own: what alone may have turned, and where the row lies then. -/
theorem wpList_app3 {base : Nat} {w : World} {ops : Array Oper} {rest : List Oper} {o : Oper} {a : Act} {Q : Exit → Act → World → Prop} (hgd : o.guard = none) (s x : Operand) (t e : TypeId)
    (ho : o.op = .call { callee := .builtin .append, args := #[s, x], argTypes := #[t, t] }) (ht : Try.prog.underlying t = some (.slice e)) (hi : (Try.prog.info? e).map (fun i => (i.zero, i.size, i.bytes)) = some (some (.agg #[.int .i64 0, .int .i64 0]), 2, 16))
    (v : Value) (n : Nat) (l : List (Int × Int)) (hs : a.eval s = v) (hown : w.ownsRow base e 2 v n (pv l)) (hb : base ≤ w.heap.size) (u u' : Int) (hx : a.eval x = .slice (some ⟨w.heap.size, 0, none⟩) 1 1) (h40 : n ≤ 1000000)
    (h : ∀ A' c' w', w'.ownsRow base e 2 (.slice A' (n + 1) c') (n + 1) (pv (l ++ [(u, u')])) → Ch w w' (fun k => v.ownBlock = some k) → (∀ g, (Value.slice A' (n + 1) c').ownBlock = some g → v.ownBlock = some g ∨ w.heap.size ≤ g) → wpList Try.prog ops Q rest (a.put o.dst (.slice A' (n + 1) c')) w') :
    wpList Try.prog ops Q (o :: rest) a (w.alloc (.cells #[.int .i64 u, .int .i64 u'] e)) := by
  have hba := below_a w (.cells #[.int .i64 u, .int .i64 u'] e)
  refine wpList_appG hgd s x t e ho _ 2 16 ht hi rfl (by decide) (by decide) base v n (pv l) hs (own_below hown hba) _ 1 1 (pv [(u, u')]) hx (PS.lit w u u' e) (by omega) (by simp; omega) fun v' w' h1 h2 h3 => ?_
  rw [← pv_append] at h1
  obtain ⟨A', c', rfl, -⟩ := PS.of_own h1
  refine h A' c' w' h1 ?_ ?_
  · exact (Ch.of_below (fun k => v.ownBlock = some k) hba).grown h2 (fun k hk _ => hk)
  · intro g hg
    rcases h3 with h3 | h3
    · exact .inl (h3.symm.trans hg)
    · rw [h3] at hg
      injection hg with hg
      refine .inr ?_
      rw [← hg]
      simp

theorem Rf.ext {base : Nat} {w : World} {xb : Nat} {p q : Pm} {L : List (Int × Int)} {y : Rx} (h : Rf base w xb p L y) (ho : ∀ i, i < 4 → p.ow i = q.ow i) (ht : ∀ i, i < 4 → p.ot i = q.ot i) (hf : ∀ i j, i < 4 → j < 4 → p.fl i j = q.fl i j) (hm : p.mo = q.mo) : Rf base w xb q L y := by
  refine ⟨by rw [← hm]; exact h.blk, by rw [← adr_congr ho]; exact h.o, by rw [← adr_congr ht]; exact h.t, h.l, h.nd, fun x => ?_⟩
  rw [h.mem x, prs_mem, prs_mem]
  constructor
  · rintro ⟨i, j, hi, hj, hg, e⟩
    exact ⟨i, j, hi, hj, by rw [← hf i j hi hj]; exact hg, e⟩
  · rintro ⟨i, j, hi, hj, hg, e⟩
    exact ⟨i, j, hi, hj, by rw [hf i j hi hj]; exact hg, e⟩

/-- Behind q own addresses: no flow of theirs with o. -/
def Pm.unq (p : Pm) (o q : Nat) : Pm := { p with ot := upd p.ot o false, fl := fun k m => p.fl k m && !(decide (m = o) && decide (k < q)) }
def unL (p : Pm) (o q : Nat) : List (Int × Int) := ((List.range q).filter fun k => p.fl k o).map fun (k : Nat) => ((k : Int), (o : Int))
theorem unq_zero {base : Nat} {w : World} {xb : Nat} {p : Pm} {o : Nat} {L : List (Int × Int)} {y : Rx} (h : Rf base w xb (p.setT o false) L y) : Rf base w xb (p.unq o 0) L y :=
  h.ext (fun _ _ => rfl) (fun _ _ => rfl) (fun i j _ _ => by show p.fl i j = (p.fl i j && !(decide (j = o) && decide (i < 0))); simp) rfl
theorem unq_gone {p : Pm} {o q : Nat} (hq : q < 4) (ho : o < 4) : (p.unq o q).goneB (q : Int) (o : Int) = p.fl q o := by
  rw [goneB_good hq ho]
  show (p.fl q o && !(decide (o = o) && decide (q < q))) = p.fl q o
  simp
theorem unq_step {base : Nat} {w : World} {xb : Nat} {p : Pm} {o q : Nat} {L : List (Int × Int)} {y : Rx} (hq : q < 4) (ho : o < 4) (h : Rf base w xb ((p.unq o q).goneS (q : Int) (o : Int)) L y) : Rf base w xb (p.unq o (q + 1)) L y := by
  have hg := unq_gone (p := p) hq ho
  refine h.ext (fun _ _ => by rw [goneS_ow]; rfl) (fun _ _ => by rw [goneS_ot]; rfl) (fun i j hi hj => ?_) (goneS_mo _ _ _)
  show _ = (p.fl i j && !(decide (j = o) && decide (i < q + 1)))
  cases hf : p.fl q o
  · rw [goneS_no (hg.trans hf)]
    show (p.fl i j && !(decide (j = o) && decide (i < q))) = _
    by_cases e : i = q ∧ j = o
    · rw [e.1, e.2, hf]
      rfl
    · by_cases e2 : j = o
      · have : i ≠ q := fun k => e ⟨k, e2⟩
        have h3 : decide (i < q) = decide (i < q + 1) := by
          by_cases h4 : i < q
          · rw [decide_eq_true h4, decide_eq_true (by omega)]
          · rw [decide_eq_false h4, decide_eq_false (by omega)]
        rw [h3]
      · rw [decide_eq_false e2]
        rfl
  · rw [goneS_yes (hg.trans hf)]
    show upd2 (fun k m => p.fl k m && !(decide (m = o) && decide (k < q))) q o false i j = _
    unfold upd2
    by_cases e : i = q ∧ j = o
    · rw [if_pos e, e.1, e.2]
      simp
    · rw [if_neg e]
      show (p.fl i j && !(decide (j = o) && decide (i < q))) = _
      by_cases e2 : j = o
      · have : i ≠ q := fun k => e ⟨k, e2⟩
        have h3 : decide (i < q) = decide (i < q + 1) := by
          by_cases h4 : i < q
          · rw [decide_eq_true h4, decide_eq_true (by omega)]
          · rw [decide_eq_false h4, decide_eq_false (by omega)]
        rw [h3]
      · rw [decide_eq_false e2]
        rfl
theorem unq_end {base : Nat} {w : World} {xb : Nat} {p : Pm} {o : Nat} {L : List (Int × Int)} {y : Rx} (ho : o < 4) (h : Rf base w xb (p.unq o 4) L y) : Rf base w xb (p.untoS (o : Int)) L y := by
  rw [show p.untoS (o : Int) = { p with ot := upd p.ot o false, fl := fun k m => p.fl k m && !decide (m = o) } from by unfold Pm.untoS; rw [mb_of ho]; rfl]
  refine h.ext (fun _ _ => rfl) (fun _ _ => rfl) (fun i j hi hj => ?_) rfl
  show (p.fl i j && !(decide (j = o) && decide (i < 4))) = (p.fl i j && !decide (j = o))
  rw [decide_eq_true hi, Bool.and_true]
theorem unL_yes {p : Pm} {o q : Nat} (h : p.fl q o = true) : unL p o (q + 1) = unL p o q ++ [((q : Int), (o : Int))] := by
  unfold unL
  rw [List.range_succ, List.filter_append, List.map_append]
  simp [h]
theorem unL_no {p : Pm} {o q : Nat} (h : p.fl q o = false) : unL p o (q + 1) = unL p o q := by
  unfold unL
  rw [List.range_succ, List.filter_append, List.map_append]
  simp [h]
theorem unL_len (p : Pm) (o q : Nat) : (unL p o q).length ≤ q := by
  unfold unL
  rw [List.length_map]
  exact Nat.le_trans (List.length_filter_le _ _) (by simp)
theorem unL_nodup (p : Pm) (o q : Nat) : (unL p o q).Nodup := by
  unfold unL
  show List.Pairwise _ _
  rw [List.pairwise_map]
  exact (List.pairwise_lt_range.filter _).imp fun {a b} h e => by
    simp only [Prod.mk.injEq] at e
    omega
theorem unL_mem {p : Pm} {o : Nat} (ho : o < 4) (u : Int × Int) : u ∈ unL p o 4 ↔ u ∈ p.untL (o : Int) := by
  rw [show p.untL (o : Int) = prs (p.untG o) 16 from by unfold Pm.untL; rw [mb_of ho]; rfl, prs_mem]
  unfold unL
  rw [List.mem_map]
  constructor
  · rintro ⟨k, hk, rfl⟩
    obtain ⟨h1, h2⟩ := List.mem_filter.1 hk
    exact ⟨k, o, List.mem_range.1 h1, ho, by unfold Pm.untG; rw [h2, decide_eq_true rfl]; rfl, rfl⟩
  · rintro ⟨i, j, hi, hj, hg, rfl⟩
    unfold Pm.untG at hg
    rw [Bool.and_eq_true] at hg
    obtain rfl := of_decide_eq_true hg.1
    exact ⟨i, List.mem_filter.2 ⟨List.mem_range.2 hi, hg.2⟩, rfl⟩
theorem adr_less_no {f : Nat → Bool} {x : Int} (h : mb x = false) : (adr f 4).filter (fun z => !decide (z = x)) = adr f 4 := by
  rw [List.filter_eq_self]
  intro z hz
  obtain ⟨i, hi, _, rfl⟩ := adr_mem.1 hz
  rw [Bool.not_eq_true']
  refine decide_eq_false fun e => ?_
  rw [← e, mb_of hi] at h
  cases h

/-- What Untold leaves. -/
def DidLR (base : Nat) (w : World) (xb : Nat) (y : Rx) (l : List (Int × Int)) (p' : Pm) (e : Ending) (w' : World) : Prop :=
  ∃ R A n c, e = .returned (.slice A n c) ∧ PS w' A n c R ∧ R.Nodup ∧ (∀ u, u ∈ R ↔ u ∈ l) ∧ LeftR base w xb y p' w' ∧ ∀ g, (Value.slice A n c).ownBlock = some g → w.heap.size ≤ g

theorem wpair {w : World} {base : Nat} {xb : Nat} {p : Pm} {L : List (Int × Int)} {y : Rx} (h : Rf base w xb p L y) {w' : World} {b0 : Nat} {v : Value} {n : Nat} {l : List (Int × Int)} (o : w.ownsRow b0 48 2 v n (pv l)) (c : Ch w w' (fun k => v.ownBlock = some k)) (ap : ∀ g, (Value.slice y.lA y.ln y.lc).ownBlock = some g → v.ownBlock ≠ some g) : Rf base w' xb p L y :=
  h.ch c (fun e => own_type o h.blk (by decide) e) (fun g hg e => by
    obtain ⟨cs, hc⟩ := ch_ownrow h.o hg
    obtain ⟨cs', hc'⟩ := ch_ownrow o e
    have := Option.some.inj (Eq.trans (Eq.symm hc) hc')
    injection this with _ h2 _
    exact absurd h2 (by decide)) (fun g hg e => by
    obtain ⟨cs, hc⟩ := ch_ownrow h.t hg
    obtain ⟨cs', hc'⟩ := ch_ownrow o e
    have := Option.some.inj (Eq.trans (Eq.symm hc) hc')
    injection this with _ h2 _
    exact absurd h2 (by decide)) (fun g hg e => ap g hg e)
end Go.Proofs.Ytpkhalneclmoeaa

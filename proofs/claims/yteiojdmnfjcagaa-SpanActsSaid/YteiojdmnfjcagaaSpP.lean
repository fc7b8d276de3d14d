/- Two sets, apart from one another; rows of acts that are put together; the law SpanOrder. Conditions: the acts lie where the slice says. -/
import Derived.Test.YteiojdmnfjcagaaSpO
namespace Go.Proofs.Yteiojdmnfjcagaa
set_option linter.unusedVariables false
set_option linter.unusedSimpArgs false
open Go.RowKit Go.Lib

abbrev Ac := Int × Int × Int
def av : List Ac → List Value
  | [] => []
  | r :: l => .int .i64 r.1 :: .int .i64 r.2.1 :: .int .i64 r.2.2 :: av l
theorem av_append (l r : List Ac) : av (l ++ r) = av l ++ av r := by
  induction l with
  | nil => rfl
  | cons p l ih => simp [av, ih]
theorem av_length (l : List Ac) : (av l).length = l.length * 3 := by
  induction l with
  | nil => rfl
  | cons p l ih => simp [av, ih]; omega
theorem av_one (l : List Ac) : ∀ v ∈ av l, v.oneCell' = true := by
  induction l with
  | nil => intro v hv; cases hv
  | cons p l ih =>
    intro v hv
    simp only [av, List.mem_cons] at hv
    rcases hv with rfl | rfl | rfl | hv
    · rfl
    · rfl
    · rfl
    · exact ih v hv
theorem av_at (l : List Ac) : ∀ j, j < l.length → (av l)[j * 3]? = some (.int .i64 (l.getD j z3).1) ∧ (av l)[j * 3 + 1]? = some (.int .i64 (l.getD j z3).2.1) ∧ (av l)[j * 3 + 2]? = some (.int .i64 (l.getD j z3).2.2) := by
  induction l with
  | nil => intro j hj; simp at hj
  | cons p l ih =>
    intro j hj
    cases j with
    | zero => exact ⟨rfl, rfl, rfl⟩
    | succ j =>
      have := ih j (by simpa using hj)
      rw [show (j + 1) * 3 = j * 3 + 1 + 1 + 1 from by omega]
      simpa [av] using this
/-- The cells of acts that lie one behind the other. -/
theorem av_range {w : World} {g o : Nat} {l : List Ac} (h : ∀ j, j < l.length → w.cell? ⟨g, o + j * 3, none⟩ = some (.int .i64 (l.getD j z3).1) ∧ w.cell? ⟨g, o + j * 3 + 1, none⟩ = some (.int .i64 (l.getD j z3).2.1) ∧ w.cell? ⟨g, o + j * 3 + 2, none⟩ = some (.int .i64 (l.getD j z3).2.2)) : w.rangeAt g o (av l) := fun t v hv => by
  have ht : t < l.length * 3 := by have := (List.getElem?_eq_some_iff.1 hv).1; rwa [av_length] at this
  have hj : t / 3 < l.length := by omega
  obtain ⟨a0, a1, a2⟩ := av_at l (t / 3) hj
  obtain ⟨b0, b1, b2⟩ := h (t / 3) hj
  have : t % 3 = 0 ∨ t % 3 = 1 ∨ t % 3 = 2 := by omega
  rcases this with e | e | e
  · rw [show t = t / 3 * 3 from by omega] at hv ⊢
    rw [a0] at hv
    rw [b0, hv]
  · rw [show t = t / 3 * 3 + 1 from by omega] at hv ⊢
    rw [a1] at hv
    rw [← Nat.add_assoc, b1, hv]
  · rw [show t = t / 3 * 3 + 2 from by omega] at hv ⊢
    rw [a2] at hv
    rw [← Nat.add_assoc, b2, hv]
theorem infoAct : (Try.prog.info? 29).map (fun i => (i.zero, i.size, i.bytes)) = some (some (.agg #[.int .i64 0, .int .i64 0, .int .i64 0]), 3, 24) := by kernel_rfl
theorem undAct : Try.prog.underlying 22 = some (.slice 29) := by kernel_rfl
theorem elemAct : Try.prog.underlying 22 = some (.slice (Try.prog.elem 22)) := by kernel_rfl
theorem sizeOfAct (W : World) : (sizeOf (Try.prog.elem 22)).run Try.prog W = .ok 3 W := by kernel_rfl

/-- append of acts onto a row of the call's own. -/
theorem app_act {w : World} (base : Nat) (v : Value) (n : Nat) (l : List Ac) (hown : w.ownsRow base 29 3 v n (av l)) (hb : base ≤ w.heap.size) (g o m c : Nat) (r : List Ac) (hm : r.length = m) (hr : w.rangeAt g o (av r)) (h40 : n + m ≤ 1099511627776) (ty : TypeId) :
    ∃ v' w', (Builtin.append_ #[22, 22] ty #[v, .slice (some ⟨g, o, none⟩) m c]).run Try.prog w = .ok v' w' ∧ w'.ownsRow base 29 3 v' (n + m) (av (l ++ r)) ∧ w.grownBy w' v.ownBlock := by
  obtain ⟨i, hi, hzz⟩ := Option.map_eq_some_iff.1 infoAct
  simp only [Prod.mk.injEq] at hzz
  obtain ⟨hz, h2, h3⟩ := hzz
  obtain ⟨v', w', q1, q2, q3, _, _⟩ := run_append_own_at (P := Try.prog) w base 22 ty 29 i _ 3 24 undAct hi hz h2 h3 rfl (by decide) v n (av l) hown ⟨g, o, none⟩ m c (av r) (by rw [av_length, hm]) (fun j u hj => by rw [Addr.add_mid]; exact hr j u hj) (av_one r) (by unfold maxLen; omega) (by omega) hb
  exact ⟨v', w', q1, by rw [av_append]; exact q2, q3⟩
theorem step_app {P : Program} (w : World) {ops : Array Oper} {o : Oper} {a : Act} {K : Act → World → Prop} {Q : Exit → Act → World → Prop} {E : Prop} (hgd : o.guard = none) (s x : Operand) (t : TypeId)
    (ho : o.op = .call { callee := .builtin .append, args := #[s, x], argTypes := #[t, t] }) (vs vx : Value) (hs : a.eval s = vs) (hx : a.eval x = vx) (v' : Value) (w' : World)
    (hr : (Builtin.append_ #[t, t] o.type #[vs, vx]).run P w = .ok v' w') (h : K (a.put o.dst v') w') : if Region.wanted o (yielded ops a.tmps) = true then Oper.wp P o a w K Q else E := by
  have hw : Region.wanted o (yielded ops a.tmps) = true := by simp [Region.wanted, hgd]
  rw [if_pos hw]
  exact Lib.wp_append_run w s x t t ho _ _ hs hx v' w' hr h
/-- A row of the call's own, as acts are read. -/
theorem tri_own {w : World} {base n : Nat} {v : Value} {l : List Ac} (h : w.ownsRow base 29 3 v n (av l)) (hok : ∀ x ∈ l, B64 x.1 ∧ B64 x.2.1 ∧ B64 x.2.2) : ∃ A c, v = .slice A n c ∧ Tri w A n c l := by
  have hlen : l.length = n := by
    have := h.1
    rw [av_length] at this
    omega
  have h0 := h
  rcases h.2 with ⟨rfl, rfl⟩ | ⟨g, cap, cur, rfl, hb, hg, h1, h2, _⟩
  · exact ⟨none, 0, rfl, hlen, Nat.le_refl _, Nat.zero_le _, hok, fun h => absurd h (by omega)⟩
  · refine ⟨_, cap, rfl, hlen, h1, by unfold maxLen at h2; omega, hok, fun _ => ⟨g, 0, rfl, fun j hj => ?_⟩⟩
    obtain ⟨a0, a1, a2⟩ := av_at l j (by omega)
    have key : ∀ t u, (av l)[t]? = some u → w.cell? ⟨g, 0 + t, none⟩ = some u := fun t u hu => by
      have ht := (List.getElem?_eq_some_iff.1 hu).1
      rw [av_length] at ht
      rw [Nat.zero_add, World.ownsRow.cellAt h0 t (by omega), hu]
    exact ⟨key _ _ a0, key _ _ a1, key _ _ a2⟩

/-- Two sets that share nothing. -/
structure Ap (sa : Nat) (va : Value) (sb : Nat) (vb : Value) : Prop where
  ss : sa ≠ sb
  av : va.ownBlock ≠ some sb
  bv : vb.ownBlock ≠ some sa
  vv : ∀ k, va.ownBlock = some k → vb.ownBlock ≠ some k
theorem Ap.symm {sa sb : Nat} {va vb : Value} (h : Ap sa va sb vb) : Ap sb vb sa va := ⟨fun e => h.ss e.symm, h.bv, h.av, fun k e e' => h.vv k e' e⟩
theorem Ap.step {w : World} {sa sb : Nat} {va vb va' : Value} {lb : List Rn} (h : Ap sa va sb vb) (S : St w sb vb lb) (o : ∀ k, va'.ownBlock = some k → va.ownBlock = some k ∨ w.heap.size ≤ k) : Ap sa va' sb vb :=
  ⟨h.ss, fun e => by
    rcases o sb e with e | e
    · exact h.av e
    · have := S.lt
      omega, h.bv, fun k e e' => by
    rcases o k e with e | e
    · exact h.vv k e e'
    · have := S.row.lt e'
      omega⟩
theorem Sg.other {W w w' : World} {sa sb : Nat} {va vb : Value} {lb : List Rn} (S : Sg W w sb vb lb) (h : Ap sa va sb vb) (hb : Below W.heap.size W w') (c : Ch w w' (fun k => k = sa ∨ va.ownBlock = some k)) : Sg W w' sb vb lb :=
  ⟨S.st.ch c (fun e => e.elim (fun e => h.ss e.symm) h.av) (fun g hg e => e.elim (fun e => h.bv (by rw [hg, e])) (fun e => h.vv g e hg)), hb, S.lo, S.own⟩

/-- The numbers that acts put into a set. -/
def CovL (l : List Ac) (n : Int) : Prop := ∃ r ∈ l, Cov (r.2.1, r.2.2) n
theorem covL_succ {l : List Ac} {q : Nat} (hq : q < l.length) (n : Int) : CovL (l.take (q + 1)) n ↔ CovL (l.take q) n ∨ Cov ((l.getD q z3).2.1, (l.getD q z3).2.2) n := by
  unfold CovL
  rw [List.take_add_one, List.getD_eq_getElem?_getD, List.getElem?_eq_getElem hq]
  simp only [List.mem_append, Option.toList, List.mem_singleton, Option.getD]
  constructor
  · rintro ⟨r, h | rfl, hp⟩
    · exact .inl ⟨r, h, hp⟩
    · exact .inr hp
  · rintro (⟨r, h, hp⟩ | hp)
    · exact ⟨r, .inl h, hp⟩
    · exact ⟨_, .inr rfl, hp⟩
theorem covL_rot (l : List Ac) (i : Nat) (n : Int) : CovL (l.drop i ++ l.take i) n ↔ CovL l n := by
  unfold CovL
  constructor
  · rintro ⟨r, hr, h⟩
    refine ⟨r, ?_, h⟩
    rcases List.mem_append.1 hr with hr | hr
    · exact List.mem_of_mem_drop hr
    · exact List.mem_of_mem_take hr
  · rintro ⟨r, hr, h⟩
    refine ⟨r, ?_, h⟩
    rw [← List.take_append_drop i l, List.mem_append] at hr
    exact List.mem_append.2 hr.symm
theorem AddR.cov {l l' : List Rn} {f g : Int} {A B : Int → Prop} (h : AddR l (inR f g) l') (hl : ∀ n, Has l n ↔ A n) (hB : ∀ n, B n ↔ A n ∨ Cov (f, g) n) : ∀ n, Has l' n ↔ B n := fun n => by
  rw [h.has, hl, hB]
  exact Iff.rfl
end Go.Proofs.Yteiojdmnfjcagaa

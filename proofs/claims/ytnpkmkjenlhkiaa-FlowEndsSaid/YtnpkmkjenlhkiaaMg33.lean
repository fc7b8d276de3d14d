/- FlowEnds, without a program: ticks on which all comes, or nothing does. Condition: at most 100 steps ahead.
FlowEnds, without a program. Condition: at most 100 steps.
The law FlowEnds: its parts. Conditions: the pair stands, its numbers within their bounds. -/
import Derived.Test.YtnpkmkjenlhkiaaMg32
import Derived.Test.YtnpkmkjenlhkiaaMg28
namespace Go.Proofs.Ytnpkmkjenlhkiaa
set_option linter.unusedVariables false
set_option linter.unusedSimpArgs false
set_option maxRecDepth 20000

theorem step_flush (p : P) (k j : Int) : p.flush.step k j = p.step k j := by unfold P.step; rw [flush_flush]
theorem JP.settle {i : Nat} : ∀ (k n : Nat) (p : P), JP i n p → n + k ≤ 100000 → ∃ n', n' ≤ n + k ∧ JP i n' (p.settle k)
  | 0, n, p, h, _ => ⟨n, Nat.le_refl _, h⟩
  | k + 1, n, p, h, hn => by
    by_cases hw : p.way = []
    · rw [settle_nil _ _ hw]
      exact ⟨n, by omega, h⟩
    · rw [settle_cons _ _ hw]
      obtain ⟨n', h1, h2⟩ := JP.settle k (n + 1) _ (h.step (by omega) 0 0) (by omega)
      exact ⟨n', by omega, h2⟩
theorem JP.lost {i n : Nat} {p : P} (h : JP i n p) : JP i n { p with way := [] } := by
  refine ⟨⟨h.N.t, h.N.f0, h.N.f1, Nat.zero_le _⟩, h.o0, h.o1, ?_⟩
  rcases h.c with ⟨h0, S, hb⟩ | ⟨f, h0, h', m, a, m', a', S, hb, hb'⟩
  · exact .inl ⟨h0, S.less [] (fun _ hx => by cases hx), hb⟩
  · exact .inr ⟨f, h0, h', m, a, m', a', S.less [] (fun _ hx => by cases hx) (Nat.zero_le _), hb, hb'⟩
/-- The head of the way comes: two flows. -/
theorem step_del {p : P} {f : F} (h1 : p.f1 = some f) (o0 : p.f0.os = []) (o1 : f.os = []) {k : Pk} {r : List Pk} (hw : p.way = k :: r) :
    ∃ f2, (p.step 0 0).f1 = some f2 ∧ Wd.mk (p.step 0 0).f0 f2 (p.step 0 0).way (p.step 0 0).t = (Wd.mk p.f0 f p.way p.t).del := by
  have hfl : p.flush = p := flush_id o0 (fun g e => by rw [h1] at e; injection e with e; rw [← e]; exact o1)
  have hs : p.step 0 0 = P.flush (P.comes { p with way := r } k) := by unfold P.step; rw [hfl, act_head hw]
  rw [hs]
  have hd : (Wd.mk p.f0 f p.way p.t).del = if k.to = 1 then ⟨p.f0, (f.hearO k.o p.t).quiet, addw 0 r (f.hearO k.o p.t).os, p.t⟩ else ⟨(p.f0.hearO k.o p.t).quiet, f, addw 1 r (p.f0.hearO k.o p.t).os, p.t⟩ := by
    unfold Wd.del
    rw [show (Wd.mk p.f0 f p.way p.t).way = k :: r from hw]
  rw [hd]
  by_cases e : k.to = 1
  · rw [if_pos e]
    have hc : P.comes { p with way := r } k = { p with way := r, f1 := some (f.hearO k.o p.t), c1 := p.c1 ++ (if f.heardO k.o p.t = true then k.o.k.ds else []) } := by
      unfold P.comes
      rw [if_pos e]
      show (match p.f1 with | none => _ | some f => _) = _
      rw [h1]
    rw [hc]
    refine ⟨(f.hearO k.o p.t).quiet, rfl, ?_⟩
    show Wd.mk p.f0.quiet (f.hearO k.o p.t).quiet (addw 0 (addw 1 r p.f0.os) (f.hearO k.o p.t).os) p.t = _
    rw [o0, addw_none, quiet_same o0]
  · rw [if_neg e]
    have hc : P.comes { p with way := r } k = { p with way := r, f0 := p.f0.hearO k.o p.t, c0 := p.c0 ++ (if p.f0.heardO k.o p.t = true then k.o.k.ds else []) } := by
      unfold P.comes
      rw [if_neg e]
    rw [hc]
    refine ⟨f.quiet, by show p.f1.map F.quiet = _; rw [h1]; rfl, ?_⟩
    show Wd.mk (p.f0.hearO k.o p.t).quiet f.quiet (addw 0 (addw 1 r (p.f0.hearO k.o p.t).os) (outs p.f1)) p.t = _
    rw [h1]
    show Wd.mk (p.f0.hearO k.o p.t).quiet f.quiet (addw 0 (addw 1 r (p.f0.hearO k.o p.t).os) f.os) p.t = _
    rw [o1, addw_none, quiet_same o1]
theorem settle_set : ∀ (n : Nat) (p : P) (f : F), p.f1 = some f → p.f0.os = [] → f.os = [] → ∃ f2, (p.settle n).f1 = some f2 ∧ Wd.mk (p.settle n).f0 f2 (p.settle n).way (p.settle n).t = (Wd.mk p.f0 f p.way p.t).set n
  | 0, p, f, h1, _, _ => ⟨f, h1, rfl⟩
  | n + 1, p, f, h1, o0, o1 => by
    cases hw : p.way with
    | nil =>
      rw [settle_nil _ _ hw, wset_nil (n + 1) _ (show (Wd.mk p.f0 f [] p.t).way = [] from rfl)]
      exact ⟨f, h1, by rw [hw]⟩
    | cons k r =>
      obtain ⟨f2, e1, e2⟩ := step_del h1 o0 o1 hw
      have hos := flush_os (p.flush.act 0 0)
      obtain ⟨f3, g1, g2⟩ := settle_set n (p.step 0 0) f2 e1 hos.1 (hos.2 f2 e1)
      have hne : p.way ≠ [] := by rw [hw]; exact List.cons_ne_nil _ _
      rw [settle_cons n p hne]
      refine ⟨f3, g1, ?_⟩
      rw [g2, e2, hw]
      exact (if_neg (show ¬ ((Wd.mk p.f0 f (k :: r) p.t).way = []) from List.cons_ne_nil _ _)).symm
def P.rs (p : P) : P := (p.step 7 0).settle 200
def P.rl (p : P) : P := { p.step 7 0 with way := [] }
def P.Due (p : P) : Prop := p.f0.isDue ((p.t + 1 : Nat) : Int) ∨ ∃ f, p.f1 = some f ∧ f.isDue ((p.t + 1 : Nat) : Int)
theorem expire_no {x : F} {t : Int} (h : ¬ x.isDue t) : x.expire t = x := if_neg h
/-- A tick on which nothing is due. -/
theorem step_no {i n : Nat} {p : P} (H : JP i n p) (h : ¬ p.Due) : p.step 7 0 = { p with t := p.t + 1 } := by
  unfold P.step
  rw [H.flush, act_7, expire_no (fun e => h (.inl e))]
  have e : (p.f1.map fun f => f.expire ((p.t + 1 : Nat) : Int)) = p.f1 := by
    cases hf : p.f1 with
    | none => rfl
    | some f => exact congrArg some (expire_no (fun e => h (.inr ⟨f, hf, e⟩)))
  rw [e]
  exact flush_id (p := { p with t := p.t + 1 }) H.o0 H.o1
theorem rs_no {i n : Nat} {p : P} (H : JP i n p) (hw : p.way = []) (h : ¬ p.Due) : p.rs = { p with t := p.t + 1 } := by
  unfold P.rs
  rw [step_no H h, settle_nil _ _ (show ({ p with t := p.t + 1 } : P).way = [] from hw)]
theorem rl_no {i n : Nat} {p : P} (H : JP i n p) (hw : p.way = []) (h : ¬ p.Due) : p.rl = { p with t := p.t + 1 } := by
  unfold P.rl
  rw [step_no H h]
  show ({ p with t := p.t + 1, way := [] } : P) = _
  rw [← hw]
/-- How many deadlines are ahead. -/
def P.mu (p : P) : Nat := match p.f1 with
  | none => if p.f0.st < 10 then 9 else 0
  | some f => (Wd.mk p.f0 f p.way p.t).mu
theorem mu_some {p : P} {f : F} (h : p.f1 = some f) : p.mu = (Wd.mk p.f0 f p.way p.t).mu := by unfold P.mu; rw [h]
theorem mu_none {p : P} (h : p.f1 = none) : p.mu = if p.f0.st < 10 then 9 else 0 := by unfold P.mu; rw [h]
theorem mu_t (p : P) (t : Nat) : P.mu { p with t := t } = p.mu := by
  obtain ⟨f0, f1, way, s0, s1, c0, c1, t0⟩ := p
  cases f1 <;> rfl
theorem Nbs.Ed {p : P} {n : Nat} (N : Nbs p n) (hn : n ≤ 100000) : p.f0.E.d < 1000000 ∧ ∀ f, p.f1 = some f → f.E.d < 1000000 := by
  have h1 := N.f0.d
  have h2 := N.f0.tr
  have h3 := N.t
  refine ⟨by omega, fun f hf => ?_⟩
  have h4 := (N.f1 f hf).d
  have h5 := (N.f1 f hf).tr
  omega
/-- Two flows: one of them is due. -/
theorem JS.due {i n : Nat} {p : P} {f : F} {h h' : List Ky} {m a m' a' : Nat} (H : JP i n p) (hn : n ≤ 100000) (S : JS i p f h h' m a m' a') (hw : p.way = []) (hd : p.Due) : p.rs.mu < p.mu := by
  have hE := H.N.Ed hn
  have hE1 := hE.2 f S.so
  obtain ⟨f2, S2, e1, e2⟩ := S.tick hE.1 hE1
  have hs : p.step 7 0 = (p.act 7 0).flush := by unfold P.step; rw [H.flush]
  have hos := flush_os (p.act 7 0)
  rw [← hs] at S2 e1 e2 hos
  obtain ⟨f3, g1, g2⟩ := settle_set 200 (p.step 7 0) f2 S2.so hos.1 (hos.2 f2 S2.so)
  have ht : (p.step 7 0).t = p.t + 1 := by rw [e2]
  have htk : Wd.mk p.rs.f0 f3 p.rs.way p.rs.t = (Wd.mk p.f0 f p.way p.t).tk := by
    unfold Wd.tk
    rw [e1]
    show Wd.mk ((p.step 7 0).settle 200).f0 f3 ((p.step 7 0).settle 200).way ((p.step 7 0).settle 200).t = _
    rw [g2, ht]
  rw [mu_some (p := p.rs) g1, htk, mu_some S.so]
  have J := S.J
  have hw' : (Wd.mk p.f0 f p.way p.t).way = [] := hw
  by_cases d0 : p.f0.isDue ((p.t + 1 : Nat) : Int)
  · exact J.due hw' hE.1 hE1 d0
  · have d1 : f.isDue ((p.t + 1 : Nat) : Int) := by
      rcases hd with e | ⟨g, e3, e4⟩
      · exact absurd e d0
      · rw [S.so] at e3; injection e3 with e3; rw [e3]; exact e4
    have Js := J.swap
    have hsw : (Wd.mk p.f0 f p.way p.t).swap.way = [] := by show p.way.map flip = []; rw [hw]; rfl
    have h9 := Js.due hsw hE1 hE.1 d1
    have hts : (Wd.mk p.f0 f p.way p.t).swap.tick = (Wd.mk p.f0 f p.way p.t).tick.swap := by
      show Wd.mk (f.expire ((p.t + 1 : Nat) : Int)).quiet (p.f0.expire ((p.t + 1 : Nat) : Int)).quiet (addw 0 (addw 1 (p.way.map flip) (f.expire ((p.t + 1 : Nat) : Int)).os) (p.f0.expire ((p.t + 1 : Nat) : Int)).os) (p.t + 1) = Wd.mk (f.expire ((p.t + 1 : Nat) : Int)).quiet (p.f0.expire ((p.t + 1 : Nat) : Int)).quiet ((addw 0 (addw 1 p.way (p.f0.expire ((p.t + 1 : Nat) : Int)).os) (f.expire ((p.t + 1 : Nat) : Int)).os).map flip) (p.t + 1)
      rw [expire_no d0, H.o0, addw_none, addw_none, addw_flip]
    have hle : Le1 (Wd.mk p.f0 f p.way p.t).tick.way := (J.tick hE.1 hE1).le1
    have h8 : (Wd.mk p.f0 f p.way p.t).swap.tk = (Wd.mk p.f0 f p.way p.t).tk.swap := by
      unfold Wd.tk
      rw [hts, set_swap 200 _ hle]
    rw [h8, mu_swap, mu_swap] at h9
    exact h9
/-- Behind a tick on which all comes nothing is on the way. -/
theorem settle_JS {i : Nat} {p : P} {f : F} {h h' : List Ky} {m a m' a' : Nat} (S : JS i p f h h' m a m' a') (n : Nat) (hn : 180 ≤ n) : ∃ f2 m2 a2 m2' a2', (p.settle n).way = [] ∧ (p.settle n).f1 = some f2 ∧ JW 1 i 9000 ⟨(p.settle n).f0, f2, (p.settle n).way, (p.settle n).t⟩ h h' m2 a2 m2' a2' ∧ a ≤ a2 ∧ a' ≤ a2' := by
  obtain ⟨f2, g1, g2⟩ := settle_set n p f S.so S.J.xo S.J.yo
  have hws := wsum_le p.f0.en f.en p.way
  have hwl : p.way.length ≤ 60 := S.J.wl
  obtain ⟨m2, a2, m2', a2', T⟩ := JW.set n _ m a m' a' S.J (by show wsum p.f0.en f.en p.way ≤ n; omega)
  rw [← g2] at T
  exact ⟨f2, m2, a2, m2', a2', T.way, g1, T.J, T.hm.2.1, T.hm.2.2.2⟩
theorem JN.settle {i n : Nat} {p : P} (H : JP i n p) (hn : n ≤ 100000) {h : List Ky} (S : JN i p h) (hb : tot h ≤ 20 * (n + 1)) (hw : p.way ≠ []) (k : Nat) (hk : 180 ≤ k) : ∃ f2 m2 a2 m2' a2', (p.settle (k + 1)).way = [] ∧ (p.settle (k + 1)).f1 = some f2 ∧ JW 1 i 9000 ⟨(p.settle (k + 1)).f0, f2, (p.settle (k + 1)).way, (p.settle (k + 1)).t⟩ h [sK.at 9000] m2 a2 m2' a2' := by
  rw [settle_cons k p hw]
  cases hq : p.way with
  | nil => exact absurd hq hw
  | cons w r =>
    have hs : p.step 0 0 = P.flush (P.comes { p with way := r } w) := by unfold P.step; rw [H.flush, act_head hq]
    have hl := H.N.way
    rw [hq, List.length_cons] at hl
    obtain ⟨f, S2, _⟩ := S.comes (by omega) w (by rw [hq]; exact List.mem_cons_self) r (fun x hx => by rw [hq]; exact List.mem_cons_of_mem _ hx) (by omega)
    rw [← hs] at S2
    obtain ⟨f2, m2, a2, m2', a2', q1, q2, q3, _⟩ := settle_JS S2 k hk
    exact ⟨f2, m2, a2, m2', a2', q1, q2, q3⟩
theorem rs_way {i n : Nat} {p : P} (H : JP i n p) (hn : n + 1 ≤ 100000) : p.rs.way = [] := by
  have H1 := H.step (by omega) 7 0
  unfold P.rs
  rcases H1.c with ⟨h, S, hb⟩ | ⟨f, h, h', m, a, m', a', S, hb, hb'⟩
  · by_cases hw : (p.step 7 0).way = []
    · rw [settle_nil _ _ hw]; exact hw
    · obtain ⟨_, _, _, _, _, e, _⟩ := JN.settle H1 (by omega) S hb hw 199 (by omega)
      exact e
  · obtain ⟨_, _, _, _, _, e, _⟩ := settle_JS S 200 (by omega)
    exact e
theorem JN.due {i n : Nat} {p : P} (H : JP i n p) (hn : n + 1 ≤ 100000) {h : List Ky} (S : JN i p h) (hb : tot h ≤ 20 * (n + 1)) (hw : p.way = []) (hd : p.Due) : p.rs.mu < p.mu := by
  have hE := H.N.Ed (by omega)
  have hd0 : p.f0.isDue ((p.t + 1 : Nat) : Int) := by
    rcases hd with e | ⟨g, e, _⟩
    · exact e
    · rw [S.no] at e; cases e
  have har := S.x.ar
  have h10 : p.f0.st < 10 := by unfold F.isDue at hd0; unfold Ar at har; omega
  rw [mu_none S.no, if_pos h10]
  obtain ⟨S1, e1⟩ := S.tick hE.1
  have hs : p.step 7 0 = (p.act 7 0).flush := by unfold P.step; rw [H.flush]
  rw [← hs] at S1 e1
  have H1 := H.step (by omega) 7 0
  by_cases hw1 : (p.step 7 0).way = []
  · have e2 : p.rs = p.step 7 0 := settle_nil _ _ hw1
    rw [e2, mu_none S1.no]
    have E := S.x.expire ((p.t + 1 : Nat) : Int) hE.1
    cases E with
    | no d _ => exact absurd hd0 d
    | over d sd st os =>
      rw [if_neg]
      · omega
      · rw [e1]
        show ¬ (p.f0.expire ((p.t + 1 : Nat) : Int)).st < 10
        omega
    | again d sd st lt tr al os ks =>
      rw [e1] at hw1
      have hw1 : addw 1 p.way (p.f0.expire ((p.t + 1 : Nat) : Int)).os = [] := hw1
      rw [hw, os, S.xo, List.nil_append] at hw1
      have hl := congrArg List.length hw1
      unfold addw told at hl
      simp only [List.nil_append, List.length_take, List.length_map, List.length_drop, List.length_nil] at hl
      have := S.hl
      omega
  · obtain ⟨f2, m2, a2, m2', a2', g1, g2, J⟩ := JN.settle H1 (by omega) S1 (by omega) hw1 199 (by omega)
    have g2 : p.rs.f1 = some f2 := g2
    rw [mu_some g2]
    have l1 := ks_len J.x
    have l2 := ks_len J.y
    have hlh : h.length = 1 := by unfold Ar at har; omega
    have l2 : f2.ks.length = 1 - a2' := l2
    have l1 : p.rs.f0.ks.length = h.length - a2 := l1
    unfold Wd.mu
    have s1 : six p.rs.f0.ks.length ≤ 1 := by unfold six; omega
    have s2 : six f2.ks.length ≤ 1 := by unfold six; omega
    by_cases c1 : p.rs.f0.st < 10
    · rw [if_pos c1]
      by_cases c2 : f2.st < 10
      · rw [if_pos c2]
        show 6 + six p.rs.f0.ks.length + six f2.ks.length < 9
        omega
      · rw [if_neg c2]; omega
    · rw [if_neg c1]
      by_cases c2 : f2.st < 10
      · rw [if_pos c2]; omega
      · rw [if_neg c2]; omega
/-- Quiet: no deadline. -/
def P.Qt (p : P) : Prop := p.f0.dw = 0 ∧ ∀ f, p.f1 = some f → f.dw = 0
/-- A deadline is at most so many ticks away. -/
def P.Soon (p : P) (r : Nat) : Prop := (0 < p.f0.dw ∧ p.f0.df + p.f0.dw ≤ ((p.t + r : Nat) : Int)) ∨ ∃ f, p.f1 = some f ∧ 0 < f.dw ∧ f.df + f.dw ≤ ((p.t + r : Nat) : Int)
def iter (R : P → P) : Nat → P → P
  | 0, p => p
  | n + 1, p => iter R n (R p)
theorem Qt.no {p : P} (h : p.Qt) : ¬ p.Due := by
  rintro (⟨e, _⟩ | ⟨f, e1, ⟨e, _⟩⟩)
  · have := h.1; omega
  · have := h.2 f e1; omega
theorem soon16 {i n : Nat} {p : P} (H : JP i n p) (h : ¬ p.Qt) : p.Soon 16 := by
  have h0 := H.N.f0.df
  have h1 := H.N.f0.dw
  by_cases e : p.f0.dw = 0
  · have : ∃ f, p.f1 = some f ∧ f.dw ≠ 0 := by
      refine Classical.byContradiction fun h9 => h ⟨e, fun f hf => Classical.byContradiction fun h8 => h9 ⟨f, hf, h8⟩⟩
    obtain ⟨f, hf, h8⟩ := this
    have h2 := (H.N.f1 f hf).df
    have h3 := (H.N.f1 f hf).dw
    exact .inr ⟨f, hf, by omega, by omega⟩
  · exact .inl ⟨by omega, by omega⟩
/-- Deadlines run out. -/
theorem run_down {i : Nat} (R : P → P) (mu : P → Nat) (hmt : ∀ p t, mu { p with t := t } = mu p)
    (hR : ∀ n p, JP i n p → n + 300 ≤ 100000 → (∃ n', n' ≤ n + 201 ∧ JP i n' (R p)) ∧ (R p).way = [])
    (hno : ∀ n p, JP i n p → p.way = [] → ¬ p.Due → R p = { p with t := p.t + 1 })
    (hd : ∀ n p, JP i n p → n + 300 ≤ 100000 → p.way = [] → p.Due → mu (R p) < mu p)
    (h1 : ∀ n p, JP i n p → ¬ p.Qt → 1 ≤ mu p) :
    ∀ (N n : Nat) (p : P), JP i n p → n + 201 * N + 300 ≤ 100000 → p.way = [] → (p.Qt ∨ ∃ r, 1 ≤ r ∧ p.Soon r ∧ 1 ≤ mu p ∧ 16 * (mu p - 1) + r ≤ N) → (iter R N p).Qt ∧ ∃ n', n' ≤ n + 201 * N ∧ JP i n' (iter R N p)
  | 0, n, p, H, hn, hw, h => by
    refine ⟨?_, n, by omega, H⟩
    rcases h with h | ⟨r, hr, hs, h2, h3⟩
    · exact h
    · omega
  | N + 1, n, p, H, hn, hw, h => by
    obtain ⟨⟨n1, hn1, H1⟩, hw1⟩ := hR n p H (by omega)
    have fin : ((R p).Qt ∨ ∃ r, 1 ≤ r ∧ (R p).Soon r ∧ 1 ≤ mu (R p) ∧ 16 * (mu (R p) - 1) + r ≤ N) → (iter R (N + 1) p).Qt ∧ ∃ n', n' ≤ n + 201 * (N + 1) ∧ JP i n' (iter R (N + 1) p) := fun h9 => by
      obtain ⟨q, n2, hn2, H2⟩ := run_down R mu hmt hR hno hd h1 N n1 (R p) H1 (by omega) hw1 h9
      exact ⟨q, n2, by omega, H2⟩
    refine fin ?_
    by_cases hdu : p.Due
    · have hm := hd n p H (by omega) hw hdu
      by_cases hq : (R p).Qt
      · exact .inl hq
      · refine .inr ⟨16, by omega, soon16 H1 hq, h1 n1 _ H1 hq, ?_⟩
        have := h1 n1 _ H1 hq
        rcases h with h | ⟨r, hr, hs, h2, h3⟩
        · exact absurd hdu (Qt.no h)
        · omega
    · rw [hno n p H hw hdu]
      rcases h with h | ⟨r, hr1, hs, h2, h3⟩
      · exact .inl h
      · right
        have hr : 2 ≤ r := by
          refine Classical.byContradiction fun h9 => hdu ?_
          rcases hs with ⟨a, b⟩ | ⟨f, e, a, b⟩
          · exact .inl ⟨a, by omega⟩
          · exact .inr ⟨f, e, a, by omega⟩
        refine ⟨r - 1, by omega, ?_, by rw [hmt]; exact h2, by rw [hmt]; omega⟩
        rcases hs with ⟨a, b⟩ | ⟨f, e, a, b⟩
        · exact .inl ⟨a, by show p.f0.df + p.f0.dw ≤ ((p.t + 1 + (r - 1) : Nat) : Int); omega⟩
        · exact .inr ⟨f, e, a, by show f.df + f.dw ≤ ((p.t + 1 + (r - 1) : Nat) : Int); omega⟩
end Go.Proofs.Ytnpkmkjenlhkiaa

namespace Go.Proofs.Ytnpkmkjenlhkiaa
set_option linter.unusedVariables false
set_option linter.unusedSimpArgs false
set_option maxRecDepth 20000

/-- How many deadlines of a flow are ahead that hears nothing. -/
def lo (x : F) : Nat := if x.dw = 0 then 0 else 5 - x.tries
def P.ml (p : P) : Nat := lo p.f0 + (match p.f1 with | none => 0 | some f => lo f)
theorem lo_le (x : F) : lo x ≤ 5 := by unfold lo; split <;> omega
theorem ml_t (p : P) (t : Nat) : P.ml { p with t := t } = p.ml := rfl
section
variable {op i i' m a mo : Nat} {h h' : List Ky} {x : F}
theorem Sd.lo_pos (D : Sd op x i h i' h' m a mo) (hd : x.dw ≠ 0) (h0 : 0 ≤ x.dw) : 1 ≤ lo x := by
  have har := D.ar
  unfold lo
  rw [if_neg hd]
  unfold Ar at har
  omega
theorem Sd.lo_expire (D : Sd op x i h i' h' m a mo) (t : Int) (hE : x.E.d < 1000000) : lo (x.expire t).quiet ≤ lo x ∧ (x.isDue t → lo (x.expire t).quiet < lo x) := by
  have E := D.expire t hE
  have har := D.ar
  have e0 : lo (x.expire t).quiet = lo (x.expire t) := rfl
  rw [e0]
  cases E with
  | no d e => rw [e]; exact ⟨Nat.le_refl _, fun h => absurd h d⟩
  | over d sd st os =>
    have h2 := sd.ar
    have h3 : (x.expire t).dw = 0 := by unfold Ar at h2; omega
    have h4 : lo (x.expire t) = 0 := if_pos h3
    have h5 := D.lo_pos (by have := d.1; omega) (by have := d.1; omega)
    exact ⟨by omega, fun _ => by omega⟩
  | again d sd st lt tr al os ks =>
    have h4 : lo (x.expire t) ≤ 5 - (x.tries + 1) := by
      unfold lo
      split
      · omega
      · rw [tr]; omega
    have h5 : lo x = 5 - x.tries := if_neg (by have := d.1; omega)
    have h6 : x.tries ≤ 4 := by unfold Ar at har; omega
    exact ⟨by omega, fun _ => by omega⟩
theorem Sd.quiet_end (D : Sd op x i h i' h' m a mo) (hd : x.dw = 0) : 1 ≤ x.st ∧ (x.st ≠ 11 → a = h.length ∧ x.ks = []) := by
  have har := D.ar
  have hal := D.al
  unfold Ar at har
  refine ⟨by omega, fun h9 => ?_⟩
  have e : a = h.length := by omega
  exact ⟨by omega, by rw [D.ks]; exact List.drop_eq_nil_iff.2 (by omega)⟩
theorem Sd.dw_st (D : Sd op x i h i' h' m a mo) (hd : x.dw ≠ 0) : x.st < 10 ∧ x.tries ≤ 4 := by
  have har := D.ar
  unfold Ar at har
  omega
end
theorem JP.d0 {i n : Nat} {p : P} (H : JP i n p) : 0 ≤ p.f0.dw ∧ ∀ f, p.f1 = some f → 0 ≤ f.dw := ⟨H.N.f0.dw.1, fun f hf => (H.N.f1 f hf).dw.1⟩
theorem not_qt {p : P} (h : ¬ p.Qt) : p.f0.dw ≠ 0 ∨ ∃ f, p.f1 = some f ∧ f.dw ≠ 0 := by
  by_cases e : p.f0.dw = 0
  · refine .inr (Classical.byContradiction fun h9 => h ⟨e, fun f hf => Classical.byContradiction fun h8 => h9 ⟨f, hf, h8⟩⟩)
  · exact .inl e
theorem ml_pos {i n : Nat} {p : P} (H : JP i n p) (h : ¬ p.Qt) : 1 ≤ p.ml := by
  have hd := H.d0
  unfold P.ml
  rcases H.c with ⟨h0, S, hb⟩ | ⟨f, h0, h', m, a, m', a', S, hb, hb'⟩
  · rcases not_qt h with e | ⟨g, e, _⟩
    · have := S.x.lo_pos e hd.1; omega
    · rw [S.no] at e; cases e
  · rcases not_qt h with e | ⟨g, e, e2⟩
    · have := S.J.x.lo_pos e hd.1
      have : 1 ≤ lo p.f0 := this
      omega
    · have e3 := S.so
      rw [e] at e3
      injection e3 with e3
      subst e3
      have : 1 ≤ lo g := S.J.y.lo_pos e2 (hd.2 g e)
      rw [e]
      show 1 ≤ lo p.f0 + lo g
      omega
theorem mu_pos {i n : Nat} {p : P} (H : JP i n p) (h : ¬ p.Qt) : 1 ≤ p.mu := by
  rcases H.c with ⟨h0, S, hb⟩ | ⟨f, h0, h', m, a, m', a', S, hb, hb'⟩
  · rcases not_qt h with e | ⟨g, e, _⟩
    · rw [mu_none S.no, if_pos (S.x.dw_st e).1]; omega
    · rw [S.no] at e; cases e
  · rw [mu_some S.so]
    unfold Wd.mu
    rcases not_qt h with e | ⟨g, e, e2⟩
    · have h1 : p.f0.st < 10 ∧ p.f0.tries ≤ 4 := S.J.x.dw_st e
      show 1 ≤ (if p.f0.st < 10 then (if f.st < 10 then 6 + six p.f0.ks.length + six f.ks.length else 5 - p.f0.tries) else (if f.st < 10 then 5 - f.tries else 0))
      rw [if_pos h1.1]
      split <;> omega
    · have e3 := S.so
      rw [e] at e3
      injection e3 with e3
      subst e3
      have h1 : g.st < 10 ∧ g.tries ≤ 4 := S.J.y.dw_st e2
      show 1 ≤ (if p.f0.st < 10 then (if g.st < 10 then 6 + six p.f0.ks.length + six g.ks.length else 5 - p.f0.tries) else (if g.st < 10 then 5 - g.tries else 0))
      rw [if_pos h1.1, if_pos h1.1]
      split <;> omega
theorem ml_due {i n : Nat} {p : P} (H : JP i n p) (hn : n + 300 ≤ 100000) (hw : p.way = []) (hd : p.Due) : p.rl.ml < p.ml := by
  have hE := H.N.Ed (by omega)
  have hs : p.step 7 0 = (p.act 7 0).flush := by unfold P.step; rw [H.flush]
  rcases H.c with ⟨h0, S, hb⟩ | ⟨f, h0, h', m, a, m', a', S, hb, hb'⟩
  · obtain ⟨_, e⟩ := S.tick hE.1
    have L := S.x.lo_expire ((p.t + 1 : Nat) : Int) hE.1
    have e1 : p.rl.ml = lo (p.f0.expire ((p.t + 1 : Nat) : Int)).quiet + 0 := by
      unfold P.rl P.ml
      rw [hs, e]
    have e2 : p.ml = lo p.f0 + 0 := by unfold P.ml; rw [S.no]
    rw [e1, e2]
    rcases hd with d | ⟨g, d, _⟩
    · have := L.2 d; omega
    · rw [S.no] at d; cases d
  · have hE1 := hE.2 f S.so
    obtain ⟨f2, _, _, e⟩ := S.tick hE.1 hE1
    have L : lo (p.f0.expire ((p.t + 1 : Nat) : Int)).quiet ≤ lo p.f0 ∧ (p.f0.isDue ((p.t + 1 : Nat) : Int) → lo (p.f0.expire ((p.t + 1 : Nat) : Int)).quiet < lo p.f0) := S.J.x.lo_expire ((p.t + 1 : Nat) : Int) hE.1
    have L1 : lo (f.expire ((p.t + 1 : Nat) : Int)).quiet ≤ lo f ∧ (f.isDue ((p.t + 1 : Nat) : Int) → lo (f.expire ((p.t + 1 : Nat) : Int)).quiet < lo f) := S.J.y.lo_expire ((p.t + 1 : Nat) : Int) hE1
    have e1 : p.rl.ml = lo (p.f0.expire ((p.t + 1 : Nat) : Int)).quiet + lo (f.expire ((p.t + 1 : Nat) : Int)).quiet := by
      unfold P.rl P.ml
      rw [hs, e]
    have e2 : p.ml = lo p.f0 + lo f := by unfold P.ml; rw [S.so]
    rw [e1, e2]
    rcases hd with d | ⟨g, d, d2⟩
    · have := L.2 d; have := L1.1; omega
    · rw [S.so] at d
      injection d with d
      subst d
      have := L1.2 d2
      have := L.1
      omega
theorem mu_due {i n : Nat} {p : P} (H : JP i n p) (hn : n + 300 ≤ 100000) (hw : p.way = []) (hd : p.Due) : p.rs.mu < p.mu := by
  rcases H.c with ⟨h0, S, hb⟩ | ⟨f, h0, h', m, a, m', a', S, hb, hb'⟩
  · exact JN.due H (by omega) S hb hw hd
  · exact S.due H (by omega) hw hd
theorem rs_JP {i n : Nat} {p : P} (H : JP i n p) (hn : n + 300 ≤ 100000) : (∃ n', n' ≤ n + 201 ∧ JP i n' p.rs) ∧ p.rs.way = [] := by
  obtain ⟨n', h1, h2⟩ := (H.step (by omega) 7 0).settle 200 (n + 1) _ (by omega)
  exact ⟨⟨n', by omega, h2⟩, rs_way H (by omega)⟩
theorem rl_JP {i n : Nat} {p : P} (H : JP i n p) (hn : n + 300 ≤ 100000) : (∃ n', n' ≤ n + 201 ∧ JP i n' p.rl) ∧ p.rl.way = [] :=
  ⟨⟨n + 1, by omega, (H.step (by omega) 7 0).lost⟩, rfl⟩
/-- Behind the first tick few are ahead. -/
theorem mu_first {i n : Nat} {p : P} (H : JP i n p) (hn : n + 300 ≤ 100000) (h0 : p.f0.ks.length ≤ 101) (h1 : ∀ f, p.f1 = some f → f.ks.length ≤ 101) : p.rs.mu ≤ 10 := by
  have hE := H.N.Ed (by omega)
  have hs : p.step 7 0 = (p.act 7 0).flush := by unfold P.step; rw [H.flush]
  have H1 := H.step (by omega) 7 0
  have few : ∀ (w : Wd), w.x.ks.length ≤ 101 → w.y.ks.length ≤ 101 → w.mu ≤ 10 := fun w c1 c2 => by
    have s1 : six w.x.ks.length ≤ 2 := by unfold six; omega
    have s2 : six w.y.ks.length ≤ 2 := by unfold six; omega
    unfold Wd.mu
    split
    · split <;> omega
    · split <;> omega
  rcases H.c with ⟨h, S, hb⟩ | ⟨f, h, h', m, a, m', a', S, hb, hb'⟩
  · obtain ⟨S1, _⟩ := S.tick hE.1
    rw [← hs] at S1
    by_cases hw1 : (p.step 7 0).way = []
    · have e2 : p.rs = p.step 7 0 := settle_nil _ _ hw1
      rw [e2, mu_none S1.no]
      split <;> omega
    · obtain ⟨f2, m2, a2, m2', a2', g1, g2, J⟩ := JN.settle H1 (by omega) S1 (by omega) hw1 199 (by omega)
      have g2 : p.rs.f1 = some f2 := g2
      rw [mu_some g2]
      have l1 : p.rs.f0.ks.length = h.length - a2 := ks_len J.x
      have l2 : f2.ks.length = 1 - a2' := ks_len J.y
      have l3 : p.f0.ks.length = h.length - 0 := ks_len S.x
      exact few _ (by show p.rs.f0.ks.length ≤ 101; omega) (by show f2.ks.length ≤ 101; omega)
  · have hE1 := hE.2 f S.so
    obtain ⟨f2, S2, _, _⟩ := S.tick hE.1 hE1
    rw [← hs] at S2
    obtain ⟨f3, m2, a2, m2', a2', g1, g2, J, ha, ha'⟩ := settle_JS S2 200 (by omega)
    have g2 : p.rs.f1 = some f3 := g2
    rw [mu_some g2]
    have l1 : p.rs.f0.ks.length = h.length - a2 := ks_len J.x
    have l2 : f3.ks.length = h'.length - a2' := ks_len J.y
    have l3 : p.f0.ks.length = h.length - a := ks_len S.J.x
    have l4 : f.ks.length = h'.length - a' := ks_len S.J.y
    have := h1 f S.so
    exact few _ (by show p.rs.f0.ks.length ≤ 101; omega) (by show f3.ks.length ≤ 101; omega)
/-- What the law looks at. -/
def Ended (lost : Bool) (q : P) : Prop := (q.f0.dw = 0 ∧ 1 ≤ q.f0.st ∧ (q.f0.st < 5 → q.f0.ks = [])) ∧ (∀ f, q.f1 = some f → f.dw = 0 ∧ 1 ≤ f.st ∧ (f.st < 5 → f.ks = [])) ∧ (lost = true ∨ q.f0.st = 11 ∨ (∃ f, q.f1 = some f ∧ f.st = 11) ∨ q.f1 = none ∨ (q.s0 = q.c1 ∧ q.s1 = q.c0))
theorem fin_of {i n : Nat} {p : P} (H : JP i n p) (h : p.Qt) (lost : Bool) : Ended lost p := by
  rcases H.c with ⟨h0, S, hb⟩ | ⟨f, h0, h', m, a, m', a', S, hb, hb'⟩
  · have E := S.x.quiet_end h.1
    exact ⟨⟨h.1, E.1, fun e => (E.2 (by omega)).2⟩, fun f hf => (by rw [S.no] at hf; cases hf), .inr (.inr (.inr (.inl S.no)))⟩
  · have E : 1 ≤ p.f0.st ∧ (p.f0.st ≠ 11 → a = h0.length ∧ p.f0.ks = []) := S.J.x.quiet_end h.1
    have E1 : 1 ≤ f.st ∧ (f.st ≠ 11 → a' = h'.length ∧ f.ks = []) := S.J.y.quiet_end (h.2 f S.so)
    refine ⟨⟨h.1, E.1, fun e => (E.2 (by omega)).2⟩, fun g hg => ?_, ?_⟩
    · rw [S.so] at hg
      injection hg with hg
      subst hg
      exact ⟨h.2 f S.so, E1.1, fun e => (E1.2 (by omega)).2⟩
    · by_cases c1 : p.f0.st = 11
      · exact .inr (.inl c1)
      by_cases c2 : f.st = 11
      · exact .inr (.inr (.inl ⟨f, S.so, c2⟩))
      refine .inr (.inr (.inr (.inr ⟨?_, ?_⟩)))
      · have h1 := (E.2 c1).1
        have h2 := S.J.x.am
        rw [S.s0, S.c1, List.take_of_length_le (by omega)]
      · have h1 := (E1.2 c2).1
        have h2 := S.J.y.am
        rw [S.s1, S.c0, List.take_of_length_le (by omega)]
def rnd (lost : Bool) : P → P := if lost = true then P.rl else P.rs
theorem iter_succ (R : P → P) : ∀ (n : Nat) (p : P), iter R (n + 1) p = R (iter R n p)
  | 0, _ => rfl
  | n + 1, p => iter_succ R n (R p)
theorem rs_flush (p : P) : p.flush.rs = p.rs := by unfold P.rs; rw [step_flush]
theorem rl_flush (p : P) : p.flush.rl = p.rl := by unfold P.rl; rw [step_flush]
theorem iter_head (R : P → P) (n : Nat) (p : P) : iter R (n + 1) p = iter R n (R p) := rfl
/-- FlowEnds, without a program. -/
theorem ends_N (i : Nat) (hi : i < 4294967296) (l : List (Int × Int)) (hl : l.length ≤ 100) (lost : Bool) (N : Nat) (hN : N = 199) : Ended lost (iter (rnd lost) (N + 1) ((P.init i).run l)) := by
  have H := JP.run hi l (by omega)
  obtain ⟨⟨g0, g1, m0, m1, I⟩, _⟩ := Both.run i hi l (by omega)
  have n0 := I.a.nums.2.1
  have l0 := I.l0.2.1
  have l1 := I.l1.1
  obtain ⟨p, hp⟩ : ∃ p, p = ((P.init i).run l).flush := ⟨_, rfl⟩
  have k0 : p.f0.ks.length ≤ 101 := by
    rw [hp]
    show ((P.init i).run l).f0.ks.length ≤ 101
    omega
  have k1 : ∀ f, p.f1 = some f → f.ks.length ≤ 101 := fun f hf => by
    rw [hp] at hf
    have hf : ((P.init i).run l).f1.map F.quiet = some f := hf
    obtain ⟨g, hg, rfl⟩ := Option.map_eq_some_iff.1 hf
    have := (I.b g hg).nums.2.1
    show g.ks.length ≤ 101
    omega
  rw [← hp] at H
  cases lost with
  | true =>
    rw [show rnd true = P.rl from if_pos rfl, iter_head, ← rl_flush, ← hp]
    obtain ⟨⟨n1, hn1, H1⟩, hw1⟩ := rl_JP H (by omega)
    have hml : p.rl.ml ≤ 10 := by
      unfold P.ml
      have h1 := lo_le p.rl.f0
      split
      · omega
      · rename_i f _; have := lo_le f; omega
    obtain ⟨q, n2, _, H2⟩ := run_down P.rl P.ml ml_t (fun n p H hn => rl_JP H hn) (fun n p H hw hd => rl_no H hw hd) (fun n p H hn hw hd => ml_due H hn hw hd) (fun n p H h => ml_pos H h) N n1 p.rl H1 (by omega) hw1 (by
      by_cases hq : p.rl.Qt
      · exact .inl hq
      · have := ml_pos H1 hq
        exact .inr ⟨16, by omega, soon16 H1 hq, this, by omega⟩)
    exact fin_of H2 q true
  | false =>
    rw [show rnd false = P.rs from if_neg (by decide), iter_head, ← rs_flush, ← hp]
    obtain ⟨⟨n1, hn1, H1⟩, hw1⟩ := rs_JP H (by omega)
    have hml := mu_first H (by omega) k0 k1
    obtain ⟨q, n2, _, H2⟩ := run_down P.rs P.mu mu_t (fun n p H hn => rs_JP H hn) (fun n p H hw hd => rs_no H hw hd) (fun n p H hn hw hd => mu_due H hn hw hd) (fun n p H h => mu_pos H h) N n1 p.rs H1 (by omega) hw1 (by
      by_cases hq : p.rs.Qt
      · exact .inl hq
      · have := mu_pos H1 hq
        exact .inr ⟨16, by omega, soon16 H1 hq, this, by omega⟩)
    exact fin_of H2 q false
theorem ends_pure (i : Nat) (hi : i < 4294967296) (l : List (Int × Int)) (hl : l.length ≤ 100) (lost : Bool) : Ended lost (iter (rnd lost) (199 + 1) ((P.init i).run l)) := ends_N i hi l hl lost 199 rfl
end Go.Proofs.Ytnpkmkjenlhkiaa

namespace Go.Proofs.Ytnpkmkjenlhkiaa
set_option linter.unusedVariables false
set_option linter.unusedSimpArgs false
set_option maxRecDepth 20000
open Go.RowKit Go.Lib

section
variable {base : Nat} {w w' w1 : World} {pb : Nat} {p : P}
/-- A pair of the law: where it stands, and its bounds. -/
def Cg (base pb i : Nat) (p : P) (N : Nat) (w : World) : Prop := (∃ m lab, PR none base w pb p m lab) ∧ ∃ n, n ≤ N ∧ Both i n p
theorem Cg.step {i N : Nat} (h : Cg base pb i p N w) (hN : N + 301 ≤ 100000) (k I : Int) (hk : isInt k) (hI : isInt I) :
    Calls Try.prog 10 #[.pointer (some ⟨pb, 0, none⟩), .agg #[.int .i64 k, .int .i64 I]] w fun e w' => e = .returned (.tuple #[]) ∧ Cg base pb i (p.step k I) (N + 1) w' ∧ Below base w w' := by
  obtain ⟨⟨m, lab, h⟩, n, hn, hB⟩ := h
  exact (step_any h (hB.bd (by omega)) k I hk hI).mono fun e w' ⟨a, b, c⟩ => ⟨a, ⟨b, n + 1, by omega, hB.step (by omega) k I⟩, c⟩
theorem Cg.more {i N M : Nat} (h : Cg base pb i p N w) (hN : N ≤ M) : Cg base pb i p M w := ⟨h.1, by obtain ⟨n, a, b⟩ := h.2; exact ⟨n, by omega, b⟩⟩
theorem Cg.below {i N : Nat} (h : Cg base pb i p N w) (b : Below w.heap.size w w') : Cg base pb i p N w' := by
  obtain ⟨⟨m, lab, h⟩, h2⟩ := h
  exact ⟨⟨m, lab, h.below b⟩, h2⟩
theorem Both.lost {i n : Nat} {p : P} (h : Both i n p) : Both i n { p with way := [] } := by
  obtain ⟨⟨h0, h1, m0, m1, I⟩, N⟩ := h
  exact ⟨⟨h0, h1, m0, m1, I.fewer [] (fun _ hx => by cases hx)⟩, ⟨N.t, N.f0, N.f1, Nat.zero_le _⟩⟩
/-- Nothing is on the way any more. -/
theorem Cg.lost {i N : Nat} (h : Cg base pb i p N w) : Cg base pb i { p with way := [] } N (w.setCell ⟨pb, 2, none⟩ (.slice none 0 0)) ∧ Below base w (w.setCell ⟨pb, 2, none⟩ (.slice none 0 0)) := by
  obtain ⟨⟨m, lab, h⟩, n, hn, hB⟩ := h
  obtain ⟨lab', a, _, c⟩ := h.setway (Below.refl _ _) [] (fun _ hx => by cases hx) (v' := .slice none 0 0) nil_row (fun g e => by cases e)
  exact ⟨⟨⟨_, lab', a⟩, n, hn, hB.lost⟩, c.belowB (by have := h.lo; have := h.lt; omega) (fun g e => e ▸ h.lo)⟩
theorem Cg.way {i N : Nat} (h : Cg base pb i p N w) : ∃ A L c, w.cell? ⟨pb, 2, none⟩ = some (.slice A L c) ∧ L = p.way.length ∧ pb < w.heap.size ∧ base ≤ pb ∧ w.frozen? ⟨pb, 2, none⟩ = false ∧ ∃ v, w.cell? ⟨pb, 2, none⟩ = some v := by
  obtain ⟨⟨m, lab, h⟩, _⟩ := h
  obtain ⟨A, c, hwv, hwl⟩ := Ms.way_slice h
  have hc : w.cell? ⟨pb, 2, none⟩ = some m.wv := h.at_ 2
  exact ⟨A, m.ws.length, c, by rw [hc, hwv], hwl, h.lt, h.lo, h.fz 2, m.wv, hc⟩
end
/-- A flow of the pair that is at its end: what it is asked. -/
structure Asks (base : Nat) (w : World) (v : Value) (st : Nat) : Prop where
  at_ : ∀ W, Below w.heap.size w W → Calls Try.prog 12 #[v] W fun e w' => e = .returned (.tuple #[.int .i64 0, .bool false]) ∧ Below W.heap.size W w'
  state : ∀ W, Below w.heap.size w W → Calls Try.prog 13 #[v] W fun e w' => e = .returned (.int .i64 (st : Int)) ∧ w' = W
  left : st < 5 → ∀ W, Below w.heap.size w W → Calls Try.prog 14 #[v] W fun e w' => (∃ A c, e = .returned (.slice A 0 c)) ∧ Below W.heap.size W w'
theorem Asks.nil (base : Nat) (w : World) : Asks base w (.pointer none) 0 := by
  have h1 := nAt
  have h2 := nState
  have h3 := nLeft
  unfold nilp at h1 h2 h3
  exact ⟨fun W _ => (h1 W).mono fun e w' ⟨a, b⟩ => ⟨a, b ▸ Below.refl _ _⟩, fun W _ => h2 W, fun _ W _ => (h3 W).mono fun e w' ⟨a, b⟩ => ⟨⟨none, 0, a⟩, b ▸ Below.refl _ _⟩⟩
theorem Asks.flow {base : Nat} {w : World} {s : Sh} {x : F} (h : Fl base w s x) (hd : x.dw = 0) (hf : 0 ≤ x.df ∧ x.df ≤ 1152921504606846976) (hk : x.st < 5 → x.ks = []) : Asks base w (.pointer (some ⟨s.fb, 0, none⟩)) x.st := by
  refine ⟨fun W b => ?_, fun W b => ?_, fun h5 W b => ?_⟩
  · have A := At_any (h.below b).fa hf (by show 0 ≤ x.dw ∧ x.dw ≤ 16; omega)
    have e : due (x.fc s.qb s.ov).df (x.fc s.qb s.ov).dw = .tuple #[.int .i64 0, .bool false] := if_neg (by show ¬ 0 < x.dw; omega)
    rw [e] at A
    exact A
  · exact State_any (h.below b).fa
  · have e := hk h5
    have A := Left_any (h.below b) (by rw [e]; exact Nat.zero_le _) (by rw [e]; intro k hk; cases hk)
    rw [show x.ks.length = 0 by rw [e]; rfl] at A
    exact A
theorem Asks.below {base : Nat} {w w' : World} {v : Value} {st : Nat} (h : Asks base w v st) (b : Below w.heap.size w w') : Asks base w' v st :=
  ⟨fun W b2 => h.at_ W (b.trans (b2.mono b.size)), fun W b2 => h.state W (b.trans (b2.mono b.size)), fun h5 W b2 => h.left h5 W (b.trans (b2.mono b.size))⟩
/-- The end of the law, as the pair stands. -/
structure Ed (base : Nat) (w : World) (pb : Nat) (q : P) (lost : Bool) : Prop where
  ex : ∃ v0 v1 s0 s1, w.rangeAt pb 0 [v0, v1] ∧ Asks base w v0 s0 ∧ Asks base w v1 s1 ∧ (lost = true ∨ s0 = 11 ∨ s1 = 11 ∨ s1 = 0 ∨ (q.s0 = q.c1 ∧ q.s1 = q.c0))
    ∧ ∃ B0 B1 B2 B3 j0 j1 j2 j3, w.cell? ⟨pb, 3, none⟩ = some (.slice B0 q.s0.length j0) ∧ w.cell? ⟨pb, 4, none⟩ = some (.slice B1 q.s1.length j1) ∧ w.cell? ⟨pb, 5, none⟩ = some (.slice B2 q.c0.length j2) ∧ w.cell? ⟨pb, 6, none⟩ = some (.slice B3 q.c1.length j3)
      ∧ RB w B0 q.s0.length j0 q.s0 ∧ RB w B1 q.s1.length j1 q.s1 ∧ RB w B2 q.c0.length j2 q.c0 ∧ RB w B3 q.c1.length j3 q.c1
theorem Ed.of {base : Nat} {w : World} {pb i n : Nat} {q : P} {m : Ms} {lab : Nat → Nat} {lost : Bool} (h : PR none base w pb q m lab) (hB : Both i n q) (hn : n ≤ 100000) (hE : Ended lost q) : Ed base w pb q lost := by
  obtain ⟨B0, j0, e0, r0⟩ := h.s0.rb
  obtain ⟨B1, j1, e1, r1⟩ := h.s1.rb
  obtain ⟨B2, j2, e2, r2⟩ := h.c0.rb
  obtain ⟨B3, j3, e3, r3⟩ := h.c1.rb
  have q0 := h.at_ 3
  have q1 := h.at_ 4
  have q2 := h.at_ 5
  have q3 := h.at_ 6
  rw [show (m.cs q.t)[3]? = some m.sv0 from rfl, e0] at q0
  rw [show (m.cs q.t)[4]? = some m.sv1 from rfl, e1] at q1
  rw [show (m.cs q.t)[5]? = some m.cv0 from rfl, e2] at q2
  rw [show (m.cs q.t)[6]? = some m.cv1 from rfl, e3] at q3
  have N := hB.2
  have ht := N.t
  have hdf := N.f0.df
  have A0 := Asks.flow h.fa hE.1.1 (by omega) hE.1.2.2
  have hrow : w.rangeAt pb 0 [.pointer (some ⟨m.a.fb, 0, none⟩), f1v m.b] := fun j v hv => by
    rcases j with _ | _ | j
    · injection hv with hv; subst hv; exact h.at_ 0
    · injection hv with hv; subst hv; exact h.at_ 1
    · cases hv
  cases hf : q.f1 with
  | none =>
    rw [h.fn hf] at hrow
    refine ⟨_, _, _, 0, hrow, A0, Asks.nil base w, ?_, B0, B1, B2, B3, j0, j1, j2, j3, q0, q1, q2, q3, r0, r1, r2, r3⟩
    exact .inr (.inr (.inr (.inl rfl)))
  | some f =>
    obtain ⟨s, hs, hF⟩ := h.fb f hf
    have hE1 := hE.2.1 f hf
    have hd1 := (N.f1 f hf).df
    rw [hs] at hrow
    refine ⟨_, _, _, f.st, hrow, A0, Asks.flow hF hE1.1 (by omega) hE1.2.2, ?_, B0, B1, B2, B3, j0, j1, j2, j3, q0, q1, q2, q3, r0, r1, r2, r3⟩
    rcases hE.2.2 with e | e | ⟨g, e, e2⟩ | e | e
    · exact .inl e
    · exact .inr (.inl e)
    · rw [hf] at e; injection e with e; rw [e]; exact .inr (.inr (.inl e2))
    · rw [hf] at e; cases e
    · exact .inr (.inr (.inr (.inr e)))
theorem Ed.below {base : Nat} {w w' : World} {pb : Nat} {q : P} {lost : Bool} (h : Ed base w pb q lost) (b : Below w.heap.size w w') : Ed base w' pb q lost := by
  obtain ⟨v0, v1, s0, s1, hr, A0, A1, hc, B0, B1, B2, B3, j0, j1, j2, j3, q0, q1, q2, q3, r0, r1, r2, r3⟩ := h.ex
  exact ⟨v0, v1, s0, s1, range_below hr b, A0.below b, A1.below b, hc, B0, B1, B2, B3, j0, j1, j2, j3, cellB b q0, cellB b q1, cellB b q2, cellB b q3, r0.below b, r1.below b, r2.below b, r3.below b⟩
end Go.Proofs.Ytnpkmkjenlhkiaa

/- Two flows, whatever happens: what holds always. Condition: at most 100000 steps.
Two flows, whatever happens: what holds always, by any step. Condition: at most 100000 steps. -/
import Derived.Test.YtnpkmkjenlhkiaaMg31
namespace Go.Proofs.Ytnpkmkjenlhkiaa
set_option linter.unusedVariables false
set_option linter.unusedSimpArgs false
set_option maxRecDepth 20000

/-- Before the second flow is there. -/
structure JN (i : Nat) (p : P) (h : List Ky) : Prop where
  no : p.f1 = none
  xo : p.f0.os = []
  x : Sd 1 p.f0 i h 9000 [] 0 0 0
  way : ∀ k ∈ p.way, k.to = 1 ∧ POk k.o i h 9000 [] 0 ∧ Pq 1 k.o
  s0 : p.s0 = data h
  s1 : p.s1 = []
  c0 : p.c0 = []
  c1 : p.c1 = []
  hl : 1 ≤ h.length
/-- Behind that. -/
structure JS (i : Nat) (p : P) (f : F) (h h' : List Ky) (m a m' a' : Nat) : Prop where
  so : p.f1 = some f
  J : JW 1 i 9000 ⟨p.f0, f, p.way, p.t⟩ h h' m a m' a'
  s0 : p.s0 = data h
  s1 : p.s1 = data h'
  c0 : p.c0 = data (h'.take m)
  c1 : p.c1 = data (h.take m')
structure JP (i n : Nat) (p : P) : Prop where
  N : Nbs p n
  o0 : p.f0.os = []
  o1 : ∀ f, p.f1 = some f → f.os = []
  c : (∃ h, JN i p h ∧ tot h ≤ 20 * (n + 1)) ∨ ∃ f h h' m a m' a', JS i p f h h' m a m' a' ∧ tot h ≤ 20 * (n + 1) ∧ tot h' ≤ 20 * (n + 1)
theorem JP.flush {i n : Nat} {p : P} (h : JP i n p) : p.flush = p := flush_id h.o0 h.o1
/-- Packets more, and fewer, of the same kind. -/
theorem JW.other {ox i i' : Nat} {w : Wd} {h h' : List Ky} {m a m' a' : Nat} (J : JW ox i i' w h h' m a m' a') (way : List Pk) (t : Nat) (hl : way.length ≤ 60) (hk : ∀ k ∈ way, k.to ≤ 1 ∧ (k.to = 0 → POk k.o i' h' i h m' ∧ Pq (3 - ox) k.o) ∧ (k.to = 1 → POk k.o i h i' h' m ∧ Pq ox k.o)) : JW ox i i' ⟨w.x, w.y, way, t⟩ h h' m a m' a' :=
  ⟨J.x, J.y, J.xo, J.yo, hl, hk, J.ox_, J.sm⟩
theorem POk.up {o : Ou} {i i' : Nat} {h h' : List Ky} {m m2 : Nat} (p : POk o i h i' h' m) (hm : m ≤ m2) (hl : m ≤ h'.length) : POk o i h i' h' m2 := p.mono (by rw [List.take_length]) (Nat.le_refl _) (by rw [List.take_length]) hm hl
theorem hear_os {op op' i i' m a mo en' : Nat} {h h' : List Ky} {x : F} (D : Sd op x i h i' h' m a mo) (hop : op + op' = 3) (H' : Hist i' h' en') (hfl : FinLast h') (hsm : tot h' < 2147483648) (o : Ou) (K : POk o i' h' i h mo) (Q : Pq op' o) (t : Int) (ho : x.os = []) : (x.hearO o t).os.length ≤ 1 := by
  obtain ⟨m3, a3, l, Hh⟩ := D.hear hop H' hfl hsm o K Q t
  rw [Hh.os, ho, List.nil_append]
  rcases Hh.ans with e | ⟨o2, e, _⟩ <;> rw [e]
  · exact Nat.zero_le _
  · exact Nat.le_refl _
/-- A packet that is on the way comes; it may stay there too. -/
theorem JS.comes {i : Nat} {p : P} {f : F} {h h' : List Ky} {m a m' a' : Nat} (S : JS i p f h h' m a m' a') (k : Pk) (hk : k ∈ p.way) (way : List Pk) (hw : ∀ x ∈ way, x ∈ p.way) (hl : way.length ≤ 60) :
    ∃ f2 m2 a2 m2' a2', JS i (P.flush (P.comes { p with way := way } k)) f2 h h' m2 a2 m2' a2' := by
  have J := S.J
  have hk1 := J.way k hk
  have J1 : JW 1 i 9000 ⟨p.f0, f, [k], p.t⟩ h h' m a m' a' := J.other [k] p.t (by show 1 ≤ 60; omega) (fun x hx => by simp only [List.mem_singleton] at hx; rw [hx]; exact hk1)
  obtain ⟨m2, a2, m2', a2', D, d1, d2⟩ := J1.del (k := k) (r := []) rfl
  have hm := D.hm
  have hml := J.x.S.mle
  have hml' := J.y.S.mle
  have old : ∀ x ∈ way, x.to ≤ 1 ∧ (x.to = 0 → POk x.o 9000 h' i h m2' ∧ Pq 2 x.o) ∧ (x.to = 1 → POk x.o i h 9000 h' m2 ∧ Pq 1 x.o) := fun x hx => by
    have h9 := J.way x (hw x hx)
    exact ⟨h9.1, fun e => ⟨(h9.2.1 e).1.up hm.2.2.1 hml', (h9.2.1 e).2⟩, fun e => ⟨(h9.2.2 e).1.up hm.1 hml, (h9.2.2 e).2⟩⟩
  by_cases e : k.to = 1
  · -- to the second one
    have hos : (f.hearO k.o p.t).os.length ≤ 1 := hear_os J.y (op' := 1) rfl J.x.S.his J.x.fl J.sm.1 k.o (hk1.2.2 e).1 (hk1.2.2 e).2 (p.t : Int) J.yo
    have hd : Wd.del ⟨p.f0, f, [k], p.t⟩ = ⟨p.f0, (f.hearO k.o p.t).quiet, (f.hearO k.o p.t).os.map (Pk.mk 0), p.t⟩ := by
      show (if k.to = 1 then (⟨p.f0, (f.hearO k.o p.t).quiet, addw 0 [] (f.hearO k.o p.t).os, p.t⟩ : Wd) else _) = _
      rw [if_pos e, addw_all (by show 0 + _ ≤ 60; omega), List.nil_append]
    rw [hd] at D
    have hc : P.flush (P.comes { p with way := way } k) = { p with f1 := some (f.hearO k.o p.t).quiet, way := addw 0 way (f.hearO k.o p.t).os, c1 := p.c1 ++ (if f.heardO k.o p.t = true then k.o.k.ds else []) } := by
      unfold P.comes
      rw [if_pos e]
      show P.flush (match p.f1 with | none => _ | some f => _) = _
      rw [S.so]
      show P.mk p.f0.quiet (some (f.hearO k.o p.t).quiet) (addw 0 (addw 1 way p.f0.os) (f.hearO k.o p.t).os) p.s0 p.s1 p.c0 _ p.t = _
      rw [show p.f0.os = [] from J.xo, addw_none, quiet_same (show p.f0.os = [] from J.xo)]
    refine ⟨(f.hearO k.o p.t).quiet, m2, a2, m2', a2', ?_⟩
    rw [hc]
    refine ⟨rfl, D.J.other (addw 0 way (f.hearO k.o p.t).os) p.t (addw_len hl) (fun x hx => ?_), S.s0, S.s1, ?_, ?_⟩
    · rcases addw_mem hx with hx | ⟨o, ho, rfl⟩
      · exact old x hx
      · exact D.J.way ⟨0, o⟩ (List.mem_map_of_mem ho)
    · show p.c0 = _
      rw [S.c0, d2, if_neg (fun h9 => h9.1 e), List.append_nil]
    · show p.c1 ++ _ = _
      rw [S.c1, d1]
      by_cases c : f.heardO k.o p.t = true
      · rw [if_pos c, if_pos ⟨e, c⟩]
      · rw [if_neg c, if_neg (fun h9 => c h9.2)]
  · -- to the first one
    have e0 : k.to = 0 := by omega
    have hos : (p.f0.hearO k.o p.t).os.length ≤ 1 := hear_os J.x (op' := 2) rfl J.y.S.his J.y.fl J.sm.2 k.o (hk1.2.1 e0).1 (hk1.2.1 e0).2 (p.t : Int) J.xo
    have hd : Wd.del ⟨p.f0, f, [k], p.t⟩ = ⟨(p.f0.hearO k.o p.t).quiet, f, (p.f0.hearO k.o p.t).os.map (Pk.mk 1), p.t⟩ := by
      show (if k.to = 1 then _ else (⟨(p.f0.hearO k.o p.t).quiet, f, addw 1 [] (p.f0.hearO k.o p.t).os, p.t⟩ : Wd)) = _
      rw [if_neg e, addw_all (by show 0 + _ ≤ 60; omega), List.nil_append]
    rw [hd] at D
    have hc : P.flush (P.comes { p with way := way } k) = { p with f0 := (p.f0.hearO k.o p.t).quiet, way := addw 1 way (p.f0.hearO k.o p.t).os, c0 := p.c0 ++ (if p.f0.heardO k.o p.t = true then k.o.k.ds else []) } := by
      unfold P.comes
      rw [if_neg e]
      show P.mk (p.f0.hearO k.o p.t).quiet (p.f1.map F.quiet) (addw 0 (addw 1 way (p.f0.hearO k.o p.t).os) (outs p.f1)) p.s0 p.s1 _ p.c1 p.t = _
      rw [S.so]
      show P.mk (p.f0.hearO k.o p.t).quiet (some f.quiet) (addw 0 (addw 1 way (p.f0.hearO k.o p.t).os) f.os) p.s0 p.s1 _ p.c1 p.t = _
      rw [show f.os = [] from J.yo, addw_none, quiet_same (show f.os = [] from J.yo), ← S.so]
    refine ⟨f, m2, a2, m2', a2', ?_⟩
    rw [hc]
    refine ⟨S.so, D.J.other (addw 1 way (p.f0.hearO k.o p.t).os) p.t (addw_len hl) (fun x hx => ?_), S.s0, S.s1, ?_, ?_⟩
    · rcases addw_mem hx with hx | ⟨o, ho, rfl⟩
      · exact old x hx
      · exact D.J.way ⟨1, o⟩ (List.mem_map_of_mem ho)
    · show p.c0 ++ _ = _
      rw [S.c0, d2]
      by_cases c : p.f0.heardO k.o p.t = true
      · rw [if_pos c, if_pos ⟨e, c⟩]
      · rw [if_neg c, if_neg (fun h9 => c h9.2)]
    · show p.c1 = _
      rw [S.c1, d1, if_neg (fun h9 => e h9.1), List.append_nil]
/-- The first packet makes the second flow. -/
theorem JN.comes {i : Nat} {p : P} {h : List Ky} (S : JN i p h) (hsm : tot h < 2147483648) (k : Pk) (hk : k ∈ p.way) (way : List Pk) (hw : ∀ x ∈ way, x ∈ p.way) (hl : way.length ≤ 60) :
    ∃ f, JS i (P.flush (P.comes { p with way := way } k)) f h [sK.at 9000] 0 0 1 0 ∧ (P.flush (P.comes { p with way := way } k)).way.length ≤ way.length + 1 := by
  obtain ⟨e1, K, Q⟩ := S.way k hk
  have hak : k.o.acks = false := by
    cases e : k.o.acks with
    | false => rfl
    | true =>
      obtain ⟨r, h1, h2, _⟩ := K.ack e
      omega
  have hs : k.o.k.syn = true := by
    rcases Q.1 with e | e
    · rw [hak] at e; cases e
    · exact e
  have hin : k.o.k ∈ h := by
    rcases K.k with e | ⟨j, _, e⟩
    · exact e
    · rw [e] at hs; cases hs
  have h0s := S.x.S.his.syn0 hin hs
  obtain ⟨k0, r0, eh, hk0, hk0q, hk0l, ht1, hk0d⟩ := hist_one S.x.S.his S.hl
  have ek : k.o.k = k0 := by
    have := h0s.1
    rw [eh] at this
    injection this with this
    exact this.symm
  have hrcv : on k.o.k.seq 1 = on i (tot (h.take 1) : Int) := by rw [ek, hk0q, ht1]; rfl
  obtain ⟨a1, a2⟩ := answer_qo 9000 k.o.k.seq (by decide) (p.t : Int)
  have hdw : 0 < (F.answer 9000 k.o.k.seq p.t).dw ∧ (F.answer 9000 k.o.k.seq p.t).tries = 0 ∧ (F.answer 9000 k.o.k.seq p.t).E = Es.zero := ⟨by show 0 < Es.zero.wt; have := wt_bd Ok_zero; omega, rfl, rfl⟩
  have hc : P.flush (P.comes { p with way := way } k) = { p with f1 := some (F.answer 9000 k.o.k.seq p.t).quiet, way := addw 0 way (F.answer 9000 k.o.k.seq p.t).os } := by
    unfold P.comes
    rw [if_pos e1]
    show P.flush (match p.f1 with | none => _ | some f => _) = _
    rw [S.no]
    show P.flush (if k.o.k.syn = true ∧ k.o.acks = false ∧ k.o.rst = false then _ else _) = _
    rw [if_pos ⟨hs, hak, K.rst⟩]
    show P.mk p.f0.quiet (some (F.answer 9000 k.o.k.seq p.t).quiet) (addw 0 (addw 1 way p.f0.os) (F.answer 9000 k.o.k.seq p.t).os) p.s0 p.s1 p.c0 p.c1 p.t = _
    rw [S.xo, addw_none, quiet_same S.xo]
  have hH : Hist 9000 [sK.at 9000] (on 9000 1) := ⟨by decide, ⟨rfl, rfl⟩, (fun x hx => by
    simp at hx
    subst hx
    exact ⟨by decide, by decide⟩), (fun x r e => by
    injection e with e1 e2
    subst e1 e2
    exact ⟨rfl, rfl, rfl, fun x hx => by cases hx⟩), by decide⟩
  obtain ⟨y, hy⟩ : ∃ y, y = F.answer 9000 k.o.k.seq (p.t : Int) := ⟨_, rfl⟩
  rw [← hy] at a1 a2 hdw hc
  have hfh := fn_le h
  have hYn : Sd 2 y.quiet 9000 [sK.at 9000] i h 1 0 0 := by
    have hb : y.b = on 9000 (tot ([sK.at 9000].take 0) : Int) := a1.b.trans (on_zero (by decide)).symm
    refine ⟨⟨by show Hist _ _ y.en; rw [a1.e_, sK1]; exact hH, ⟨0, Nat.zero_le _, a1.ks, hb⟩, S.hl, fun _ _ => ⟨Nat.le_refl _, a1.rcv.trans hrcv⟩, fun e => (by have e : y.st = 1 := e; rw [a1.st] at e; cases e), fun o ho => by cases ho⟩, Nat.zero_le _, a1.ks, hb, Nat.le_refl _, Nat.zero_le _, fun j k9 hj hf => ?_, by show y.E.Ok; rw [hdw.2.2]; exact Ok_zero, ?_⟩
    · have hj1 := (List.getElem?_eq_some_iff.1 hj).1
      show j + 1 = 1
      have : [sK.at 9000].length = 1 := rfl
      omega
    · show Ar 2 y.st 0 1 1 h.length (fn [sK.at 9000]) (fn h) y.tries y.dw
      have hd := hdw.1
      rw [a1.st, hdw.2.1, show fn [sK.at 9000] = 0 from rfl]
      unfold Ar
      omega
  refine ⟨y.quiet, ?_⟩
  rw [hc]
  refine ⟨⟨rfl, ⟨(S.x.grow (sK.at 9000) rfl).more (Nat.zero_le 1) S.hl, hYn, S.xo, rfl, addw_len hl, fun x hx => ?_, .inl rfl, ⟨hsm, by decide⟩⟩, S.s0, by rw [S.s1]; rfl, by rw [S.c0]; rfl, ?_⟩, ?_⟩
  · have hx : x ∈ addw 0 way y.os := hx
    rcases addw_mem hx with hx | ⟨o, ho, rfl⟩
    · have h9 := S.way x (hw x hx)
      exact ⟨by omega, fun e => by omega, fun _ => ⟨h9.2.1.mono (by rw [List.take_length]) (Nat.le_refl _) rfl (Nat.le_refl _) (Nat.le_refl _), h9.2.2⟩⟩
    · rw [a2] at ho
      simp only [List.mem_singleton] at ho
      subst ho
      exact ⟨Nat.zero_le _, fun _ => ⟨⟨rfl, .inl (by simp), fun _ => ⟨1, Nat.le_refl _, Nat.le_refl _, hrcv⟩⟩, .inl rfl, fun _ => ⟨fun _ => rfl, fun _ => rfl⟩⟩, fun e => by cases e⟩
  · show p.c1 = _
    rw [S.c1, eh]
    show [] = k0.ds ++ []
    rw [hk0d]
    rfl
  · show (addw 0 way y.os).length ≤ _
    rw [a2]
    unfold addw
    rw [List.length_append, List.length_take]
    show _ + min _ 1 ≤ _
    omega
/-- Time goes on. -/
theorem JS.tick {i : Nat} {p : P} {f : F} {h h' : List Ky} {m a m' a' : Nat} (S : JS i p f h h' m a m' a') (h0 : p.f0.E.d < 1000000) (h1 : f.E.d < 1000000) : ∃ f2, JS i (p.act 7 0).flush f2 h h' m a m' a' ∧ (Wd.mk p.f0 f p.way p.t).tick = ⟨(p.act 7 0).flush.f0, f2, (p.act 7 0).flush.way, p.t + 1⟩ ∧ (p.act 7 0).flush = { p with f0 := (p.f0.expire (p.t + 1 : Nat)).quiet, f1 := some (f.expire (p.t + 1 : Nat)).quiet, way := addw 0 (addw 1 p.way (p.f0.expire (p.t + 1 : Nat)).os) (f.expire (p.t + 1 : Nat)).os, t := p.t + 1 } := by
  have J := S.J.tick h0 h1
  have e : (p.act 7 0).flush = { p with f0 := (p.f0.expire (p.t + 1 : Nat)).quiet, f1 := some (f.expire (p.t + 1 : Nat)).quiet, way := addw 0 (addw 1 p.way (p.f0.expire (p.t + 1 : Nat)).os) (f.expire (p.t + 1 : Nat)).os, t := p.t + 1 } := by
    rw [act_7, S.so]
    rfl
  rw [e]
  exact ⟨(f.expire (p.t + 1 : Nat)).quiet, ⟨rfl, J, S.s0, S.s1, S.c0, S.c1⟩, rfl, rfl⟩
theorem JN.tick {i : Nat} {p : P} {h : List Ky} (S : JN i p h) (h0 : p.f0.E.d < 1000000) : JN i (p.act 7 0).flush h ∧ (p.act 7 0).flush = { p with f0 := (p.f0.expire (p.t + 1 : Nat)).quiet, f1 := none, way := addw 1 p.way (p.f0.expire (p.t + 1 : Nat)).os, t := p.t + 1 } := by
  have X := (S.x.expire ((p.t + 1 : Nat) : Int) h0).os S.x S.xo
  have e : (p.act 7 0).flush = { p with f0 := (p.f0.expire (p.t + 1 : Nat)).quiet, f1 := none, way := addw 1 p.way (p.f0.expire (p.t + 1 : Nat)).os, t := p.t + 1 } := by
    rw [act_7, S.no]
    show P.mk (p.f0.expire (p.t + 1 : Nat)).quiet none (addw 0 (addw 1 p.way (p.f0.expire (p.t + 1 : Nat)).os) []) p.s0 p.s1 p.c0 p.c1 (p.t + 1) = _
    rw [addw_none]
  rw [e]
  refine ⟨⟨rfl, rfl, X.1.quiet, fun k hk => ?_, S.s0, S.s1, S.c0, S.c1, S.hl⟩, rfl⟩
  rcases addw_mem hk with hk | ⟨o, ho, rfl⟩
  · exact S.way k hk
  · exact ⟨rfl, X.2 o ho⟩
end Go.Proofs.Ytnpkmkjenlhkiaa

namespace Go.Proofs.Ytnpkmkjenlhkiaa
set_option linter.unusedVariables false
set_option linter.unusedSimpArgs false
set_option maxRecDepth 20000

theorem flush_f0 {p : P} {x : F} {f : F} (h1 : p.f1 = some f) (ho : f.os = []) : P.flush { p with f0 := x } = { p with f0 := x.quiet, way := addw 1 p.way x.os } := by
  show P.mk x.quiet (p.f1.map F.quiet) (addw 0 (addw 1 p.way x.os) (outs p.f1)) p.s0 p.s1 p.c0 p.c1 p.t = _
  rw [h1]
  show P.mk x.quiet (some f.quiet) (addw 0 (addw 1 p.way x.os) f.os) p.s0 p.s1 p.c0 p.c1 p.t = _
  rw [ho, addw_none, quiet_same ho, ← h1]
theorem flush_f1 {p : P} {x : F} (ho : p.f0.os = []) : P.flush { p with f1 := some x } = { p with f1 := some x.quiet, way := addw 0 p.way x.os } := by
  show P.mk p.f0.quiet (some x.quiet) (addw 0 (addw 1 p.way p.f0.os) x.os) p.s0 p.s1 p.c0 p.c1 p.t = _
  rw [ho, addw_none, quiet_same ho]
theorem JS.send0 {i : Nat} {p : P} {f : F} {h h' : List Ky} {m a m' a' : Nat} (S : JS i p f h h' m a m' a') (k : Ky) (s2 : Nat) (hst : p.f0.st = 3 ∨ p.f0.st = 6) (hk : 0 < k.len ∧ k.ds.length ≤ 12) (hs : k.syn = false) (hb : tot h + k.len < 2147483648) (h2 : (k.fin = false ∧ s2 = p.f0.st) ∨ (k.fin = true ∧ s2 = if p.f0.st = 3 then 4 else 8)) :
    JS i (P.flush { p with f0 := (p.f0.send k p.t).at_ s2, s0 := p.s0 ++ k.ds }) f (h ++ [k.at p.f0.en]) h' m a m' a' := by
  have J := S.J
  obtain ⟨D, e1, K, Q⟩ := J.x.send k (p.t : Int) s2 hst hk hs (by omega) h2
  have e1 : ((p.f0.send k p.t).at_ s2).os = [] ++ [⟨k.at p.f0.en, p.f0.rcv, true, false⟩] := by rw [show p.f0.os = [] from J.xo] at e1; exact e1
  have hf0 : fn h = 0 := by
    have har := J.x.ar
    unfold Ar at har
    have hst : (Wd.mk p.f0 f p.way p.t).x.st = 3 ∨ (Wd.mk p.f0 f p.way p.t).x.st = 6 := hst
    omega
  have hfl := flush_f0 (p := { p with s0 := p.s0 ++ k.ds }) (x := (p.f0.send k p.t).at_ s2) (f := f) S.so J.yo
  have hfl : P.flush { p with f0 := (p.f0.send k p.t).at_ s2, s0 := p.s0 ++ k.ds } = { p with f0 := ((p.f0.send k p.t).at_ s2).quiet, way := addw 1 p.way [⟨k.at p.f0.en, p.f0.rcv, true, false⟩], s0 := p.s0 ++ k.ds } := by
    rw [e1] at hfl
    exact hfl
  rw [hfl]
  have hml := J.x.S.mle
  have hml' := J.y.S.mle
  refine ⟨S.so, ⟨D.quiet, J.y.grow _ hf0, rfl, J.yo, addw_len J.wl, fun x hx => ?_, .inl rfl, ⟨by rw [tot_append]; show tot h + (k.len + 0) < _; omega, J.sm.2⟩⟩, ?_, S.s1, S.c0, ?_⟩
  · have hx : x ∈ addw 1 p.way [⟨k.at p.f0.en, p.f0.rcv, true, false⟩] := hx
    rcases addw_mem hx with hx | ⟨o, ho, rfl⟩
    · have h9 := J.way x hx
      exact ⟨h9.1, fun e => ⟨(h9.2.1 e).1.mono (by rw [List.take_length]) (Nat.le_refl _) (take_self_append _ _) (Nat.le_refl _) hml', (h9.2.1 e).2⟩, fun e => ⟨(h9.2.2 e).1.mono (take_self_append _ _) (by rw [List.length_append]; omega) (by rw [List.take_length]) (Nat.le_refl _) hml, (h9.2.2 e).2⟩⟩
    · simp only [List.mem_singleton] at ho
      subst ho
      exact ⟨Nat.le_refl _, (fun e => by cases e), fun _ => ⟨K, Q⟩⟩
  · show p.s0 ++ k.ds = _
    rw [S.s0, data_append]
    simp [data, Ky.at]
  · show p.c1 = _
    rw [S.c1, List.take_append_of_le_length hml']
theorem JS.send1 {i : Nat} {p : P} {f : F} {h h' : List Ky} {m a m' a' : Nat} (S : JS i p f h h' m a m' a') (k : Ky) (s2 : Nat) (hst : f.st = 3 ∨ f.st = 6) (hk : 0 < k.len ∧ k.ds.length ≤ 12) (hs : k.syn = false) (hb : tot h' + k.len < 2147483648) (h2 : (k.fin = false ∧ s2 = f.st) ∨ (k.fin = true ∧ s2 = if f.st = 3 then 4 else 8)) :
    JS i (P.flush { p with f1 := some ((f.send k p.t).at_ s2), s1 := p.s1 ++ k.ds }) (((f.send k p.t).at_ s2).quiet) h (h' ++ [k.at f.en]) m a m' a' := by
  have J := S.J
  obtain ⟨D, e1, K, Q⟩ := J.y.send k (p.t : Int) s2 hst hk hs (by omega) h2
  have e1 : ((f.send k p.t).at_ s2).os = [] ++ [⟨k.at f.en, f.rcv, true, false⟩] := by rw [show f.os = [] from J.yo] at e1; exact e1
  have hf0 : fn h' = 0 := by
    have har := J.y.ar
    unfold Ar at har
    have hst : (Wd.mk p.f0 f p.way p.t).y.st = 3 ∨ (Wd.mk p.f0 f p.way p.t).y.st = 6 := hst
    omega
  have hfl := flush_f1 (p := { p with s1 := p.s1 ++ k.ds }) (x := (f.send k p.t).at_ s2) J.xo
  have hfl : P.flush { p with f1 := some ((f.send k p.t).at_ s2), s1 := p.s1 ++ k.ds } = { p with f1 := some ((f.send k p.t).at_ s2).quiet, way := addw 0 p.way [⟨k.at f.en, f.rcv, true, false⟩], s1 := p.s1 ++ k.ds } := by
    rw [e1] at hfl
    exact hfl
  rw [hfl]
  have hml := J.x.S.mle
  have hml' := J.y.S.mle
  refine ⟨rfl, ⟨J.x.grow _ hf0, D.quiet, J.xo, rfl, addw_len J.wl, fun x hx => ?_, .inl rfl, ⟨J.sm.1, by rw [tot_append]; show tot h' + (k.len + 0) < _; omega⟩⟩, S.s0, ?_, ?_, S.c1⟩
  · have hx : x ∈ addw 0 p.way [⟨k.at f.en, f.rcv, true, false⟩] := hx
    rcases addw_mem hx with hx | ⟨o, ho, rfl⟩
    · have h9 := J.way x hx
      exact ⟨h9.1, fun e => ⟨(h9.2.1 e).1.mono (take_self_append _ _) (by rw [List.length_append]; omega) (by rw [List.take_length]) (Nat.le_refl _) hml', (h9.2.1 e).2⟩, fun e => ⟨(h9.2.2 e).1.mono (by rw [List.take_length]) (Nat.le_refl _) (take_self_append _ _) (Nat.le_refl _) hml, (h9.2.2 e).2⟩⟩
    · simp only [List.mem_singleton] at ho
      subst ho
      exact ⟨Nat.zero_le _, fun _ => ⟨K, Q⟩, fun e => by cases e⟩
  · show p.s1 ++ k.ds = _
    rw [S.s1, data_append]
    simp [data, Ky.at]
  · show p.c0 = _
    rw [S.c0, List.take_append_of_le_length hml]
theorem act_out {p : P} {k j : Int} (h : k < 0 ∨ 7 < k ∨ (k ≤ 2 ∧ p.way = [])) : p.act k j = p := by
  unfold P.act
  rw [if_neg (by rintro ⟨h1, h2⟩; rcases h with h | h | h; omega; omega; exact h2 h.2), if_neg (by omega), if_neg (by omega), if_neg (by omega), if_neg (by omega), if_neg (by omega)]
theorem act_7j (p : P) (j : Int) : p.act 7 j = p.act 7 0 := by rw [act_7, act_7]
theorem put_no {x : F} (h : ¬ (x.st = 3 ∨ x.st = 6)) (b : List UInt8) (t : Int) : x.put 1 false b t = x ∧ x.putE b = 9 := by
  unfold F.put F.putE
  rw [if_neg h, if_neg h]
  exact ⟨rfl, rfl⟩
theorem close_no {x : F} (h : ¬ (x.st = 3 ∨ x.st = 6)) (t : Int) : x.close t = x := by
  unfold F.close
  rw [if_neg (by omega), if_neg (by omega)]
theorem JN.less {i : Nat} {p : P} {h : List Ky} (S : JN i p h) (way : List Pk) (hw : ∀ x ∈ way, x ∈ p.way) : JN i { p with way := way } h := ⟨S.no, S.xo, S.x, fun k hk => S.way k (hw k hk), S.s0, S.s1, S.c0, S.c1, S.hl⟩
theorem JS.less {i : Nat} {p : P} {f : F} {h h' : List Ky} {m a m' a' : Nat} (S : JS i p f h h' m a m' a') (way : List Pk) (hw : ∀ x ∈ way, x ∈ p.way) (hl : way.length ≤ 60) : JS i { p with way := way } f h h' m a m' a' := ⟨S.so, S.J.other way p.t hl (fun k hk => S.J.way k (hw k hk)), S.s0, S.s1, S.c0, S.c1⟩
theorem klen14 {k : Ky} (h : k.ds.length ≤ 12) : k.len ≤ 14 := by
  unfold Ky.len bn
  split <;> split <;> omega
/-- What holds, behind a step. -/
def JC (i n : Nat) (p : P) : Prop := (∃ h, JN i p h ∧ tot h ≤ 20 * (n + 1)) ∨ ∃ f h h' m a m' a', JS i p f h h' m a m' a' ∧ tot h ≤ 20 * (n + 1) ∧ tot h' ≤ 20 * (n + 1)
theorem JC.more {i n : Nat} {p : P} (h : JC i n p) : JC i (n + 1) p := by
  rcases h with ⟨h, a, b⟩ | ⟨f, h, h', m, a, m', a', S, b, c⟩
  · exact .inl ⟨h, a, by omega⟩
  · exact .inr ⟨f, h, h', m, a, m', a', S, by omega, by omega⟩
theorem JP.actN {i n : Nat} {p : P} (H : JP i n p) (hn : n ≤ 100000) {h : List Ky} (S : JN i p h) (hb : tot h ≤ 20 * (n + 1)) (k j : Int) : JC i (n + 1) (p.act k j).flush := by
  have hfl := H.flush
  have har := S.x.ar
  have hst : ¬ (p.f0.st = 3 ∨ p.f0.st = 6) := by unfold Ar at har; omega
  have hT := H.N.f0.d
  have hT2 := H.N.f0.tr
  have hT3 := H.N.t
  have same : p.act k j = p → JC i (n + 1) (p.act k j).flush := fun e => by rw [e, hfl]; exact .inl ⟨h, S, by omega⟩
  by_cases hout : k < 0 ∨ 7 < k ∨ (k ≤ 2 ∧ p.way = [])
  · exact same (act_out hout)
  by_cases c3 : k = 3
  · subst c3
    refine same ?_
    rw [act_3, (put_no hst _ _).1, (put_no hst _ (p.t : Int)).2, if_neg (by decide), List.append_nil]
  by_cases c4 : k = 4
  · subst c4
    refine same ?_
    rw [act_4, S.no]
    show ({ p with f1 := none, s1 := p.s1 ++ (if (2 : Int) = 0 then byts j else []) } : P) = p
    rw [if_neg (by decide), List.append_nil, ← S.no]
  by_cases c5 : k = 5
  · subst c5
    refine same ?_
    rw [act_5, close_no hst]
  by_cases c6 : k = 6
  · subst c6
    refine same ?_
    rw [act_6, S.no]
    show ({ p with f1 := none } : P) = p
    rw [← S.no]
  by_cases c7 : k = 7
  · subst c7
    rw [act_7j]
    exact .inl ⟨h, (S.tick (by omega)).1, by omega⟩
  have hw : p.way ≠ [] := fun e => hout (.inr (.inr ⟨by omega, e⟩))
  unfold P.act
  rw [if_pos ⟨by omega, hw⟩]
  cases hg : p.way[p.at_ j]? with
  | none => dsimp only; rw [hfl]; exact .inl ⟨h, S, by omega⟩
  | some w =>
    dsimp only
    have hin : w ∈ p.way := List.mem_of_getElem? hg
    have hsub : ∀ x ∈ p.way.eraseIdx (p.at_ j), x ∈ p.way := fun x hx => List.mem_of_mem_eraseIdx hx
    have hl := Nat.le_trans (List.length_eraseIdx_le p.way (p.at_ j)) H.N.way
    by_cases c1 : k = 1
    · rw [if_pos c1]
      have := flush_id (p := { p with way := p.way.eraseIdx (p.at_ j) }) H.o0 H.o1
      rw [this]
      exact .inl ⟨h, S.less _ hsub, by omega⟩
    · rw [if_neg c1]
      by_cases c2 : k = 2
      · rw [if_pos c2]
        obtain ⟨f, S2, _⟩ := S.comes (by omega) w hin p.way (fun _ h9 => h9) H.N.way
        exact .inr ⟨f, h, _, _, _, _, _, S2, by omega, by show 1 + 0 ≤ _; omega⟩
      · rw [if_neg c2]
        obtain ⟨f, S2, _⟩ := S.comes (by omega) w hin _ hsub hl
        exact .inr ⟨f, h, _, _, _, _, _, S2, by omega, by show 1 + 0 ≤ _; omega⟩
theorem JP.actS {i n : Nat} {p : P} (H : JP i n p) (hn : n ≤ 100000) {f : F} {h h' : List Ky} {m a m' a' : Nat} (S : JS i p f h h' m a m' a') (hb : tot h ≤ 20 * (n + 1)) (hb' : tot h' ≤ 20 * (n + 1)) (k j : Int) : JC i (n + 1) (p.act k j).flush := by
  have hfl := H.flush
  have hT := H.N.f0.d
  have hT2 := H.N.f0.tr
  have hT3 := H.N.t
  have hF := H.N.f1 f S.so
  have hF1 := hF.d
  have hF2 := hF.tr
  have same : p.act k j = p → JC i (n + 1) (p.act k j).flush := fun e => by rw [e, hfl]; exact .inr ⟨f, h, h', m, a, m', a', S, by omega, by omega⟩
  by_cases hout : k < 0 ∨ 7 < k ∨ (k ≤ 2 ∧ p.way = [])
  · exact same (act_out hout)
  by_cases c3 : k = 3
  · subst c3
    by_cases hs : p.f0.st = 3 ∨ p.f0.st = 6
    · by_cases hd : (byts j).length = 0 ∨ 8 < (byts j).length
      · refine same ?_
        rw [act_3]
        unfold F.put F.putE
        rw [if_pos hs, if_pos hs, if_pos hd, if_pos hd, if_neg (by decide), List.append_nil]
      · have hp := put_yes (s := 3) hs (byts j) (by omega) (p.t : Int)
        rw [act_3, hp.1, hp.2, if_pos rfl]
        have hk := dK_ok hd
        have hl := klen14 hk.2
        have S2 := S.send0 (dK 1 false (byts j)) p.f0.st hs hk rfl (by omega) (.inl ⟨rfl, rfl⟩)
        have e : (p.f0.send (dK 1 false (byts j)) p.t).at_ p.f0.st = p.f0.send (dK 1 false (byts j)) p.t := by
          have := (send_same p.f0 (dK 1 false (byts j)) (p.t : Int)).2.2.2.2.1
          rw [← this]
          rfl
        rw [e] at S2
        refine .inr ⟨f, _, _, _, _, _, _, S2, ?_, by omega⟩
        rw [tot_append]
        show tot h + ((dK 1 false (byts j)).len + 0) ≤ _
        omega
    · refine same ?_
      rw [act_3, (put_no hs _ _).1, (put_no hs _ (p.t : Int)).2, if_neg (by decide), List.append_nil]
  by_cases c4 : k = 4
  · subst c4
    rw [act_4, S.so]
    show JC i (n + 1) (P.flush { p with f1 := some (f.put 1 false (byts j) p.t), s1 := p.s1 ++ (if f.putE (byts j) = 0 then byts j else []) })
    have same2 : f.put 1 false (byts j) p.t = f → f.putE (byts j) ≠ 0 → JC i (n + 1) (P.flush { p with f1 := some (f.put 1 false (byts j) p.t), s1 := p.s1 ++ (if f.putE (byts j) = 0 then byts j else []) }) := fun e1 e2 => by
      rw [e1, if_neg e2, List.append_nil, ← S.so]
      show JC i (n + 1) p.flush
      rw [hfl]
      exact .inr ⟨f, h, h', m, a, m', a', S, by omega, by omega⟩
    by_cases hs : f.st = 3 ∨ f.st = 6
    · by_cases hd : (byts j).length = 0 ∨ 8 < (byts j).length
      · refine same2 ?_ ?_
        · unfold F.put; rw [if_pos hs, if_pos hd]
        · unfold F.putE; rw [if_pos hs, if_pos hd]; decide
      · have hp := put_yes (s := 3) hs (byts j) (by omega) (p.t : Int)
        rw [hp.1, hp.2, if_pos rfl]
        have hk := dK_ok hd
        have hl := klen14 hk.2
        have S2 := S.send1 (dK 1 false (byts j)) f.st hs hk rfl (by omega) (.inl ⟨rfl, rfl⟩)
        have e : (f.send (dK 1 false (byts j)) p.t).at_ f.st = f.send (dK 1 false (byts j)) p.t := by
          have := (send_same f (dK 1 false (byts j)) (p.t : Int)).2.2.2.2.1
          rw [← this]
          rfl
        rw [e] at S2
        refine .inr ⟨_, _, _, _, _, _, _, S2, by omega, ?_⟩
        rw [tot_append]
        show tot h' + ((dK 1 false (byts j)).len + 0) ≤ _
        omega
    · exact same2 (put_no hs _ _).1 (by rw [(put_no hs _ (p.t : Int)).2]; decide)
  have hfk : 0 < fK.len ∧ fK.ds.length ≤ 12 := by decide
  have hfl1 : fK.len = 1 := rfl
  by_cases c5 : k = 5
  · subst c5
    rw [act_5]
    by_cases hs : p.f0.st = 3 ∨ p.f0.st = 6
    · have e : p.f0.close (p.t : Int) = (p.f0.send fK p.t).at_ (if p.f0.st = 3 then 4 else 8) := by
        unfold F.close
        by_cases h3 : p.f0.st = 3
        · rw [if_pos h3, if_pos h3]
        · rw [if_neg h3, if_neg h3, if_pos (by omega)]
      rw [e]
      have S2 := S.send0 fK (if p.f0.st = 3 then 4 else 8) hs hfk rfl (by omega) (.inr ⟨rfl, rfl⟩)
      rw [show p.s0 ++ fK.ds = p.s0 from List.append_nil _] at S2
      refine .inr ⟨f, _, _, _, _, _, _, S2, ?_, by omega⟩
      rw [tot_append]
      show tot h + (fK.len + 0) ≤ _
      omega
    · rw [close_no hs]
      show JC i (n + 1) p.flush
      rw [hfl]
      exact .inr ⟨f, h, h', m, a, m', a', S, by omega, by omega⟩
  by_cases c6 : k = 6
  · subst c6
    rw [act_6, S.so]
    show JC i (n + 1) (P.flush { p with f1 := some (f.close p.t) })
    by_cases hs : f.st = 3 ∨ f.st = 6
    · have e : f.close (p.t : Int) = (f.send fK p.t).at_ (if f.st = 3 then 4 else 8) := by
        unfold F.close
        by_cases h3 : f.st = 3
        · rw [if_pos h3, if_pos h3]
        · rw [if_neg h3, if_neg h3, if_pos (by omega)]
      rw [e]
      have S2 := S.send1 fK (if f.st = 3 then 4 else 8) hs hfk rfl (by omega) (.inr ⟨rfl, rfl⟩)
      rw [show p.s1 ++ fK.ds = p.s1 from List.append_nil _] at S2
      refine .inr ⟨_, _, _, _, _, _, _, S2, by omega, ?_⟩
      rw [tot_append]
      show tot h' + (fK.len + 0) ≤ _
      omega
    · rw [close_no hs, ← S.so]
      show JC i (n + 1) p.flush
      rw [hfl]
      exact .inr ⟨f, h, h', m, a, m', a', S, by omega, by omega⟩
  by_cases c7 : k = 7
  · subst c7
    rw [act_7j]
    obtain ⟨f2, S2, _⟩ := S.tick (by omega) (by omega)
    exact .inr ⟨f2, _, _, _, _, _, _, S2, by omega, by omega⟩
  have hw : p.way ≠ [] := fun e => hout (.inr (.inr ⟨by omega, e⟩))
  unfold P.act
  rw [if_pos ⟨by omega, hw⟩]
  cases hg : p.way[p.at_ j]? with
  | none => dsimp only; rw [hfl]; exact .inr ⟨f, h, h', m, a, m', a', S, by omega, by omega⟩
  | some w =>
    dsimp only
    have hin : w ∈ p.way := List.mem_of_getElem? hg
    have hsub : ∀ x ∈ p.way.eraseIdx (p.at_ j), x ∈ p.way := fun x hx => List.mem_of_mem_eraseIdx hx
    have hl := Nat.le_trans (List.length_eraseIdx_le p.way (p.at_ j)) H.N.way
    by_cases c1 : k = 1
    · rw [if_pos c1]
      have := flush_id (p := { p with way := p.way.eraseIdx (p.at_ j) }) H.o0 H.o1
      rw [this]
      exact .inr ⟨f, h, h', m, a, m', a', S.less _ hsub hl, by omega, by omega⟩
    · rw [if_neg c1]
      by_cases c2 : k = 2
      · rw [if_pos c2]
        obtain ⟨f2, m2, a2, m2', a2', S2⟩ := S.comes w hin p.way (fun _ h9 => h9) H.N.way
        exact .inr ⟨f2, h, h', _, _, _, _, S2, by omega, by omega⟩
      · rw [if_neg c2]
        obtain ⟨f2, m2, a2, m2', a2', S2⟩ := S.comes w hin _ hsub hl
        exact .inr ⟨f2, h, h', _, _, _, _, S2, by omega, by omega⟩
theorem flush_os (p : P) : p.flush.f0.os = [] ∧ ∀ f, p.flush.f1 = some f → f.os = [] := ⟨rfl, fun f hf => by
  have hf : p.f1.map F.quiet = some f := hf
  obtain ⟨g, _, rfl⟩ := Option.map_eq_some_iff.1 hf
  rfl⟩
theorem JP.step {i n : Nat} {p : P} (H : JP i n p) (hn : n ≤ 100000) (k j : Int) : JP i (n + 1) (p.step k j) := by
  have hs : p.step k j = (p.act k j).flush := by unfold P.step; rw [H.flush]
  have hN := H.N.step hn k j
  have ho := flush_os (p.act k j)
  rw [hs] at hN ⊢
  refine ⟨hN, ho.1, ho.2, ?_⟩
  rcases H.c with ⟨h, S, hb⟩ | ⟨f, h, h', m, a, m', a', S, hb, hb'⟩
  · exact H.actN hn S hb k j
  · exact H.actS hn S hb hb' k j
theorem JP.init (i : Nat) (hi : i < 4294967296) : JP i 0 (P.init i).flush := by
  obtain ⟨d1, d2⟩ := dial_qo i hi ((0 : Nat) : Int)
  have hdw : 0 < (F.dial i ((0 : Nat) : Int)).dw ∧ (F.dial i ((0 : Nat) : Int)).tries = 0 ∧ (F.dial i ((0 : Nat) : Int)).E = Es.zero := ⟨by show 0 < Es.zero.wt; have := wt_bd Ok_zero; omega, rfl, rfl⟩
  have hN := (Nbs.init i).flush
  have ho := flush_os (P.init i)
  refine ⟨hN, ho.1, ho.2, .inl ⟨[sK.at i], ?_, by show 1 + 0 ≤ 20 * (0 + 1); omega⟩⟩
  obtain ⟨z, hz⟩ : ∃ z, z = F.dial i ((0 : Nat) : Int) := ⟨_, rfl⟩
  rw [← hz] at d1 d2 hdw
  have e0 : (P.init i).flush = ⟨z.quiet, none, [⟨1, ⟨sK.at i, 0, false, false⟩⟩], [], [], [], [], 0⟩ := by
    show P.mk (F.dial i ((0 : Nat) : Int)).quiet none (addw 0 (addw 1 [] (F.dial i ((0 : Nat) : Int)).os) []) [] [] [] [] 0 = _
    rw [← hz, d2, addw_none, addw_all (by simp)]
    rfl
  rw [e0]
  have hH : Hist i [sK.at i] (on i 1) := ⟨hi, ⟨rfl, rfl⟩, (fun x hx => by
    simp at hx
    subst hx
    exact ⟨by show 0 < 1; omega, by show 0 ≤ 12; omega⟩), (fun x r e => by
    injection e with e1 e2
    subst e1 e2
    exact ⟨rfl, rfl, rfl, fun x hx => by cases hx⟩), by show 1 ≤ 2147483648; omega⟩
  have hb : z.b = on i (tot ([sK.at i].take 0) : Int) := d1.b.trans (on_zero hi).symm
  refine ⟨rfl, rfl, ⟨⟨by show Hist _ _ z.en; rw [d1.e_, sK1]; exact hH, ⟨0, Nat.zero_le _, d1.ks, hb⟩, Nat.le_refl _, fun e => absurd d1.st e, fun _ => rfl, fun o ho => by cases ho⟩, Nat.zero_le _, d1.ks, hb, Nat.le_refl _, Nat.zero_le _, fun j k9 hj hf => ?_, by show z.E.Ok; rw [hdw.2.2]; exact Ok_zero, ?_⟩, fun k hk => ?_, rfl, rfl, rfl, rfl, Nat.le_refl _⟩
  · have hj1 := (List.getElem?_eq_some_iff.1 hj).1
    show j + 1 = 1
    have : [sK.at i].length = 1 := rfl
    omega
  · show Ar 1 z.st 0 0 1 0 (fn [sK.at i]) (fn []) z.tries z.dw
    have hd := hdw.1
    rw [d1.st, hdw.2.1, show fn [sK.at i] = 0 from rfl, show fn [] = 0 from rfl]
    unfold Ar
    omega
  · have hk : k ∈ [(⟨1, ⟨sK.at i, 0, false, false⟩⟩ : Pk)] := hk
    simp only [List.mem_singleton] at hk
    subst hk
    exact ⟨rfl, ⟨rfl, .inl (by simp), fun e => by cases e⟩, .inr rfl, fun _ => ⟨(fun e => by cases e), (fun e => by cases e)⟩⟩
theorem JP.run {i : Nat} (hi : i < 4294967296) (l : List (Int × Int)) (hl : l.length ≤ 100000) : JP i l.length ((P.init i).run l).flush := by
  induction h : l.length generalizing l with
  | zero =>
    have : l = [] := List.eq_nil_of_length_eq_zero h
    subst this
    exact JP.init i hi
  | succ n ih =>
    have hne : l ≠ [] := fun e => by rw [e] at h; cases h
    have I := ih l.dropLast (by rw [List.length_dropLast, h]; omega) (by rw [List.length_dropLast, h]; rfl)
    have e : l = l.dropLast ++ [l.getLast hne] := (List.dropLast_concat_getLast hne).symm
    have I2 := I.step (by omega) (l.getLast hne).1 (l.getLast hne).2
    have e2 : (((P.init i).run l).flush) = (((P.init i).run l.dropLast).flush).step (l.getLast hne).1 (l.getLast hne).2 := by
      have e3 : (P.init i).run l = ((P.init i).run l.dropLast).step (l.getLast hne).1 (l.getLast hne).2 := by
        have h9 := run_snoc (P.init i) l.dropLast (l.getLast hne)
        rw [← e] at h9
        exact h9
      rw [e3]
      unfold P.step
      rw [flush_flush, flush_flush]
    rw [e2]
    exact I2
end Go.Proofs.Ytnpkmkjenlhkiaa

/- Any steps: what comes is a beginning of what was sent. Condition: at most 100000 steps.
Two flows' numbers, whatever happens. Condition: at most 100000 steps.
The example. No condition.
The contract of the document's own comparison of bytes. Condition: both slices hold bytes. -/
import Derived.Test.YtnpkmkjenlhkiaaMg26
import Derived.Test.YtnpkmkjenlhkiaaMg16
import Derived.Test.YtnpkmkjenlhkiaaMg1
namespace Go.Proofs.Ytnpkmkjenlhkiaa
set_option linter.unusedVariables false
set_option linter.unusedSimpArgs false
set_option maxRecDepth 20000

theorem Inv.more {i n n2 : Nat} {p : P} {h0 h1 : List Ky} {m0 m1 : Nat} (I : Inv i n p h0 h1 m0 m1) (h : n ≤ n2) : Inv i n2 p h0 h1 m0 m1 :=
  ⟨I.a, I.b, I.no, I.ml, I.way, I.s0, I.s1, I.c0, I.c1, ⟨I.l0.1, by have := I.l0.2.1; omega, by have := I.l0.2.2; omega⟩, ⟨by have := I.l1.1; omega, by have := I.l1.2; omega⟩, I.f1, I.dd⟩
/-- Fewer packets on the way. -/
theorem Inv.fewer {i n : Nat} {p : P} {h0 h1 : List Ky} {m0 m1 : Nat} (I : Inv i n p h0 h1 m0 m1) (w : List Pk) (h : ∀ k ∈ w, k ∈ p.way) : Inv i n { p with way := w } h0 h1 m0 m1 :=
  ⟨I.a, I.b, I.no, I.ml, fun k hk => I.way k (h k hk), I.s0, I.s1, I.c0, I.c1, I.l0, I.l1, I.f1, I.dd⟩
/-- The first side sends a piece. -/
theorem Inv.send0 {i n : Nat} {p : P} {h0 h1 : List Ky} {m0 m1 : Nat} (I : Inv i n p h0 h1 m0 m1) (hn : n ≤ 100000) (k : Ky) (t : Int) (hl : Live p.f0.st) (hk : 0 < k.len ∧ k.ds.length ≤ 12) (hs : k.syn = false) (y : F) (st : Nat) (hst : Live st) (hy : y = (p.f0.send k t).at_ st) :
    Inv i (n + 1) { p with f0 := y, s0 := p.s0 ++ k.ds } (h0 ++ [k.at p.f0.en]) h1 m0 m1 := by
  have hlen : k.len ≤ 14 := by
    unfold Ky.len bn
    split <;> split <;> omega
  have S := I.a.send k t hl I.l0.1 hk hs (by have := I.l0.2.2; omega)
  have S2 : Side y i (h0 ++ [k.at p.f0.en]) 9000 h1 m0 := by
    subst hy
    obtain ⟨s1, s2, s3, s4, s5, s6⟩ := send_same p.f0 k t
    have h2 := I.a.rc hl.1 hl.2
    exact ⟨S.his, S.q, S.mle, fun _ _ => ⟨h2.1, by show (p.f0.send k t).rcv = _; rw [s4]; exact h2.2⟩, fun e => absurd e hst.1, S.os⟩
  refine ⟨S2, fun f hf => (I.b f hf).grow (take_self_append _ _) (by rw [List.length_append]; omega), I.no, by have := I.ml; rw [List.length_append]; omega, fun x hx => ?_, ?_, I.s1, I.c0, ?_, ⟨by simp, ?_, ?_⟩, ⟨by have := I.l1.1; omega, by have := I.l1.2; omega⟩, I.f1, fun e => absurd e (by rw [hy]; exact hst.2), I.dd.2⟩
  · have := I.way x hx
    exact ⟨this.1, fun e => (this.2.1 e).mono (take_self_append _ _) (by rw [List.length_append]; omega) (by rw [List.take_length]) (Nat.le_refl _) I.a.mle, fun e => (this.2.2 e).mono (by rw [List.take_length]) (Nat.le_refl _) (take_self_append _ _) (Nat.le_refl _) I.ml⟩
  · show p.s0 ++ k.ds = _
    rw [I.s0, data_append]
    simp [data, Ky.at]
  · show p.c1 = _
    rw [I.c1, List.take_append_of_le_length I.ml]
  · have := I.l0.2.1
    rw [List.length_append]
    show _ + 1 ≤ _
    omega
  · have := I.l0.2.2
    rw [tot_append]
    show _ + (k.len + 0) ≤ _
    omega
/-- .. the second one. -/
theorem Inv.send1 {i n : Nat} {p : P} {h0 h1 : List Ky} {m0 m1 : Nat} (I : Inv i n p h0 h1 m0 m1) (hn : n ≤ 100000) {f : F} (hf : p.f1 = some f) (k : Ky) (t : Int) (hl : Live f.st) (hk : 0 < k.len ∧ k.ds.length ≤ 12) (hs : k.syn = false) (y : F) (st : Nat) (hst : Live st) (hy : y = (f.send k t).at_ st) :
    Inv i (n + 1) { p with f1 := some y, s1 := p.s1 ++ k.ds } h0 (h1 ++ [k.at f.en]) m0 m1 := by
  have hlen : k.len ≤ 14 := by
    unfold Ky.len bn
    split <;> split <;> omega
  have S := (I.b f hf).send k t hl (I.f1 f hf) hk hs (by have := I.l1.2; omega)
  have S2 : Side y 9000 (h1 ++ [k.at f.en]) i h0 m1 := by
    subst hy
    obtain ⟨s1, s2, s3, s4, s5, s6⟩ := send_same f k t
    have h2 := (I.b f hf).rc hl.1 hl.2
    exact ⟨S.his, S.q, S.mle, fun _ _ => ⟨h2.1, by show (f.send k t).rcv = _; rw [s4]; exact h2.2⟩, fun e => absurd e hst.1, S.os⟩
  refine ⟨I.a.grow (take_self_append _ _) (by rw [List.length_append]; omega), (fun g e => by injection e with e; subst e; exact S2), (fun e => by cases e), I.ml, fun x hx => ?_, I.s0, ?_, ?_, I.c1, ⟨I.l0.1, by have := I.l0.2.1; omega, by have := I.l0.2.2; omega⟩, ⟨?_, ?_⟩, (fun g e => by simp), I.dd.1, (fun g e => by injection e with e; subst e; exact fun e => absurd e (by rw [hy]; exact hst.2))⟩
  · have := I.way x hx
    exact ⟨this.1, fun e => (this.2.1 e).mono (by rw [List.take_length]) (Nat.le_refl _) (take_self_append _ _) (Nat.le_refl _) I.a.mle, fun e => (this.2.2 e).mono (take_self_append _ _) (by rw [List.length_append]; omega) (by rw [List.take_length]) (Nat.le_refl _) I.ml⟩
  · show p.s1 ++ k.ds = _
    rw [I.s1, data_append]
    simp [data, Ky.at]
  · show p.c0 = _
    rw [I.c0, List.take_append_of_le_length I.a.mle]
  · have := I.l1.1
    rw [List.length_append]
    show _ + 1 ≤ _
    omega
  · have := I.l1.2
    rw [tot_append]
    show _ + (k.len + 0) ≤ _
    omega
theorem dK_ok {ds : List UInt8} (h : ¬ (ds.length = 0 ∨ 8 < ds.length)) : 0 < (dK 1 false ds).len ∧ (dK 1 false ds).ds.length ≤ 12 := by
  refine ⟨?_, ?_⟩
  · show 0 < ds.length + 0 + 0
    omega
  · show ds.length ≤ 12
    omega
theorem at_same (x : F) (k : Ky) (t : Int) : x.send k t = (x.send k t).at_ (x.send k t).st := rfl
theorem live36 {s : Nat} (h : s = 3 ∨ s = 6) : Live s := by unfold Live; omega
theorem mem_eraseIdx_of {w : List Pk} {j : Nat} {k : Pk} (h : k ∈ w.eraseIdx j) : k ∈ w := List.mem_of_mem_eraseIdx h
theorem Inv.act {i n : Nat} {p : P} {h0 h1 : List Ky} {m0 m1 : Nat} (I : Inv i n p h0 h1 m0 m1) (hn : n ≤ 100000) (k j : Int) : ∃ h0' h1' m0' m1', Inv i (n + 1) (p.act k j) h0' h1' m0' m1' := by
  unfold P.act
  by_cases c1 : (0 ≤ k ∧ k ≤ 2) ∧ p.way ≠ []
  · rw [if_pos c1]
    cases hw : p.way[p.at_ j]? with
    | none => exact ⟨_, _, _, _, I.more (by omega)⟩
    | some w =>
      dsimp only
      have hin : w ∈ p.way := List.mem_of_getElem? hw
      by_cases c2 : k = 1
      · rw [if_pos c2]
        exact ⟨_, _, _, _, (I.fewer _ (fun k hk => mem_eraseIdx_of hk)).more (by omega)⟩
      · rw [if_neg c2]
        by_cases c3 : k = 2
        · rw [if_pos c3]
          obtain ⟨h1', m0', m1', I2⟩ := I.comes w (I.way w hin)
          exact ⟨_, _, _, _, I2.more (by omega)⟩
        · rw [if_neg c3]
          obtain ⟨h1', m0', m1', I2⟩ := (I.fewer (p.way.eraseIdx (p.at_ j)) (fun k hk => mem_eraseIdx_of hk)).comes w (I.way w hin)
          exact ⟨_, _, _, _, I2.more (by omega)⟩
  · rw [if_neg c1]
    by_cases c3 : k = 3
    · rw [if_pos c3]
      unfold F.put F.putE
      by_cases hs : p.f0.st = 3 ∨ p.f0.st = 6
      · rw [if_pos hs, if_pos hs]
        by_cases hd : (byts j).length = 0 ∨ 8 < (byts j).length
        · rw [if_pos hd, if_pos hd, if_neg (by decide), List.append_nil]
          exact ⟨_, _, _, _, I.more (by omega)⟩
        · rw [if_neg hd, if_neg hd, if_pos rfl]
          exact ⟨_, _, _, _, I.send0 hn (dK 1 false (byts j)) p.t (live36 hs) (dK_ok hd) rfl _ _ (by rw [(send_same _ _ _).2.2.2.2.1]; exact live36 hs) (at_same _ _ _)⟩
      · rw [if_neg hs, if_neg hs, if_neg (by decide), List.append_nil]
        exact ⟨_, _, _, _, I.more (by omega)⟩
    · rw [if_neg c3]
      by_cases c4 : k = 4
      · rw [if_pos c4]
        cases hf : p.f1 with
        | none =>
          have e : ({ p with f1 := oput none (byts j) p.t, s1 := p.s1 ++ (if oputE none (byts j) = 0 then byts j else []) } : P) = p := by
            show ({ p with f1 := none, s1 := p.s1 ++ (if (2 : Int) = 0 then byts j else []) } : P) = p
            rw [if_neg (by decide), List.append_nil, ← hf]
          rw [e]
          exact ⟨_, _, _, _, I.more (by omega)⟩
        | some f =>
          show ∃ h0' h1' m0' m1', Inv i (n + 1) { p with f1 := some (f.put 1 false (byts j) p.t), s1 := p.s1 ++ (if f.putE (byts j) = 0 then byts j else []) } h0' h1' m0' m1'
          unfold F.put F.putE
          by_cases hs : f.st = 3 ∨ f.st = 6
          · rw [if_pos hs, if_pos hs]
            by_cases hd : (byts j).length = 0 ∨ 8 < (byts j).length
            · rw [if_pos hd, if_pos hd, if_neg (by decide), List.append_nil, ← hf]
              exact ⟨_, _, _, _, I.more (by omega)⟩
            · rw [if_neg hd, if_neg hd, if_pos rfl]
              exact ⟨_, _, _, _, I.send1 hn hf (dK 1 false (byts j)) p.t (live36 hs) (dK_ok hd) rfl _ _ (by rw [(send_same _ _ _).2.2.2.2.1]; exact live36 hs) (at_same _ _ _)⟩
          · rw [if_neg hs, if_neg hs, if_neg (by decide), List.append_nil, ← hf]
            exact ⟨_, _, _, _, I.more (by omega)⟩
      · rw [if_neg c4]
        have hfk : 0 < fK.len ∧ fK.ds.length ≤ 12 := by decide
        by_cases c5 : k = 5
        · rw [if_pos c5]
          have nosend : ∀ st, Live st → ∀ hl : Live p.f0.st, ∃ h0' h1' m0' m1', Inv i (n + 1) { p with f0 := (p.f0.send fK p.t).at_ st } h0' h1' m0' m1' := fun st hst hl => by
            have := I.send0 hn fK p.t hl hfk rfl _ st hst rfl
            rw [show p.s0 ++ fK.ds = p.s0 from List.append_nil _] at this
            exact ⟨_, _, _, _, this⟩
          unfold F.close
          by_cases h3 : p.f0.st = 3
          · rw [if_pos h3]
            exact nosend 4 (by unfold Live; omega) (by rw [h3]; unfold Live; omega)
          · rw [if_neg h3]
            by_cases h6 : p.f0.st = 6
            · rw [if_pos h6]
              exact nosend 8 (by unfold Live; omega) (by rw [h6]; unfold Live; omega)
            · rw [if_neg h6]
              exact ⟨_, _, _, _, I.more (by omega)⟩
        · rw [if_neg c5]
          by_cases c6 : k = 6
          · rw [if_pos c6]
            cases hf : p.f1 with
            | none =>
              have e : ({ p with f1 := (none : Option F).map fun f => f.close p.t } : P) = p := by
                show ({ p with f1 := none } : P) = p
                rw [← hf]
              rw [e]
              exact ⟨_, _, _, _, I.more (by omega)⟩
            | some f =>
              show ∃ h0' h1' m0' m1', Inv i (n + 1) { p with f1 := some (f.close p.t) } h0' h1' m0' m1'
              have nosend : ∀ st, Live st → ∀ hl : Live f.st, ∃ h0' h1' m0' m1', Inv i (n + 1) { p with f1 := some ((f.send fK p.t).at_ st) } h0' h1' m0' m1' := fun st hst hl => by
                have := I.send1 hn hf fK p.t hl hfk rfl _ st hst rfl
                rw [show p.s1 ++ fK.ds = p.s1 from List.append_nil _] at this
                exact ⟨_, _, _, _, this⟩
              unfold F.close
              by_cases h3 : f.st = 3
              · rw [if_pos h3]
                exact nosend 4 (by unfold Live; omega) (by rw [h3]; unfold Live; omega)
              · rw [if_neg h3]
                by_cases h6 : f.st = 6
                · rw [if_pos h6]
                  exact nosend 8 (by unfold Live; omega) (by rw [h6]; unfold Live; omega)
                · rw [if_neg h6, ← hf]
                  exact ⟨_, _, _, _, I.more (by omega)⟩
          · rw [if_neg c6]
            by_cases c7 : k = 7
            · rw [if_pos c7]
              have I2 : Inv i n { p with t := p.t + 1, f0 := p.f0.expire (p.t + 1 : Nat), f1 := p.f1.map fun f => f.expire (p.t + 1 : Nat) } h0 h1 m0 m1 :=
                ⟨I.a.expire _ I.dd.1, (fun g e => by
                  obtain ⟨f, hf, rfl⟩ := Option.map_eq_some_iff.1 e
                  exact (I.b f hf).expire _ (I.dd.2 f hf)), (fun e => I.no (Option.map_eq_none_iff.1 e)), I.ml, I.way, I.s0, I.s1, I.c0, I.c1, I.l0, I.l1, (fun g e => by
                  obtain ⟨f, hf, rfl⟩ := Option.map_eq_some_iff.1 e
                  exact I.f1 f hf), dd_expire _ I.dd.1 _, (fun g e => by
                  obtain ⟨f, hf, rfl⟩ := Option.map_eq_some_iff.1 e
                  exact dd_expire _ (I.dd.2 f hf) _)⟩
              exact ⟨_, _, _, _, I2.more (by omega)⟩
            · rw [if_neg c7]
              exact ⟨_, _, _, _, I.more (by omega)⟩
theorem Inv.step {i n : Nat} {p : P} {h0 h1 : List Ky} {m0 m1 : Nat} (I : Inv i n p h0 h1 m0 m1) (hn : n ≤ 100000) (k j : Int) : ∃ h0' h1' m0' m1', Inv i (n + 1) (p.step k j) h0' h1' m0' m1' := by
  obtain ⟨a, b, c, d, I2⟩ := I.flush.act hn k j
  exact ⟨a, b, c, d, I2.flush⟩
theorem Inv.init (i : Nat) (hi : i < 4294967296) : Inv i 0 (P.init i) [sK.at i] [] 0 0 := by
  have hH : Hist i [sK.at i] (on i 1) := ⟨hi, ⟨rfl, rfl⟩, (fun x hx => by
    simp at hx
    subst hx
    exact ⟨by show 0 < 1; omega, by show 0 ≤ 12; omega⟩), (fun x r e => by
    injection e with e1 e2
    subst e1 e2
    exact ⟨rfl, rfl, rfl, fun x hx => by cases hx⟩), by show 1 ≤ 2147483648; omega⟩
  refine ⟨⟨hH, ⟨0, Nat.zero_le _, rfl, (on_zero hi).symm⟩, Nat.le_refl _, (fun e => absurd rfl e), fun _ => rfl, fun o ho => ?_⟩, (fun f e => by cases e), fun _ => ⟨rfl, rfl⟩, Nat.zero_le _, (fun k hk => by cases hk), rfl, rfl, rfl, rfl, ⟨by simp, by simp, by show tot [sK.at i] ≤ _; simp [tot, sK, Ky.at, Ky.len, bn]⟩, ⟨by simp, by show 0 ≤ _; omega⟩, (fun f e => by cases e), (fun e => by cases e), (fun f e => by cases e)⟩
  have ho : o ∈ [(⟨sK.at i, 0, false, false⟩ : Ou)] := ho
  simp at ho
  subst ho
  exact ⟨rfl, .inl (by simp), fun e => by cases e⟩
/-- Whatever happens. -/
def P.run (p : P) (l : List (Int × Int)) : P := l.foldl (fun p a => p.step a.1 a.2) p
theorem run_snoc (p : P) (l : List (Int × Int)) (a : Int × Int) : p.run (l ++ [a]) = (p.run l).step a.1 a.2 := by unfold P.run; rw [List.foldl_append]; rfl
theorem Inv.run (i : Nat) (hi : i < 4294967296) : ∀ (l : List (Int × Int)), l.length ≤ 100000 → ∃ h0 h1 m0 m1, Inv i l.length ((P.init i).run l) h0 h1 m0 m1 := by
  intro l
  induction h : l.length generalizing l with
  | zero =>
    intro _
    have : l = [] := List.eq_nil_of_length_eq_zero h
    subst this
    exact ⟨_, _, _, _, Inv.init i hi⟩
  | succ n ih =>
    intro hn
    have hne : l ≠ [] := fun e => by rw [e] at h; cases h
    obtain ⟨h0, h1, m0, m1, I⟩ := ih l.dropLast (by rw [List.length_dropLast, h]; rfl) (by omega)
    have e : l = l.dropLast ++ [l.getLast hne] := (List.dropLast_concat_getLast hne).symm
    rw [e, run_snoc]
    exact I.step (by omega) _ _
/-- FlowPair, without a program. -/
theorem pair_pure (i : Nat) (hi : i < 4294967296) (l : List (Int × Int)) (hl : l.length ≤ 100000) : ((P.init i).run l).c1 <+: ((P.init i).run l).s0 ∧ ((P.init i).run l).c0 <+: ((P.init i).run l).s1 := by
  obtain ⟨_, _, _, _, I⟩ := Inv.run i hi l hl
  exact I.pair
end Go.Proofs.Ytnpkmkjenlhkiaa

namespace Go.Proofs.Ytnpkmkjenlhkiaa
set_option linter.unusedVariables false
set_option linter.unusedSimpArgs false
set_option maxRecDepth 20000

/-- A flow's numbers, at a tick T. -/
structure Nb (x : F) (T : Nat) : Prop where
  E : x.E.Ok
  d : x.E.d ≤ x.tries
  tr : x.tries ≤ T
  df : 0 ≤ x.df ∧ x.df ≤ T
  dw : 0 ≤ x.dw ∧ x.dw ≤ 16
  bg : 0 ≤ x.bg ∧ x.bg ≤ T
section
variable {x : F} {T : Nat} {t : Int}
theorem Nb.mono (h : Nb x T) {T2 : Nat} (e : T ≤ T2) : Nb x T2 := ⟨h.E, h.d, by have := h.tr; omega, by have := h.df; omega, h.dw, by have := h.bg; omega⟩
/-- The same numbers. -/
theorem Nb.same {y : F} (h : Nb x T) (e : y.E = x.E) (e1 : y.tries = x.tries) (e2 : y.df = x.df) (e3 : y.dw = x.dw) (e4 : y.bg = x.bg) : Nb y T := by
  obtain ⟨a, b, c, d, f, g⟩ := h
  refine ⟨?_, ?_, ?_, ?_, ?_, ?_⟩
  · rw [e]; exact a
  · rw [e, e1]; exact b
  · rw [e1]; exact c
  · rw [e2]; exact d
  · rw [e3]; exact f
  · rw [e4]; exact g
theorem wt16 (h : x.E.Ok) : 0 ≤ x.E.wt ∧ x.E.wt ≤ 16 := by have := wt_bd h; omega
theorem Nb.due (h : Nb x T) (ht : 0 ≤ t ∧ t ≤ T) : Nb (x.due t) T := ⟨h.E, h.d, h.tr, ht, wt16 h.E, h.bg⟩
theorem Nb.lin (h : Nb x T) (ht : 0 ≤ t ∧ t ≤ T) : Nb (x.lin t) T := ⟨h.E, h.d, h.tr, ht, by show (0 : Int) ≤ 8 ∧ (8 : Int) ≤ 16; omega, h.bg⟩
theorem Nb.fin_ (h : Nb x T) (s : Nat) : Nb (x.fin_ s) T := ⟨h.E, h.d, h.tr, by show (0 : Int) ≤ 0 ∧ (0 : Int) ≤ T; omega, by show (0 : Int) ≤ 0 ∧ (0 : Int) ≤ 16; omega, h.bg⟩
theorem Nb.tell (h : Nb x T) (k : Ky) : Nb (x.tell k) T := h.same rfl rfl rfl rfl rfl
theorem Nb.at_ (h : Nb x T) (s : Nat) : Nb (x.at_ s) T := h.same rfl rfl rfl rfl rfl
theorem Nb.quiet (h : Nb x T) : Nb x.quiet T := h.same rfl rfl rfl rfl rfl
theorem Nb.again (h : Nb x T) (ht : 0 ≤ t ∧ t ≤ T) : Nb (x.again t) T := ⟨h.E, h.d, h.tr, ht, wt16 h.E, h.bg⟩
theorem Nb.send (h : Nb x T) (k : Ky) (ht : 0 ≤ t ∧ t ≤ T) : Nb (x.send k t) T := by
  unfold F.send
  have h1 : Nb (if x.ks = [] then x.began t else x) T := by
    split
    · exact ⟨h.E, h.d, h.tr, h.df, h.dw, ht⟩
    · exact h
  have h2 : Nb (((if x.ks = [] then x.began t else x).push k).tell (k.at x.en)) T := h1.same rfl rfl rfl rfl rfl
  generalize ((if x.ks = [] then x.began t else x).push k).tell (k.at x.en) = y at *
  show Nb (if 0 < y.dw then y else y.due t) T
  by_cases h3 : 0 < y.dw
  · rw [if_pos h3]; exact h2
  · rw [if_neg h3]; exact h2.due ht
theorem Nb.put (h : Nb x T) (b : List UInt8) (ht : 0 ≤ t ∧ t ≤ T) : Nb (x.put 1 false b t) T := by
  unfold F.put
  split
  · split
    · exact h
    · exact h.send _ ht
  · exact h
theorem Nb.close (h : Nb x T) (ht : 0 ≤ t ∧ t ≤ T) : Nb (x.close t) T := by
  unfold F.close
  split
  · exact (h.send _ ht).at_ 4
  · split
    · exact (h.send _ ht).at_ 8
    · exact h
theorem Nb.ackd (h : Nb x T) (k : Nat) (ht : 0 ≤ t ∧ t ≤ T) : Nb (x.ackd k t) T := by
  unfold F.ackd
  have h1 : Nb (x.cut k) T := h.same rfl rfl rfl rfl rfl
  have h2 : Nb (if (x.cut k).tm = true then (x.cut k).samp t else x.cut k) T := by
    split
    · exact ⟨Ok_smp h1.E _, by show ((x.cut k).E.smp _).d ≤ _; rw [smp_d]; exact h1.d, h1.tr, h1.df, h1.dw, h1.bg⟩
    · exact h1
  generalize (if (x.cut k).tm = true then (x.cut k).samp t else x.cut k) = y at *
  have h3 : Nb y.fresh_ T := ⟨Ok_fresh h2.E, Nat.zero_le _, Nat.zero_le _, by show (0 : Int) ≤ 0 ∧ (0 : Int) ≤ T; omega, by show (0 : Int) ≤ 0 ∧ (0 : Int) ≤ 16; omega, h2.bg⟩
  unfold F.redue
  split
  · exact h3
  · exact h3.due ht
theorem Nb.acked (h : Nb x T) (a : Nat) (ht : 0 ≤ t ∧ t ≤ T) : Nb (x.acked a t) T := by
  rcases acked_ x a t with ⟨_, e⟩ | ⟨_, e⟩ <;> rw [e]
  · exact h
  · exact h.ackd _ ht
theorem Nb.fina (h : Nb x T) (ht : 0 ≤ t ∧ t ≤ T) : Nb (x.fina t) T := by
  unfold F.fina
  split
  · exact h.at_ 5
  · split
    · exact h.lin ht
    · split
      · exact h.fin_ 10
      · exact h
theorem Nb.finc (h : Nb x T) (ht : 0 ≤ t ∧ t ≤ T) : Nb (x.finc t) T := by
  unfold F.finc
  split
  · exact h.at_ 6
  · split
    · exact h.at_ 7
    · split
      · exact h.lin ht
      · exact h
theorem Nb.hk1 (h : Nb x T) (k : Ky) (ht : 0 ≤ t ∧ t ≤ T) : Nb (x.hk1 k t) T := by
  unfold F.hk1
  split
  · exact h.at_ 3
  · split
    · exact h.fina ht
    · exact h
theorem Nb.hks (ht : 0 ≤ t ∧ t ≤ T) : ∀ (ks : List Ky) {x : F}, Nb x T → Nb (x.hks ks t) T
  | [], _, h => h
  | k :: ks, _, h => Nb.hks ht ks (h.hk1 k ht)
theorem Nb.hacks (h : Nb x T) (ak : Nat) (kk : Bool) (ht : 0 ≤ t ∧ t ≤ T) : Nb (x.hacks ak kk t) T := by
  unfold F.hacks F.hack
  split
  · exact Nb.hks ht _ (h.acked ak ht)
  · exact h
theorem Nb.takes (h : Nb x T) (q ln : Nat) (fin : Bool) (ht : 0 ≤ t ∧ t ≤ T) : Nb (x.takes q ln fin t) T := by
  unfold F.takes
  split
  · split
    · exact Nb.finc (h.same rfl rfl rfl rfl rfl) ht
    · exact h.same rfl rfl rfl rfl rfl
  · exact h
theorem Nb.hdata (h : Nb x T) (q ln : Nat) (fin : Bool) (ht : 0 ≤ t ∧ t ≤ T) : Nb (x.hdata q ln fin t) T := by
  unfold F.hdata
  split
  · exact (h.takes _ _ _ ht).tell _
  · exact h.takes _ _ _ ht
theorem Nb.hear (h : Nb x T) (q ak : Nat) (syn kk fin : Bool) (ln : Nat) (ht : 0 ≤ t ∧ t ≤ T) : Nb (x.hear q ak syn kk fin ln t) T := by
  unfold F.hear
  split
  · exact h
  · split
    · unfold F.hans
      split
      · have h1 : Nb (x.rcvd (on q 1)) T := h.same rfl rfl rfl rfl rfl
        exact ((h1.acked _ ht).at_ 3).tell _
      · exact h
    · split
      · unfold F.hsyn
        split
        · exact h.again ht
        · exact h.tell _
      · split
        · exact (h.hacks _ _ ht).hdata _ _ _ ht
        · exact h.hacks _ _ ht
theorem Nb.expire (h : Nb x T) (hT : T ≤ 100000) : Nb (x.expire (T + 1 : Nat)) (T + 1) := by
  have hm : Nb x (T + 1) := h.mono (by omega)
  have htr := h.tr
  have hd := h.d
  unfold F.expire
  split
  · split
    · exact hm.fin_ 10
    · have h1 : Nb x.tried (T + 1) := ⟨h.E, by show x.E.d ≤ x.tries + 1; omega, by show x.tries + 1 ≤ T + 1; omega, hm.df, h.dw, hm.bg⟩
      split
      · exact h1.fin_ 11
      · have h2 : Nb x.tried.backed (T + 1) := ⟨Ok_back h.E (by show x.E.d < 1000000; omega), by show x.E.d + 1 ≤ x.tries + 1; omega, h1.tr, hm.df, h.dw, hm.bg⟩
        exact h2.again ⟨by omega, by omega⟩
  · exact hm
end
theorem Nb.init (i st rcv : Nat) : Nb (F.init i st rcv) 0 := ⟨Ok_zero, Nat.le_refl _, Nat.le_refl _, by show (0 : Int) ≤ 0 ∧ (0 : Int) ≤ 0; omega, by show (0 : Int) ≤ 0 ∧ (0 : Int) ≤ 16; omega, by show (0 : Int) ≤ 0 ∧ (0 : Int) ≤ 0; omega⟩
theorem Nb.dial (i : Nat) : Nb (F.dial i 0) 0 := (Nb.init i 1 0).send _ (by omega)
theorem Nb.answer (i q T : Nat) : Nb (F.answer i q T) T := ((Nb.init i 2 _).mono (Nat.zero_le T)).send _ (by omega)

/-- Two flows' numbers within n steps. -/
structure Nbs (p : P) (n : Nat) : Prop where
  t : p.t ≤ n
  f0 : Nb p.f0 p.t
  f1 : ∀ f, p.f1 = some f → Nb f p.t
  way : p.way.length ≤ 60
theorem addw_len {k : Nat} {w : List Pk} {os : List Ou} (h : w.length ≤ 60) : (addw k w os).length ≤ 60 := by
  unfold addw
  rw [List.length_append, List.length_take]
  omega
theorem Nbs.flush {p : P} {n : Nat} (h : Nbs p n) : Nbs p.flush n :=
  ⟨h.t, h.f0.quiet, fun f hf => by
    have hf : p.f1.map F.quiet = some f := hf
    obtain ⟨g, hg, rfl⟩ := Option.map_eq_some_iff.1 hf
    exact (h.f1 g hg).quiet, addw_len (addw_len h.way)⟩
theorem Nbs.comes {p : P} {n : Nat} (h : Nbs p n) (k : Pk) : Nbs (p.comes k) n := by
  unfold P.comes
  split
  · split
    · split
      · exact ⟨h.t, h.f0, (fun f hf => by injection hf with hf; subst hf; exact Nb.answer 9000 _ p.t), h.way⟩
      · exact h
    · rename_i f hf
      exact ⟨h.t, h.f0, (fun g hg => by injection hg with hg; subst hg; exact (h.f1 f hf).hear _ _ _ _ _ _ (by omega)), h.way⟩
  · exact ⟨h.t, h.f0.hear _ _ _ _ _ _ (by omega), h.f1, h.way⟩
theorem Nbs.fewer {p : P} {n : Nat} (h : Nbs p n) (j : Nat) : Nbs { p with way := p.way.eraseIdx j } n := ⟨h.t, h.f0, h.f1, Nat.le_trans (List.length_eraseIdx_le _ _) h.way⟩
theorem Nbs.more {p : P} {n m : Nat} (h : Nbs p n) (e : n ≤ m) : Nbs p m := ⟨Nat.le_trans h.t e, h.f0, h.f1, h.way⟩
theorem Nbs.act {p : P} {n : Nat} (h : Nbs p n) (hn : n ≤ 100000) (k j : Int) : Nbs (p.act k j) (n + 1) := by
  have hm := h.more (show n ≤ n + 1 by omega)
  unfold P.act
  by_cases c1 : (0 ≤ k ∧ k ≤ 2) ∧ p.way ≠ []
  · rw [if_pos c1]
    cases hw : p.way[p.at_ j]? with
    | none => exact hm
    | some w =>
      dsimp only
      by_cases c2 : k = 1
      · rw [if_pos c2]; exact hm.fewer _
      · rw [if_neg c2]
        by_cases c3 : k = 2
        · rw [if_pos c3]; exact hm.comes w
        · rw [if_neg c3]; exact (hm.fewer _).comes w
  · rw [if_neg c1]
    by_cases c3 : k = 3
    · rw [if_pos c3]; exact ⟨hm.t, h.f0.put _ (by omega), h.f1, h.way⟩
    rw [if_neg c3]
    by_cases c4 : k = 4
    · rw [if_pos c4]
      refine ⟨hm.t, h.f0, fun g hg => ?_, h.way⟩
      have hg : oput p.f1 (byts j) p.t = some g := hg
      obtain ⟨f, hf, rfl⟩ := Option.map_eq_some_iff.1 hg
      exact (h.f1 f hf).put _ (by omega)
    rw [if_neg c4]
    by_cases c5 : k = 5
    · rw [if_pos c5]; exact ⟨hm.t, h.f0.close (by omega), h.f1, h.way⟩
    rw [if_neg c5]
    by_cases c6 : k = 6
    · rw [if_pos c6]
      refine ⟨hm.t, h.f0, fun g hg => ?_, h.way⟩
      obtain ⟨f, hf, rfl⟩ := Option.map_eq_some_iff.1 hg
      exact (h.f1 f hf).close (by omega)
    rw [if_neg c6]
    by_cases c7 : k = 7
    · rw [if_pos c7]
      have ht := h.t
      refine ⟨by show p.t + 1 ≤ n + 1; omega, h.f0.expire (by omega), fun g hg => ?_, h.way⟩
      obtain ⟨f, hf, rfl⟩ := Option.map_eq_some_iff.1 hg
      exact (h.f1 f hf).expire (by omega)
    rw [if_neg c7]
    exact hm
theorem Nbs.step {p : P} {n : Nat} (h : Nbs p n) (hn : n ≤ 100000) (k j : Int) : Nbs (p.step k j) (n + 1) := (h.flush.act hn k j).flush
theorem Nbs.init (i : Nat) : Nbs (P.init i) 0 := ⟨Nat.le_refl _, Nb.dial i, (fun f hf => by cases hf), by show 0 ≤ 60; omega⟩
theorem data_length (h : List Ky) (hd : ∀ k ∈ h, k.ds.length ≤ 12) : (data h).length ≤ 12 * h.length := by
  induction h with
  | nil => exact Nat.zero_le _
  | cons k h ih =>
    have h1 := ih (fun x hx => hd x (List.mem_cons_of_mem _ hx))
    have h2 := hd k (List.mem_cons_self)
    show (k.ds ++ data h).length ≤ _
    rw [List.length_append, List.length_cons]
    omega
theorem tot_drop_le (h : List Ky) (a : Nat) : tot (h.drop a) ≤ tot h := by
  have e : tot h = tot (h.take a) + tot (h.drop a) := by rw [← tot_append, List.take_append_drop]
  omega
/-- What Inv says of a flow's pieces. -/
theorem Side.nums {x : F} {i i' m : Nat} {h h' : List Ky} (S : Side x i h i' h' m) : tot x.ks ≤ 2147483648 ∧ x.ks.length ≤ h.length ∧ ∀ k ∈ x.ks, k.ds.length ≤ 12 := by
  obtain ⟨a, ha, hk, hb⟩ := S.q
  refine ⟨?_, ?_, fun k hk2 => (S.his.pos k (S.sub hk2)).2⟩
  · rw [hk]
    exact Nat.le_trans (tot_drop_le h a) S.his.small
  · rw [hk, List.length_drop]
    omega
theorem Pok_small {o : Ou} {i i' m en : Nat} {h h' : List Ky} (H : Hist i h en) (K : POk o i h i' h' m) : o.rst = false ∧ o.k.ds.length ≤ 12 := by
  refine ⟨K.rst, ?_⟩
  rcases K.k with e | ⟨j, _, e⟩
  · exact (H.pos _ e).2
  · rw [e]; exact Nat.zero_le _
/-- Both at once. -/
def Both (i n : Nat) (p : P) : Prop := (∃ h0 h1 m0 m1, Inv i n p h0 h1 m0 m1) ∧ Nbs p n
theorem Both.init (i : Nat) (hi : i < 4294967296) : Both i 0 (P.init i) := ⟨⟨_, _, _, _, Inv.init i hi⟩, Nbs.init i⟩
theorem Both.step {i n : Nat} {p : P} (h : Both i n p) (hn : n ≤ 100000) (k j : Int) : Both i (n + 1) (p.step k j) := by
  obtain ⟨⟨h0, h1, m0, m1, I⟩, N⟩ := h
  exact ⟨I.step hn k j, N.step hn k j⟩
theorem Both.run (i : Nat) (hi : i < 4294967296) (l : List (Int × Int)) (hl : l.length ≤ 100000) : Both i l.length ((P.init i).run l) := by
  induction h : l.length generalizing l with
  | zero =>
    have : l = [] := List.eq_nil_of_length_eq_zero h
    subst this
    exact Both.init i hi
  | succ n ih =>
    have hne : l ≠ [] := fun e => by rw [e] at h; cases h
    have I := ih l.dropLast (by rw [List.length_dropLast, h]; omega) (by rw [List.length_dropLast, h]; rfl)
    have e : l = l.dropLast ++ [l.getLast hne] := (List.dropLast_concat_getLast hne).symm
    rw [e, run_snoc]
    exact I.step (by omega) _ _
end Go.Proofs.Ytnpkmkjenlhkiaa

namespace Go.Proofs.Ytnpkmkjenlhkiaa
set_option linter.unusedVariables false
set_option linter.unusedSimpArgs false
set_option maxRecDepth 20000
open Go.RowKit Go.Lib

/-- A row of one: where it lies, what it says. -/
theorem row_one {base : Nat} {w : World} {s : Sh} {x : F} (h : Fl base w s x) {k : Ou} (hk : x.os = [k]) : ∃ (g c : Nat) (o : Oc), s.ov = .slice (some ⟨g, 0, none⟩) 1 c ∧ 1 ≤ c ∧ c ≤ 9223372036854775807 ∧ o.key = k ∧ w.rangeAt g 0 o.vals ∧ base ≤ g ∧ g < w.heap.size ∧ s.ov.ownBlock = some g := by
  have h1 : s.ol.map Oc.key = [k] := h.os.trans hk
  obtain ⟨o, ho⟩ : ∃ o, s.ol = [o] := by
    cases hl : s.ol with
    | nil => rw [hl] at h1; cases h1
    | cons o r =>
      rw [hl] at h1
      have h2 : r.map Oc.key = [] := by
        rw [List.map_cons] at h1
        injection h1
      have h3 : r = [] := List.map_eq_nil_iff.1 h2
      exact ⟨o, by rw [h3]⟩
  have hr := h.row
  rw [ho] at hr h1
  have hlen : [o].length = 1 := rfl
  rw [hlen] at hr
  obtain ⟨g, c, hv, hg, hlt⟩ := hr.form (by omega)
  obtain ⟨A, c2, hv2, hc1, hc2⟩ := own_slice hr
  rw [hv] at hv2
  injection hv2 with e1 e2 e3
  subst e1 e3
  rw [hv] at hr
  refine ⟨g, c, o, hv, hc1, hc2, by simpa using h1, ?_, hg, hlt, by rw [hv]; rfl⟩
  have := own_rangeO (j := 0) hr (by omega)
  simpa using this
set_option maxHeartbeats 3200000 in
theorem wakes_any (w : World) : Calls Try.prog 8 #[] w (Yes w) := by
  have HD := Lib.hid (Dial_any 5 0 w (by decide) (by unfold isInt; decide))
  rw [dial_eq] at HD
  go_enter Try.func8, Try.ntmps8
  go_wp2_with fail
  refine HD.out.mono ?_
  rintro e w1 ⟨s, rfl, f1, b1⟩
  obtain ⟨g, c, o, hv, hc1, hc2, hk, hr, hgb, hgl, hgo⟩ := row_one f1 rfl
  have hs : o.p.syn = true := congrArg (fun k => k.k.syn) hk
  have hq : o.p.seq = 5 := congrArg (fun k => k.k.seq) hk
  have ha : o.acks = false := congrArg (fun k => k.acks) hk
  have HO := Lib.hid (Out_any f1)
  have HNR := Lib.hid f1.ne_row
  rw [hv] at HO
  have HB1 := Lib.hid b1
  have HLo := Lib.hid f1.lo
  have r0 : w1.cell? ⟨g, 0, none⟩ = some (.int .u32 (o.p.seq : Int)) := hr 0 _ rfl
  have r1 : w1.cell? ⟨g, 1, none⟩ = some (.bool o.p.syn) := hr 1 _ rfl
  have r7 : w1.cell? ⟨g, 7, none⟩ = some (.bool o.acks) := hr 7 _ rfl
  rw [hs] at r1
  rw [hq] at r0
  rw [ha] at r7
  have hne : g ≠ s.fb := fun e => f1.ne_row (by rw [hgo, e])
  clear f1 b1 hr hk hs hq ha hv HD hgo
  unfold ptr at *
  go_wp2_with fail
  refine HO.out.mono ?_
  rintro e w2 ⟨rfl, f2, c2⟩
  have HA := Lib.hid (At_any f2.fa ⟨(by show (0 : Int) ≤ 0; decide), (by show (0 : Int) ≤ 1152921504606846976; decide)⟩ ⟨(by show (0 : Int) ≤ 4; decide), (by show (4 : Int) ≤ 16; decide)⟩)
  have q0 := c2.cell r0 hne
  have q1 := c2.cell r1 hne
  have q7 := c2.cell r7 hne
  have HC := Lib.hid c2
  clear f2 c2 r0 r1 r7 HO
  have hd : due ((F.quiet ⟨Es.zero, 1, 0, 0, 0, 4, 0, true, 5, [sK.at 5], on 5 1, [⟨sK.at 5, 0, false, false⟩]⟩).fc s.quiet.qb s.quiet.ov).df ((F.quiet ⟨Es.zero, 1, 0, 0, 0, 4, 0, true, 5, [sK.at 5], on 5 1, [⟨sK.at 5, 0, false, false⟩]⟩).fc s.quiet.qb s.quiet.ov).dw = .tuple #[.int .i64 4, .bool true] := rfl
  unfold ptr at HA
  rw [hd] at HA
  clear hd
  go_wp2_with fail
  refine HA.out.mono ?_
  rintro e w3 ⟨rfl, b3⟩
  have p0 := cellB b3 q0
  have p1 := cellB b3 q1
  have p7 := cellB b3 q7
  have HB3 : Hid (Below w.heap.size w w3) := Lib.hid ((((Ch.of_below (fun k => k = s.fb) HB1.out).then_ HC.out).below (fun k hk e => by have := HLo.out; omega)).trans (b3.mono (by have := HB1.out.size; have := HC.out.size; omega)))
  clear b3 q0 q1 q7 HA
  go_wp2_with fail
  go_ret
  exact ⟨rfl, HB3.out⟩
end Go.Proofs.Ytnpkmkjenlhkiaa

namespace Go.Proofs.Ytnpkmkjenlhkiaa
set_option linter.unusedVariables false
set_option linter.unusedSimpArgs false
open Go.RowKit

theorem ne_at {l r : List UInt8} {k : Nat} (h : (l.getD k 0) ≠ (r.getD k 0)) : (l == r) = false := by
  rw [beq_eq_false_iff_ne]
  rintro rfl
  exact h rfl
theorem eq_all {l r : List UInt8} (hl : l.length = r.length) (h : ∀ k, k < l.length → l.getD k 0 = r.getD k 0) : (l == r) = true := by
  rw [beq_iff_eq]
  apply List.ext_getElem hl
  intro i h1 h2
  have := h i h1
  simpa [h1, h2] using this

set_option maxHeartbeats 400000 in
theorem Same_any (A B : Option Addr) (n c m d : Nat) (l r : List UInt8) (w : World) (h : RB w A n c l) (h' : RB w B m d r) :
    Calls Try.prog 15 #[.slice A n c, .slice B m d] w fun e w' => e = .returned (.bool (l == r)) ∧ ∃ q, w' = w.drewN q := by
  have hl := Lib.hid h.len
  have hr := Lib.hid h'.len
  have hn := h.max
  have hn' := h.cap
  have hm := h'.max
  have hm' := h'.cap
  by_cases hnm : n = m
  · subst hnm
    go_enter Try.func15, Try.ntmps15
    go_wp2
    go_loopw [5] (fun i wr => ∃ k : Nat, k ≤ n ∧ i = .int .i64 k ∧ (∀ j, j < k → l.getD j 0 = r.getD j 0) ∧ ∃ q, wr = w.drewN q) (fun i _ => n - (intOf i).toNat)
    case atStart => exact ⟨0, Nat.zero_le _, rfl, fun j hj => absurd hj (by omega), 0, rfl⟩
    case round =>
      obtain ⟨k, hk, rfl, heq, q, rfl⟩ := hrel
      have HE := Lib.hid heq
      clear heq
      by_cases hlt : k < n
      · obtain ⟨b, o, rfl, hc⟩ := h.at_ hlt
        obtain ⟨b', o', rfl, hc'⟩ := h'.at_ hlt
        clear h h'
        have hx := (l.getD k 0).toNat_lt
        have hy := (r.getD k 0).toNat_lt
        by_cases hxy : l.getD k 0 = r.getD k 0
        · have HX := Lib.hid hxy
          have hne : (((l.getD k 0).toNat : Int) != ((r.getD k 0).toNat : Int)) = false := by rw [hxy]; simp
          clear hxy
          generalize (l.getD k 0).toNat = x at *
          generalize (r.getD k 0).toNat = y at *
          go_wp2
          go_quiet (fail)
          go_wp2
          go_roundw
          case rel =>
            refine ⟨k + 1, by omega, by go_num, fun j hj => ?_, _, rfl⟩
            rcases Nat.lt_or_ge j k with hj' | hj'
            · exact HE.out j hj'
            · obtain rfl : j = k := by omega
              exact HX.out
          case measure => simp [intOf]; omega
        · have HX := Lib.hid (ne_at hxy)
          have hne : (((l.getD k 0).toNat : Int) != ((r.getD k 0).toNat : Int)) = true := by
            rw [bne_iff_ne]
            intro e
            exact hxy (UInt8.toNat_inj.1 (by omega))
          clear hxy
          generalize (l.getD k 0).toNat = x at *
          generalize (r.getD k 0).toNat = y at *
          go_wp2
          go_quiet (fail)
          go_wp2
          go_ret
          exact ⟨by rw [HX.out]; rfl, _, World.drewN_drewN ..⟩
      · have HX := Lib.hid (eq_all (l := l) (r := r) (by rw [hl.out, hr.out]) (fun j hj => HE.out j (by rw [hl.out] at hj; omega)))
        go_wp2
        go_ret
        exact ⟨by rw [HX.out]; rfl, _, rfl⟩
  · have HX : Hid ((l == r) = false) := by
      show (l == r) = false
      rw [beq_eq_false_iff_ne]
      rintro rfl
      exact hnm (hl.out.symm.trans hr.out)
    have hne : ((n : Int) != (m : Int)) = true := by rw [bne_iff_ne]; omega
    go_enter Try.func15, Try.ntmps15
    go_wp2
    go_ret
    exact ⟨by rw [HX.out]; rfl, 0, rfl⟩

theorem Same_yes (A B : Option Addr) (n c m d : Nat) (l : List UInt8) (w : World) (h : RB w A n c l) (h' : RB w B m d l) :
    Calls Try.prog 15 #[.slice A n c, .slice B m d] w (Yes w) :=
  (Same_any A B n c m d l l w h h').mono fun e w' ⟨he, q, hq⟩ => by
    subst hq
    exact ⟨by rw [he]; simp, below_drewN (Below.refl _ _) q⟩
end Go.Proofs.Ytnpkmkjenlhkiaa

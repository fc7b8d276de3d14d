/- FlowCloses, without a program. No condition.
Two flows open. No condition.
The pair kept in a variable of its own; FlowCloses' closure. Conditions: the pair stands, its numbers within their bounds. -/
import Derived.Test.YtnpkmkjenlhkiaaMg28
namespace Go.Proofs.Ytnpkmkjenlhkiaa
set_option linter.unusedVariables false
set_option linter.unusedSimpArgs false
set_option maxRecDepth 20000

def P.all (p : P) : P := p.flush.settle 300
theorem flush_flush (p : P) : p.flush.flush = p.flush := flush_id rfl (fun f hf => by
  have hf : p.f1.map F.quiet = some f := hf
  obtain ⟨g, _, rfl⟩ := Option.map_eq_some_iff.1 hf
  rfl)
theorem all_flush (p : P) : p.flush.all = p.flush.settle 300 := by unfold P.all; rw [flush_flush]
theorem nil_either (b : Bool) (l : List UInt8) : l ++ (if b = true then (tK 0).ds else []) = l := by cases b <;> exact List.append_nil l
section
variable {S T C D : List UInt8} {t : Nat}
/-- The first flow's piece comes, and is acknowledged. -/
theorem exch01 {z f : F} {s s1 e0 e1 : Nat} {k : Ky} (hz : Qo z s e0 e1 k) (hzo : z.os = [⟨k.at e0, e1, true, false⟩]) (hf : Qf f s1 e1 e0) (hs1 : s1 = 3 ∨ s1 = 4 ∨ s1 = 5) (hs : s = 3 ∨ s = 4 ∨ s = 8) (hfin : k.fin = true ↔ s ≠ 3) (hsy : k.syn = false) (hl : 0 < k.len) (hl2 : k.len ≤ 1000) (n : Nat) :
    ∃ X Y, (P.flush ⟨z, some f, [], S, T, C, D, t⟩).settle (n + 2) = ⟨X, some Y, [], S, T, C, D ++ k.ds, t⟩ ∧ Qf X (if s = 4 then 5 else if s = 8 then 10 else s) (on e0 (k.len : Int)) e1 ∧ Qf Y (if k.fin = true then finS s1 else s1) e1 (on e0 (k.len : Int)) ∧ X.dw = 0 ∧ Y.dw = (if k.fin = true ∧ s1 = 5 then 8 else f.dw) ∧ (k.fin = true → s1 = 5 → Y.df = t) := by
  have hkl := Ky.len_nosyn hsy
  have hkl2 : (k.at e0).ds.length + bn (k.at e0).fin = k.len := hkl.symm
  obtain ⟨Y, y1, y2, y3, y4, y5, y6⟩ := hear_piece hf hs1 (k.at e0) rfl hsy (by rw [hkl2]; exact hl) e1 (t : Int)
  rw [hkl2] at y2 y3
  have hzq : Qo z.quiet s e0 e1 k := ⟨hz.st, hz.ks, hz.b, hz.e_, hz.rcv, hz.lt, hz.rl⟩
  obtain ⟨X, x1, x2, x3, x4⟩ := hear_ack hzq hs hfin hsy hl hl2 (t : Int)
  have e : P.flush ⟨z, some f, [], S, T, C, D, t⟩ = ⟨z.quiet, some f, [⟨1, ⟨k.at e0, e1, true, false⟩⟩], S, T, C, D, t⟩ := by
    show P.mk z.quiet (some f.quiet) (addw 0 (addw 1 [] z.os) f.os) S T C D t = _
    rw [hf.os, addw_none, hzo, addw_all (by simp), hf.quiet]
    rfl
  rw [e, settle_cons _ _ (List.cons_ne_nil _ _), step0_1 z.quiet f ⟨k.at e0, e1, true, false⟩ S T C D t rfl hf.os [⟨tK e1, on e0 (k.len : Int), true, false⟩] (by rw [y1]; exact y3) (by show 1 ≤ 60; omega), y1, y4]
  have e2 : P.step ⟨z.quiet, some Y.quiet, [⟨0, ⟨tK e1, on e0 (k.len : Int), true, false⟩⟩], S, T, C, D ++ k.ds, t⟩ 0 0 = ⟨X.quiet, some Y.quiet, [], S, T, C, D ++ k.ds, t⟩ := by
    rw [step0_0 z.quiet Y.quiet ⟨tK e1, on e0 (k.len : Int), true, false⟩ S T C (D ++ k.ds) t rfl rfl [] (by rw [x1, x3]; rfl) (by show 0 ≤ 60; omega), x1]
    show P.mk X.quiet (some Y.quiet) [] S T (C ++ (if _ = true then (tK 0).ds else [])) (D ++ k.ds) t = _
    rw [nil_either]
  refine ⟨X.quiet, Y.quiet, ?_, x2, y2, x4, y5, y6⟩
  show (P.mk z.quiet (some Y.quiet) [⟨0, ⟨tK e1, on e0 (k.len : Int), true, false⟩⟩] S T C (D ++ (if true = true then k.ds else [])) t).settle (n + 1) = _
  rw [if_pos rfl, settle_cons _ _ (List.cons_ne_nil _ _), e2, settle_nil _ _ rfl]
/-- .. the second one's. -/
theorem exch10 {z f : F} {s s1 e0 e1 : Nat} {k : Ky} (hz : Qo z s e0 e1 k) (hzo : z.os = [⟨k.at e0, e1, true, false⟩]) (hf : Qf f s1 e1 e0) (hs1 : s1 = 3 ∨ s1 = 4 ∨ s1 = 5) (hs : s = 3 ∨ s = 4 ∨ s = 8) (hfin : k.fin = true ↔ s ≠ 3) (hsy : k.syn = false) (hl : 0 < k.len) (hl2 : k.len ≤ 1000) (n : Nat) :
    ∃ X Y, (P.flush ⟨f, some z, [], S, T, C, D, t⟩).settle (n + 2) = ⟨Y, some X, [], S, T, C ++ k.ds, D, t⟩ ∧ Qf X (if s = 4 then 5 else if s = 8 then 10 else s) (on e0 (k.len : Int)) e1 ∧ Qf Y (if k.fin = true then finS s1 else s1) e1 (on e0 (k.len : Int)) ∧ X.dw = 0 ∧ Y.dw = (if k.fin = true ∧ s1 = 5 then 8 else f.dw) ∧ (k.fin = true → s1 = 5 → Y.df = t) := by
  have hkl := Ky.len_nosyn hsy
  have hkl2 : (k.at e0).ds.length + bn (k.at e0).fin = k.len := hkl.symm
  obtain ⟨Y, y1, y2, y3, y4, y5, y6⟩ := hear_piece hf hs1 (k.at e0) rfl hsy (by rw [hkl2]; exact hl) e1 (t : Int)
  rw [hkl2] at y2 y3
  have hzq : Qo z.quiet s e0 e1 k := ⟨hz.st, hz.ks, hz.b, hz.e_, hz.rcv, hz.lt, hz.rl⟩
  obtain ⟨X, x1, x2, x3, x4⟩ := hear_ack hzq hs hfin hsy hl hl2 (t : Int)
  have e : P.flush ⟨f, some z, [], S, T, C, D, t⟩ = ⟨f, some z.quiet, [⟨0, ⟨k.at e0, e1, true, false⟩⟩], S, T, C, D, t⟩ := by
    show P.mk f.quiet (some z.quiet) (addw 0 (addw 1 [] f.os) z.os) S T C D t = _
    rw [hf.os, addw_none, hzo, addw_all (by simp), hf.quiet]
    rfl
  rw [e, settle_cons _ _ (List.cons_ne_nil _ _), step0_0 f z.quiet ⟨k.at e0, e1, true, false⟩ S T C D t hf.os rfl [⟨tK e1, on e0 (k.len : Int), true, false⟩] (by rw [y1]; exact y3) (by show 1 ≤ 60; omega), y1, y4]
  have e2 : P.step ⟨Y.quiet, some z.quiet, [⟨1, ⟨tK e1, on e0 (k.len : Int), true, false⟩⟩], S, T, C ++ k.ds, D, t⟩ 0 0 = ⟨Y.quiet, some X.quiet, [], S, T, C ++ k.ds, D, t⟩ := by
    rw [step0_1 Y.quiet z.quiet ⟨tK e1, on e0 (k.len : Int), true, false⟩ S T (C ++ k.ds) D t rfl rfl [] (by rw [x1, x3]; rfl) (by show 0 ≤ 60; omega), x1]
    show P.mk Y.quiet (some X.quiet) [] S T (C ++ k.ds) (D ++ (if _ = true then (tK 0).ds else [])) t = _
    rw [nil_either]
  refine ⟨X.quiet, Y.quiet, ?_, x2, y2, x4, y5, y6⟩
  show (P.mk Y.quiet (some z.quiet) [⟨1, ⟨tK e1, on e0 (k.len : Int), true, false⟩⟩] S T (C ++ (if true = true then k.ds else [])) D t).settle (n + 1) = _
  rw [if_pos rfl, settle_cons _ _ (List.cons_ne_nil _ _), e2, settle_nil _ _ rfl]
end
/-- Both at rest, each with all of the other one's. -/
def St (p : P) (s0 s1 : Nat) : Prop := ∃ x y e0 e1 S T, p = ⟨x, some y, [], S, T, T, S, 0⟩ ∧ Qf x s0 e0 e1 ∧ Qf y s1 e1 e0 ∧ x.dw = 0 ∧ y.dw = 0
theorem byts_len (I : Int) (h : 1 ≤ I ∧ I ≤ 8) : (byts I).length = I.toNat := by
  unfold byts
  rw [List.length_map, List.length_range]
  omega
theorem St.flush {p : P} {s0 s1 : Nat} (h : St p s0 s1) : p.flush = p := by
  obtain ⟨x, y, e0, e1, S, T, rfl, hx, hy, _⟩ := h
  exact flush_id hx.os (fun f e => by have e : some y = some f := e; injection e with e; rw [← e]; exact hy.os)
theorem act_3 (p : P) (I : Int) : p.act 3 I = { p with f0 := p.f0.put 1 false (byts I) p.t, s0 := p.s0 ++ (if p.f0.putE (byts I) = 0 then byts I else []) } := by
  unfold P.act
  rw [if_neg (by rintro ⟨⟨_, h⟩, _⟩; exact absurd h (by decide)), if_pos rfl]
theorem act_4 (p : P) (I : Int) : p.act 4 I = { p with f1 := oput p.f1 (byts I) p.t, s1 := p.s1 ++ (if oputE p.f1 (byts I) = 0 then byts I else []) } := by
  unfold P.act
  rw [if_neg (by rintro ⟨⟨_, h⟩, _⟩; exact absurd h (by decide)), if_neg (by decide), if_pos rfl]
theorem act_5 (p : P) (I : Int) : p.act 5 I = { p with f0 := p.f0.close p.t } := by
  unfold P.act
  rw [if_neg (by rintro ⟨⟨_, h⟩, _⟩; exact absurd h (by decide)), if_neg (by decide), if_neg (by decide), if_pos rfl]
theorem act_6 (p : P) (I : Int) : p.act 6 I = { p with f1 := p.f1.map fun f => f.close p.t } := by
  unfold P.act
  rw [if_neg (by rintro ⟨⟨_, h⟩, _⟩; exact absurd h (by decide)), if_neg (by decide), if_neg (by decide), if_neg (by decide), if_pos rfl]
theorem act_7 (p : P) (I : Int) : p.act 7 I = { p with t := p.t + 1, f0 := p.f0.expire (p.t + 1 : Nat), f1 := p.f1.map fun f => f.expire (p.t + 1 : Nat) } := by
  unfold P.act
  rw [if_neg (by rintro ⟨⟨_, h⟩, _⟩; exact absurd h (by decide)), if_neg (by decide), if_neg (by decide), if_neg (by decide), if_neg (by decide), if_pos rfl]
theorem put_yes {x : F} {s : Nat} (hs : x.st = 3 ∨ x.st = 6) (b : List UInt8) (hb : 1 ≤ b.length ∧ b.length ≤ 8) (t : Int) : x.put 1 false b t = x.send (dK 1 false b) t ∧ x.putE b = 0 := by
  unfold F.put F.putE
  rw [if_pos hs, if_pos hs, if_neg (by omega), if_neg (by omega)]
  exact ⟨rfl, rfl⟩
theorem dK_len (b : List UInt8) (hb : 1 ≤ b.length ∧ b.length ≤ 8) : 0 < (dK 1 false b).len ∧ (dK 1 false b).len ≤ 1000 := by
  have : (dK 1 false b).len = b.length := rfl
  omega
/-- The first flow sends. -/
theorem St.send0 {p : P} (h : St p 3 3) (I : Int) (hI : 1 ≤ I ∧ I ≤ 8) : St (p.step 3 I).all 3 3 := by
  have hfl := h.flush
  obtain ⟨x, y, e0, e1, S, T, rfl, hx, hy, dx, dy⟩ := h
  have hb : 1 ≤ (byts I).length ∧ (byts I).length ≤ 8 := by rw [byts_len I hI]; omega
  have hp := put_yes (x := x) (s := 3) (.inl hx.st) (byts I) hb ((0 : Nat) : Int)
  unfold P.step
  rw [hfl, all_flush, act_3]
  show St ((P.flush ⟨x.put 1 false (byts I) ((0 : Nat) : Int), some y, [], S ++ (if x.putE (byts I) = 0 then byts I else []), T, T, S, 0⟩).settle 300) 3 3
  rw [hp.1, hp.2, if_pos rfl]
  have hq := hx.send (dK 1 false (byts I)) ((0 : Nat) : Int)
  obtain ⟨X, Y, e, qx, qy, d1, d2, _⟩ := exch01 (S := S ++ byts I) (T := T) (C := T) (D := S) (t := 0) hq.1 hq.2 hy (.inl rfl) (.inl rfl) (by constructor <;> intro h <;> simp_all [dK]) rfl (dK_len _ hb).1 (dK_len _ hb).2 298
  rw [e]
  exact ⟨X, Y, _, _, S ++ byts I, T, rfl, qx, qy, d1, d2.trans dy⟩
/-- The second one does. -/
theorem St.send1 {p : P} (h : St p 3 3) (I : Int) (hI : 1 ≤ I ∧ I ≤ 8) : St (p.step 4 I).all 3 3 := by
  have hfl := h.flush
  obtain ⟨x, y, e0, e1, S, T, rfl, hx, hy, dx, dy⟩ := h
  have hb : 1 ≤ (byts I).length ∧ (byts I).length ≤ 8 := by rw [byts_len I hI]; omega
  have hp := put_yes (x := y) (s := 3) (.inl hy.st) (byts I) hb ((0 : Nat) : Int)
  unfold P.step
  rw [hfl, all_flush, act_4]
  show St ((P.flush ⟨x, some (y.put 1 false (byts I) ((0 : Nat) : Int)), [], S, T ++ (if y.putE (byts I) = 0 then byts I else []), T, S, 0⟩).settle 300) 3 3
  rw [hp.1, hp.2, if_pos rfl]
  have hq := hy.send (dK 1 false (byts I)) ((0 : Nat) : Int)
  obtain ⟨X, Y, e, qx, qy, d1, d2, _⟩ := exch10 (S := S) (T := T ++ byts I) (C := T) (D := S) (t := 0) hq.1 hq.2 hx (.inl rfl) (.inl rfl) (by constructor <;> intro h <;> simp_all [dK]) rfl (dK_len _ hb).1 (dK_len _ hb).2 298
  rw [e]
  exact ⟨Y, X, _, _, S, T ++ byts I, rfl, qy, qx, d2.trans dx, d1⟩
theorem fK_len : 0 < fK.len ∧ fK.len ≤ 1000 := by decide
theorem Qo.at_ {x : F} {s en rc : Nat} {k : Ky} (h : Qo x s en rc k) (s2 : Nat) : Qo (x.at_ s2) s2 en rc k := ⟨rfl, h.ks, h.b, h.e_, h.rcv, h.lt, h.rl⟩
/-- The first flow closes. -/
theorem St.close0 {p : P} (h : St p 3 3) : St (p.step 5 0).all 5 6 := by
  have hfl := h.flush
  obtain ⟨x, y, e0, e1, S, T, rfl, hx, hy, dx, dy⟩ := h
  unfold P.step
  rw [hfl, all_flush, act_5]
  have hc : x.close ((0 : Nat) : Int) = (x.send fK ((0 : Nat) : Int)).at_ 4 := if_pos hx.st
  show St ((P.flush ⟨x.close ((0 : Nat) : Int), some y, [], S, T, T, S, 0⟩).settle 300) 5 6
  rw [hc]
  have hq := hx.send fK ((0 : Nat) : Int)
  obtain ⟨X, Y, e, qx, qy, d1, d2, _⟩ := exch01 (S := S) (T := T) (C := T) (D := S) (t := 0) (hq.1.at_ 4) hq.2 hy (.inl rfl) (.inr (.inl rfl)) (by constructor <;> intro h <;> simp_all [fK]) rfl fK_len.1 fK_len.2 298
  rw [e]
  exact ⟨X, Y, _, _, S, T, by show P.mk _ _ _ _ _ _ (S ++ []) _ = _; rw [List.append_nil], qx, qy, d1, d2.trans dy⟩
/-- The second one closes: the first one waits, the second one is done. -/
theorem St.close1 {p : P} (h : St p 5 6) : ∃ x y S T, (p.step 6 0).all = ⟨x, some y, [], S, T, T, S, 0⟩ ∧ x.st = 9 ∧ x.dw = 8 ∧ x.df = 0 ∧ y.st = 10 ∧ y.dw = 0 ∧ x.os = [] ∧ y.os = [] := by
  have hfl := h.flush
  obtain ⟨x, y, e0, e1, S, T, rfl, hx, hy, dx, dy⟩ := h
  unfold P.step
  rw [hfl, all_flush, act_6]
  have hc : y.close ((0 : Nat) : Int) = (y.send fK ((0 : Nat) : Int)).at_ 8 := by
    unfold F.close
    rw [if_neg (by rw [hy.st]; decide), if_pos hy.st]
  show ∃ x' y' S' T', (P.flush ⟨x, some (y.close ((0 : Nat) : Int)), [], S, T, T, S, 0⟩).settle 300 = _ ∧ _
  rw [hc]
  have hq := hy.send fK ((0 : Nat) : Int)
  obtain ⟨X, Y, e, qx, qy, d1, d2, d3⟩ := exch10 (S := S) (T := T) (C := T) (D := S) (t := 0) (hq.1.at_ 8) hq.2 hx (.inr (.inr rfl)) (.inr (.inr rfl)) (by constructor <;> intro h <;> simp_all [fK]) rfl fK_len.1 fK_len.2 298
  exact ⟨Y, X, S, T, e.trans (by show P.mk _ _ _ _ _ (T ++ []) _ _ = _; rw [List.append_nil]), qy.st, d2, d3 rfl rfl, qx.st, d1, qy.os, qx.os⟩
/-- Eight ticks later. -/
theorem wait8 {x y : F} {S T : List UInt8} (h1 : x.st = 9) (h2 : x.dw = 8) (h3 : x.df = 0) (h4 : y.dw = 0) (h5 : x.os = []) (h6 : y.os = []) : ∀ k, k ≤ 8 → ((List.range k).foldl (fun p _ => P.step p 7 0) ⟨x, some y, [], S, T, T, S, 0⟩) = ⟨if k = 8 then x.fin_ 10 else x, some y, [], S, T, T, S, k⟩ := by
  intro k hk
  induction k with
  | zero => rfl
  | succ k ih =>
    rw [List.range_succ, List.foldl_append, ih (by omega), if_neg (by omega)]
    show P.step ⟨x, some y, [], S, T, T, S, k⟩ 7 0 = _
    unfold P.step
    have hfl : P.flush ⟨x, some y, [], S, T, T, S, k⟩ = ⟨x, some y, [], S, T, T, S, k⟩ := flush_id h5 (fun f e => by have e : some y = some f := e; injection e with e; rw [← e]; exact h6)
    rw [hfl, act_7]
    have ey : y.expire ((k + 1 : Nat) : Int) = y := if_neg (by rw [h4]; rintro ⟨h, _⟩; exact absurd h (by decide))
    have ex : x.expire ((k + 1 : Nat) : Int) = if k + 1 = 8 then x.fin_ 10 else x := by
      unfold F.expire
      by_cases h8 : k + 1 = 8
      · rw [if_pos h8, if_pos (by rw [h2, h3]; omega), if_pos h1]
      · rw [if_neg h8, if_neg (by rw [h2, h3]; omega)]
    show P.flush ⟨x.expire ((k + 1 : Nat) : Int), some (y.expire ((k + 1 : Nat) : Int)), [], S, T, T, S, k + 1⟩ = _
    rw [ex, ey]
    refine flush_id ?_ (fun f e => by have e : some y = some f := e; injection e with e; rw [← e]; exact h6)
    show F.os (if k + 1 = 8 then x.fin_ 10 else x) = []
    split
    · exact h5
    · exact h5
end Go.Proofs.Ytnpkmkjenlhkiaa

namespace Go.Proofs.Ytnpkmkjenlhkiaa
set_option linter.unusedVariables false
set_option linter.unusedSimpArgs false
set_option maxRecDepth 20000

/-- The one piece that is left is acknowledged. -/
theorem acked_one {x : F} {s en rc : Nat} {k : Ky} (h : Qo x s en rc k) (hl : 0 < k.len) (hl2 : k.len ≤ 1000) (t : Int) :
    x.gone (on en (k.len : Int)) = [k.at en] ∧ ∃ y, x.acked (on en (k.len : Int)) t = y ∧ y.st = s ∧ y.ks = [] ∧ y.b = on en (k.len : Int) ∧ y.en = on en (k.len : Int) ∧ y.rcv = rc ∧ y.os = x.os ∧ y.dw = 0 := by
  have hg : x.gone (on en (k.len : Int)) = [k.at en] := by
    have h1 : Go.Proofs.Ytnpkmkjenlhkiaa.st x.b (on en (k.len : Int)) = k.len := by
      rw [h.b]
      have := st_on_self h.lt (k.len : Int)
      omega
    unfold F.gone
    rw [h1, h.ks, if_pos (by show k.len ≤ k.len + 0; omega)]
    show List.take (if k.len ≤ k.len then 0 + 1 else 0) [k.at en] = _
    rw [if_pos (Nat.le_refl _)]
    rfl
  have hne : x.gone (on en (k.len : Int)) ≠ [] := by rw [hg]; exact List.cons_ne_nil _ _
  have ha : x.acked (on en (k.len : Int)) t = x.ackd 1 t := by
    rcases acked_ x (on en (k.len : Int)) t with ⟨e, _⟩ | ⟨_, e⟩
    · exact absurd e hne
    · rw [e, hg]; rfl
  have A := ackd_same x 1 t
  have A2 := ackd_en x 1 t
  have A3 := ackd_os x 1 t
  have hdk : x.ks.drop 1 = [] := by rw [h.ks]; rfl
  have A4 : (x.ackd 1 t).dw = 0 := by
    unfold F.ackd
    have hz : ∀ z : F, z.ks = [] → (z.fresh_.redue t).dw = 0 := fun z hz => by
      unfold F.redue
      rw [if_pos (show z.fresh_.ks = [] from hz)]
      rfl
    apply hz
    split
    · exact hdk
    · exact hdk
  have Ab : (x.ackd 1 t).b = on en (k.len : Int) := by
    rw [A.2.1, h.ks, h.b]
    show on en ((k.len + 0 : Nat) : Int) = _
    rw [Nat.add_zero]
  exact ⟨hg, _, ha, A.2.2.1.trans h.st, A.1.trans hdk, Ab, A2.trans h.e_, A.2.2.2.1.trans h.rcv, A3, A4⟩
theorem sK_len : sK.len = 1 := rfl
theorem sK1 (n : Nat) : on n (sK.len : Int) = on n 1 := by rw [sK_len]; rfl
theorem dial_qo (i : Nat) (hi : i < 4294967296) (t : Int) : Qo (F.dial i t) 1 i 0 sK ∧ (F.dial i t).os = [⟨sK.at i, 0, false, false⟩] := by
  have S := send_same (F.init i 1 0) sK t
  unfold F.dial
  generalize (F.init i 1 0).send sK t = y at *
  obtain ⟨s1, s2, s3, s4, s5, s6⟩ := S
  exact ⟨⟨s5, s1, s3, s2, s4, hi, by omega⟩, s6⟩
theorem answer_qo (i q : Nat) (hi : i < 4294967296) (t : Int) : Qo (F.answer i q t) 2 i (on q 1) sK ∧ (F.answer i q t).os = [⟨sK.at i, on q 1, true, false⟩] := by
  have S := send_same (F.init i 2 (on q 1)) sK t
  unfold F.answer
  generalize (F.init i 2 (on q 1)).send sK t = y at *
  obtain ⟨s1, s2, s3, s4, s5, s6⟩ := S
  exact ⟨⟨s5, s1, s3, s2, s4, hi, on_lt _ _⟩, s6⟩
theorem sK_small : 0 < sK.len ∧ sK.len ≤ 1000 := by decide
/-- Who dialed hears the answer. -/
theorem hear_first {x : F} {en rc q : Nat} (h : Qo x 1 en rc sK) (t : Int) :
    ∃ X, x.hearO ⟨sK.at q, on en 1, true, false⟩ t = X ∧ Qf X.quiet 3 (on en 1) (on q 1) ∧ X.os = x.os ++ [⟨tK (on en 1), on q 1, true, false⟩] ∧ X.dw = 0 ∧ x.heardO ⟨sK.at q, on en 1, true, false⟩ t = false := by
  have h2 : Qo (x.rcvd (on q 1)) 1 en (on q 1) sK := ⟨h.st, h.ks, h.b, h.e_, rfl, h.lt, on_lt _ _⟩
  obtain ⟨_, y, e, y1, y2, y3, y4, y5, y6, y7⟩ := acked_one h2 sK_small.1 sK_small.2 t
  rw [sK1] at e y3 y4
  have e1 : x.hearO ⟨sK.at q, on en 1, true, false⟩ t = (y.at_ 3).tell (tK x.en) := by
    unfold F.hearO F.hear
    dsimp only
    rw [if_neg (by have := h.st; omega), if_pos h.st]
    unfold F.hans
    rw [if_pos ⟨rfl, rfl, by rw [h.e_, sK1]⟩, ← e]
    rfl
  refine ⟨_, e1, ⟨rfl, y2, y3, y4, y5, rfl, on_lt _ _, on_lt _ _⟩, ?_, y7, ?_⟩
  · show y.os ++ [(⟨tK x.en, y.rcv, true, false⟩ : Ou)] = _
    rw [y5, y6, h.e_, sK1]
    rfl
  · unfold F.heardO F.heard
    rw [if_neg (by have := h.st; omega), if_pos h.st]
/-- Who answered hears what answers that. -/
theorem hear_second {x : F} {en rc : Nat} (h : Qo x 2 en rc sK) (t : Int) :
    ∃ X, x.hearO ⟨tK rc, on en 1, true, false⟩ t = X ∧ Qf X.quiet 3 (on en 1) rc ∧ X.os = x.os ∧ X.dw = 0 := by
  obtain ⟨hg, y, e, y1, y2, y3, y4, y5, y6, y7⟩ := acked_one h sK_small.1 sK_small.2 t
  rw [sK1] at hg e y3 y4
  have hk1 : x.hacks (on en 1) true t = y.at_ 3 := by
    unfold F.hacks F.hack
    rw [if_pos rfl, e, hg]
    show y.hk1 (sK.at en) t = _
    unfold F.hk1
    rw [if_pos ⟨rfl, y1⟩]
  have e1 : x.hearO ⟨tK rc, on en 1, true, false⟩ t = (y.at_ 3).hdata rc 0 false t := by
    unfold F.hearO F.hear
    dsimp only
    rw [if_neg (by have := h.st; omega), if_neg (by have := h.st; omega), if_neg (show ¬ (tK rc).syn = true from (by show ¬ false = true; decide)), hk1, if_pos (by show 3 ≤ 3 ∧ 3 ≤ 9; omega)]
    rfl
  have e2 : (y.at_ 3).hdata rc 0 false t = (y.at_ 3).rcvd (on rc 0) := by
    unfold F.hdata
    rw [if_neg]
    · unfold F.takes
      rw [if_pos ⟨y5.symm, .inl rfl⟩, if_neg (by decide)]
      show F.rcvd _ (on y.rcv ((0 : Nat) : Int)) = _
      rw [y5]
      rfl
    · rintro (h9 | h9)
      · omega
      · rw [show (y.at_ 3).rcv = rc from y5, bf_self rc h.rl] at h9
        cases h9
  exact ⟨_, e1.trans e2, ⟨rfl, y2, y3, y4, on_zero h.rl, rfl, on_lt _ _, h.rl⟩, y6, y7⟩
theorem St.first (i : Nat) (hi : i < 4294967296) : St (P.init i).all 3 3 := by
  obtain ⟨d1, d2⟩ := dial_qo i hi ((0 : Nat) : Int)
  obtain ⟨a1, a2⟩ := answer_qo 9000 i (by decide) ((0 : Nat) : Int)
  obtain ⟨z, hz⟩ : ∃ z, z = F.dial i ((0 : Nat) : Int) := ⟨_, rfl⟩
  obtain ⟨y, hy⟩ : ∃ y, y = F.answer 9000 i ((0 : Nat) : Int) := ⟨_, rfl⟩
  rw [← hz] at d1 d2
  rw [← hy] at a1 a2
  have hzq : Qo z.quiet 1 i 0 sK := ⟨d1.st, d1.ks, d1.b, d1.e_, d1.rcv, d1.lt, d1.rl⟩
  have hyq : Qo y.quiet 2 9000 (on i 1) sK := ⟨a1.st, a1.ks, a1.b, a1.e_, a1.rcv, a1.lt, a1.rl⟩
  have e0 : (P.init i).flush = ⟨z.quiet, none, [⟨1, ⟨sK.at i, 0, false, false⟩⟩], [], [], [], [], 0⟩ := by
    show P.mk (F.dial i ((0 : Nat) : Int)).quiet none (addw 0 (addw 1 [] (F.dial i ((0 : Nat) : Int)).os) []) [] [] [] [] 0 = _
    rw [← hz, d2, addw_none, addw_all (by simp)]
    rfl
  have e1 : P.step ⟨z.quiet, none, [⟨1, ⟨sK.at i, 0, false, false⟩⟩], [], [], [], [], 0⟩ 0 0 = ⟨z.quiet, some y.quiet, [⟨0, ⟨sK.at 9000, on i 1, true, false⟩⟩], [], [], [], [], 0⟩ := by
    unfold P.step
    rw [flush_id (p := ⟨z.quiet, none, [⟨1, ⟨sK.at i, 0, false, false⟩⟩], [], [], [], [], 0⟩) rfl (fun f e => by cases e), act_head rfl]
    have hc : P.comes ⟨z.quiet, none, [], [], [], [], [], 0⟩ ⟨1, ⟨sK.at i, 0, false, false⟩⟩ = ⟨z.quiet, some y, [], [], [], [], [], 0⟩ := by
      unfold P.comes
      rw [if_pos rfl]
      show (if (sK.at i).syn = true ∧ false = false ∧ false = false then (P.mk z.quiet (some (F.answer 9000 (sK.at i).seq ((0 : Nat) : Int))) [] [] [] [] [] 0) else _) = _
      rw [if_pos ⟨rfl, rfl, rfl⟩, hy]
      rfl
    show P.flush (P.comes ⟨z.quiet, none, [], [], [], [], [], 0⟩ ⟨1, ⟨sK.at i, 0, false, false⟩⟩) = _
    rw [hc]
    show P.mk z.quiet.quiet (some y.quiet) (addw 0 (addw 1 [] []) y.os) [] [] [] [] 0 = _
    rw [a2, addw_none, addw_all (by simp)]
    rfl
  obtain ⟨X, x1, x2, x3, x4, x5⟩ := hear_first (q := 9000) hzq ((0 : Nat) : Int)
  obtain ⟨Y, z1, z2, z3, z4⟩ := hear_second hyq ((0 : Nat) : Int)
  have e2 : P.step ⟨z.quiet, some y.quiet, [⟨0, ⟨sK.at 9000, on i 1, true, false⟩⟩], [], [], [], [], 0⟩ 0 0 = ⟨X.quiet, some y.quiet, [⟨1, ⟨tK (on i 1), on 9000 1, true, false⟩⟩], [], [], [], [], 0⟩ := by
    rw [step0_0 z.quiet y.quiet ⟨sK.at 9000, on i 1, true, false⟩ [] [] [] [] 0 rfl rfl [⟨tK (on i 1), on 9000 1, true, false⟩] (by rw [x1, x3]; rfl) (by show 1 ≤ 60; omega), x1, x5]
    rfl
  have e3 : P.step ⟨X.quiet, some y.quiet, [⟨1, ⟨tK (on i 1), on 9000 1, true, false⟩⟩], [], [], [], [], 0⟩ 0 0 = ⟨X.quiet, some Y.quiet, [], [], [], [], [], 0⟩ := by
    rw [step0_1 X.quiet y.quiet ⟨tK (on i 1), on 9000 1, true, false⟩ [] [] [] [] 0 rfl rfl [] (by rw [z1, z3]; rfl) (by show 0 ≤ 60; omega), z1]
    show P.mk X.quiet (some Y.quiet) [] [] [] [] ([] ++ (if _ = true then (tK 0).ds else [])) 0 = _
    rw [nil_either]
  unfold P.all
  rw [e0, settle_cons 299 _ (List.cons_ne_nil _ _), e1, settle_cons 298 _ (List.cons_ne_nil _ _), e2, settle_cons 297 _ (List.cons_ne_nil _ _), e3, settle_nil _ _ rfl]
  exact ⟨X.quiet, Y.quiet, _, _, [], [], rfl, x2, z2, x4, z4⟩
/-- The pieces that the law sends. -/
def P.sends (p : P) (k : Int) (l : List UInt8) : P := l.foldl (fun p b => (p.step k ((b.toNat : Int) % 8 + 1)).all) p
theorem sends_snoc (p : P) (k : Int) (l : List UInt8) (b : UInt8) : p.sends k (l ++ [b]) = ((p.sends k l).step k ((b.toNat : Int) % 8 + 1)).all := by unfold P.sends; rw [List.foldl_append]; rfl
theorem St.sends {p : P} (h : St p 3 3) (k : Int) (hk : k = 3 ∨ k = 4) (l : List UInt8) : St (p.sends k l) 3 3 := by
  induction l generalizing p with
  | nil => exact h
  | cons b l ih =>
    rcases hk with rfl | rfl
    · exact ih (h.send0 _ (by omega))
    · exact ih (h.send1 _ (by omega))
end Go.Proofs.Ytnpkmkjenlhkiaa

namespace Go.Proofs.Ytnpkmkjenlhkiaa
set_option linter.unusedVariables false
set_option linter.unusedSimpArgs false
set_option maxRecDepth 20000
open Go.RowKit Go.Lib

section
variable {GB : Option Nat} {base : Nat} {w w' w1 : World} {pb : Nat} {p : P} {m : Ms} {lab : Nat → Nat}
/-- A variable that holds the pair. -/
theorem PR.own (h : PR none base w pb p m lab) (b : Below w.heap.size w w') {gb : Nat} (hg : w.heap.size ≤ gb) (ho : w'.heap[gb]? = some (.cells #[.pointer (some ⟨pb, 0, none⟩)] 25 (0, 0))) : ∃ lab', PR (some gb) base w' pb p m lab' := by
  have h2 := (h.relabel (lab' := fun j => if j < w.heap.size then lab j else 10) (fun j hj => if_pos hj)).below b
  exact ⟨_, h2.obj, h2.lo, h2.fa, h2.fb, h2.fn, h2.way, h2.key, h2.og, h2.s0, h2.s1, h2.c0, h2.c1, h2.la, h2.lb, h2.lp, h2.lw, h2.ld, fun g e => by
    injection e with e
    subst e
    exact ⟨ho, if_neg (by omega)⟩⟩
theorem PR.var {gb : Nat} (h : PR (some gb) base w pb p m lab) : w.cell? ⟨gb, 0, none⟩ = some (.pointer (some ⟨pb, 0, none⟩)) := (cell_of_row w gb 0 _ _ (0, 0) (h.bx gb rfl).1).trans rfl
theorem heap_set1 {W : World} {g : Nat} {a v : Value} {t : TypeId} (h : W.heap[g]? = some (.cells #[a] t (0, 0))) : (W.setCell ⟨g, 0, none⟩ v).heap[g]? = some (.cells #[v] t (0, 0)) := by
  simp [World.setCell, Array.getElem?_modify, h]
set_option maxHeartbeats 6400000 in
theorem allc_any {gb i n : Nat} (h : PR (some gb) base w pb p m lab) (hB : Both i n p) (hn : n + 300 ≤ 100000) :
    Calls Try.prog 27 #[.pointer (some ⟨gb, 0, none⟩)] w fun e w' => e = .returned (.tuple #[]) ∧ (∃ m' lab', PR (some gb) base w' pb p.all m' lab') ∧ Below base w w' := by
  have HF := Lib.hid (flush_any h)
  have hv := h.var
  have hbs : base ≤ w.heap.size := by have := h.lo; have := h.lt; omega
  obtain ⟨q, hq⟩ : ∃ q, q = p.flush := ⟨_, rfl⟩
  have HBQ : Hid (Both i n q) := Lib.hid (by
    obtain ⟨⟨h0, h1, m0, m1, I⟩, N⟩ := hB
    rw [hq]
    exact ⟨⟨h0, h1, m0, m1, I.flush⟩, N.flush⟩)
  have HALL : Hid (p.all = q.settle 300) := Lib.hid (by rw [hq]; rfl)
  rw [← hq] at HF
  unfold ptr at HF
  clear h hB hq
  go_enter Try.func27, Try.ntmps27
  go_wp2_with fail
  refine HF.out.mono ?_
  rintro e w1 ⟨rfl, ⟨m1, lab1, h1⟩, b1⟩
  have H1 := Lib.hid h1
  have HB1 := Lib.hid b1
  clear h1 b1 HF hv
  go_wp2_with fail
  go_loopw [1] (fun v wr => ∃ k : Nat, k ≤ 300 ∧ v = .int .i64 (k : Int) ∧ Below base w wr ∧ ∃ p' m' lab' n', PR (some gb) base wr pb p' m' lab' ∧ p'.settle (300 - k) = q.settle 300 ∧ Both i n' p' ∧ n' + (300 - k) ≤ 100000) (fun v _ => 300 - (intOf v).toNat)
  case atStart => exact ⟨0, by omega, rfl, HB1.out, q, m1, lab1, n, H1.out, rfl, HBQ.out, by omega⟩
  case round =>
    obtain ⟨k, hk, rfl, hBr, p', m', lab', n', h', hs', hb', hn'⟩ := hrel
    have hv := h'.var
    obtain ⟨A, c, hwv, hwl⟩ := Ms.way_slice h'
    obtain ⟨L, hL⟩ : ∃ L, m'.ws.length = L := ⟨_, rfl⟩
    rw [hL] at hwv hwl
    have kw : wr.cell? ⟨pb, 2, none⟩ = some (.slice A L c) := (h'.at_ 2).trans (by rw [show (m'.cs p'.t)[2]? = some m'.wv from rfl, hwv])
    have HWL := Lib.hid hwl
    have HBr := Lib.hid hBr
    have HS := Lib.hid hs'
    have H' := Lib.hid h'
    by_cases hlt : k < 300
    · have hki : (k : Int) < 300 := by omega
      by_cases hL0 : 0 < L
      · have hLi : (0 : Int) < (L : Int) := by omega
        have hway : p'.way ≠ [] := fun e => by rw [e] at hwl; simp at hwl; omega
        have HST := Lib.hid (step_any h' (hb'.bd (by omega)) 0 0 (by unfold isInt; decide) (by unfold isInt; decide))
        have HSE := Lib.hid (settle_cons (299 - k) p' hway)
        have HBN := Lib.hid (hb'.step (by omega) 0 0)
        have hlo := h'.lo
        unfold ptr at HST
        clear h' hs' hb' hwv hwl hL hBr hway
        go_wp2_with fail
        refine HST.out.mono ?_
        rintro e w2 ⟨rfl, ⟨m2, lab2, h2⟩, b2⟩
        have H2 := Lib.hid h2
        have HB2 := Lib.hid (HBr.out.trans b2)
        clear h2 b2
        go_wp2_with fail
        go_roundw
        case rel => exact ⟨k + 1, by omega, by go_num, HB2.out, p'.step 0 0, m2, lab2, n' + 1, H2.out, by rw [← HS.out, show 300 - k = (299 - k) + 1 from by omega, HSE.out, show 300 - (k + 1) = 299 - k from by omega], HBN.out, by omega⟩
        case measure => simp [intOf]; omega
      · obtain rfl : L = 0 := by omega
        have hway : p'.way = [] := List.eq_nil_of_length_eq_zero hwl.symm
        have HE : Hid (PR (some gb) base wr pb p.all m' lab') := Lib.hid (by
          rw [HALL.out, ← HS.out, settle_nil _ _ hway]
          exact H'.out)
        clear h' hs' hb' hwv hwl hL hBr hway
        go_wp2_with fail
        go_end0
        exact ⟨rfl, ⟨m', lab', HE.out⟩, HBr.out⟩
    · obtain rfl : k = 300 := by omega
      have HE : Hid (PR (some gb) base wr pb p.all m' lab') := Lib.hid (by
        rw [HALL.out, ← HS.out]
        exact H'.out)
      clear h' hs' hb' hwv hwl hL hBr kw
      go_wp2_with fail
      go_end0
      exact ⟨rfl, ⟨m', lab', HE.out⟩, HBr.out⟩
end
end Go.Proofs.Ytnpkmkjenlhkiaa

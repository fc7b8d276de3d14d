/- FlowCloses, without a program. No condition.
Two flows open. No condition.
One side of a pair, in numbers: where it is, what is acknowledged, what came; what an acknowledgement does. No condition. -/
import Derived.Test.YtnpkmkjenlhkiaaMg28
namespace Go.Proofs.Ytnpkmkjenlhkiaa
set_option linter.unusedVariables false
set_option linter.unusedSimpArgs false
set_option maxRecDepth 20000

def P.all (p : P) : P := p.flush.settle 300
theorem flush_flush (p : P) : p.flush.flush = p.flush := flush_id rfl (fun f hf => by
  have hf : p.f1.map F.quiet = some f := hf
  obtain ⟨g, _, rfl⟩ := Option.map_eq_some_iff.1 hf
  rfl)
theorem all_flush (p : P) : p.flush.all = p.flush.settle 300 := by unfold P.all; rw [flush_flush]
theorem nil_either (b : Bool) (l : List UInt8) : l ++ (if b = true then (tK 0).ds else []) = l := by cases b <;> exact List.append_nil l
section
variable {S T C D : List UInt8} {t : Nat}
/-- The first flow's piece comes, and is acknowledged. -/
theorem exch01 {z f : F} {s s1 e0 e1 : Nat} {k : Ky} (hz : Qo z s e0 e1 k) (hzo : z.os = [⟨k.at e0, e1, true, false⟩]) (hf : Qf f s1 e1 e0) (hs1 : s1 = 3 ∨ s1 = 4 ∨ s1 = 5) (hs : s = 3 ∨ s = 4 ∨ s = 8) (hfin : k.fin = true ↔ s ≠ 3) (hsy : k.syn = false) (hl : 0 < k.len) (hl2 : k.len ≤ 1000) (n : Nat) :
    ∃ X Y, (P.flush ⟨z, some f, [], S, T, C, D, t⟩).settle (n + 2) = ⟨X, some Y, [], S, T, C, D ++ k.ds, t⟩ ∧ Qf X (if s = 4 then 5 else if s = 8 then 10 else s) (on e0 (k.len : Int)) e1 ∧ Qf Y (if k.fin = true then finS s1 else s1) e1 (on e0 (k.len : Int)) ∧ X.dw = 0 ∧ Y.dw = (if k.fin = true ∧ s1 = 5 then 8 else f.dw) ∧ (k.fin = true → s1 = 5 → Y.df = t) := by
  have hkl := Ky.len_nosyn hsy
  have hkl2 : (k.at e0).ds.length + bn (k.at e0).fin = k.len := hkl.symm
  obtain ⟨Y, y1, y2, y3, y4, y5, y6⟩ := hear_piece hf hs1 (k.at e0) rfl hsy (by rw [hkl2]; exact hl) e1 (t : Int)
  rw [hkl2] at y2 y3
  have hzq : Qo z.quiet s e0 e1 k := ⟨hz.st, hz.ks, hz.b, hz.e_, hz.rcv, hz.lt, hz.rl⟩
  obtain ⟨X, x1, x2, x3, x4⟩ := hear_ack hzq hs hfin hsy hl hl2 (t : Int)
  have e : P.flush ⟨z, some f, [], S, T, C, D, t⟩ = ⟨z.quiet, some f, [⟨1, ⟨k.at e0, e1, true, false⟩⟩], S, T, C, D, t⟩ := by
    show P.mk z.quiet (some f.quiet) (addw 0 (addw 1 [] z.os) f.os) S T C D t = _
    rw [hf.os, addw_none, hzo, addw_all (by simp), hf.quiet]
    rfl
  rw [e, settle_cons _ _ (List.cons_ne_nil _ _), step0_1 z.quiet f ⟨k.at e0, e1, true, false⟩ S T C D t rfl hf.os [⟨tK e1, on e0 (k.len : Int), true, false⟩] (by rw [y1]; exact y3) (by show 1 ≤ 60; omega), y1, y4]
  have e2 : P.step ⟨z.quiet, some Y.quiet, [⟨0, ⟨tK e1, on e0 (k.len : Int), true, false⟩⟩], S, T, C, D ++ k.ds, t⟩ 0 0 = ⟨X.quiet, some Y.quiet, [], S, T, C, D ++ k.ds, t⟩ := by
    rw [step0_0 z.quiet Y.quiet ⟨tK e1, on e0 (k.len : Int), true, false⟩ S T C (D ++ k.ds) t rfl rfl [] (by rw [x1, x3]; rfl) (by show 0 ≤ 60; omega), x1]
    show P.mk X.quiet (some Y.quiet) [] S T (C ++ (if _ = true then (tK 0).ds else [])) (D ++ k.ds) t = _
    rw [nil_either]
  refine ⟨X.quiet, Y.quiet, ?_, x2, y2, x4, y5, y6⟩
  show (P.mk z.quiet (some Y.quiet) [⟨0, ⟨tK e1, on e0 (k.len : Int), true, false⟩⟩] S T C (D ++ (if true = true then k.ds else [])) t).settle (n + 1) = _
  rw [if_pos rfl, settle_cons _ _ (List.cons_ne_nil _ _), e2, settle_nil _ _ rfl]
/-- .. the second one's. -/
theorem exch10 {z f : F} {s s1 e0 e1 : Nat} {k : Ky} (hz : Qo z s e0 e1 k) (hzo : z.os = [⟨k.at e0, e1, true, false⟩]) (hf : Qf f s1 e1 e0) (hs1 : s1 = 3 ∨ s1 = 4 ∨ s1 = 5) (hs : s = 3 ∨ s = 4 ∨ s = 8) (hfin : k.fin = true ↔ s ≠ 3) (hsy : k.syn = false) (hl : 0 < k.len) (hl2 : k.len ≤ 1000) (n : Nat) :
    ∃ X Y, (P.flush ⟨f, some z, [], S, T, C, D, t⟩).settle (n + 2) = ⟨Y, some X, [], S, T, C ++ k.ds, D, t⟩ ∧ Qf X (if s = 4 then 5 else if s = 8 then 10 else s) (on e0 (k.len : Int)) e1 ∧ Qf Y (if k.fin = true then finS s1 else s1) e1 (on e0 (k.len : Int)) ∧ X.dw = 0 ∧ Y.dw = (if k.fin = true ∧ s1 = 5 then 8 else f.dw) ∧ (k.fin = true → s1 = 5 → Y.df = t) := by
  have hkl := Ky.len_nosyn hsy
  have hkl2 : (k.at e0).ds.length + bn (k.at e0).fin = k.len := hkl.symm
  obtain ⟨Y, y1, y2, y3, y4, y5, y6⟩ := hear_piece hf hs1 (k.at e0) rfl hsy (by rw [hkl2]; exact hl) e1 (t : Int)
  rw [hkl2] at y2 y3
  have hzq : Qo z.quiet s e0 e1 k := ⟨hz.st, hz.ks, hz.b, hz.e_, hz.rcv, hz.lt, hz.rl⟩
  obtain ⟨X, x1, x2, x3, x4⟩ := hear_ack hzq hs hfin hsy hl hl2 (t : Int)
  have e : P.flush ⟨f, some z, [], S, T, C, D, t⟩ = ⟨f, some z.quiet, [⟨0, ⟨k.at e0, e1, true, false⟩⟩], S, T, C, D, t⟩ := by
    show P.mk f.quiet (some z.quiet) (addw 0 (addw 1 [] f.os) z.os) S T C D t = _
    rw [hf.os, addw_none, hzo, addw_all (by simp), hf.quiet]
    rfl
  rw [e, settle_cons _ _ (List.cons_ne_nil _ _), step0_0 f z.quiet ⟨k.at e0, e1, true, false⟩ S T C D t hf.os rfl [⟨tK e1, on e0 (k.len : Int), true, false⟩] (by rw [y1]; exact y3) (by show 1 ≤ 60; omega), y1, y4]
  have e2 : P.step ⟨Y.quiet, some z.quiet, [⟨1, ⟨tK e1, on e0 (k.len : Int), true, false⟩⟩], S, T, C ++ k.ds, D, t⟩ 0 0 = ⟨Y.quiet, some X.quiet, [], S, T, C ++ k.ds, D, t⟩ := by
    rw [step0_1 Y.quiet z.quiet ⟨tK e1, on e0 (k.len : Int), true, false⟩ S T (C ++ k.ds) D t rfl rfl [] (by rw [x1, x3]; rfl) (by show 0 ≤ 60; omega), x1]
    show P.mk Y.quiet (some X.quiet) [] S T (C ++ k.ds) (D ++ (if _ = true then (tK 0).ds else [])) t = _
    rw [nil_either]
  refine ⟨X.quiet, Y.quiet, ?_, x2, y2, x4, y5, y6⟩
  show (P.mk Y.quiet (some z.quiet) [⟨1, ⟨tK e1, on e0 (k.len : Int), true, false⟩⟩] S T (C ++ (if true = true then k.ds else [])) D t).settle (n + 1) = _
  rw [if_pos rfl, settle_cons _ _ (List.cons_ne_nil _ _), e2, settle_nil _ _ rfl]
end
/-- Both at rest, each with all of the other one's. -/
def St (p : P) (s0 s1 : Nat) : Prop := ∃ x y e0 e1 S T, p = ⟨x, some y, [], S, T, T, S, 0⟩ ∧ Qf x s0 e0 e1 ∧ Qf y s1 e1 e0 ∧ x.dw = 0 ∧ y.dw = 0
theorem byts_len (I : Int) (h : 1 ≤ I ∧ I ≤ 8) : (byts I).length = I.toNat := by
  unfold byts
  rw [List.length_map, List.length_range]
  omega
theorem St.flush {p : P} {s0 s1 : Nat} (h : St p s0 s1) : p.flush = p := by
  obtain ⟨x, y, e0, e1, S, T, rfl, hx, hy, _⟩ := h
  exact flush_id hx.os (fun f e => by have e : some y = some f := e; injection e with e; rw [← e]; exact hy.os)
theorem act_3 (p : P) (I : Int) : p.act 3 I = { p with f0 := p.f0.put 1 false (byts I) p.t, s0 := p.s0 ++ (if p.f0.putE (byts I) = 0 then byts I else []) } := by
  unfold P.act
  rw [if_neg (by rintro ⟨⟨_, h⟩, _⟩; exact absurd h (by decide)), if_pos rfl]
theorem act_4 (p : P) (I : Int) : p.act 4 I = { p with f1 := oput p.f1 (byts I) p.t, s1 := p.s1 ++ (if oputE p.f1 (byts I) = 0 then byts I else []) } := by
  unfold P.act
  rw [if_neg (by rintro ⟨⟨_, h⟩, _⟩; exact absurd h (by decide)), if_neg (by decide), if_pos rfl]
theorem act_5 (p : P) (I : Int) : p.act 5 I = { p with f0 := p.f0.close p.t } := by
  unfold P.act
  rw [if_neg (by rintro ⟨⟨_, h⟩, _⟩; exact absurd h (by decide)), if_neg (by decide), if_neg (by decide), if_pos rfl]
theorem act_6 (p : P) (I : Int) : p.act 6 I = { p with f1 := p.f1.map fun f => f.close p.t } := by
  unfold P.act
  rw [if_neg (by rintro ⟨⟨_, h⟩, _⟩; exact absurd h (by decide)), if_neg (by decide), if_neg (by decide), if_neg (by decide), if_pos rfl]
theorem act_7 (p : P) (I : Int) : p.act 7 I = { p with t := p.t + 1, f0 := p.f0.expire (p.t + 1 : Nat), f1 := p.f1.map fun f => f.expire (p.t + 1 : Nat) } := by
  unfold P.act
  rw [if_neg (by rintro ⟨⟨_, h⟩, _⟩; exact absurd h (by decide)), if_neg (by decide), if_neg (by decide), if_neg (by decide), if_neg (by decide), if_pos rfl]
theorem put_yes {x : F} {s : Nat} (hs : x.st = 3 ∨ x.st = 6) (b : List UInt8) (hb : 1 ≤ b.length ∧ b.length ≤ 8) (t : Int) : x.put 1 false b t = x.send (dK 1 false b) t ∧ x.putE b = 0 := by
  unfold F.put F.putE
  rw [if_pos hs, if_pos hs, if_neg (by omega), if_neg (by omega)]
  exact ⟨rfl, rfl⟩
theorem dK_len (b : List UInt8) (hb : 1 ≤ b.length ∧ b.length ≤ 8) : 0 < (dK 1 false b).len ∧ (dK 1 false b).len ≤ 1000 := by
  have : (dK 1 false b).len = b.length := rfl
  omega
/-- The first flow sends. -/
theorem St.send0 {p : P} (h : St p 3 3) (I : Int) (hI : 1 ≤ I ∧ I ≤ 8) : St (p.step 3 I).all 3 3 := by
  have hfl := h.flush
  obtain ⟨x, y, e0, e1, S, T, rfl, hx, hy, dx, dy⟩ := h
  have hb : 1 ≤ (byts I).length ∧ (byts I).length ≤ 8 := by rw [byts_len I hI]; omega
  have hp := put_yes (x := x) (s := 3) (.inl hx.st) (byts I) hb ((0 : Nat) : Int)
  unfold P.step
  rw [hfl, all_flush, act_3]
  show St ((P.flush ⟨x.put 1 false (byts I) ((0 : Nat) : Int), some y, [], S ++ (if x.putE (byts I) = 0 then byts I else []), T, T, S, 0⟩).settle 300) 3 3
  rw [hp.1, hp.2, if_pos rfl]
  have hq := hx.send (dK 1 false (byts I)) ((0 : Nat) : Int)
  obtain ⟨X, Y, e, qx, qy, d1, d2, _⟩ := exch01 (S := S ++ byts I) (T := T) (C := T) (D := S) (t := 0) hq.1 hq.2 hy (.inl rfl) (.inl rfl) (by constructor <;> intro h <;> simp_all [dK]) rfl (dK_len _ hb).1 (dK_len _ hb).2 298
  rw [e]
  exact ⟨X, Y, _, _, S ++ byts I, T, rfl, qx, qy, d1, d2.trans dy⟩
/-- The second one does. -/
theorem St.send1 {p : P} (h : St p 3 3) (I : Int) (hI : 1 ≤ I ∧ I ≤ 8) : St (p.step 4 I).all 3 3 := by
  have hfl := h.flush
  obtain ⟨x, y, e0, e1, S, T, rfl, hx, hy, dx, dy⟩ := h
  have hb : 1 ≤ (byts I).length ∧ (byts I).length ≤ 8 := by rw [byts_len I hI]; omega
  have hp := put_yes (x := y) (s := 3) (.inl hy.st) (byts I) hb ((0 : Nat) : Int)
  unfold P.step
  rw [hfl, all_flush, act_4]
  show St ((P.flush ⟨x, some (y.put 1 false (byts I) ((0 : Nat) : Int)), [], S, T ++ (if y.putE (byts I) = 0 then byts I else []), T, S, 0⟩).settle 300) 3 3
  rw [hp.1, hp.2, if_pos rfl]
  have hq := hy.send (dK 1 false (byts I)) ((0 : Nat) : Int)
  obtain ⟨X, Y, e, qx, qy, d1, d2, _⟩ := exch10 (S := S) (T := T ++ byts I) (C := T) (D := S) (t := 0) hq.1 hq.2 hx (.inl rfl) (.inl rfl) (by constructor <;> intro h <;> simp_all [dK]) rfl (dK_len _ hb).1 (dK_len _ hb).2 298
  rw [e]
  exact ⟨Y, X, _, _, S, T ++ byts I, rfl, qy, qx, d2.trans dx, d1⟩
theorem fK_len : 0 < fK.len ∧ fK.len ≤ 1000 := by decide
theorem Qo.at_ {x : F} {s en rc : Nat} {k : Ky} (h : Qo x s en rc k) (s2 : Nat) : Qo (x.at_ s2) s2 en rc k := ⟨rfl, h.ks, h.b, h.e_, h.rcv, h.lt, h.rl⟩
/-- The first flow closes. -/
theorem St.close0 {p : P} (h : St p 3 3) : St (p.step 5 0).all 5 6 := by
  have hfl := h.flush
  obtain ⟨x, y, e0, e1, S, T, rfl, hx, hy, dx, dy⟩ := h
  unfold P.step
  rw [hfl, all_flush, act_5]
  have hc : x.close ((0 : Nat) : Int) = (x.send fK ((0 : Nat) : Int)).at_ 4 := if_pos hx.st
  show St ((P.flush ⟨x.close ((0 : Nat) : Int), some y, [], S, T, T, S, 0⟩).settle 300) 5 6
  rw [hc]
  have hq := hx.send fK ((0 : Nat) : Int)
  obtain ⟨X, Y, e, qx, qy, d1, d2, _⟩ := exch01 (S := S) (T := T) (C := T) (D := S) (t := 0) (hq.1.at_ 4) hq.2 hy (.inl rfl) (.inr (.inl rfl)) (by constructor <;> intro h <;> simp_all [fK]) rfl fK_len.1 fK_len.2 298
  rw [e]
  exact ⟨X, Y, _, _, S, T, by show P.mk _ _ _ _ _ _ (S ++ []) _ = _; rw [List.append_nil], qx, qy, d1, d2.trans dy⟩
/-- The second one closes: the first one waits, the second one is done. -/
theorem St.close1 {p : P} (h : St p 5 6) : ∃ x y S T, (p.step 6 0).all = ⟨x, some y, [], S, T, T, S, 0⟩ ∧ x.st = 9 ∧ x.dw = 8 ∧ x.df = 0 ∧ y.st = 10 ∧ y.dw = 0 ∧ x.os = [] ∧ y.os = [] := by
  have hfl := h.flush
  obtain ⟨x, y, e0, e1, S, T, rfl, hx, hy, dx, dy⟩ := h
  unfold P.step
  rw [hfl, all_flush, act_6]
  have hc : y.close ((0 : Nat) : Int) = (y.send fK ((0 : Nat) : Int)).at_ 8 := by
    unfold F.close
    rw [if_neg (by rw [hy.st]; decide), if_pos hy.st]
  show ∃ x' y' S' T', (P.flush ⟨x, some (y.close ((0 : Nat) : Int)), [], S, T, T, S, 0⟩).settle 300 = _ ∧ _
  rw [hc]
  have hq := hy.send fK ((0 : Nat) : Int)
  obtain ⟨X, Y, e, qx, qy, d1, d2, d3⟩ := exch10 (S := S) (T := T) (C := T) (D := S) (t := 0) (hq.1.at_ 8) hq.2 hx (.inr (.inr rfl)) (.inr (.inr rfl)) (by constructor <;> intro h <;> simp_all [fK]) rfl fK_len.1 fK_len.2 298
  exact ⟨Y, X, S, T, e.trans (by show P.mk _ _ _ _ _ (T ++ []) _ _ = _; rw [List.append_nil]), qy.st, d2, d3 rfl rfl, qx.st, d1, qy.os, qx.os⟩
/-- Eight ticks later. -/
theorem wait8 {x y : F} {S T : List UInt8} (h1 : x.st = 9) (h2 : x.dw = 8) (h3 : x.df = 0) (h4 : y.dw = 0) (h5 : x.os = []) (h6 : y.os = []) : ∀ k, k ≤ 8 → ((List.range k).foldl (fun p _ => P.step p 7 0) ⟨x, some y, [], S, T, T, S, 0⟩) = ⟨if k = 8 then x.fin_ 10 else x, some y, [], S, T, T, S, k⟩ := by
  intro k hk
  induction k with
  | zero => rfl
  | succ k ih =>
    rw [List.range_succ, List.foldl_append, ih (by omega), if_neg (by omega)]
    show P.step ⟨x, some y, [], S, T, T, S, k⟩ 7 0 = _
    unfold P.step
    have hfl : P.flush ⟨x, some y, [], S, T, T, S, k⟩ = ⟨x, some y, [], S, T, T, S, k⟩ := flush_id h5 (fun f e => by have e : some y = some f := e; injection e with e; rw [← e]; exact h6)
    rw [hfl, act_7]
    have ey : y.expire ((k + 1 : Nat) : Int) = y := if_neg (by rw [h4]; rintro ⟨h, _⟩; exact absurd h (by decide))
    have ex : x.expire ((k + 1 : Nat) : Int) = if k + 1 = 8 then x.fin_ 10 else x := by
      unfold F.expire
      by_cases h8 : k + 1 = 8
      · rw [if_pos h8, if_pos (by rw [h2, h3]; omega), if_pos h1]
      · rw [if_neg h8, if_neg (by rw [h2, h3]; omega)]
    show P.flush ⟨x.expire ((k + 1 : Nat) : Int), some (y.expire ((k + 1 : Nat) : Int)), [], S, T, T, S, k + 1⟩ = _
    rw [ex, ey]
    refine flush_id ?_ (fun f e => by have e : some y = some f := e; injection e with e; rw [← e]; exact h6)
    show F.os (if k + 1 = 8 then x.fin_ 10 else x) = []
    split
    · exact h5
    · exact h5
end Go.Proofs.Ytnpkmkjenlhkiaa

namespace Go.Proofs.Ytnpkmkjenlhkiaa
set_option linter.unusedVariables false
set_option linter.unusedSimpArgs false
set_option maxRecDepth 20000

/-- The one piece that is left is acknowledged. -/
theorem acked_one {x : F} {s en rc : Nat} {k : Ky} (h : Qo x s en rc k) (hl : 0 < k.len) (hl2 : k.len ≤ 1000) (t : Int) :
    x.gone (on en (k.len : Int)) = [k.at en] ∧ ∃ y, x.acked (on en (k.len : Int)) t = y ∧ y.st = s ∧ y.ks = [] ∧ y.b = on en (k.len : Int) ∧ y.en = on en (k.len : Int) ∧ y.rcv = rc ∧ y.os = x.os ∧ y.dw = 0 := by
  have hg : x.gone (on en (k.len : Int)) = [k.at en] := by
    have h1 : Go.Proofs.Ytnpkmkjenlhkiaa.st x.b (on en (k.len : Int)) = k.len := by
      rw [h.b]
      have := st_on_self h.lt (k.len : Int)
      omega
    unfold F.gone
    rw [h1, h.ks, if_pos (by show k.len ≤ k.len + 0; omega)]
    show List.take (if k.len ≤ k.len then 0 + 1 else 0) [k.at en] = _
    rw [if_pos (Nat.le_refl _)]
    rfl
  have hne : x.gone (on en (k.len : Int)) ≠ [] := by rw [hg]; exact List.cons_ne_nil _ _
  have ha : x.acked (on en (k.len : Int)) t = x.ackd 1 t := by
    rcases acked_ x (on en (k.len : Int)) t with ⟨e, _⟩ | ⟨_, e⟩
    · exact absurd e hne
    · rw [e, hg]; rfl
  have A := ackd_same x 1 t
  have A2 := ackd_en x 1 t
  have A3 := ackd_os x 1 t
  have hdk : x.ks.drop 1 = [] := by rw [h.ks]; rfl
  have A4 : (x.ackd 1 t).dw = 0 := by
    unfold F.ackd
    have hz : ∀ z : F, z.ks = [] → (z.fresh_.redue t).dw = 0 := fun z hz => by
      unfold F.redue
      rw [if_pos (show z.fresh_.ks = [] from hz)]
      rfl
    apply hz
    split
    · exact hdk
    · exact hdk
  have Ab : (x.ackd 1 t).b = on en (k.len : Int) := by
    rw [A.2.1, h.ks, h.b]
    show on en ((k.len + 0 : Nat) : Int) = _
    rw [Nat.add_zero]
  exact ⟨hg, _, ha, A.2.2.1.trans h.st, A.1.trans hdk, Ab, A2.trans h.e_, A.2.2.2.1.trans h.rcv, A3, A4⟩
theorem sK_len : sK.len = 1 := rfl
theorem sK1 (n : Nat) : on n (sK.len : Int) = on n 1 := by rw [sK_len]; rfl
theorem dial_qo (i : Nat) (hi : i < 4294967296) (t : Int) : Qo (F.dial i t) 1 i 0 sK ∧ (F.dial i t).os = [⟨sK.at i, 0, false, false⟩] := by
  have S := send_same (F.init i 1 0) sK t
  unfold F.dial
  generalize (F.init i 1 0).send sK t = y at *
  obtain ⟨s1, s2, s3, s4, s5, s6⟩ := S
  exact ⟨⟨s5, s1, s3, s2, s4, hi, by omega⟩, s6⟩
theorem answer_qo (i q : Nat) (hi : i < 4294967296) (t : Int) : Qo (F.answer i q t) 2 i (on q 1) sK ∧ (F.answer i q t).os = [⟨sK.at i, on q 1, true, false⟩] := by
  have S := send_same (F.init i 2 (on q 1)) sK t
  unfold F.answer
  generalize (F.init i 2 (on q 1)).send sK t = y at *
  obtain ⟨s1, s2, s3, s4, s5, s6⟩ := S
  exact ⟨⟨s5, s1, s3, s2, s4, hi, on_lt _ _⟩, s6⟩
theorem sK_small : 0 < sK.len ∧ sK.len ≤ 1000 := by decide
/-- Who dialed hears the answer. -/
theorem hear_first {x : F} {en rc q : Nat} (h : Qo x 1 en rc sK) (t : Int) :
    ∃ X, x.hearO ⟨sK.at q, on en 1, true, false⟩ t = X ∧ Qf X.quiet 3 (on en 1) (on q 1) ∧ X.os = x.os ++ [⟨tK (on en 1), on q 1, true, false⟩] ∧ X.dw = 0 ∧ x.heardO ⟨sK.at q, on en 1, true, false⟩ t = false := by
  have h2 : Qo (x.rcvd (on q 1)) 1 en (on q 1) sK := ⟨h.st, h.ks, h.b, h.e_, rfl, h.lt, on_lt _ _⟩
  obtain ⟨_, y, e, y1, y2, y3, y4, y5, y6, y7⟩ := acked_one h2 sK_small.1 sK_small.2 t
  rw [sK1] at e y3 y4
  have e1 : x.hearO ⟨sK.at q, on en 1, true, false⟩ t = (y.at_ 3).tell (tK x.en) := by
    unfold F.hearO F.hear
    dsimp only
    rw [if_neg (by have := h.st; omega), if_pos h.st]
    unfold F.hans
    rw [if_pos ⟨rfl, rfl, by rw [h.e_, sK1]⟩, ← e]
    rfl
  refine ⟨_, e1, ⟨rfl, y2, y3, y4, y5, rfl, on_lt _ _, on_lt _ _⟩, ?_, y7, ?_⟩
  · show y.os ++ [(⟨tK x.en, y.rcv, true, false⟩ : Ou)] = _
    rw [y5, y6, h.e_, sK1]
    rfl
  · unfold F.heardO F.heard
    rw [if_neg (by have := h.st; omega), if_pos h.st]
/-- Who answered hears what answers that. -/
theorem hear_second {x : F} {en rc : Nat} (h : Qo x 2 en rc sK) (t : Int) :
    ∃ X, x.hearO ⟨tK rc, on en 1, true, false⟩ t = X ∧ Qf X.quiet 3 (on en 1) rc ∧ X.os = x.os ∧ X.dw = 0 := by
  obtain ⟨hg, y, e, y1, y2, y3, y4, y5, y6, y7⟩ := acked_one h sK_small.1 sK_small.2 t
  rw [sK1] at hg e y3 y4
  have hk1 : x.hacks (on en 1) true t = y.at_ 3 := by
    unfold F.hacks F.hack
    rw [if_pos rfl, e, hg]
    show y.hk1 (sK.at en) t = _
    unfold F.hk1
    rw [if_pos ⟨rfl, y1⟩]
  have e1 : x.hearO ⟨tK rc, on en 1, true, false⟩ t = (y.at_ 3).hdata rc 0 false t := by
    unfold F.hearO F.hear
    dsimp only
    rw [if_neg (by have := h.st; omega), if_neg (by have := h.st; omega), if_neg (show ¬ (tK rc).syn = true from (by show ¬ false = true; decide)), hk1, if_pos (by show 3 ≤ 3 ∧ 3 ≤ 9; omega)]
    rfl
  have e2 : (y.at_ 3).hdata rc 0 false t = (y.at_ 3).rcvd (on rc 0) := by
    unfold F.hdata
    rw [if_neg]
    · unfold F.takes
      rw [if_pos ⟨y5.symm, .inl rfl⟩, if_neg (by decide)]
      show F.rcvd _ (on y.rcv ((0 : Nat) : Int)) = _
      rw [y5]
      rfl
    · rintro (h9 | h9)
      · omega
      · rw [show (y.at_ 3).rcv = rc from y5, bf_self rc h.rl] at h9
        cases h9
  exact ⟨_, e1.trans e2, ⟨rfl, y2, y3, y4, on_zero h.rl, rfl, on_lt _ _, h.rl⟩, y6, y7⟩
theorem St.first (i : Nat) (hi : i < 4294967296) : St (P.init i).all 3 3 := by
  obtain ⟨d1, d2⟩ := dial_qo i hi ((0 : Nat) : Int)
  obtain ⟨a1, a2⟩ := answer_qo 9000 i (by decide) ((0 : Nat) : Int)
  obtain ⟨z, hz⟩ : ∃ z, z = F.dial i ((0 : Nat) : Int) := ⟨_, rfl⟩
  obtain ⟨y, hy⟩ : ∃ y, y = F.answer 9000 i ((0 : Nat) : Int) := ⟨_, rfl⟩
  rw [← hz] at d1 d2
  rw [← hy] at a1 a2
  have hzq : Qo z.quiet 1 i 0 sK := ⟨d1.st, d1.ks, d1.b, d1.e_, d1.rcv, d1.lt, d1.rl⟩
  have hyq : Qo y.quiet 2 9000 (on i 1) sK := ⟨a1.st, a1.ks, a1.b, a1.e_, a1.rcv, a1.lt, a1.rl⟩
  have e0 : (P.init i).flush = ⟨z.quiet, none, [⟨1, ⟨sK.at i, 0, false, false⟩⟩], [], [], [], [], 0⟩ := by
    show P.mk (F.dial i ((0 : Nat) : Int)).quiet none (addw 0 (addw 1 [] (F.dial i ((0 : Nat) : Int)).os) []) [] [] [] [] 0 = _
    rw [← hz, d2, addw_none, addw_all (by simp)]
    rfl
  have e1 : P.step ⟨z.quiet, none, [⟨1, ⟨sK.at i, 0, false, false⟩⟩], [], [], [], [], 0⟩ 0 0 = ⟨z.quiet, some y.quiet, [⟨0, ⟨sK.at 9000, on i 1, true, false⟩⟩], [], [], [], [], 0⟩ := by
    unfold P.step
    rw [flush_id (p := ⟨z.quiet, none, [⟨1, ⟨sK.at i, 0, false, false⟩⟩], [], [], [], [], 0⟩) rfl (fun f e => by cases e), act_head rfl]
    have hc : P.comes ⟨z.quiet, none, [], [], [], [], [], 0⟩ ⟨1, ⟨sK.at i, 0, false, false⟩⟩ = ⟨z.quiet, some y, [], [], [], [], [], 0⟩ := by
      unfold P.comes
      rw [if_pos rfl]
      show (if (sK.at i).syn = true ∧ false = false ∧ false = false then (P.mk z.quiet (some (F.answer 9000 (sK.at i).seq ((0 : Nat) : Int))) [] [] [] [] [] 0) else _) = _
      rw [if_pos ⟨rfl, rfl, rfl⟩, hy]
      rfl
    show P.flush (P.comes ⟨z.quiet, none, [], [], [], [], [], 0⟩ ⟨1, ⟨sK.at i, 0, false, false⟩⟩) = _
    rw [hc]
    show P.mk z.quiet.quiet (some y.quiet) (addw 0 (addw 1 [] []) y.os) [] [] [] [] 0 = _
    rw [a2, addw_none, addw_all (by simp)]
    rfl
  obtain ⟨X, x1, x2, x3, x4, x5⟩ := hear_first (q := 9000) hzq ((0 : Nat) : Int)
  obtain ⟨Y, z1, z2, z3, z4⟩ := hear_second hyq ((0 : Nat) : Int)
  have e2 : P.step ⟨z.quiet, some y.quiet, [⟨0, ⟨sK.at 9000, on i 1, true, false⟩⟩], [], [], [], [], 0⟩ 0 0 = ⟨X.quiet, some y.quiet, [⟨1, ⟨tK (on i 1), on 9000 1, true, false⟩⟩], [], [], [], [], 0⟩ := by
    rw [step0_0 z.quiet y.quiet ⟨sK.at 9000, on i 1, true, false⟩ [] [] [] [] 0 rfl rfl [⟨tK (on i 1), on 9000 1, true, false⟩] (by rw [x1, x3]; rfl) (by show 1 ≤ 60; omega), x1, x5]
    rfl
  have e3 : P.step ⟨X.quiet, some y.quiet, [⟨1, ⟨tK (on i 1), on 9000 1, true, false⟩⟩], [], [], [], [], 0⟩ 0 0 = ⟨X.quiet, some Y.quiet, [], [], [], [], [], 0⟩ := by
    rw [step0_1 X.quiet y.quiet ⟨tK (on i 1), on 9000 1, true, false⟩ [] [] [] [] 0 rfl rfl [] (by rw [z1, z3]; rfl) (by show 0 ≤ 60; omega), z1]
    show P.mk X.quiet (some Y.quiet) [] [] [] [] ([] ++ (if _ = true then (tK 0).ds else [])) 0 = _
    rw [nil_either]
  unfold P.all
  rw [e0, settle_cons 299 _ (List.cons_ne_nil _ _), e1, settle_cons 298 _ (List.cons_ne_nil _ _), e2, settle_cons 297 _ (List.cons_ne_nil _ _), e3, settle_nil _ _ rfl]
  exact ⟨X.quiet, Y.quiet, _, _, [], [], rfl, x2, z2, x4, z4⟩
/-- The pieces that the law sends. -/
def P.sends (p : P) (k : Int) (l : List UInt8) : P := l.foldl (fun p b => (p.step k ((b.toNat : Int) % 8 + 1)).all) p
theorem sends_snoc (p : P) (k : Int) (l : List UInt8) (b : UInt8) : p.sends k (l ++ [b]) = ((p.sends k l).step k ((b.toNat : Int) % 8 + 1)).all := by unfold P.sends; rw [List.foldl_append]; rfl
theorem St.sends {p : P} (h : St p 3 3) (k : Int) (hk : k = 3 ∨ k = 4) (l : List UInt8) : St (p.sends k l) 3 3 := by
  induction l generalizing p with
  | nil => exact h
  | cons b l ih =>
    rcases hk with rfl | rfl
    · exact ih (h.send0 _ (by omega))
    · exact ih (h.send1 _ (by omega))
end Go.Proofs.Ytnpkmkjenlhkiaa

namespace Go.Proofs.Ytnpkmkjenlhkiaa
set_option linter.unusedVariables false
set_option linter.unusedSimpArgs false
set_option maxRecDepth 20000

def FinLast (h : List Ky) : Prop := ∀ j k, h[j]? = some k → k.fin = true → j + 1 = h.length
/-- Is there a Fin? -/
def fn (h : List Ky) : Nat := if h.any Ky.fin = true then 1 else 0
theorem fn_le (h : List Ky) : fn h ≤ 1 := by unfold fn; split <;> omega
theorem fn_yes {h : List Ky} {k : Ky} (hk : k ∈ h) (hf : k.fin = true) : fn h = 1 := if_pos (List.any_eq_true.2 ⟨k, hk, hf⟩)
theorem fn_no {h : List Ky} (hf : fn h = 0) {k : Ky} (hk : k ∈ h) : k.fin = false := by
  cases e : k.fin with
  | false => rfl
  | true => rw [fn_yes hk e] at hf; cases hf
theorem fn_last {h : List Ky} (hl : FinLast h) (hf : fn h = 1) : ∃ k, h[h.length - 1]? = some k ∧ k.fin = true ∧ 0 < h.length := by
  unfold fn at hf
  have h1 : h.any Ky.fin = true := by
    by_cases e : h.any Ky.fin = true
    · exact e
    · rw [if_neg e] at hf; cases hf
  obtain ⟨k, hk, hkf⟩ := List.any_eq_true.1 h1
  obtain ⟨j, hj⟩ := List.getElem?_of_mem hk
  have := hl j k hj hkf
  refine ⟨k, ?_, hkf, by omega⟩
  rw [← this]
  exact hj
/-- The numbers of a side: its state, its acknowledged pieces, those that came, how many there are, whether with a Fin, how often it tried, its wait. -/
def Ar (op st a m lh lh' f f' tr : Nat) (dw : Int) : Prop :=
  (1 ≤ st ∧ st ≤ 11) ∧ (st ≤ 2 → st = op) ∧ (st ≠ 11 → (st = op ↔ a = 0)) ∧ (st ≤ 2 → lh = 1) ∧ (st = 2 → m = 1) ∧ ((st ≤ 3 ∨ st = 6) → f = 0) ∧ ((st = 4 ∨ st = 5 ∨ (7 ≤ st ∧ st ≤ 10)) → f = 1) ∧ ((st = 5 ∨ st = 9 ∨ st = 10) → a = lh) ∧ ((6 ≤ st ∧ st ≤ 10) → m = lh' ∧ f' = 1)
  ∧ (st ≠ 11 → a < lh → 0 < dw) ∧ (0 < dw → a < lh ∨ st = 9) ∧ (10 ≤ st → dw = 0) ∧ (st ≠ 11 → tr ≤ 4) ∧ (op = 1 ∨ op = 2)
structure Sd (op : Nat) (x : F) (i : Nat) (h : List Ky) (i' : Nat) (h' : List Ky) (m a mo : Nat) : Prop where
  S : Side x i h i' h' m
  al : a ≤ h.length
  ks : x.ks = h.drop a
  b : x.b = on i (tot (h.take a) : Int)
  am : a ≤ mo
  mo : mo ≤ h.length
  fl : FinLast h
  E : x.E.Ok
  ar : Ar op x.st a m h.length h'.length (fn h) (fn h') x.tries x.dw

theorem cnt_take : ∀ (l : List Ky) (c : Nat), (∀ k ∈ l, 0 < k.len) → c ≤ l.length → cnt l (tot (l.take c)) = c
  | [], c, _, hc => by
    have : c = 0 := by simpa using hc
    subst this
    rfl
  | k :: l, 0, hp, _ => by
    have := hp k List.mem_cons_self
    show (if k.len ≤ 0 then cnt l (0 - k.len) + 1 else 0) = 0
    rw [if_neg (by omega)]
  | k :: l, c + 1, hp, hc => by
    have ih := cnt_take l c (fun x hx => hp x (List.mem_cons_of_mem _ hx)) (by simpa using hc)
    show (if k.len ≤ k.len + tot (l.take c) then cnt l (k.len + tot (l.take c) - k.len) + 1 else 0) = c + 1
    rw [if_pos (by omega), show k.len + tot (l.take c) - k.len = tot (l.take c) from by omega, ih]
theorem st_on_on {i A R : Nat} (hA : A ≤ 2147483648) (hR : R ≤ 2147483648) : (A ≤ R → Go.Proofs.Ytnpkmkjenlhkiaa.st (on i (A : Int)) (on i (R : Int)) = R - A) ∧ (R < A → Go.Proofs.Ytnpkmkjenlhkiaa.st (on i (A : Int)) (on i (R : Int)) = 4294967296 - (A - R)) := by
  unfold Go.Proofs.Ytnpkmkjenlhkiaa.st on
  constructor <;> intro h <;> omega
theorem take_split (h : List Ky) {a r : Nat} (hr : a ≤ r) : h.take r = h.take a ++ (h.drop a).take (r - a) := by
  have e : r = a + (r - a) := by omega
  rw [← List.take_add, ← e]
section
variable {op i i' m a mo : Nat} {h h' : List Ky} {x : F}
/-- What an acknowledgement lets go. -/
theorem Sd.gone (D : Sd op x i h i' h' m a mo) {r : Nat} (hr : r ≤ h.length) : x.gone (on i (tot (h.take r) : Int)) = (h.drop a).take (r - a) := by
  have hs := D.S.his.small
  have h1 := tot_take_le h r
  have h2 := tot_take_le h a
  have h3 := st_on_on (i := i) (A := tot (h.take a)) (R := tot (h.take r)) (by omega) (by omega)
  have hp : ∀ k ∈ h.drop a, 0 < k.len := fun k hk => (D.S.his.pos k (List.mem_of_mem_drop hk)).1
  unfold F.gone
  rw [D.b, D.ks]
  by_cases hra : a ≤ r
  · have e := take_split h hra
    have e2 : tot (h.take r) = tot (h.take a) + tot ((h.drop a).take (r - a)) := by rw [e, tot_append]
    rw [h3.1 (by omega), show tot (h.take r) - tot (h.take a) = tot ((h.drop a).take (r - a)) from by omega, if_pos (tot_take_le _ _), cnt_take _ _ hp (by rw [List.length_drop]; omega)]
  · have e := take_split h (show r ≤ a by omega)
    have e2 : tot (h.take a) = tot (h.take r) + tot ((h.drop r).take (a - r)) := by rw [e, tot_append]
    have e3 : tot h = tot (h.take a) + tot (h.drop a) := by rw [← tot_append, List.take_append_drop]
    have e4 := tot_take_lt (fun k hk => (D.S.his.pos k hk).1) (show r < a by omega) (by have := D.al; omega)
    rw [h3.2 (by omega), if_neg (by omega), show r - a = 0 from by omega, List.take_zero]
/-- Behind an acknowledgement of some. -/
theorem ackd_sum (x : F) (k : Nat) (t : Int) (hE : x.E.Ok) : (x.ackd k t).E.Ok ∧ (x.ks.drop k = [] → (x.ackd k t).dw = 0) ∧ (x.ks.drop k ≠ [] → 0 < (x.ackd k t).dw) := by
  unfold F.ackd
  have hz : ∀ z : F, z.E.Ok → z.ks = x.ks.drop k → (z.fresh_.redue t).E.Ok ∧ (x.ks.drop k = [] → (z.fresh_.redue t).dw = 0) ∧ (x.ks.drop k ≠ [] → 0 < (z.fresh_.redue t).dw) := fun z hz hk => by
    have hf : z.fresh_.E.Ok := Ok_fresh hz
    unfold F.redue
    by_cases e : z.fresh_.ks = []
    · rw [if_pos e]
      exact ⟨hf, fun _ => rfl, fun h => absurd (hk ▸ e) h⟩
    · rw [if_neg e]
      refine ⟨hf, fun h => absurd (hk.trans h) e, fun _ => ?_⟩
      have := wt_bd hf
      show 0 < z.fresh_.E.wt
      omega
  apply hz
  · split
    · exact Ok_smp hE _
    · exact hE
  · split <;> rfl
theorem hks_plain (t : Int) : ∀ (g : List Ky) (y : F), (∀ k ∈ g, k.syn = false ∧ k.fin = false) → y.hks g t = y
  | [], y, _ => rfl
  | k :: g, y, hg => by
    have h1 := hg k List.mem_cons_self
    show (y.hk1 k t).hks g t = y
    have : y.hk1 k t = y := by
      unfold F.hk1
      rw [h1.1, h1.2, if_neg (by rintro ⟨h, _⟩; cases h), if_neg (by decide)]
    rw [this]
    exact hks_plain t g y (fun x hx => hg x (List.mem_cons_of_mem _ hx))
theorem hks_append (y : F) (g g2 : List Ky) (t : Int) : y.hks (g ++ g2) t = (y.hks g t).hks g2 t := by unfold F.hks; rw [List.foldl_append]
theorem fina_sum (y : F) (t : Int) : (y.fina t).tries = y.tries ∧ (y.fina t).E = y.E := by
  unfold F.fina
  split
  · exact ⟨rfl, rfl⟩
  · split
    · exact ⟨rfl, rfl⟩
    · split <;> exact ⟨rfl, rfl⟩
theorem drop_ne {h : List Ky} {r : Nat} : h.drop r ≠ [] ↔ r < h.length := by
  rw [Ne, List.drop_eq_nil_iff]
  omega
/-- Acknowledgements. -/
theorem Sd.hacks (D : Sd op x i h i' h' m a mo) (hl : x.st ≠ 1) (h10 : x.st < 10) (ak : Nat) (kk : Bool) (t : Int) (r : Nat) (hk : kk = true → r ≤ mo ∧ ak = on i (tot (h.take r) : Int)) :
    ∃ a', Sd op (x.hacks ak kk t) i h i' h' m a' mo ∧ a ≤ a' ∧ (kk = true → r ≤ a') ∧ (x.hacks ak kk t).os = x.os ∧ (x.hacks ak kk t).rcv = x.rcv ∧ (x.hacks ak kk t).en = x.en ∧ (x.hacks ak kk t).st ≠ 1 ∧ (x.hacks ak kk t).st ≠ 11 := by
  have hmo := D.mo
  have hsame : x.acked ak t = x → x.gone ak = [] → x.hacks ak kk t = x := fun h1 h2 => by
    unfold F.hacks F.hack
    rw [h1, h2]
    split <;> rfl
  by_cases hkk : kk = true
  case neg =>
    have e : x.hacks ak kk t = x := if_neg hkk
    rw [e]
    exact ⟨a, D, Nat.le_refl _, fun e => absurd e hkk, rfl, rfl, rfl, hl, by omega⟩
  obtain ⟨hrm, hak⟩ := hk hkk
  have hg := D.gone (show r ≤ h.length by omega)
  rw [← hak] at hg
  by_cases hra : r ≤ a
  · have h0 : x.gone ak = [] := by rw [hg, show r - a = 0 from by omega, List.take_zero]
    rw [hsame (if_pos h0) h0]
    exact ⟨a, D, Nat.le_refl _, fun _ => hra, rfl, rfl, rfl, hl, by omega⟩
  -- some go
  have hgl : (x.gone ak).length = r - a := by rw [hg, List.length_take, List.length_drop]; omega
  have hne : x.gone ak ≠ [] := fun e => by rw [e] at hgl; simp at hgl; omega
  have ha : x.acked ak t = x.ackd (r - a) t := by
    rcases acked_ x ak t with ⟨e, _⟩ | ⟨_, e⟩
    · exact absurd e hne
    · rw [e, hgl]
  have A := ackd_same x (r - a) t
  have A1 := ackd_sum x (r - a) t D.E
  have A2 := ackd_en x (r - a) t
  have A3 := ackd_os x (r - a) t
  have hz : x.hacks ak kk t = (x.ackd (r - a) t).hks (x.gone ak) t := by
    unfold F.hacks F.hack
    rw [if_pos hkk, ha]
  obtain ⟨y, hy⟩ : ∃ y, y = x.ackd (r - a) t := ⟨_, rfl⟩
  rw [← hy] at A A1 A2 A3 hz
  have hks : y.ks = h.drop r := by rw [A.1, D.ks, List.drop_drop, show a + (r - a) = r from by omega]
  have hdr : x.ks.drop (r - a) = h.drop r := by rw [← A.1, hks]
  have hb : y.b = on i (tot (h.take r) : Int) := by
    rw [A.2.1, D.b, D.ks, on_on, ← tot_append, ← take_split h (show a ≤ r by omega)]
  have hdw : (r < h.length → 0 < y.dw) ∧ (¬ r < h.length → y.dw = 0) := by
    rw [hdr] at A1
    exact ⟨fun e => A1.2.2 (drop_ne.2 e), fun e => A1.2.1 (List.drop_eq_nil_iff.2 (by omega))⟩
  have har := D.ar
  have hsyn : ∀ k ∈ x.gone ak, 1 ≤ a → k.syn = false := fun k hk h1 => by
    rw [hg] at hk
    obtain ⟨j, hj⟩ := List.getElem?_of_mem (List.mem_of_mem_take hk)
    rw [List.getElem?_drop] at hj
    exact D.S.his.pos1 hj (by omega)
  -- what the side is behind it
  have mk : ∀ z : F, z.en = x.en → z.os = x.os → z.rcv = x.rcv → z.ks = y.ks → z.b = y.b → z.E = y.E → z.st ≠ 1 → z.st ≠ 11 → Ar op z.st r m h.length h'.length (fn h) (fn h') z.tries z.dw → Sd op z i h i' h' m r mo := fun z e1 e2 e3 e4 e5 e6 e7 e8 e9 =>
    ⟨⟨by rw [e1]; exact D.S.his, ⟨r, by omega, e4.trans hks, e5.trans hb⟩, D.S.mle, fun _ _ => by
      rw [e3]
      exact D.S.rc hl (by omega), fun e => absurd e e7, by rw [e2]; exact D.S.os⟩, by omega, e4.trans hks, e5.trans hb, hrm, hmo, D.fl, by rw [e6]; exact A1.1, e9⟩
  have yst : y.st = x.st := A.2.2.1
  have ytr : y.tries = 0 := A.2.2.2.2
  have yrc : y.rcv = x.rcv := A.2.2.2.1
  have fle := fn_le h
  by_cases ha0 : a = 0
  · -- the Syn
    unfold Ar at har
    have hx2 : x.st = 2 := by omega
    have hlh : h.length = 1 := by omega
    have hr1 : r = 1 := by omega
    obtain ⟨k, hk⟩ : ∃ k, h = [k] := List.length_eq_one_iff.1 hlh
    have hks1 := D.S.his.syn k [] hk
    have hgk : x.gone ak = [k] := by rw [hg, hk, ha0, hr1]; rfl
    have e : x.hacks ak kk t = y.at_ 3 := by
      rw [hz, hgk]
      show y.hk1 k t = _
      unfold F.hk1
      rw [if_pos ⟨hks1.1, by omega⟩]
    rw [e]
    refine ⟨r, mk _ A2 A3 yrc rfl rfl rfl (by show 3 ≠ 1; omega) (by show 3 ≠ 11; omega) ?_, by omega, fun _ => Nat.le_refl _, A3, yrc, A2, by show 3 ≠ 1; omega, by show 3 ≠ 11; omega⟩
    show Ar op 3 r m h.length h'.length (fn h) (fn h') y.tries y.dw
    unfold Ar
    omega
  · by_cases hfin : fn h = 1 ∧ r = h.length
    · -- a Fin
      obtain ⟨kf, hkf, hkff, _⟩ := fn_last D.fl hfin.1
      have hgs : ∃ g, x.gone ak = g ++ [kf] ∧ ∀ k ∈ g, k.syn = false ∧ k.fin = false := by
        have e1 : x.gone ak = h.drop a := by rw [hg, List.take_of_length_le (by rw [List.length_drop]; omega)]
        have e2 : h.drop a = (h.drop a).take (h.length - 1 - a) ++ [kf] := by
          have hlt : h.length - 1 - a < (h.drop a).length := by rw [List.length_drop]; omega
          have e3 : (h.drop a)[h.length - 1 - a]? = some kf := by rw [List.getElem?_drop, show a + (h.length - 1 - a) = h.length - 1 from by omega]; exact hkf
          have e4 := List.take_succ_eq_append_getElem hlt
          rw [(List.getElem?_eq_some_iff.1 e3).2] at e4
          rw [← e4, List.take_of_length_le (by rw [List.length_drop]; omega)]
        refine ⟨_, e1.trans e2, fun k hk => ?_⟩
        have hin : k ∈ x.gone ak := by rw [e1, e2]; exact List.mem_append_left _ hk
        refine ⟨hsyn k hin (by omega), ?_⟩
        cases hkf2 : k.fin with
        | false => rfl
        | true =>
          obtain ⟨j, hj⟩ := List.getElem?_of_mem hk
          have hj1 := (List.getElem?_eq_some_iff.1 hj).1
          rw [List.length_take, List.length_drop] at hj1
          rw [List.getElem?_take, if_pos (by omega), List.getElem?_drop] at hj
          have := D.fl _ _ hj hkf2
          omega
      obtain ⟨g, hg1, hg2⟩ := hgs
      have hks1 : kf.syn = false := hsyn kf (by rw [hg1]; simp) (by omega)
      have e : x.hacks ak kk t = y.fina t := by
        rw [hz, hg1, hks_append, hks_plain t g y hg2]
        show y.hk1 kf t = _
        unfold F.hk1
        rw [hks1, if_neg (by rintro ⟨h, _⟩; cases h), if_pos hkff]
      have Sf := fina_same y t
      have S2 := fina_S y t
      have S3 := fina_sum y t
      rw [e]
      generalize y.fina t = z at *
      unfold ackS at S2
      have hst2 : x.st = 4 ∨ x.st = 7 ∨ x.st = 8 := by unfold Ar at har; omega
      have hz1 : z.st ≠ 1 ∧ z.st ≠ 11 := by
        rw [S2.1, yst]
        rcases hst2 with e | e | e <;> rw [e] <;> decide
      refine ⟨r, mk z (Sf.2.2.1.trans A2) (Sf.2.2.2.1.trans A3) (Sf.2.2.2.2.trans yrc) Sf.2.1 Sf.1 S3.2 hz1.1 hz1.2 ?_, by omega, fun _ => Nat.le_refl _, Sf.2.2.2.1.trans A3, Sf.2.2.2.2.trans yrc, Sf.2.2.1.trans A2, hz1.1, hz1.2⟩
      rw [S2.1, S2.2, S3.1, ytr, yst]
      have hd0 := hdw.2 (by omega)
      unfold Ar at har ⊢
      rcases hst2 with e | e | e
      · rw [e] at har ⊢
        rw [show (if (4 : Nat) = 4 then 5 else if 4 = 7 then 9 else if 4 = 8 then 10 else 4) = 5 from rfl, show (if (4 : Nat) = 7 then (8 : Int) else if 4 = 8 then 0 else y.dw) = y.dw from rfl]
        omega
      · rw [e] at har ⊢
        rw [show (if (7 : Nat) = 4 then 5 else if 7 = 7 then 9 else if 7 = 8 then 10 else 7) = 9 from rfl, show (if (7 : Nat) = 7 then (8 : Int) else if 7 = 8 then 0 else y.dw) = 8 from rfl]
        omega
      · rw [e] at har ⊢
        rw [show (if (8 : Nat) = 4 then 5 else if 8 = 7 then 9 else if 8 = 8 then 10 else 8) = 10 from rfl, show (if (8 : Nat) = 7 then (8 : Int) else if 8 = 8 then 0 else y.dw) = 0 from rfl]
        omega
    · -- neither
      have hpl : ∀ k ∈ x.gone ak, k.syn = false ∧ k.fin = false := fun k hk => by
        refine ⟨hsyn k hk (by omega), ?_⟩
        cases hkf2 : k.fin with
        | false => rfl
        | true =>
          rw [hg] at hk
          have hin : k ∈ h := List.mem_of_mem_drop (List.mem_of_mem_take hk)
          obtain ⟨j, hj⟩ := List.getElem?_of_mem hk
          have hj1 := (List.getElem?_eq_some_iff.1 hj).1
          rw [List.length_take, List.length_drop] at hj1
          rw [List.getElem?_take, if_pos (by omega), List.getElem?_drop] at hj
          have := D.fl _ _ hj hkf2
          exact absurd ⟨fn_yes hin hkf2, by omega⟩ hfin
      have e : x.hacks ak kk t = y := by rw [hz, hks_plain t _ y hpl]
      rw [e]
      refine ⟨r, mk y A2 A3 yrc rfl rfl rfl (by omega) (by omega) ?_, by omega, fun _ => Nat.le_refl _, A3, yrc, A2, by omega, by omega⟩
      rw [yst, ytr]
      have hd1 := hdw.1
      have hd2 := hdw.2
      unfold Ar at har ⊢
      omega
end
end Go.Proofs.Ytnpkmkjenlhkiaa

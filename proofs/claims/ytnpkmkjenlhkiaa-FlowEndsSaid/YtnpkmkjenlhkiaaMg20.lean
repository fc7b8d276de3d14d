/- append of bytes onto a slice that the call owns, as a step of a region that draws its order. Condition: what comes out is at most 2^40 bytes long.
The law's pair: the second flow born; bytes onto one of its rows. No condition.
The law's comes. Conditions: the pair stands, its numbers within their bounds; the packet does not reset. -/
import Derived.Test.YtnpkmkjenlhkiaaMg1
import Derived.Deep.RegionLaw
import Derived.Deep.AppendLies
import Derived.Test.YtnpkmkjenlhkiaaMg19
namespace Go.Proofs.Ytnpkmkjenlhkiaa
set_option linter.unusedVariables false
set_option linter.unusedSimpArgs false
open Go.RowKit

theorem step_app {P : Program} (w : World) {ops : Array Oper} {o : Oper} {a : Act} {K : Act → World → Prop} {Q : Exit → Act → World → Prop} {E : Prop} (hgd : o.guard = none) (s x : Operand) (t e : TypeId)
    (ho : o.op = .call { callee := .builtin .append, args := #[s, x], argTypes := #[t, t] })
    (ht : P.underlying t = some (.slice e)) (hi : (P.info? e).map (fun i => (i.zero, i.size, i.bytes)) = some (some (.int .u8 0), 1, 1))
    (base : Nat) (v : Value) (n : Nat) (l : List UInt8) (hs : a.eval s = v) (hown : w.ownsRow base e 1 v n (bv l))
    (A : Option Addr) (m c : Nat) (r : List UInt8) (hx : a.eval x = .slice A m c) (hr : RB w A m c r) (h40 : n + m ≤ 1099511627776) (hb : base ≤ w.heap.size)
    (h : ∀ v' w', w'.ownsRow base e 1 v' (n + m) (bv (l ++ r)) → w.grownBy w' v.ownBlock → (v'.ownBlock = v.ownBlock ∨ v'.ownBlock = some w.heap.size) → K (a.put o.dst v') w') :
    if Region.wanted o (yielded ops a.tmps) = true then Oper.wp P o a w K Q else E := by
  have hw : Region.wanted o (yielded ops a.tmps) = true := by simp [Region.wanted, hgd]
  rw [if_pos hw]
  obtain ⟨v', w', hrun, h1, h2, h3⟩ := app_run (P := P) w t o.type e ht hi base v n l hown A m c r hr h40 hb
  exact Lib.wp_append_run w s x t t ho _ _ hs hx v' w' hrun (h v' w' h1 h2 h3)
end Go.Proofs.Ytnpkmkjenlhkiaa

namespace Go.Proofs.Ytnpkmkjenlhkiaa
set_option linter.unusedVariables false
set_option linter.unusedSimpArgs false
set_option maxRecDepth 20000
open Go.RowKit Go.Lib

section
variable {GB : Option Nat} {base : Nat} {w w' w1 : World} {pb : Nat} {p : P} {m : Ms} {lab : Nat → Nat}
/-- The second flow is there. -/
theorem PR.born (h : PR GB base w pb p m lab) (hf : p.f1 = none) {s : Sh} {x : F} (hx : Fl w.heap.size w1 s x) (b : Below w.heap.size w w1) :
    ∃ lab', PR GB base (w1.setCell ⟨pb, 1, none⟩ (ptr s.fb)) pb { p with f1 := some x } { m with b := some s } lab' ∧ Below base w (w1.setCell ⟨pb, 1, none⟩ (ptr s.fb)) := by
  let lab' : Nat → Nat := fun j => if j < w.heap.size then lab j else 2
  have hold : ∀ j, j < w.heap.size → lab' j = lab j := fun j hj => if_pos hj
  have hnew : ∀ j, w.heap.size ≤ j → lab' j = 2 := fun j hj => if_neg (by omega)
  have c2 : Ch w1 (w1.setCell ⟨pb, 1, none⟩ (ptr s.fb)) (fun j => j = pb) := ch_set w1 pb 1 (ptr s.fb)
  have c : Ch w (w1.setCell ⟨pb, 1, none⟩ (ptr s.fb)) (fun j => j = pb) := (Ch.of_below (fun _ => False) b).trans c2 (fun _ _ e => e.elim) (fun _ _ e => e)
  have hfr : ∀ {d : Nat}, d ≠ 3 → ∀ j, lab j = d → ¬ j = pb := fun h3 j e hj => h3 (e.symm.trans ((congrArg lab hj).trans h.lp))
  have bl : ∀ {v : Value} {l : List UInt8} {d : Nat}, d ≠ 3 → Bl base w lab v l d → Bl base (w1.setCell ⟨pb, 1, none⟩ (ptr s.fb)) lab' v l d := fun h3 b =>
    ⟨own_ch2 b.row c (fun j hj => hfr h3 j (b.lab j hj)), fun j hj => (hold j (own_in b.row hj).2).trans (b.lab j hj)⟩
  have hpb : w1.heap[pb]? = some (.cells (m.cs p.t) 33 (0, 0)) := (b.block pb h.lt).trans h.obj
  have hlo : base ≤ w.heap.size := by have := h.lo; have := h.lt; omega
  refine ⟨lab', ⟨?_, h.lo, h.fa.frame c (fun j hj => hfr (by decide) j (h.la j hj)), fun f hf2 => ?_, (fun e => by cases e), own_ch2 h.way c (fun j hj => hfr (by decide) j (h.lw j hj)), h.key, fun k hk => ⟨(h.og k hk).1.ch c (fun j hj => hfr (by decide) j (h.ld k hk j hj)), (h.og k hk).2⟩, bl (by decide) h.s0, bl (by decide) h.s1, bl (by decide) h.c0, bl (by decide) h.c1,
    fun j hj => (hold j (h.fa.in_ hj).2).trans (h.la j hj), fun s2 hs2 j hj => ?_, (hold pb h.lt).trans h.lp, fun j hj => (hold j (own_in h.way hj).2).trans (h.lw j hj), fun k hk j hj => (hold j ((h.og k hk).1.lt hj).2).trans (h.ld k hk j hj), fun g hg => ⟨(c.block g (h.bx_lt hg) (hfr (by decide) g (h.bx g hg).2)).trans (h.bx g hg).1, (hold g (h.bx_lt hg)).trans (h.bx g hg).2⟩⟩, c.belowB hlo (fun j e => by subst e; exact h.lo)⟩
  · simp [World.setCell, Array.getElem?_modify, hpb, Ms.cs, f1v]
  · have hf2 : some x = some f := hf2
    injection hf2 with hf2
    subst hf2
    exact ⟨s, rfl, (hx.mono hlo).frame c2 (fun j hj e => by have := (hx.in_ hj).1; have := h.lt; omega)⟩
  · have hs2 : some s = some s2 := hs2
    injection hs2 with hs2
    subst hs2
    exact hnew j (hx.in_ hj).1
/-- Bytes more, slot 3. -/
theorem PR.put3 (h : PR GB base w pb p m lab) (ds : List UInt8) {v' : Value} {n : Nat} (hn : n = (p.s0 ++ ds).length)
    (r : w'.ownsRow base 5 1 v' n (bv (p.s0 ++ ds))) (g : w.grownBy w' m.sv0.ownBlock) (o : v'.ownBlock = m.sv0.ownBlock ∨ v'.ownBlock = some w.heap.size) :
    (∃ lab', PR GB base (w'.setCell ⟨pb, 3, none⟩ v') pb { p with s0 := p.s0 ++ ds } { m with sv0 := v' } lab') ∧ Below base w (w'.setCell ⟨pb, 3, none⟩ v') := by
  subst hn
  let lab' : Nat → Nat := fun j => if j < w.heap.size then lab j else 5
  have hold : ∀ j, j < w.heap.size → lab' j = lab j := fun j hj => if_pos hj
  have hM : ∀ j, (j = pb ∨ m.sv0.ownBlock = some j) → lab j = 3 ∨ lab j = 5 := fun j hj => by
    rcases hj with rfl | hj
    · exact .inl h.lp
    · exact .inr (h.s0.lab j hj)
  have hne : v'.ownBlock ≠ some pb := fun e => by
    rcases o with o | o
    · have := h.s0.lab pb (o ▸ e)
      have := h.lp
      omega
    · rw [o] at e
      injection e with e
      have := h.lt
      omega
  have c1 : Ch w w' (fun j => m.sv0.ownBlock = some j) := Ch.grown (m := fun j => m.sv0.ownBlock = some j) (Ch.refl w _) g (fun j e _ => e)
  have c2 : Ch w' (w'.setCell ⟨pb, 3, none⟩ v') (fun j => j = pb) := ch_set w' pb 3 v'
  have c : Ch w (w'.setCell ⟨pb, 3, none⟩ v') (fun j => j = pb ∨ m.sv0.ownBlock = some j) := c1.trans c2 (fun _ _ e => .inr e) (fun _ _ e => .inl e)
  have hfr : ∀ {d : Nat}, d ≠ 3 → d ≠ 5 → ∀ j, lab j = d → ¬ (j = pb ∨ m.sv0.ownBlock = some j) := fun h3 h4 j e hj => by
    rcases hM j hj with h5 | h5
    · exact h3 (e.symm.trans h5)
    · exact h4 (e.symm.trans h5)
  have bl : ∀ {v : Value} {l : List UInt8} {d : Nat}, d ≠ 3 → d ≠ 5 → Bl base w lab v l d → Bl base (w'.setCell ⟨pb, 3, none⟩ v') lab' v l d := fun h3 h4 b =>
    ⟨own_ch2 b.row c (fun j hj => hfr h3 h4 j (b.lab j hj)), fun j hj => (hold j (own_in b.row hj).2).trans (b.lab j hj)⟩
  have bn : Bl base (w'.setCell ⟨pb, 3, none⟩ v') lab' v' (p.s0 ++ ds) 5 := ⟨own_ch2 r c2 (fun j hj e => hne (e ▸ hj)), fun j hj => by
    rcases o with o | o
    · rw [o] at hj
      exact (hold j (own_in h.s0.row hj).2).trans (h.s0.lab j hj)
    · rw [o] at hj
      injection hj with hj
      exact if_neg (by omega)⟩
  have hpb : w'.heap[pb]? = some (.cells (m.cs p.t) 33 (0, 0)) := (c1.block pb h.lt (fun e => by have := h.s0.lab pb e; have := h.lp; omega)).trans h.obj
  refine ⟨⟨lab', ⟨?_, h.lo, h.fa.frame c (fun j hj => hfr (by decide) (by decide) j (h.la j hj)), fun f hf => ?_, h.fn, own_ch2 h.way c (fun j hj => hfr (by decide) (by decide) j (h.lw j hj)), h.key, fun k hk => ⟨(h.og k hk).1.ch c (fun j hj => hfr (by decide) (by decide) j (h.ld k hk j hj)), (h.og k hk).2⟩, bn, bl (by decide) (by decide) h.s1, bl (by decide) (by decide) h.c0, bl (by decide) (by decide) h.c1,
    fun j hj => (hold j (h.fa.in_ hj).2).trans (h.la j hj), fun s hs j hj => ?_, (hold pb h.lt).trans h.lp, fun j hj => (hold j (own_in h.way hj).2).trans (h.lw j hj), fun k hk j hj => (hold j ((h.og k hk).1.lt hj).2).trans (h.ld k hk j hj), fun g hg => ⟨(c.block g (h.bx_lt hg) (hfr (by decide) (by decide) g (h.bx g hg).2)).trans (h.bx g hg).1, (hold g (h.bx_lt hg)).trans (h.bx g hg).2⟩⟩⟩, c.belowB (by have := h.lo; have := h.lt; omega) (fun j hj => by
      rcases hj with rfl | hj
      · exact h.lo
      · exact (own_in h.s0.row hj).1)⟩
  · simp [World.setCell, Array.getElem?_modify, hpb, Ms.cs]
  · obtain ⟨s, e2, k2⟩ := h.fb f hf
    exact ⟨s, e2, k2.frame c (fun j hj => hfr (by decide) (by decide) j (h.lb s e2 j hj))⟩
  · cases hf : p.f1 with
    | none =>
      have hs : m.b = some s := hs
      rw [h.fn hf] at hs
      cases hs
    | some f =>
      obtain ⟨s2, e2, k2⟩ := h.fb f hf
      have hs : m.b = some s := hs
      rw [e2] at hs
      injection hs with hs
      subst hs
      exact (hold j (k2.in_ hj).2).trans (h.lb s2 e2 j hj)
/-- Bytes more, slot 4. -/
theorem PR.put4 (h : PR GB base w pb p m lab) (ds : List UInt8) {v' : Value} {n : Nat} (hn : n = (p.s1 ++ ds).length)
    (r : w'.ownsRow base 5 1 v' n (bv (p.s1 ++ ds))) (g : w.grownBy w' m.sv1.ownBlock) (o : v'.ownBlock = m.sv1.ownBlock ∨ v'.ownBlock = some w.heap.size) :
    (∃ lab', PR GB base (w'.setCell ⟨pb, 4, none⟩ v') pb { p with s1 := p.s1 ++ ds } { m with sv1 := v' } lab') ∧ Below base w (w'.setCell ⟨pb, 4, none⟩ v') := by
  subst hn
  let lab' : Nat → Nat := fun j => if j < w.heap.size then lab j else 6
  have hold : ∀ j, j < w.heap.size → lab' j = lab j := fun j hj => if_pos hj
  have hM : ∀ j, (j = pb ∨ m.sv1.ownBlock = some j) → lab j = 3 ∨ lab j = 6 := fun j hj => by
    rcases hj with rfl | hj
    · exact .inl h.lp
    · exact .inr (h.s1.lab j hj)
  have hne : v'.ownBlock ≠ some pb := fun e => by
    rcases o with o | o
    · have := h.s1.lab pb (o ▸ e)
      have := h.lp
      omega
    · rw [o] at e
      injection e with e
      have := h.lt
      omega
  have c1 : Ch w w' (fun j => m.sv1.ownBlock = some j) := Ch.grown (m := fun j => m.sv1.ownBlock = some j) (Ch.refl w _) g (fun j e _ => e)
  have c2 : Ch w' (w'.setCell ⟨pb, 4, none⟩ v') (fun j => j = pb) := ch_set w' pb 4 v'
  have c : Ch w (w'.setCell ⟨pb, 4, none⟩ v') (fun j => j = pb ∨ m.sv1.ownBlock = some j) := c1.trans c2 (fun _ _ e => .inr e) (fun _ _ e => .inl e)
  have hfr : ∀ {d : Nat}, d ≠ 3 → d ≠ 6 → ∀ j, lab j = d → ¬ (j = pb ∨ m.sv1.ownBlock = some j) := fun h3 h4 j e hj => by
    rcases hM j hj with h5 | h5
    · exact h3 (e.symm.trans h5)
    · exact h4 (e.symm.trans h5)
  have bl : ∀ {v : Value} {l : List UInt8} {d : Nat}, d ≠ 3 → d ≠ 6 → Bl base w lab v l d → Bl base (w'.setCell ⟨pb, 4, none⟩ v') lab' v l d := fun h3 h4 b =>
    ⟨own_ch2 b.row c (fun j hj => hfr h3 h4 j (b.lab j hj)), fun j hj => (hold j (own_in b.row hj).2).trans (b.lab j hj)⟩
  have bn : Bl base (w'.setCell ⟨pb, 4, none⟩ v') lab' v' (p.s1 ++ ds) 6 := ⟨own_ch2 r c2 (fun j hj e => hne (e ▸ hj)), fun j hj => by
    rcases o with o | o
    · rw [o] at hj
      exact (hold j (own_in h.s1.row hj).2).trans (h.s1.lab j hj)
    · rw [o] at hj
      injection hj with hj
      exact if_neg (by omega)⟩
  have hpb : w'.heap[pb]? = some (.cells (m.cs p.t) 33 (0, 0)) := (c1.block pb h.lt (fun e => by have := h.s1.lab pb e; have := h.lp; omega)).trans h.obj
  refine ⟨⟨lab', ⟨?_, h.lo, h.fa.frame c (fun j hj => hfr (by decide) (by decide) j (h.la j hj)), fun f hf => ?_, h.fn, own_ch2 h.way c (fun j hj => hfr (by decide) (by decide) j (h.lw j hj)), h.key, fun k hk => ⟨(h.og k hk).1.ch c (fun j hj => hfr (by decide) (by decide) j (h.ld k hk j hj)), (h.og k hk).2⟩, bl (by decide) (by decide) h.s0, bn, bl (by decide) (by decide) h.c0, bl (by decide) (by decide) h.c1,
    fun j hj => (hold j (h.fa.in_ hj).2).trans (h.la j hj), fun s hs j hj => ?_, (hold pb h.lt).trans h.lp, fun j hj => (hold j (own_in h.way hj).2).trans (h.lw j hj), fun k hk j hj => (hold j ((h.og k hk).1.lt hj).2).trans (h.ld k hk j hj), fun g hg => ⟨(c.block g (h.bx_lt hg) (hfr (by decide) (by decide) g (h.bx g hg).2)).trans (h.bx g hg).1, (hold g (h.bx_lt hg)).trans (h.bx g hg).2⟩⟩⟩, c.belowB (by have := h.lo; have := h.lt; omega) (fun j hj => by
      rcases hj with rfl | hj
      · exact h.lo
      · exact (own_in h.s1.row hj).1)⟩
  · simp [World.setCell, Array.getElem?_modify, hpb, Ms.cs]
  · obtain ⟨s, e2, k2⟩ := h.fb f hf
    exact ⟨s, e2, k2.frame c (fun j hj => hfr (by decide) (by decide) j (h.lb s e2 j hj))⟩
  · cases hf : p.f1 with
    | none =>
      have hs : m.b = some s := hs
      rw [h.fn hf] at hs
      cases hs
    | some f =>
      obtain ⟨s2, e2, k2⟩ := h.fb f hf
      have hs : m.b = some s := hs
      rw [e2] at hs
      injection hs with hs
      subst hs
      exact (hold j (k2.in_ hj).2).trans (h.lb s2 e2 j hj)
/-- Bytes more, slot 5. -/
theorem PR.put5 (h : PR GB base w pb p m lab) (ds : List UInt8) {v' : Value} {n : Nat} (hn : n = (p.c0 ++ ds).length)
    (r : w'.ownsRow base 5 1 v' n (bv (p.c0 ++ ds))) (g : w.grownBy w' m.cv0.ownBlock) (o : v'.ownBlock = m.cv0.ownBlock ∨ v'.ownBlock = some w.heap.size) :
    (∃ lab', PR GB base (w'.setCell ⟨pb, 5, none⟩ v') pb { p with c0 := p.c0 ++ ds } { m with cv0 := v' } lab') ∧ Below base w (w'.setCell ⟨pb, 5, none⟩ v') := by
  subst hn
  let lab' : Nat → Nat := fun j => if j < w.heap.size then lab j else 7
  have hold : ∀ j, j < w.heap.size → lab' j = lab j := fun j hj => if_pos hj
  have hM : ∀ j, (j = pb ∨ m.cv0.ownBlock = some j) → lab j = 3 ∨ lab j = 7 := fun j hj => by
    rcases hj with rfl | hj
    · exact .inl h.lp
    · exact .inr (h.c0.lab j hj)
  have hne : v'.ownBlock ≠ some pb := fun e => by
    rcases o with o | o
    · have := h.c0.lab pb (o ▸ e)
      have := h.lp
      omega
    · rw [o] at e
      injection e with e
      have := h.lt
      omega
  have c1 : Ch w w' (fun j => m.cv0.ownBlock = some j) := Ch.grown (m := fun j => m.cv0.ownBlock = some j) (Ch.refl w _) g (fun j e _ => e)
  have c2 : Ch w' (w'.setCell ⟨pb, 5, none⟩ v') (fun j => j = pb) := ch_set w' pb 5 v'
  have c : Ch w (w'.setCell ⟨pb, 5, none⟩ v') (fun j => j = pb ∨ m.cv0.ownBlock = some j) := c1.trans c2 (fun _ _ e => .inr e) (fun _ _ e => .inl e)
  have hfr : ∀ {d : Nat}, d ≠ 3 → d ≠ 7 → ∀ j, lab j = d → ¬ (j = pb ∨ m.cv0.ownBlock = some j) := fun h3 h4 j e hj => by
    rcases hM j hj with h5 | h5
    · exact h3 (e.symm.trans h5)
    · exact h4 (e.symm.trans h5)
  have bl : ∀ {v : Value} {l : List UInt8} {d : Nat}, d ≠ 3 → d ≠ 7 → Bl base w lab v l d → Bl base (w'.setCell ⟨pb, 5, none⟩ v') lab' v l d := fun h3 h4 b =>
    ⟨own_ch2 b.row c (fun j hj => hfr h3 h4 j (b.lab j hj)), fun j hj => (hold j (own_in b.row hj).2).trans (b.lab j hj)⟩
  have bn : Bl base (w'.setCell ⟨pb, 5, none⟩ v') lab' v' (p.c0 ++ ds) 7 := ⟨own_ch2 r c2 (fun j hj e => hne (e ▸ hj)), fun j hj => by
    rcases o with o | o
    · rw [o] at hj
      exact (hold j (own_in h.c0.row hj).2).trans (h.c0.lab j hj)
    · rw [o] at hj
      injection hj with hj
      exact if_neg (by omega)⟩
  have hpb : w'.heap[pb]? = some (.cells (m.cs p.t) 33 (0, 0)) := (c1.block pb h.lt (fun e => by have := h.c0.lab pb e; have := h.lp; omega)).trans h.obj
  refine ⟨⟨lab', ⟨?_, h.lo, h.fa.frame c (fun j hj => hfr (by decide) (by decide) j (h.la j hj)), fun f hf => ?_, h.fn, own_ch2 h.way c (fun j hj => hfr (by decide) (by decide) j (h.lw j hj)), h.key, fun k hk => ⟨(h.og k hk).1.ch c (fun j hj => hfr (by decide) (by decide) j (h.ld k hk j hj)), (h.og k hk).2⟩, bl (by decide) (by decide) h.s0, bl (by decide) (by decide) h.s1, bn, bl (by decide) (by decide) h.c1,
    fun j hj => (hold j (h.fa.in_ hj).2).trans (h.la j hj), fun s hs j hj => ?_, (hold pb h.lt).trans h.lp, fun j hj => (hold j (own_in h.way hj).2).trans (h.lw j hj), fun k hk j hj => (hold j ((h.og k hk).1.lt hj).2).trans (h.ld k hk j hj), fun g hg => ⟨(c.block g (h.bx_lt hg) (hfr (by decide) (by decide) g (h.bx g hg).2)).trans (h.bx g hg).1, (hold g (h.bx_lt hg)).trans (h.bx g hg).2⟩⟩⟩, c.belowB (by have := h.lo; have := h.lt; omega) (fun j hj => by
      rcases hj with rfl | hj
      · exact h.lo
      · exact (own_in h.c0.row hj).1)⟩
  · simp [World.setCell, Array.getElem?_modify, hpb, Ms.cs]
  · obtain ⟨s, e2, k2⟩ := h.fb f hf
    exact ⟨s, e2, k2.frame c (fun j hj => hfr (by decide) (by decide) j (h.lb s e2 j hj))⟩
  · cases hf : p.f1 with
    | none =>
      have hs : m.b = some s := hs
      rw [h.fn hf] at hs
      cases hs
    | some f =>
      obtain ⟨s2, e2, k2⟩ := h.fb f hf
      have hs : m.b = some s := hs
      rw [e2] at hs
      injection hs with hs
      subst hs
      exact (hold j (k2.in_ hj).2).trans (h.lb s2 e2 j hj)
/-- Bytes more, slot 6. -/
theorem PR.put6 (h : PR GB base w pb p m lab) (ds : List UInt8) {v' : Value} {n : Nat} (hn : n = (p.c1 ++ ds).length)
    (r : w'.ownsRow base 5 1 v' n (bv (p.c1 ++ ds))) (g : w.grownBy w' m.cv1.ownBlock) (o : v'.ownBlock = m.cv1.ownBlock ∨ v'.ownBlock = some w.heap.size) :
    (∃ lab', PR GB base (w'.setCell ⟨pb, 6, none⟩ v') pb { p with c1 := p.c1 ++ ds } { m with cv1 := v' } lab') ∧ Below base w (w'.setCell ⟨pb, 6, none⟩ v') := by
  subst hn
  let lab' : Nat → Nat := fun j => if j < w.heap.size then lab j else 8
  have hold : ∀ j, j < w.heap.size → lab' j = lab j := fun j hj => if_pos hj
  have hM : ∀ j, (j = pb ∨ m.cv1.ownBlock = some j) → lab j = 3 ∨ lab j = 8 := fun j hj => by
    rcases hj with rfl | hj
    · exact .inl h.lp
    · exact .inr (h.c1.lab j hj)
  have hne : v'.ownBlock ≠ some pb := fun e => by
    rcases o with o | o
    · have := h.c1.lab pb (o ▸ e)
      have := h.lp
      omega
    · rw [o] at e
      injection e with e
      have := h.lt
      omega
  have c1 : Ch w w' (fun j => m.cv1.ownBlock = some j) := Ch.grown (m := fun j => m.cv1.ownBlock = some j) (Ch.refl w _) g (fun j e _ => e)
  have c2 : Ch w' (w'.setCell ⟨pb, 6, none⟩ v') (fun j => j = pb) := ch_set w' pb 6 v'
  have c : Ch w (w'.setCell ⟨pb, 6, none⟩ v') (fun j => j = pb ∨ m.cv1.ownBlock = some j) := c1.trans c2 (fun _ _ e => .inr e) (fun _ _ e => .inl e)
  have hfr : ∀ {d : Nat}, d ≠ 3 → d ≠ 8 → ∀ j, lab j = d → ¬ (j = pb ∨ m.cv1.ownBlock = some j) := fun h3 h4 j e hj => by
    rcases hM j hj with h5 | h5
    · exact h3 (e.symm.trans h5)
    · exact h4 (e.symm.trans h5)
  have bl : ∀ {v : Value} {l : List UInt8} {d : Nat}, d ≠ 3 → d ≠ 8 → Bl base w lab v l d → Bl base (w'.setCell ⟨pb, 6, none⟩ v') lab' v l d := fun h3 h4 b =>
    ⟨own_ch2 b.row c (fun j hj => hfr h3 h4 j (b.lab j hj)), fun j hj => (hold j (own_in b.row hj).2).trans (b.lab j hj)⟩
  have bn : Bl base (w'.setCell ⟨pb, 6, none⟩ v') lab' v' (p.c1 ++ ds) 8 := ⟨own_ch2 r c2 (fun j hj e => hne (e ▸ hj)), fun j hj => by
    rcases o with o | o
    · rw [o] at hj
      exact (hold j (own_in h.c1.row hj).2).trans (h.c1.lab j hj)
    · rw [o] at hj
      injection hj with hj
      exact if_neg (by omega)⟩
  have hpb : w'.heap[pb]? = some (.cells (m.cs p.t) 33 (0, 0)) := (c1.block pb h.lt (fun e => by have := h.c1.lab pb e; have := h.lp; omega)).trans h.obj
  refine ⟨⟨lab', ⟨?_, h.lo, h.fa.frame c (fun j hj => hfr (by decide) (by decide) j (h.la j hj)), fun f hf => ?_, h.fn, own_ch2 h.way c (fun j hj => hfr (by decide) (by decide) j (h.lw j hj)), h.key, fun k hk => ⟨(h.og k hk).1.ch c (fun j hj => hfr (by decide) (by decide) j (h.ld k hk j hj)), (h.og k hk).2⟩, bl (by decide) (by decide) h.s0, bl (by decide) (by decide) h.s1, bl (by decide) (by decide) h.c0, bn,
    fun j hj => (hold j (h.fa.in_ hj).2).trans (h.la j hj), fun s hs j hj => ?_, (hold pb h.lt).trans h.lp, fun j hj => (hold j (own_in h.way hj).2).trans (h.lw j hj), fun k hk j hj => (hold j ((h.og k hk).1.lt hj).2).trans (h.ld k hk j hj), fun g hg => ⟨(c.block g (h.bx_lt hg) (hfr (by decide) (by decide) g (h.bx g hg).2)).trans (h.bx g hg).1, (hold g (h.bx_lt hg)).trans (h.bx g hg).2⟩⟩⟩, c.belowB (by have := h.lo; have := h.lt; omega) (fun j hj => by
      rcases hj with rfl | hj
      · exact h.lo
      · exact (own_in h.c1.row hj).1)⟩
  · simp [World.setCell, Array.getElem?_modify, hpb, Ms.cs]
  · obtain ⟨s, e2, k2⟩ := h.fb f hf
    exact ⟨s, e2, k2.frame c (fun j hj => hfr (by decide) (by decide) j (h.lb s e2 j hj))⟩
  · cases hf : p.f1 with
    | none =>
      have hs : m.b = some s := hs
      rw [h.fn hf] at hs
      cases hs
    | some f =>
      obtain ⟨s2, e2, k2⟩ := h.fb f hf
      have hs : m.b = some s := hs
      rw [e2] at hs
      injection hs with hs
      subst hs
      exact (hold j (k2.in_ hj).2).trans (h.lb s2 e2 j hj)
end
end Go.Proofs.Ytnpkmkjenlhkiaa

namespace Go.Proofs.Ytnpkmkjenlhkiaa
set_option linter.unusedVariables false
set_option linter.unusedSimpArgs false
set_option maxRecDepth 20000
open Go.RowKit Go.Lib

theorem step_allocV {P : Program} {ops : Array Oper} {op : Oper} {a : Act} {w : World} {K : Act → World → Prop} {Q : Exit → Act → World → Prop} {E : Prop} (hgd : Region.wanted op (yielded ops a.tmps) = true) (t : TypeId) (ho : op.op = .alloc t) (vs : List Value) (hz : (P.info? t).map (·.zero) = some (some (.agg vs.toArray)))
    (h : ∀ g w', Hid (g = w.heap.size) → Own w' g vs → Below w.heap.size w w' → w'.heap.size = w.heap.size + 1 → K (a.put op.dst (.pointer (some ⟨g, 0, none⟩))) w') : if Region.wanted op (yielded ops a.tmps) = true then Oper.wp P op a w K Q else E := by
  rw [if_pos hgd]
  cases hi : P.info? t with
  | none => simp [hi] at hz
  | some i =>
    have hz' : i.zero = some (.agg vs.toArray) := by simpa [hi] using hz
    have hrun : (execOp a.eval op).run P w = .ok (.value (.pointer (some ⟨w.heap.size, 0, none⟩))) (w.alloc (.cells vs.toArray t)) := by
      simp [execOp, ho, Instr.alloc, newVar, newRow, zeroValue, typeInfo, hi, hz', Value.cells, Result.andThen]
    unfold Oper.wp
    rw [hrun, Oper.upon_value]
    exact h _ _ (Lib.hid rfl) (Own.new w vs t) (below_a w _) (by simp)
theorem step_storeV {P : Program} {ops : Array Oper} {op : Oper} {a : Act} {w : World} {K : Act → World → Prop} {Q : Exit → Act → World → Prop} {E : Prop} (hgd : Region.wanted op (yielded ops a.tmps) = true) (ty : TypeId) (x y : Operand) (ho : op.op = .store ty x y) (b : Nat) (us vs : List Value) (hx : a.eval x = .pointer (some ⟨b, 0, none⟩)) (hy : a.eval y = .agg vs.toArray) (hA : Own w b us)
    (hl : vs.length = us.length) (h1 : ∀ u ∈ vs, u.oneCell' = true) (hi : (P.info? ty).map (·.size) = some vs.length)
    (h : ∀ w', Own w' b vs → w.grownBy w' (some b) → w'.heap.size = w.heap.size → K (a.put op.dst undef) w') : if Region.wanted op (yielded ops a.tmps) = true then Oper.wp P op a w K Q else E := by
  rw [if_pos hgd]
  exact wp_store_mid ty x y ho b 0 vs.toArray hx hy (by rw [List.size_toArray, hl]; exact hA.there) (by simpa using hi) (all_oneCell_toArray h1) (h _ (hA.put hl) (v_g_setCells b _ 0 w) (v_size_setCells b _ 0 w))

section
variable {GB : Option Nat} {base : Nat} {w w' w1 : World} {pb : Nat} {p : P} {m : Ms} {lab lab' : Nat → Nat}
/-- Other labels, as long as they say the same of what is there. -/
theorem PR.relabel (h : PR GB base w pb p m lab) (hl : ∀ g, g < w.heap.size → lab' g = lab g) : PR GB base w pb p m lab' :=
  ⟨h.obj, h.lo, h.fa, h.fb, h.fn, h.way, h.key, h.og, ⟨h.s0.row, fun g hg => (hl g (own_in h.s0.row hg).2).trans (h.s0.lab g hg)⟩, ⟨h.s1.row, fun g hg => (hl g (own_in h.s1.row hg).2).trans (h.s1.lab g hg)⟩, ⟨h.c0.row, fun g hg => (hl g (own_in h.c0.row hg).2).trans (h.c0.lab g hg)⟩, ⟨h.c1.row, fun g hg => (hl g (own_in h.c1.row hg).2).trans (h.c1.lab g hg)⟩,
    fun g hg => (hl g (h.fa.in_ hg).2).trans (h.la g hg), fun s hs g hg => by
      cases hf : p.f1 with
      | none => rw [h.fn hf] at hs; cases hs
      | some f =>
        obtain ⟨s2, e2, k2⟩ := h.fb f hf
        rw [hs] at e2
        injection e2 with e2
        subst e2
        exact (hl g (k2.in_ hg).2).trans (h.lb s hs g hg), (hl pb h.lt).trans h.lp, fun g hg => (hl g (own_in h.way hg).2).trans (h.lw g hg), fun k hk g hg => (hl g ((h.og k hk).1.lt hg).2).trans (h.ld k hk g hg), fun g hg => ⟨(h.bx g hg).1, (hl g (h.bx_lt hg)).trans (h.bx g hg).2⟩⟩
/-- What has no label may change. -/
theorem PR.frame0 (h : PR GB base w pb p m lab) {M : Nat → Prop} (c : Ch w w' M) (hM : ∀ g, M g → lab g = 0) : PR GB base w' pb p m lab := by
  have hn : ∀ {d : Nat}, d ≠ 0 → ∀ g, lab g = d → ¬ M g := fun hd g e hg => hd (e.symm.trans (hM g hg))
  have bl : ∀ {v : Value} {l : List UInt8} {d : Nat}, d ≠ 0 → Bl base w lab v l d → Bl base w' lab v l d := fun hd b => ⟨own_ch2 b.row c (fun j hj => hn hd j (b.lab j hj)), b.lab⟩
  exact ⟨(c.block pb h.lt (hn (by decide) pb h.lp)).trans h.obj, h.lo, h.fa.frame c (fun j hj => hn (by decide) j (h.la j hj)), fun f hf => by
      obtain ⟨s, e, k⟩ := h.fb f hf
      exact ⟨s, e, k.frame c (fun j hj => hn (by decide) j (h.lb s e j hj))⟩, h.fn, own_ch2 h.way c (fun j hj => hn (by decide) j (h.lw j hj)), h.key, fun k hk => ⟨(h.og k hk).1.ch c (fun j hj => hn (by decide) j (h.ld k hk j hj)), (h.og k hk).2⟩, bl (by decide) h.s0, bl (by decide) h.s1, bl (by decide) h.c0, bl (by decide) h.c1, h.la, h.lb, h.lp, h.lw, h.ld, fun g hg => ⟨(c.block g (h.bx_lt hg) (hn (by decide) g (h.bx g hg).2)).trans (h.bx g hg).1, (h.bx g hg).2⟩⟩
theorem PR.call0 (h : PR GB base w pb p m lab) {x : F} (l : Left base w m.a x w') : (∃ m' lab', PR GB base w' pb { p with f0 := x } m' lab' ∧ ∀ g, g < w.heap.size → lab' g = lab g) ∧ Ch w w' (fun g => lab g = 1 ∧ base ≤ g) := by
  obtain ⟨m', lab', a, _, _, b⟩ := h.flow0 l
  obtain ⟨s', e, f, c, n⟩ := l
  exact ⟨⟨m', lab', a, b⟩, c.mono (fun g _ hg => ⟨h.la g hg, (h.fa.in_ hg).1⟩)⟩
theorem PR.call1 (h : PR GB base w pb p m lab) {f x : F} (hf : p.f1 = some f) {s : Sh} (hs : m.b = some s) (l : Left base w s x w') : (∃ m' lab', PR GB base w' pb { p with f1 := some x } m' lab' ∧ ∀ g, g < w.heap.size → lab' g = lab g) ∧ Ch w w' (fun g => lab g = 2 ∧ base ≤ g) := by
  obtain ⟨s', lab', e2, a, b⟩ := h.flow1 hf hs l
  obtain ⟨s2, e3, k2⟩ := h.fb f hf
  rw [hs] at e3
  injection e3 with e3
  subst e3
  obtain ⟨s', e, f, c, n⟩ := l
  exact ⟨⟨_, lab', a, b⟩, c.mono (fun g _ hg => ⟨h.lb s hs g hg, (k2.in_ hg).1⟩)⟩
/-- A flow's numbers within the bounds of Hear. -/
structure Fb (x : F) : Prop where
  to_ : tot x.ks ≤ 2147483648
  l : x.ks.length ≤ 1073741824
  d : ∀ k ∈ x.ks, k.ds.length ≤ 1099511627776
  os : x.os.length ≤ 274877906944
  E : x.E.Ok
  bg : 0 ≤ x.bg ∧ x.bg ≤ 1152921504606846976
theorem PO.dn {q : Pc} (h : PO base w q) : q.dn = q.ds.length := by
  have := h.data.1
  rw [bv_length] at this
  omega
theorem PO.nc {q : Pc} (h : PO base w q) : q.dn ≤ q.dc ∧ q.dc ≤ 9223372036854775807 := by
  obtain ⟨A, c, e, h1, h2⟩ := own_slice h.data
  injection e with _ _ e
  subst e
  exact ⟨by first | exact h1 | omega, by first | exact h2 | omega⟩
/-- Within comes: a packet boxed at gk, the flow that hears at FB, what was heard at og. -/
structure Cq (GB : Option Nat) (base : Nat) (wd : World) (pb : Nat) (k : Pm) (gk FB tt : Nat) (p : P) (og : Option Nat) (vs : List Value) (W : World) : Prop where
  pr : ∃ m lab, PR GB base W pb p m lab ∧ lab gk = 0 ∧ (∀ g, og = some g → lab g = 0) ∧ (∀ g, k.o.p.blk = some g → lab g = 9)
  po : PO base W k.o.p
  gk : Own W gk k.vals
  hd : ∀ g, og = some g → Own W g vs
  fp : W.cell? ⟨pb, k.to, none⟩ = some (.pointer (some ⟨FB, 0, none⟩))
  b : Below base wd W
  lo : base ≤ W.heap.size
  t : p.t = tt
section
variable {wd W W' : World} {k : Pm} {gk FB tt : Nat} {og : Option Nat} {vs : List Value}
theorem Cq.tick (h : Cq GB base wd pb k gk FB tt p og vs W) : W.cell? ⟨pb, 7, none⟩ = some (.int .i64 (tt : Int)) := by
  obtain ⟨m, lab, hp, _⟩ := h.pr
  have := hp.at_ 7
  rw [← h.t]
  exact this
theorem Cq.g0 (h : Cq GB base wd pb k gk FB tt p og vs W) : W.cell? ⟨gk, 0, none⟩ = some (.int .i64 (k.to : Int)) := (h.gk 0 (by rw [Pm.vals_length]; omega)).1
theorem Cq.sg (h : Cq GB base wd pb k gk FB tt p og vs W) : W.rangeAt gk 1 k.o.sg := fun j v hv => by
  have hj : j < 13 := (List.getElem?_eq_some_iff.1 hv).1
  rw [(h.gk (1 + j) (by rw [Pm.vals_length]; omega)).1, show 1 + j = j + 1 from by omega]
  exact hv
theorem Cq.alloc (h : Cq GB base wd pb k gk FB tt p none vs W) {g : Nat} (hg : g = W.heap.size) (z : Own W' g vs) (b : Below W.heap.size W W') : Cq GB base wd pb k gk FB tt p (some g) vs W' := by
  obtain ⟨m, lab, hp, h1, _, h3⟩ := h.pr
  have hgk : gk < W.heap.size := h.gk.lt (by rw [Pm.vals_length]; omega)
  refine ⟨⟨m, fun j => if j < W.heap.size then lab j else 0, (hp.relabel (fun j hj => if_pos hj)).below b, (if_pos hgk).trans h1, fun g2 e => ?_, fun g2 e => (if_pos (h.po.lt e).2).trans (h3 g2 e)⟩, h.po.below b, h.gk.below b, fun g2 e => ?_, cellB b h.fp, h.b.trans (b.mono h.lo), Nat.le_trans h.lo b.size, h.t⟩
  · injection e with e
    exact if_neg (by omega)
  · injection e with e
    exact e ▸ z
theorem Cq.moved {p' : P} (h : Cq GB base wd pb k gk FB tt p og vs W) (ht : p'.t = p.t) {d : Nat} {m : Ms} {lab : Nat → Nat} (hp : PR GB base W pb p m lab) (h1 : lab gk = 0) (h2 : ∀ g, og = some g → lab g = 0) (h3 : ∀ g, k.o.p.blk = some g → lab g = 9) (hvs : 0 < vs.length) (hog : ∀ g, og = some g → g < W.heap.size) (hd1 : d = 1 ∨ d = 2)
    (hq : (∃ m' lab', PR GB base W' pb p' m' lab' ∧ ∀ g, g < W.heap.size → lab' g = lab g) ∧ Ch W W' (fun g => lab g = d ∧ base ≤ g)) : Cq GB base wd pb k gk FB tt p' og vs W' := by
  obtain ⟨⟨m', lab', hp', hl⟩, c⟩ := hq
  have hgk : gk < W.heap.size := h.gk.lt (by rw [Pm.vals_length]; omega)
  exact ⟨⟨m', lab', hp', (hl gk hgk).trans h1, fun g e => (hl g (hog g e)).trans (h2 g e), fun g e => (hl g (h.po.lt e).2).trans (h3 g e)⟩, h.po.ch c (fun g e hg => by have := h3 g e; omega), h.gk.ch (by rw [Pm.vals_length]; omega) c (fun hg => by omega),
    fun g e => (h.hd g e).ch hvs c (fun hg => by have := h2 g e; omega), c.cell h.fp (fun hg => by have := hp.lp; have := hg.1; dsimp only at this; omega), h.b.trans (c.belowB h.lo (fun g hg => hg.2)), Nat.le_trans h.lo c.size, ht.trans h.t⟩
theorem Cq.call0 (h : Cq GB base wd pb k gk FB tt p og vs W) (hto : k.to = 0) (hvs : 0 < vs.length) (hr : k.o.rst = false) (hk : k.o.ack < 4294967296) (B : Fb p.f0) (hdn : k.o.p.dn ≤ 1099511627776) (ht : tt ≤ 1152921504606846976) :
    Calls Try.prog 20 #[.pointer (some ⟨FB, 0, none⟩), .agg k.o.sg.toArray, .int .i64 (tt : Int)] W fun e W' => ∃ op fin A n c, e = .returned (.agg (hv op fin false false (p.f0.heardO k.o.key p.t) (.slice A n c)).toArray) ∧ Cq GB base wd pb k gk FB tt { p with f0 := p.f0.hearO k.o.key p.t } og vs W' := by
  obtain ⟨m, lab, hp, h1, h2, h3⟩ := h.pr
  have hfb : m.a.fb = FB := by
    have e1 := h.fp
    rw [hto] at e1
    have e2 := (hp.at_ 0).symm.trans e1
    injection e2 with e2
    injection e2 with e2
    injection e2 with e2
    injection e2
  have hds : k.o.p.dn = k.o.p.ds.length := h.po.dn
  have hog : ∀ g, og = some g → g < W.heap.size := fun g e => (h.hd g e).lt hvs
  have hc := h.po.nc
  have C := Hear_any hp.fa k.o.p.seq k.o.ack k.o.p.syn k.o.acks k.o.p.fin k.o.rst (.inl hr) k.o.p.dA k.o.p.dn k.o.p.dc h.po.seq hk hc.1 hc.2 hdn B.to_ B.l B.d B.os B.E B.bg (tt : Int) (by omega)
  rw [hfb] at C
  refine C.mono ?_
  rintro e w4 ⟨op4, fin4, A4, n4, c4, rfl, l4⟩
  have hx : p.f0.hearO k.o.key p.t = p.f0.hear k.o.p.seq k.o.ack k.o.p.syn k.o.acks k.o.p.fin (k.o.p.dn + bn k.o.p.fin) tt := by rw [h.t, hds]; rfl
  have hx2 : p.f0.heardO k.o.key p.t = p.f0.heard k.o.p.seq k.o.ack k.o.p.syn k.o.acks tt := by rw [h.t]; rfl
  rw [hx, hx2]
  exact ⟨op4, fin4, A4, n4, c4, rfl, h.moved rfl hp h1 h2 h3 hvs hog (.inl rfl) (hp.call0 l4)⟩
theorem Cq.call1 (h : Cq GB base wd pb k gk FB tt p og vs W) (hto : k.to = 1) {f : F} (hf : p.f1 = some f) (hvs : 0 < vs.length) (hr : k.o.rst = false) (hk : k.o.ack < 4294967296) (B : Fb f) (hdn : k.o.p.dn ≤ 1099511627776) (ht : tt ≤ 1152921504606846976) :
    Calls Try.prog 20 #[.pointer (some ⟨FB, 0, none⟩), .agg k.o.sg.toArray, .int .i64 (tt : Int)] W fun e W' => ∃ op fin A n c, e = .returned (.agg (hv op fin false false (f.heardO k.o.key p.t) (.slice A n c)).toArray) ∧ Cq GB base wd pb k gk FB tt { p with f1 := some (f.hearO k.o.key p.t) } og vs W' := by
  obtain ⟨m, lab, hp, h1, h2, h3⟩ := h.pr
  obtain ⟨s, hs, hF⟩ := hp.fb f hf
  have hfb : s.fb = FB := by
    have e1 := h.fp
    rw [hto] at e1
    have e0 : (m.cs p.t)[1]? = some (ptr s.fb) := by
      unfold Ms.cs f1v
      rw [hs]
      rfl
    have e2 := ((hp.at_ 1).trans e0).symm.trans e1
    injection e2 with e2
    injection e2 with e2
    injection e2 with e2
    injection e2
  have hds : k.o.p.dn = k.o.p.ds.length := h.po.dn
  have hog : ∀ g, og = some g → g < W.heap.size := fun g e => (h.hd g e).lt hvs
  have hc := h.po.nc
  have C := Hear_any hF k.o.p.seq k.o.ack k.o.p.syn k.o.acks k.o.p.fin k.o.rst (.inl hr) k.o.p.dA k.o.p.dn k.o.p.dc h.po.seq hk hc.1 hc.2 hdn B.to_ B.l B.d B.os B.E B.bg (tt : Int) (by omega)
  rw [hfb] at C
  refine C.mono ?_
  rintro e w4 ⟨op4, fin4, A4, n4, c4, rfl, l4⟩
  have hx : f.hearO k.o.key p.t = f.hear k.o.p.seq k.o.ack k.o.p.syn k.o.acks k.o.p.fin (k.o.p.dn + bn k.o.p.fin) tt := by rw [h.t, hds]; rfl
  have hx2 : f.heardO k.o.key p.t = f.heard k.o.p.seq k.o.ack k.o.p.syn k.o.acks tt := by rw [h.t]; rfl
  rw [hx, hx2]
  exact ⟨op4, fin4, A4, n4, c4, rfl, h.moved rfl hp h1 h2 h3 hvs hog (.inr rfl) (hp.call1 hf hs l4)⟩
/-- What was heard, stored. -/
theorem Cq.store {g : Nat} (h : Cq GB base wd pb k gk FB tt p (some g) vs W) (hlo : base ≤ g) {us : List Value} (z : Own W' g us) (hne : gk ≠ g) (c : W.grownBy W' (some g)) : Cq GB base wd pb k gk FB tt p (some g) us W' := by
  obtain ⟨m, lab, hp, h1, h2, h3⟩ := h.pr
  have h2 := h2 g rfl
  have ck : Ch W W' (fun j => j = g) := Ch.grown (m := fun j => j = g) (Ch.refl W _) c (fun j e _ => by injection e with e; exact e.symm)
  exact ⟨⟨m, lab, hp.frame0 ck (fun j e => e ▸ h2), h1, fun g2 e => by injection e with e; exact e ▸ h2, h3⟩, h.po.ch ck (fun j e hj => by have := h3 j e; subst hj; omega), h.gk.ch (by rw [Pm.vals_length]; omega) ck hne, fun g2 e => by injection e with e; exact e ▸ z, ck.cell h.fp (fun e => by have := hp.lp; have e : pb = g := e; subst e; omega), h.b.trans (ck.belowB h.lo (fun j e => e ▸ hlo)), Nat.le_trans h.lo ck.size, h.t⟩
end
end
end Go.Proofs.Ytnpkmkjenlhkiaa

/- A pair: what a flow wants to be sent taken out of it; a packet more on the way. No condition. -/
import Derived.Test.YtnpkmkjenlhkiaaMg17
namespace Go.Proofs.Ytnpkmkjenlhkiaa
set_option linter.unusedVariables false
set_option linter.unusedSimpArgs false
set_option maxRecDepth 20000
open Go.RowKit Go.Lib

theorem addw_nil (k : Nat) (w : List Pk) : addw k w [] = w := by unfold addw; simp
theorem addw_snoc (k : Nat) (w : List Pk) (os : List Ou) (o : Ou) : addw k w (os ++ [o]) = if (addw k w os).length < 60 then addw k w os ++ [⟨k, o⟩] else addw k w os := by
  unfold addw
  rw [List.map_append, List.take_append, List.length_append, List.length_take, List.length_map]
  by_cases h : os.length < 60 - w.length
  · rw [if_pos (by omega), show 60 - w.length - os.length = (60 - w.length - os.length - 1) + 1 from by omega]
    simp
  · rw [if_neg (by omega), show 60 - w.length - os.length = 0 from by omega]
    simp
theorem Ch.belowB {w w' : World} {M : Nat → Prop} {B : Nat} (c : Ch w w' M) (hB : B ≤ w.heap.size) (h : ∀ g, M g → B ≤ g) : Below B w w' := ⟨c.os, c.tape, c.output, c.size, fun k hk => c.block k (by omega) (fun e => by have := h k e; omega)⟩

section
variable {GB : Option Nat} {base : Nat} {w w' : World} {pb : Nat} {p : P} {m : Ms} {lab : Nat → Nat}
/-- What was to be sent: it lies apart. -/
structure Od (base : Nat) (w : World) (lab : Nat → Nat) (v : Value) (ol : List Oc) (c : Nat) : Prop where
  row : w.ownsRow base 54 9 v ol.length (ov ol)
  og : ∀ o ∈ ol, PO base w o.p ∧ o.ack < 4294967296
  lr : ∀ g, v.ownBlock = some g → lab g = c
  ld : ∀ o ∈ ol, ∀ g, o.p.blk = some g → lab g = 9
open Classical in
/-- The labels behind it. -/
noncomputable def labO (lab : Nat → Nat) (ol : List Oc) (g : Nat) : Nat := if ∃ o ∈ ol, o.p.blk = some g then 9 else lab g
theorem labO_yes {lab : Nat → Nat} {ol : List Oc} {g : Nat} {o : Oc} (ho : o ∈ ol) (hg : o.p.blk = some g) : labO lab ol g = 9 := if_pos ⟨o, ho, hg⟩
theorem labO_no {lab : Nat → Nat} {ol : List Oc} {g : Nat} (h : ¬ ∃ o ∈ ol, o.p.blk = some g) : labO lab ol g = lab g := if_neg h
theorem Bl.relab {lab' : Nat → Nat} {v : Value} {l : List UInt8} {c d : Nat} (h : Bl base w lab v l c) {M : Nat → Prop} (k : Ch w w' M) (hM : ∀ g, M g → lab g = d) (hd : d ≠ c) (hl : ∀ g, lab g = c → lab' g = c) : Bl base w' lab' v l c :=
  ⟨own_ch2 h.row k (fun g hg e => hd ((hM g e).symm.trans (h.lab g hg))), fun g hg => hl g (h.lab g hg)⟩
theorem PR.out0 (h : PR GB base w pb p m lab) (f : Fl base w' m.a.quiet p.f0.quiet) (c : Ch w w' (fun g => g = m.a.fb)) :
    PR GB base w' pb { p with f0 := p.f0.quiet } { m with a := m.a.quiet } (labO lab m.a.ol) ∧ Od base w' (labO lab m.a.ol) m.a.ov m.a.ol 1 := by
  have hd : ∀ g, (∃ o ∈ m.a.ol, o.p.blk = some g) → lab g = 1 := fun g ⟨o, ho, hg⟩ => h.la g (.inr (.inr (.inr ⟨o, ho, hg⟩)))
  have hM : ∀ g, g = m.a.fb → lab g = 1 := fun g e => h.la g (.inl e)
  have hk : ∀ {d : Nat}, d ≠ 1 → ∀ g, lab g = d → labO lab m.a.ol g = d := fun hd1 g e => by
    rw [labO_no (fun hx => hd1 (e.symm.trans (hd g hx)))]
    exact e
  have hne : ∀ o ∈ m.a.ol, o.p.blk ≠ some m.a.fb := fun o ho => h.fa.ne_data ho
  refine ⟨⟨?_, h.lo, f, fun g hg => ?_, h.fn, own_ch2 h.way c (fun g hg e => by have := hM g e; have := h.lw g hg; omega), h.key, fun k hk2 => ⟨(h.og k hk2).1.ch c (fun g hg e => by have := hM g e; have := h.ld k hk2 g hg; omega), (h.og k hk2).2⟩,
    h.s0.relab c hM (by decide) (hk (by decide)), h.s1.relab c hM (by decide) (hk (by decide)), h.c0.relab c hM (by decide) (hk (by decide)), h.c1.relab c hM (by decide) (hk (by decide)), fun g hg => ?_, fun s hs g hg => hk (by decide) g (h.lb s hs g hg), hk (by decide) pb h.lp, fun g hg => hk (by decide) g (h.lw g hg), fun k hk2 g hg => hk (by decide) g (h.ld k hk2 g hg), fun g hg => ⟨(c.block g (h.bx_lt hg) (fun e => by have := hM g e; have := (h.bx g hg).2; omega)).trans (h.bx g hg).1, hk (by decide) g (h.bx g hg).2⟩⟩,
    ⟨own_ch2 h.fa.row c (fun g hg e => h.fa.ne_row (e ▸ hg)), fun o ho => ⟨(h.fa.og o ho).1.ch c (fun g hg e => hne o ho (e ▸ hg)), (h.fa.og o ho).2⟩, fun g hg => ?_, fun o ho g hg => labO_yes ho hg⟩⟩
  · exact (c.block pb h.lt (fun e => by have := hM pb e; have := h.lp; omega)).trans h.obj
  · obtain ⟨s, e2, k⟩ := h.fb g hg
    exact ⟨s, e2, k.frame c (fun j hj e => by have := hM j e; have := h.lb s e2 j hj; omega)⟩
  · have hx : ¬ ∃ o ∈ m.a.ol, o.p.blk = some g := by
      rintro ⟨o, ho, e⟩
      rcases hg with hg | hg | hg | ⟨o2, ho2, _⟩
      · exact hne o ho (by rw [e, hg]; rfl)
      · exact h.fa.ap o ho g e hg
      · cases hg
      · cases ho2
    rw [labO_no hx]
    rcases hg with hg | hg | hg | ⟨o2, ho2, _⟩
    · exact h.la g (.inl hg)
    · exact h.la g (.inr (.inl hg))
    · cases hg
    · cases ho2
  · rw [labO_no (fun ⟨o, ho, e⟩ => h.fa.row_data hg ho e)]
    exact h.la g (.inr (.inr (.inl hg)))
/-- A packet more. -/
theorem PR.append (h : PR GB base w pb p m lab) (k : Pm) (hk : PO base w k.o.p ∧ k.o.ack < 4294967296 ∧ k.to ≤ 1) (hl : ∀ g, k.o.p.blk = some g → lab g = 9) {v' : Value}
    (r : w'.ownsRow base 69 14 v' (m.ws.length + 1) (pkv m.ws ++ k.vals)) (g : w.grownBy w' m.wv.ownBlock) (o : v'.ownBlock = m.wv.ownBlock ∨ v'.ownBlock = some w.heap.size) :
    ∃ lab', PR GB base (w'.setCell ⟨pb, 2, none⟩ v') pb { p with way := p.way ++ [k.key] } { m with wv := v', ws := m.ws ++ [k] } lab' ∧ (∀ j, j < w.heap.size → lab' j = lab j) ∧ Ch w (w'.setCell ⟨pb, 2, none⟩ v') (fun j => j = pb ∨ m.wv.ownBlock = some j) := by
  let lab' : Nat → Nat := fun j => if j < w.heap.size then lab j else 4
  have hold : ∀ j, j < w.heap.size → lab' j = lab j := fun j hj => if_pos hj
  have hM : ∀ j, (j = pb ∨ m.wv.ownBlock = some j) → lab j = 3 ∨ lab j = 4 := fun j hj => by
    rcases hj with rfl | hj
    · exact .inl h.lp
    · exact .inr (h.lw j hj)
  have hne : v'.ownBlock ≠ some pb := fun e => by
    rcases o with o | o
    · have := h.lw pb (o ▸ e)
      have := h.lp
      omega
    · rw [o] at e
      injection e with e
      have := h.lt
      omega
  have c1 : Ch w w' (fun j => m.wv.ownBlock = some j) := Ch.grown (m := fun j => m.wv.ownBlock = some j) (Ch.refl w _) g (fun j e _ => e)
  have c2 : Ch w' (w'.setCell ⟨pb, 2, none⟩ v') (fun j => j = pb) := ch_set w' pb 2 v'
  have c : Ch w (w'.setCell ⟨pb, 2, none⟩ v') (fun j => j = pb ∨ m.wv.ownBlock = some j) := c1.trans c2 (fun _ _ e => .inr e) (fun _ _ e => .inl e)
  have hfr : ∀ {d : Nat}, d ≠ 3 → d ≠ 4 → ∀ j, lab j = d → ¬ (j = pb ∨ m.wv.ownBlock = some j) := fun h3 h4 j e hj => by
    rcases hM j hj with h5 | h5
    · exact h3 (e.symm.trans h5)
    · exact h4 (e.symm.trans h5)
  have bl : ∀ {v : Value} {l : List UInt8} {d : Nat}, d ≠ 3 → d ≠ 4 → Bl base w lab v l d → Bl base (w'.setCell ⟨pb, 2, none⟩ v') lab' v l d := fun h3 h4 b =>
    ⟨own_ch2 b.row c (fun j hj => hfr h3 h4 j (b.lab j hj)), fun j hj => (hold j (own_in b.row hj).2).trans (b.lab j hj)⟩
  have hpb : w'.heap[pb]? = some (.cells (m.cs p.t) 33 (0, 0)) := (c1.block pb h.lt (fun e => by have := h.lw pb e; have := h.lp; omega)).trans h.obj
  have po : ∀ x : Pm, PO base w x.o.p → (∀ j, x.o.p.blk = some j → lab j = 9) → PO base (w'.setCell ⟨pb, 2, none⟩ v') x.o.p := fun x hx hl2 => hx.ch c (fun j hj => hfr (by decide) (by decide) j (hl2 j hj))
  refine ⟨lab', ⟨?_, h.lo, h.fa.frame c (fun j hj => hfr (by decide) (by decide) j (h.la j hj)), fun f hf => ?_, h.fn, ?_, ?_, fun x hx => ?_, bl (by decide) (by decide) h.s0, bl (by decide) (by decide) h.s1, bl (by decide) (by decide) h.c0, bl (by decide) (by decide) h.c1,
    fun j hj => (hold j (h.fa.in_ hj).2).trans (h.la j hj), fun s hs j hj => ?_, (hold pb h.lt).trans h.lp, fun j hj => ?_, fun x hx j hj => ?_, fun g hg => ⟨(c.block g (h.bx_lt hg) (hfr (by decide) (by decide) g (h.bx g hg).2)).trans (h.bx g hg).1, (hold g (h.bx_lt hg)).trans (h.bx g hg).2⟩⟩, hold, c⟩
  · simp [World.setCell, Array.getElem?_modify, hpb, Ms.cs]
  · obtain ⟨s, e2, k2⟩ := h.fb f hf
    exact ⟨s, e2, k2.frame c (fun j hj => hfr (by decide) (by decide) j (h.lb s e2 j hj))⟩
  · show World.ownsRow _ _ _ _ _ (m.ws ++ [k]).length _
    rw [List.length_append, pkv_append, pkv_one1]
    exact own_ch2 r c2 (fun j hj e => hne (e ▸ hj))
  · show (m.ws ++ [k]).map Pm.key = _
    rw [List.map_append, h.key]
    rfl
  · rcases List.mem_append.1 hx with hx | hx
    · exact ⟨po x (h.og x hx).1 (h.ld x hx), (h.og x hx).2⟩
    · simp at hx
      subst hx
      exact ⟨po x hk.1 hl, hk.2⟩
  · cases hf : p.f1 with
    | none =>
      have hs : m.b = some s := hs
      rw [h.fn hf] at hs
      cases hs
    | some f =>
      obtain ⟨s2, e2, k2⟩ := h.fb f hf
      have hs : m.b = some s := hs
      rw [e2] at hs
      injection hs with hs
      subst hs
      exact (hold j (k2.in_ hj).2).trans (h.lb s2 e2 j hj)
  · have hj : v'.ownBlock = some j := hj
    rcases o with o | o
    · rw [o] at hj
      exact (hold j (own_in h.way hj).2).trans (h.lw j hj)
    · rw [o] at hj
      injection hj with hj
      exact if_neg (by omega)
  · rcases List.mem_append.1 hx with hx | hx
    · exact (hold j ((h.og x hx).1.lt hj).2).trans (h.ld x hx j hj)
    · simp at hx
      subst hx
      exact (hold j (hk.1.lt hj).2).trans (hl j hj)
end
end Go.Proofs.Ytnpkmkjenlhkiaa

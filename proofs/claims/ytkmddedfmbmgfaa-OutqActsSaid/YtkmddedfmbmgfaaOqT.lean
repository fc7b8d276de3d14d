/- Both queues side by side, as a law keeps them; a piece pushed on both, in steps. No condition. -/
import Derived.Test.YtkmddedfmbmgfaaOqR
import Derived.Test.YtkmddedfmbmgfaaPcFr
namespace Go.Proofs.Ytkmddedfmbmgfaa
set_option linter.unusedVariables false
set_option linter.unusedSimpArgs false
open Go.RowKit

/-- Both queues say the same, and lie apart. -/
structure Bth (W w : World) (qb : Nat) (v : Value) (l : List Pc) (xb : Nat) (u : Value) (r : List Pc) (b : Nat) (ks : List Ky) (en : Nat) : Prop where
  q : Sq 54 W w qb v l b ks en
  x : Sq 30 W w xb u r b ks en
  ap : ∀ k, Qb qb v l k → ¬ Qb xb u r k
/-- The blocks of both. -/
def S0 (qb : Nat) (v : Value) (l : List Pc) (xb : Nat) (u : Value) (r : List Pc) (k : Nat) : Prop := Qb qb v l k ∨ Qb xb u r k
section
variable {W w w' : World} {qb : Nat} {v : Value} {l : List Pc} {xb : Nat} {u : Value} {r : List Pc} {b : Nat} {ks : List Ky} {en : Nat}
theorem Bth.frame (h : Bth W w qb v l xb u r b ks en) {m : Nat → Prop} (c : Ch w w' m) (hm : ∀ k, S0 qb v l xb u r k → ¬ m k) (hn : ∀ k, m k → W.heap.size ≤ k) : Bth W w' qb v l xb u r b ks en :=
  ⟨h.q.frame c (fun k hk => hm k (.inl hk)) hn, h.x.frame c (fun k hk => hm k (.inr hk)) hn, h.ap⟩
theorem Bth.below (h : Bth W w qb v l xb u r b ks en) (bl : Below w.heap.size w w') : Bth W w' qb v l xb u r b ks en := ⟨h.q.below bl, h.x.below bl, h.ap⟩
theorem Bth.in_ (h : Bth W w qb v l xb u r b ks en) {k : Nat} (hk : S0 qb v l xb u r k) : W.heap.size ≤ k ∧ k < w.heap.size := by
  rcases hk with hk | hk
  · exact h.q.in_ hk
  · exact h.x.in_ hk
end
theorem mv_q {qb : Nat} {v : Value} {l : List Pc} {k : Nat} (h : k = qb ∨ v.ownBlock = some k) : Qb qb v l k := by
  rcases h with h | h
  · exact .inl h
  · exact .inr (.inl h)

/-- A new variable that lies apart from what may turn. -/
structure BX (w0 w : World) (S : Nat → Prop) (g : Nat) : Prop where
  own : Own w g zP.vals
  lo : w0.heap.size ≤ g
  ap : ¬ S g
section
variable {w0 w w' : World} {S S' : Nat → Prop} {g : Nat}
theorem BX.lt (h : BX w0 w S g) : g < w.heap.size := h.own.lt (by rw [Pc.vals_length]; omega)
theorem Own.ch2 {b : Nat} {vs : List Value} {m : Nat → Prop} (h : Own w b vs) (c : Ch w w' m) (hn : ¬ m b) : Own w' b vs := fun j hj => by
  have hb := c.block b (h.lt (by omega)) hn
  exact ⟨(World.cell?_of_block (a := ⟨b, j, none⟩) hb).trans (h j hj).1, (World.frozen?_of_block (a := ⟨b, j, none⟩) hb).trans (h j hj).2⟩
theorem BX.below (h : BX w0 w S g) (bl : Below w.heap.size w w') : BX w0 w' S g := ⟨h.own.below bl, h.lo, h.ap⟩
theorem BX.call (h : BX w0 w S g) {m : Nat → Prop} (c : Ch w w' m) (hm : ∀ k, m k → S k) (hS : ∀ k, S' k → S k ∨ w.heap.size ≤ k) : BX w0 w' S' g :=
  ⟨h.own.ch2 c (fun e => h.ap (hm g e)), h.lo, fun e => by
    rcases hS g e with e | e
    · exact h.ap e
    · have := h.lt
      omega⟩
end

section
variable {W w0 : World} {qb : Nat} {v : Value} {l : List Pc} {xb : Nat} {u : Value} {r : List Pc} {b : Nat} {ks : List Ky} {en : Nat}
/-- The program's queue has the piece, the document's not yet. -/
structure HB1 (W w0 w : World) (qb : Nat) (v : Value) (l : List Pc) (xb : Nat) (u : Value) (r : List Pc) (b : Nat) (ks : List Ky) (en : Nat) (k : Ky) (q1 : Pc) (v1 : Value) (l1 : List Pc) (m : Nat) : Prop where
  q : Sq 54 W w qb v1 l1 b (pushK ks (k.at en)) (on en (k.len : Int))
  x : Sq 30 W w xb u r b ks en
  o1 : PO m w q1
  k1 : q1.key = k.at en
  lo : w0.heap.size ≤ m
  lt : ∀ g, Qb qb v1 l1 g → g < m
  nw : ∀ g, Qb qb v1 l1 g → Qb qb v l g ∨ w0.heap.size ≤ g
  ch : Ch w0 w (S0 qb v l xb u r)
/-- What may turn then. -/
def S1 (qb : Nat) (v1 : Value) (l1 : List Pc) (xb : Nat) (u : Value) (r : List Pc) (q1 : Pc) (k : Nat) : Prop := Qb qb v1 l1 k ∨ Qb xb u r k ∨ q1.blk = some k
theorem HB1.below {w w' : World} {k : Ky} {q1 : Pc} {v1 : Value} {l1 : List Pc} {m : Nat} (h : HB1 W w0 w qb v l xb u r b ks en k q1 v1 l1 m) (bl : Below w.heap.size w w') : HB1 W w0 w' qb v l xb u r b ks en k q1 v1 l1 m :=
  ⟨h.q.below bl, h.x.below bl, h.o1.below bl, h.k1, h.lo, h.lt, h.nw, h.ch.then_ (Ch.of_below _ bl)⟩
theorem HB1.in_ {w : World} {k : Ky} {q1 : Pc} {v1 : Value} {l1 : List Pc} {m : Nat} (h : HB1 W w0 w qb v l xb u r b ks en k q1 v1 l1 m) {g : Nat} (hg : S1 qb v1 l1 xb u r q1 g) : g < w.heap.size := by
  rcases hg with hg | hg | hg
  · exact (h.q.in_ hg).2
  · exact (h.x.in_ hg).2
  · exact (h.o1.lt hg).2
/-- Push of the program's. -/
theorem push_one {w w' : World} {k : Ky} (h : Bth W w0 qb v l xb u r b ks en) (bl : Below w0.heap.size w0 w) {q1 : Pc} {v1 : Value} {l1 : List Pc} {m : Nat} (hk : q1.key = k.at en) (ho : PO m w' q1) (hm : w.heap.size ≤ m) (hS : Sq 54 W w' qb v1 l1 b (pushK ks (k.at en)) (on en (k.len : Int)))
    (hlt : ∀ g, Qb qb v1 l1 g → g < m) (hold : ∀ g, Qb qb v1 l1 g → Qb qb v l g ∨ w.heap.size ≤ g) (c : Ch w w' (fun k => k = qb ∨ v.ownBlock = some k)) :
    HB1 W w0 w' qb v l xb u r b ks en k q1 v1 l1 m ∧ (∀ g, BX w0 w (S0 qb v l xb u r) g → BX w0 w' (S1 qb v1 l1 xb u r q1) g) := by
  have hb := bl.size
  have h1 := h.below bl
  have c' : Ch w w' (S0 qb v l xb u r) := c.mono (fun x _ e => .inl (mv_q e))
  refine ⟨⟨hS, h1.x.frame c (fun g hg e => h.ap g (mv_q e) hg) (fun g e => (h.in_ (.inl (mv_q e))).1), ho, hk, by omega, hlt, fun g hg => ?_, (Ch.of_below _ bl).then_ c'⟩, fun g hg => hg.call c' (fun x e => e) (fun x e => ?_)⟩
  · rcases hold g hg with e | e
    · exact .inl e
    · exact .inr (by omega)
  · rcases e with e | e | e
    · rcases hold x e with e | e
      · exact .inl (.inl e)
      · exact .inr e
    · exact .inl (.inr e)
    · have := (ho.lt e).1
      exact .inr (by omega)

/-- Both have it. -/
structure HB2 (W w0 w : World) (qb : Nat) (v : Value) (l : List Pc) (xb : Nat) (u : Value) (r : List Pc) (b : Nat) (ks : List Ky) (en : Nat) (k : Ky) (q1 q2 : Pc) (v1 : Value) (l1 : List Pc) (u2 : Value) (r2 : List Pc) : Prop where
  bth : Bth W w qb v1 l1 xb u2 r2 b (pushK ks (k.at en)) (on en (k.len : Int))
  o1 : PO w0.heap.size w q1
  o2 : PO w0.heap.size w q2
  k1 : q1.key = k.at en
  k2 : q2.key = k.at en
  ap : ∀ g, q1.blk = some g → ¬ S0 qb v1 l1 xb u2 r2 g
  nw : ∀ g, S0 qb v1 l1 xb u2 r2 g → S0 qb v l xb u r g ∨ w0.heap.size ≤ g
  ch : Ch w0 w (S0 qb v l xb u r)
def S2 (qb : Nat) (v1 : Value) (l1 : List Pc) (xb : Nat) (u : Value) (r : List Pc) (q1 q2 : Pc) (k : Nat) : Prop := S0 qb v1 l1 xb u r k ∨ q1.blk = some k ∨ q2.blk = some k
theorem HB2.below {w w' : World} {k : Ky} {q1 q2 : Pc} {v1 u2 : Value} {l1 r2 : List Pc} (h : HB2 W w0 w qb v l xb u r b ks en k q1 q2 v1 l1 u2 r2) (bl : Below w.heap.size w w') : HB2 W w0 w' qb v l xb u r b ks en k q1 q2 v1 l1 u2 r2 :=
  ⟨h.bth.below bl, h.o1.below bl, h.o2.below bl, h.k1, h.k2, h.ap, h.nw, h.ch.then_ (Ch.of_below _ bl)⟩
theorem HB2.in_ {w : World} {k : Ky} {q1 q2 : Pc} {v1 u2 : Value} {l1 r2 : List Pc} (h : HB2 W w0 w qb v l xb u r b ks en k q1 q2 v1 l1 u2 r2) {g : Nat} (hg : S2 qb v1 l1 xb u2 r2 q1 q2 g) : g < w.heap.size := by
  rcases hg with hg | hg | hg
  · exact (h.bth.in_ hg).2
  · exact (h.o1.lt hg).2
  · exact (h.o2.lt hg).2
/-- Push of the document's. -/
theorem push_two {w w' : World} {k : Ky} (h0 : Bth W w0 qb v l xb u r b ks en) {q1 : Pc} {v1 : Value} {l1 : List Pc} {m : Nat} (h : HB1 W w0 w qb v l xb u r b ks en k q1 v1 l1 m) {q2 : Pc} {u2 : Value} {r2 : List Pc} (hk : q2.key = k.at en) (ho : PO w.heap.size w' q2)
    (hS : Sq 30 W w' xb u2 r2 b (pushK ks (k.at en)) (on en (k.len : Int))) (hold : ∀ g, Qb xb u2 r2 g → Qb xb u r g ∨ w.heap.size ≤ g) (c : Ch w w' (fun k => k = xb ∨ u.ownBlock = some k)) :
    HB2 W w0 w' qb v l xb u r b ks en k q1 q2 v1 l1 u2 r2 ∧ (∀ g, BX w0 w (S1 qb v1 l1 xb u r q1) g → BX w0 w' (S2 qb v1 l1 xb u2 r2 q1 q2) g) := by
  have hsz := h.ch.size
  have hlo := h.lo
  have hx0 : ∀ g, Qb xb u r g → g < w0.heap.size := fun g hg => (h0.x.in_ hg).2
  have hap1 : ∀ g, Qb qb v1 l1 g → ¬ Qb xb u r g := fun g hg e => by
    rcases h.nw g hg with h1 | h1
    · exact h0.ap g h1 e
    · have := hx0 g e
      omega
  have c' : Ch w w' (S1 qb v1 l1 xb u r q1) := c.mono (fun x _ e => .inr (.inl (mv_q e)))
  refine ⟨⟨⟨h.q.frame c (fun g hg e => hap1 g hg (mv_q e)) (fun g e => (h.x.in_ (mv_q e)).1), hS, fun g hg e => ?_⟩, (h.o1.ch c (fun g hg e => ?_)).mono hlo, ho.mono hsz, h.k1, hk, fun g hg e => ?_, fun g hg => ?_, h.ch.then_ (c.mono (fun x _ e => .inr (mv_q e)))⟩, fun g hg => hg.call c' (fun x e => e) (fun x e => ?_)⟩
  · rcases hold g e with e | e
    · exact hap1 g hg e
    · have := (h.q.in_ hg).2
      omega
  · have h1 := (h.o1.lt hg).1
    have h2 := hx0 g (mv_q e)
    omega
  · have h1 := h.o1.lt hg
    rcases e with e | e
    · have := h.lt g e
      omega
    · rcases hold g e with e | e
      · have := hx0 g e
        omega
      · omega
  · rcases hg with hg | hg
    · rcases h.nw g hg with e | e
      · exact .inl (.inl e)
      · exact .inr e
    · rcases hold g hg with e | e
      · exact .inl (.inr e)
      · exact .inr (by omega)
  · rcases e with (e | e) | e | e
    · exact .inl (.inl e)
    · rcases hold x e with e | e
      · exact .inl (.inr (.inl e))
      · exact .inr e
    · exact .inl (.inr (.inr e))
    · have := (ho.lt e).1
      exact .inr (by omega)
/-- A new variable, filled. -/
theorem HB2.fill {w w' : World} {k : Ky} {q1 q2 : Pc} {v1 u2 : Value} {l1 r2 : List Pc} (h : HB2 W w0 w qb v l xb u r b ks en k q1 q2 v1 l1 u2 r2) {g : Nat} (hg : ¬ S2 qb v1 l1 xb u2 r2 q1 q2 g) (hlo : w0.heap.size ≤ g) (hW : W.heap.size ≤ w0.heap.size) (gr : w.grownBy w' (some g)) : HB2 W w0 w' qb v l xb u r b ks en k q1 q2 v1 l1 u2 r2 := by
  have c : Ch w w' (fun k => k = g) := Ch.grown (m := fun k => k = g) (Ch.refl w _) gr (fun k e _ => by injection e with e; exact e.symm)
  refine ⟨h.bth.frame c (fun x hx e => hg (e ▸ .inl hx)) (fun x e => by omega), h.o1.ch c (fun x hx e => hg (e ▸ .inr (.inl hx))), h.o2.ch c (fun x hx e => hg (e ▸ .inr (.inr hx))), h.k1, h.k2, h.ap, h.nw, ?_⟩
  exact h.ch.trans (m' := fun k => k = g) c (fun x _ e => e) (fun x hx e => by omega)
end
/-- Bytes of one's own, whichever. -/
def RW (w : World) (A : Option Addr) (n c : Nat) : Prop := ∃ base l, w.ownsRow base 5 1 (.slice A n c) n (bv l)
theorem RW.at_ {w : World} {A : Option Addr} {n c j : Nat} (h : RW w A n c) (hj : j < n) : ∃ g x, A = some ⟨g, 0, none⟩ ∧ n ≤ c ∧ c ≤ 9223372036854775807 ∧ w.cell? ⟨g, j, none⟩ = some (.int .u8 (x : Int)) ∧ 0 ≤ x ∧ x < 256 ∧ w.frozen? ⟨g, j, none⟩ = false := by
  obtain ⟨base, l, h⟩ := h
  obtain ⟨g, cap, hv, _, h1, h2, h3, h4⟩ := own_at h hj
  injection hv with e1 e2 e3
  subst e3
  have := (l.getD j 0).toNat_lt
  exact ⟨g, _, e1, h2, h1, h3, by omega, by omega, h4⟩
theorem RW.set {w : World} {g n c j : Nat} {x : Int} (h : RW w (some ⟨g, 0, none⟩) n c) (h0 : 0 ≤ x) (h1 : x < 256) : RW (w.setCell ⟨g, j, none⟩ (.int .u8 x)) (some ⟨g, 0, none⟩) n c := by
  obtain ⟨base, l, h⟩ := h
  have hv := h
  rcases h.2 with ⟨e, _⟩ | ⟨g', cap, cur, e, _⟩
  · cases e
  · exact ⟨base, _, own_set h h0 h1⟩
theorem RW.ch {w w' : World} {A : Option Addr} {n c : Nat} {m : Nat → Prop} (h : RW w A n c) (k : Ch w w' m) (hm : ∀ g, (Value.slice A n c).ownBlock = some g → ¬ m g) : RW w' A n c := by
  obtain ⟨base, l, h⟩ := h
  exact ⟨base, l, own_ch2 h k hm⟩
/-- While bytes are written over: both queues, what Push told, what was handed in. -/
structure Lp (W w : World) (qb : Nat) (v : Value) (l : List Pc) (xb : Nat) (u : Value) (r : List Pc) (b : Nat) (ks : List Ky) (en : Nat) (gb : Nat) (q1 : Pc) (A : Option Addr) (n c : Nat) : Prop where
  bth : Bth W w qb v l xb u r b ks en
  got : Own w gb q1.vals
  own : RW w A n c
  dat : RW w q1.dA q1.dn q1.dc
  a1 : ∀ g, (Value.slice A n c).ownBlock = some g → ¬ S0 qb v l xb u r g ∧ g ≠ gb ∧ q1.blk ≠ some g ∧ W.heap.size ≤ g
  a2 : ∀ g, q1.blk = some g → ¬ S0 qb v l xb u r g ∧ g ≠ gb ∧ W.heap.size ≤ g
section
variable {W w w' : World} {qb : Nat} {v : Value} {l : List Pc} {xb : Nat} {u : Value} {r : List Pc} {b : Nat} {ks : List Ky} {en : Nat} {gb : Nat} {q1 : Pc} {A : Option Addr} {n c : Nat}
theorem Lp.below (h : Lp W w qb v l xb u r b ks en gb q1 A n c) (bl : Below w.heap.size w w') : Lp W w' qb v l xb u r b ks en gb q1 A n c :=
  ⟨h.bth.below bl, h.got.below bl, h.own.ch (Ch.of_below (fun _ => False) bl) (fun _ _ e => e), h.dat.ch (Ch.of_below (fun _ => False) bl) (fun _ _ e => e), h.a1, h.a2⟩
theorem Lp.set1 {g j : Nat} {x : Int} (h : Lp W w qb v l xb u r b ks en gb q1 (some ⟨g, 0, none⟩) n c) (h0 : 0 ≤ x) (h1 : x < 256) : Lp W (w.setCell ⟨g, j, none⟩ (.int .u8 x)) qb v l xb u r b ks en gb q1 (some ⟨g, 0, none⟩) n c := by
  obtain ⟨e1, e2, e3, e4⟩ := h.a1 g rfl
  have k : Ch w (w.setCell ⟨g, j, none⟩ (.int .u8 x)) (fun k => k = g) := Ch.setCell (m := fun k => k = g) (Ch.refl w _) (p := ⟨g, j, none⟩) (fun _ => rfl) _
  exact ⟨h.bth.frame k (fun y hy e => e1 (e ▸ hy)) (fun y e => by omega), h.got.ch2 k (fun e => e2 e.symm), h.own.set h0 h1, h.dat.ch k (fun y hy e => e3 (by rw [← e]; exact hy)), h.a1, h.a2⟩
theorem Lp.set2 {g j : Nat} {x : Int} (h : Lp W w qb v l xb u r b ks en gb q1 A n c) (hg : q1.dA = some ⟨g, 0, none⟩) (h0 : 0 ≤ x) (h1 : x < 256) : Lp W (w.setCell ⟨g, j, none⟩ (.int .u8 x)) qb v l xb u r b ks en gb q1 A n c := by
  have hb : q1.blk = some g := by
    unfold Pc.blk
    rw [hg]
    rfl
  obtain ⟨e1, e2, e4⟩ := h.a2 g hb
  have k : Ch w (w.setCell ⟨g, j, none⟩ (.int .u8 x)) (fun k => k = g) := Ch.setCell (m := fun k => k = g) (Ch.refl w _) (p := ⟨g, j, none⟩) (fun _ => rfl) _
  refine ⟨h.bth.frame k (fun y hy e => e1 (e ▸ hy)) (fun y e => by omega), h.got.ch2 k (fun e => e2 e.symm), h.own.ch k (fun y hy e => (h.a1 y hy).2.2.1 (by rw [e]; exact hb)), ?_, h.a1, h.a2⟩
  have := h.dat
  rw [hg] at this ⊢
  exact this.set h0 h1
/-- .. as they stand behind both pushes. -/
theorem Lp.start {w0 : World} {v0 u0 : Value} {l0 r0 : List Pc} {ks0 : List Ky} {en0 : Nat} {k : Ky} {q2 : Pc} {ab : Nat} {ds : List UInt8} (h : HB2 W w0 w qb v0 l0 xb u0 r0 b ks0 en0 k q1 q2 v l u r) (hg : Own w gb q1.vals) (hlo : w0.heap.size ≤ gb) (hga : ¬ S2 qb v l xb u r q1 q2 gb)
    (ho : w0.ownsRow (ab + 1) 5 1 (.slice A n c) n (bv ds)) (hS : ∀ g, S0 qb v0 l0 xb u0 r0 g → g < ab) (hW : W.heap.size ≤ ab) (hW0 : W.heap.size ≤ w0.heap.size) : Lp W w qb v l xb u r b (pushK ks0 (k.at en0)) (on en0 (k.len : Int)) gb q1 A n c := by
  have hin : ∀ g, (Value.slice A n c).ownBlock = some g → ab + 1 ≤ g ∧ g < w0.heap.size := fun g e => ho.lt g e
  have hno : ∀ g, (Value.slice A n c).ownBlock = some g → ¬ S0 qb v0 l0 xb u0 r0 g := fun g e e2 => by
    have h1 := (hin g e).1
    have h2 := hS g e2
    omega
  refine ⟨h.bth, hg, ⟨_, _, own_ch2 ho h.ch hno⟩, ⟨_, _, h.o1.data⟩, fun g e => ⟨fun e2 => ?_, ?_, fun e2 => ?_, ?_⟩, fun g e => ⟨h.ap g e, fun e2 => hga (.inr (.inl (e2 ▸ e))), ?_⟩⟩
  · have h1 := hin g e
    rcases h.nw g e2 with e3 | e3
    · have := hS g e3
      omega
    · omega
  · have := hin g e
    omega
  · have h1 := hin g e
    have h2 := (h.o1.lt e2).1
    omega
  · have := hin g e
    omega
  · have h1 := (h.o1.lt e).1
    omega
end
end Go.Proofs.Ytkmddedfmbmgfaa

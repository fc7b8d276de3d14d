/- A connection that dials, in memory: all that is its own, each block with a role; what a call leaves of it. No condition.
The contracts of the timers' calls: since, is, unset, hang. Conditions: ticks from 0 to 2^60; the wheel stands, its tick below 2^60.
The contracts of dsend.New, drecv.New (and span.New without runs), and of what a sender and a receiver tell to which nothing was done yet. No condition. -/
import Derived.Test.YtlcegchdkigibaaGreatDoorMg19
import Derived.Test.YtlcegchdkigibaaGreatDoorMg22
import Derived.Test.YtlcegchdkigibaaGreatDoorMg27
import Derived.Test.YtlcegchdkigibaaGreatDoorMg4
namespace Go.Proofs.YtlcegchdkigibaaGreatDoor
set_option linter.unusedVariables false
set_option linter.unusedSimpArgs false
set_option maxRecDepth 20000
open Go.RowKit Go.Lib

/-- All that is told of it: its cells, its leg's, where its flow lies and what it says, the wheel's tick and timers, what waits to be sent, its addresses. -/
structure Zc where
  c : Cv
  l : Lc
  s : LF.Sh
  x : LF.F
  n : Nat
  L : List (Int × Int)
  g : List Sgc
  p : LP.Pm
  so : Nat
  ro : Nat
  rm : Nat
/-- A segment that waits: its options and its data lie in memory of their own. -/
def Sgo (w : World) (ro : Nat → Nat) (o : Opn) (q : Sgc) : Prop := isSl q.dv ∧ ∃ ob, q.ov = .slice (some ⟨ob, 0, none⟩) 1 1 ∧ Own w ob o.vals ∧ ro ob = 9
/-- A connection with one leg stands, to whose sender and receiver nothing was done. -/
structure Wo (base : Nat) (w : World) (lab ro : Nat → Nat) (cb lb : Nat) (z : Zc) : Prop where
  ca : Ca w cb z.c
  rc : ro cb = 1
  la : La w lb z.l
  rl : ro lb = 2
  fe : z.l.fl = cptr z.s.fb
  fl : LF.Fl base w z.s z.x
  rf : ∀ g, z.s.T g → ro g = 3
  sn : Sn w z.c.sb z.so
  rs : ro z.c.sb = 4 ∧ ro z.so = 4
  rn : Rn w z.c.rb z.ro z.rm
  rr : ro z.c.rb = 5 ∧ ro z.ro = 5 ∧ ro z.rm = 5
  pa : LP.St w z.c.pb z.p
  rp : ro z.c.pb = 6
  lv : w.ownsRow base 106 1 z.c.lv 1 [cptr lb]
  rv : ∀ g, z.c.lv.ownBlock = some g → ro g = 7
  sv : w.ownsRow base 40 13 z.c.sv z.g.length (sgv z.g)
  rg : ∀ g, z.c.sv.ownBlock = some g → ro g = 8
  sg : ∀ q ∈ z.g, Sgo w ro z.l.he q
  wh : LW.On w lab z.c.wb z.n z.L
  ds : ∀ k, ro k ≠ 0 → lab k = 0 ∧ base ≤ k ∧ k < w.heap.size
  wl : ∀ k, lab k ≠ 0 → base ≤ k
/-- What was no part of it is as it was; roles and labels stay. -/
def Fx (lab ro : Nat → Nat) (w : World) (lab' ro' : Nat → Nat) (w' : World) : Prop := Ch w w' (fun k => lab k ≠ 0 ∨ ro k ≠ 0) ∧ ∀ k, k < w.heap.size → lab' k = lab k ∧ ro' k = ro k
theorem Fx.refl (lab ro : Nat → Nat) (w : World) : Fx lab ro w lab ro w := ⟨Ch.refl _ _, fun _ _ => ⟨rfl, rfl⟩⟩
theorem Fx.trans {a b c : World} {l1 r1 l2 r2 l3 r3 : Nat → Nat} (h : Fx l1 r1 a l2 r2 b) (k : Fx l2 r2 b l3 r3 c) : Fx l1 r1 a l3 r3 c :=
  ⟨h.1.trans k.1 (fun _ _ x => x) (fun x hx e => by rw [(h.2 x hx).1, (h.2 x hx).2] at e; exact e), fun x hx => ⟨((k.2 x (Nat.lt_of_lt_of_le hx h.1.size)).1).trans (h.2 x hx).1, ((k.2 x (Nat.lt_of_lt_of_le hx h.1.size)).2).trans (h.2 x hx).2⟩⟩
theorem Fx.below {a b : World} (lab ro : Nat → Nat) (h : Below a.heap.size a b) : Fx lab ro a lab ro b := ⟨Ch.of_below _ h, fun _ _ => ⟨rfl, rfl⟩⟩
theorem lwch {w w' : World} {m : Nat → Prop} (h : Ch w w' m) : LW.Ch w w' m := ⟨h.os, h.tape, h.output, h.size, h.block⟩
theorem chlw {w w' : World} {m : Nat → Prop} (h : LW.Ch w w' m) : Ch w w' m := ⟨h.os, h.tape, h.output, h.size, h.block⟩

section
variable {base : Nat} {w w' : World} {lab ro lab' ro' : Nat → Nat} {cb lb : Nat} {z : Zc}
theorem Sgo.ch {o : Opn} {q : Sgc} (h : Sgo w ro o q) {m : Nat → Prop} (c : Ch w w' m) (hm : ∀ g, ro g = 9 → ¬ m g) : Sgo w' ro o q := by
  obtain ⟨h1, ob, h2, h3, h4⟩ := h
  exact ⟨h1, ob, h2, fun j hj => ⟨(World.cell?_of_block (c.block ob (h3.lt (by rw [Opn.vals_length]; omega)) (hm ob h4))).trans (h3 j hj).1, by
    have := (h3 j hj).2
    unfold World.frozen? at *
    rwa [c.block ob (h3.lt (by rw [Opn.vals_length]; omega)) (hm ob h4)]⟩, h4⟩
theorem Sgo.role {o : Opn} {q : Sgc} (h : Sgo w ro o q) (hr : ∀ k, k < w.heap.size → ro' k = ro k) : Sgo w ro' o q := by
  obtain ⟨h1, ob, h2, h3, h4⟩ := h
  exact ⟨h1, ob, h2, h3, (hr ob (h3.lt (by rw [Opn.vals_length]; omega))).trans h4⟩
/-- What alone may have turned has no role. -/
theorem Wo.frame (h : Wo base w lab ro cb lb z) {m : Nat → Prop} (c : Ch w w' m) (hm : ∀ g, m g → ro g = 0 ∧ lab g = 0) : Wo base w' lab ro cb lb z := by
  have hn : ∀ g, ro g ≠ 0 → ¬ m g := fun g e k => e (hm g k).1
  have hd : ∀ g d, d ≠ 0 → ro g = d → ¬ m g := fun g d hd e => hn g (by rw [e]; exact hd)
  exact ⟨h.ca.ch c (hd _ 1 (by decide) h.rc), h.rc, h.la.ch c (hd _ 2 (by decide) h.rl), h.rl, h.fe, h.fl.frame c (fun g hg => hd _ 3 (by decide) (h.rf g hg)), h.rf,
    h.sn.ch c (hd _ 4 (by decide) h.rs.1) (hd _ 4 (by decide) h.rs.2), h.rs, h.rn.ch c (hd _ 5 (by decide) h.rr.1) (hd _ 5 (by decide) h.rr.2.1) (hd _ 5 (by decide) h.rr.2.2), h.rr,
    h.pa.ch c (hd _ 6 (by decide) h.rp), h.rp, own_ch2 h.lv c (fun g hg => hd _ 7 (by decide) (h.rv g hg)), h.rv, own_ch2 h.sv c (fun g hg => hd _ 8 (by decide) (h.rg g hg)), h.rg,
    fun q hq => (h.sg q hq).ch c (fun g hg => hd _ 9 (by decide) hg), h.wh.ch (lwch c) (fun k hk => (hm k hk).2), fun k hk => ⟨(h.ds k hk).1, (h.ds k hk).2.1, Nat.lt_of_lt_of_le (h.ds k hk).2.2 c.size⟩, h.wl⟩
theorem Wo.below (h : Wo base w lab ro cb lb z) (b : Below w.heap.size w w') : Wo base w' lab ro cb lb z := h.frame (Ch.of_below (fun _ => False) b) (fun _ e => e.elim)
theorem Wo.new_lab (h : Wo base w lab ro cb lb z) {k : Nat} (hk : w.heap.size ≤ k) : lab k = 0 := by
  rcases Nat.eq_zero_or_pos (lab k) with e | e
  · exact e
  · have := h.wh.lt (k := k) (by omega)
    omega
theorem Wo.new_ro (h : Wo base w lab ro cb lb z) {k : Nat} (hk : w.heap.size ≤ k) : ro k = 0 := by
  rcases Nat.eq_zero_or_pos (ro k) with e | e
  · exact e
  · have := (h.ds k (by omega)).2.2
    omega
/-- The wheel turned. -/
theorem Wo.wheel (h : Wo base w lab ro cb lb z) (hb : base ≤ w.heap.size) {n' : Nat} {L' : List (Int × Int)} (o : LW.On w' lab' z.c.wb n' L') (f : LW.Fr lab w lab' w') : Wo base w' lab' ro cb lb { z with n := n', L := L' } ∧ Fx lab ro w lab' ro w' := by
  have c := chlw f.1
  have hd : ∀ g d, d ≠ 0 → ro g = d → ¬ (lab g ≠ 0) := fun g d hd e k => k (h.ds g (by rw [e]; exact hd)).1
  refine ⟨⟨h.ca.ch c (hd _ 1 (by decide) h.rc), h.rc, h.la.ch c (hd _ 2 (by decide) h.rl), h.rl, h.fe, h.fl.frame c (fun g hg => hd _ 3 (by decide) (h.rf g hg)), h.rf,
    h.sn.ch c (hd _ 4 (by decide) h.rs.1) (hd _ 4 (by decide) h.rs.2), h.rs, h.rn.ch c (hd _ 5 (by decide) h.rr.1) (hd _ 5 (by decide) h.rr.2.1) (hd _ 5 (by decide) h.rr.2.2), h.rr,
    h.pa.ch c (hd _ 6 (by decide) h.rp), h.rp, own_ch2 h.lv c (fun g hg => hd _ 7 (by decide) (h.rv g hg)), h.rv, own_ch2 h.sv c (fun g hg => hd _ 8 (by decide) (h.rg g hg)), h.rg,
    fun q hq => (h.sg q hq).ch c (fun g hg => hd _ 9 (by decide) hg), o, fun k hk => ⟨(f.2 k (h.ds k hk).2.2).trans (h.ds k hk).1, (h.ds k hk).2.1, Nat.lt_of_lt_of_le (h.ds k hk).2.2 c.size⟩, fun k hk => ?_⟩, c.mono (fun _ _ e => .inl e), fun k hk => ⟨f.2 k hk, rfl⟩⟩
  rcases Nat.lt_or_ge k w.heap.size with hk2 | hk2
  · exact h.wl k (by rw [← f.2 k hk2]; exact hk)
  · omega
/-- Only its own cells turned; what it points to is the same. -/
theorem Wo.own (h : Wo base w lab ro cb lb z) (c : Ch w w' (fun k => k = cb)) {c' : Cv} (hc : Ca w' cb c') (h1 : c'.sb = z.c.sb) (h2 : c'.rb = z.c.rb) (h3 : c'.pb = z.c.pb) (h4 : c'.lv = z.c.lv) (h5 : c'.sv = z.c.sv) (h6 : c'.wb = z.c.wb) : Wo base w' lab ro cb lb { z with c := c' } ∧ Fx lab ro w lab ro w' := by
  have hd : ∀ g d, d ≠ 1 → ro g = d → ¬ (g = cb) := fun g d hd e k => hd (by rw [← e, k]; exact h.rc)
  refine ⟨⟨hc, h.rc, h.la.ch c (hd _ 2 (by decide) h.rl), h.rl, h.fe, h.fl.frame c (fun g hg => hd _ 3 (by decide) (h.rf g hg)), h.rf,
    ?_, ?_, ?_, ?_, ?_, ?_, ?_, ?_, ?_, ?_, fun q hq => (h.sg q hq).ch c (fun g hg => hd _ 9 (by decide) hg), ?_, fun k hk => ⟨(h.ds k hk).1, (h.ds k hk).2.1, Nat.lt_of_lt_of_le (h.ds k hk).2.2 c.size⟩, h.wl⟩, c.mono (fun k _ e => .inr (by subst e; rw [h.rc]; decide)), fun k hk => ⟨rfl, rfl⟩⟩
  · dsimp only; rw [h1]; exact h.sn.ch c (hd _ 4 (by decide) h.rs.1) (hd _ 4 (by decide) h.rs.2)
  · dsimp only; rw [h1]; exact h.rs
  · dsimp only; rw [h2]; exact h.rn.ch c (hd _ 5 (by decide) h.rr.1) (hd _ 5 (by decide) h.rr.2.1) (hd _ 5 (by decide) h.rr.2.2)
  · dsimp only; rw [h2]; exact h.rr
  · dsimp only; rw [h3]; exact h.pa.ch c (hd _ 6 (by decide) h.rp)
  · dsimp only; rw [h3]; exact h.rp
  · dsimp only; rw [h4]; exact own_ch2 h.lv c (fun g hg => hd _ 7 (by decide) (h.rv g hg))
  · dsimp only; rw [h4]; exact h.rv
  · dsimp only; rw [h5]; exact own_ch2 h.sv c (fun g hg => hd _ 8 (by decide) (h.rg g hg))
  · dsimp only; rw [h5]; exact h.rg
  · dsimp only; rw [h6]; exact h.wh.ch (lwch c) (fun k hk => by subst hk; exact (h.ds _ (by rw [h.rc]; decide)).1)
/-- The flow turned. -/
theorem Wo.flow (h : Wo base w lab ro cb lb z) {x' : LF.F} {s' : LF.Sh} (e : s'.fb = z.s.fb) (f : LF.Fl base w' s' x') (c : Ch w w' z.s.T) (n : ∀ g, s'.T g → z.s.T g ∨ w.heap.size ≤ g) :
    ∃ ro', Wo base w' lab ro' cb lb { z with s := s', x := x' } ∧ Fx lab ro w lab ro' w' := by
  have hd : ∀ g d, d ≠ 3 → ro g = d → ¬ z.s.T g := fun g d hd e k => hd (by rw [← e]; exact h.rf g k)
  classical
  have hk : ∀ k, k < w.heap.size → (if k < w.heap.size then ro k else if s'.T k then 3 else 0) = ro k := fun k hk => if_pos hk
  have hr : ∀ k d, d ≠ 0 → ro k = d → (if k < w.heap.size then ro k else if s'.T k then 3 else 0) = d := fun k d hd e => (hk k ((h.ds k (by rw [e]; exact hd)).2.2)).trans e
  refine ⟨fun k => if k < w.heap.size then ro k else if s'.T k then 3 else 0, ⟨h.ca.ch c (hd _ 1 (by decide) h.rc), hr _ 1 (by decide) h.rc, h.la.ch c (hd _ 2 (by decide) h.rl), hr _ 2 (by decide) h.rl, h.fe.trans (by rw [e]), f, fun g hg => ?_,
    h.sn.ch c (hd _ 4 (by decide) h.rs.1) (hd _ 4 (by decide) h.rs.2), ⟨hr _ 4 (by decide) h.rs.1, hr _ 4 (by decide) h.rs.2⟩, h.rn.ch c (hd _ 5 (by decide) h.rr.1) (hd _ 5 (by decide) h.rr.2.1) (hd _ 5 (by decide) h.rr.2.2), ⟨hr _ 5 (by decide) h.rr.1, hr _ 5 (by decide) h.rr.2.1, hr _ 5 (by decide) h.rr.2.2⟩,
    h.pa.ch c (hd _ 6 (by decide) h.rp), hr _ 6 (by decide) h.rp, own_ch2 h.lv c (fun g hg => hd _ 7 (by decide) (h.rv g hg)), fun g hg => hr _ 7 (by decide) (h.rv g hg), own_ch2 h.sv c (fun g hg => hd _ 8 (by decide) (h.rg g hg)), fun g hg => hr _ 8 (by decide) (h.rg g hg),
    fun q hq => ((h.sg q hq).role hk).ch c (fun g hg hT => by
      have hlt := (h.fl.in_ hT).2
      have h1 := h.rf g hT
      skip
      rw [if_pos hlt, h1] at hg
      cases hg), h.wh.ch (lwch c) (fun k hT => (h.ds k (by rw [h.rf k hT]; decide)).1), fun k hk2 => ?_, h.wl⟩, c.mono (fun k _ e => .inr (by rw [h.rf k e]; decide)), fun k hk2 => ⟨rfl, hk k hk2⟩⟩
  · rcases n g hg with h1 | h1
    · exact hr g 3 (by decide) (h.rf g h1)
    · skip
      rw [if_neg (by omega), if_pos hg]
  · skip
    by_cases hlt : k < w.heap.size
    · rw [if_pos hlt] at hk2
      exact ⟨(h.ds k hk2).1, (h.ds k hk2).2.1, Nat.lt_of_lt_of_le hlt c.size⟩
    · rw [if_neg hlt] at hk2
      by_cases hT : s'.T k
      · exact ⟨h.new_lab (by omega), (f.in_ hT).1, (f.in_ hT).2⟩
      · rw [if_neg hT] at hk2
        exact absurd rfl hk2
/-- A Syn was put behind what waits. -/
theorem Wo.put (h : Wo base w lab ro cb lb z) (hb : base ≤ w.heap.size) {seq ack : Nat} {acks fin rst : Bool} (q : PutP w base cb z.c z.l z.g seq ack acks fin rst w') :
    ∃ (ro' : Nat → Nat) (v' ov dv : Value), Wo base w' lab ro' cb lb { z with c := { z.c with sv := v' }, g := z.g ++ [synSg z.l.ow z.l.ot z.c.op z.c.tp seq ack acks fin rst ov dv] } ∧ Fx lab ro w lab ro' w' ∧ (∃ ob, ov = .slice (some ⟨ob, 0, none⟩) 1 1 ∧ Own w' ob z.l.he.vals) := by
  obtain ⟨v', ob, dv, hdv, hC, hr8, hO, hob, hne, c, hv⟩ := q
  have hd : ∀ g d, d ≠ 1 → d ≠ 8 → ro g = d → ¬ (g = cb ∨ z.c.sv.ownBlock = some g) := fun g d h1 h8 e k => by
    rcases k with k | k
    · exact h1 (by rw [← e, k]; exact h.rc)
    · exact h8 (by rw [← e]; exact h.rg g k)
  have hk : ∀ k, k < w.heap.size → (if k < w.heap.size then ro k else if v'.ownBlock = some k then 8 else if k = ob then 9 else 0) = ro k := fun k hk => if_pos hk
  have hr : ∀ k d, d ≠ 0 → ro k = d → (if k < w.heap.size then ro k else if v'.ownBlock = some k then 8 else if k = ob then 9 else 0) = d := fun k d hd e => (hk k ((h.ds k (by rw [e]; exact hd)).2.2)).trans e
  have hro9 : (if ob < w.heap.size then ro ob else if v'.ownBlock = some ob then 8 else if ob = ob then 9 else 0) = 9 := by rw [if_neg (by omega), if_neg hne, if_pos rfl]
  refine ⟨fun k => if k < w.heap.size then ro k else if v'.ownBlock = some k then 8 else if k = ob then 9 else 0, v', _, dv, ⟨hC, hr _ 1 (by decide) h.rc, h.la.ch c (hd _ 2 (by decide) (by decide) h.rl), hr _ 2 (by decide) h.rl, h.fe, h.fl.frame c (fun g hg => hd _ 3 (by decide) (by decide) (h.rf g hg)), fun g hg => hr _ 3 (by decide) (h.rf g hg),
    h.sn.ch c (hd _ 4 (by decide) (by decide) h.rs.1) (hd _ 4 (by decide) (by decide) h.rs.2), ⟨hr _ 4 (by decide) h.rs.1, hr _ 4 (by decide) h.rs.2⟩, h.rn.ch c (hd _ 5 (by decide) (by decide) h.rr.1) (hd _ 5 (by decide) (by decide) h.rr.2.1) (hd _ 5 (by decide) (by decide) h.rr.2.2), ⟨hr _ 5 (by decide) h.rr.1, hr _ 5 (by decide) h.rr.2.1, hr _ 5 (by decide) h.rr.2.2⟩,
    h.pa.ch c (hd _ 6 (by decide) (by decide) h.rp), hr _ 6 (by decide) h.rp, own_ch2 h.lv c (fun g hg => hd _ 7 (by decide) (by decide) (h.rv g hg)), fun g hg => hr _ 7 (by decide) (h.rv g hg), by rw [List.length_append]; exact hr8, fun g hg => ?_,
    fun q hq => ?_, h.wh.ch (lwch c) (fun k hk2 => ?_), fun k hk2 => ?_, h.wl⟩, ⟨c.mono (fun k _ e => .inr ?_), fun k hk2 => ⟨rfl, hk k hk2⟩⟩, ob, rfl, hO⟩
  · have hg : v'.ownBlock = some g := hg
    rcases hv with hv | ⟨k, hv, hle⟩
    · exact hr g 8 (by decide) (h.rg g (hv ▸ hg))
    · rw [hg] at hv
      injection hv with hv
      subst hv
      rw [if_neg (by omega), if_pos hg]
  · rcases List.mem_append.1 hq with hq | hq
    · have h9 := h.sg q hq
      exact (h9.ch c (fun g hg => hd _ 9 (by decide) (by decide) hg)).elim fun h1 ⟨ob2, h2, h3, h4⟩ => ⟨h1, ob2, h2, h3, hr ob2 9 (by decide) h4⟩
    · obtain rfl : q = _ := by simpa using hq
      exact ⟨hdv, ob, rfl, hO, hro9⟩
  · rcases hk2 with rfl | hk2
    · exact (h.ds _ (by rw [h.rc]; decide)).1
    · exact (h.ds _ (by rw [h.rg k hk2]; decide)).1
  · skip
    by_cases hlt : k < w.heap.size
    · rw [if_pos hlt] at hk2
      exact ⟨(h.ds k hk2).1, (h.ds k hk2).2.1, Nat.lt_of_lt_of_le hlt c.size⟩
    · rw [if_neg hlt] at hk2
      by_cases h1 : v'.ownBlock = some k
      · exact ⟨h.new_lab (by omega), (own_in hr8 h1).1, (own_in hr8 h1).2⟩
      · rw [if_neg h1] at hk2
        by_cases h2 : k = ob
        · subst h2
          exact ⟨h.new_lab (by omega), by omega, hO.lt (by rw [Opn.vals_length]; omega)⟩
        · rw [if_neg h2] at hk2
          exact absurd rfl hk2
  · rcases e with rfl | e
    · rw [h.rc]; decide
    · rw [h.rg k e]; decide
end
end Go.Proofs.YtlcegchdkigibaaGreatDoor

namespace Go.Proofs.YtlcegchdkigibaaGreatDoor
set_option linter.unusedVariables false
set_option linter.unusedSimpArgs false
set_option maxRecDepth 20000
open Go.RowKit Go.Lib

/-- The timers, where they stand in a connection. -/
def tptr (b : Nat) : Value := .pointer (some ⟨b, 15, none⟩)
/-- How many ticks it is from the beginning on. -/
def snc (b t : Int) : Int := if t ≤ b then 0 else t - b
section
variable {base : Nat} {w w' : World} {lab ro lab' ro' : Nat → Nat} {cb lb : Nat} {z : Zc} {c : Cv}
set_option maxHeartbeats 1600000 in
theorem since_any (h : Ca w cb c) (t : Int) (hb : 0 ≤ c.bg ∧ c.bg ≤ 1152921504606846976) (ht : 0 ≤ t ∧ t ≤ 1152921504606846976) : Calls Tryz.prog 85 #[tptr cb, .int .i64 t] w fun e w' => e = .returned (.int .i64 (snc c.bg t)) ∧ w' = w := by
  have c1 := h.bg_
  clear h
  generalize c.bg = b at *
  unfold snc tptr
  by_cases h : t ≤ b
  · rw [if_pos h]
    go_enter Tryz.func85, Tryz.ntmps85
    go_wp2_with fail
    go_ret
    exact ⟨rfl, rfl⟩
  · rw [if_neg h]
    have h' : decide (t ≤ b) = false := decide_eq_false h
    have h1 : IntKind.u64.wrap t = t := by rw [IntKind.wrap_u64]; omega
    have h2 : IntKind.u64.wrap b = b := by rw [IntKind.wrap_u64]; omega
    have h3 : IntKind.u64.wrap (t - b) = t - b := by rw [IntKind.wrap_u64]; omega
    have hm : min (t - b) 4611686018427387903 = t - b := by omega
    have h4 : IntKind.i64.wrap (t - b) = t - b := by rw [IntKind.wrap_i64]; omega
    clear h hb ht
    go_enter Tryz.func85, Tryz.ntmps85
    go_wp2_with fail
    go_ret
    exact ⟨rfl, rfl⟩
theorem unset2_any (h : Ca w cb c) (h0 : c.a2 = 0) : Calls Tryz.prog 192 #[tptr cb, .int .i64 2] w fun e w' => e = .returned (.tuple #[]) ∧ Ca w' cb c ∧ Ch w w' (fun k => k = cb) := by
  have c1 := h.a2_
  have f1 := h.fz 19
  have HF : Hid (Ca (w.setCell ⟨cb, 19, none⟩ (.int .i64 0)) cb c) := Lib.hid (h.set 19 _ c (by
    obtain ⟨⟩ := c
    dsimp only at h0
    subst h0
    rfl))
  have HC := Lib.hid ((Ch.refl w (fun k => k = cb)).setCell (p := ⟨cb, 19, none⟩) (fun _ => rfl) (.int .i64 0))
  clear h
  unfold tptr
  go_enter Tryz.func192, Tryz.ntmps192
  go_wp2_with fail
  go_end0
  exact ⟨rfl, HF.out, HC.out⟩
theorem unset4_any (h : Ca w cb c) (h0 : c.a4 = 0) : Calls Tryz.prog 192 #[tptr cb, .int .i64 4] w fun e w' => e = .returned (.tuple #[]) ∧ Ca w' cb c ∧ Ch w w' (fun k => k = cb) := by
  have c1 := h.a4_
  have f1 := h.fz 21
  have HF : Hid (Ca (w.setCell ⟨cb, 21, none⟩ (.int .i64 0)) cb c) := Lib.hid (h.set 21 _ c (by
    obtain ⟨⟩ := c
    dsimp only at h0
    subst h0
    rfl))
  have HC := Lib.hid ((Ch.refl w (fun k => k = cb)).setCell (p := ⟨cb, 21, none⟩) (fun _ => rfl) (.int .i64 0))
  clear h
  unfold tptr
  go_enter Tryz.func192, Tryz.ntmps192
  go_wp2_with fail
  go_end0
  exact ⟨rfl, HF.out, HC.out⟩
theorem woL_ne {L : List (Int × Int)} {x : Int} (h : ∀ p ∈ L, p.1 ≠ x) : LW.woL L x = L := by
  unfold LW.woL
  rw [List.filter_eq_self]
  intro p hp
  exact decide_eq_true (h p hp)
theorem woL_all {L : List (Int × Int)} {x : Int} (h : ∀ p ∈ L, p.1 = x) : LW.woL L x = [] := by
  unfold LW.woL
  rw [List.filter_eq_nil_iff]
  intro p hp
  simpa using h p hp
/-- A timer that isn't set is cancelled. -/
theorem hangNo_any (h : Wo base w lab ro cb lb z) (hb : base ≤ w.heap.size) (x : Int) (a : Int) (hx : LW.isI x) (hn : z.n + 20000 ≤ 4611686018427387904) (hL : ∀ p ∈ z.L, p.1 ≠ x) :
    Calls Tryz.prog 206 #[tptr cb, .int .i64 x, .int .i64 a, .bool false] w fun e w' => e = .returned (.tuple #[]) ∧ Wo base w' lab ro cb lb z ∧ Fx lab ro w lab ro w' := by
  have c1 := h.ca.wb_
  have HW := Lib.hid h
  have HB : Hid (Below w.heap.size w (w.alloc (.cells #[.int .i64 x] 3))) := Lib.hid (below_a w _)
  have HC := Lib.hid (LW.ocancel_any (h.below HB.out).wh hx hn (g := w.heap.size) (cell_new w _ _) (h.new_lab (Nat.le_refl _)))
  clear h
  unfold tptr
  unfold LW.ptr at HC
  go_enter Tryz.func206, Tryz.ntmps206
  go_wp2_with fail
  refine HC.out.mono ?_
  rintro e w1 ⟨k, rfl, _, o1, f1⟩
  rw [woL_ne hL] at o1
  have HR := Lib.hid ((HW.out.below HB.out).wheel (by have := HB.out.size; omega) o1 f1)
  have HF := Lib.hid (Fx.trans (Fx.below lab ro HB.out) HR.out.2)
  have HZ : Hid (Wo base w1 lab ro cb lb z) := Lib.hid HR.out.1
  clear o1 f1 HC HR
  go_wp2_with fail
  refine bodyPost_ret (results_none rfl _ _ _) rfl ?_
  exact ⟨rfl, HZ.out, HF.out⟩
/-- .. that is set is armed: at the next tick at least. -/
theorem hangYes_any (h : Wo base w lab ro cb lb z) (hb : base ≤ w.heap.size) (x : Int) (a : Int) (hx : LW.isI x) (hn : z.n + 20000 ≤ 1152921504606846976) (hU : z.L.length ≤ 1099511627775) (ha : a ≤ (z.n : Int) + 4096) :
    Calls Tryz.prog 206 #[tptr cb, .int .i64 x, .int .i64 a, .bool true] w fun e w' => e = .returned (.tuple #[]) ∧ ∃ lab', Wo base w' lab' ro cb lb { z with L := LW.woL z.L x ++ [(x, max a ((z.n : Int) + 1))] } ∧ Fx lab ro w lab' ro w' := by
  have c1 := h.ca.wb_
  have HW := Lib.hid h
  have HN := Lib.hid (LW.onow_any h.wh)
  have HA := Lib.hid (LW.oarm_good h.wh hx (by omega) hU (t := max a ((z.n : Int) + 1)) (by omega))
  have hw1 : IntKind.i64.wrap ((z.n : Int) + 1) = (z.n : Int) + 1 := by rw [IntKind.wrap_i64]; omega
  have hw2 : IntKind.i64.wrap ((z.n : Int) + 4096) = (z.n : Int) + 4096 := by rw [IntKind.wrap_i64]; omega
  have hm : min (max a ((z.n : Int) + 1)) ((z.n : Int) + 4096) = max a ((z.n : Int) + 1) := by omega
  clear h
  unfold tptr
  unfold LW.ptr at HA HN
  go_enter Tryz.func206, Tryz.ntmps206
  go_wp2_with fail
  refine HN.out.mono ?_
  rintro e w1 ⟨rfl, rfl⟩
  go_wp2_with fail
  refine HA.out.mono ?_
  rintro e w2 ⟨rfl, lab', o1, f1⟩
  have HR := Lib.hid (HW.out.wheel hb o1 f1)
  clear o1 f1 HA
  go_wp2_with fail
  go_end0
  exact ⟨rfl, lab', HR.out.1, HR.out.2⟩
end
end Go.Proofs.YtlcegchdkigibaaGreatDoor

namespace Go.Proofs.YtlcegchdkigibaaGreatDoor
set_option linter.unusedVariables false
set_option linter.unusedSimpArgs false
set_option maxRecDepth 20000
open Go.RowKit Go.Lib

set_option maxHeartbeats 1600000 in
theorem insertNone_any (cmp : Value) (w : World) : Calls Tryz.prog 361 #[.slice none 0 0, .int .i64 0, .int .i64 0, cmp] w fun e w' => e = .returned (.tuple #[]) ∧ w' = w := by
  go_enter Tryz.func361, Tryz.ntmps361
  go_wp2_with fail
  go_loop [8] (fun i => i = .int .i64 1) (fun _ => 0)
  case atStart => rfl
  case round =>
    subst hrel
    go_wp2_with fail
    go_end0
    exact ⟨rfl, rfl⟩
set_option maxHeartbeats 1600000 in
theorem len64_any (w : World) : Calls Tryz.prog 232 #[.int .u64 0] w fun e w' => e = .returned (.int .i64 0) ∧ w' = w := by
  go_enter Tryz.func232, Tryz.ntmps232
  go_wp2_with fail
  go_ret
  exact ⟨by kernel_rfl, rfl⟩
set_option maxHeartbeats 1600000 in
theorem len0_any (w : World) : Calls Tryz.prog 162 #[.int .u64 0] w fun e w' => e = .returned (.int .i64 0) ∧ w' = w := by
  have HL := Lib.hid (fun W => len64_any W)
  go_enter Tryz.func162, Tryz.ntmps162
  go_wp2_with fail
  refine (HL.out _).mono ?_
  rintro e w1 ⟨rfl, rfl⟩
  go_wp2_with fail
  go_ret
  exact ⟨rfl, rfl⟩
set_option maxHeartbeats 1600000 in
theorem pdqNone_any (cmp : Value) (w : World) : Calls Tryz.prog 305 #[.slice none 0 0, .int .i64 0, .int .i64 0, .int .i64 0, cmp] w fun e w' => e = .returned (.tuple #[]) ∧ w' = w := by
  have HI := Lib.hid (fun W => insertNone_any cmp W)
  go_enter Tryz.func305, Tryz.ntmps305
  go_wp2_with fail
  go_loop [1, 2] (fun a b => a = .int .i64 0 ∧ b = .int .i64 0) (fun _ _ => 0)
  case atStart => exact ⟨rfl, rfl⟩
  case round =>
    obtain ⟨rfl, rfl⟩ := hrel
    go_wp2_with fail
    refine (HI.out _).mono ?_
    rintro e w1 ⟨rfl, rfl⟩
    go_wp2_with fail
    refine bodyPost_ret (results_none rfl _ _ _) rfl ?_
    exact ⟨rfl, rfl⟩
theorem cloneNone_any (w : World) : Calls Tryz.prog 240 #[.slice none 0 0] w fun e w' => e = .returned (.slice none 0 0) ∧ w' = w := by
  have he : ∀ W, (binOp .eql 292 (.slice none 0 0) (.slice none 0 0)).run Tryz.prog W = .ok (.bool true) W := fun W => by kernel_rfl
  go_enter Tryz.func240, Tryz.ntmps240
  go_wp2_with fail
  go_ret
  exact ⟨rfl, rfl⟩
theorem sortNone_any (cmp : Value) (w : World) : Calls Tryz.prog 241 #[.slice none 0 0, cmp] w fun e w' => e = .returned (.tuple #[]) ∧ w' = w := by
  have HL := Lib.hid (fun W => len0_any W)
  have HP := Lib.hid (fun W => pdqNone_any cmp W)
  go_enter Tryz.func241, Tryz.ntmps241
  go_wp2_with fail
  refine (HL.out _).mono ?_
  rintro e w1 ⟨rfl, rfl⟩
  go_wp2_with fail
  refine (HP.out _).mono ?_
  rintro e w1 ⟨rfl, rfl⟩
  go_wp2_with fail
  go_end0
  exact ⟨rfl, rfl⟩
set_option maxHeartbeats 1600000 in
theorem spanNew_any (w : World) : Calls Tryz.prog 169 #[.slice none 0 0] w fun e w' => ∃ ob, e = .returned (cptr ob) ∧ w.heap.size ≤ ob ∧ w'.heap[ob]? = some (.cells #[.slice none 0 0] 294 (0, 0)) ∧ Below w.heap.size w w' := by
  have HB := Lib.hid (below_a w (.cells #[.slice none 0 0] 294))
  have HO : Hid ((w.alloc (.cells #[.slice none 0 0] 294)).heap[w.heap.size]? = some (.cells #[.slice none 0 0] 294 (0, 0))) := Lib.hid (heap_alloc_new w _)
  have HC := Lib.hid (fun W => cloneNone_any W)
  have HS := Lib.hid (fun c W => sortNone_any c W)
  go_enter Tryz.func169, Tryz.ntmps169
  go_wp2_with fail
  refine (HC.out _).mono ?_
  rintro e w1 ⟨rfl, rfl⟩
  go_wp2_with fail
  refine (HS.out _ _).mono ?_
  rintro e w1 ⟨rfl, rfl⟩
  go_wp2_with fail
  go_loopw [15] (fun i wr => i = .int .i64 0 ∧ wr = w.alloc (.cells #[.slice none 0 0] 294)) (fun _ _ => 0)
  case atStart => exact ⟨rfl, rfl⟩
  case round =>
    obtain ⟨rfl, rfl⟩ := hrel
    go_wp2_with fail
    go_ret
    exact ⟨w.heap.size, rfl, Nat.le_refl _, HO.out, HB.out⟩
def SnNew (w : World) (e : Ending) (w' : World) : Prop := ∃ sb ob, e = .returned (cptr sb) ∧ w.heap.size ≤ sb ∧ w.heap.size ≤ ob ∧ Sn w' sb ob ∧ Below w.heap.size w w'
set_option maxHeartbeats 1600000 in
theorem dsendNew_any (w : World) : Calls Tryz.prog 116 #[] w (SnNew w) := by
  have HN := Lib.hid (spanNew_any w)
  go_enter Tryz.func116, Tryz.ntmps116
  go_wp2_with fail
  refine (HN.out).mono ?_
  rintro e w1 ⟨ob, rfl, h1, h2, b1⟩
  have HF : Hid (SnNew w (.returned (cptr w1.heap.size)) (w1.alloc (.cells #[cptr ob, .slice none 0 0, .int .i64 1, .int .i64 1, .int .i64 33, .bool false, .bool false] 180))) := by
    have hs1 := b1.size
    have hlt := (Array.getElem?_eq_some_iff.1 h2).1
    exact Lib.hid ⟨w1.heap.size, ob, rfl, hs1, h1, ⟨heap_alloc_new w1 _, ((below_a w1 _).block _ hlt).trans h2⟩, b1.alloc hs1 _⟩
  clear h1 h2 b1
  unfold cptr at *
  go_wp2_with fail
  go_ret
  exact HF.out
def RnNew (w : World) (e : Ending) (w' : World) : Prop := ∃ rb ob mb, e = .returned (cptr rb) ∧ w.heap.size ≤ rb ∧ w.heap.size ≤ ob ∧ w.heap.size ≤ mb ∧ Rn w' rb ob mb ∧ Below w.heap.size w w'
set_option maxHeartbeats 1600000 in
theorem drecvNew_any (w : World) : Calls Tryz.prog 117 #[] w (RnNew w) := by
  have HN := Lib.hid (spanNew_any w)
  have hmm := @run_makeMap Tryz.prog
  go_enter Tryz.func117, Tryz.ntmps117
  go_wp2_with fail
  refine (HN.out).mono ?_
  rintro e w1 ⟨ob, rfl, h1, h2, b1⟩
  have HF : Hid (RnNew w (.returned (cptr (w1.heap.size + 1))) ((w1.alloc (.map #[] 0)).alloc (.cells #[.int .i64 1, .slice none 0 0, cptr ob, .map (some w1.heap.size), .int .i64 0] 184))) := by
    have hs1 := b1.size
    have hlt := (Array.getElem?_eq_some_iff.1 h2).1
    have hs2 : (w1.alloc (.map #[] 0)).heap.size = w1.heap.size + 1 := by simp
    have h3 := heap_alloc_new (w1.alloc (.map #[] 0)) (.cells #[.int .i64 1, .slice none 0 0, cptr ob, .map (some w1.heap.size), .int .i64 0] 184)
    rw [hs2] at h3
    refine Lib.hid ⟨w1.heap.size + 1, ob, w1.heap.size, rfl, by omega, h1, hs1, ⟨h3, ((below_a2 w1 _ _).block _ hlt).trans h2, ?_⟩, (b1.alloc hs1 _).alloc (by omega) _⟩
    exact ((below_a (w1.alloc (.map #[] 0)) _).block w1.heap.size (by omega)).trans (heap_alloc_new w1 _)
  clear h1 h2 b1
  unfold cptr at *
  go_wp2_with fail
  go_ret
  exact HF.out

section
variable {w : World} {sb rb ob mb : Nat}
theorem Sn.at_ (h : Sn w sb ob) (j : Nat) : w.cell? ⟨sb, j, none⟩ = (#[cptr ob, .slice none 0 0, .int .i64 1, .int .i64 1, .int .i64 33, .bool false, .bool false] : Array Value)[j]? := cell_of_row w sb j _ _ (0, 0) h.s
theorem Rn.at_ (h : Rn w rb ob mb) (j : Nat) : w.cell? ⟨rb, j, none⟩ = (#[.int .i64 1, .slice none 0 0, cptr ob, .map (some mb), .int .i64 0] : Array Value)[j]? := cell_of_row w rb j _ _ (0, 0) h.r
theorem sDone_any (h : Sn w sb ob) : Calls Tryz.prog 197 #[cptr sb] w fun e w' => e = .returned (.bool false) ∧ w' = w := by
  have c6 : w.cell? ⟨sb, 6, none⟩ = some (.bool false) := by rw [h.at_ 6]; rfl
  clear h
  unfold cptr
  go_enter Tryz.func197, Tryz.ntmps197
  go_wp2_with fail
  go_ret
  exact ⟨rfl, rfl⟩
theorem sDue_any (h : Sn w sb ob) : Calls Tryz.prog 203 #[cptr sb] w fun e w' => e = .returned (.tuple #[.int .i64 0, .bool false]) ∧ w' = w := by
  have c5 : w.cell? ⟨sb, 5, none⟩ = some (.bool false) := by rw [h.at_ 5]; rfl
  clear h
  unfold cptr
  go_enter Tryz.func203, Tryz.ntmps203
  go_wp2_with fail
  go_ret2
  exact ⟨rfl, rfl⟩
theorem sNext_any (h : Sn w sb ob) : Calls Tryz.prog 285 #[cptr sb] w fun e w' => e = .returned (.int .i64 1) ∧ w' = w := by
  have c3 : w.cell? ⟨sb, 3, none⟩ = some (.int .i64 1) := by rw [h.at_ 3]; rfl
  clear h
  unfold cptr
  go_enter Tryz.func285, Tryz.ntmps285
  go_wp2_with fail
  go_ret
  exact ⟨rfl, rfl⟩
theorem sUna_any (h : Sn w sb ob) : Calls Tryz.prog 274 #[cptr sb] w fun e w' => e = .returned (.int .i64 1) ∧ w' = w := by
  have c2 : w.cell? ⟨sb, 2, none⟩ = some (.int .i64 1) := by rw [h.at_ 2]; rfl
  clear h
  unfold cptr
  go_enter Tryz.func274, Tryz.ntmps274
  go_wp2_with fail
  go_ret
  exact ⟨rfl, rfl⟩
theorem sHeld_any (h : Sn w sb ob) : Calls Tryz.prog 286 #[cptr sb] w fun e w' => e = .returned (.int .i64 0) ∧ w' = w := by
  have c1 : w.cell? ⟨sb, 1, none⟩ = some (.slice none 0 0) := by rw [h.at_ 1]; rfl
  clear h
  unfold cptr
  go_enter Tryz.func286, Tryz.ntmps286
  go_wp2_with fail
  go_ret
  exact ⟨rfl, rfl⟩
theorem rEnded_any (h : Rn w rb ob mb) : Calls Tryz.prog 143 #[cptr rb] w fun e w' => e = .returned (.bool false) ∧ Below w.heap.size w w' := by
  have c0 : w.cell? ⟨rb, 0, none⟩ = some (.int .i64 1) := by rw [h.at_ 0]; rfl
  have c4 : w.cell? ⟨rb, 4, none⟩ = some (.int .i64 0) := by rw [h.at_ 4]; rfl
  clear h
  unfold cptr
  go_enter Tryz.func143, Tryz.ntmps143
  go_wp2_with fail
  go_quiet (fail)
  go_wp2_with fail
  go_ret
  exact ⟨rfl, below_dn (Below.refl _ _) _⟩
end
end Go.Proofs.YtlcegchdkigibaaGreatDoor

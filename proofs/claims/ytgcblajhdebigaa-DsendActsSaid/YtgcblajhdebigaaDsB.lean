/- A copy of bytes; a sender in memory: its cells, its data's row, the set of what is lost; what a call leaves; its small calls. Conditions: the sender stands. -/
import Derived.Test.YtgcblajhdebigaaDsA
namespace Go.Proofs.Ytgcblajhdebigaa
set_option linter.unusedVariables false
set_option linter.unusedSimpArgs false
open Go.RowKit Go.Lib

set_option maxHeartbeats 1600000 in
theorem cloneB_any {w : World} {A : Option Addr} {n c : Nat} {l : List UInt8} (h : RB w A n c l) (h0 : 0 < n) (hn : n ≤ 1099511627776) : Calls Try.prog 33 #[.slice A n c] w (OwnMade w n l) := by
  obtain ⟨g, o, rfl, _⟩ := h.at_ h0
  have he : ∀ W, (binOp .eql 28 (.slice (some ⟨g, o, none⟩) n c) (.slice none 0 0)).run Try.prog W = .ok (.bool false) W := fun W => run_eql_slice_nil W _ _ _ n c 0 0 undByte
  go_enter Try.func33, Try.ntmps33
  go_wp2_with (at_builtin; refine wpList_app_lit rfl _ _ _ _ rfl undByte infoByte rfl _ n c l rfl h hn ?_; intro A' c' w' q1 q2 q3)
  go_ret
  exact ⟨_, _, rfl, q1, q2, q3⟩

/-! A sender in memory. -/
/-- Where a sender lies: the set, the data's row, the runs' row; the runs. -/
structure Sh where
  ob : Nat
  dv : Value
  lv : Value
  l : List Rn
def Sh.T (sb : Nat) (z : Sh) (k : Nat) : Prop := k = sb ∨ k = z.ob ∨ z.dv.ownBlock = some k ∨ z.lv.ownBlock = some k
/-- The runs have just the numbers that are lost. -/
def Ls (l : List Rn) (L : Nat → Bool) : Prop := ∀ n : Int, Has l n ↔ 0 ≤ n ∧ L n.toNat = true
def cellsOf (z : Sh) (d : Dq) : Array Value := #[ptr z.ob, z.dv, .int .i64 (d.una : Int), .int .i64 (d.next : Int), .int .i64 (d.edge : Int), .bool d.told, .bool d.done]
structure Sd (base : Nat) (w : World) (sb : Nat) (z : Sh) (d : Dq) : Prop where
  blk : w.heap[sb]? = some (.cells (cellsOf z d) 64 (0, 0))
  st : St w z.ob z.lv z.l
  ls : Ls z.l d.L
  data : w.ownsRow base 5 1 z.dv d.held (bv (d.all.drop (d.una - 1)))
  ok : d.ok
  cap : d.fin ≤ 1073741824
  ecap : d.edge ≤ 2147483648
  lo : base ≤ sb ∧ base ≤ z.ob
  lvlo : ∀ k, z.lv.ownBlock = some k → base ≤ k
/-- What a call leaves. -/
structure Left (base : Nat) (w : World) (sb : Nat) (z : Sh) (d' : Dq) (w' : World) (z' : Sh) : Prop where
  s : Sd base w' sb z' d'
  ch : Ch w w' (z.T sb)
  new : ∀ k, z'.T sb k → z.T sb k ∨ w.heap.size ≤ k

theorem row_obj {w : World} {v : Value} {l : List Rn} (h : Row w v l) {g : Nat} (hg : v.ownBlock = some g) : ∃ cs, w.heap[g]? = some (.cells cs 66 (0, 0)) := by
  rcases h with ⟨rfl, _⟩ | ⟨g', o, c, cs, rfl, hb, _⟩
  · cases hg
  · injection hg with hg
    subst hg
    exact ⟨cs, hb⟩
theorem own_obj {w : World} {base n : Nat} {e : TypeId} {v : Value} {xs : List Value} (h : w.ownsRow base e 1 v n xs) {g : Nat} (hg : v.ownBlock = some g) : ∃ cs, w.heap[g]? = some (.cells cs e (0, 0)) := by
  rcases h.2 with ⟨rfl, _⟩ | ⟨g', cap, cur, rfl, hb, hg', _⟩
  · cases hg
  · injection hg with hg
    subst hg
    exact ⟨cur, hg'⟩
theorem two_types {w : World} {g : Nat} {a b : Array Value} {t u : TypeId} (h : w.heap[g]? = some (.cells a t (0, 0))) (k : w.heap[g]? = some (.cells b u (0, 0))) (hne : t ≠ u) : False := by
  rw [h] at k
  injection k with k
  injection k with _ k
  exact hne k

section
variable {base : Nat} {w w' : World} {sb : Nat} {z : Sh} {d : Dq}
theorem Sd.lt (h : Sd base w sb z d) : sb < w.heap.size := (Array.getElem?_eq_some_iff.1 h.blk).1
theorem Sd.cell (h : Sd base w sb z d) (j : Nat) : w.cell? ⟨sb, j, none⟩ = (cellsOf z d)[j]? := by rw [cell_of_row w sb j _ _ (0, 0) h.blk]
theorem Sd.fz (h : Sd base w sb z d) (j : Nat) : w.frozen? ⟨sb, j, none⟩ = false := frozen_of h.blk j
theorem Sd.in_ (h : Sd base w sb z d) {k : Nat} (hk : z.T sb k) : base ≤ k ∧ k < w.heap.size := by
  rcases hk with rfl | rfl | hk | hk
  · exact ⟨h.lo.1, h.lt⟩
  · exact ⟨h.lo.2, h.st.lt⟩
  · exact own_in h.data hk
  · exact ⟨h.lvlo k hk, h.st.row.lt hk⟩
theorem Sd.apart (h : Sd base w sb z d) : z.ob ≠ sb ∧ z.dv.ownBlock ≠ some sb ∧ z.lv.ownBlock ≠ some sb ∧ z.dv.ownBlock ≠ some z.ob ∧ ∀ g, z.dv.ownBlock = some g → z.lv.ownBlock ≠ some g := by
  refine ⟨fun e => ?_, fun e => ?_, fun e => ?_, fun e => ?_, fun g e e2 => ?_⟩
  · exact two_types (e ▸ h.st.blk) h.blk (by decide)
  · obtain ⟨cs, h1⟩ := own_obj h.data e
    exact two_types h1 h.blk (by decide)
  · obtain ⟨cs, h1⟩ := row_obj h.st.row e
    exact two_types h1 h.blk (by decide)
  · obtain ⟨cs, h1⟩ := own_obj h.data e
    exact two_types h1 h.st.blk (by decide)
  · obtain ⟨cs, h1⟩ := own_obj h.data e
    obtain ⟨cs', h2⟩ := row_obj h.st.row e2
    exact two_types h1 h2 (by decide)
theorem Sd.frame (h : Sd base w sb z d) {m : Nat → Prop} (c : Ch w w' m) (hm : ∀ k, z.T sb k → ¬ m k) : Sd base w' sb z d :=
  ⟨(c.block sb h.lt (hm sb (.inl rfl))).trans h.blk, h.st.ch c (hm _ (.inr (.inl rfl))) (fun g hg => hm g (.inr (.inr (.inr hg)))), h.ls, own_ch2 h.data c (fun g hg => hm g (.inr (.inr (.inl hg)))), h.ok, h.cap, h.ecap, h.lo, h.lvlo⟩
theorem Sd.below (h : Sd base w sb z d) (b : Below w.heap.size w w') : Sd base w' sb z d := h.frame (Ch.of_below (fun _ => False) b) (fun _ _ e => e)
theorem Left.refl (h : Sd base w sb z d) : Left base w sb z d w z := ⟨h, Ch.refl _ _, fun _ h => .inl h⟩
theorem Left.of_below (h : Sd base w sb z d) (b : Below w.heap.size w w') : Left base w sb z d w' z := ⟨h.below b, Ch.of_below _ b, fun _ h => .inl h⟩
theorem Left.then_ {w2 : World} {z1 z2 : Sh} {d1 d2 : Dq} (h : Left base w sb z d1 w' z1) (k : Left base w' sb z1 d2 w2 z2) : Left base w sb z d2 w2 z2 :=
  ⟨k.s, h.ch.trans k.ch (fun _ _ x => x) (fun x hx e => (h.new x e).elim id (fun q => absurd hx (by omega))), fun x hx => (k.new x hx).elim (h.new x) (fun q => .inr (Nat.le_trans h.ch.size q))⟩
theorem Left.after {w2 : World} {z1 : Sh} {d1 : Dq} (h : Left base w sb z d1 w' z1) (b : Below w'.heap.size w' w2) : Left base w sb z d1 w2 z1 := h.then_ (Left.of_below h.s b)
theorem Left.ahead {w0 : World} {z1 : Sh} {d1 : Dq} (h : Left base w sb z d1 w' z1) (b : Below w0.heap.size w0 w) (hz : ∀ k, z.T sb k → k < w0.heap.size) : Left base w0 sb z d1 w' z1 :=
  ⟨h.s, (Ch.of_below _ b).then_ h.ch, fun k hk => (h.new k hk).imp id (fun q => Nat.le_trans b.size q)⟩
/-- All that a law keeps is newer than its beginning: nothing else has turned. -/
theorem Left.bel {z1 : Sh} {d1 : Dq} (h : Left base w sb z d1 w' z1) (hs : Sd base w sb z d) {W : World} (hW : W.heap.size ≤ base) (b : Below W.heap.size W w) : Below W.heap.size W w' :=
  ((Ch.of_below (z.T sb) b).then_ h.ch).below fun x hx e => by have := (hs.in_ e).1; omega
theorem Sd.dv (h : Sd base w sb z d) : ∃ A c, z.dv = .slice A d.held c ∧ RB w A d.held c (d.all.drop (d.una - 1)) := by
  obtain ⟨A, c, e, r, _⟩ := RB.of_own h.data
  exact ⟨A, c, e, r⟩
theorem Sd.nums (h : Sd base w sb z d) : 1 ≤ d.una ∧ d.una ≤ d.next ∧ d.next ≤ d.fin ∧ d.next ≤ d.edge ∧ d.fin ≤ d.una + 64 ∧ d.fin ≤ 1073741824 ∧ d.edge ≤ 2147483648 ∧ d.una + d.held = d.fin ∧ d.held ≤ 64 := by
  have h1 := h.ok.u1
  have h2 := h.ok.un
  have h3 := h.ok.ne
  have h4 := h.ok.ng
  have h5 := h.ok.room
  have h6 := h.cap
  have h7 := h.ecap
  unfold Dq.held
  omega
end

/-- Some cells of the sender's own turn, and its data's row: the rest stays. -/
theorem Sd.upd {base : Nat} {w w' : World} {sb : Nat} {z : Sh} {d d' : Dq} (h : Sd base w sb z d) {dv' : Value} (hb : w'.heap[sb]? = some (.cells (cellsOf { z with dv := dv' } d') 64 (0, 0)))
    (c : Ch w w' (fun k => k = sb ∨ z.dv.ownBlock = some k)) (hL : Ls z.l d'.L) (hd : w'.ownsRow base 5 1 dv' d'.held (bv (d'.all.drop (d'.una - 1)))) (ho : d'.ok) (h1 : d'.fin ≤ 1073741824) (h2 : d'.edge ≤ 2147483648) :
    Sd base w' sb { z with dv := dv' } d' := by
  obtain ⟨a1, a2, a3, a4, a5⟩ := h.apart
  refine ⟨hb, h.st.ch c (fun e => e.elim a1 (fun e => a4 e)) (fun g hg e => e.elim (fun e => a3 (e ▸ hg)) (fun e => a5 g e hg)), hL, hd, ho, h1, h2, h.lo, h.lvlo⟩
theorem blk_set {w : World} {g : Nat} {cs : Array Value} {t : TypeId} (h : w.heap[g]? = some (.cells cs t (0, 0))) (j : Nat) (u : Value) : (w.setCell ⟨g, j, none⟩ u).heap[g]? = some (.cells (cs.setIfInBounds j u) t (0, 0)) := by
  simp [World.setCell, Array.getElem?_modify, h]

/-! The small calls. -/
section
variable {base : Nat} {w : World} {sb : Nat} {z : Sh} {d : Dq}
theorem Una_any (H : Sd base w sb z d) : Calls Try.prog 24 #[ptr sb] w fun e w' => e = .returned (.int .i64 (d.una : Int)) ∧ w' = w := by
  have c2 := H.cell 2
  unfold cellsOf at c2
  clear H
  unfold ptr
  go_enter Try.func24, Try.ntmps24
  go_wp2_with fail
  go_ret
  exact ⟨rfl, rfl⟩
theorem Next_sd (H : Sd base w sb z d) : Calls Try.prog 23 #[ptr sb] w fun e w' => e = .returned (.int .i64 (d.next : Int)) ∧ w' = w := by
  have c2 := H.cell 3
  unfold cellsOf at c2
  clear H
  unfold ptr
  go_enter Try.func23, Try.ntmps23
  go_wp2_with fail
  go_ret
  exact ⟨rfl, rfl⟩
theorem Edge_any (H : Sd base w sb z d) : Calls Try.prog 25 #[ptr sb] w fun e w' => e = .returned (.int .i64 (d.edge : Int)) ∧ w' = w := by
  have c2 := H.cell 4
  unfold cellsOf at c2
  clear H
  unfold ptr
  go_enter Try.func25, Try.ntmps25
  go_wp2_with fail
  go_ret
  exact ⟨rfl, rfl⟩
theorem Done_any (H : Sd base w sb z d) : Calls Try.prog 28 #[ptr sb] w fun e w' => e = .returned (.bool d.done) ∧ w' = w := by
  have c2 := H.cell 6
  unfold cellsOf at c2
  clear H
  unfold ptr
  go_enter Try.func28, Try.ntmps28
  go_wp2_with fail
  go_ret
  exact ⟨rfl, rfl⟩
theorem Held_any (H : Sd base w sb z d) : Calls Try.prog 26 #[ptr sb] w fun e w' => e = .returned (.int .i64 (d.held : Int)) ∧ w' = w := by
  have c2 := H.cell 1
  obtain ⟨A, c, e, r⟩ := H.dv
  unfold cellsOf at c2
  rw [e] at c2
  clear H r e
  unfold ptr
  go_enter Try.func26, Try.ntmps26
  go_wp2_with fail
  go_ret
  exact ⟨rfl, rfl⟩
theorem end_sd (H : Sd base w sb z d) : Calls Try.prog 36 #[ptr sb] w fun e w' => e = .returned (.int .i64 (d.fin : Int)) ∧ Below w.heap.size w w' := by
  have c1 := H.cell 1
  have c2 := H.cell 2
  obtain ⟨A, c, e, r⟩ := H.dv
  have hn := H.nums
  have hw : IntKind.i64.wrap ((d.una : Int) + (d.held : Int)) = (d.fin : Int) := by rw [IntKind.wrap_i64]; omega
  have hb : ∀ n, Below w.heap.size w (w.drewN n) := fun n => below_dn (Below.refl _ _) n
  unfold cellsOf at c1 c2
  rw [e] at c1
  generalize d.held = hd at *
  generalize d.una = un at *
  generalize d.fin = fn at *
  clear H r e hn
  unfold ptr
  go_enter Try.func36, Try.ntmps36
  go_wp2_with fail
  go_quiet (fail)
  go_wp2_with fail
  go_ret
  exact ⟨rfl, hb _⟩
end
end Go.Proofs.Ytgcblajhdebigaa

/- A receiver in memory: its cells, its data's row, the set of which numbers came, the map of their data; what a call leaves; its small calls. Conditions: the receiver stands. -/
import Derived.Test.YtancbdnpmabpfaaDrA
import Derived.Test.YtancbdnpmabpfaaDrM
namespace Go.Proofs.Ytancbdnpmabpfaa
set_option linter.unusedVariables false
set_option linter.unusedSimpArgs false
open Go.RowKit Go.Lib

/-- Where a receiver lies: the set, the map, the data's row, the runs' row; the runs. -/
structure Sh where
  ob : Nat
  mb : Nat
  dv : Value
  lv : Value
  l : List Rn
def Sh.T (rb : Nat) (z : Sh) (k : Nat) : Prop := k = rb ∨ k = z.ob ∨ k = z.mb ∨ z.dv.ownBlock = some k ∨ z.lv.ownBlock = some k
def cellsOf (z : Sh) (nx en : Nat) : Array Value := #[.int .i64 (nx : Int), z.dv, ptr z.ob, .map (some z.mb), .int .i64 (en : Int)]
/-- A receiver, as its memory has it. -/
structure Rw (base : Nat) (w : World) (rb : Nat) (z : Sh) (nx en : Nat) (D : List UInt8) (F : Int → Option UInt8) (t : Nat) : Prop where
  blk : w.heap[rb]? = some (.cells (cellsOf z nx en) 50 (0, 0))
  st : St w z.ob z.lv z.l
  map : ∃ n, n ≤ t ∧ MapV w z.mb F n
  data : w.ownsRow base 5 1 z.dv D.length (bv D)
  lo : base ≤ rb ∧ base ≤ z.ob ∧ base ≤ z.mb
  lvlo : ∀ k, z.lv.ownBlock = some k → base ≤ k
/-- Where a call went. -/
structure Mv (w : World) (rb : Nat) (z : Sh) (w' : World) (z' : Sh) : Prop where
  ch : Ch w w' (z.T rb)
  new : ∀ k, z'.T rb k → z.T rb k ∨ w.heap.size ≤ k

theorem map_cells {w : World} {g : Nat} {es : Array MapEntry} {cl : Nat} {cs : Array Value} {t : TypeId} (h : w.heap[g]? = some (.map es cl)) (k : w.heap[g]? = some (.cells cs t (0, 0))) : False := by
  rw [h] at k
  injection k with k
  cases k

section
variable {base : Nat} {w w' : World} {rb : Nat} {z z' : Sh} {nx en t : Nat} {D : List UInt8} {F : Int → Option UInt8}
theorem Rw.lt (h : Rw base w rb z nx en D F t) : rb < w.heap.size := (Array.getElem?_eq_some_iff.1 h.blk).1
theorem Rw.mlt (h : Rw base w rb z nx en D F t) : z.mb < w.heap.size := h.map.elim fun _ h => h.2.lt
theorem Rw.cell (h : Rw base w rb z nx en D F t) (j : Nat) : w.cell? ⟨rb, j, none⟩ = (cellsOf z nx en)[j]? := by rw [cell_of_row w rb j _ _ (0, 0) h.blk]
theorem Rw.fz (h : Rw base w rb z nx en D F t) (j : Nat) : w.frozen? ⟨rb, j, none⟩ = false := frozen_of h.blk j
theorem Rw.in_ (h : Rw base w rb z nx en D F t) {k : Nat} (hk : z.T rb k) : base ≤ k ∧ k < w.heap.size := by
  rcases hk with rfl | rfl | rfl | hk | hk
  · exact ⟨h.lo.1, h.lt⟩
  · exact ⟨h.lo.2.1, h.st.lt⟩
  · exact ⟨h.lo.2.2, h.mlt⟩
  · exact own_in h.data hk
  · exact ⟨h.lvlo k hk, h.st.row.lt hk⟩
/-- All its blocks are apart. -/
structure Ap (rb : Nat) (z : Sh) : Prop where
  or : z.ob ≠ rb
  mr : z.mb ≠ rb
  mo : z.mb ≠ z.ob
  dr : z.dv.ownBlock ≠ some rb
  d_o : z.dv.ownBlock ≠ some z.ob
  dm : z.dv.ownBlock ≠ some z.mb
  lr : z.lv.ownBlock ≠ some rb
  lm : z.lv.ownBlock ≠ some z.mb
  dl : ∀ g, z.dv.ownBlock = some g → z.lv.ownBlock ≠ some g
theorem Rw.apart (h : Rw base w rb z nx en D F t) : Ap rb z := by
  obtain ⟨n, _, hm⟩ := h.map
  obtain ⟨es, cl, hmb⟩ := hm.obj
  refine ⟨fun e => ?_, fun e => ?_, fun e => ?_, fun e => ?_, fun e => ?_, fun e => ?_, fun e => ?_, fun e => ?_, fun g e e2 => ?_⟩
  · exact two_types (e ▸ h.st.blk) h.blk (by decide)
  · exact map_cells (e ▸ hmb) h.blk
  · exact map_cells (e ▸ hmb) h.st.blk
  · obtain ⟨cs, h1⟩ := own_obj h.data e
    exact two_types h1 h.blk (by decide)
  · obtain ⟨cs, h1⟩ := own_obj h.data e
    exact two_types h1 h.st.blk (by decide)
  · obtain ⟨cs, h1⟩ := own_obj h.data e
    exact map_cells hmb h1
  · obtain ⟨cs, h1⟩ := row_obj h.st.row e
    exact two_types h1 h.blk (by decide)
  · obtain ⟨cs, h1⟩ := row_obj h.st.row e
    exact map_cells hmb h1
  · obtain ⟨cs, h1⟩ := own_obj h.data e
    obtain ⟨cs', h2⟩ := row_obj h.st.row e2
    exact two_types h1 h2 (by decide)
theorem Rw.frame (h : Rw base w rb z nx en D F t) {m : Nat → Prop} (c : Ch w w' m) (hm : ∀ k, z.T rb k → ¬ m k) : Rw base w' rb z nx en D F t := by
  obtain ⟨n, hn, hM⟩ := h.map
  exact ⟨(c.block rb h.lt (hm rb (.inl rfl))).trans h.blk, h.st.ch c (hm _ (.inr (.inl rfl))) (fun g hg => hm g (.inr (.inr (.inr (.inr hg))))), ⟨n, hn, hM.keep (c.block _ hM.lt (hm _ (.inr (.inr (.inl rfl)))))⟩, own_ch2 h.data c (fun g hg => hm g (.inr (.inr (.inr (.inl hg))))), h.lo, h.lvlo⟩
theorem Rw.below (h : Rw base w rb z nx en D F t) (b : Below w.heap.size w w') : Rw base w' rb z nx en D F t := h.frame (Ch.of_below (fun _ => False) b) (fun _ _ e => e)
theorem Mv.refl (w : World) (rb : Nat) (z : Sh) : Mv w rb z w z := ⟨Ch.refl _ _, fun _ h => .inl h⟩
theorem Mv.of_below (b : Below w.heap.size w w') : Mv w rb z w' z := ⟨Ch.of_below _ b, fun _ h => .inl h⟩
theorem Mv.then_ {w2 : World} {z2 : Sh} (h : Mv w rb z w' z') (k : Mv w' rb z' w2 z2) : Mv w rb z w2 z2 :=
  ⟨h.ch.trans k.ch (fun _ _ x => x) (fun x hx e => (h.new x e).elim id (fun q => absurd hx (by omega))), fun x hx => (k.new x hx).elim (h.new x) (fun q => .inr (Nat.le_trans h.ch.size q))⟩
theorem Mv.after {w2 : World} (h : Mv w rb z w' z') (b : Below w'.heap.size w' w2) : Mv w rb z w2 z' := h.then_ (Mv.of_below b)
theorem Mv.ahead {w0 : World} (h : Mv w rb z w' z') (b : Below w0.heap.size w0 w) : Mv w0 rb z w' z' := (Mv.of_below b).then_ h
/-- All that a law keeps is newer than its beginning: nothing else has turned. -/
theorem Mv.bel (h : Mv w rb z w' z') (hs : Rw base w rb z nx en D F t) {W : World} (hW : W.heap.size ≤ base) (b : Below W.heap.size W w) : Below W.heap.size W w' :=
  ((Ch.of_below (z.T rb) b).then_ h.ch).below fun x hx e => by have := (hs.in_ e).1; omega
theorem Rw.dv (h : Rw base w rb z nx en D F t) : ∃ A c, z.dv = .slice A D.length c ∧ RB w A D.length c D := by
  obtain ⟨A, c, e, r, _⟩ := RB.of_own h.data
  exact ⟨A, c, e, r⟩
/-- One of its own cells turns, a number's. -/
theorem Rw.setc (h : Rw base w rb z nx en D F t) (j : Nat) (u : Value) {nx' en' : Nat} (hc : cellsOf z nx' en' = (cellsOf z nx en).setIfInBounds j u) : Rw base (w.setCell ⟨rb, j, none⟩ u) rb z nx' en' D F t ∧ Mv w rb z (w.setCell ⟨rb, j, none⟩ u) z := by
  have c : Ch w (w.setCell ⟨rb, j, none⟩ u) (fun k => k = rb) := Ch.setCell (m := fun k => k = rb) (Ch.refl w _) (fun _ => rfl) _
  have a := h.apart
  have hb := blk_set h.blk j u
  rw [← hc] at hb
  obtain ⟨n, hn, hM⟩ := h.map
  exact ⟨⟨hb, h.st.ch c a.or (fun g hg e => a.lr (e ▸ hg)), ⟨n, hn, hM.keep (c.block _ hM.lt a.mr)⟩, own_ch2 h.data c (fun g hg e => a.dr (e ▸ hg)), h.lo, h.lvlo⟩, c.mono fun _ _ e => .inl e, fun _ h => .inl h⟩
/-- The data's row turns, and its cell. -/
theorem Rw.setd (h : Rw base w rb z nx en D F t) {w9 : World} {v9 : Value} {D' : List UInt8} (r9 : w9.ownsRow base 5 1 v9 D'.length (bv D')) (c9 : Ch w w9 (fun g => z.dv.ownBlock = some g)) (o9 : v9.ownBlock = z.dv.ownBlock ∨ ∃ g, v9.ownBlock = some g ∧ w.heap.size ≤ g) :
    Rw base (w9.setCell ⟨rb, 1, none⟩ v9) rb { z with dv := v9 } nx en D' F t ∧ Mv w rb z (w9.setCell ⟨rb, 1, none⟩ v9) { z with dv := v9 } := by
  have a := h.apart
  have hlt := h.lt
  have cs : Ch w9 (w9.setCell ⟨rb, 1, none⟩ v9) (fun k => k = rb) := Ch.setCell (m := fun k => k = rb) (Ch.refl w9 _) (fun _ => rfl) _
  have c : Ch w (w9.setCell ⟨rb, 1, none⟩ v9) (fun k => k = rb ∨ z.dv.ownBlock = some k) := c9.trans cs (fun _ _ e => .inr e) (fun _ _ e => .inl e)
  have hb9 := (c9.block rb hlt a.dr).trans h.blk
  have ov : v9.ownBlock ≠ some rb := fun e => by
    rcases o9 with o9 | ⟨g, o9, hg⟩
    · exact a.dr (o9 ▸ e)
    · rw [o9] at e
      injection e with e
      omega
  obtain ⟨n, hn, hM⟩ := h.map
  refine ⟨⟨blk_set hb9 1 v9, h.st.ch c (fun e => e.elim a.or (fun e => a.d_o e)) (fun g hg e => e.elim (fun e => a.lr (e ▸ hg)) (fun e => a.dl g e hg)), ⟨n, hn, hM.keep (c.block _ hM.lt (fun e => e.elim a.mr a.dm))⟩, own_ch2 r9 cs (fun g hg e => ov (e ▸ hg)), h.lo, h.lvlo⟩, c.mono fun x hx e => e.elim .inl (fun e => .inr (.inr (.inr (.inl e)))), fun x hx => ?_⟩
  rcases hx with hx | hx | hx | hx | hx
  · exact .inl (.inl hx)
  · exact .inl (.inr (.inl hx))
  · exact .inl (.inr (.inr (.inl hx)))
  · have hx' : v9.ownBlock = some x := hx
    rcases o9 with o9 | ⟨g, o9, hg⟩
    · exact .inl (.inr (.inr (.inr (.inl (o9 ▸ hx')))))
    · rw [o9] at hx'
      injection hx' with hx'
      exact .inr (by omega)
  · exact .inl (.inr (.inr (.inr (.inr hx))))
/-- The set alone turns. -/
theorem Rw.setl (h : Rw base w rb z nx en D F t) {v' : Value} {l' : List Rn} (s : St w' z.ob v' l') (c : Ch w w' (fun k => k = z.ob ∨ z.lv.ownBlock = some k)) (o : ∀ k, v'.ownBlock = some k → z.lv.ownBlock = some k ∨ w.heap.size ≤ k) :
    Rw base w' rb { z with lv := v', l := l' } nx en D F t ∧ Mv w rb z w' { z with lv := v', l := l' } := by
  have a := h.apart
  obtain ⟨n, hn, hM⟩ := h.map
  refine ⟨⟨(c.block rb h.lt (fun e => e.elim (fun e => a.or e.symm) a.lr)).trans h.blk, s, ⟨n, hn, hM.keep (c.block _ hM.lt (fun e => e.elim a.mo a.lm))⟩, own_ch2 h.data c (fun g hg e => e.elim (fun e => a.d_o (e ▸ hg)) (fun e => a.dl g hg e)), h.lo, fun k hk => (o k hk).elim (h.lvlo k) (fun q => Nat.le_trans (Nat.le_trans h.lo.1 (Nat.le_of_lt h.lt)) q)⟩, c.mono fun _ _ e => e.elim (fun e => .inr (.inl e)) (fun e => .inr (.inr (.inr (.inr e)))), fun k hk => ?_⟩
  rcases hk with hk | hk | hk | hk | hk
  · exact .inl (.inl hk)
  · exact .inl (.inr (.inl hk))
  · exact .inl (.inr (.inr (.inl hk)))
  · exact .inl (.inr (.inr (.inr (.inl hk))))
  · exact (o k hk).imp (fun q => .inr (.inr (.inr (.inr q)))) id
/-- The map alone turns. -/
theorem Rw.setm (h : Rw base w rb z nx en D F t) {F' : Int → Option UInt8} {n t' : Nat} (hM : MapV w' z.mb F' n) (hn : n ≤ t') (c : w.mapTurned w' z.mb) : Rw base w' rb z nx en D F' t' ∧ Mv w rb z w' z := by
  have a := h.apart
  have c : Ch w w' (fun k => k = z.mb) := Ch.turned (m := fun k => k = z.mb) (Ch.refl w _) c (fun _ => rfl)
  exact ⟨⟨(c.block rb h.lt (fun e => a.mr e.symm)).trans h.blk, h.st.ch c (fun e => a.mo e.symm) (fun g hg e => a.lm (e ▸ hg)), ⟨n, hn, hM⟩, own_ch2 h.data c (fun g hg e => a.dm (e ▸ hg)), h.lo, h.lvlo⟩, c.mono fun _ _ e => .inr (.inr (.inl e)), fun _ h => .inl h⟩
end

/-! What it says. -/
/-- What is ahead, by its numbers. -/
def ahd (M : Nat → Option UInt8) (nx : Nat) : Int → Option UInt8 := fun k => if (nx : Int) ≤ k then M k.toNat else none
/-- The runs have just the numbers that came ahead. -/
def Ls (l : List Rn) (M : Nat → Option UInt8) (nx : Nat) : Prop := ∀ n : Int, Has l n ↔ (nx : Int) ≤ n ∧ (M n.toNat).isSome = true
structure Rc (base : Nat) (w : World) (rb : Nat) (z : Sh) (d : Dr) : Prop where
  w : Rw base w rb z d.nx d.en d.dat (ahd d.M d.nx) (33 * d.t)
  ls : Ls z.l d.M d.nx
  ok : d.ok
  cap : d.t ≤ 1000
/-- What a call leaves. -/
structure Left (base : Nat) (w : World) (rb : Nat) (z : Sh) (d' : Dr) (w' : World) (z' : Sh) : Prop where
  s : Rc base w' rb z' d'
  m : Mv w rb z w' z'
section
variable {base : Nat} {w w' : World} {rb : Nat} {z z' : Sh} {d d' : Dr}
theorem Rc.below (h : Rc base w rb z d) (b : Below w.heap.size w w') : Rc base w' rb z d := ⟨h.w.below b, h.ls, h.ok, h.cap⟩
theorem Rc.frame (h : Rc base w rb z d) {m : Nat → Prop} (c : Ch w w' m) (hm : ∀ k, z.T rb k → ¬ m k) : Rc base w' rb z d := ⟨h.w.frame c hm, h.ls, h.ok, h.cap⟩
theorem Rc.dn (h : Rc base w rb z d) (n : Nat) : Rc base (w.drewN n) rb z d := h.below (below_dn (Below.refl _ _) n)
theorem Rc.drew (h : Rc base w rb z d) : Rc base w.drew rb z d := h.below (Below.refl _ _).drew
theorem Left.of_below (h : Rc base w rb z d) (b : Below w.heap.size w w') : Left base w rb z d w' z := ⟨h.below b, Mv.of_below b⟩
theorem Left.refl (h : Rc base w rb z d) : Left base w rb z d w z := ⟨h, Mv.refl _ _ _⟩
theorem Left.then_ {w2 : World} {z2 : Sh} {d2 : Dr} (h : Left base w rb z d' w' z') (k : Left base w' rb z' d2 w2 z2) : Left base w rb z d2 w2 z2 := ⟨k.s, h.m.then_ k.m⟩
theorem Left.after {w2 : World} (h : Left base w rb z d' w' z') (b : Below w'.heap.size w' w2) : Left base w rb z d' w2 z' := ⟨h.s.below b, h.m.after b⟩
theorem Left.ahead {w0 : World} (h : Left base w rb z d' w' z') (b : Below w0.heap.size w0 w) : Left base w0 rb z d' w' z' := ⟨h.s, h.m.ahead b⟩
theorem Rc.nums (h : Rc base w rb z d) : 1 ≤ d.nx ∧ d.nx ≤ 33001 ∧ d.rd + 1 ≤ d.nx ∧ d.nx ≤ d.rd + 33 ∧ d.en ≤ 33034 ∧ d.held = d.nx - 1 - d.rd ∧ d.dat.length = d.held ∧ d.nx ≤ d.bound ∧ d.bound ≤ d.rd + 33 := by
  have h1 := h.ok.lo
  have h2 := h.ok.cap
  have h3 := h.cap
  have h4 := h.ok.nx_le
  have h5 : d.en ≤ 33034 := by
    by_cases e : d.en = 0
    · omega
    · have := (h.ok.e1 e).2
      omega
  have h6 := h.ok.bound_le
  refine ⟨by omega, by omega, h1, h4, h5, rfl, d.dat_length, h6.1, h6.2.1⟩
end

/-- A call that only reads. -/
def Qt (v : Value) (w : World) (e : Ending) (w' : World) : Prop := e = .returned v ∧ ∃ n, w' = w.drewN n
theorem Qt.same {v : Value} {w : World} : Qt v w (.returned v) w := ⟨rfl, 0, rfl⟩

/-! The small calls. -/
section
variable {base : Nat} {w : World} {rb : Nat} {z : Sh} {d : Dr}
theorem told_any (H : Rc base w rb z d) : Calls Try.prog 34 #[ptr rb] w fun e w' => e = .returned (.bool (decide (d.en ≠ 0))) ∧ w' = w := by
  have c4 := H.w.cell 4
  unfold cellsOf at c4
  have hq : ((d.en : Int) != 0) = decide (d.en ≠ 0) := by
    by_cases h : d.en = 0
    · rw [h]; rfl
    · rw [decide_eq_true h]; simp; omega
  have HQ := Lib.hid hq
  clear H hq
  unfold ptr
  generalize decide (d.en ≠ 0) = r at *
  go_enter Try.func34, Try.ntmps34
  go_wp2_with fail
  go_ret
  exact ⟨by rw [← HQ.out]; rfl, rfl⟩
theorem edge_any (H : Rc base w rb z d) : Calls Try.prog 33 #[ptr rb] w (Qt (.int .i64 ((d.rd + 33 : Nat) : Int)) w) := by
  have c0 := H.w.cell 0
  have c1 := H.w.cell 1
  obtain ⟨A, c, e, r⟩ := H.w.dv
  have hn := H.nums
  unfold cellsOf at c0 c1
  rw [e] at c1
  rw [hn.2.2.2.2.2.2.1] at c1
  have hw1 : IntKind.i64.wrap ((d.nx : Int) - (d.held : Int)) = ((d.rd + 1 : Nat) : Int) := by rw [IntKind.wrap_i64]; omega
  have hw2 : IntKind.i64.wrap (((d.rd + 1 : Nat) : Int) + 32) = ((d.rd + 33 : Nat) : Int) := by rw [IntKind.wrap_i64]; omega
  generalize d.held = hd at *
  generalize d.rd + 1 = r1 at *
  generalize d.rd + 33 = r3 at *
  clear H r e hn
  unfold ptr
  go_enter Try.func33, Try.ntmps33
  go_wp2_with fail
  go_quiet (fail)
  go_wp2_with fail
  go_ret
  exact ⟨rfl, _, rfl⟩
theorem bound_any (H : Rc base w rb z d) : Calls Try.prog 27 #[ptr rb] w (Qt (.int .i64 (d.bound : Int)) w) := by
  have c4 := H.w.cell 4
  unfold cellsOf at c4
  have HT := Lib.hid (told_any H)
  have HE := Lib.hid (edge_any H)
  unfold ptr at *
  by_cases h : d.en = 0
  · have hb : d.bound = d.rd + 33 := by unfold Dr.bound; rw [if_pos h]
    rw [hb]
    rw [decide_eq_false (by omega)] at HT
    clear hb h H
    generalize d.rd + 33 = r3 at *
    go_enter Try.func27, Try.ntmps27
    go_wp2_with fail
    refine (HT.out).mono ?_
    rintro e w1 ⟨rfl, rfl⟩
    go_wp2_with fail
    refine (HE.out).mono ?_
    rintro e w2 ⟨rfl, n, rfl⟩
    go_wp2_with fail
    go_ret
    exact ⟨rfl, _, rfl⟩
  · have hb : d.bound = d.en := by unfold Dr.bound; rw [if_neg h]
    rw [hb]
    rw [decide_eq_true (by omega)] at HT
    clear hb h H HE
    go_enter Try.func27, Try.ntmps27
    go_wp2_with fail
    refine (HT.out).mono ?_
    rintro e w1 ⟨rfl, rfl⟩
    go_wp2_with fail
    go_ret
    exact Qt.same
theorem Ready_any (H : Rc base w rb z d) : Calls Try.prog 24 #[ptr rb] w fun e w' => e = .returned (.int .i64 (d.held : Int)) ∧ w' = w := by
  have c1 := H.w.cell 1
  obtain ⟨A, c, e, r⟩ := H.w.dv
  unfold cellsOf at c1
  rw [e, H.nums.2.2.2.2.2.2.1] at c1
  clear H r e
  unfold ptr
  go_enter Try.func24, Try.ntmps24
  go_wp2_with fail
  go_ret
  exact ⟨rfl, rfl⟩
theorem Ended_any (H : Rc base w rb z d) : Calls Try.prog 25 #[ptr rb] w (Qt (.bool d.ended) w) := by
  have c0 := H.w.cell 0
  have c4 := H.w.cell 4
  unfold cellsOf at c0 c4
  have hq : ((d.nx : Int) == (d.en : Int)) = d.ended := by
    unfold Dr.ended
    by_cases h : d.nx = d.en
    · rw [h]; simp
    · rw [decide_eq_false h]; simp; omega
  clear H
  generalize d.ended = r at *
  unfold ptr
  go_enter Try.func25, Try.ntmps25
  go_wp2_with fail
  go_quiet (fail)
  go_wp2_with fail
  go_ret
  exact ⟨rfl, _, rfl⟩
theorem Ack_any (H : Rc base w rb z d) : Calls Try.prog 22 #[ptr rb] w (Qt (.int .i64 (d.ack : Int)) w) := by
  have c0 := H.w.cell 0
  have c4 := H.w.cell 4
  unfold cellsOf at c0 c4
  have HE := Lib.hid (Ended_any H)
  have hn := H.nums
  have hw : IntKind.i64.wrap ((d.en : Int) + 1) = ((d.en + 1 : Nat) : Int) := by rw [IntKind.wrap_i64]; omega
  unfold ptr at *
  by_cases h : d.nx = d.en
  · have hb : d.ack = d.en + 1 := by unfold Dr.ack; rw [if_pos h, h]
    have he : d.ended = true := decide_eq_true h
    rw [hb]
    rw [he] at HE
    clear hb he h H hn
    generalize d.en + 1 = e1 at *
    go_enter Try.func22, Try.ntmps22
    go_wp2_with fail
    refine (HE.out).mono ?_
    rintro e w1 ⟨rfl, n, rfl⟩
    have d4 : (w.drewN n).cell? ⟨rb, 4, none⟩ = some (.int .i64 (d.en : Int)) := c4
    go_wp2_with fail
    go_ret
    exact ⟨rfl, _, rfl⟩
  · have hb : d.ack = d.nx := by unfold Dr.ack; rw [if_neg h]
    have he : d.ended = false := decide_eq_false h
    rw [hb]
    rw [he] at HE
    clear hb he h H hn
    go_enter Try.func22, Try.ntmps22
    go_wp2_with fail
    refine (HE.out).mono ?_
    rintro e w1 ⟨rfl, n, rfl⟩
    have d4 : (w.drewN n).cell? ⟨rb, 0, none⟩ = some (.int .i64 (d.nx : Int)) := c0
    go_wp2_with fail
    go_ret
    exact ⟨rfl, _, rfl⟩
theorem Win_any (H : Rc base w rb z d) : Calls Try.prog 23 #[ptr rb] w (Qt (.int .i64 ((d.rd + 33 - d.nx : Nat) : Int)) w) := by
  have c0 := H.w.cell 0
  unfold cellsOf at c0
  have HE := Lib.hid (fun q => edge_any (H.dn q))
  have hn := H.nums
  have hw : IntKind.i64.wrap (((d.rd + 33 : Nat) : Int) - (d.nx : Int)) = ((d.rd + 33 - d.nx : Nat) : Int) := by rw [IntKind.wrap_i64]; omega
  unfold ptr at *
  generalize d.rd + 33 - d.nx = v at *
  generalize d.rd + 33 = r3 at *
  clear H hn
  go_enter Try.func23, Try.ntmps23
  go_wp2_with fail
  go_quiet (first | (go_at_call 33; exact Calls.quiet_of (HE.out _)))
  go_wp2_with fail
  go_ret
  exact ⟨rfl, _, rfl⟩
end
end Go.Proofs.Ytancbdnpmabpfaa

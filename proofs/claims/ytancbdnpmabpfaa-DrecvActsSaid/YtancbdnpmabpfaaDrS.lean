/- The document's Get. Conditions: its receiver stands. -/
import Derived.Test.YtancbdnpmabpfaaDrR
import Derived.Test.YtancbdnpmabpfaaStepA
import Derived.Deep.LoopGhost
namespace Go.Proofs.Ytancbdnpmabpfaa
set_option linter.unusedVariables false
set_option linter.unusedSimpArgs false
open Go.RowKit Go.Lib

theorem szGot : (Try.prog.info? 39).map (·.size) = some 2 := by kernel_rfl
/-- The receiver, the result's variable, the gathered bytes' variable, with i of them. -/
structure Tg (base : Nat) (w wr : World) (xb : Nat) (y : Ry) (r tb : Nat) (d : Dr) (i : Nat) (v : Value) : Prop where
  x : LeftR base w xb y (d.readN i) wr y
  rblk : wr.heap[r]? = some (.cells #[.slice none 0 0, .int .i64 0] 39 (0, 0))
  tblk : wr.heap[tb]? = some (.cells #[v, .int .i64 0] 39 (0, 0))
  own : wr.ownsRow w.heap.size 5 1 v i (bv (d.dat.take i))
  lo : w.heap.size ≤ r ∧ r < tb
  tlt : ∀ k, y.T xb k → k < w.heap.size
section
variable {base : Nat} {w wr : World} {xb : Nat} {y : Ry} {r tb : Nat} {d : Dr} {i : Nat} {v : Value}
theorem Tg.free (h : Tg base w wr xb y r tb d i v) {w' : World} {m : Nat → Prop} (c : Ch wr w' m) (hm : ∀ k, m k → w.heap.size ≤ k) : LeftR base w xb y (d.readN i) w' y :=
  ⟨h.x.s.frame c (fun k hk e => by have := h.tlt k hk; have := hm k e; omega), h.x.ch.trans c (fun _ _ x => x) (fun x hx e => by have := hm x e; omega), h.x.new⟩
theorem Tg.vlo (h : Tg base w wr xb y r tb d i v) {g : Nat} (hg : v.ownBlock = some g) : w.heap.size ≤ g ∧ g < wr.heap.size ∧ g ≠ r ∧ g ≠ tb := by
  obtain ⟨cs, h1⟩ := own_obj h.own hg
  have h2 := own_in h.own hg
  refine ⟨h2.1, h2.2, fun e => ?_, fun e => ?_⟩
  · subst e
    exact two_types h1 h.rblk (by decide)
  · subst e
    exact two_types h1 h.tblk (by decide)
theorem Tg.below (h : Tg base w wr xb y r tb d i v) {w' : World} (b : Below wr.heap.size wr w') : Tg base w w' xb y r tb d i v :=
  ⟨h.x.after b, (b.block r (Array.getElem?_eq_some_iff.1 h.rblk).1).trans h.rblk, (b.block tb (Array.getElem?_eq_some_iff.1 h.tblk).1).trans h.tblk, own_below h.own b, h.lo, h.tlt⟩
theorem Tg.t0 (h : Tg base w wr xb y r tb d i v) : wr.cell? ⟨tb, 0, none⟩ = some v := by rw [cell_of_row _ _ _ _ _ _ h.tblk]; rfl
theorem Tg.t1 (h : Tg base w wr xb y r tb d i v) : wr.cell? ⟨tb, 1, none⟩ = some (.int .i64 0) := by rw [cell_of_row _ _ _ _ _ _ h.tblk]; rfl
theorem Tg.r0 (h : Tg base w wr xb y r tb d i v) : wr.cell? ⟨r, 0, none⟩ = some (.slice none 0 0) := by rw [cell_of_row _ _ _ _ _ _ h.rblk]; rfl
theorem Tg.r1 (h : Tg base w wr xb y r tb d i v) : wr.cell? ⟨r, 1, none⟩ = some (.int .i64 0) := by rw [cell_of_row _ _ _ _ _ _ h.rblk]; rfl
/-- One byte more, and the next one is to be read. -/
theorem Tg.app (h : Tg base w wr xb y r tb d i v) {w8 w9 : World} {v' : Value} {b : UInt8} (b8 : Below wr.heap.size wr w8) (o9 : w9.ownsRow w.heap.size 5 1 v' (i + 1) (bv (d.dat.take i ++ [b]))) (g9 : w8.grownBy w9 v.ownBlock) (h9 : v'.ownBlock = v.ownBlock ∨ v'.ownBlock = some w8.heap.size) (hb : d.dat.take i ++ [b] = d.dat.take (i + 1)) :
    Tg base w ((w9.setCell ⟨tb, 0, none⟩ v').setCell ⟨xb, 2, none⟩ (.int .i64 ((d.rd + (i + 1) : Nat) : Int))) xb y r tb d (i + 1) v' := by
  have h8 := h.below b8
  have c9 : Ch w8 w9 (fun k => v.ownBlock = some k) := Ch.grown (m := fun k => v.ownBlock = some k) (Ch.refl w8 _) g9 (fun k e _ => e)
  have c10 : Ch w9 (w9.setCell ⟨tb, 0, none⟩ v') (fun k => k = tb) := Ch.setCell (m := fun k => k = tb) (Ch.refl w9 _) (fun _ => rfl) _
  have c : Ch w8 (w9.setCell ⟨tb, 0, none⟩ v') (fun k => v.ownBlock = some k ∨ k = tb) := c9.trans c10 (fun _ _ e => .inl e) (fun _ _ e => .inr e)
  have hlo := h.lo
  have ht8 : tb < w8.heap.size := (Array.getElem?_eq_some_iff.1 h8.tblk).1
  have L10 := h8.free c (fun k e => e.elim (fun e => (h8.vlo e).1) (fun e => by omega))
  obtain ⟨r11, c11⟩ := L10.s.setc 2 (.int .i64 ((d.rd + (i + 1) : Nat) : Int)) (rd' := d.rd + (i + 1)) (en' := d.en) rfl (show d.rd + i ≤ d.rd + (i + 1) by omega)
  have hx : xb < w.heap.size := h.tlt xb (.inl rfl)
  have hr10 := (c.block r (Array.getElem?_eq_some_iff.1 h8.rblk).1 (fun e => e.elim (fun e => (h8.vlo e).2.2.1 rfl) (fun e => by omega))).trans h8.rblk
  have ht10 := blk_set ((c9.block tb ht8 (fun e => (h8.vlo e).2.2.2 rfl)).trans h8.tblk) 0 v'
  have hne : ∀ g, v'.ownBlock = some g → g ≠ tb ∧ g ≠ xb := fun g hg => by
    rcases h9 with h9 | h9
    · have := h8.vlo (h9 ▸ hg)
      exact ⟨this.2.2.2, by omega⟩
    · rw [h9] at hg
      injection hg with hg
      have := b8.size
      have := (Array.getElem?_eq_some_iff.1 h.tblk).1
      exact ⟨by omega, by omega⟩
  refine ⟨⟨r11, L10.ch.trans c11 (fun _ _ x => x) (fun x hx e => .inl e), L10.new⟩, (c11.block r (Array.getElem?_eq_some_iff.1 hr10).1 (fun e => by omega)).trans hr10, (c11.block tb (Array.getElem?_eq_some_iff.1 ht10).1 (fun e => by omega)).trans ht10, ?_, h.lo, h.tlt⟩
  rw [← hb]
  exact own_ch2 (own_ch2 o9 c10 (fun g hg e => (hne g hg).1 e)) c11 (fun g hg e => (hne g hg).2 e)
def RGetP (base : Nat) (w : World) (xb : Nat) (y : Ry) (d : Dr) (m : Int) (e : Ending) (w' : World) : Prop :=
  ∃ v, e = .returned (.agg #[v, .int .i64 d.err]) ∧ (∃ A c, v = .slice A (d.most m) c ∧ RB w' A (d.most m) c (d.got m)) ∧ LeftR base w xb y (d.read m) w' y
theorem Tg.fin_ (h : Tg base w wr xb y r tb d i v) {m : Int} (hi : i = d.most m) (he : d.err = 0) : ((wr.setCell ⟨r, 0, none⟩ v).setCell ⟨r, 1, none⟩ (.int .i64 0)).rangeAt r 0 [v, .int .i64 0] ∧ RGetP base w xb y d m (.returned (.agg #[v, .int .i64 0])) ((wr.setCell ⟨r, 0, none⟩ v).setCell ⟨r, 1, none⟩ (.int .i64 0)) := by
  obtain ⟨q1, q2⟩ := store2 h.rblk v (.int .i64 0)
  have hlo := h.lo
  refine ⟨q1, v, by rw [he], ?_, ?_⟩
  · obtain ⟨A, c, e, hr, _⟩ := RB.of_own (own_ch2 h.own q2 (fun g hg e => (h.vlo hg).2.2.1 e))
    rw [hi] at e hr
    exact ⟨A, c, e, hr⟩
  · have := h.free q2 (fun k e => by omega)
    rw [hi] at this
    exact this
theorem rget_none (H : Rf base w xb y d.M d.rd d.en) (h0 : d.held = 0) (m : Int) {r : Nat} {w1 : World} (b : Below w.heap.size w w1) (hb : w1.heap[r]? = some (.cells #[.slice none 0 0, .int .i64 0] 39 (0, 0))) (hr : w.heap.size ≤ r) :
    ((w1.setCell ⟨r, 0, none⟩ (.slice none 0 0)).setCell ⟨r, 1, none⟩ (.int .i64 d.err)).rangeAt r 0 [.slice none 0 0, .int .i64 d.err] ∧ RGetP base w xb y d m (.returned (.agg #[.slice none 0 0, .int .i64 d.err])) ((w1.setCell ⟨r, 0, none⟩ (.slice none 0 0)).setCell ⟨r, 1, none⟩ (.int .i64 d.err)) := by
  obtain ⟨q1, q2⟩ := store2 hb (.slice none 0 0) (.int .i64 d.err)
  have hm : d.most m = 0 := by unfold Dr.most; omega
  refine ⟨q1, _, rfl, ⟨none, 0, by rw [hm], ?_⟩, ?_⟩
  · unfold Dr.got
    rw [hm, List.take_zero]
    exact RB.nil_ _
  · unfold Dr.read
    rw [hm]
    exact LeftR.of_below H (((Ch.of_below (fun k => k = r) b).then_ q2).below (fun x hx e => by omega))
theorem take_next (hi : i < d.held) : d.dat.take i ++ [(d.M (d.rd + 1 + i)).getD 0] = d.dat.take (i + 1) := by
  have hl : i < d.dat.length := by rw [d.dat_length]; exact hi
  rw [List.take_add_one, List.getElem?_eq_getElem hl]
  congr 1
  have h : d.dat.getD i 0 = (d.M (d.rd + 1 + i)).getD 0 := datM_getD d.M d.rd d.nx i hi
  rw [List.getD_eq_getElem?_getD, List.getElem?_eq_getElem hl] at h
  rw [← h]
  rfl

set_option maxRecDepth 20000 in
set_option maxHeartbeats 6400000 in
theorem rget_any (H : Rf base w xb y d.M d.rd d.en) (hok : d.ok) (ht : d.t ≤ 1000) (hb : base ≤ w.heap.size) {m : Int} : Calls Try.prog 18 #[ptr xb, .int .i64 m] w (RGetP base w xb y d m) := by
  have h1 := hok.lo
  have h2 := hok.cap
  have h4 := hok.nx_le
  have hb1 := below_a w (.cells #[.slice none 0 0, .int .i64 0] 39)
  have hr1 : (w.alloc (.cells #[.slice none 0 0, .int .i64 0] 39)).heap[w.heap.size]? = some (.cells #[.slice none 0 0, .int .i64 0] 39 (0, 0)) := heap_alloc_new w _
  have HB1 := Lib.hid hb1
  have HX1 := Lib.hid (H.below hb1)
  have HH := Lib.hid H
  have HOK := Lib.hid hok
  have HN := Lib.hid (rnext_any HX1.out (by omega) (by omega) hok.all hok.nxt)
  have HTL : Hid (∀ k, y.T xb k → k < w.heap.size) := Lib.hid (fun k hk => (H.in_ hk).2)
  have HNM := Lib.hid (And.intro h1 (And.intro h2 (And.intro h4 (And.intro ht hb))))
  have d2 : (w.alloc (.cells #[.slice none 0 0, .int .i64 0] 39)).cell? ⟨xb, 2, none⟩ = some (.int .i64 (d.rd : Int)) := HX1.out.cell 2
  have d3 : (w.alloc (.cells #[.slice none 0 0, .int .i64 0] 39)).cell? ⟨xb, 3, none⟩ = some (.int .i64 (d.en : Int)) := HX1.out.cell 3
  have hw1 : IntKind.i64.wrap ((d.rd : Int) + 1) = ((d.rd + 1 : Nat) : Int) := by rw [IntKind.wrap_i64]; omega
  have HSZ : Hid ((w.alloc (.cells #[.slice none 0 0, .int .i64 0] 39)).heap.size = w.heap.size + 1) := Lib.hid (by simp)
  clear H hok hb1 h1 h2 h4 ht hb
  by_cases h0 : d.rd + 1 = d.nx
  · have hh : d.held = 0 := by unfold Dr.held; omega
    have hq : (((d.rd + 1 : Nat) : Int) == (d.nx : Int)) = true := by simp; omega
    have hq' : ((d.rd + 1 : Nat) : Int) = (d.nx : Int) := by omega
    have HF := Lib.hid (rget_none HH.out hh m HB1.out hr1 (Nat.le_refl _))
    by_cases he : d.nx = d.en
    · have e2 : d.err = 11 := by unfold Dr.err; rw [if_neg (by omega), if_pos he]
      rw [e2] at HF
      have hqe : ((d.en : Int) == (d.nx : Int)) = true := by simp; omega
      have hqe' : (d.en : Int) = (d.nx : Int) := by omega
      have rf := frozen_of hr1
      have r0 : (w.alloc (.cells #[.slice none 0 0, .int .i64 0] 39)).cell? ⟨w.heap.size, 0, none⟩ = some (.slice none 0 0) := (cell_of_row _ _ 0 _ _ (0, 0) hr1)
      have r1 : (w.alloc (.cells #[.slice none 0 0, .int .i64 0] 39)).cell? ⟨w.heap.size, 1, none⟩ = some (.int .i64 0) := (cell_of_row _ _ 1 _ _ (0, 0) hr1)
      clear hr1 hh h0 he e2 hq' hqe'
      generalize d.rd + 1 = r1' at *
      generalize d.nx = nx at *
      generalize (d.en : Int) = E at *
      unfold ptr at *
      go_enter Try.func18, Try.ntmps18
      go_upto_region 1 with (fail)
      generalize w.alloc (.cells #[.slice none 0 0, .int .i64 0] 39) = w2 at *
      go_wp2_with fail
      refine (HN.out).mono ?_
      rintro e w3 ⟨rfl, rfl⟩
      go_wp2_with fail
      exact bodyPost_ret (results_c0 rfl _ _ w.heap.size _ _ rfl HF.out.1 Try.underlying39 rfl szGot) rfl HF.out.2
    · have e2 : d.err = 10 := by unfold Dr.err; rw [if_neg (by omega), if_neg he]
      rw [e2] at HF
      have hqe : ((d.en : Int) == (d.nx : Int)) = false := by simp; omega
      have hqe' : ¬ (d.en : Int) = (d.nx : Int) := by omega
      have rf := frozen_of hr1
      have r0 : (w.alloc (.cells #[.slice none 0 0, .int .i64 0] 39)).cell? ⟨w.heap.size, 0, none⟩ = some (.slice none 0 0) := (cell_of_row _ _ 0 _ _ (0, 0) hr1)
      have r1 : (w.alloc (.cells #[.slice none 0 0, .int .i64 0] 39)).cell? ⟨w.heap.size, 1, none⟩ = some (.int .i64 0) := (cell_of_row _ _ 1 _ _ (0, 0) hr1)
      clear hr1 hh h0 he e2 hq'
      generalize d.rd + 1 = r1' at *
      generalize d.nx = nx at *
      generalize (d.en : Int) = E at *
      unfold ptr at *
      go_enter Try.func18, Try.ntmps18
      go_upto_region 1 with (fail)
      generalize w.alloc (.cells #[.slice none 0 0, .int .i64 0] 39) = w2 at *
      go_wp2_with fail
      refine (HN.out).mono ?_
      rintro e w3 ⟨rfl, rfl⟩
      go_wp2_with fail
      exact bodyPost_ret (results_c0 rfl _ _ w.heap.size _ _ rfl HF.out.1 Try.underlying39 rfl szGot) rfl HF.out.2
  · have hq : (((d.rd + 1 : Nat) : Int) == (d.nx : Int)) = false := by simp; omega
    have hq' : ¬ ((d.rd + 1 : Nat) : Int) = (d.nx : Int) := by omega
    have HER : Hid (d.err = 0) := Lib.hid (by have := HNM.out.1; unfold Dr.err; rw [if_pos (by unfold Dr.held; omega)])
    have hT0 : Tg base w ((w.alloc (.cells #[.slice none 0 0, .int .i64 0] 39)).alloc (.cells #[.slice none 0 0, .int .i64 0] 39)) xb y w.heap.size (w.heap.size + 1) d 0 (.slice none 0 0) := by
      have hb2 : Below w.heap.size w ((w.alloc (.cells #[.slice none 0 0, .int .i64 0] 39)).alloc (.cells #[.slice none 0 0, .int .i64 0] 39)) := below_a2 w _ _
      refine ⟨LeftR.of_below HH.out hb2, (Below.heap_alloc _ _ _ (by simp)).trans hr1, ?_, World.ownsRow_nil _ _ _ _, ⟨Nat.le_refl _, Nat.lt_succ_self _⟩, HTL.out⟩
      have := heap_alloc_new (w.alloc (.cells #[.slice none 0 0, .int .i64 0] 39)) (.cells #[.slice none 0 0, .int .i64 0] 39)
      rwa [World.size_alloc] at this
    have HT0 := Lib.hid hT0
    clear hT0 hr1
    unfold ptr at *
    go_enter Try.func18, Try.ntmps18
    go_upto_region 1 with (fail)
    rw [← HSZ.out] at HT0
    obtain ⟨r, hr⟩ : ∃ r, r = w.heap.size := ⟨_, rfl⟩
    rw [← hr] at HT0 ⊢
    generalize w.alloc (.cells #[.slice none 0 0, .int .i64 0] 39) = w2 at *
    clear hr HX1 HSZ HB1
    obtain ⟨nx, hnx⟩ : ∃ nx, nx = d.nx := ⟨_, rfl⟩
    rw [← hnx] at HN hq hq'
    have HNX := Lib.hid hnx
    obtain ⟨rp, hrp⟩ : ∃ rp, rp = d.rd + 1 := ⟨_, rfl⟩
    rw [← hrp] at hw1 hq hq'
    clear hnx hrp
    go_wp2_with fail
    refine (HN.out).mono ?_
    rintro e w3 ⟨rfl, rfl⟩
    go_upto_region 7 with (fail)
    generalize w3.heap.size = tb at *
    generalize w3.alloc (.cells #[.slice none 0 0, .int .i64 0] 39) = w4 at *
    clear d2 d3 hq hq' h0 hw1 HN
    have HKB : Hid (d.most m ≤ d.held ∧ (d.most m = d.held ∨ (d.most m : Int) = max m 0) ∧ (d.most m : Int) ≤ max m 0) := Lib.hid (by unfold Dr.most; omega)
    obtain ⟨k, hk⟩ : ∃ k, k = d.most m := ⟨_, rfl⟩
    have HK := Lib.hid hk
    clear hk
    go_loopg [25] k (fun kx s25 wr => ∃ (i : Nat) (v : Value), i ≤ k ∧ k - i ≤ kx ∧ Tg base w wr xb y r tb d i v)
    case atStart => exact ⟨0, _, Nat.zero_le _, Nat.le_refl _, HT0.out⟩
    case round =>
      obtain ⟨i, v, hik, hkx, T1⟩ := hrel
      have HT := Lib.hid T1
      have HKX := Lib.hid hkx
      obtain ⟨vA, vc, rfl, -, -⟩ := RB.of_own T1.own
      have t0 := T1.t0
      have t1 := T1.t1
      have tf := frozen_of T1.tblk
      have r0 := T1.r0
      have r1 := T1.r1
      have rf := frozen_of T1.rblk
      have x2 : wr.cell? ⟨xb, 2, none⟩ = some (.int .i64 ((d.rd + i : Nat) : Int)) := T1.x.s.cell 2
      have hwr : IntKind.i64.wrap (((d.rd + i : Nat) : Int) + 1) = ((d.rd + (i + 1) : Nat) : Int) := by have := HNM.out; have := HKB.out.1; have := HK.out; have : d.held = d.nx - 1 - d.rd := rfl; rw [IntKind.wrap_i64]; omega
      clear T1 hkx
      obtain ⟨ri, hri⟩ : ∃ ri, ri = d.rd + i := ⟨_, rfl⟩
      obtain ⟨ri1, hri1⟩ : ∃ ri1, ri1 = d.rd + (i + 1) := ⟨_, rfl⟩
      rw [← hri] at x2
      rw [← hri, ← hri1] at hwr
      have HRI := Lib.hid (And.intro hri hri1)
      have hrb : ri ≤ 100000 ∧ ri1 ≤ 100001 := by have := HNM.out; have := HKB.out.1; have := HK.out; have : d.held = d.nx - 1 - d.rd := rfl; omega
      by_cases hlt : i < k
      · have HLT := Lib.hid hlt
        have g1 : (i : Int) < m := by have := HKB.out; have := HK.out; omega
        have g2 : (ri1 : Int) < (nx : Int) := by have := HKB.out.1; have := HK.out; have : d.held = d.nx - 1 - d.rd := rfl; have := HNX.out; omega
        have g1b : decide ((i : Int) < m) = true := decide_eq_true g1
        have g2b : decide ((ri1 : Int) < (nx : Int)) = true := decide_eq_true g2
        have hsm : (d.M (d.rd + 1 + i)).isSome = true := HOK.out.all _ (by omega) (by have := HKB.out.1; have := HK.out; have : d.held = d.nx - 1 - d.rd := rfl; omega)
        obtain ⟨bt, hbt⟩ := Option.isSome_iff_exists.1 hsm
        have hle : ri + 1 ≤ y.li.length := by have := HT.out.x.s.some_le (n := d.rd + 1 + i) hsm; omega
        have hlen := HT.out.x.s.len
        obtain ⟨ag, ac, hav, -, hac1, hac2, xa, -⟩ := own_at HT.out.x.s.b (j := ri) (by omega)
        have hgd : y.lb.getD ri 0 = bt := HT.out.x.s.rb ri bt (by omega) (by rw [show ri + 1 = d.rd + 1 + i from by omega]; exact hbt)
        rw [hgd] at xa
        have x0 : wr.cell? ⟨xb, 0, none⟩ = some (.slice (some ⟨ag, 0, none⟩) y.lb.length ac) := by rw [← hav]; exact HT.out.x.s.cell 0
        have hriN : ri < y.lb.length := by omega
        have hriNI : (ri : Int) < (y.lb.length : Int) := by omega
        have HAV : Hid (xb < w.heap.size ∧ ag < w.heap.size) := Lib.hid ⟨HT.out.tlt _ (.inl rfl), HT.out.tlt _ (.inr (.inl (by rw [hav]; rfl)))⟩
        have HBT : Hid (d.dat.take i ++ [bt] = d.dat.take (i + 1)) := Lib.hid (by
          have h := take_next (d := d) (i := i) (by have := HKB.out.1; have := HK.out; omega)
          rw [hbt] at h
          exact h)
        clear hlt hik hsm hbt hle hlen hav hac1 hgd hri hri1 hrb
        generalize y.lb.length = N at *
        go_upto_region 8 with (fail)
        clear g1 g2 g1b g2b r0 r1 rf
        have e0 : wr.drew.cell? ⟨tb, 0, none⟩ = some (.slice vA i vc) := t0
        have e1 : wr.drew.cell? ⟨xb, 0, none⟩ = some (.slice (some ⟨ag, 0, none⟩) N ac) := x0
        have e2 : wr.drew.cell? ⟨xb, 2, none⟩ = some (.int .i64 (ri : Int)) := x2
        have e3 : wr.drew.cell? ⟨ag, ri, none⟩ = some (.int .u8 (bt.toNat : Int)) := xa
        clear t0 t1 x0 x2 xa
        refine wp_region_noPanic ?_
        refine until_start (fun W => W.cell? ⟨tb, 0, none⟩ = some (.slice vA i vc) ∧ W.cell? ⟨xb, 0, none⟩ = some (.slice (some ⟨ag, 0, none⟩) N ac) ∧ W.cell? ⟨xb, 2, none⟩ = some (.int .i64 (ri : Int)) ∧ W.cell? ⟨ag, ri, none⟩ = some (.int .u8 (bt.toNat : Int))) 15 (by kernel_rfl) ⟨e0, e1, e2, e3⟩ (fun _ => ?_)
        refine until_take (i := 0) (v := .pointer (some ⟨tb, 0, none⟩)) (some 39) [15] rfl rfl (by kernel_rfl) (by kernel_rfl) (by kernel_rfl) (by kernel_rfl) rfl rfl (fun _ _ _ h => h) (Or.inl ⟨by rfl, fun W hW => by go_simp⟩) ⟨e0, e1, e2, e3⟩ ?_
        simp only [Act.put, List.setIfInBounds_toArray, List.set_cons_zero, List.set_cons_succ]
        refine until_take (i := 2) (v := .pointer (some ⟨xb, 0, none⟩)) (some 41) [15] rfl rfl (by kernel_rfl) (by kernel_rfl) (by kernel_rfl) (by kernel_rfl) rfl rfl (fun _ _ _ h => h) (Or.inl ⟨by rfl, fun W hW => by go_simp⟩) ⟨e0, e1, e2, e3⟩ ?_
        simp only [Act.put, List.setIfInBounds_toArray, List.set_cons_zero, List.set_cons_succ]
        refine until_take (i := 6) (v := .pointer (some ⟨xb, 0, none⟩)) (some 45) [15] rfl rfl (by kernel_rfl) (by kernel_rfl) (by kernel_rfl) (by kernel_rfl) rfl rfl (fun _ _ _ h => h) (Or.inl ⟨by rfl, fun W hW => by go_simp⟩) ⟨e0, e1, e2, e3⟩ ?_
        simp only [Act.put, List.setIfInBounds_toArray, List.set_cons_zero, List.set_cons_succ]
        refine until_take (i := 1) (v := .slice vA i vc) (some 40) [15] rfl rfl (by kernel_rfl) (by kernel_rfl) (by kernel_rfl) (by kernel_rfl) rfl rfl (fun _ _ _ h => h) (Or.inl ⟨by rfl, fun W hW => by have hc := hW.1; go_simp⟩) ⟨e0, e1, e2, e3⟩ ?_
        simp only [Act.put, List.setIfInBounds_toArray, List.set_cons_zero, List.set_cons_succ]
        refine until_take (i := 3) (v := .pointer (some ⟨xb, 0, none⟩)) (some 42) [15] rfl rfl (by kernel_rfl) (by kernel_rfl) (by kernel_rfl) (by kernel_rfl) rfl rfl (fun _ _ _ h => h) (Or.inl ⟨by rfl, fun W hW => by go_simp⟩) ⟨e0, e1, e2, e3⟩ ?_
        simp only [Act.put, List.setIfInBounds_toArray, List.set_cons_zero, List.set_cons_succ]
        refine until_take (i := 7) (v := .pointer (some ⟨xb, 0, none⟩)) (some 46) [15] rfl rfl (by kernel_rfl) (by kernel_rfl) (by kernel_rfl) (by kernel_rfl) rfl rfl (fun _ _ _ h => h) (Or.inl ⟨by rfl, fun W hW => by go_simp⟩) ⟨e0, e1, e2, e3⟩ ?_
        simp only [Act.put, List.setIfInBounds_toArray, List.set_cons_zero, List.set_cons_succ]
        refine until_take (i := 4) (v := .pointer (some ⟨xb, 0, none⟩)) (some 43) [15] rfl rfl (by kernel_rfl) (by kernel_rfl) (by kernel_rfl) (by kernel_rfl) rfl rfl (fun _ _ _ h => h) (Or.inl ⟨by rfl, fun W hW => by go_simp⟩) ⟨e0, e1, e2, e3⟩ ?_
        simp only [Act.put, List.setIfInBounds_toArray, List.set_cons_zero, List.set_cons_succ]
        refine until_take (i := 8) (v := .pointer (some ⟨xb, 2, none⟩)) (some 47) [15] rfl rfl (by kernel_rfl) (by kernel_rfl) (by kernel_rfl) (by kernel_rfl) rfl rfl (fun _ _ _ h => h) (Or.inl ⟨by rfl, fun W hW => by go_simp⟩) ⟨e0, e1, e2, e3⟩ ?_
        simp only [Act.put, List.setIfInBounds_toArray, List.set_cons_zero, List.set_cons_succ]
        refine until_take (i := 5) (v := .slice (some ⟨ag, 0, none⟩) N ac) (some 44) [15] rfl rfl (by kernel_rfl) (by kernel_rfl) (by kernel_rfl) (by kernel_rfl) rfl rfl (fun _ _ _ h => h) (Or.inl ⟨by rfl, fun W hW => by have hc := hW.2.1; go_simp⟩) ⟨e0, e1, e2, e3⟩ ?_
        simp only [Act.put, List.setIfInBounds_toArray, List.set_cons_zero, List.set_cons_succ]
        refine until_take (i := 9) (v := .int .i64 (ri : Int)) (some 48) [15] rfl rfl (by kernel_rfl) (by kernel_rfl) (by kernel_rfl) (by kernel_rfl) rfl rfl (fun _ _ _ h => h) (Or.inl ⟨by rfl, fun W hW => by have hc := hW.2.2.1; go_simp⟩) ⟨e0, e1, e2, e3⟩ ?_
        simp only [Act.put, List.setIfInBounds_toArray, List.set_cons_zero, List.set_cons_succ]
        refine until_take (i := 10) (v := .pointer (some ⟨ag, ri, none⟩)) (some 49) [15] rfl rfl (by kernel_rfl) (by kernel_rfl) (by kernel_rfl) (by kernel_rfl) rfl rfl (fun _ _ _ h => h) (Or.inl ⟨by rfl, fun W hW => by have hc := hriN; have hc2 := hriNI; go_simp⟩) ⟨e0, e1, e2, e3⟩ ?_
        simp only [Act.put, List.setIfInBounds_toArray, List.set_cons_zero, List.set_cons_succ]
        refine until_take (i := 11) (v := .int .u8 (bt.toNat : Int)) (some 50) [15] rfl rfl (by kernel_rfl) (by kernel_rfl) (by kernel_rfl) (by kernel_rfl) rfl rfl (fun _ _ _ h => h) (Or.inl ⟨by rfl, fun W hW => by have hc := hW.2.2.2; go_simp⟩) ⟨e0, e1, e2, e3⟩ ?_
        simp only [Act.put, List.setIfInBounds_toArray, List.set_cons_zero, List.set_cons_succ]
        refine until_step (i := 12) (by kernel_rfl) rfl rfl (fun K hK => ?_)
        go_simp
        have HB8 := Lib.hid (below_a wr.drew (.cells #[.int .u8 (bt.toNat : Int)] 5))
        have hr8 := RB.lit1 wr.drew (bt.toNat : Int) bt 5 rfl
        have e8 : (wr.drew.alloc (.cells #[.int .u8 (bt.toNat : Int)] 5)).cell? ⟨tb, 0, none⟩ = some (.slice vA i vc) ∧ (wr.drew.alloc (.cells #[.int .u8 (bt.toNat : Int)] 5)).cell? ⟨xb, 0, none⟩ = some (.slice (some ⟨ag, 0, none⟩) N ac) ∧ (wr.drew.alloc (.cells #[.int .u8 (bt.toNat : Int)] 5)).cell? ⟨xb, 2, none⟩ = some (.int .i64 (ri : Int)) ∧ (wr.drew.alloc (.cells #[.int .u8 (bt.toNat : Int)] 5)).cell? ⟨ag, ri, none⟩ = some (.int .u8 (bt.toNat : Int)) := ⟨keepc HB8.out e0, keepc HB8.out e1, keepc HB8.out e2, keepc HB8.out e3⟩
        have ho8 : (wr.drew.alloc (.cells #[.int .u8 (bt.toNat : Int)] 5)).ownsRow w.heap.size 5 1 (.slice vA i vc) i (bv (d.dat.take i)) := own_below (w := wr.drew) HT.out.own HB8.out
        have hs8 : w.heap.size ≤ (wr.drew.alloc (.cells #[.int .u8 (bt.toNat : Int)] 5)).heap.size := Nat.le_trans (HT.out.x.ch.size) HB8.out.size
        obtain ⟨g8, hg8⟩ : ∃ g8, g8 = wr.heap.size := ⟨_, rfl⟩
        have hd8 : wr.drew.heap.size = g8 := hg8.symm
        rw [hd8] at hr8
        obtain ⟨w8, hw8⟩ : ∃ w8, w8 = (wr.alloc (.cells #[.int .u8 (bt.toNat : Int)] 5)).drew := ⟨_, rfl⟩
        rw [show wr.drew.alloc (.cells #[.int .u8 (bt.toNat : Int)] 5) = w8 from hw8.symm] at HB8 hr8 e8 ho8 hs8
        have HB9 : Hid (Below wr.heap.size wr w8) := Lib.hid ⟨HB8.out.os, HB8.out.tape, HB8.out.output, HB8.out.size, HB8.out.block⟩
        rw [← hw8, ← hg8]
        clear hd8 hg8 hw8
        refine hK.out _ _ e8 (fun _ => ?_)
        clear hK
        try simp only [Act.put, List.setIfInBounds_toArray, List.set_cons_zero, List.set_cons_succ]
        refine until_step (i := 13) (by kernel_rfl) rfl rfl (fun K hK => ?_)
        refine step_app _ rfl (.tmp 40) (.tmp 51) 28 5 rfl undByte infoByte w.heap.size (.slice vA i vc) i _ rfl ho8 (some ⟨g8, 0, none⟩) 1 1 [bt] rfl hr8 (by have := HLT.out; have := HKB.out.1; have := HK.out; have := HNM.out; have : d.held = d.nx - 1 - d.rd := rfl; omega) hs8 ?_
        intro v9 w9 r9 g9 o9
        have hk9 : ∀ k, k < w.heap.size → some k ≠ (Value.slice vA i vc).ownBlock := fun k hk e => by have := (HT.out.vlo e.symm).1; omega
        have ht9 : some tb ≠ (Value.slice vA i vc).ownBlock := fun e => (HT.out.vlo e.symm).2.2.2 rfl
        have e9 : w9.cell? ⟨tb, 0, none⟩ = some (.slice vA i vc) ∧ w9.cell? ⟨xb, 0, none⟩ = some (.slice (some ⟨ag, 0, none⟩) N ac) ∧ w9.cell? ⟨xb, 2, none⟩ = some (.int .i64 (ri : Int)) ∧ w9.cell? ⟨ag, ri, none⟩ = some (.int .u8 (bt.toNat : Int)) := ⟨g9.cell e8.1 ht9, g9.cell e8.2.1 (hk9 _ HAV.out.1), g9.cell e8.2.2.1 (hk9 _ HAV.out.1), g9.cell e8.2.2.2 (hk9 _ HAV.out.2)⟩
        have hx8 : tb < w8.heap.size := Nat.lt_of_lt_of_le (Array.getElem?_eq_some_iff.1 HT.out.tblk).1 HB9.out.size
        have hxb : xb < wr.heap.size := Nat.lt_of_lt_of_le HAV.out.1 HT.out.x.ch.size
        have f9 : w9.frozen? ⟨tb, 0, none⟩ = false := (World.frozen?_of_block (g9.block tb hx8 ht9)).trans ((World.frozen?_of_block (HB9.out.block tb (Array.getElem?_eq_some_iff.1 HT.out.tblk).1)).trans (tf 0))
        have fx9 : w9.frozen? ⟨xb, 2, none⟩ = false := (World.frozen?_of_block (g9.block xb (Nat.lt_of_lt_of_le hxb HB9.out.size) (hk9 _ HAV.out.1))).trans ((World.frozen?_of_block (HB9.out.block xb hxb)).trans (HT.out.x.s.fz 2))
        have HO9 := Lib.hid (And.intro r9 (And.intro g9 o9))
        have HFX := Lib.hid fx9
        obtain ⟨A9, k9, rfl, -, -⟩ := RB.of_own r9
        clear r9 g9 o9 e8 ho8 hs8 hr8 hk9 ht9 hx8 hxb fx9
        show K (Act.put _ (some 52) _) _
        refine hK.out _ _ e9 (fun _ => ?_)
        clear hK
        try simp only [Act.put, List.setIfInBounds_toArray, List.set_cons_zero, List.set_cons_succ]
        refine until_take (i := 14) (v := .pointer (some ⟨tb, 0, none⟩)) (some 53) [15] rfl rfl (by kernel_rfl) (by kernel_rfl) (by kernel_rfl) (by kernel_rfl) rfl rfl (fun _ _ _ h => h) (Or.inl ⟨by rfl, fun W hW => by go_simp⟩) e9 ?_
        simp only [Act.put, List.setIfInBounds_toArray, List.set_cons_zero, List.set_cons_succ]
        refine until_last (by kernel_rfl) rfl (fun K hK => ?_)
        go_simp
        have HT10 := Lib.hid (HT.out.app HB9.out (v' := .slice A9 (i + 1) k9) HO9.out.1 HO9.out.2.1 HO9.out.2.2 HBT.out)
        have HZ : Hid ((w9.setCell ⟨tb, 0, none⟩ (.slice A9 (i + 1) k9)).cell? ⟨xb, 2, none⟩ = some (.int .i64 (ri : Int)) ∧ (w9.setCell ⟨tb, 0, none⟩ (.slice A9 (i + 1) k9)).frozen? ⟨xb, 2, none⟩ = false) := by
          have hne : ¬ xb = tb := fun e => by have := HAV.out.1; have := HT.out.lo; omega
          have c : Ch w9 (w9.setCell ⟨tb, 0, none⟩ (.slice A9 (i + 1) k9)) (fun k => k = tb) := Ch.setCell (m := fun k => k = tb) (Ch.refl w9 _) (fun _ => rfl) _
          exact Lib.hid ⟨c.cell e9.2.2.1 hne, (World.frozen?_of_block (c.block xb (World.block_lt_of_cell? _ _ e9.2.2.1) hne)).trans HFX.out⟩
        clear e9 f9
        refine hK.out _ _ ?_
        clear hK
        try simp only [Act.put, List.setIfInBounds_toArray, List.set_cons_zero, List.set_cons_succ]
        refine wpAnyH_done (by kernel_rfl) ?_ _
        refine NoPanic.normal ?_
        have z2 : (w9.setCell ⟨tb, 0, none⟩ (.slice A9 (i + 1) k9)).cell? ⟨xb, 2, none⟩ = some (.int .i64 (ri : Int)) := HZ.out.1
        have zf : (w9.setCell ⟨tb, 0, none⟩ (.slice A9 (i + 1) k9)).frozen? ⟨xb, 2, none⟩ = false := HZ.out.2
        rw [← HRI.out.2] at HT10
        clear e0 e1 e2 e3 HZ HT
        generalize w9.setCell ⟨tb, 0, none⟩ (.slice A9 (i + 1) k9) = w10 at *
        go_wp2_with fail
        go_roundg (k - (i + 1))
        case measure => have := HKX.out; have := HLT.out; omega
        case rel => exact ⟨i + 1, _, by have := HLT.out; omega, Nat.le_refl _, HT10.out⟩
      · obtain rfl : i = k := by omega
        have HF := Lib.hid (HT.out.fin_ (m := m) HK.out HER.out)
        by_cases g1 : (i : Int) < m
        · have g1b : decide ((i : Int) < m) = true := decide_eq_true g1
          have g2 : ¬ (ri1 : Int) < (nx : Int) := by have := HKB.out; have := HK.out; have : d.held = d.nx - 1 - d.rd := rfl; have := HNX.out; have := HNM.out; omega
          have g2b : decide ((ri1 : Int) < (nx : Int)) = false := decide_eq_false g2
          clear hlt hik hri hri1 hrb HT
          go_wp2_with fail
          exact bodyPost_ret (results_c0 rfl _ _ r _ _ rfl HF.out.1 Try.underlying39 rfl szGot) rfl HF.out.2
        · have g1b : decide ((i : Int) < m) = false := decide_eq_false g1
          clear hlt hik hri hri1 hrb HT
          go_wp2_with fail
          exact bodyPost_ret (results_c0 rfl _ _ r _ _ rfl HF.out.1 Try.underlying39 rfl szGot) rfl HF.out.2
end
end Go.Proofs.Ytancbdnpmabpfaa

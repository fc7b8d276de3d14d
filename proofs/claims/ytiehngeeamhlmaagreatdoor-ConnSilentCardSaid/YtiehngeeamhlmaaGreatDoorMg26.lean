/- The contracts of conn.Dial and conn.Accept where they refuse, of Conn.Out and Conn.Over; the law's example. Condition: the table of digests is as the program lays it.
The law's example. Condition: the table of digests is as the program lays it.
A segment as an argument of a law of connections. No condition.
The law ConnNil. Condition: the table of digests is as the program lays it. -/
import Derived.Test.YtiehngeeamhlmaaGreatDoorMg25
import Derived.Test.YtiehngeeamhlmaaGreatDoorMg4
import Derived.OpenShut
import Derived.Deep.Slices
import Derived.ChangeOld
import Derived.ProofKit
namespace Go.Proofs.YtiehngeeamhlmaaGreatDoor
set_option linter.unusedVariables false
set_option linter.unusedSimpArgs false
set_option maxRecDepth 20000
open Go.RowKit Go.Lib

set_option maxHeartbeats 1600000 in
theorem DialBad_any (w : World) : Calls Tryz.prog 34 #[.int .u64 1, .agg #[.int .i64 4, .int .i64 0, .int .i64 0, .int .i64 0], .int .i64 0] w fun e w' => e = .returned (.tuple #[.pointer none, .int .i64 1]) ∧ Below w.heap.size w w' := by
  have HR := Lib.hid (fun W => RightBare_no1 ⟨4, 0, 0, 0, 0, 0, false, false, false, false, 0, .slice none 0 0, .slice none 0 0⟩ (by decide) W)
  unfold Sgc.vals at HR
  dsimp only at HR
  go_enter Tryz.func34, Tryz.ntmps34
  go_wp2_with (first
    | ((with_reducible refine wpList_here ?_); refine wpList_boxV (o := ⟨some 4, _, _, _, _, _⟩) rfl 75 (.tmp 1) rfl [.int .i64 4, .int .i64 0, .int .i64 0, .int .i64 0] rfl _ rfl ?_; intro w0 z0 b0 s0; have x0 : w0.cell? ⟨w.heap.size, 0, none⟩ = some (.int .i64 4) := (z0 0 (by simp)).1; have x1 : w0.cell? ⟨w.heap.size, 1, none⟩ = some (.int .i64 0) := (z0 1 (by simp)).1; have x2 : w0.cell? ⟨w.heap.size, 2, none⟩ = some (.int .i64 0) := (z0 2 (by simp)).1; have x3 : w0.cell? ⟨w.heap.size, 3, none⟩ = some (.int .i64 0) := (z0 3 (by simp)).1)
    | fail)
  refine (HR.out _).mono ?_
  rintro e w1 ⟨rfl, b1⟩
  have HB := Lib.hid (below_trans b0 b1)
  clear z0 b0 s0 x0 x1 x2 x3 b1
  go_wp2_with fail
  go_ret2
  exact ⟨rfl, HB.out⟩
/-- A Syn without anything else. -/
def synZ : Sgc := ⟨0, 0, 0, 0, 0, 0, true, false, false, false, 0, .slice none 0 0, .slice none 0 0⟩
def synL : List Value := [.int .i64 0, .int .i64 0, .int .i64 0, .int .i64 0, .int .u32 0, .int .u32 0, .bool true, .bool false, .bool false, .bool false, .int .i64 0, .slice none 0 0, .slice none 0 0]
theorem synL_eq : synZ.vals = synL := rfl
set_option maxHeartbeats 1600000 in
theorem asks_any (w : World) : Calls Tryz.prog 86 #[.agg synL.toArray] w fun e w' => e = .returned (.bool true) ∧ Below w.heap.size w w' := by
  go_enter Tryz.func86, Tryz.ntmps86
  go_wp2_with (first
    | ((with_reducible refine wpList_here ?_); refine wpList_boxV (o := ⟨some 1, _, _, _, _, _⟩) rfl 54 (.tmp 0) rfl synL rfl _ rfl ?_; intro w0 z0 b0 s0; have x6 : w0.cell? ⟨w.heap.size, 6, none⟩ = some (.bool true) := (z0 6 (by simp [synL])).1; have x7 : w0.cell? ⟨w.heap.size, 7, none⟩ = some (.bool false) := (z0 7 (by simp [synL])).1)
    | fail)
  go_ret
  exact ⟨rfl, b0⟩
set_option maxHeartbeats 3200000 in
theorem AcceptBad_any (w : World) : Calls Tryz.prog 35 #[.int .u64 1, .agg synL.toArray, .int .i64 0] w fun e w' => e = .returned (.tuple #[.pointer none, .int .i64 1]) ∧ Below w.heap.size w w' := by
  have HR := Lib.hid (fun W => RightBare_yes synZ rfl rfl rfl (by decide) W)
  rw [synL_eq] at HR
  have HF := Lib.hid (fun W => FindNone_any 1 W)
  have HA := Lib.hid (fun W => asks_any W)
  generalize hL : synL = L at *
  have hL11 : L[11]? = some (.slice none 0 0) := by subst hL; rfl
  have hl13 : L.length = 13 := by subst hL; rfl
  clear hL
  go_enter Tryz.func35, Tryz.ntmps35
  go_wp2_with (first
    | ((with_reducible refine wpList_here ?_); refine wpList_boxV (o := ⟨some 4, _, _, _, _, _⟩) rfl 54 (.tmp 1) rfl L rfl _ rfl ?_; intro w0 z0 b0 s0; have x11 : w0.cell? ⟨w.heap.size, 11, none⟩ = some (.slice none 0 0) := (z0 11 (by omega)).1.trans hL11)
    | fail)
  refine (HF.out _).mono ?_
  rintro e w1 ⟨rfl, b1⟩
  have z1 := z0.below b1
  have B1 := Lib.hid (below_trans b0 b1)
  have hw1 : w.heap.size < w1.heap.size := by have := b1.size; omega
  clear z0 b0 s0 x11 b1 HF
  go_wp2_with (first
    | ((with_reducible refine wpList_here ?_); refine wpList_allocV (o := ⟨some 8, _, _, _, _, _⟩) rfl 58 rfl Opn.none_.vals zeroOpn _ rfl ?_; intro w2 z2 b2 s2)
    | ((with_reducible refine wpList_here ?_); refine wpList_storeV rfl 58 (.tmp 8) (.tmp 16) rfl _ _ Opn.none_.vals rfl rfl z2 rfl (opn_one _) infoOpn ?_; intro w3 z3 g3 s3; have b3 := v_below_g b2 g3 b2.size (Nat.le_refl _); have z4 := z1.below b3; have r4 := z4.range)
    | ((with_reducible refine wpList_here ?_); refine wpList_loadV (o := ⟨some 18, _, _, _, _, _⟩) rfl 54 (.tmp 4) rfl w.heap.size 0 L rfl r4 _ Tryz.underlying54 rfl (by rw [hl13]; exact sizeSgc) ?_)
    | fail)
  refine (HR.out _).mono ?_
  rintro e w5 ⟨rfl, b5⟩
  have r5 := (z4.below b5).range
  have B5 := Lib.hid (B1.out.trans ((below_trans b3 b5).mono (by omega)))
  clear z1 z2 z3 z4 b2 b3 b5 g3 s2 s3 r4 HR
  go_wp2_with (first
    | ((with_reducible refine wpList_here ?_); refine wpList_loadV (o := ⟨some 22, _, _, _, _, _⟩) rfl 54 (.tmp 4) rfl w.heap.size 0 L rfl r5 _ Tryz.underlying54 rfl (by rw [hl13]; exact sizeSgc) ?_)
    | fail)
  refine (HA.out _).mono ?_
  rintro e w6 ⟨rfl, b6⟩
  have B6 := Lib.hid (B5.out.trans (b6.mono B5.out.size))
  clear b6 r5
  go_wp2_with fail
  go_ret2
  exact ⟨rfl, B6.out⟩
section
variable {base : Nat} {w w' : World} {lab ro : Nat → Nat} {cb lb : Nat} {z : Zc}
/-- What waited was taken. -/
def Zc.took (z : Zc) : Zc := { z with c := { z.c with sv := .slice none 0 0 }, g := [] }
theorem Wo.took (h : Wo base w lab ro cb lb z) : Wo base (w.setCell ⟨cb, 24, none⟩ (.slice none 0 0)) lab ro cb lb z.took ∧ Fx lab ro w lab ro (w.setCell ⟨cb, 24, none⟩ (.slice none 0 0)) := by
  have c : Ch w (w.setCell ⟨cb, 24, none⟩ (.slice none 0 0)) (fun k => k = cb) := (Ch.refl w (fun k => k = cb)).setCell (p := ⟨cb, 24, none⟩) (fun _ => rfl) _
  have hd : ∀ g d, d ≠ 1 → ro g = d → ¬ (g = cb) := fun g d hd e k => hd (by rw [← e, k]; exact h.rc)
  refine ⟨⟨h.ca.set 24 _ _ rfl, h.rc, h.la.ch c (hd _ 2 (by decide) h.rl), h.rl, h.fe, h.fl.frame c (fun g hg => hd _ 3 (by decide) (h.rf g hg)), h.rf,
    h.sn.ch c (hd _ 4 (by decide) h.rs.1) (hd _ 4 (by decide) h.rs.2), h.rs, h.rn.ch c (hd _ 5 (by decide) h.rr.1) (hd _ 5 (by decide) h.rr.2.1) (hd _ 5 (by decide) h.rr.2.2), h.rr, h.pa.ch c (hd _ 6 (by decide) h.rp), h.rp, own_ch2 h.lv c (fun g hg => hd _ 7 (by decide) (h.rv g hg)), h.rv,
    World.ownsRow_nil _ _ _ _, (fun g hg => by cases hg), (fun q hq => by cases hq), h.wh.ch (lwch c) (fun k hk => by subst hk; exact (h.ds _ (by rw [h.rc]; decide)).1), fun k hk => ⟨(h.ds k hk).1, (h.ds k hk).2.1, Nat.lt_of_lt_of_le (h.ds k hk).2.2 c.size⟩, h.wl⟩, c.mono (fun k _ e => .inr (by subst e; rw [h.rc]; decide)), fun k hk => ⟨rfl, rfl⟩⟩
theorem Out_any (h : Wo base w lab ro cb lb z) : Calls Tryz.prog 43 #[cptr cb] w fun e w' => e = .returned z.c.sv ∧ w' = w.setCell ⟨cb, 24, none⟩ (.slice none 0 0) := by
  have c1 := h.ca.sv_
  have f1 := h.ca.fz 24
  obtain ⟨A, n, hs, _, _⟩ := LF.own_slice h.sv
  rw [hs] at c1 ⊢
  clear h
  unfold cptr
  go_enter Tryz.func43, Tryz.ntmps43
  go_wp2_with fail
  go_ret
  exact ⟨rfl, rfl⟩
theorem OverNo_any (h : Wo base w lab ro cb lb z) (hs : z.c.st = 0) : Calls Tryz.prog 20 #[cptr cb] w fun e w' => e = .returned (.bool false) ∧ w' = w := by
  have c4 := h.ca.st_
  rw [hs] at c4
  clear h
  unfold cptr
  go_enter Tryz.func20, Tryz.ntmps20
  go_wp2_with fail
  go_ret
  exact ⟨rfl, rfl⟩
end
end Go.Proofs.YtiehngeeamhlmaaGreatDoor

namespace Go.Proofs.YtiehngeeamhlmaaGreatDoor
set_option linter.unusedVariables false
set_option linter.unusedSimpArgs false
set_option maxRecDepth 20000
open Go.RowKit Go.Lib

/-- The first of one segment that waits. -/
theorem seg_one {base : Nat} {w : World} {v : Value} {q : Sgc} (h : w.ownsRow base 54 13 v 1 (sgv [q])) : ∃ g cap, v = .slice (some ⟨g, 0, none⟩) 1 cap ∧ 1 ≤ cap ∧ cap ≤ 9223372036854775807 ∧ w.rangeAt g 0 q.vals := by
  rw [sgv_one] at h
  rcases h.2 with ⟨e, e2⟩ | ⟨g', cap, cur, rfl, _, _, h3, h4, _⟩
  · cases e2
  · refine ⟨g', cap, rfl, h3, by unfold maxLen at h4; omega, fun j u hu => ?_⟩
    have hj := (List.getElem?_eq_some_iff.1 hu).1
    rw [Nat.zero_add, World.ownsRow.cellAt h j (by rw [q.vals_length] at hj; omega)]
    exact hu
set_option maxHeartbeats 3200000 in
theorem wakes_any (w : World) (hT : LK.Tab w) : Calls Tryz.prog 13 #[] w fun e w' => e = .returned (.bool true) ∧ Below w.heap.size w w' := by
  have HD := Lib.hid (Dial_any (w := w) (key := 7) (i := 0) (j := 1) (op := 5) (tp := 80) (t := 0) (by decide) (by decide) (by decide) (by omega) (by omega) (by omega) hT)
  clear hT
  go_enter Tryz.func13, Tryz.ntmps13
  go_wp2_with fail
  refine HD.out.mono ?_
  rintro e w1 ⟨base, lab, ro, cb, lb, z, rfl, Z, ⟨⟨sb, rb, pb, wb, v, v', s, iss, fin, ov, dv, so, sr, sm, hiss, rfl⟩⟩, hb, b1⟩
  have HO := Lib.hid (Out_any Z)
  obtain ⟨Z2, X2⟩ := Z.took
  have HV := Lib.hid (OverNo_any Z2 rfl)
  obtain ⟨g, cap, hv, hc1, hc2, hr⟩ := seg_one Z.sv
  obtain ⟨_, ob, hov, hO, ho9⟩ := Z.sg _ (List.mem_cons_self ..)
  have hov : ov = .slice (some ⟨ob, 0, none⟩) 1 1 := hov
  subst hov
  have hgc : g ≠ cb := fun e => by have h8 := Z.rg g (by rw [hv]; rfl); rw [e, Z.rc] at h8; cases h8
  have hoc : ob ≠ cb := fun e => by rw [e, Z.rc] at ho9; cases ho9
  have cc : Ch w1 (w1.setCell ⟨cb, 24, none⟩ (.slice none 0 0)) (fun k => k = cb) := (Ch.refl w1 (fun k => k = cb)).setCell (p := ⟨cb, 24, none⟩) (fun _ => rfl) _
  have x6 : (w1.setCell ⟨cb, 24, none⟩ (.slice none 0 0)).cell? ⟨g, 6, none⟩ = some (.bool true) := cc.cell (hr 6 _ rfl) hgc
  have x11 : (w1.setCell ⟨cb, 24, none⟩ (.slice none 0 0)).cell? ⟨g, 11, none⟩ = some (.slice (some ⟨ob, 0, none⟩) 1 1) := cc.cell (hr 11 _ rfl) hgc
  have x1 : (w1.setCell ⟨cb, 24, none⟩ (.slice none 0 0)).cell? ⟨ob, 1, none⟩ = some (.int .u64 7) := cc.cell (hO 1 (by rw [Opn.vals_length]; omega)).1 hoc
  have HB : Hid (Below w.heap.size w (w1.setCell ⟨cb, 24, none⟩ (.slice none 0 0))) := Lib.hid (by
    have c2 := (Ch.of_below (fun k => k = cb) b1).then_ cc
    exact c2.below_of (by have := (Z.ds cb (by rw [Z.rc]; decide)).2.1; omega) (Nat.le_refl _))
  rw [hv] at HO
  clear Z Z2 X2 b1 hr hO cc hv
  generalize w1.setCell ⟨cb, 24, none⟩ (.slice none 0 0) = w2 at *
  unfold cptr at *
  go_wp2_with (first
    | (go_at_call 43; refine HO.out.mono ?_; rintro e w3 ⟨rfl, rfl⟩)
    | (go_at_call 20; refine HV.out.mono ?_; rintro e w3 ⟨rfl, rfl⟩)
    | fail)
  go_ret
  exact ⟨rfl, HB.out⟩
end Go.Proofs.YtiehngeeamhlmaaGreatDoor

namespace Go.Proofs.YtiehngeeamhlmaaGreatDoor
set_option linter.unusedVariables false
set_option linter.unusedSimpArgs false
set_option maxRecDepth 20000
open Go.RowKit Go.ChangeShapes Go.WideShapes Go.Deep

/-- The cells are a segment's. -/
def Sw (vs : List Value) : Prop := ∃ s : Sgc, vs = s.vals ∧ isSl s.ov ∧ isSl s.dv
section
variable {H : Type} {enc : TypeId × Value → H} {w : World} {base : Nat} {held : Bool}
theorem slice_cell (t e : TypeId) (ht : Tryz.prog.underlying t = some (.slice e)) {fuel : Nat} {v : Value} {x : DataW H × List MemPlace} (h : DataW.trod enc Tryz.prog w base (fun _ => true) held fuel t [v] = some x) : ∃ A n c, v = .slice A n c := by
  rcases open_slice ht h with ⟨hcs, _⟩ | ⟨a, len, cap, m, k, D, Pl, hcs, _⟩
  · simp at hcs
    exact ⟨_, _, _, hcs⟩
  · simp at hcs
    exact ⟨_, _, _, hcs⟩
theorem sw_of_trod {fuel : Nat} {cs : List Value} {x : DataW H × List MemPlace} (hl : cs.length = 13) (h : DataW.trod enc Tryz.prog w base (fun _ => true) held fuel 54 cs = some x) : Sw cs := by
  obtain ⟨xs, n, _, _, _, hlen, hg⟩ := DataW.trod_struct Tryz.underlying54 h
  have get : ∀ (i : Nat), i < 13 → ∃ y, xs[i]? = some y := fun i hi => ⟨_, List.getElem?_eq_getElem (by rw [hlen]; exact hi)⟩
  match cs, hl with
  | [c0, c1, c2, c3, c4, c5, c6, c7, c8, c9, c10, c11, c12], _ =>
    obtain ⟨y0, e0⟩ := get 0 (by omega)
    have g0 := hg 0 _ rfl
    rw [e0] at g0
    obtain ⟨a0, q0, _, f0⟩ := DataW.trod_int Tryz.underlying3 g0
    obtain rfl : c0 = .int .i64 a0 := by have q : [c0] = _ := q0; injection q
    obtain ⟨y1, e1⟩ := get 1 (by omega)
    have g1 := hg 1 _ rfl
    rw [e1] at g1
    obtain ⟨a1, q1, _, f1⟩ := DataW.trod_int Tryz.underlying3 g1
    obtain rfl : c1 = .int .i64 a1 := by have q : [c1] = _ := q1; injection q
    obtain ⟨y2, e2⟩ := get 2 (by omega)
    have g2 := hg 2 _ rfl
    rw [e2] at g2
    obtain ⟨a2, q2, _, f2⟩ := DataW.trod_int Tryz.underlying3 g2
    obtain rfl : c2 = .int .i64 a2 := by have q : [c2] = _ := q2; injection q
    obtain ⟨y3, e3⟩ := get 3 (by omega)
    have g3 := hg 3 _ rfl
    rw [e3] at g3
    obtain ⟨a3, q3, _, f3⟩ := DataW.trod_int Tryz.underlying3 g3
    obtain rfl : c3 = .int .i64 a3 := by have q : [c3] = _ := q3; injection q
    obtain ⟨y4, e4⟩ := get 4 (by omega)
    have g4 := hg 4 _ rfl
    rw [e4] at g4
    obtain ⟨a4, q4, _, f4⟩ := DataW.trod_int Tryz.underlying51 g4
    obtain rfl : c4 = .int .u32 a4 := by have q : [c4] = _ := q4; injection q
    obtain ⟨y5, e5⟩ := get 5 (by omega)
    have g5 := hg 5 _ rfl
    rw [e5] at g5
    obtain ⟨a5, q5, _, f5⟩ := DataW.trod_int Tryz.underlying51 g5
    obtain rfl : c5 = .int .u32 a5 := by have q : [c5] = _ := q5; injection q
    obtain ⟨y6, e6⟩ := get 6 (by omega)
    have g6 := hg 6 _ rfl
    rw [e6] at g6
    obtain ⟨a6, q6, _⟩ := DataW.trod_bool Tryz.underlying4 g6
    obtain rfl : c6 = .bool a6 := by have q : [c6] = _ := q6; injection q
    obtain ⟨y7, e7⟩ := get 7 (by omega)
    have g7 := hg 7 _ rfl
    rw [e7] at g7
    obtain ⟨a7, q7, _⟩ := DataW.trod_bool Tryz.underlying4 g7
    obtain rfl : c7 = .bool a7 := by have q : [c7] = _ := q7; injection q
    obtain ⟨y8, e8⟩ := get 8 (by omega)
    have g8 := hg 8 _ rfl
    rw [e8] at g8
    obtain ⟨a8, q8, _⟩ := DataW.trod_bool Tryz.underlying4 g8
    obtain rfl : c8 = .bool a8 := by have q : [c8] = _ := q8; injection q
    obtain ⟨y9, e9⟩ := get 9 (by omega)
    have g9 := hg 9 _ rfl
    rw [e9] at g9
    obtain ⟨a9, q9, _⟩ := DataW.trod_bool Tryz.underlying4 g9
    obtain rfl : c9 = .bool a9 := by have q : [c9] = _ := q9; injection q
    obtain ⟨y10, e10⟩ := get 10 (by omega)
    have g10 := hg 10 _ rfl
    rw [e10] at g10
    obtain ⟨a10, q10, _, f10⟩ := DataW.trod_int Tryz.underlying3 g10
    obtain rfl : c10 = .int .i64 a10 := by have q : [c10] = _ := q10; injection q
    obtain ⟨y11, e11⟩ := get 11 (by omega)
    have g11 := hg 11 _ rfl
    rw [e11] at g11
    obtain ⟨oA, on, oc, rfl⟩ := slice_cell _ _ Tryz.underlying52 (v := c11) g11
    obtain ⟨y12, e12⟩ := get 12 (by omega)
    have g12 := hg 12 _ rfl
    rw [e12] at g12
    obtain ⟨dA, dn, dc, rfl⟩ := slice_cell _ _ Tryz.underlying35 (v := c12) g12
    obtain ⟨k4, rfl⟩ := Int.eq_ofNat_of_zero_le (Go.bounds_u32 f4).1
    obtain ⟨k5, rfl⟩ := Int.eq_ofNat_of_zero_le (Go.bounds_u32 f5).1
    exact ⟨⟨a0, a1, a2, a3, k4, k5, a6, a7, a8, a9, a10, .slice oA on oc, .slice dA dn dc⟩, rfl, ⟨_, _, _, rfl⟩, ⟨_, _, _, rfl⟩⟩
end
end Go.Proofs.YtiehngeeamhlmaaGreatDoor

namespace Go.Proofs.YtiehngeeamhlmaaGreatDoor
set_option linter.unusedVariables false
set_option linter.unusedSimpArgs false
set_option maxRecDepth 20000
open Go.RowKit Go.Lib

set_option maxHeartbeats 6400000 in
theorem Nil_any (vs : List Value) (n : Int) (w : World) (h : Sw vs) (hn : -9223372036854775808 ≤ n ∧ n ≤ 9223372036854775807) (hT : LK.Tab w) : Calls Tryz.prog 9 #[.agg vs.toArray, .int .i64 n] w (Held w) := by
  obtain ⟨s, rfl, ⟨oA, on, oc, ho⟩, ⟨dA, dn, dc, hd⟩⟩ := h
  have HWK := Lib.hid (fun W (b : Below w.heap.size w W) => wakes_any W (hT.below b))
  have HAC := Lib.hid (fun W => AcceptBad_any W)
  unfold synL at HAC
  clear hT hn
  unfold Held
  go_enter Tryz.func9, Tryz.ntmps9
  go_wp2_with (first
    | ((with_reducible refine wpList_here ?_); refine wpList_boxV (o := ⟨some 2, _, _, _, _, _⟩) rfl 54 (.tmp 0) rfl s.vals rfl _ rfl ?_; intro w0 z0 b0 s0)
    | fail)
  refine (HWK.out _ b0).mono ?_
  rintro e w1 ⟨rfl, b1⟩
  have z1 := z0.below b1
  have B1 := Lib.hid (below_trans b0 b1)
  have x11 := z1.celb.c11
  have x12 := z1.celb.c12
  rw [ho] at x11
  rw [hd] at x12
  clear z0 b0 b1 s0 HWK ho hd
  by_cases h1 : 20 < (on : Int)
  · go_wp2_with fail
    go_ret
    exact ⟨rfl, B1.out⟩
  by_cases h2 : 50 < (dn : Int)
  · go_wp2_with fail
    go_ret
    exact ⟨rfl, B1.out⟩
  go_wp2_with (first
    | (go_at_call 31; refine (nTick n _).mono ?_; rintro e wx ⟨rfl, rfl⟩)
    | (go_at_call 32; refine (nWrite none 0 0 n _).mono ?_; rintro e wx ⟨rfl, rfl⟩)
    | (go_at_call 33; refine (nRead n n _).mono ?_; rintro e wx ⟨rfl, rfl⟩)
    | fail)
  refine (DialBad_any _).mono ?_
  rintro e w2 ⟨rfl, b2⟩
  have z2 := z1.below b2
  clear x11 x12
  go_wp2_with fail
  refine (HAC.out _).mono ?_
  rintro e w3 ⟨rfl, b3⟩
  have z3 := z2.below b3
  have y0 : w3.cell? ⟨w.heap.size, 0, none⟩ = some (.int .i64 s.src) := (z3 0 (by rw [s.vals_length]; omega)).1
  have y1 : w3.cell? ⟨w.heap.size, 1, none⟩ = some (.int .i64 s.dst) := (z3 1 (by rw [s.vals_length]; omega)).1
  have y2 : w3.cell? ⟨w.heap.size, 2, none⟩ = some (.int .i64 s.sp) := (z3 2 (by rw [s.vals_length]; omega)).1
  have y3 : w3.cell? ⟨w.heap.size, 3, none⟩ = some (.int .i64 s.dp) := (z3 3 (by rw [s.vals_length]; omega)).1
  have y4 : w3.cell? ⟨w.heap.size, 4, none⟩ = some (.int .u32 (s.seq : Int)) := (z3 4 (by rw [s.vals_length]; omega)).1
  have y5 : w3.cell? ⟨w.heap.size, 5, none⟩ = some (.int .u32 (s.ack : Int)) := (z3 5 (by rw [s.vals_length]; omega)).1
  have y6 : w3.cell? ⟨w.heap.size, 6, none⟩ = some (.bool s.syn) := (z3 6 (by rw [s.vals_length]; omega)).1
  have y7 : w3.cell? ⟨w.heap.size, 7, none⟩ = some (.bool s.acks) := (z3 7 (by rw [s.vals_length]; omega)).1
  have y8 : w3.cell? ⟨w.heap.size, 8, none⟩ = some (.bool s.fin) := (z3 8 (by rw [s.vals_length]; omega)).1
  have y9 : w3.cell? ⟨w.heap.size, 9, none⟩ = some (.bool s.rst) := (z3 9 (by rw [s.vals_length]; omega)).1
  have y10 : w3.cell? ⟨w.heap.size, 10, none⟩ = some (.int .i64 s.win) := (z3 10 (by rw [s.vals_length]; omega)).1
  have y11 : w3.cell? ⟨w.heap.size, 11, none⟩ = some (s.ov) := (z3 11 (by rw [s.vals_length]; omega)).1
  have y12 : w3.cell? ⟨w.heap.size, 12, none⟩ = some (s.dv) := (z3 12 (by rw [s.vals_length]; omega)).1
  go_wp2_with fail
  refine (nMine s _).mono ?_
  rintro e w4 ⟨rfl, b4⟩
  clear y0 y1 y2 y3 y4 y5 y6 y7 y8 y9 y10 y11 y12
  have z4 := z3.below b4
  have y0 : w4.cell? ⟨w.heap.size, 0, none⟩ = some (.int .i64 s.src) := (z4 0 (by rw [s.vals_length]; omega)).1
  have y1 : w4.cell? ⟨w.heap.size, 1, none⟩ = some (.int .i64 s.dst) := (z4 1 (by rw [s.vals_length]; omega)).1
  have y2 : w4.cell? ⟨w.heap.size, 2, none⟩ = some (.int .i64 s.sp) := (z4 2 (by rw [s.vals_length]; omega)).1
  have y3 : w4.cell? ⟨w.heap.size, 3, none⟩ = some (.int .i64 s.dp) := (z4 3 (by rw [s.vals_length]; omega)).1
  have y4 : w4.cell? ⟨w.heap.size, 4, none⟩ = some (.int .u32 (s.seq : Int)) := (z4 4 (by rw [s.vals_length]; omega)).1
  have y5 : w4.cell? ⟨w.heap.size, 5, none⟩ = some (.int .u32 (s.ack : Int)) := (z4 5 (by rw [s.vals_length]; omega)).1
  have y6 : w4.cell? ⟨w.heap.size, 6, none⟩ = some (.bool s.syn) := (z4 6 (by rw [s.vals_length]; omega)).1
  have y7 : w4.cell? ⟨w.heap.size, 7, none⟩ = some (.bool s.acks) := (z4 7 (by rw [s.vals_length]; omega)).1
  have y8 : w4.cell? ⟨w.heap.size, 8, none⟩ = some (.bool s.fin) := (z4 8 (by rw [s.vals_length]; omega)).1
  have y9 : w4.cell? ⟨w.heap.size, 9, none⟩ = some (.bool s.rst) := (z4 9 (by rw [s.vals_length]; omega)).1
  have y10 : w4.cell? ⟨w.heap.size, 10, none⟩ = some (.int .i64 s.win) := (z4 10 (by rw [s.vals_length]; omega)).1
  have y11 : w4.cell? ⟨w.heap.size, 11, none⟩ = some (s.ov) := (z4 11 (by rw [s.vals_length]; omega)).1
  have y12 : w4.cell? ⟨w.heap.size, 12, none⟩ = some (s.dv) := (z4 12 (by rw [s.vals_length]; omega)).1
  go_wp2_with fail
  refine (nHear s n _).mono ?_
  rintro e w5 ⟨rfl, b5⟩
  clear y0 y1 y2 y3 y4 y5 y6 y7 y8 y9 y10 y11 y12
  have z5 := z4.below b5
  have y0 : w5.cell? ⟨w.heap.size, 0, none⟩ = some (.int .i64 s.src) := (z5 0 (by rw [s.vals_length]; omega)).1
  have y1 : w5.cell? ⟨w.heap.size, 1, none⟩ = some (.int .i64 s.dst) := (z5 1 (by rw [s.vals_length]; omega)).1
  have y2 : w5.cell? ⟨w.heap.size, 2, none⟩ = some (.int .i64 s.sp) := (z5 2 (by rw [s.vals_length]; omega)).1
  have y3 : w5.cell? ⟨w.heap.size, 3, none⟩ = some (.int .i64 s.dp) := (z5 3 (by rw [s.vals_length]; omega)).1
  have y4 : w5.cell? ⟨w.heap.size, 4, none⟩ = some (.int .u32 (s.seq : Int)) := (z5 4 (by rw [s.vals_length]; omega)).1
  have y5 : w5.cell? ⟨w.heap.size, 5, none⟩ = some (.int .u32 (s.ack : Int)) := (z5 5 (by rw [s.vals_length]; omega)).1
  have y6 : w5.cell? ⟨w.heap.size, 6, none⟩ = some (.bool s.syn) := (z5 6 (by rw [s.vals_length]; omega)).1
  have y7 : w5.cell? ⟨w.heap.size, 7, none⟩ = some (.bool s.acks) := (z5 7 (by rw [s.vals_length]; omega)).1
  have y8 : w5.cell? ⟨w.heap.size, 8, none⟩ = some (.bool s.fin) := (z5 8 (by rw [s.vals_length]; omega)).1
  have y9 : w5.cell? ⟨w.heap.size, 9, none⟩ = some (.bool s.rst) := (z5 9 (by rw [s.vals_length]; omega)).1
  have y10 : w5.cell? ⟨w.heap.size, 10, none⟩ = some (.int .i64 s.win) := (z5 10 (by rw [s.vals_length]; omega)).1
  have y11 : w5.cell? ⟨w.heap.size, 11, none⟩ = some (s.ov) := (z5 11 (by rw [s.vals_length]; omega)).1
  have y12 : w5.cell? ⟨w.heap.size, 12, none⟩ = some (s.dv) := (z5 12 (by rw [s.vals_length]; omega)).1
  go_wp2_with fail
  refine (nJoined s n _).mono ?_
  rintro e w6 ⟨rfl, b6⟩
  clear y0 y1 y2 y3 y4 y5 y6 y7 y8 y9 y10 y11 y12
  go_wp2_with (first
    | (go_at_call 37; refine (nJoin n n true n _).mono ?_; rintro e wx ⟨rfl, rfl⟩)
    | (go_at_call 38; refine (nTell n n _).mono ?_; rintro e wx ⟨rfl, rfl⟩)
    | (go_at_call 39; refine (nShutdown n _).mono ?_; rintro e wx ⟨rfl, rfl⟩)
    | (go_at_call 40; refine (nClose n _).mono ?_; rintro e wx ⟨rfl, rfl⟩)
    | (go_at_call 41; refine (nAbort n _).mono ?_; rintro e wx ⟨rfl, rfl⟩)
    | (go_at_call 42; refine (nSet n _).mono ?_; rintro e wx ⟨rfl, rfl⟩)
    | (go_at_call 43; refine (nOut  _).mono ?_; rintro e wx ⟨rfl, rfl⟩)
    | (go_at_call 19; refine (nState  _).mono ?_; rintro e wx ⟨rfl, rfl⟩)
    | (go_at_call 28; refine (nLegs  _).mono ?_; rintro e wx ⟨rfl, rfl⟩)
    | (go_at_call 44; refine (nTimers  _).mono ?_; rintro e wx ⟨rfl, rfl⟩)
    | (go_at_call 22; refine (nErr  _).mono ?_; rintro e wx ⟨rfl, rfl⟩)
    | (go_at_call 20; refine (nOver  _).mono ?_; rintro e wx ⟨rfl, rfl⟩)
    | fail)
  go_ret
  exact ⟨rfl, B1.out.trans ((below_trans (below_trans (below_trans (below_trans b2 b3) b4) b5) b6).mono B1.out.size)⟩
end Go.Proofs.YtiehngeeamhlmaaGreatDoor

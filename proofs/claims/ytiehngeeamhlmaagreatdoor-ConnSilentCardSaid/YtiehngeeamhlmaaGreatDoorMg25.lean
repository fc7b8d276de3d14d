/- The contracts of Conn.newLeg, drawn and start. Conditions: a connection without legs stands; the table of digests is as the program lays it.
The contract of Conn.start. Conditions: a connection without legs stands, beside it a leg with a flow that wants one Syn to be sent.
The contract of segment.Right at a segment without options and data; of option.Find where there are none. No condition.
The contract of conn.Dial. Conditions: addresses and ports that may be, a tick from 0 to 2^20; the table of digests is as the program lays it.
A connection that isn't there: what its calls answer. No condition. -/
import Derived.Test.YtiehngeeamhlmaaGreatDoorMg22
import Derived.Test.YtiehngeeamhlmaaGreatDoorMg24
import Derived.Test.YtiehngeeamhlmaaGreatDoorMg4
namespace Go.Proofs.YtiehngeeamhlmaaGreatDoor
set_option linter.unusedVariables false
set_option linter.unusedSimpArgs false
set_option maxRecDepth 20000
open Go.RowKit Go.Lib

/-- A leg without a flow yet. -/
def Lc.new (ow ot : Int) (nm : Int) : Lc := ⟨.pointer none, ow, ot, false, nm, 0, 0, 0, Opn.none_, .slice none 0 0⟩
def NewLegP (w : World) (cb : Nat) (c : Cv) (ow ot : Int) (lb : Nat) (w' : World) : Prop := lb = w.heap.size ∧ La w' lb (Lc.new ow ot c.md) ∧ Ca w' cb { c with md := c.md + 1 } ∧ Ch w w' (fun k => k = cb)
set_option maxHeartbeats 1600000 in
theorem newLeg_any {w : World} {cb : Nat} {c : Cv} (h : Ca w cb c) (hm : 0 ≤ c.md ∧ c.md ≤ 1152921504606846976) (ow ot : Int) :
    Calls Tryz.prog 65 #[cptr cb, .int .i64 ow, .int .i64 ot] w fun e w' => ∃ lb, e = .returned (cptr lb) ∧ NewLegP w cb c ow ot lb w' := by
  have c12 := h.md_
  have hlt := h.lt
  have f12 := h.fz 12
  have h1 : Ca (w.setCell ⟨cb, 12, none⟩ (.int .i64 (c.md + 1))) cb { c with md := c.md + 1 } := h.set 12 _ _ rfl
  have sz : (w.setCell ⟨cb, 12, none⟩ (.int .i64 (c.md + 1))).heap.size = w.heap.size := by simp [World.setCell]
  have HF : Hid (NewLegP w cb c ow ot w.heap.size ((w.setCell ⟨cb, 12, none⟩ (.int .i64 (c.md + 1))).alloc (.cells (Lc.new ow ot c.md).cs 117))) := by
    have h2 := heap_alloc_new (w.setCell ⟨cb, 12, none⟩ (.int .i64 (c.md + 1))) (.cells (Lc.new ow ot c.md).cs 117)
    rw [sz] at h2
    exact Lib.hid ⟨rfl, h2, h1.below (below_a _ _), ((Ch.refl w (fun k => k = cb)).setCell (p := ⟨cb, 12, none⟩) (fun _ => rfl) _).alloc _⟩
  have hw : IntKind.i64.wrap (c.md + 1) = c.md + 1 := by rw [IntKind.wrap_i64]; omega
  have HCS : Hid (∀ m, (Lc.new ow ot m).cs = #[.pointer none, .int .i64 ow, .int .i64 ot, .bool false, .int .i64 m, .int .i64 0, .int .u32 0, .int .u32 0, .int .i64 0, .int .u64 0, .int .u64 0, .int .u32 0, .int .u32 0, .int .i64 0, .int .i64 0, .bool false, .bool false, .int .i64 0, .bool false, .int .i64 0, .int .i64 0, .bool false, .slice none 0 0]) := Lib.hid (fun m => rfl)
  rw [HCS.out] at HF
  clear h h1 sz hm HCS
  unfold cptr
  generalize c.md = md at *
  go_enter Tryz.func65, Tryz.ntmps65
  go_wp2_with fail
  go_ret
  exact ⟨_, rfl, HF.out⟩
set_option maxHeartbeats 3200000 in
theorem drawn_any {w : World} {cb lb : Nat} {c : Cv} {l : Lc} (h : Ca w cb c) (hl : La w lb l) (hk : c.key < 18446744073709551616) (hn : 0 ≤ l.nm ∧ l.nm < 4294967296) (q : Nat) (hq : q < 4294967296) (hT : LK.Tab w) :
    Calls Tryz.prog 67 #[cptr cb, cptr lb, .int .u32 (q : Int)] w fun e w' => (∃ v : Nat, v < 4294967296 ∧ e = .returned (.int .u32 (v : Int))) ∧ Below w.heap.size w w' := by
  have hcb := h.lt
  have hlb := hl.lt
  have c0 := h.key_
  have c4 := hl.nm_
  obtain ⟨nm, hnm⟩ : ∃ n : Nat, l.nm = n := ⟨l.nm.toNat, by omega⟩
  rw [hnm] at c4 hn
  have HP := Lib.hid (fun W (b : Below w.heap.size w W) => LK.proof_any c.key 0 nm q W hk (by decide) (by omega) hq (hT.below b))
  have hw4 : IntKind.u32.wrap (nm : Int) = (nm : Int) := by rw [IntKind.wrap_u32]; omega
  have hw5 : IntKind.u32.wrap ((LK.kp c.key 0 nm q : Nat) : Int) = ((LK.kp c.key 0 nm q % 4294967296 : Nat) : Int) := by rw [IntKind.wrap_u32]; omega
  have hvl : LK.kp c.key 0 nm q % 4294967296 < 4294967296 := Nat.mod_lt _ (by decide)
  generalize LK.kp c.key 0 nm q = K at *
  generalize K % 4294967296 = v at *
  clear h hl hk hn hnm hT
  generalize c.key = key at *
  unfold cptr
  go_enter Tryz.func67, Tryz.ntmps67
  go_wp2_with fail
  have BW := Lib.hid (Below.refl w.heap.size w).drew
  have e0 : w.drew.cell? ⟨cb, 0, none⟩ = some (.int .u64 (key : Int)) ∧ w.drew.cell? ⟨lb, 4, none⟩ = some (.int .i64 (nm : Int)) := ⟨c0, c4⟩
  clear c0 c4
  generalize hwd : w.drew = wd at *
  refine wp_region_noPanic ?_
  refine wp_region_held_drew (S := fun W => W.cell? ⟨cb, 0, none⟩ = some (.int .u64 (key : Int)) ∧ W.cell? ⟨lb, 4, none⟩ = some (.int .i64 (nm : Int))) (by kernel_rfl) (by rw [hwd]; exact e0) (fun _ => ?_)
  rw [hwd]
  clear hwd
  refine held_take (i := 0) (v := .pointer (some ⟨cb, 0, none⟩)) (some 7) rfl rfl (by kernel_rfl) (by kernel_rfl) (by kernel_rfl) (fun _ _ _ h => h) (Or.inl ⟨by rfl, fun W hW => by go_simp⟩) e0 ?_
  simp only [Act.put, List.setIfInBounds_toArray, List.set_cons_zero, List.set_cons_succ]
  refine held_take (i := 4) (v := .pointer (some ⟨lb, 0, none⟩)) (some 11) rfl rfl (by kernel_rfl) (by kernel_rfl) (by kernel_rfl) (fun _ _ _ h => h) (Or.inl ⟨by rfl, fun W hW => by go_simp⟩) e0 ?_
  simp only [Act.put, List.setIfInBounds_toArray, List.set_cons_zero, List.set_cons_succ]
  refine held_take (i := 9) (v := .int .u32 (q : Int)) (some 16) rfl rfl (by kernel_rfl) (by kernel_rfl) (by kernel_rfl) (fun _ _ _ h => h) (Or.inl ⟨by rfl, fun W hW => by go_simp⟩) e0 ?_
  simp only [Act.put, List.setIfInBounds_toArray, List.set_cons_zero, List.set_cons_succ]
  refine held_take (i := 1) (v := .pointer (some ⟨cb, 0, none⟩)) (some 8) rfl rfl (by kernel_rfl) (by kernel_rfl) (by kernel_rfl) (fun _ _ _ h => h) (Or.inl ⟨by rfl, fun W hW => by go_simp⟩) e0 ?_
  simp only [Act.put, List.setIfInBounds_toArray, List.set_cons_zero, List.set_cons_succ]
  refine held_take (i := 5) (v := .pointer (some ⟨lb, 0, none⟩)) (some 12) rfl rfl (by kernel_rfl) (by kernel_rfl) (by kernel_rfl) (fun _ _ _ h => h) (Or.inl ⟨by rfl, fun W hW => by go_simp⟩) e0 ?_
  simp only [Act.put, List.setIfInBounds_toArray, List.set_cons_zero, List.set_cons_succ]
  refine held_take (i := 2) (v := .pointer (some ⟨cb, 0, none⟩)) (some 9) rfl rfl (by kernel_rfl) (by kernel_rfl) (by kernel_rfl) (fun _ _ _ h => h) (Or.inl ⟨by rfl, fun W hW => by go_simp⟩) e0 ?_
  simp only [Act.put, List.setIfInBounds_toArray, List.set_cons_zero, List.set_cons_succ]
  refine held_take (i := 6) (v := .pointer (some ⟨lb, 4, none⟩)) (some 13) rfl rfl (by kernel_rfl) (by kernel_rfl) (by kernel_rfl) (fun _ _ _ h => h) (Or.inl ⟨by rfl, fun W hW => by go_simp⟩) e0 ?_
  simp only [Act.put, List.setIfInBounds_toArray, List.set_cons_zero, List.set_cons_succ]
  refine held_take (i := 3) (v := .int .u64 (key : Int)) (some 10) rfl rfl (by kernel_rfl) (by kernel_rfl) (by kernel_rfl) (fun _ _ _ h => h) (Or.inl ⟨by rfl, fun W hW => by have hc := hW.1; go_simp⟩) e0 ?_
  simp only [Act.put, List.setIfInBounds_toArray, List.set_cons_zero, List.set_cons_succ]
  refine held_take (i := 7) (v := .int .i64 (nm : Int)) (some 14) rfl rfl (by kernel_rfl) (by kernel_rfl) (by kernel_rfl) (fun _ _ _ h => h) (Or.inl ⟨by rfl, fun W hW => by have hc := hW.2; go_simp⟩) e0 ?_
  simp only [Act.put, List.setIfInBounds_toArray, List.set_cons_zero, List.set_cons_succ]
  refine held_take (i := 8) (v := .int .u32 (nm : Int)) (some 15) rfl rfl (by kernel_rfl) (by kernel_rfl) (by kernel_rfl) (fun _ _ _ h => h) (Or.inl ⟨by rfl, fun W hW => by go_simp⟩) e0 ?_
  simp only [Act.put, List.setIfInBounds_toArray, List.set_cons_zero, List.set_cons_succ]
  refine wpAnyH_ready (rs := [10]) (by kernel_rfl) (by simp) ?_
  refine AllReadyH.cons rfl (fun K hK => ?_) AllReadyH.nil
  go_simp
  refine (HP.out _ BW.out).mono ?_
  rintro e wA ⟨rfl, bA⟩
  have eA : wA.cell? ⟨cb, 0, none⟩ = some (.int .u64 (key : Int)) ∧ wA.cell? ⟨lb, 4, none⟩ = some (.int .i64 (nm : Int)) := ⟨(bA.cell (by have := BW.out.size; show cb < _; omega)).trans e0.1, (bA.cell (by have := BW.out.size; show lb < _; omega)).trans e0.2⟩
  have BA := Lib.hid (BW.out.trans (bA.mono BW.out.size))
  clear bA HP
  dsimp only
  refine hK.out _ _ eA (fun _ => ?_)
  clear hK
  try simp only [Act.put, List.setIfInBounds_toArray, List.set_cons_zero, List.set_cons_succ]
  refine held_take (i := 11) (v := .int .u32 (v : Int)) (some 18) rfl rfl (by kernel_rfl) (by kernel_rfl) (by kernel_rfl) (fun _ _ _ h => h) (Or.inl ⟨by rfl, fun W hW => by go_simp⟩) eA ?_
  simp only [Act.put, List.setIfInBounds_toArray, List.set_cons_zero, List.set_cons_succ]
  refine held_take (i := 12) (v := .int .u32 (v : Int)) (some 6) rfl rfl (by kernel_rfl) (by kernel_rfl) (by kernel_rfl) (fun _ _ _ h => h) (Or.inl ⟨by rfl, fun W hW => by go_simp⟩) eA ?_
  simp only [Act.put, List.setIfInBounds_toArray, List.set_cons_zero, List.set_cons_succ]
  refine wpAnyH_done (by kernel_rfl) ?_ _
  refine NoPanic.normal ?_
  go_wp2_with fail
  go_ret
  exact ⟨⟨v, hvl, rfl⟩, BA.out⟩

/-- All cells that are written, one behind the other. -/
def setAll (cs : Array Value) (o : Nat) : List Value → Array Value
  | [] => cs
  | v :: r => setAll (cs.setIfInBounds o v) (o + 1) r
theorem heap_setAll {b : Nat} {t : TypeId} {f : Nat × Nat} : ∀ (vs : List Value) (o : Nat) (w : World) (cs : Array Value), w.heap[b]? = some (.cells cs t f) → (w.setCells b o vs).heap[b]? = some (.cells (setAll cs o vs) t f)
  | [], _, _, _, h => h
  | v :: r, o, w, cs, h => heap_setAll r (o + 1) _ _ (by simp [World.setCell, Array.getElem?_modify, h])
theorem setAll_hello (l : Lc) (o : Opn) : setAll l.cs 8 o.vals = { l with he := o }.cs := by
  unfold Lc.cs Opn.vals
  simp only [setAll, List.cons_append, List.nil_append, List.setIfInBounds_toArray, List.set_cons_succ, List.set_cons_zero]
theorem La.hello {w : World} {lb : Nat} {l : Lc} (h : La w lb l) (o : Opn) : La (w.setCells lb 8 o.vals) lb { l with he := o } := by
  have := heap_setAll o.vals 8 w _ h
  rw [setAll_hello] at this
  exact this
theorem La.there {w : World} {lb : Nat} {l : Lc} (h : La w lb l) : w.there lb 8 14 := by
  intro j hj
  refine ⟨?_, h.fz _⟩
  rw [h.at_ (8 + j)]
  have : 8 + j < l.cs.size := by unfold Lc.cs; simp [Opn.vals]; omega
  simp [this]
theorem litLeg (w : World) (b : Nat) : (Instr.buildSlice 95 1 #[(0, cptr b)]).run Tryz.prog w = .ok (.slice (some ⟨w.heap.size, 0, none⟩) 1 1) (w.alloc (.cells #[cptr b] 102)) := by kernel_rfl
theorem undLegs : Tryz.prog.underlying 95 = some (.slice 102) := by kernel_rfl
theorem infoLeg : (Tryz.prog.info? 102).map (fun i => (i.zero, i.size, i.bytes)) = some (some (.pointer none), 1, 8) := by kernel_rfl
end Go.Proofs.YtiehngeeamhlmaaGreatDoor

namespace Go.Proofs.YtiehngeeamhlmaaGreatDoor
set_option linter.unusedVariables false
set_option linter.unusedSimpArgs false
set_option maxRecDepth 20000
open Go.RowKit Go.Lib

section
variable {base : Nat} {w w' : World} {lab ro lab' ro' : Nat → Nat} {cb lb : Nat} {c : Cv} {p : LP.Pm} {so sr sm n : Nat} {L : List (Int × Int)} {l : Lc} {s : LF.Sh} {x : LF.F}
/-- A leg beside it: apart from all that has a role. -/
structure Beside (base : Nat) (w : World) (lab ro : Nat → Nat) (lb : Nat) (l : Lc) (s : LF.Sh) (x : LF.F) : Prop where
  la : La w lb l
  lo : base ≤ lb
  fe : l.fl = cptr s.fb
  fl : LF.Fl base w s x
  r1 : ro lb = 0 ∧ lab lb = 0
  r2 : ∀ g, s.T g → (ro g = 0 ∧ lab g = 0) ∧ g ≠ lb
theorem start_mid {w1 wa w2 w3 : World} {v3 : Value} {hello : Opn} (h : Wz base w lab ro cb c p so sr sm n L) (hb : base ≤ w.heap.size) (B : Beside base w lab ro lb l s x) (hsv : c.sv = .slice none 0 0) (b1 : Below w.heap.size w w1)
    (k1 : w1.grownBy wa (some lb)) (zs : wa.heap.size = w1.heap.size) (L2 : La wa lb { l with he := hello }) (b2 : Below wa.heap.size wa w2) (r3 : w3.ownsRow base 102 1 v3 1 [cptr lb]) (g3 : w2.grownBy w3 none) (o3 : v3.ownBlock = none ∨ v3.ownBlock = some w2.heap.size) :
    ∃ ro', Wo base (w3.setCell ⟨cb, 11, none⟩ v3) lab ro' cb lb ⟨{ c with lv := v3 }, { l with he := hello }, s, x, n, L, [], p, so, sr, sm⟩ ∧ Below base w (w3.setCell ⟨cb, 11, none⟩ v3) := by
  have hcb := h.ca.lt
  have z1 := b1.size
  have c1 : Ch w1 wa (fun k => k = lb) := Ch.grown (Ch.refl w1 _) k1 (fun k e _ => by injection e with e; exact e.symm)
  have Z2 : Wz base wa lab ro cb c p so sr sm n L := (h.below b1).frame c1 (fun g e => by subst e; exact B.r1)
  have F2 : LF.Fl base wa s x := (B.fl.below b1).frame c1 (fun g hg => (B.r2 g hg).2)
  have z2 := b2.size
  have b3 : Below w2.heap.size w2 w3 := ⟨g3.os, g3.tape, g3.output, g3.size, fun k hk => g3.block k hk (fun e => by cases e)⟩
  have z3 := b3.size
  have Z3 := (Z2.below b2).below b3
  have L3 := (L2.below b2).below b3
  have F3 := (F2.below b2).below b3
  have c4 : Ch w3 (w3.setCell ⟨cb, 11, none⟩ v3) (fun k => k = cb) := (Ch.refl w3 (fun k => k = cb)).setCell (p := ⟨cb, 11, none⟩) (fun _ => rfl) v3
  have hlc : lb ≠ cb := fun e => by have := B.r1.1; rw [e, h.rc] at this; cases this
  have hsT : ∀ g, s.T g → g ≠ cb := fun g hg e => by have := (B.r2 g hg).1.1; rw [e, h.rc] at this; cases this
  have hv : ∀ g, v3.ownBlock = some g → g = w2.heap.size := fun g hg => by
    rcases o3 with e | e
    · rw [e] at hg; cases hg
    · rw [e] at hg; injection hg with hg; exact hg.symm
  have Z4 : Wz base (w3.setCell ⟨cb, 11, none⟩ v3) lab ro cb { c with lv := v3 } p so sr sm n L := Z3.own c4 (fun g e => .inl e) (Z3.ca.set 11 v3 _ rfl) rfl rfl rfl rfl
  have r4 := own_ch2 r3 c4 (fun g hg e => by have := hv g hg; omega)
  have hll := B.la.lt
  obtain ⟨ro', W, _⟩ := Z4.leg (L3.ch c4 hlc) B.lo B.fe (F3.frame c4 hsT) r4 hsv B.r1 B.r2 (fun g hg => by
    have e := hv g hg
    subst e
    refine ⟨⟨h.new_ro (by omega), h.new_lab (by omega)⟩, by omega, fun hT => ?_⟩
    have := (B.fl.in_ hT).2
    omega)
  refine ⟨ro', W, ?_⟩
  have C : Ch w (w3.setCell ⟨cb, 11, none⟩ v3) (fun k => base ≤ k) :=
    (Ch.of_below (fun k => base ≤ k) b1).then_ ((c1.mono (fun k _ e => by subst e; exact B.lo)).then_ ((Ch.of_below (fun k => base ≤ k) b2).then_ ((Ch.of_below (fun k => base ≤ k) b3).then_ (c4.mono (fun k _ e => by subst e; exact (h.ds _ (by rw [h.rc]; decide)).2.1)))))
  exact ⟨C.os, C.tape, C.output, C.size, fun k hk => C.block k (by omega) (by omega)⟩
theorem wpList_hello {ops : Array Oper} {rest : List Oper} {op : Oper} {a : Act} {W : World} {Q : Exit → Act → World → Prop} (hgd : op.guard = none) (y z : Operand) (ho : op.op = .store 58 y z) (h : La W lb l) (o : Opn)
    (hx : a.eval y = .pointer (some ⟨lb, 8, none⟩)) (hy : a.eval z = .agg o.vals.toArray) (k : ∀ W', La W' lb { l with he := o } → W.grownBy W' (some lb) → W'.heap.size = W.heap.size → wpList Tryz.prog ops Q rest (a.put op.dst undef) W') : wpList Tryz.prog ops Q (op :: rest) a W := by
  have ht : W.there lb 8 o.vals.toArray.size := by rw [List.size_toArray, Opn.vals_length]; exact h.there
  have hi : (Tryz.prog.info? 58).map (·.size) = some o.vals.toArray.size := by rw [List.size_toArray, Opn.vals_length]; exact infoOpn
  have k2 := k _ (h.hello o) (v_g_setCells lb o.vals 8 W) (v_size_setCells lb o.vals 8 W)
  have h1 := all_oneCell_toArray (opn_one o)
  have hl := h.hello o
  have e : o.vals.toArray.toList = o.vals := rfl
  generalize o.vals = vs at *
  refine wpList_store_mid hgd 58 y z ho lb 8 vs.toArray hx hy ht hi h1 ?_
  exact k2
theorem wpList_litLeg {ops : Array Oper} {rest : List Oper} {op : Oper} {a : Act} {W : World} {Q : Exit → Act → World → Prop} (hgd : Region.wanted op (yielded ops a.tmps) = true) (y : Operand) (ho : op.op = .buildSlice 95 1 #[(0, y)]) (b : Nat) (hy : a.eval y = .pointer (some ⟨b, 0, none⟩))
    (k : ∀ W', W'.rangeAt W.heap.size 0 [cptr b] → Below W.heap.size W W' → W'.heap.size = W.heap.size + 1 → wpList Tryz.prog ops Q rest (a.put op.dst (.slice (some ⟨W.heap.size, 0, none⟩) 1 1)) W') : wpList Tryz.prog ops Q (op :: rest) a W := by
  refine wpList_want hgd fun K hK => ?_
  unfold Oper.wp
  have hr : (execOp a.eval op).run Tryz.prog W = .ok (.value (.slice (some ⟨W.heap.size, 0, none⟩) 1 1)) (W.alloc (.cells #[cptr b] 102)) := by
    have := litLeg W b
    unfold cptr at *
    simp [execOp, ho, hy, this]
  rw [hr, Oper.upon_value]
  exact hK _ _ (k _ (Own.new W [cptr b] 102).range (below_a W _) (by simp))
theorem start_c {w1 wa : World} {j : Nat} {u : Value} (hc : w.cell? ⟨cb, j, none⟩ = some u) (hcb : cb < w.heap.size) (hlc : lb ≠ cb) (b1 : Below w.heap.size w w1) (ka : w1.grownBy wa (some lb)) : wa.cell? ⟨cb, j, none⟩ = some u :=
  (ka.cell_far _ (by have := b1.size; show cb < _; omega) (fun e => by injection e with e; exact hlc e.symm)).trans ((b1.cell hcb).trans hc)
theorem start_d {wa w2 w3 : World} {j : Nat} {u : Value} (hc : wa.cell? ⟨cb, j, none⟩ = some u) (hf : wa.frozen? ⟨cb, j, none⟩ = false) (b2 : Below wa.heap.size wa w2) (g3 : w2.grownBy w3 none) : w3.cell? ⟨cb, j, none⟩ = some u ∧ w3.frozen? ⟨cb, j, none⟩ = false := by
  have hl : cb < wa.heap.size := World.block_lt_of_cell? _ _ hc
  have b3 : Below w2.heap.size w2 w3 := ⟨g3.os, g3.tape, g3.output, g3.size, fun k hk => g3.block k hk (fun e => by cases e)⟩
  have b : Below wa.heap.size wa w3 := below_trans b2 b3
  refine ⟨(b.cell hl).trans hc, ?_⟩
  unfold World.frozen? at *
  rwa [b.block cb hl]
theorem Ch.behind {W W' : World} {lab1 ro1 : Nat → Nat} {z : Zc} (c : Ch W W' (fun k => lab1 k ≠ 0 ∨ ro1 k ≠ 0)) (Z : Wo base W lab1 ro1 cb lb z) : Below base W W' :=
  ⟨c.os, c.tape, c.output, c.size, fun k hk => c.block k (by have := Z.ca.lt; have := (Z.ds cb (by rw [Z.rc]; decide)).2.1; omega) (fun e => by
    rcases e with e | e
    · have := Z.wl k e; omega
    · have := (Z.ds k e).2.1; omega)⟩
/-- What start leaves. -/
def StartP (base : Nat) (w : World) (cb lb : Nat) (c : Cv) (l : Lc) (hello : Opn) (s : LF.Sh) (x : LF.F) (o : LF.Oc) (p : LP.Pm) (so sr sm n : Nat) (w' : World) : Prop :=
  ∃ (lab ro : Nat → Nat) (v v' ov dv : Value), Wo base w' lab ro cb lb (Zc.armed ⟨{ c with lv := v, sv := v' }, { l with he := hello }, s.quiet, x.quiet, n, [], [synSg l.ow l.ot c.op c.tp o.p.seq o.ack o.acks o.p.fin o.rst ov dv], p, so, sr, sm⟩) ∧ Below base w w'
set_option maxHeartbeats 1600000 in
theorem start_any {o : LF.Oc} (hello : Opn) (h : Wz base w lab ro cb c p so sr sm n []) (hb : base ≤ w.heap.size) (B : Beside base w lab ro lb l s x) (hlv : c.lv = .slice none 0 0) (hsv : c.sv = .slice none 0 0)
    (hol : s.ol = [o]) (hsy : o.p.syn = true) (hds : o.p.ds = []) (hC : ∀ v v' g, Calm ⟨{ c with lv := v, sv := v' }, { l with he := hello }, s.quiet, x.quiet, n, [], g, p, so, sr, sm⟩) (t : Int) :
    Calls Tryz.prog 68 #[cptr cb, cptr lb, .agg hello.vals.toArray, .int .i64 t] w fun e w' => e = .returned (.tuple #[]) ∧ StartP base w cb lb c l hello s x o p so sr sm n w' := by
  have HH := Lib.hid h
  have HB := Lib.hid hb
  have HBe := Lib.hid B
  have HS := Lib.hid hsv
  have HC := Lib.hid hC
  have hcb := h.ca.lt
  have hll := B.la.lt
  have c11 := h.ca.lv_
  have f11 := h.ca.fz 11
  rw [hlv] at c11
  have hlc : lb ≠ cb := fun e => by have := B.r1.1; rw [e, h.rc] at this; cases this
  have HE := Lib.hid (fun (W : World) (ro1 : Nat → Nat) (z : Zc) (Z : Wo base W lab ro1 cb lb z) (hb : base ≤ W.heap.size) (e1 : z.s = s) (e2 : z.g = []) => emit1_any Z hb (by rw [e2]; exact Nat.zero_le _) (o := o) (by rw [e1]; exact hol) hsy hds)
  have HSE := Lib.hid (fun (W : World) (lab1 ro1 : Nat → Nat) (z : Zc) (Z : Wo base W lab1 ro1 cb lb z) (hb : base ≤ W.heap.size) (C : Calm z) => settle_any Z hb C t)
  clear h B hsv hC hol hsy hds hb hlv
  unfold cptr at *
  go_enter Tryz.func68, Tryz.ntmps68
  go_wp2_with (first
    | ((with_reducible refine wpList_here ?_); refine wpList_boxV (o := ⟨some 6, _, _, _, _, _⟩) rfl 58 (.tmp 2) rfl hello.vals rfl _ rfl ?_; intro w1 z1 b1 s1; have r1 := z1.range)
    | ((with_reducible refine wpList_here ?_); refine wpList_loadV (o := ⟨some 9, _, _, _, _, _⟩) rfl 58 (.tmp 6) rfl _ 0 hello.vals rfl r1 _ Tryz.underlying58 rfl infoOpn ?_)
    | ((with_reducible refine wpList_here ?_); refine wpList_hello rfl (.tmp 11) (.tmp 9) rfl (HBe.out.la.below b1) hello rfl rfl ?_; intro wa La2 ka sa; have c11a := start_c c11 hcb hlc b1 ka; have f11a : wa.frozen? ⟨cb, 11, none⟩ = false := (HH.out.ca.below b1 |>.ch (Ch.grown (Ch.refl w1 (fun k => k = lb)) ka (fun k e _ => by injection e with e; exact e.symm)) (fun e => hlc e.symm)).fz 11)
    | ((with_reducible refine wpList_here ?_); refine wpList_litLeg rfl (.tmp 17) rfl lb rfl ?_; intro w2 z2 b2 s2)
    | (at_builtin; refine wpList_appG rfl _ _ 95 102 rfl (.pointer none) 1 8 undLegs infoLeg rfl (by decide) (by decide) base (.slice none 0 0) 0 [] rfl (World.ownsRow_nil _ _ _ _) (some ⟨wa.heap.size, 0, none⟩) 1 1 [cptr lb] rfl ⟨rfl, Nat.le_refl _, by omega, (fun u hu => by simp at hu; subst hu; rfl), fun _ => ⟨_, _, rfl, z2⟩⟩ (by omega) (by have := HB.out; have := b1.size; omega) ?_; intro v3 w3 r3 g3 o3; obtain ⟨c11b, f11b⟩ := start_d c11a f11a b2 g3; obtain ⟨ro1, W4, B4⟩ := start_mid HH.out HB.out HBe.out HS.out b1 ka sa La2 b2 r3 g3 o3; have HW4 := Lib.hid W4; have HB4 := Lib.hid B4; clear W4 B4 La2 ka b1 z1 r1 z2 b2 g3 o3; obtain ⟨A3, k3, rfl, _, _⟩ := LF.own_slice r3)
    | fail)
  have HE1 := Lib.hid (HE.out _ ro1 _ HW4.out (by have := HW4.out.ca.lt; have := (HW4.out.ds cb (by rw [HW4.out.rc]; decide)).2.1; omega) rfl rfl)
  clear c11b f11b c11a f11a r3 HE c11 f11 s1 sa s2
  generalize w3.setCell ⟨cb, 11, none⟩ (.slice A3 1 k3) = w4 at *
  refine HE1.out.mono ?_
  rintro e w5 ⟨rfl, ro5, v5, ov, dv, Z5, X5, _⟩
  have hb5 : base ≤ w5.heap.size := by have := Z5.ca.lt; have := (Z5.ds cb (by rw [Z5.rc]; decide)).2.1; omega
  have HSE1 := Lib.hid (HSE.out w5 lab ro5 _ Z5 hb5 (HC.out _ _ _))
  have HB5 : Hid (Below base w w5) := Lib.hid (HB4.out.trans (X5.1.behind HW4.out))
  have HZ5 := Lib.hid Z5
  clear Z5 X5 HE1 HSE hb5
  go_wp2_with fail
  refine HSE1.out.mono ?_
  rintro e w6 ⟨rfl, lab6, Z6, X6⟩
  have HQ : Hid (StartP base w cb lb c l hello s x o p so sr sm n w6) := Lib.hid ⟨lab6, ro5, _, v5, ov, dv, Z6, HB5.out.trans (X6.1.behind HZ5.out)⟩
  clear Z6 X6 HSE1
  go_wp2_with fail
  go_end0
  exact ⟨rfl, HQ.out⟩
end
end Go.Proofs.YtiehngeeamhlmaaGreatDoor

namespace Go.Proofs.YtiehngeeamhlmaaGreatDoor
set_option linter.unusedVariables false
set_option linter.unusedSimpArgs false
set_option maxRecDepth 20000
open Go.RowKit Go.Lib

/-- Whole numbers, as cells. -/
def ivc (l : List Int) : List Value := l.map fun x => .int .i64 x
def inBc (top : Int) (l : List Int) : Bool := l.all fun x => decide (0 ≤ x) && decide (x ≤ top)
theorem ivc_at {l : List Int} {k : Nat} (h : k < l.length) : (ivc l)[k]? = some (.int .i64 (l.getD k 0)) := by
  simp [ivc, h]
theorem take_intc {l : List Int} {k : Nat} (h : k < l.length) : l.take (k + 1) = l.take k ++ [l.getD k 0] := by
  rw [List.take_succ_eq_append_getElem h]
  simp [h]
theorem inBc_bad {top : Int} {l : List Int} {k : Nat} (h : k < l.length) (hx : l.getD k 0 < 0 ∨ top < l.getD k 0) : inBc top l = false := by
  cases hc : inBc top l with
  | false => rfl
  | true =>
    have h1 := List.all_eq_true.1 hc (l.getD k 0) (by simp [List.getD_eq_getElem?_getD, List.getElem?_eq_getElem h])
    simp only [Bool.and_eq_true, decide_eq_true_eq] at h1
    omega
theorem inBc_step {top : Int} {l : List Int} {k : Nat} (h : k < l.length) (h1 : inBc top (l.take k) = true) (hx : 0 ≤ l.getD k 0) (hx' : l.getD k 0 ≤ top) : inBc top (l.take (k + 1)) = true := by
  rw [take_intc h]
  unfold inBc at *
  rw [List.all_append, h1]
  simp only [List.all_cons, List.all_nil, Bool.and_true, Bool.true_and, Bool.and_eq_true, decide_eq_true_eq]
  exact ⟨hx, hx'⟩

set_option maxHeartbeats 1600000 in
theorem within_any (top : Int) (l : List Int) (g n : Nat) (w : World) (h : w.rangeAt g 0 (ivc l)) (hl : l.length = n) (hn : n ≤ 8) :
    Calls Tryz.prog 135 #[.int .i64 top, .slice (some ⟨g, 0, none⟩) n n] w fun e w' => e = .returned (.bool (inBc top l)) ∧ w = w' := by
  go_enter Tryz.func135, Tryz.ntmps135
  go_wp2_with fail
  go_loop [9] (fun i => ∃ k : Nat, k ≤ n ∧ i = .int .i64 k ∧ inBc top (l.take k) = true) (fun i => n - (intOf i).toNat)
  case atStart => exact ⟨0, Nat.zero_le _, rfl, rfl⟩
  case round =>
    obtain ⟨k, hk, rfl, hin⟩ := hrel
    by_cases hlt : k < n
    · have hc := h k _ (ivc_at (l := l) (by omega))
      rw [Nat.zero_add] at hc
      have HBAD := Lib.hid (fun hx => inBc_bad (top := top) (l := l) (k := k) (by omega) hx)
      have HOK := Lib.hid (fun a b => inBc_step (top := top) (l := l) (k := k) (by omega) hin a b)
      clear h hin
      generalize l.getD k 0 = x at *
      by_cases h1 : x < 0
      · go_wp2
        go_ret
        exact ⟨by rw [HBAD.out (Or.inl h1)]; rfl, rfl⟩
      · by_cases h2 : top < x
        · go_wp2
          go_ret
          exact ⟨by rw [HBAD.out (Or.inr h2)]; rfl, rfl⟩
        · go_wp2
          go_round
          case rel => exact ⟨k + 1, by omega, by go_num, HOK.out (by omega) (by omega)⟩
          case measure => simp [intOf]; omega
    · obtain rfl : k = n := by omega
      rw [List.take_of_length_le (by omega)] at hin
      have HIN := Lib.hid hin
      clear hin
      go_wp2
      go_ret
      exact ⟨by rw [HIN.out]; rfl, rfl⟩

set_option maxHeartbeats 1600000 in
theorem optsNone_any (w : World) : Calls Tryz.prog 136 #[.slice none 0 0] w fun e w' => e = .returned (.bool true) ∧ w' = w := by
  go_enter Tryz.func136, Tryz.ntmps136
  go_wp2_with fail
  go_loop [7] (fun i => i = .int .i64 0) (fun i => 0)
  case atStart => rfl
  case round =>
    subst hrel
    go_wp2_with fail
    go_ret
    exact ⟨rfl, rfl⟩

section
variable {ops : Array Oper} {rest : List Oper} {o : Oper} {a : Act} {w : World} {Q : Exit → Act → World → Prop}
/-- A new slice of two whole numbers; of three. -/
theorem wpList_ints2 (hgd : Region.wanted o (yielded ops a.tmps) = true) (x y : Operand) (ho : o.op = .buildSlice 36 2 #[(0, x), (1, y)]) (u v : Int) (hx : a.eval x = .int .i64 u) (hy : a.eval y = .int .i64 v) (g : Nat) (hg : w.heap.size = g)
    (h : ∀ w', w'.rangeAt g 0 (ivc [u, v]) → Below w.heap.size w w' → wpList Tryz.prog ops Q rest (a.put o.dst (.slice (some ⟨g, 0, none⟩) 2 2)) w') : wpList Tryz.prog ops Q (o :: rest) a w := by
  subst hg
  refine wpList_want hgd fun _ hK => ?_
  have hrun : (Instr.buildSlice 36 2 #[(0, .int .i64 u), (1, .int .i64 v)]).run Tryz.prog w = .ok (.slice (some ⟨w.heap.size, 0, none⟩) 2 2) (w.alloc (.cells #[.int .i64 u, .int .i64 v] 3)) := by kernel_rfl
  have hr : (execOp a.eval o).run Tryz.prog w = .ok (.value (.slice (some ⟨w.heap.size, 0, none⟩) 2 2)) (w.alloc (.cells #[.int .i64 u, .int .i64 v] 3)) := by
    simp [execOp, ho, hx, hy, hrun]
  unfold Oper.wp
  rw [hr, Oper.upon_value]
  exact hK _ _ (h _ (Own.new w (ivc [u, v]) 3).range (below_a w _))
theorem wpList_ints3 (hgd : Region.wanted o (yielded ops a.tmps) = true) (x y z : Operand) (ho : o.op = .buildSlice 36 3 #[(0, x), (1, y), (2, z)]) (u v t : Int) (hx : a.eval x = .int .i64 u) (hy : a.eval y = .int .i64 v) (hz : a.eval z = .int .i64 t) (g : Nat) (hg : w.heap.size = g)
    (h : ∀ w', w'.rangeAt g 0 (ivc [u, v, t]) → Below w.heap.size w w' → wpList Tryz.prog ops Q rest (a.put o.dst (.slice (some ⟨g, 0, none⟩) 3 3)) w') : wpList Tryz.prog ops Q (o :: rest) a w := by
  subst hg
  refine wpList_want hgd fun _ hK => ?_
  have hrun : (Instr.buildSlice 36 3 #[(0, .int .i64 u), (1, .int .i64 v), (2, .int .i64 t)]).run Tryz.prog w = .ok (.slice (some ⟨w.heap.size, 0, none⟩) 3 3) (w.alloc (.cells #[.int .i64 u, .int .i64 v, .int .i64 t] 3)) := by kernel_rfl
  have hr : (execOp a.eval o).run Tryz.prog w = .ok (.value (.slice (some ⟨w.heap.size, 0, none⟩) 3 3)) (w.alloc (.cells #[.int .i64 u, .int .i64 v, .int .i64 t] 3)) := by
    simp [execOp, ho, hx, hy, hz, hrun]
  unfold Oper.wp
  rw [hr, Oper.upon_value]
  exact hK _ _ (h _ (Own.new w (ivc [u, v, t]) 3).range (below_a w _))
end
theorem Own.at_ {W : World} {g : Nat} {vs : List Value} (h : Own W g vs) (j : Nat) (hj : j < vs.length) : W.cell? ⟨g, j, none⟩ = vs[j]? := (h j hj).1
/-- A segment's cells that Right looks at. -/
structure CelB (W : World) (g : Nat) (s : Sgc) : Prop where
  c0 : W.cell? ⟨g, 0, none⟩ = some (.int .i64 s.src)
  c1 : W.cell? ⟨g, 1, none⟩ = some (.int .i64 s.dst)
  c2 : W.cell? ⟨g, 2, none⟩ = some (.int .i64 s.sp)
  c3 : W.cell? ⟨g, 3, none⟩ = some (.int .i64 s.dp)
  c10 : W.cell? ⟨g, 10, none⟩ = some (.int .i64 s.win)
  c11 : W.cell? ⟨g, 11, none⟩ = some s.ov
  c12 : W.cell? ⟨g, 12, none⟩ = some s.dv
theorem Own.celb {W : World} {g : Nat} {s : Sgc} (h : Own W g s.vals) : CelB W g s :=
  ⟨h.at_ 0 (by rw [s.vals_length]; omega), h.at_ 1 (by rw [s.vals_length]; omega), h.at_ 2 (by rw [s.vals_length]; omega), h.at_ 3 (by rw [s.vals_length]; omega), h.at_ 10 (by rw [s.vals_length]; omega), h.at_ 11 (by rw [s.vals_length]; omega), h.at_ 12 (by rw [s.vals_length]; omega)⟩
def bareB (src dst sp dp : Int) : Bool := inBc 3 [src, dst] && inBc 65535 [sp, dp, 0]
set_option maxHeartbeats 1600000 in
theorem RightBare_no1 (s : Sgc) (hb : inBc 3 [s.src, s.dst] = false) (w : World) :
    Calls Tryz.prog 83 #[.agg s.vals.toArray] w fun e w' => e = .returned (.bool false) ∧ Below w.heap.size w w' := by
  have HW1 := Lib.hid (fun W g hr => within_any 3 [s.src, s.dst] g 2 W hr rfl (by omega))
  rw [hb] at HW1
  clear hb
  go_enter Tryz.func83, Tryz.ntmps83
  go_wp2_with (first
    | ((with_reducible refine wpList_here ?_); refine wpList_boxV (o := ⟨some 1, _, _, _, _, _⟩) rfl 54 (.tmp 0) rfl s.vals rfl _ rfl ?_; intro w1 z1 b1 s1; have k0 := z1.celb.c0; have k1 := z1.celb.c1)
    | ((with_reducible refine wpList_here ?_); refine wpList_ints2 (o := ⟨some 7, _, _, _, _, _⟩) rfl (.tmp 4) (.tmp 6) rfl s.src s.dst rfl rfl _ s1 ?_; intro w2 z2 b2)
    | fail)
  refine (HW1.out _ _ z2).mono ?_
  rintro e w3 ⟨rfl, rfl⟩
  have b3 := below_trans b1 b2
  clear z1 b1 b2 s1 k0 k1 z2
  go_wp2_with fail
  go_ret
  exact ⟨rfl, b3⟩
set_option maxHeartbeats 1600000 in
theorem RightBare_yes (s : Sgc) (hw : s.win = 0) (ho : s.ov = .slice none 0 0) (hd : s.dv = .slice none 0 0) (hb : bareB s.src s.dst s.sp s.dp = true) (w : World) :
    Calls Tryz.prog 83 #[.agg s.vals.toArray] w fun e w' => e = .returned (.bool true) ∧ Below w.heap.size w w' := by
  have HW1 := Lib.hid (fun W g hr => within_any 3 [s.src, s.dst] g 2 W hr rfl (by omega))
  have HW2 := Lib.hid (fun W g hr => within_any 65535 [s.sp, s.dp, s.win] g 3 W hr rfl (by omega))
  have HO := Lib.hid (fun W => optsNone_any W)
  unfold bareB at hb
  rw [Bool.and_eq_true] at hb
  rw [hw] at HW2
  rw [hb.1] at HW1
  rw [hb.2] at HW2
  clear hb
  go_enter Tryz.func83, Tryz.ntmps83
  go_wp2_with (first
    | ((with_reducible refine wpList_here ?_); refine wpList_boxV (o := ⟨some 1, _, _, _, _, _⟩) rfl 54 (.tmp 0) rfl s.vals rfl _ rfl ?_; intro w1 z1 b1 s1; have k0 := z1.celb.c0; have k1 := z1.celb.c1)
    | ((with_reducible refine wpList_here ?_); refine wpList_ints2 (o := ⟨some 7, _, _, _, _, _⟩) rfl (.tmp 4) (.tmp 6) rfl s.src s.dst rfl rfl _ s1 ?_; intro w2 z2 b2)
    | fail)
  refine (HW1.out _ _ z2).mono ?_
  rintro e w3 ⟨rfl, rfl⟩
  have z3 := z1.below b2
  have b3 := below_trans b1 b2
  have k2 := z3.celb.c2
  have k3 := z3.celb.c3
  have k10 := z3.celb.c10
  rw [hw] at k10
  clear z1 b1 b2 s1 k0 k1 z2
  go_wp2_with (first
    | ((with_reducible refine wpList_here ?_); refine wpList_ints3 (o := ⟨some 16, _, _, _, _, _⟩) rfl (.tmp 11) (.tmp 13) (.tmp 15) rfl s.sp s.dp 0 rfl rfl rfl _ rfl ?_; intro w4 z4 b4)
    | fail)
  refine (HW2.out _ _ z4).mono ?_
  rintro e w5 ⟨rfl, rfl⟩
  have z5 := z3.below b4
  have b5 := below_trans b3 b4
  have k11 := z5.celb.c11
  have k12 := z5.celb.c12
  rw [ho] at k11
  rw [hd] at k12
  clear z3 b3 k2 k3 k10 b4 z4
  go_wp2_with fail
  refine (HO.out _).mono ?_
  rintro e w6 ⟨rfl, rfl⟩
  go_wp2_with fail
  go_ret
  exact ⟨rfl, b5⟩

/-- An array or struct that a call answers out of its own block, and one or two values beside it. -/
theorem results_c1 {P : Program} {fn : Func} {p q : Tmp} {ty : TypeId} (h : fn.results = #[.cell p ty, .tmp q]) (tmps : Array Value) (w : World) (g : Nat) (cs : List Value) (v : Value) (d : TypeDesc)
    (hp : tmps.getD p undef = .pointer (some ⟨g, 0, none⟩)) (hq : tmps.getD q undef = v) (hc : w.rangeAt g 0 cs) (hu : P.underlying ty = some d) (hd : d.isRow = true) (hi : (P.info? ty).map (·.size) = some cs.length) :
    (results fn tmps).run P w = .ok (.tuple #[.agg cs.toArray, v]) w := by
  have hp' : tmps[p]?.getD undef = .pointer (some ⟨g, 0, none⟩) := by simpa using hp
  have hq' : tmps[q]?.getD undef = v := by simpa using hq
  simp [results, h, hp', hq', asAddr, run_loadVar_mid w g 0 ty cs d hc hu hd hi]
set_option maxHeartbeats 1600000 in
theorem FindNone_any (k : Int) (w : World) : Calls Tryz.prog 54 #[.slice none 0 0, .int .i64 k] w fun e w' => e = .returned (.tuple #[.agg Opn.none_.vals.toArray, .bool false]) ∧ Below w.heap.size w w' := by
  go_enter Tryz.func54, Tryz.ntmps54
  go_wp2_with (first
    | ((with_reducible refine wpList_here ?_); refine wpList_allocV (o := ⟨some 4, _, _, _, _, _⟩) rfl 58 rfl Opn.none_.vals zeroOpn _ rfl ?_; intro w1 z1 b1 s1)
    | fail)
  go_loopw [10] (fun i wr => i = .int .i64 0 ∧ wr = w1) (fun _ _ => 0)
  case atStart => exact ⟨rfl, rfl⟩
  case round =>
    obtain ⟨rfl, rfl⟩ := hrel
    go_wp2_with (first
      | ((with_reducible refine wpList_here ?_); refine wpList_storeV rfl 58 (.tmp 4) (.tmp 20) rfl _ _ Opn.none_.vals rfl rfl z1 rfl (opn_one _) infoOpn ?_; intro w2 z2 g2 s2)
      | fail)
    refine bodyPost_ret (results_c1 rfl _ _ w.heap.size Opn.none_.vals (.bool false) _ rfl rfl z2.range Tryz.underlying58 rfl infoOpn) rfl ⟨rfl, v_below_g b1 g2 (by omega) (Nat.le_refl _)⟩
end Go.Proofs.YtiehngeeamhlmaaGreatDoor

namespace Go.Proofs.YtiehngeeamhlmaaGreatDoor
set_option linter.unusedVariables false
set_option linter.unusedSimpArgs false
set_option maxRecDepth 20000
open Go.RowKit Go.Lib

section
variable {base : Nat} {w w' : World} {lab ro : Nat → Nat} {cb lb : Nat} {c : Cv} {p : LP.Pm} {so sr sm n : Nat}
theorem dial_mid {w2 w3 w4 w5 : World} {ow ot : Int} {s : LF.Sh} {x : LF.F} (Z2 : Wz base w2 lab ro cb c p so sr sm n []) (hb : base ≤ w2.heap.size) (N : NewLegP w2 cb c ow ot lb w3) (b4 : Below w3.heap.size w3 w4) (f5 : LF.Fl w4.heap.size w5 s x) (b5 : Below w4.heap.size w4 w5) :
    Wz base ((w5.setCell ⟨lb, 0, none⟩ (cptr s.fb)).setCell ⟨lb, 5, none⟩ (.int .i64 1)) lab ro cb { c with md := c.md + 1 } p so sr sm n [] ∧
      Beside base ((w5.setCell ⟨lb, 0, none⟩ (cptr s.fb)).setCell ⟨lb, 5, none⟩ (.int .i64 1)) lab ro lb { Lc.new ow ot c.md with fl := cptr s.fb, aw := 1 } s x ∧ Below base w2 ((w5.setCell ⟨lb, 0, none⟩ (cptr s.fb)).setCell ⟨lb, 5, none⟩ (.int .i64 1)) := by
  obtain ⟨hlb, L3, C3, k3⟩ := N
  have hcb := Z2.ca.lt
  have s3 := k3.size
  have s4 := b4.size
  have s5 := b5.size
  have hl3 := L3.lt
  have hlr : ro lb = 0 ∧ lab lb = 0 := ⟨Z2.new_ro (by omega), Z2.new_lab (by omega)⟩
  have Z3 : Wz base w3 lab ro cb { c with md := c.md + 1 } p so sr sm n [] := Z2.own k3 (fun g e => .inl e) C3 rfl rfl rfl rfl
  have Z5 := (Z3.below b4).below b5
  have L5 := (L3.below b4).below b5
  have c6 : Ch w5 ((w5.setCell ⟨lb, 0, none⟩ (cptr s.fb)).setCell ⟨lb, 5, none⟩ (.int .i64 1)) (fun k => k = lb) := ((Ch.refl w5 (fun k => k = lb)).setCell (p := ⟨lb, 0, none⟩) (fun _ => rfl) _).setCell (p := ⟨lb, 5, none⟩) (fun _ => rfl) _
  have L6 : La ((w5.setCell ⟨lb, 0, none⟩ (cptr s.fb)).setCell ⟨lb, 5, none⟩ (.int .i64 1)) lb { Lc.new ow ot c.md with fl := cptr s.fb, aw := 1 } :=
    (L5.set 0 (cptr s.fb) { Lc.new ow ot c.md with fl := cptr s.fb } rfl).set 5 (.int .i64 1) _ rfl
  have hsT : ∀ g, s.T g → w4.heap.size ≤ g := fun g hg => (f5.in_ hg).1
  refine ⟨Z5.frame c6 (fun g e => by subst e; exact hlr), ⟨L6, by omega, rfl, (f5.mono (by omega)).frame c6 (fun g hg e => by have := hsT g hg; omega), hlr, fun g hg => ?_⟩, ?_⟩
  · have := hsT g hg
    exact ⟨⟨Z2.new_ro (by omega), Z2.new_lab (by omega)⟩, by omega⟩
  · have C : Ch w2 _ (fun k => base ≤ k) := (k3.mono (fun k _ e => by subst e; exact (Z2.ds _ (by rw [Z2.rc]; decide)).2.1)).then_ ((Ch.of_below (fun k => base ≤ k) b4).then_ ((Ch.of_below (fun k => base ≤ k) b5).then_ (c6.mono (fun k _ e => by omega))))
    exact ⟨C.os, C.tape, C.output, C.size, fun k hk => C.block k (by omega) (by omega)⟩
end
/-- A connection that just dialed, as it stands. -/
structure Dialed (z : Zc) (key i j : Nat) (op tp t : Int) : Prop where
  to_ : ∃ sb rb pb wb v v' s iss fin ov dv so sr sm, iss < 4294967296 ∧ z = Zc.armed ⟨{ Cv.fresh key op tp t sb rb pb wb with md := 1, lv := v, sv := v' }, { Lc.new (i : Int) (j : Int) 0 with fl := cptr (LF.Sh.fb s), aw := 1, he := Opn.capable key }, s.quiet, (LF.F.dial iss t).quiet, 0, [], [synSg (i : Int) (j : Int) op tp iss 0 false fin false ov dv], LP.Pm.new i j (LP.most 8), so, sr, sm⟩
def DialP (w : World) (key i j : Nat) (op tp t : Int) (e : Ending) (w' : World) : Prop :=
  ∃ base lab ro cb lb z, e = .returned (.tuple #[cptr cb, .int .i64 0]) ∧ Wo base w' lab ro cb lb z ∧ Dialed z key i j op tp t ∧ w.heap.size ≤ base ∧ Below w.heap.size w w'
theorem calm_dial {key i j : Nat} {op tp t : Int} (ht : 0 ≤ t ∧ t ≤ 1048560) (sb rb pb wb iss : Nat) (v v' : Value) (fb : Value) (he : Opn) (s : LF.Sh) (g : List Sgc) (p : LP.Pm) (so sr sm : Nat) :
    Calm ⟨{ Cv.fresh key op tp t sb rb pb wb with md := 1, lv := v, sv := v' }, { Lc.new (i : Int) (j : Int) 0 with fl := fb, aw := 1, he := he }, s, (LF.F.dial iss t).quiet, 0, [], g, p, so, sr, sm⟩ := by
  refine ⟨rfl, rfl, rfl, rfl, rfl, rfl, rfl, rfl, ?_, ?_, ?_, ?_, ?_, ?_, ?_, ?_, ?_, ?_, ?_⟩
  · show (1 : Nat) ≤ _
    omega
  · intro k hk
    have hk : k ∈ [LF.sK.at iss] := hk
    obtain rfl : k = _ := by simpa using hk
    exact Nat.zero_le _
  · show -9223372036854775808 ≤ LF.Es.told LF.Es.zero ∧ LF.Es.told LF.Es.zero ≤ 9223372036854775807
    decide
  · show (-9223372036854775808 : Int) ≤ 0 ∧ (0 : Int) ≤ 9223372036854775807
    decide
  · intro p hp; cases hp
  · exact Nat.zero_le _
  · exact ⟨ht.1, by show t ≤ _; omega⟩
  · show 0 ≤ t ∧ t ≤ 1048576
    omega
  · show (0 : Int) < 4 ∧ (4 : Int) ≤ 16
    omega
  · exact Nat.zero_le _
  · show snc t (t + 4) ≤ ((0 : Nat) : Int) + 4096
    unfold snc
    split <;> omega
theorem bare_of {i j : Nat} {op tp : Int} (hi : i < 4) (hj : j < 4) (h1 : 0 ≤ op ∧ op ≤ 65535) (h2 : 0 ≤ tp ∧ tp ≤ 65535) : bareB (i : Int) (j : Int) op tp = true := by
  unfold bareB inBc
  simp only [List.all_cons, List.all_nil, Bool.and_true, Bool.and_eq_true, decide_eq_true_eq]
  omega
theorem Ch.below_of {a b : World} {cb B : Nat} (c : Ch a b (fun k => k = cb)) (h : B ≤ cb) (hs : B ≤ a.heap.size) : Below B a b :=
  ⟨c.os, c.tape, c.output, c.size, fun k hk => c.block k (by omega) (by omega)⟩
theorem dial_ol {base : Nat} {w : World} {s : LF.Sh} {iss : Nat} {t : Int} (h : LF.Fl base w s (LF.F.dial iss t)) : ∃ o, s.ol = [o] ∧ o.p.syn = true ∧ o.p.ds = [] ∧ o.p.seq = iss ∧ o.ack = 0 ∧ o.acks = false ∧ o.rst = false := by
  have h1 : s.ol.map LF.Oc.key = [⟨LF.sK.at iss, 0, false, false⟩] := h.os
  cases hs : s.ol with
  | nil => rw [hs] at h1; cases h1
  | cons o r =>
    rw [hs, List.map_cons] at h1
    injection h1 with h1 h2
    have hr : r = [] := by simpa using h2
    subst hr
    unfold LF.Oc.key at h1
    injection h1 with h3 h4 h5 h6
    unfold LF.Pc.key LF.Ky.at LF.sK at h3
    injection h3 with e1 e2 e3 e4 e5 e6
    exact ⟨o, rfl, e2, e6, e1, h4, h5, h6⟩
set_option maxHeartbeats 6400000 in
theorem Dial_any {w : World} {key i j : Nat} {op tp t : Int} (hk : key < 18446744073709551616) (hi : i < 4) (hj : j < 4) (h1 : 0 ≤ op ∧ op ≤ 65535) (h2 : 0 ≤ tp ∧ tp ≤ 65535) (ht : 0 ≤ t ∧ t ≤ 1048560) (hT : LK.Tab w) :
    Calls Tryz.prog 34 #[.int .u64 (key : Int), .agg #[.int .i64 (i : Int), .int .i64 (j : Int), .int .i64 op, .int .i64 tp], .int .i64 t] w (DialP w key i j op tp t) := by
  have HR := Lib.hid (fun W => RightBare_yes ⟨(i : Int), (j : Int), op, tp, 0, 0, false, false, false, false, 0, .slice none 0 0, .slice none 0 0⟩ rfl rfl rfl (bare_of hi hj h1 h2) W)
  have HWI := Lib.hid (fun W => without_any key i j op tp t hi hj W)
  have HNL := Lib.hid (fun (W : World) (cb : Nat) (c : Cv) (h : Ca W cb c) (hm : c.md = 0) => newLeg_any h (by omega) (i : Int) (j : Int))
  have HDR := Lib.hid (fun (W : World) (cb lb : Nat) (c : Cv) (l : Lc) (h : Ca W cb c) (hl : La W lb l) (hc : c.key = key) (hn : l.nm = 0) (hT : LK.Tab W) => drawn_any h hl (by omega) (by omega) 0 (by decide) hT)
  have HTB := Lib.hid hT
  have HTT := Lib.hid ht
  unfold Sgc.vals at HR
  dsimp only at HR
  clear hk hi hj h1 h2 hT ht
  unfold cptr at HWI HNL HDR
  go_enter Tryz.func34, Tryz.ntmps34
  go_wp2_with (first
    | ((with_reducible refine wpList_here ?_); refine wpList_boxV (o := ⟨some 4, _, _, _, _, _⟩) rfl 75 (.tmp 1) rfl [.int .i64 (i : Int), .int .i64 (j : Int), .int .i64 op, .int .i64 tp] rfl _ rfl ?_; intro w0 z0 b0 s0; have x0 : w0.cell? ⟨w.heap.size, 0, none⟩ = some (.int .i64 (i : Int)) := (z0 0 (by simp)).1; have x1 : w0.cell? ⟨w.heap.size, 1, none⟩ = some (.int .i64 (j : Int)) := (z0 1 (by simp)).1; have x2 : w0.cell? ⟨w.heap.size, 2, none⟩ = some (.int .i64 op) := (z0 2 (by simp)).1; have x3 : w0.cell? ⟨w.heap.size, 3, none⟩ = some (.int .i64 tp) := (z0 3 (by simp)).1)
    | fail)
  refine (HR.out _).mono ?_
  rintro e w1 ⟨rfl, b1⟩
  have z1 := z0.below b1
  have B1 := Lib.hid (below_trans b0 b1)
  have hw1 : w.heap.size < w1.heap.size := by have := b1.size; omega
  have r1 := z1.range
  clear z0 b0 b1 s0 x0 x1 x2 x3 HR
  go_wp2_with (first
    | ((with_reducible refine wpList_here ?_); refine wpList_loadV (o := ⟨some 22, _, _, _, _, _⟩) rfl 75 (.tmp 4) rfl w.heap.size 0 [.int .i64 (i : Int), .int .i64 (j : Int), .int .i64 op, .int .i64 tp] rfl r1 _ Tryz.underlying75 rfl (by kernel_rfl) ?_)
    | fail)
  refine (HWI.out _).mono ?_
  rintro e w2 ⟨cb, rfl, hcb, lab, ro, sb, rb, pb, wb, so, sr, sm, Z2, _, b2⟩
  have z2 := z1.below b2
  have x0 : w2.cell? ⟨w.heap.size, 0, none⟩ = some (.int .i64 (i : Int)) := (z2 0 (by simp)).1
  have x1 : w2.cell? ⟨w.heap.size, 1, none⟩ = some (.int .i64 (j : Int)) := (z2 1 (by simp)).1
  have HZ2 := Lib.hid Z2
  have B2 := Lib.hid (B1.out.trans (b2.mono B1.out.size))
  have HB2 := Lib.hid b2.size
  have HNL1 := Lib.hid (HNL.out w2 cb _ Z2.ca rfl)
  have HCB : Hid (w1.heap.size ≤ cb) := Lib.hid hcb
  clear z1 r1 z2 Z2 b2 HWI HNL hcb
  go_wp2_with fail
  refine HNL1.out.mono ?_
  rintro e w3 ⟨lb, rfl, N3⟩
  have HN3 := Lib.hid N3
  have B3 : Hid (Below w.heap.size w w3) := Lib.hid (B2.out.trans (N3.2.2.2.below_of (by have := HCB.out; omega) B2.out.size))
  have HDR1 := Lib.hid (HDR.out w3 cb lb _ _ N3.2.2.1 N3.2.1 rfl rfl (HTB.out.below (w' := w3) ⟨B3.out.os, B3.out.tape, B3.out.output, B3.out.size, B3.out.block⟩))
  clear N3 HDR HNL1 x0 x1
  go_wp2_with fail
  refine HDR1.out.mono ?_
  rintro e w4 ⟨⟨iss, hiss, rfl⟩, b4⟩
  have HB4 := Lib.hid b4
  have HI := Lib.hid hiss
  have HFD := Lib.hid (LF.Dial_any iss t w4 hiss (by have := HTT.out; constructor <;> omega))
  unfold LF.MadeF LF.ptr at HFD
  clear b4 hiss HDR1
  go_wp2_with fail
  refine HFD.out.mono ?_
  rintro e w5 ⟨s, rfl, f5, b5⟩
  obtain ⟨o, ho1, ho2, ho3, ho4, ho5, ho6, ho7⟩ := dial_ol f5
  have L5 := (HN3.out.2.1.below HB4.out).below b5
  have c0 : w5.cell? ⟨lb, 0, none⟩ = some (.pointer none) := L5.fl_
  have c5 : w5.cell? ⟨lb, 5, none⟩ = some (.int .i64 0) := L5.aw_
  have f0 := L5.fz 0
  have f5' := L5.fz 5
  obtain ⟨Z6, B6, BB6⟩ := dial_mid HZ2.out HB2.out HN3.out HB4.out f5 b5
  have HS := Lib.hid (start_any (Opn.capable key) Z6 (by have := BB6.size; have := HB2.out; omega) B6 rfl rfl ho1 ho2 ho3 (fun v v' g => calm_dial HTT.out sb rb pb wb iss v v' _ _ _ _ _ _ _ _) t)
  have HBB := Lib.hid BB6
  have HO := Lib.hid (And.intro ho4 (And.intro ho5 (And.intro ho6 ho7)))
  rw [show (Opn.capable key).vals.toArray = #[.int .i64 1, .int .u64 (key : Int), .int .u64 0, .int .u32 0, .int .u32 0, .int .i64 0, .int .i64 0, .bool false, .bool false, .int .i64 0, .bool false, .int .i64 0, .int .i64 0, .bool false] from rfl] at HS
  unfold cptr at HS
  have HBB2 : Hid (Below w.heap.size w ((w5.setCell ⟨lb, 0, none⟩ (cptr s.fb)).setCell ⟨lb, 5, none⟩ (.int .i64 1))) := Lib.hid (B2.out.trans (HBB.out.mono B1.out.size))
  unfold cptr at HBB2
  clear f5 b5 ho1 ho2 ho3 ho4 ho5 ho6 ho7 L5 Z6 B6 BB6 HFD HBB
  go_wp2_with fail
  refine HS.out.mono ?_
  rintro e w7 ⟨rfl, lab7, ro7, v7, v7', ov, dv, Z7, b7⟩
  have HQ : Hid (DialP w key i j op tp t (.returned (.tuple #[.pointer (some ⟨cb, 0, none⟩), .int .i64 0])) w7) := Lib.hid (by
    rw [HO.out.1, HO.out.2.1, HO.out.2.2.1, HO.out.2.2.2] at Z7
    exact ⟨w1.heap.size, lab7, ro7, cb, lb, _, rfl, Z7, ⟨⟨sb, rb, pb, wb, v7, v7', s, iss, _, ov, dv, so, sr, sm, HI.out, rfl⟩⟩, B1.out.size, HBB2.out.trans (b7.mono B1.out.size)⟩)
  clear Z7 b7 HS
  go_wp2_with fail
  go_ret2
  exact HQ.out
end Go.Proofs.YtiehngeeamhlmaaGreatDoor

namespace Go.Proofs.YtiehngeeamhlmaaGreatDoor
set_option linter.unusedVariables false
set_option linter.unusedSimpArgs false
set_option maxRecDepth 20000
open Go.RowKit Go.Lib

def cnil : Value := .pointer none
set_option maxHeartbeats 1600000 in
theorem nTick (t : Int) (w : World) : Calls Tryz.prog 31 #[cnil, .int .i64 t] w fun e w' => e = .returned (.tuple #[]) ∧ w' = w := by
  unfold cnil
  go_enter Tryz.func31, Tryz.ntmps31
  go_wp2_with fail
  refine bodyPost_ret (results_none rfl _ _ _) rfl ?_
  exact ⟨rfl, rfl⟩
set_option maxHeartbeats 1600000 in
theorem nWrite (A : Option Addr) (n c : Nat) (t : Int) (w : World) : Calls Tryz.prog 32 #[cnil, .slice A n c, .int .i64 t] w fun e w' => e = .returned (.tuple #[.int .i64 0, .int .i64 2]) ∧ w' = w := by
  unfold cnil
  go_enter Tryz.func32, Tryz.ntmps32
  go_wp2_with fail
  go_ret2
  exact ⟨rfl, rfl⟩
set_option maxHeartbeats 1600000 in
theorem nRead (m t : Int) (w : World) : Calls Tryz.prog 33 #[cnil, .int .i64 m, .int .i64 t] w fun e w' => e = .returned (.tuple #[.slice none 0 0, .int .i64 2]) ∧ w' = w := by
  unfold cnil
  go_enter Tryz.func33, Tryz.ntmps33
  go_wp2_with fail
  go_ret2
  exact ⟨rfl, rfl⟩
set_option maxHeartbeats 1600000 in
theorem nJoin (x y : Int) (b : Bool) (t : Int) (w : World) : Calls Tryz.prog 37 #[cnil, .int .i64 x, .int .i64 y, .bool b, .int .i64 t] w fun e w' => e = .returned (.int .i64 2) ∧ w' = w := by
  unfold cnil
  go_enter Tryz.func37, Tryz.ntmps37
  go_wp2_with fail
  go_ret
  exact ⟨rfl, rfl⟩
set_option maxHeartbeats 1600000 in
theorem nTell (x t : Int) (w : World) : Calls Tryz.prog 38 #[cnil, .int .i64 x, .int .i64 t] w fun e w' => e = .returned (.int .i64 2) ∧ w' = w := by
  unfold cnil
  go_enter Tryz.func38, Tryz.ntmps38
  go_wp2_with fail
  go_ret
  exact ⟨rfl, rfl⟩
set_option maxHeartbeats 1600000 in
theorem nShutdown (t : Int) (w : World) : Calls Tryz.prog 39 #[cnil, .int .i64 t] w fun e w' => e = .returned (.int .i64 2) ∧ w' = w := by
  unfold cnil
  go_enter Tryz.func39, Tryz.ntmps39
  go_wp2_with fail
  go_ret
  exact ⟨rfl, rfl⟩
set_option maxHeartbeats 1600000 in
theorem nClose (t : Int) (w : World) : Calls Tryz.prog 40 #[cnil, .int .i64 t] w fun e w' => e = .returned (.int .i64 2) ∧ w' = w := by
  unfold cnil
  go_enter Tryz.func40, Tryz.ntmps40
  go_wp2_with fail
  go_ret
  exact ⟨rfl, rfl⟩
set_option maxHeartbeats 1600000 in
theorem nAbort (t : Int) (w : World) : Calls Tryz.prog 41 #[cnil, .int .i64 t] w fun e w' => e = .returned (.int .i64 2) ∧ w' = w := by
  unfold cnil
  go_enter Tryz.func41, Tryz.ntmps41
  go_wp2_with fail
  go_ret
  exact ⟨rfl, rfl⟩
set_option maxHeartbeats 1600000 in
theorem nSet (t : Int) (w : World) : Calls Tryz.prog 42 #[cnil, .int .i64 t] w fun e w' => e = .returned (.int .i64 2) ∧ w' = w := by
  unfold cnil
  go_enter Tryz.func42, Tryz.ntmps42
  go_wp2_with fail
  go_ret
  exact ⟨rfl, rfl⟩
set_option maxHeartbeats 1600000 in
theorem nErr (w : World) : Calls Tryz.prog 22 #[cnil] w fun e w' => e = .returned (.int .i64 2) ∧ w' = w := by
  unfold cnil
  go_enter Tryz.func22, Tryz.ntmps22
  go_wp2_with fail
  go_ret
  exact ⟨rfl, rfl⟩
set_option maxHeartbeats 1600000 in
theorem nOut (w : World) : Calls Tryz.prog 43 #[cnil] w fun e w' => e = .returned (.slice none 0 0) ∧ w' = w := by
  unfold cnil
  go_enter Tryz.func43, Tryz.ntmps43
  go_wp2_with fail
  go_ret
  exact ⟨rfl, rfl⟩
set_option maxHeartbeats 1600000 in
theorem nState (w : World) : Calls Tryz.prog 19 #[cnil] w fun e w' => e = .returned (.int .i64 0) ∧ w' = w := by
  unfold cnil
  go_enter Tryz.func19, Tryz.ntmps19
  go_wp2_with fail
  go_ret
  exact ⟨rfl, rfl⟩
set_option maxHeartbeats 1600000 in
theorem nLegs (w : World) : Calls Tryz.prog 28 #[cnil] w fun e w' => e = .returned (.int .i64 0) ∧ w' = w := by
  unfold cnil
  go_enter Tryz.func28, Tryz.ntmps28
  go_wp2_with fail
  go_ret
  exact ⟨rfl, rfl⟩
set_option maxHeartbeats 1600000 in
theorem nTimers (w : World) : Calls Tryz.prog 44 #[cnil] w fun e w' => e = .returned (.int .i64 0) ∧ w' = w := by
  unfold cnil
  go_enter Tryz.func44, Tryz.ntmps44
  go_wp2_with fail
  go_ret
  exact ⟨rfl, rfl⟩
set_option maxHeartbeats 1600000 in
theorem nOver (w : World) : Calls Tryz.prog 20 #[cnil] w fun e w' => e = .returned (.bool false) ∧ w' = w := by
  unfold cnil
  go_enter Tryz.func20, Tryz.ntmps20
  go_wp2_with fail
  go_ret
  exact ⟨rfl, rfl⟩
set_option maxHeartbeats 1600000 in
theorem nlegOf (s : Sgc) (w : World) : Calls Tryz.prog 53 #[cnil, .agg s.vals.toArray] w fun e w' => e = .returned (.pointer none) ∧ Below w.heap.size w w' := by
  unfold cnil
  go_enter Tryz.func53, Tryz.ntmps53
  go_wp2_with (first | ((with_reducible refine wpList_here ?_); refine wpList_boxV (o := ⟨some 3, _, _, _, _, _⟩) rfl 54 (.tmp 1) rfl s.vals rfl _ rfl ?_; intro w1 z1 b1 s1) | fail)
  go_quiet (fail)
  go_wp2_with fail
  go_ret
  exact ⟨rfl, below_dn b1 _⟩
set_option maxHeartbeats 1600000 in
theorem nMine (s : Sgc) (w : World) : Calls Tryz.prog 36 #[cnil, .agg s.vals.toArray] w fun e w' => e = .returned (.bool false) ∧ Below w.heap.size w w' := by
  unfold cnil
  go_enter Tryz.func36, Tryz.ntmps36
  go_wp2_with (first | ((with_reducible refine wpList_here ?_); refine wpList_boxV (o := ⟨some 3, _, _, _, _, _⟩) rfl 54 (.tmp 1) rfl s.vals rfl _ rfl ?_; intro w1 z1 b1 s1) | ((with_reducible refine wpList_here ?_); refine wpList_loadV (o := ⟨some 6, _, _, _, _, _⟩) rfl 54 (.tmp 3) rfl _ _ s.vals rfl z1.range _ Tryz.underlying54 rfl sizeSgc ?_) | (go_at_call 53; refine (nlegOf s _).mono ?_; rintro e w2 ⟨rfl, b2⟩) | fail)
  go_ret
  exact ⟨rfl, below_trans b1 b2⟩
set_option maxHeartbeats 1600000 in
theorem nHear (s : Sgc) (t : Int) (w : World) : Calls Tryz.prog 24 #[cnil, .agg s.vals.toArray, .int .i64 t] w fun e w' => e = .returned (.bool false) ∧ Below w.heap.size w w' := by
  unfold cnil
  go_enter Tryz.func24, Tryz.ntmps24
  go_wp2_with (first | ((with_reducible refine wpList_here ?_); refine wpList_boxV (o := ⟨some 4, _, _, _, _, _⟩) rfl 54 (.tmp 1) rfl s.vals rfl _ rfl ?_; intro w1 z1 b1 s1) | ((with_reducible refine wpList_here ?_); refine wpList_loadV (o := ⟨some 11, _, _, _, _, _⟩) rfl 54 (.tmp 4) rfl _ _ s.vals rfl z1.range _ Tryz.underlying54 rfl sizeSgc ?_) | (go_at_call 53; refine (nlegOf s _).mono ?_; rintro e w2 ⟨rfl, b2⟩) | fail)
  go_ret
  exact ⟨rfl, below_trans b1 b2⟩
set_option maxHeartbeats 1600000 in
theorem nJoined (s : Sgc) (t : Int) (w : World) : Calls Tryz.prog 26 #[cnil, .agg s.vals.toArray, .int .i64 t] w fun e w' => e = .returned (.int .i64 2) ∧ Below w.heap.size w w' := by
  unfold cnil
  go_enter Tryz.func26, Tryz.ntmps26
  go_wp2_with (first | ((with_reducible refine wpList_here ?_); refine wpList_boxV (o := ⟨some 4, _, _, _, _, _⟩) rfl 54 (.tmp 1) rfl s.vals rfl _ rfl ?_; intro w1 z1 b1 s1) | fail)
  go_ret
  exact ⟨rfl, b1⟩
end Go.Proofs.YtiehngeeamhlmaaGreatDoor

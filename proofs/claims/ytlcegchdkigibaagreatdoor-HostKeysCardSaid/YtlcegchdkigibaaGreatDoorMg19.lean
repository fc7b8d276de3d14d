/- The contracts of slices.Clone of no bytes, and of Conn.put at a Syn without data. Conditions: the connection's and the leg's cells stand, at most 2^39 segments wait to be sent. -/
import Derived.Test.YtlcegchdkigibaaGreatDoorMg4
import Derived.Test.YtlcegchdkigibaaGreatDoorMg18
import Derived.Test.YtlcegchdkigibaaGreatDoorMg17
namespace Go.Proofs.YtlcegchdkigibaaGreatDoor
set_option linter.unusedVariables false
set_option linter.unusedSimpArgs false
set_option maxRecDepth 20000
open Go.RowKit Go.Lib

theorem undBys : Tryz.prog.underlying 38 = some (.slice 5) := by kernel_rfl
set_option maxHeartbeats 1600000 in
theorem cloneE_any {w : World} {A : Option Addr} {c : Nat} (h : RB w A 0 c []) : Calls Tryz.prog 208 #[.slice A 0 c] w fun e w' => (∃ A' c', e = .returned (.slice A' 0 c')) ∧ Below w.heap.size w w' := by
  have he : ∀ W, (binOp .eql 38 (.slice A 0 c) (.slice none 0 0)).run Tryz.prog W = .ok (.bool A.isNone) W := fun W => run_eql_slice_nil W _ _ _ 0 c 0 0 undBys
  cases A with
  | none =>
    go_enter Tryz.func208, Tryz.ntmps208
    go_wp2_with fail
    go_ret
    exact ⟨⟨_, _, rfl⟩, Below.refl _ _⟩
  | some a =>
    go_enter Tryz.func208, Tryz.ntmps208
    go_wp2_with (at_builtin; refine wpList_app_lit rfl _ _ _ _ rfl undBys infoByte rfl _ 0 c [] rfl h (by omega) ?_; intro A' c' w' q1 q2 q3)
    go_ret
    exact ⟨⟨_, _, rfl⟩, q3⟩
theorem litSg (w : World) (s : Sgc) : (Instr.buildSlice 53 1 #[(0, .agg s.vals.toArray)]).run Tryz.prog w = .ok (.slice (some ⟨w.heap.size, 0, none⟩) 1 1) (w.alloc (.cells s.vals.toArray 40)) := by kernel_rfl
theorem sizeOps : (Tryz.prog.info? 37).map (·.size) = some 1 := by kernel_rfl
theorem undSgs : Tryz.prog.underlying 53 = some (.slice 40) := by kernel_rfl
/-- What is ahead of a segment that is put. -/
structure PutS (W : World) (cb lb g6 g8 : Nat) (ow ot op tp : Int) (seq ack : Nat) (acks fin rst : Bool) (dA : Option Addr) (dc : Nat) : Prop where
  f1 : W.cell? ⟨lb, 1, none⟩ = some (.int .i64 ow)
  f2 : W.cell? ⟨lb, 2, none⟩ = some (.int .i64 ot)
  f3 : W.cell? ⟨cb, 2, none⟩ = some (.int .i64 op)
  f4 : W.cell? ⟨cb, 3, none⟩ = some (.int .i64 tp)
  f5 : W.cell? ⟨g8, 0, none⟩ = some (.int .u32 (seq : Int))
  f6 : W.cell? ⟨g6, 6, none⟩ = some (.int .u32 (ack : Int))
  f7 : W.cell? ⟨g8, 1, none⟩ = some (.bool true)
  f8 : W.cell? ⟨g6, 7, none⟩ = some (.bool acks)
  f9 : W.cell? ⟨g8, 2, none⟩ = some (.bool fin)
  f10 : W.cell? ⟨g6, 8, none⟩ = some (.bool rst)
  f11 : W.cell? ⟨g8, 3, none⟩ = some (.slice dA 0 dc)
theorem PutS.below {W W' : World} {cb lb g6 g8 : Nat} {ow ot op tp : Int} {seq ack : Nat} {acks fin rst : Bool} {dA : Option Addr} {dc : Nat} (h : PutS W cb lb g6 g8 ow ot op tp seq ack acks fin rst dA dc) (b : Below W.heap.size W W') : PutS W' cb lb g6 g8 ow ot op tp seq ack acks fin rst dA dc := by
  have k : ∀ p v, W.cell? p = some v → W'.cell? p = some v := fun p v hp => (World.cell?_of_block (b.block _ (World.block_lt_of_cell? _ _ hp))).trans hp
  exact ⟨k _ _ h.f1, k _ _ h.f2, k _ _ h.f3, k _ _ h.f4, k _ _ h.f5, k _ _ h.f6, k _ _ h.f7, k _ _ h.f8, k _ _ h.f9, k _ _ h.f10, k _ _ h.f11⟩
/-- What a Syn's segment is: to be filled with its options. -/
def synSg (ow ot op tp : Int) (seq ack : Nat) (acks fin rst : Bool) (ov dv : Value) : Sgc := ⟨ow, ot, op, tp, seq, ack, true, acks, fin, rst, 0, ov, dv⟩
/-- A Syn without data that wants to be sent. -/
def synOc (seq ack : Nat) (acks fin rst last : Bool) (dA : Option Addr) (dc : Nat) (dsn : Int) : LF.Oc := ⟨⟨seq, true, fin, dA, 0, dc, dsn, last, []⟩, ack, acks, rst⟩
def PutP (w : World) (base cb : Nat) (c : Cv) (l : Lc) (g : List Sgc) (seq ack : Nat) (acks fin rst : Bool) (w' : World) : Prop :=
  ∃ v' ob dv, isSl dv ∧ Ca w' cb { c with sv := v' } ∧ w'.ownsRow base 40 13 v' (g.length + 1) (sgv (g ++ [synSg l.ow l.ot c.op c.tp seq ack acks fin rst (.slice (some ⟨ob, 0, none⟩) 1 1) dv])) ∧
    Own w' ob l.he.vals ∧ w.heap.size ≤ ob ∧ v'.ownBlock ≠ some ob ∧ Ch w w' (fun k => k = cb ∨ c.sv.ownBlock = some k) ∧ (v'.ownBlock = c.sv.ownBlock ∨ ∃ k, v'.ownBlock = some k ∧ w.heap.size ≤ k)

theorem put_mid {w wd wE wF wG : World} {g8 g9 : Nat} {us : List Value} (hz3 : wd.heap.size = w.heap.size + 2) (hg8 : w.heap.size + 1 = g8) (h9 : wd.heap.size ≤ g9) (h9' : g9 < wE.heap.size) (h2 : wd.heap.size ≤ wE.heap.size) (HBE : Below w.heap.size w wE)
    (k1 : wE.cell? ⟨g8, 1, none⟩ = some (.bool true)) (bF : Below wE.heap.size wE wF) (zF : Own wF wE.heap.size us) (gG : wF.grownBy wG (some g9)) :
    wG.cell? ⟨g8, 1, none⟩ = some (.bool true) ∧ Below w.heap.size w wG ∧ Own wG wE.heap.size us := by
  have h3 := bF.size
  have h4 := HBE.size
  refine ⟨(gG.cell_far _ (by show g8 < _; omega) (fun e => by injection e with e; have e : g8 = g9 := e; omega)).trans ((bF.cell (by show g8 < _; omega)).trans k1), v_below_g (HBE.trans (bF.mono h4)) gG (by omega) (by omega), zF.far gG (fun e => by injection e with e; omega)⟩
theorem ne_types {w : World} {k : Nat} {a b : Array Value} {t u : TypeId} {f f' : Nat × Nat} (h : w.heap[k]? = some (.cells a t f)) (h' : w.heap[k]? = some (.cells b u f')) (hne : t ≠ u) : False := by
  rw [h] at h'
  injection h' with h'
  injection h' with _ h'
  exact hne h'
section
variable {w : World} {base cb lb : Nat} {c : Cv} {l : Lc} {g : List Sgc}
theorem put_done {w8 w9 : World} {v' : Value} {ob : Nat} {S : Sgc} (hC : Ca w cb c) (hr : w.ownsRow base 40 13 c.sv g.length (sgv g)) (b8 : Below w.heap.size w w8) (ho : Own w8 ob l.he.vals) (hob : w.heap.size ≤ ob)
    (r9 : w9.ownsRow base 40 13 v' (g.length + 1) (sgv g ++ S.vals)) (g9' : w8.grownBy w9 c.sv.ownBlock) (o9 : v'.ownBlock = c.sv.ownBlock ∨ v'.ownBlock = some w8.heap.size) :
    Ca (w9.setCell ⟨cb, 24, none⟩ v') cb { c with sv := v' } ∧ (w9.setCell ⟨cb, 24, none⟩ v').ownsRow base 40 13 v' (g.length + 1) (sgv (g ++ [S])) ∧ Own (w9.setCell ⟨cb, 24, none⟩ v') ob l.he.vals ∧ v'.ownBlock ≠ some ob ∧
      Ch w (w9.setCell ⟨cb, 24, none⟩ v') (fun k => k = cb ∨ c.sv.ownBlock = some k) ∧ (v'.ownBlock = c.sv.ownBlock ∨ ∃ k, v'.ownBlock = some k ∧ w.heap.size ≤ k) := by
  have hc8 := hC.below b8
  have hlt := hC.lt
  have hs8 := b8.size
  have hol := ho.lt (by rw [Opn.vals_length]; omega)
  have hnb : c.sv.ownBlock ≠ some cb := fun e => by
    obtain ⟨cs, e'⟩ := ch_ownrow hr e
    exact ne_types hC e' (by decide)
  have hnr : c.sv.ownBlock ≠ some ob := fun e => by have := (own_in hr e).2; omega
  have hnv : v'.ownBlock ≠ some cb := fun e => by
    rcases o9 with o | o
    · exact hnb (o ▸ e)
    · rw [o] at e; injection e with e; omega
  have hc9 : Ca w9 cb c := hc8.ch (Ch.grown (Ch.refl w8 (fun k => c.sv.ownBlock = some k)) g9' (fun k e _ => e)) (fun e => hnb e)
  have hch9 : Ch w w9 (fun k => k = cb ∨ c.sv.ownBlock = some k) := (Ch.of_below _ b8).grown g9' (fun k e _ => .inr e)
  refine ⟨hc9.set 24 v' _ rfl, ?_, ?_, ?_, hch9.setCell (fun _ => .inl rfl) _, ?_⟩
  · rw [sgv_append, sgv_one]
    exact own_ch2 r9 ((Ch.refl w9 (fun k => k = cb)).setCell (fun _ => rfl) _) (fun k hk e => hnv (e ▸ hk))
  · have h1 : Own w9 ob l.he.vals := ho.far g9' (fun e => hnr e.symm)
    exact h1.far (v_g_set w9 cb 24 v') (fun e => by injection e with e; omega)
  · rcases o9 with o | o
    · rw [o]; exact hnr
    · rw [o]; intro e; injection e with e; omega
  · rcases o9 with o | o
    · exact .inl o
    · exact .inr ⟨_, o, hs8⟩

set_option maxHeartbeats 6400000 in
theorem put_any (hC : Ca w cb c) (hL : La w lb l) (hr : w.ownsRow base 40 13 c.sv g.length (sgv g)) (hb : base ≤ w.heap.size) (hn : g.length ≤ 549755813888)
    (seq ack : Nat) (acks fin rst last : Bool) (dA : Option Addr) (dc : Nat) (dsn : Int) (hd : RB w dA 0 dc []) :
    Calls Tryz.prog 159 #[cptr cb, cptr lb, .agg (synOc seq ack acks fin rst last dA dc dsn).vals.toArray, .slice none 0 0] w fun e w' => e = .returned (.tuple #[]) ∧ PutP w base cb c l g seq ack acks fin rst w' := by
  have HC := Lib.hid hC
  have HL := Lib.hid hL
  have HR := Lib.hid hr
  have HB := Lib.hid hb
  have HNN := Lib.hid hn
  have HD := Lib.hid hd
  have HCL := Lib.hid (fun W (b : Below w.heap.size w W) => cloneE_any (hd.below b))
  have hcb := hC.lt
  have hlb := hL.lt
  have e1 := hL.ow_
  have e2 := hL.ot_
  have e3 := hC.op_
  have e4 := hC.tp_
  have e5 := hC.sv_
  have e6 := hC.fz 24
  have e7 := hL.he_
  clear hC hL hr hb hn hd
  generalize hop : synOc seq ack acks fin rst last dA dc dsn = o at *
  have hov : o.vals = [.int .u32 (seq : Int), .bool true, .bool fin, .slice dA 0 dc, .int .i64 dsn, .bool last, .int .u32 (ack : Int), .bool acks, .bool rst] := by subst hop; rfl
  have hpv : o.p.vals = [.int .u32 (seq : Int), .bool true, .bool fin, .slice dA 0 dc, .int .i64 dsn, .bool last] := by subst hop; rfl
  have hrp : ∀ (W : World) (k : Nat), W.rangeAt k 0 o.vals → W.rangeAt k 0 o.p.vals := fun W k hk j v hv => by
    have hj : j < 6 := (List.getElem?_eq_some_iff.1 hv).1
    refine hk j v ?_
    unfold LF.Oc.vals
    rw [List.getElem?_append_left (by exact hj)]
    exact hv
  clear hop
  unfold cptr
  go_enter Tryz.func159, Tryz.ntmps159
  go_wp2_with (first
    | ((with_reducible refine wpList_here ?_); refine wpList_boxV (o := ⟨some 6, _, _, _, _, _⟩) rfl 211 (.tmp 2) rfl o.vals rfl _ rfl ?_; intro w1 z1 b1 s1; have r1 := hrp _ _ z1.range)
    | ((with_reducible refine wpList_here ?_); refine wpList_loadV (o := ⟨some 11, _, _, _, _, _⟩) rfl 209 (.tmp 10) rfl _ 0 o.p.vals rfl r1 _ Tryz.underlying209 rfl LF.infoPc ?_)
    | ((with_reducible refine wpList_here ?_); refine wpList_allocV (o := ⟨some 8, _, _, _, _, _⟩) rfl 209 rfl LF.zP.vals LF.zeroPc _ s1 ?_; intro w2 z2 b2 s2)
    | ((with_reducible refine wpList_here ?_); refine wpList_storeV rfl 209 (.tmp 8) (.tmp 11) rfl _ _ o.p.vals rfl rfl z2 rfl (LF.pc_one o.p) LF.infoPc ?_; go_loud (intro w3 z3 g3 s3))
    | fail)
  have b3 : Below w.heap.size w w3.drew := (v_below_g (below_trans b1 b2) g3 (below_trans b1 b2).size (by omega)).drew
  have z6 : Own w3 w.heap.size o.vals := (z1.below b2).far g3 (fun e => by injection e with e; omega)
  have e0 : PutS w3.drew cb lb w.heap.size (w.heap.size + 1) l.ow l.ot c.op c.tp seq ack acks fin rst dA dc := by
    refine ⟨(b3.cell hlb).trans e1, (b3.cell hlb).trans e2, (b3.cell hcb).trans e3, (b3.cell hcb).trans e4, ?_, ?_, ?_, ?_, ?_, ?_, ?_⟩
    · have := (z3 0 (by rw [hpv]; simp)).1; rw [hpv] at this; exact this
    · have := (z6 6 (by rw [hov]; simp)).1; rw [hov] at this; exact this
    · have := (z3 1 (by rw [hpv]; simp)).1; rw [hpv] at this; exact this
    · have := (z6 7 (by rw [hov]; simp)).1; rw [hov] at this; exact this
    · have := (z3 2 (by rw [hpv]; simp)).1; rw [hpv] at this; exact this
    · have := (z6 8 (by rw [hov]; simp)).1; rw [hov] at this; exact this
    · have := (z3 3 (by rw [hpv]; simp)).1; rw [hpv] at this; exact this
  clear z1 z2 z3 z6 g3 b1 b2 r1 e1 e2 e3 e4
  have hz3 : w3.drew.heap.size = w.heap.size + 2 := by have : w3.heap.size = w2.heap.size := s3; show w3.heap.size = _; omega
  clear s1 s2 s3
  generalize hwd : w3.drew = wd at *
  have BD := Lib.hid (Below.refl wd.heap.size wd)
  have HB3 := Lib.hid b3
  have k5 : wd.cell? ⟨cb, 24, none⟩ = some c.sv := (b3.cell hcb).trans e5
  have k7 : wd.rangeAt lb 8 l.he.vals := fun j v hv => (b3.cell (p := ⟨lb, 8 + j, none⟩) hlb).trans (e7 j v hv)
  clear b3 e5 e7 e6 hrp hpv hov HD
  generalize hg8 : w.heap.size + 1 = g8 at *
  refine wp_region_noPanic ?_
  refine wp_region_held_drew (S := fun W => PutS W cb lb w.heap.size g8 l.ow l.ot c.op c.tp seq ack acks fin rst dA dc) (by kernel_rfl) (by rw [hwd]; exact e0) (fun _ => ?_)
  rw [hwd]
  clear hwd
  refine held_take (i := 0) (v := .pointer (some ⟨lb, 0, none⟩)) (some 12) rfl rfl (by kernel_rfl) (by kernel_rfl) (by kernel_rfl) (fun _ _ _ h => h) (Or.inl ⟨by rfl, fun W hW => by go_simp⟩) e0 ?_
  simp only [Act.put, List.setIfInBounds_toArray, List.set_cons_zero, List.set_cons_succ]
  refine held_take (i := 4) (v := .pointer (some ⟨lb, 0, none⟩)) (some 16) rfl rfl (by kernel_rfl) (by kernel_rfl) (by kernel_rfl) (fun _ _ _ h => h) (Or.inl ⟨by rfl, fun W hW => by go_simp⟩) e0 ?_
  simp only [Act.put, List.setIfInBounds_toArray, List.set_cons_zero, List.set_cons_succ]
  refine held_take (i := 8) (v := .pointer (some ⟨cb, 0, none⟩)) (some 20) rfl rfl (by kernel_rfl) (by kernel_rfl) (by kernel_rfl) (fun _ _ _ h => h) (Or.inl ⟨by rfl, fun W hW => by go_simp⟩) e0 ?_
  simp only [Act.put, List.setIfInBounds_toArray, List.set_cons_zero, List.set_cons_succ]
  refine held_take (i := 12) (v := .pointer (some ⟨cb, 0, none⟩)) (some 24) rfl rfl (by kernel_rfl) (by kernel_rfl) (by kernel_rfl) (fun _ _ _ h => h) (Or.inl ⟨by rfl, fun W hW => by go_simp⟩) e0 ?_
  simp only [Act.put, List.setIfInBounds_toArray, List.set_cons_zero, List.set_cons_succ]
  refine held_take (i := 16) (v := .pointer (some ⟨g8, 0, none⟩)) (some 28) rfl rfl (by kernel_rfl) (by kernel_rfl) (by kernel_rfl) (fun _ _ _ h => h) (Or.inl ⟨by rfl, fun W hW => by go_simp⟩) e0 ?_
  simp only [Act.put, List.setIfInBounds_toArray, List.set_cons_zero, List.set_cons_succ]
  refine held_take (i := 18) (v := .pointer (some ⟨w.heap.size, 6, none⟩)) (some 30) rfl rfl (by kernel_rfl) (by kernel_rfl) (by kernel_rfl) (fun _ _ _ h => h) (Or.inl ⟨by rfl, fun W hW => by go_simp⟩) e0 ?_
  simp only [Act.put, List.setIfInBounds_toArray, List.set_cons_zero, List.set_cons_succ]
  refine held_take (i := 20) (v := .pointer (some ⟨g8, 1, none⟩)) (some 32) rfl rfl (by kernel_rfl) (by kernel_rfl) (by kernel_rfl) (fun _ _ _ h => h) (Or.inl ⟨by rfl, fun W hW => by go_simp⟩) e0 ?_
  simp only [Act.put, List.setIfInBounds_toArray, List.set_cons_zero, List.set_cons_succ]
  refine held_take (i := 22) (v := .pointer (some ⟨w.heap.size, 7, none⟩)) (some 34) rfl rfl (by kernel_rfl) (by kernel_rfl) (by kernel_rfl) (fun _ _ _ h => h) (Or.inl ⟨by rfl, fun W hW => by go_simp⟩) e0 ?_
  simp only [Act.put, List.setIfInBounds_toArray, List.set_cons_zero, List.set_cons_succ]
  refine held_take (i := 24) (v := .pointer (some ⟨g8, 2, none⟩)) (some 36) rfl rfl (by kernel_rfl) (by kernel_rfl) (by kernel_rfl) (fun _ _ _ h => h) (Or.inl ⟨by rfl, fun W hW => by go_simp⟩) e0 ?_
  simp only [Act.put, List.setIfInBounds_toArray, List.set_cons_zero, List.set_cons_succ]
  refine held_take (i := 26) (v := .pointer (some ⟨w.heap.size, 8, none⟩)) (some 38) rfl rfl (by kernel_rfl) (by kernel_rfl) (by kernel_rfl) (fun _ _ _ h => h) (Or.inl ⟨by rfl, fun W hW => by go_simp⟩) e0 ?_
  simp only [Act.put, List.setIfInBounds_toArray, List.set_cons_zero, List.set_cons_succ]
  refine held_take (i := 28) (v := .pointer (some ⟨g8, 3, none⟩)) (some 40) rfl rfl (by kernel_rfl) (by kernel_rfl) (by kernel_rfl) (fun _ _ _ h => h) (Or.inl ⟨by rfl, fun W hW => by go_simp⟩) e0 ?_
  simp only [Act.put, List.setIfInBounds_toArray, List.set_cons_zero, List.set_cons_succ]
  refine held_take (i := 1) (v := .pointer (some ⟨lb, 0, none⟩)) (some 13) rfl rfl (by kernel_rfl) (by kernel_rfl) (by kernel_rfl) (fun _ _ _ h => h) (Or.inl ⟨by rfl, fun W hW => by go_simp⟩) e0 ?_
  simp only [Act.put, List.setIfInBounds_toArray, List.set_cons_zero, List.set_cons_succ]
  refine held_take (i := 5) (v := .pointer (some ⟨lb, 0, none⟩)) (some 17) rfl rfl (by kernel_rfl) (by kernel_rfl) (by kernel_rfl) (fun _ _ _ h => h) (Or.inl ⟨by rfl, fun W hW => by go_simp⟩) e0 ?_
  simp only [Act.put, List.setIfInBounds_toArray, List.set_cons_zero, List.set_cons_succ]
  refine held_take (i := 9) (v := .pointer (some ⟨cb, 0, none⟩)) (some 21) rfl rfl (by kernel_rfl) (by kernel_rfl) (by kernel_rfl) (fun _ _ _ h => h) (Or.inl ⟨by rfl, fun W hW => by go_simp⟩) e0 ?_
  simp only [Act.put, List.setIfInBounds_toArray, List.set_cons_zero, List.set_cons_succ]
  refine held_take (i := 13) (v := .pointer (some ⟨cb, 0, none⟩)) (some 25) rfl rfl (by kernel_rfl) (by kernel_rfl) (by kernel_rfl) (fun _ _ _ h => h) (Or.inl ⟨by rfl, fun W hW => by go_simp⟩) e0 ?_
  simp only [Act.put, List.setIfInBounds_toArray, List.set_cons_zero, List.set_cons_succ]
  refine held_take (i := 17) (v := .int .u32 (seq : Int)) (some 29) rfl rfl (by kernel_rfl) (by kernel_rfl) (by kernel_rfl) (fun _ _ _ h => h) (Or.inl ⟨by rfl, fun W hW => by have hc := hW.f5; go_simp⟩) e0 ?_
  simp only [Act.put, List.setIfInBounds_toArray, List.set_cons_zero, List.set_cons_succ]
  refine held_take (i := 19) (v := .int .u32 (ack : Int)) (some 31) rfl rfl (by kernel_rfl) (by kernel_rfl) (by kernel_rfl) (fun _ _ _ h => h) (Or.inl ⟨by rfl, fun W hW => by have hc := hW.f6; go_simp⟩) e0 ?_
  simp only [Act.put, List.setIfInBounds_toArray, List.set_cons_zero, List.set_cons_succ]
  refine held_take (i := 21) (v := .bool true) (some 33) rfl rfl (by kernel_rfl) (by kernel_rfl) (by kernel_rfl) (fun _ _ _ h => h) (Or.inl ⟨by rfl, fun W hW => by have hc := hW.f7; go_simp⟩) e0 ?_
  simp only [Act.put, List.setIfInBounds_toArray, List.set_cons_zero, List.set_cons_succ]
  refine held_take (i := 23) (v := .bool acks) (some 35) rfl rfl (by kernel_rfl) (by kernel_rfl) (by kernel_rfl) (fun _ _ _ h => h) (Or.inl ⟨by rfl, fun W hW => by have hc := hW.f8; go_simp⟩) e0 ?_
  simp only [Act.put, List.setIfInBounds_toArray, List.set_cons_zero, List.set_cons_succ]
  refine held_take (i := 25) (v := .bool fin) (some 37) rfl rfl (by kernel_rfl) (by kernel_rfl) (by kernel_rfl) (fun _ _ _ h => h) (Or.inl ⟨by rfl, fun W hW => by have hc := hW.f9; go_simp⟩) e0 ?_
  simp only [Act.put, List.setIfInBounds_toArray, List.set_cons_zero, List.set_cons_succ]
  refine held_take (i := 27) (v := .bool rst) (some 39) rfl rfl (by kernel_rfl) (by kernel_rfl) (by kernel_rfl) (fun _ _ _ h => h) (Or.inl ⟨by rfl, fun W hW => by have hc := hW.f10; go_simp⟩) e0 ?_
  simp only [Act.put, List.setIfInBounds_toArray, List.set_cons_zero, List.set_cons_succ]
  refine held_take (i := 29) (v := .slice dA 0 dc) (some 41) rfl rfl (by kernel_rfl) (by kernel_rfl) (by kernel_rfl) (fun _ _ _ h => h) (Or.inl ⟨by rfl, fun W hW => by have hc := hW.f11; go_simp⟩) e0 ?_
  simp only [Act.put, List.setIfInBounds_toArray, List.set_cons_zero, List.set_cons_succ]
  refine held_take (i := 2) (v := .pointer (some ⟨lb, 1, none⟩)) (some 14) rfl rfl (by kernel_rfl) (by kernel_rfl) (by kernel_rfl) (fun _ _ _ h => h) (Or.inl ⟨by rfl, fun W hW => by go_simp⟩) e0 ?_
  simp only [Act.put, List.setIfInBounds_toArray, List.set_cons_zero, List.set_cons_succ]
  refine held_take (i := 6) (v := .pointer (some ⟨lb, 2, none⟩)) (some 18) rfl rfl (by kernel_rfl) (by kernel_rfl) (by kernel_rfl) (fun _ _ _ h => h) (Or.inl ⟨by rfl, fun W hW => by go_simp⟩) e0 ?_
  simp only [Act.put, List.setIfInBounds_toArray, List.set_cons_zero, List.set_cons_succ]
  refine held_take (i := 10) (v := .pointer (some ⟨cb, 2, none⟩)) (some 22) rfl rfl (by kernel_rfl) (by kernel_rfl) (by kernel_rfl) (fun _ _ _ h => h) (Or.inl ⟨by rfl, fun W hW => by go_simp⟩) e0 ?_
  simp only [Act.put, List.setIfInBounds_toArray, List.set_cons_zero, List.set_cons_succ]
  refine held_take (i := 14) (v := .pointer (some ⟨cb, 3, none⟩)) (some 26) rfl rfl (by kernel_rfl) (by kernel_rfl) (by kernel_rfl) (fun _ _ _ h => h) (Or.inl ⟨by rfl, fun W hW => by go_simp⟩) e0 ?_
  simp only [Act.put, List.setIfInBounds_toArray, List.set_cons_zero, List.set_cons_succ]
  refine held_take (i := 3) (v := .int .i64 l.ow) (some 15) rfl rfl (by kernel_rfl) (by kernel_rfl) (by kernel_rfl) (fun _ _ _ h => h) (Or.inl ⟨by rfl, fun W hW => by have hc := hW.f1; go_simp⟩) e0 ?_
  simp only [Act.put, List.setIfInBounds_toArray, List.set_cons_zero, List.set_cons_succ]
  refine held_take (i := 7) (v := .int .i64 l.ot) (some 19) rfl rfl (by kernel_rfl) (by kernel_rfl) (by kernel_rfl) (fun _ _ _ h => h) (Or.inl ⟨by rfl, fun W hW => by have hc := hW.f2; go_simp⟩) e0 ?_
  simp only [Act.put, List.setIfInBounds_toArray, List.set_cons_zero, List.set_cons_succ]
  refine held_take (i := 11) (v := .int .i64 c.op) (some 23) rfl rfl (by kernel_rfl) (by kernel_rfl) (by kernel_rfl) (fun _ _ _ h => h) (Or.inl ⟨by rfl, fun W hW => by have hc := hW.f3; go_simp⟩) e0 ?_
  simp only [Act.put, List.setIfInBounds_toArray, List.set_cons_zero, List.set_cons_succ]
  refine held_take (i := 15) (v := .int .i64 c.tp) (some 27) rfl rfl (by kernel_rfl) (by kernel_rfl) (by kernel_rfl) (fun _ _ _ h => h) (Or.inl ⟨by rfl, fun W hW => by have hc := hW.f4; go_simp⟩) e0 ?_
  simp only [Act.put, List.setIfInBounds_toArray, List.set_cons_zero, List.set_cons_succ]
  refine wpAnyH_ready (rs := [30, 32]) (by kernel_rfl) (by simp) ?_
  refine AllReadyH.cons rfl (fun K hK => ?_) (AllReadyH.cons rfl (fun K hK => ?_) AllReadyH.nil)
  · go_simp
    refine (HCL.out _ (HB3.out.trans (BD.out.mono HB3.out.size))).mono ?_
    rintro e wA ⟨⟨A', c', rfl⟩, bA⟩
    have eA := e0.below bA
    have BA := Lib.hid (BD.out.trans (bA.mono BD.out.size))
    clear bA
    dsimp only
    refine hK.out _ _ eA (fun _ => ?_)
    clear hK
    try simp only [Act.put, List.setIfInBounds_toArray, List.set_cons_zero, List.set_cons_succ]
    refine held_take (i := 31) (v := .agg (synSg l.ow l.ot c.op c.tp seq ack acks fin rst (.slice none 0 0) (.slice A' 0 c')).vals.toArray) (some 43) rfl rfl (by kernel_rfl) (by kernel_rfl) (by kernel_rfl) (fun _ _ _ h => h) (Or.inl ⟨by rfl, fun W hW => by kernel_rfl⟩) eA ?_
    simp only [Act.put, List.setIfInBounds_toArray, List.set_cons_zero, List.set_cons_succ]
    refine wpAnyH_ready (rs := [32]) (by kernel_rfl) (by simp) ?_
    refine AllReadyH.cons rfl (fun K hK => ?_) AllReadyH.nil
    refine step_allocV (by rfl) 40 rfl zSg.vals zeroSgc ?_
    intro g9 wB hg9 zB bB sB
    have eB := eA.below bB
    have hg9' : Hid (wd.heap.size ≤ g9) := Lib.hid (by have := hg9.out; have := BA.out.size; omega)
    have BB := Lib.hid (BA.out.trans (bB.mono BA.out.size))
    clear bB sB
    show K (Act.put _ (some 9) _) _
    refine hK.out _ _ eB (fun _ => ?_)
    clear hK
    try simp only [Act.put, List.setIfInBounds_toArray, List.set_cons_zero, List.set_cons_succ]
    refine wpAnyH_ready (rs := [33]) (by kernel_rfl) (by simp) ?_
    refine AllReadyH.cons rfl (fun K hK => ?_) AllReadyH.nil
    refine step_storeV (by rfl) 40 (.tmp 9) (.tmp 43) rfl g9 zSg.vals (synSg l.ow l.ot c.op c.tp seq ack acks fin rst (.slice none 0 0) (.slice A' 0 c')).vals rfl rfl zB rfl (sgc_one _ ⟨_, _, _, rfl⟩ ⟨_, _, _, rfl⟩) sizeSgc ?_
    intro wE zE gE sE
    have BE := Lib.hid (v_below_g BB.out gE BB.out.size hg9'.out)
    have eE := e0.below BE.out
    clear gE sE zB eB
    show K (Act.put _ none _) _
    refine hK.out _ _ eE (fun _ => ?_)
    clear hK
    try simp only [Act.put, List.setIfInBounds_toArray, List.set_cons_zero, List.set_cons_succ]
    refine wpAnyH_done (by kernel_rfl) ?_ _
    refine NoPanic.normal ?_
    have k1 := eE.f7
    have m5 : wE.cell? ⟨cb, 24, none⟩ = some c.sv := (BE.out.cell (by show cb < _; omega)).trans k5
    have m7 : wE.rangeAt lb 8 l.he.vals := fun j v hv => (BE.out.cell (p := ⟨lb, 8 + j, none⟩) (by show lb < _; omega)).trans (k7 j v hv)
    have HBE := Lib.hid (HB3.out.trans (BE.out.mono HB3.out.size))
    have hE2 := Lib.hid BE.out.size
    have hE9 : Hid (g9 < wE.heap.size) := Lib.hid (zE.lt (by rw [Sgc.vals_length]; omega))
    clear eE e0 BE k5 k7
    obtain ⟨sg0, HSG⟩ : ∃ s, s = (synSg l.ow l.ot c.op c.tp seq ack acks fin rst (.slice none 0 0) (.slice A' 0 c')) := ⟨_, rfl⟩
    rw [← HSG] at zE
    have HSG := Lib.hid HSG
    go_wp2_with (first
      | ((with_reducible refine wpList_here ?_); refine wpList_loadV (o := ⟨some 49, _, _, _, _, _⟩) rfl 112 (.tmp 48) rfl lb 8 l.he.vals rfl m7 _ Tryz.underlying112 rfl infoOpn ?_)
      | ((with_reducible refine wpList_here ?_); refine wpList_litG (by rfl) (.tmp 49) 37 112 l.he.vals rfl (litOpn _ _) rfl _ rfl ?_; intro wF zF bF sF; have zE2 := zE.below bF; clear zE; refine wpList_val rfl (.pointer (some ⟨g9, 11, none⟩)) rfl ?_; go_loud (refine LF.wpList_setV rfl 37 (.tmp 51) (.tmp 50) rfl g9 11 sg0.vals (.slice (some ⟨wE.heap.size, 0, none⟩) 1 1) rfl rfl zE2 (by rw [Sgc.vals_length]; omega) rfl sizeOps ?_; intro wG zG gG sG; obtain ⟨n1, BG, zF2⟩ := put_mid hz3 hg8 hg9'.out hE9.out hE2.out HBE.out k1 bF zF gG; have BG := Lib.hid BG))
      | fail)
    obtain ⟨S1, HS1⟩ : ∃ s, s = synSg l.ow l.ot c.op c.tp seq ack acks fin rst (.slice (some ⟨wE.heap.size, 0, none⟩) 1 1) (.slice A' 0 c') := ⟨_, rfl⟩
    have zS : Own wG.drew g9 S1.vals := by
      rw [HSG.out] at zG
      rw [HS1]
      exact zG
    have hS1 : ∀ u ∈ S1.vals, u.oneCell' = true := by
      rw [HS1]
      exact sgc_one _ ⟨_, _, _, rfl⟩ ⟨_, _, _, rfl⟩
    have HS1 := Lib.hid HS1
    have zO : Hid (Own wG.drew wE.heap.size l.he.vals) := Lib.hid zF2
    have hob : Hid (w.heap.size ≤ wE.heap.size) := Lib.hid HBE.out.size
    have h9 : Hid (w.heap.size ≤ g9) := Lib.hid (by have := hg9'.out; omega)
    have BW : Hid (Below w.heap.size w wG.drew) := Lib.hid BG.out.drew
    have e1 : wG.drew.cell? ⟨cb, 24, none⟩ = some c.sv ∧ wG.drew.rangeAt g9 0 S1.vals := ⟨(BW.out.cell hcb).trans HC.out.sv_, zS.range⟩
    have h9l : Hid (g9 < wG.drew.heap.size) := Lib.hid (zS.lt (by rw [Sgc.vals_length]; omega))
    clear k1 m5 m7 HBE hE2 hE9 zF bF sF zE2 zG gG sG n1 zF2 BG zS hg9' hg9 BB BA BD HB3 hz3 hg8 HCL HSG
    try clear eA
    try clear eB
    generalize hwd : wG.drew = wd2 at *
    generalize wE.heap.size = ob at *
    refine wp_region_noPanic ?_
    refine until_start (fun W => W.cell? ⟨cb, 24, none⟩ = some c.sv ∧ W.rangeAt g9 0 S1.vals) 10 (by kernel_rfl) (by rw [hwd]; exact e1) (fun _ => ?_)
    rw [hwd]
    clear hwd
    refine until_take (i := 0) (v := .pointer (some ⟨cb, 0, none⟩)) (some 74) [10] rfl rfl (by kernel_rfl) (by kernel_rfl) (by kernel_rfl) (by kernel_rfl) rfl rfl (fun _ _ _ h => h) (Or.inl ⟨by rfl, fun W hW => by go_simp⟩) e1 ?_
    simp only [Act.put, List.setIfInBounds_toArray, List.set_cons_zero, List.set_cons_succ]
    refine until_take (i := 1) (v := .pointer (some ⟨cb, 0, none⟩)) (some 75) [10] rfl rfl (by kernel_rfl) (by kernel_rfl) (by kernel_rfl) (by kernel_rfl) rfl rfl (fun _ _ _ h => h) (Or.inl ⟨by rfl, fun W hW => by go_simp⟩) e1 ?_
    simp only [Act.put, List.setIfInBounds_toArray, List.set_cons_zero, List.set_cons_succ]
    refine until_take (i := 5) (v := .agg S1.vals.toArray) (some 79) [10] rfl rfl (by kernel_rfl) (by kernel_rfl) (by kernel_rfl) (by kernel_rfl) rfl rfl (fun _ _ _ h => h) (yieldsIf_load_mid (by rfl) 40 (.tmp 9) rfl _ _ rfl _ _ (fun W hW => hW.2) Tryz.underlying40 rfl sizeSgc) e1 ?_
    simp only [Act.put, List.setIfInBounds_toArray, List.set_cons_zero, List.set_cons_succ]
    refine until_take (i := 2) (v := .pointer (some ⟨cb, 0, none⟩)) (some 76) [10] rfl rfl (by kernel_rfl) (by kernel_rfl) (by kernel_rfl) (by kernel_rfl) rfl rfl (fun _ _ _ h => h) (Or.inl ⟨by rfl, fun W hW => by go_simp⟩) e1 ?_
    simp only [Act.put, List.setIfInBounds_toArray, List.set_cons_zero, List.set_cons_succ]
    refine until_take (i := 3) (v := .pointer (some ⟨cb, 24, none⟩)) (some 77) [10] rfl rfl (by kernel_rfl) (by kernel_rfl) (by kernel_rfl) (by kernel_rfl) rfl rfl (fun _ _ _ h => h) (Or.inl ⟨by rfl, fun W hW => by go_simp⟩) e1 ?_
    simp only [Act.put, List.setIfInBounds_toArray, List.set_cons_zero, List.set_cons_succ]
    refine until_take (i := 4) (v := c.sv) (some 78) [10] rfl rfl (by kernel_rfl) (by kernel_rfl) (by kernel_rfl) (by kernel_rfl) rfl rfl (fun _ _ _ h => h) (Or.inl ⟨by rfl, fun W hW => by have hc := hW.1; go_simp⟩) e1 ?_
    simp only [Act.put, List.setIfInBounds_toArray, List.set_cons_zero, List.set_cons_succ]
    refine until_step (i := 6) (by kernel_rfl) rfl rfl (fun K hK => ?_)
    refine step_litG (by rfl) (.tmp 79) 53 40 S1.vals rfl (litSg _ _) rfl _ rfl ?_
    intro w8 x8 b8 t8
    have e8 : w8.cell? ⟨cb, 24, none⟩ = some c.sv ∧ w8.rangeAt g9 0 S1.vals := ⟨(b8.cell (by have := BW.out.size; show cb < _; omega)).trans e1.1, range_below e1.2 b8⟩
    show K (Act.put _ (some 80) _) _
    refine hK.out _ _ e8 (fun _ => ?_)
    clear hK
    try simp only [Act.put, List.setIfInBounds_toArray, List.set_cons_zero, List.set_cons_succ]
    refine until_step (i := 7) (by kernel_rfl) rfl rfl (fun K hK => ?_)
    refine step_appG rfl (.tmp 78) (.tmp 80) 53 40 rfl (.agg zSg.vals.toArray) 13 104 undSgs infoSgc rfl (by decide) (by decide) base c.sv g.length (sgv g) rfl (own_ch2 HR.out (Ch.of_below (fun _ => False) (BW.out.trans (b8.mono BW.out.size))) (fun _ _ e => e)) (some ⟨wd2.heap.size, 0, none⟩) 1 1 S1.vals rfl ⟨rfl, Nat.le_refl _, by omega, hS1, fun _ => ⟨_, _, rfl, x8.range⟩⟩ (by have := HNN.out; omega) (by have := HB.out; have := b8.size; have := BW.out.size; omega) ?_
    intro v9 w9 r9 gg9 o9
    have hnb : c.sv.ownBlock ≠ some cb := fun e => by
      obtain ⟨cs, e'⟩ := ch_ownrow HR.out e
      exact ne_types HC.out e' (by decide)
    have e9 : w9.cell? ⟨cb, 24, none⟩ = some c.sv ∧ w9.rangeAt g9 0 S1.vals := ⟨(gg9.cell_far _ (by have := BW.out.size; have := b8.size; show cb < _; omega) (fun e => hnb e.symm)).trans e8.1, fun j y hy => (gg9.cell_far _ (by have := b8.size; have := h9l.out; show g9 < _; omega) (fun e => by have : g9 < w.heap.size := (own_in HR.out e.symm).2; have := h9.out; omega)).trans (e8.2 j y hy)⟩
    have HD := Lib.hid (put_done HC.out HR.out (BW.out.trans (b8.mono BW.out.size)) (zO.out.below b8) hob.out r9 gg9 o9)
    obtain ⟨A9, k9, rfl, hk9, hm9⟩ := LF.own_slice r9
    generalize hn9 : g.length + 1 = n9 at *
    have c9 := e9.1
    have f9 : w9.frozen? ⟨cb, 24, none⟩ = false := (gg9.frozen_far _ (by have := BW.out.size; have := b8.size; show cb < _; omega) (fun e => hnb e.symm)).trans ((HC.out.below (BW.out.trans (b8.mono BW.out.size))).fz 24)
    clear r9 gg9 o9 x8 e8
    show K (Act.put _ (some 81) _) _
    refine hK.out _ _ e9 (fun _ => ?_)
    clear hK
    try simp only [Act.put, List.setIfInBounds_toArray, List.set_cons_zero, List.set_cons_succ]
    refine until_take (i := 8) (v := .pointer (some ⟨cb, 0, none⟩)) (some 82) [9, 10] rfl rfl (by kernel_rfl) (by kernel_rfl) (by kernel_rfl) (by kernel_rfl) rfl rfl (fun _ _ _ h => h) (Or.inl ⟨by rfl, fun W hW => by go_simp⟩) e9 ?_
    simp only [Act.put, List.setIfInBounds_toArray, List.set_cons_zero, List.set_cons_succ]
    refine until_take (i := 9) (v := .pointer (some ⟨cb, 24, none⟩)) (some 83) [10] rfl rfl (by kernel_rfl) (by kernel_rfl) (by kernel_rfl) (by kernel_rfl) rfl rfl (fun _ _ _ h => h) (Or.inl ⟨by rfl, fun W hW => by go_simp⟩) e9 ?_
    simp only [Act.put, List.setIfInBounds_toArray, List.set_cons_zero, List.set_cons_succ]
    refine until_last (by kernel_rfl) rfl (fun K hK => ?_)
    go_simp
    refine hK.out _ _ ?_
    clear hK
    try simp only [Act.put, List.setIfInBounds_toArray, List.set_cons_zero, List.set_cons_succ]
    refine wpAnyH_done (by kernel_rfl) ?_ _
    refine NoPanic.normal ?_
    go_wp2_with fail
    go_end0
    have HD := HD.out
    subst hn9
    rw [HS1.out] at HD
    exact ⟨rfl, _, ob, _, ⟨_, _, _, rfl⟩, HD.1, HD.2.1, HD.2.2.1, hob.out, HD.2.2.2.1, HD.2.2.2.2.1, HD.2.2.2.2.2⟩
  · refine step_allocV (by rfl) 40 rfl zSg.vals zeroSgc ?_
    intro g9 wB hg9 zB bB sB
    have eB := e0.below bB
    have hg9' : Hid (wd.heap.size ≤ g9) := Lib.hid (by have := hg9.out; have := BD.out.size; omega)
    have BB := Lib.hid (BD.out.trans (bB.mono BD.out.size))
    clear bB sB
    show K (Act.put _ (some 9) _) _
    refine hK.out _ _ eB (fun _ => ?_)
    clear hK
    try simp only [Act.put, List.setIfInBounds_toArray, List.set_cons_zero, List.set_cons_succ]
    refine wpAnyH_ready (rs := [30]) (by kernel_rfl) (by simp) ?_
    refine AllReadyH.cons rfl (fun K hK => ?_) AllReadyH.nil
    go_simp
    refine (HCL.out _ (HB3.out.trans (BB.out.mono HB3.out.size))).mono ?_
    rintro e wA ⟨⟨A', c', rfl⟩, bA⟩
    have eA := eB.below bA
    have BA := Lib.hid (BB.out.trans (bA.mono BB.out.size))
    have zA := zB.below bA
    clear bA
    dsimp only
    refine hK.out _ _ eA (fun _ => ?_)
    clear hK
    try simp only [Act.put, List.setIfInBounds_toArray, List.set_cons_zero, List.set_cons_succ]
    refine held_take (i := 31) (v := .agg (synSg l.ow l.ot c.op c.tp seq ack acks fin rst (.slice none 0 0) (.slice A' 0 c')).vals.toArray) (some 43) rfl rfl (by kernel_rfl) (by kernel_rfl) (by kernel_rfl) (fun _ _ _ h => h) (Or.inl ⟨by rfl, fun W hW => by kernel_rfl⟩) eA ?_
    simp only [Act.put, List.setIfInBounds_toArray, List.set_cons_zero, List.set_cons_succ]
    refine wpAnyH_ready (rs := [33]) (by kernel_rfl) (by simp) ?_
    refine AllReadyH.cons rfl (fun K hK => ?_) AllReadyH.nil
    refine step_storeV (by rfl) 40 (.tmp 9) (.tmp 43) rfl g9 zSg.vals (synSg l.ow l.ot c.op c.tp seq ack acks fin rst (.slice none 0 0) (.slice A' 0 c')).vals rfl rfl zA rfl (sgc_one _ ⟨_, _, _, rfl⟩ ⟨_, _, _, rfl⟩) sizeSgc ?_
    intro wE zE gE sE
    have BE := Lib.hid (v_below_g BA.out gE BA.out.size hg9'.out)
    have eE := e0.below BE.out
    clear gE sE zA eA
    show K (Act.put _ none _) _
    refine hK.out _ _ eE (fun _ => ?_)
    clear hK
    try simp only [Act.put, List.setIfInBounds_toArray, List.set_cons_zero, List.set_cons_succ]
    refine wpAnyH_done (by kernel_rfl) ?_ _
    refine NoPanic.normal ?_
    have k1 := eE.f7
    have m5 : wE.cell? ⟨cb, 24, none⟩ = some c.sv := (BE.out.cell (by show cb < _; omega)).trans k5
    have m7 : wE.rangeAt lb 8 l.he.vals := fun j v hv => (BE.out.cell (p := ⟨lb, 8 + j, none⟩) (by show lb < _; omega)).trans (k7 j v hv)
    have HBE := Lib.hid (HB3.out.trans (BE.out.mono HB3.out.size))
    have hE2 := Lib.hid BE.out.size
    have hE9 : Hid (g9 < wE.heap.size) := Lib.hid (zE.lt (by rw [Sgc.vals_length]; omega))
    clear eE e0 BE k5 k7
    obtain ⟨sg0, HSG⟩ : ∃ s, s = (synSg l.ow l.ot c.op c.tp seq ack acks fin rst (.slice none 0 0) (.slice A' 0 c')) := ⟨_, rfl⟩
    rw [← HSG] at zE
    have HSG := Lib.hid HSG
    go_wp2_with (first
      | ((with_reducible refine wpList_here ?_); refine wpList_loadV (o := ⟨some 49, _, _, _, _, _⟩) rfl 112 (.tmp 48) rfl lb 8 l.he.vals rfl m7 _ Tryz.underlying112 rfl infoOpn ?_)
      | ((with_reducible refine wpList_here ?_); refine wpList_litG (by rfl) (.tmp 49) 37 112 l.he.vals rfl (litOpn _ _) rfl _ rfl ?_; intro wF zF bF sF; have zE2 := zE.below bF; clear zE; refine wpList_val rfl (.pointer (some ⟨g9, 11, none⟩)) rfl ?_; go_loud (refine LF.wpList_setV rfl 37 (.tmp 51) (.tmp 50) rfl g9 11 sg0.vals (.slice (some ⟨wE.heap.size, 0, none⟩) 1 1) rfl rfl zE2 (by rw [Sgc.vals_length]; omega) rfl sizeOps ?_; intro wG zG gG sG; obtain ⟨n1, BG, zF2⟩ := put_mid hz3 hg8 hg9'.out hE9.out hE2.out HBE.out k1 bF zF gG; have BG := Lib.hid BG))
      | fail)
    obtain ⟨S1, HS1⟩ : ∃ s, s = synSg l.ow l.ot c.op c.tp seq ack acks fin rst (.slice (some ⟨wE.heap.size, 0, none⟩) 1 1) (.slice A' 0 c') := ⟨_, rfl⟩
    have zS : Own wG.drew g9 S1.vals := by
      rw [HSG.out] at zG
      rw [HS1]
      exact zG
    have hS1 : ∀ u ∈ S1.vals, u.oneCell' = true := by
      rw [HS1]
      exact sgc_one _ ⟨_, _, _, rfl⟩ ⟨_, _, _, rfl⟩
    have HS1 := Lib.hid HS1
    have zO : Hid (Own wG.drew wE.heap.size l.he.vals) := Lib.hid zF2
    have hob : Hid (w.heap.size ≤ wE.heap.size) := Lib.hid HBE.out.size
    have h9 : Hid (w.heap.size ≤ g9) := Lib.hid (by have := hg9'.out; omega)
    have BW : Hid (Below w.heap.size w wG.drew) := Lib.hid BG.out.drew
    have e1 : wG.drew.cell? ⟨cb, 24, none⟩ = some c.sv ∧ wG.drew.rangeAt g9 0 S1.vals := ⟨(BW.out.cell hcb).trans HC.out.sv_, zS.range⟩
    have h9l : Hid (g9 < wG.drew.heap.size) := Lib.hid (zS.lt (by rw [Sgc.vals_length]; omega))
    clear k1 m5 m7 HBE hE2 hE9 zF bF sF zE2 zG gG sG n1 zF2 BG zS hg9' hg9 BB BA BD HB3 hz3 hg8 HCL HSG
    try clear eA
    try clear eB
    generalize hwd : wG.drew = wd2 at *
    generalize wE.heap.size = ob at *
    refine wp_region_noPanic ?_
    refine until_start (fun W => W.cell? ⟨cb, 24, none⟩ = some c.sv ∧ W.rangeAt g9 0 S1.vals) 10 (by kernel_rfl) (by rw [hwd]; exact e1) (fun _ => ?_)
    rw [hwd]
    clear hwd
    refine until_take (i := 0) (v := .pointer (some ⟨cb, 0, none⟩)) (some 74) [10] rfl rfl (by kernel_rfl) (by kernel_rfl) (by kernel_rfl) (by kernel_rfl) rfl rfl (fun _ _ _ h => h) (Or.inl ⟨by rfl, fun W hW => by go_simp⟩) e1 ?_
    simp only [Act.put, List.setIfInBounds_toArray, List.set_cons_zero, List.set_cons_succ]
    refine until_take (i := 1) (v := .pointer (some ⟨cb, 0, none⟩)) (some 75) [10] rfl rfl (by kernel_rfl) (by kernel_rfl) (by kernel_rfl) (by kernel_rfl) rfl rfl (fun _ _ _ h => h) (Or.inl ⟨by rfl, fun W hW => by go_simp⟩) e1 ?_
    simp only [Act.put, List.setIfInBounds_toArray, List.set_cons_zero, List.set_cons_succ]
    refine until_take (i := 5) (v := .agg S1.vals.toArray) (some 79) [10] rfl rfl (by kernel_rfl) (by kernel_rfl) (by kernel_rfl) (by kernel_rfl) rfl rfl (fun _ _ _ h => h) (yieldsIf_load_mid (by rfl) 40 (.tmp 9) rfl _ _ rfl _ _ (fun W hW => hW.2) Tryz.underlying40 rfl sizeSgc) e1 ?_
    simp only [Act.put, List.setIfInBounds_toArray, List.set_cons_zero, List.set_cons_succ]
    refine until_take (i := 2) (v := .pointer (some ⟨cb, 0, none⟩)) (some 76) [10] rfl rfl (by kernel_rfl) (by kernel_rfl) (by kernel_rfl) (by kernel_rfl) rfl rfl (fun _ _ _ h => h) (Or.inl ⟨by rfl, fun W hW => by go_simp⟩) e1 ?_
    simp only [Act.put, List.setIfInBounds_toArray, List.set_cons_zero, List.set_cons_succ]
    refine until_take (i := 3) (v := .pointer (some ⟨cb, 24, none⟩)) (some 77) [10] rfl rfl (by kernel_rfl) (by kernel_rfl) (by kernel_rfl) (by kernel_rfl) rfl rfl (fun _ _ _ h => h) (Or.inl ⟨by rfl, fun W hW => by go_simp⟩) e1 ?_
    simp only [Act.put, List.setIfInBounds_toArray, List.set_cons_zero, List.set_cons_succ]
    refine until_take (i := 4) (v := c.sv) (some 78) [10] rfl rfl (by kernel_rfl) (by kernel_rfl) (by kernel_rfl) (by kernel_rfl) rfl rfl (fun _ _ _ h => h) (Or.inl ⟨by rfl, fun W hW => by have hc := hW.1; go_simp⟩) e1 ?_
    simp only [Act.put, List.setIfInBounds_toArray, List.set_cons_zero, List.set_cons_succ]
    refine until_step (i := 6) (by kernel_rfl) rfl rfl (fun K hK => ?_)
    refine step_litG (by rfl) (.tmp 79) 53 40 S1.vals rfl (litSg _ _) rfl _ rfl ?_
    intro w8 x8 b8 t8
    have e8 : w8.cell? ⟨cb, 24, none⟩ = some c.sv ∧ w8.rangeAt g9 0 S1.vals := ⟨(b8.cell (by have := BW.out.size; show cb < _; omega)).trans e1.1, range_below e1.2 b8⟩
    show K (Act.put _ (some 80) _) _
    refine hK.out _ _ e8 (fun _ => ?_)
    clear hK
    try simp only [Act.put, List.setIfInBounds_toArray, List.set_cons_zero, List.set_cons_succ]
    refine until_step (i := 7) (by kernel_rfl) rfl rfl (fun K hK => ?_)
    refine step_appG rfl (.tmp 78) (.tmp 80) 53 40 rfl (.agg zSg.vals.toArray) 13 104 undSgs infoSgc rfl (by decide) (by decide) base c.sv g.length (sgv g) rfl (own_ch2 HR.out (Ch.of_below (fun _ => False) (BW.out.trans (b8.mono BW.out.size))) (fun _ _ e => e)) (some ⟨wd2.heap.size, 0, none⟩) 1 1 S1.vals rfl ⟨rfl, Nat.le_refl _, by omega, hS1, fun _ => ⟨_, _, rfl, x8.range⟩⟩ (by have := HNN.out; omega) (by have := HB.out; have := b8.size; have := BW.out.size; omega) ?_
    intro v9 w9 r9 gg9 o9
    have hnb : c.sv.ownBlock ≠ some cb := fun e => by
      obtain ⟨cs, e'⟩ := ch_ownrow HR.out e
      exact ne_types HC.out e' (by decide)
    have e9 : w9.cell? ⟨cb, 24, none⟩ = some c.sv ∧ w9.rangeAt g9 0 S1.vals := ⟨(gg9.cell_far _ (by have := BW.out.size; have := b8.size; show cb < _; omega) (fun e => hnb e.symm)).trans e8.1, fun j y hy => (gg9.cell_far _ (by have := b8.size; have := h9l.out; show g9 < _; omega) (fun e => by have : g9 < w.heap.size := (own_in HR.out e.symm).2; have := h9.out; omega)).trans (e8.2 j y hy)⟩
    have HD := Lib.hid (put_done HC.out HR.out (BW.out.trans (b8.mono BW.out.size)) (zO.out.below b8) hob.out r9 gg9 o9)
    obtain ⟨A9, k9, rfl, hk9, hm9⟩ := LF.own_slice r9
    generalize hn9 : g.length + 1 = n9 at *
    have c9 := e9.1
    have f9 : w9.frozen? ⟨cb, 24, none⟩ = false := (gg9.frozen_far _ (by have := BW.out.size; have := b8.size; show cb < _; omega) (fun e => hnb e.symm)).trans ((HC.out.below (BW.out.trans (b8.mono BW.out.size))).fz 24)
    clear r9 gg9 o9 x8 e8
    show K (Act.put _ (some 81) _) _
    refine hK.out _ _ e9 (fun _ => ?_)
    clear hK
    try simp only [Act.put, List.setIfInBounds_toArray, List.set_cons_zero, List.set_cons_succ]
    refine until_take (i := 8) (v := .pointer (some ⟨cb, 0, none⟩)) (some 82) [9, 10] rfl rfl (by kernel_rfl) (by kernel_rfl) (by kernel_rfl) (by kernel_rfl) rfl rfl (fun _ _ _ h => h) (Or.inl ⟨by rfl, fun W hW => by go_simp⟩) e9 ?_
    simp only [Act.put, List.setIfInBounds_toArray, List.set_cons_zero, List.set_cons_succ]
    refine until_take (i := 9) (v := .pointer (some ⟨cb, 24, none⟩)) (some 83) [10] rfl rfl (by kernel_rfl) (by kernel_rfl) (by kernel_rfl) (by kernel_rfl) rfl rfl (fun _ _ _ h => h) (Or.inl ⟨by rfl, fun W hW => by go_simp⟩) e9 ?_
    simp only [Act.put, List.setIfInBounds_toArray, List.set_cons_zero, List.set_cons_succ]
    refine until_last (by kernel_rfl) rfl (fun K hK => ?_)
    go_simp
    refine hK.out _ _ ?_
    clear hK
    try simp only [Act.put, List.setIfInBounds_toArray, List.set_cons_zero, List.set_cons_succ]
    refine wpAnyH_done (by kernel_rfl) ?_ _
    refine NoPanic.normal ?_
    go_wp2_with fail
    go_end0
    have HD := HD.out
    subst hn9
    rw [HS1.out] at HD
    exact ⟨rfl, _, ob, _, ⟨_, _, _, rfl⟩, HD.1, HD.2.1, HD.2.2.1, hob.out, HD.2.2.2.1, HD.2.2.2.2.1, HD.2.2.2.2.2⟩
end
end Go.Proofs.YtlcegchdkigibaaGreatDoor

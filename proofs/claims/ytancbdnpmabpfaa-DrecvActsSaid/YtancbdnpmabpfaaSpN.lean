/- A set's Drop. Conditions: the set stands; whole numbers of 64 bits. -/
import Derived.Test.YtancbdnpmabpfaaSpK
import Derived.Test.YtancbdnpmabpfaaUnt
namespace Go.Proofs.Ytancbdnpmabpfaa
set_option linter.unusedVariables false
set_option linter.unusedSimpArgs false
open Go.RowKit Go.Lib

theorem below_of_drewN {B : Nat} {w w' : World} {n : Nat} (h : Below B (w.drewN n) w') : Below B w w' := ⟨h.os, h.tape, h.output, h.size, h.block⟩
/-- The first ones of the runs. -/
theorem Row.to_ {w : World} {A : Option Addr} {n c : Nat} {l : List Rn} (h : Row w (.slice A n c) l) {j : Nat} (hj : j ≤ n) : ∃ A' : Option Addr, (∀ W, (Instr.slice 56 (.slice A n c) none (some (.int .i64 (j : Int))) none).run Try.prog W = .ok (.slice A' j c) W) ∧ Row w (.slice A' j c) (l.take j) := by
  obtain ⟨A2, c2, hv, hc1, hc2⟩ := h.slice
  injection hv with e1 e2 e3
  subst e1; subst e2; subst e3
  refine ⟨if c = 0 then A else A.map (·.add 0), fun W => ?_, ?_⟩
  · rw [run_slice_h (P := Try.prog) W 56 A l.length c elemRun .i64 (j : Int) (by omega) (by omega), sizeOfRun]
    simp [Result.andThen, sliced]
  · rcases h with ⟨hv, rfl⟩ | ⟨g, o, c3, cs, hv, hb, h1, h2, h3, h4⟩
    · injection hv with e1 e2 e3
      subst e1
      subst e3
      simp at hj
      subst hj
      exact .inl ⟨rfl, rfl⟩
    · injection hv with e1 e2 e3
      subst e1
      subst e3
      have hlen : (l.take j).length = j := by simp; omega
      refine .inr ⟨g, o, c, cs, by rw [hlen]; by_cases e : c = 0 <;> simp [e, Addr.add_mid], hb, by rw [hlen]; omega, by omega, by omega, ?_⟩
      rw [← List.take_append_drop j l, rv_append, rangeAt_append] at h4
      exact h4.1
/-- The last ones of the runs. -/
theorem Row.from_ {w : World} {A : Option Addr} {n c : Nat} {l : List Rn} (h : Row w (.slice A n c) l) {i : Nat} (hi : i ≤ n) : ∃ A' : Option Addr, (∀ W, (Instr.slice 56 (.slice A n c) (some (.int .i64 (i : Int))) none none).run Try.prog W = .ok (.slice A' (n - i) (c - i)) W) ∧ Row w (.slice A' (n - i) (c - i)) (l.drop i) ∧ ∀ k, (Value.slice A' (n - i) (c - i)).ownBlock = some k → (Value.slice A n c).ownBlock = some k := by
  obtain ⟨A2, c2, hv, hc1, hc2⟩ := h.slice
  injection hv with e1 e2 e3
  subst e1; subst e2; subst e3
  refine ⟨if c = i then A else A.map (·.add (i * 2)), fun W => ?_, ?_, fun k hk => ?_⟩
  · rw [run_slice_l (P := Try.prog) W 56 A l.length c elemRun .i64 (i : Int) (by omega) (by omega), sizeOfRun]
    simp [Result.andThen, sliced]
  · rcases h with ⟨hv, rfl⟩ | ⟨g, o, c3, cs, hv, hb, h1, h2, h3, h4⟩
    · injection hv with e1 e2 e3
      subst e1
      subst e3
      simp at hi
      subst hi
      exact .inl ⟨rfl, rfl⟩
    · injection hv with e1 e2 e3
      subst e1
      subst e3
      have hlen : (l.drop i).length = l.length - i := by simp
      by_cases e : c = i
      · have hnil : l.drop i = [] := List.length_eq_zero_iff.1 (by rw [hlen]; omega)
        rw [if_pos e, hnil]
        exact .inr ⟨g, o, c - i, cs, by rw [show l.length - i = 0 from by omega]; rfl, hb, by simp, by omega, by omega, fun j v hv => by simp [rv] at hv⟩
      · rw [if_neg e]
        refine .inr ⟨g, o + i * 2, c - i, cs, by rw [hlen]; simp [Addr.add_mid], hb, by rw [hlen]; omega, by omega, by omega, ?_⟩
        rw [← List.take_append_drop i l, rv_append, rangeAt_append, rv_length] at h4
        have := h4.2
        rwa [show (l.take i).length = i from by simp; omega] at this
  · cases A with
    | none => by_cases e : c = i <;> simp [e, Value.ownBlock] at hk
    | some a =>
      by_cases e : c = i
      · rw [if_pos e] at hk; exact hk
      · rw [if_neg e] at hk
        obtain ⟨ab, ao, asp⟩ := a
        have h0 : some (((⟨ab, ao, asp⟩ : Addr).add (i * 2)).block) = some k := hk
        have h1 : ((⟨ab, ao, asp⟩ : Addr).add (i * 2)).block = ab := by unfold Addr.add; split <;> rfl
        rw [h1] at h0
        exact h0
/-- The first run of a row is another one. -/
theorem Row.head {w : World} {g o n c : Nat} {r : Rn} {t : List Rn} (h : Row w (.slice (some ⟨g, o, none⟩) n c) (r :: t)) (x y : Int) : Row ((w.setCell ⟨g, o, none⟩ (.int .i64 x)).setCell ⟨g, o + 1, none⟩ (.int .i64 y)) (.slice (some ⟨g, o, none⟩) n c) ((x, y) :: t) := by
  rcases h with ⟨hv, _⟩ | ⟨g2, o2, c2, cs, hv, hb, h1, h2, h3, h4⟩
  · cases hv
  · injection hv with e1 e2 e3
    injection e1 with e1
    injection e1 with e1 e4
    subst e1; subst e2; subst e3; subst e4
    have hB : Blk w g o c := ⟨cs, hb, h3⟩
    show Row (w.setCells g o (rv [(x, y)])) _ _
    refine (hB.set _ _).row (by simp) h1 h2 ?_
    rw [show rv ((x, y) :: t) = rv [(x, y)] ++ rv t from rfl, rangeAt_append]
    rw [show rv (r :: t) = rv [r] ++ rv t from rfl, rangeAt_append] at h4
    exact ⟨World.rangeAt_setCells_same _ _ _ _ (by
      have := hB.there 0 2 (by simp at h1; omega)
      simpa [rv] using this), World.rangeAt_setCells_apart h4.2 _ _ _ (.inr (.inr (by simp [rv])))⟩

/-- What Drop leaves. -/
def DropP (w : World) (sb : Nat) (v : Value) (l : List Rn) (x : Int) (e : Ending) (w' : World) : Prop :=
  ∃ (v' : Value) (l' : List Rn), e = .returned (.int .i64 (many l - many l')) ∧ St w' sb v' l' ∧ DropR l x l' ∧ 0 ≤ many l - many l' ∧ Ch w w' (fun k => k = sb ∨ v.ownBlock = some k) ∧ ∀ k, v'.ownBlock = some k → v.ownBlock = some k ∨ w.heap.size ≤ k

/-- What is left of the runs. -/
def dropL (B : List Rn) (x : Int) : List Rn := match B with | [] => [] | r :: t => if r.1 < x then (x, r.1 + r.2 - x) :: t else r :: t
theorem drop_ok2 {A B : List Rn} {b : Int} (h : Tid 0 (A ++ B)) (hA : ∀ r ∈ A, r.1 + r.2 ≤ b) (hB : ∀ r ∈ B, b < r.1 + r.2) : DropR (A ++ B) b (dropL B b) := by
  cases B with
  | nil => exact drop_ok h hA hB
  | cons r t => exact drop_ok h hA hB
theorem drop_math {l : List Rn} (ht : Tid 0 l) {x : Int} {i : Nat} (hi : i ≤ l.length)
    (i1 : ∀ t, t < i → decide (x < (l.getD t (0, 0)).1 + (l.getD t (0, 0)).2) = false) (i2 : ∀ t, i ≤ t → t < l.length → decide (x < (l.getD t (0, 0)).1 + (l.getD t (0, 0)).2) = true) :
    DropR l x (dropL (l.drop i) x) ∧ many l = many (l.take i) + many (l.drop i) ∧ Tid 0 (l.take i) ∧ Tid 0 (l.drop i) ∧ 0 ≤ many (l.take i) ∧ (∀ r ∈ l.drop i, x < r.1 + r.2) := by
  simp only [decide_eq_false_iff_not, decide_eq_true_eq] at *
  have hs := List.take_append_drop i l
  have ht2 := ht
  rw [← hs, tid_append] at ht2
  have hB : ∀ r ∈ l.drop i, x < r.1 + r.2 := fun r hr => by
    obtain ⟨k, h1, h2, rfl⟩ := mem_drop hr
    exact i2 k h1 h2
  have q : DropR (l.take i ++ l.drop i) x (dropL (l.drop i) x) := drop_ok2 (A := l.take i) (B := l.drop i) (b := x) (by rw [hs]; exact ht) (fun r hr => by
    obtain ⟨k, h1, h2, rfl⟩ := mem_take hr
    have := i1 k h1
    omega) hB
  rw [hs] at q
  exact ⟨q, by rw [← many_append, hs], ht2.1, tid_mono ht2.2 (fin_ge ht2.1), many_nonneg ht2.1, hB⟩

set_option maxRecDepth 8000 in
set_option maxHeartbeats 4000000 in
theorem Drop_any {w : World} {sb : Nat} {v : Value} {l : List Rn} (H : St w sb v l) {x : Int} (hx : isI x) :
    Calls Try.prog 50 #[ptr sb, .int .i64 x] w (DropP w sb v l x) := by
  have HADD : Hid (∀ e w', (∃ (v' : Value) (l' : List Rn), e = .returned (.int .i64 (many l - many l')) ∧ St w' sb v' l' ∧ DropR l x l' ∧ 0 ≤ many l - many l' ∧ Ch w w' (fun k => k = sb ∨ v.ownBlock = some k) ∧ ∀ k, v'.ownBlock = some k → v.ownBlock = some k ∨ w.heap.size ≤ k) → DropP w sb v l x e w') := Lib.hid (fun e w' h => h)
  have HH := Lib.hid H
  have hb1 := heap_alloc_new w (.cells #[.int .i64 x] 3)
  have HB2 := Lib.hid (below_a w (.cells #[.int .i64 x] 3))
  have HS2 := Lib.hid (H.below HB2.out)
  clear H
  unfold ptr
  go_enter Try.func50, Try.ntmps50
  go_upto_region 3 with (fail)
  generalize w.alloc (.cells #[.int .i64 x] 3) = w2 at *
  have HX : Hid (∀ V, Below w2.heap.size w2 V → V.cell? ⟨w.heap.size, 0, none⟩ = some (.int .i64 x)) := Lib.hid (fun V hb => keepc hb (by rw [cell_of_row _ _ _ _ _ _ hb1]; rfl))
  have e1 : ∀ args w, (callFunc 64 args).run Try.prog w = .ok (.enter 64 args) w := enters_of Try.func64 (by kernel_rfl) rfl
  have F1 := Lib.hid (search_any HS2.out 64 #[ptr w.heap.size] e1 (fun r => decide (x < r.1 + r.2)) (fun W hb r hr => clD W w.heap.size x r hr (HX.out W hb)) (mono_endlt HS2.out.tid x))
  clear e1 hb1
  unfold ptr at F1
  go_wp2_with fail
  refine (F1.out).mono ?_
  rintro e w4 ⟨i, rfl, p1, p2, p3, b4⟩
  obtain ⟨m1, m2, m3, m4, m5, m6⟩ := drop_math HS2.out.tid p1 p2 p3
  have HS4 := Lib.hid (HS2.out.below b4)
  have HW4 := Lib.hid (HB2.out.trans (b4.mono HB2.out.size))
  have x4 := HX.out w4 b4
  clear p2 p3 F1 HX HS2 b4
  obtain ⟨A, c, hv, hc1, hc2⟩ := HS4.out.row.slice
  have hrow := HS4.out.row
  rw [hv] at hrow
  have c4 := HS4.out.c0
  rw [hv] at c4
  have hll := HS4.out.len
  obtain ⟨A1, hsl1, hrow1⟩ := hrow.to_ p1
  obtain ⟨A2, hsl2, hrow2, hown2⟩ := hrow.from_ p1
  have HM := Lib.hid (many_any hrow1 (Int.le_refl 0) (by omega) m3 (by simp; omega))
  have hx4 : w.heap.size < w4.heap.size := World.block_lt_of_cell? _ _ x4
  have HOWN : Hid (∀ k, v.ownBlock = some k → k < w.heap.size) := Lib.hid (fun k hk => HH.out.row.lt hk)
  have HSB : Hid (sb < w.heap.size) := Lib.hid HH.out.lt
  subst hv
  have HR2 := Lib.hid hrow2
  have HO2 := Lib.hid hown2
  have HMA := Lib.hid (And.intro m1 (And.intro m2 (And.intro m4 (And.intro m5 m6))))
  have hbk := HS4.out.blk
  have HBK := Lib.hid hbk
  have pf := frozen_of hbk
  clear hrow hrow1 hrow2 hown2 m1 m2 m3 m4 m6 hbk
  have hdl : (l.drop i).length = l.length - i := by simp
  have hmt := many_le (tid_take HS4.out.tid i)
  have hmt2 := fin_top (tid_take HS4.out.tid i) (by omega)
  generalize many (l.take i) = mt at *
  generalize hln : l.length = n at *
  have HL := Lib.hid hln
  go_wp2_with fail
  refine (HM.out).mono ?_
  rintro e w5 ⟨rfl, b5⟩
  have HB5 := Lib.hid (HW4.out.trans (b5.mono HW4.out.size))
  have x5 := keepc b5 x4
  have c5 := keepc b5 c4
  have hbk5 := (b5.block sb (Array.getElem?_eq_some_iff.1 HBK.out).1).trans HBK.out
  have pf5 := frozen_of hbk5
  have HR5 := Lib.hid (HR2.out.below b5)
  have h45 := b5.size
  have y5 : (w5.setCell ⟨sb, 0, none⟩ (.slice A2 (n - i) (c - i))).cell? ⟨sb, 0, none⟩ = some (.slice A2 (n - i) (c - i)) := World.cell?_setCell_same _ _ _ c5
  have z5 : (w5.setCell ⟨sb, 0, none⟩ (.slice A2 (n - i) (c - i))).cell? ⟨w.heap.size, 0, none⟩ = some (.int .i64 x) := (World.cell?_setCell_other _ _ _ _ (fun e => by have h1 : sb = w.heap.size := congrArg Addr.block e; have := HSB.out; omega)).trans x5
  have hfar2 : (Value.slice A2 (n - i) (c - i)).ownBlock ≠ some sb := fun e => HS4.out.far (HO2.out sb e)
  have hC : Ch w (w5.setCell ⟨sb, 0, none⟩ (.slice A2 (n - i) (c - i))) (fun k => k = sb ∨ (Value.slice A n c).ownBlock = some k) := (Ch.of_below (fun k => k = sb ∨ (Value.slice A n c).ownBlock = some k) HB5.out).setCell (p := ⟨sb, 0, none⟩) (fun _ => .inl rfl) _
  have hrow6 : Row (w5.setCell ⟨sb, 0, none⟩ (.slice A2 (n - i) (c - i))) (.slice A2 (n - i) (c - i)) (l.drop i) := HR5.out.ch ((Ch.refl w5 (fun k => k = sb)).setCell (p := ⟨sb, 0, none⟩) (fun _ => rfl) _) (fun g hg e => hfar2 (by rw [hg, e]))
  have hblk6 : (w5.setCell ⟨sb, 0, none⟩ (.slice A2 (n - i) (c - i))).heap[sb]? = some (.cells #[.slice A2 (n - i) (c - i)] 58 (0, 0)) := by simp [World.setCell, Array.getElem?_modify, hbk5]
  have HC6 := Lib.hid hC
  have HROW6 := Lib.hid hrow6
  have HBLK6 := Lib.hid hblk6
  have HFAR := Lib.hid hfar2
  have HY5 := Lib.hid (And.intro y5 z5)
  clear x4 c4 b5 hC hrow6 hblk6 hfar2 pf y5 z5
  go_upto_region 6 with (fail)
  generalize w5.setCell ⟨sb, 0, none⟩ (.slice A2 (n - i) (c - i)) = w6 at *
  obtain ⟨y6, z6⟩ := HY5.out
  clear x5 c5 hbk5 pf5 HR5 HY5
  have hin : i ≤ n := p1
  cases hdr : l.drop i with
  | nil =>
    rw [hdr] at hdl
    have hni : n = i := by simp at hdl; omega
    have HF : Hid (∀ nq, DropP w sb (.slice A n c) l x (.returned (.int .i64 mt)) (w6.drewN nq)) := Lib.hid (fun nq => HADD.out _ _ ⟨_, [], by rw [HMA.out.2.1, hdr, many_nil]; simp, ⟨HBLK6.out, by have := HROW6.out; rw [hdr] at this; exact this, HFAR.out, trivial⟩, by have := HMA.out.1; rw [hdr] at this; exact this, by rw [HMA.out.2.1, hdr, many_nil]; omega, HC6.out.drewN nq, fun k hk => .inl (HO2.out k hk)⟩)
    have hd : decide ((0 : Int) < ((n - i : Nat) : Int)) = false := by simp; omega
    have hd2 : decide (0 < n - i) = false := by simp; omega
    clear HADD HMA HROW6
    go_quiet (fail)
    go_wp2_with fail
    go_ret
    exact HF.out nq
  | cons r t =>
    rw [hdr] at hdl
    have hni : i < n := by simp at hdl; omega
    have hd : decide ((0 : Int) < ((n - i : Nat) : Int)) = true := by simp; omega
    have hd2 : decide (0 < n - i) = true := by simp; omega
    have hlen : (r :: t).length = n - i := hdl
    have hrow := HROW6.out
    rw [hdr] at hrow
    obtain ⟨g, o, rfl, k0, k1, kf⟩ := hrow.cells (j := 0) (by simp)
    have y0 : w6.cell? ⟨g, o, none⟩ = some (.int .i64 r.1) := by simpa using k0
    have y1 : w6.cell? ⟨g, o + 1, none⟩ = some (.int .i64 r.2) := by simpa using k1
    have hr := HMA.out.2.2.1
    rw [hdr] at hr
    obtain ⟨t1, t2, t3, t4⟩ := hr
    have hlast := HMA.out.2.2.2.2 r (by rw [hdr]; exact List.mem_cons_self ..)
    have hmany : many l = mt + (r.2 + many t) := by rw [HMA.out.2.1, hdr, many_cons]
    have hdrop := HMA.out.1
    rw [hdr] at hdrop
    have HROW := Lib.hid hrow
    clear k0 k1 hrow
    obtain ⟨ra, rb⟩ := r
    dsimp only at *
    have hni1 : (0 : Int) < ((n - i : Nat) : Int) := by omega
    have hni2 : 0 < n - i := by omega
    by_cases hlt : ra < x
    · have hd3 : decide (ra < x) = true := decide_eq_true hlt
      have hw1 : IntKind.i64.wrap (x - ra) = x - ra := by rw [IntKind.wrap_i64]; omega
      have hw2 : IntKind.i64.wrap (mt + (x - ra)) = mt + (x - ra) := by rw [IntKind.wrap_i64]; omega
      have hw3 : IntKind.i64.wrap (ra + rb - x) = ra + rb - x := by rw [IntKind.wrap_i64]; omega
      have HDR : Hid (DropR l x ((x, ra + rb - x) :: t)) := Lib.hid (by have := hdrop; unfold dropL at this; dsimp only at this; rwa [if_pos hlt] at this)
      have HM2 : Hid (many l - many ((x, ra + rb - x) :: t) = mt + (x - ra)) := Lib.hid (by rw [hmany, many_cons]; dsimp only; omega)
      have HEND := Lib.hid (fun w => end_any (ra, rb) ⟨t1, by show 0 ≤ rb; omega, t3⟩ w)
      unfold rg at HEND
      dsimp only at HEND
      have hge : 0 ≤ mt + (x - ra) := by omega
      clear hdrop hmany
      go_quiet (fail)
      go_upto_region 8 with (fail)
      go_quiet (fail)
      go_upto_region 9 with (fail)
      have w9 : ∀ nq : Nat, Below w6.heap.size w6 (w6.drewN nq) := fun nq => below_dn (Below.refl _ _) nq
      have HFZ : Hid (∀ V, Below w6.heap.size w6 V → ∀ j, V.frozen? ⟨g, j, none⟩ = false) := Lib.hid (fun V hb j => by
        have hg := HROW.out.lt rfl
        have : V.heap[g]? = w6.heap[g]? := hb.block g hg
        have h0 := kf j
        simp only [World.frozen?] at h0 ⊢
        rw [this]
        exact h0)
      have HEX : Hid (∀ V, Below w6.heap.size w6 V → DropP w sb (.slice A n c) l x (.returned (.int .i64 (mt + (x - ra)))) ((V.setCell ⟨g, o, none⟩ (.int .i64 x)).setCell ⟨g, o + 1, none⟩ (.int .i64 (ra + rb - x)))) := Lib.hid (fun V hb => by
        have hgs : g ≠ sb := fun e => HFAR.out (by rw [e]; rfl)
        have hbV := (hb.block sb (Array.getElem?_eq_some_iff.1 HBLK6.out).1).trans HBLK6.out
        refine HADD.out _ _ ⟨_, (x, ra + rb - x) :: t, by rw [HM2.out], ⟨?_, (HROW.out.below hb).head x (ra + rb - x), HFAR.out, HDR.out.tid⟩, HDR.out, by rw [HM2.out]; exact hge, ((HC6.out.then_ (Ch.of_below _ hb)).setCell (p := ⟨g, o, none⟩) (fun _ => .inr (HO2.out g rfl)) _).setCell (p := ⟨g, o + 1, none⟩) (fun _ => .inr (HO2.out g rfl)) _, fun k hk => .inl (HO2.out k hk)⟩
        rw [Below.heap_setCell _ _ _ _ (fun e => hgs e.symm), Below.heap_setCell _ _ _ _ (fun e => hgs e.symm)]
        exact hbV)
      have s5 := And.intro z6 (And.intro y0 y1)
      clear w9 HADD HMA HROW HM2 HDR kf hd hd2 hd3
      refine wp_region_noPanic ?_
      refine until_start (fun W => W.cell? ⟨w.heap.size, 0, none⟩ = some (.int .i64 x) ∧ W.cell? ⟨g, o, none⟩ = some (.int .i64 ra) ∧ W.cell? ⟨g, o + 1, none⟩ = some (.int .i64 rb)) 10 (by kernel_rfl) s5 (fun _ => ?_)
      refine until_take (i := 0) (v := .pointer (some ⟨g, o, none⟩)) (some 59) [9, 10] rfl rfl (by kernel_rfl) (by kernel_rfl) (by kernel_rfl) (by kernel_rfl) rfl rfl (fun _ _ _ h => h) (Or.inl ⟨by rfl, fun W hW => by go_simp⟩) s5 ?_
      simp only [Act.put, List.setIfInBounds_toArray, List.set_cons_zero, List.set_cons_succ]
      refine until_take (i := 1) (v := .int .i64 x) (some 60) [8, 10] rfl rfl (by kernel_rfl) (by kernel_rfl) (by kernel_rfl) (by kernel_rfl) rfl rfl (fun _ _ _ h => h) (Or.inl ⟨by rfl, fun W hW => by have hc := hW.1; go_simp⟩) s5 ?_
      simp only [Act.put, List.setIfInBounds_toArray, List.set_cons_zero, List.set_cons_succ]
      refine until_take (i := 2) (v := .pointer (some ⟨g, o, none⟩)) (some 61) [3, 4, 5, 7, 8, 10] rfl rfl (by kernel_rfl) (by kernel_rfl) (by kernel_rfl) (by kernel_rfl) rfl rfl (fun _ _ _ h => h) (Or.inl ⟨by rfl, fun W hW => by go_simp⟩) s5 ?_
      simp only [Act.put, List.setIfInBounds_toArray, List.set_cons_zero, List.set_cons_succ]
      refine until_take (i := 3) (v := .pointer (some ⟨g, o, none⟩)) (some 62) [4, 5, 7, 8, 10] rfl rfl (by kernel_rfl) (by kernel_rfl) (by kernel_rfl) (by kernel_rfl) rfl rfl (fun _ _ _ h => h) (Or.inl ⟨by rfl, fun W hW => by go_simp⟩) s5 ?_
      simp only [Act.put, List.setIfInBounds_toArray, List.set_cons_zero, List.set_cons_succ]
      refine until_take (i := 4) (v := .agg #[.int .i64 ra, .int .i64 rb]) (some 63) [5, 7, 8, 10] rfl rfl (by kernel_rfl) (by kernel_rfl) (by kernel_rfl) (by kernel_rfl) rfl rfl (fun _ _ _ h => h) (Or.inl ⟨by rfl, fun W hW => by obtain ⟨_, q0, q1⟩ := hW; go_simp⟩) s5 ?_
      simp only [Act.put, List.setIfInBounds_toArray, List.set_cons_zero, List.set_cons_succ]
      refine until_take (i := 6) (v := .int .i64 x) (some 65) [7, 8, 10] rfl rfl (by kernel_rfl) (by kernel_rfl) (by kernel_rfl) (by kernel_rfl) rfl rfl (fun _ _ _ h => h) (Or.inl ⟨by rfl, fun W hW => by have hc := hW.1; go_simp⟩) s5 ?_
      simp only [Act.put, List.setIfInBounds_toArray, List.set_cons_zero, List.set_cons_succ]
      refine until_step (i := 5) (by kernel_rfl) rfl rfl (fun K hK => ?_)
      go_simp
      refine (HEND.out _).mono ?_
      rintro e w7 ⟨rfl, b7⟩
      have s9 := And.intro (keepc b7 s5.1) (And.intro (keepc b7 s5.2.1) (keepc b7 s5.2.2))
      have B7 : Hid (Below w6.heap.size w6 w7) := Lib.hid (below_of_drewN b7)
      clear b7
      try dsimp only
      refine hK.out _ _ s9 (fun _ => ?_)
      clear hK
      try simp only [Act.put, List.setIfInBounds_toArray, List.set_cons_zero, List.set_cons_succ]
      refine until_take (i := 7) (v := .int .i64 (ra + rb - x)) (some 66) [8, 10] rfl rfl (by kernel_rfl) (by kernel_rfl) (by kernel_rfl) (by kernel_rfl) rfl rfl (fun _ _ _ h => h) (Or.inl ⟨by rfl, fun W hW => by go_simp⟩) s9 ?_
      simp only [Act.put, List.setIfInBounds_toArray, List.set_cons_zero, List.set_cons_succ]
      refine until_take (i := 8) (v := .agg #[.int .i64 x, .int .i64 (ra + rb - x)]) (some 67) [10] rfl rfl (by kernel_rfl) (by kernel_rfl) (by kernel_rfl) (by kernel_rfl) rfl rfl (fun _ _ _ h => h) (Or.inl ⟨by rfl, fun W hW => by go_simp⟩) s9 ?_
      simp only [Act.put, List.setIfInBounds_toArray, List.set_cons_zero, List.set_cons_succ]
      refine until_take (i := 9) (v := .pointer (some ⟨g, o, none⟩)) (some 68) [10] rfl rfl (by kernel_rfl) (by kernel_rfl) (by kernel_rfl) (by kernel_rfl) rfl rfl (fun _ _ _ h => h) (Or.inl ⟨by rfl, fun W hW => by go_simp⟩) s9 ?_
      simp only [Act.put, List.setIfInBounds_toArray, List.set_cons_zero, List.set_cons_succ]
      refine until_last (by kernel_rfl) rfl (fun K hK => ?_)
      go_simp
      have fz := HFZ.out _ B7.out
      have c7 := s9.2.1
      have c8 := s9.2.2
      go_simp
      try dsimp only
      refine hK.out _ _ ?_
      clear hK
      try simp only [Act.put, List.setIfInBounds_toArray, List.set_cons_zero, List.set_cons_succ]
      refine wpAnyH_done (by kernel_rfl) ?_ _
      refine NoPanic.normal ?_
      go_wp2_with fail
      go_ret
      exact HEX.out _ B7.out
    · have hd3 : decide (ra < x) = false := decide_eq_false hlt
      have HF : Hid (∀ nq, DropP w sb (.slice A n c) l x (.returned (.int .i64 mt)) (w6.drewN nq)) := Lib.hid (fun nq => HADD.out _ _ ⟨_, (ra, rb) :: t, by rw [hmany, many_cons]; congr 2; dsimp only; omega, ⟨HBLK6.out, HROW.out, HFAR.out, ⟨t1, t2, t3, t4⟩⟩, by have := hdrop; unfold dropL at this; dsimp only at this; rwa [if_neg hlt] at this, by rw [hmany, many_cons]; dsimp only; omega, HC6.out.drewN nq, fun k hk => .inl (HO2.out k hk)⟩)
      clear HADD HMA hdrop hmany
      go_quiet (fail)
      go_wp2_with fail
      go_ret
      exact HF.out nq
end Go.Proofs.Ytancbdnpmabpfaa

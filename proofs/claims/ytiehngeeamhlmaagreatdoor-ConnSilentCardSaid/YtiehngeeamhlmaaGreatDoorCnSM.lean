/- A connection whose last leg is gone: hang, arm, disarm, clear, step and end there. Conditions: it stands without legs and timers; the tables are as the program lays them. -/
import Derived.Test.YtiehngeeamhlmaaGreatDoorMg25
import Derived.Test.YtiehngeeamhlmaaGreatDoorClBM
namespace Go.Proofs.YtiehngeeamhlmaaGreatDoor
set_option linter.unusedVariables false
set_option linter.unusedSimpArgs false
set_option maxRecDepth 20000
open Go.RowKit Go.Lib

section
variable {base : Nat} {w w' : World} {lab ro lab' : Nat → Nat} {cb : Nat} {c : Cv} {p : LP.Pm} {so sr sm n : Nat} {L : List (Int × Int)}
theorem hangNo0_any (h : Ca w cb c) (o : LW.On w lab c.wb n L) (x a : Int) (hx : LW.isI x) (hn : n + 20000 ≤ 4611686018427387904) (hL : ∀ p ∈ L, p.1 ≠ x) :
    Calls Tryz.prog 184 #[tptr cb, .int .i64 x, .int .i64 a, .bool false] w fun e w' => e = .returned (.tuple #[]) ∧ LW.On w' lab c.wb n L ∧ LW.Fr lab w lab w' := by
  have c1 := h.wb_
  have hl0 : lab w.heap.size = 0 := by
    rcases Nat.eq_zero_or_pos (lab w.heap.size) with e | e
    · exact e
    · have := o.lt (k := w.heap.size) (by omega)
      omega
  have HB : Hid (Below w.heap.size w (w.alloc (.cells #[.int .i64 x] 3))) := Lib.hid (below_a w _)
  have HC := Lib.hid (LW.ocancel_any (o.below HB.out) hx hn (g := w.heap.size) (cell_new w _ _) hl0)
  clear h o
  unfold tptr
  unfold LW.ptr at HC
  go_enter Tryz.func184, Tryz.ntmps184
  go_wp2_with fail
  refine HC.out.mono ?_
  rintro e w1 ⟨k, rfl, _, o1, f1⟩
  rw [woL_ne hL] at o1
  have HF : Hid (LW.Fr lab w lab w1) := Lib.hid ((LW.Fr.below (LW.Fr.refl lab w) HB.out).trans f1)
  have HZ := Lib.hid o1
  clear o1 f1 HC
  go_wp2_with fail
  refine bodyPost_ret (results_none rfl _ _ _) rfl ?_
  exact ⟨rfl, HZ.out, HF.out⟩
theorem Wz.wheel (h : Wz base w lab ro cb c p so sr sm n L) (hb : base ≤ w.heap.size) {n' : Nat} {L' : List (Int × Int)} (o : LW.On w' lab' c.wb n' L') (f : LW.Fr lab w lab' w') : Wz base w' lab' ro cb c p so sr sm n' L' ∧ Fx lab ro w lab' ro w' := by
  have k := chlw f.1
  have hd : ∀ g d, d ≠ 0 → ro g = d → ¬ (lab g ≠ 0) := fun g d hd e k => k (h.ds g (by rw [e]; exact hd)).1
  refine ⟨⟨h.ca.ch k (hd _ 1 (by decide) h.rc), h.rc, h.sn.ch k (hd _ 4 (by decide) h.rs.1) (hd _ 4 (by decide) h.rs.2), h.rs, h.rn.ch k (hd _ 5 (by decide) h.rr.1) (hd _ 5 (by decide) h.rr.2.1) (hd _ 5 (by decide) h.rr.2.2), h.rr,
    h.pa.ch k (hd _ 6 (by decide) h.rp), h.rp, o, fun g hg => ⟨(f.2 g (h.ds g hg).2.2).trans (h.ds g hg).1, (h.ds g hg).2.1, Nat.lt_of_lt_of_le (h.ds g hg).2.2 k.size⟩, fun g hg => ?_⟩, k.mono (fun _ _ e => .inl e), fun g hg => ⟨f.2 g hg, rfl⟩⟩
  rcases Nat.lt_or_ge g w.heap.size with hg2 | hg2
  · exact h.wl g (by rw [← f.2 g hg2]; exact hg)
  · omega
theorem Wz.size (h : Wz base w lab ro cb c p so sr sm n L) : base ≤ w.heap.size := by
  have := h.ca.lt
  have := (h.ds cb (by rw [h.rc]; decide)).2.1
  omega
theorem Wz.own_ (h : Wz base w lab ro cb c p so sr sm n L) (k : Ch w w' (fun g => g = cb)) {c' : Cv} (hc : Ca w' cb c') (h1 : c'.sb = c.sb) (h2 : c'.rb = c.rb) (h3 : c'.pb = c.pb) (h6 : c'.wb = c.wb) : Wz base w' lab ro cb c' p so sr sm n L ∧ Fx lab ro w lab ro w' :=
  ⟨h.own k (fun g e => .inl e) hc h1 h2 h3 h6, k.mono (fun g _ e => .inr (by subst e; rw [h.rc]; decide)), fun g hg => ⟨rfl, rfl⟩⟩
/-- No timer of its own is set. -/
structure Cv.Zero (c : Cv) : Prop where
  a0 : c.a0 = 0
  a1 : c.a1 = 0
  a2 : c.a2 = 0
  a3 : c.a3 = 0
  a4 : c.a4 = 0
theorem Ca.ats (h : Ca w cb c) (C : c.Zero) : w.rangeAt cb 17 zer5 := by
  intro j v hv
  have hj : j < 5 := (List.getElem?_eq_some_iff.1 hv).1
  have h0 := h.a0_
  have h1 := h.a1_
  have h2 := h.a2_
  have h3 := h.a3_
  have h4 := h.a4_
  rw [C.a0] at h0
  rw [C.a1] at h1
  rw [C.a2] at h2
  rw [C.a3] at h3
  rw [C.a4] at h4
  match j, hj with
  | 0, _ => injection hv with hv; subst hv; exact h0
  | 1, _ => injection hv with hv; subst hv; exact h1
  | 2, _ => injection hv with hv; subst hv; exact h2
  | 3, _ => injection hv with hv; subst hv; exact h3
  | 4, _ => injection hv with hv; subst hv; exact h4
set_option maxHeartbeats 6400000 in
theorem armNil_any (h : Wz base w lab ro cb c p so sr sm n []) (C : c.Zero) (hn : n ≤ 1048576) :
    Calls Tryz.prog 117 #[tptr cb, .slice none 0 0] w fun e w' => e = .returned (.tuple #[]) ∧ Wz base w' lab ro cb c p so sr sm n [] ∧ Fx lab ro w lab ro w' := by
  have HW := Lib.hid h
  have hat := h.ca.ats C
  have HN := Lib.hid (fun W (Z : Wz base W lab ro cb c p so sr sm n []) (k : Int) (hk : LW.isI k) => hangNo0_any Z.ca Z.wh k 0 hk (by omega) (fun p hp => by cases hp))
  clear h C
  unfold tptr at *
  go_enter Tryz.func117, Tryz.ntmps117
  go_wp2_with (first
    | ((with_reducible refine wpList_here ?_); refine wpList_loadV (o := ⟨some 13, _, _, _, _, _⟩) rfl 97 (.tmp 12) rfl cb 17 zer5 rfl hat _ Tryz.underlying97 rfl sizeI5 ?_)
    | fail)
  unfold zer5
  go_loopw [14, 4, 5] (fun i _ _ wr => ∃ k : Nat, k ≤ 5 ∧ i = .int .i64 (k : Int) ∧ Wz base wr lab ro cb c p so sr sm n [] ∧ Fx lab ro w lab ro wr) (fun i _ _ _ => 5 - (intOf i).toNat)
  case atStart => exact ⟨0, by omega, rfl, HW.out, Fx.refl _ _ _⟩
  case round =>
    obtain ⟨k, hk, rfl, Z, X⟩ := hrel
    have HZ := Lib.hid Z
    have HX := Lib.hid X
    clear Z X
    by_cases hk5 : k < 5
    · have HNk := Lib.hid (HN.out wr HZ.out (k : Int) (by unfold LW.isI; omega))
      have hcases : k = 0 ∨ k = 1 ∨ k = 2 ∨ k = 3 ∨ k = 4 := by omega
      rcases hcases with rfl | rfl | rfl | rfl | rfl
      · go_wp2_with (first
          | ((with_reducible refine wpList_here ?_); refine wpList_val (o := ⟨some 17, .index _ _ _, _, _, _, _⟩) rfl (.int .i64 0) (by kernel_rfl) ?_)
          | fail)
        refine HNk.out.mono ?_
        rintro e w1 ⟨rfl, o1, f1⟩
        have HZ1 := Lib.hid (HZ.out.wheel HZ.out.size o1 f1)
        have HX1 := Lib.hid (HX.out.trans HZ1.out.2)
        clear o1 f1 HNk
        go_wp2_with fail
        go_roundw
        case rel => exact ⟨1, by omega, by go_num, HZ1.out.1, HX1.out⟩
        case measure => simp [intOf]
      · go_wp2_with (first
          | ((with_reducible refine wpList_here ?_); refine wpList_val (o := ⟨some 17, .index _ _ _, _, _, _, _⟩) rfl (.int .i64 0) (by kernel_rfl) ?_)
          | fail)
        refine HNk.out.mono ?_
        rintro e w1 ⟨rfl, o1, f1⟩
        have HZ1 := Lib.hid (HZ.out.wheel HZ.out.size o1 f1)
        have HX1 := Lib.hid (HX.out.trans HZ1.out.2)
        clear o1 f1 HNk
        go_wp2_with fail
        go_roundw
        case rel => exact ⟨2, by omega, by go_num, HZ1.out.1, HX1.out⟩
        case measure => simp [intOf]
      · go_wp2_with (first
          | ((with_reducible refine wpList_here ?_); refine wpList_val (o := ⟨some 17, .index _ _ _, _, _, _, _⟩) rfl (.int .i64 0) (by kernel_rfl) ?_)
          | fail)
        refine HNk.out.mono ?_
        rintro e w1 ⟨rfl, o1, f1⟩
        have HZ1 := Lib.hid (HZ.out.wheel HZ.out.size o1 f1)
        have HX1 := Lib.hid (HX.out.trans HZ1.out.2)
        clear o1 f1 HNk
        go_wp2_with fail
        go_roundw
        case rel => exact ⟨3, by omega, by go_num, HZ1.out.1, HX1.out⟩
        case measure => simp [intOf]
      · go_wp2_with (first
          | ((with_reducible refine wpList_here ?_); refine wpList_val (o := ⟨some 17, .index _ _ _, _, _, _, _⟩) rfl (.int .i64 0) (by kernel_rfl) ?_)
          | fail)
        refine HNk.out.mono ?_
        rintro e w1 ⟨rfl, o1, f1⟩
        have HZ1 := Lib.hid (HZ.out.wheel HZ.out.size o1 f1)
        have HX1 := Lib.hid (HX.out.trans HZ1.out.2)
        clear o1 f1 HNk
        go_wp2_with fail
        go_roundw
        case rel => exact ⟨4, by omega, by go_num, HZ1.out.1, HX1.out⟩
        case measure => simp [intOf]
      · go_wp2_with (first
          | ((with_reducible refine wpList_here ?_); refine wpList_val (o := ⟨some 17, .index _ _ _, _, _, _, _⟩) rfl (.int .i64 0) (by kernel_rfl) ?_)
          | fail)
        refine HNk.out.mono ?_
        rintro e w1 ⟨rfl, o1, f1⟩
        have HZ1 := Lib.hid (HZ.out.wheel HZ.out.size o1 f1)
        have HX1 := Lib.hid (HX.out.trans HZ1.out.2)
        clear o1 f1 HNk
        go_wp2_with fail
        go_roundw
        case rel => exact ⟨5, by omega, by go_num, HZ1.out.1, HX1.out⟩
        case measure => simp [intOf]
    · obtain rfl : k = 5 := by omega
      go_wp2_with fail
      go_loopw [27] (fun i wx => i = .int .i64 0 ∧ wx = wr) (fun _ _ => 0)
      case atStart => exact ⟨rfl, rfl⟩
      case round =>
        obtain ⟨rfl, rfl⟩ := hrel
        go_wp2_with fail
        go_end0
        exact ⟨rfl, HZ.out, HX.out⟩
theorem setAll_zero (c : Cv) (C : c.Zero) : setAll c.cs 17 zer5 = c.cs := by
  obtain ⟨h0, h1, h2, h3, h4⟩ := C
  unfold Cv.cs zer5
  rw [h0, h1, h2, h3, h4]
  simp only [setAll, List.setIfInBounds_toArray, List.set_cons_succ, List.set_cons_zero]
theorem wpList_zero {ops : Array Oper} {rest : List Oper} {op : Oper} {a : Act} {W : World} {Q : Exit → Act → World → Prop} (hgd : op.guard = none) (y z : Operand) (ho : op.op = .store 97 y z) (h : Ca W cb c) (C : c.Zero)
    (hx : a.eval y = .pointer (some ⟨cb, 17, none⟩)) (hy : a.eval z = .agg zer5.toArray) (k : ∀ W', Ca W' cb c → W.grownBy W' (some cb) → wpList Tryz.prog ops Q rest (a.put op.dst undef) W') : wpList Tryz.prog ops Q (op :: rest) a W := by
  have hat := h.ats C
  have ht : W.there cb 17 zer5.toArray.size := fun j hj => by
    have hj : j < 5 := hj
    have := hat j (zer5.getD j (.int .i64 0)) (by rw [List.getD_eq_getElem?_getD, List.getElem?_eq_getElem (show j < zer5.length from hj)]; rfl)
    exact ⟨by rw [this]; rfl, h.fz _⟩
  have hi : (Tryz.prog.info? 97).map (·.size) = some zer5.toArray.size := sizeI5
  have h1 : zer5.toArray.all (·.oneCell') = true := all_oneCell_toArray (fun u hu => by
    simp only [zer5, List.mem_cons, List.not_mem_nil, or_false] at hu
    rcases hu with rfl | rfl | rfl | rfl | rfl <;> rfl)
  have k1 : Ca (W.setCells cb 17 zer5) cb c := by
    have := heap_setAll zer5 17 W _ h
    rw [setAll_zero c C] at this
    exact this
  have k2 := k _ k1 (v_g_setCells cb zer5 17 W)
  clear k1 hat k h C
  generalize zer5 = vs at *
  refine wpList_store_mid hgd 97 y z ho cb 17 vs.toArray hx hy ht hi h1 ?_
  exact k2
theorem grown_ch {a b : World} (g : a.grownBy b (some cb)) : Ch a b (fun k => k = cb) := Ch.grown (Ch.refl a (fun k => k = cb)) g (fun k e _ => by injection e with e; exact e.symm)
set_option maxHeartbeats 1600000 in
theorem disarm_any (h : Wz base w lab ro cb c p so sr sm n []) (C : c.Zero) (hn : n ≤ 1048576) :
    Calls Tryz.prog 217 #[tptr cb] w fun e w' => e = .returned (.tuple #[]) ∧ Wz base w' lab ro cb c p so sr sm n [] ∧ Fx lab ro w lab ro w' := by
  have HW := Lib.hid h
  have HC := Lib.hid C
  have HA := Lib.hid (fun W (Z : Wz base W lab ro cb c p so sr sm n []) => armNil_any Z C hn)
  clear h C
  unfold tptr at *
  go_enter Tryz.func217, Tryz.ntmps217
  go_wp2_with (first
    | ((with_reducible refine wpList_here ?_); refine wpList_zero rfl (.tmp 5) (.tmp 3) rfl HW.out.ca HC.out rfl rfl ?_; intro w1 C1 g1)
    | fail)
  have HZ1 := Lib.hid (HW.out.own_ (grown_ch g1) C1 rfl rfl rfl rfl)
  have HA1 := Lib.hid (HA.out w1 HZ1.out.1)
  clear C1 g1 HA
  refine HA1.out.mono ?_
  rintro e w2 ⟨rfl, Z2, X2⟩
  have HZ2 := Lib.hid Z2
  have HX2 := Lib.hid (HZ1.out.2.trans X2)
  clear Z2 X2 HA1
  go_wp2_with fail
  go_end0
  exact ⟨rfl, HZ2.out, HX2.out⟩
theorem cloneLegs_any (A : Option Addr) (k : Nat) (hk : k ≤ 9223372036854775807) : Calls Tryz.prog 216 #[.slice A 0 k] w fun e w' => (∃ A' k', e = .returned (.slice A' 0 k')) ∧ Below w.heap.size w w' := by
  have he : ∀ W, (binOp .eql 95 (.slice A 0 k) (.slice none 0 0)).run Tryz.prog W = .ok (.bool A.isNone) W := fun W => run_eql_slice_nil W _ _ _ 0 k 0 0 undLegs
  cases A with
  | none =>
    go_enter Tryz.func216, Tryz.ntmps216
    go_wp2_with fail
    go_ret
    exact ⟨⟨_, _, rfl⟩, Below.refl _ _⟩
  | some a =>
    have hown := World.ownsRow_lit (base := w.heap.size) (e := 102) (size := 1) w #[] 0 (Nat.le_refl _) (Nat.zero_le _) rfl
    have HB0 := below_a w (.cells #[] 102)
    go_enter Tryz.func216, Tryz.ntmps216
    go_wp2_with (at_builtin; refine wpList_appG rfl _ _ 95 102 rfl (.pointer none) 1 8 undLegs infoLeg rfl (by decide) (by decide) w.heap.size (.slice (some ⟨w.heap.size, 0, none⟩) 0 0) 0 [] rfl hown (some a) 0 k [] rfl ⟨rfl, Nat.zero_le _, hk, (fun u hu => by cases hu), fun h => absurd h (by omega)⟩ (by omega) HB0.size ?_; intro v3 w3 r3 g3 o3; obtain ⟨A3, k3, rfl, _, _⟩ := LF.own_slice r3; have HB := Lib.hid (HB0.grown g3 HB0.size (fun j e => (hown.lt j e).1)))
    go_ret
    exact ⟨⟨_, _, rfl⟩, HB.out⟩
set_option maxHeartbeats 1600000 in
theorem clear_any (h : Wz base w lab ro cb c p so sr sm n []) (C : c.Zero) (hn : n ≤ 1048576) {A : Option Addr} {k : Nat} (hlv : c.lv = .slice A 0 k) (hk : k ≤ 9223372036854775807) :
    Calls Tryz.prog 161 #[cptr cb] w fun e w' => e = .returned (.tuple #[]) ∧ Wz base w' lab ro cb c p so sr sm n [] ∧ Fx lab ro w lab ro w' := by
  have HW := Lib.hid h
  have c11 := h.ca.lv_
  rw [hlv] at c11
  have HCL := Lib.hid (cloneLegs_any (w := w) A k hk)
  have HD := Lib.hid (fun W (Z : Wz base W lab ro cb c p so sr sm n []) => disarm_any Z C hn)
  clear h C hlv
  unfold tptr at HD
  unfold cptr at *
  go_enter Tryz.func161, Tryz.ntmps161
  go_wp2_with fail
  refine HCL.out.mono ?_
  rintro e w1 ⟨⟨A', k', rfl⟩, b1⟩
  have HZ1 := Lib.hid (HW.out.below b1)
  have HX1 := Lib.hid (Fx.below lab ro b1)
  have HD1 := Lib.hid (HD.out w1 HZ1.out)
  clear b1 HCL HD c11
  go_wp2_with fail
  go_loopw [10] (fun i wr => i = .int .i64 0 ∧ wr = w1) (fun _ _ => 0)
  case atStart => exact ⟨rfl, rfl⟩
  case round =>
    obtain ⟨rfl, rfl⟩ := hrel
    go_wp2_with fail
    refine HD1.out.mono ?_
    rintro e w2 ⟨rfl, Z2, X2⟩
    have HZ2 := Lib.hid Z2
    have HX2 := Lib.hid (HX1.out.trans X2)
    clear Z2 X2 HD1
    go_wp2_with fail
    go_end0
    exact ⟨rfl, HZ2.out, HX2.out⟩
set_option maxHeartbeats 1600000 in
theorem stepAbort_any (h : Wz base w lab ro cb c p so sr sm n L) (hs : c.st = 0) (hT : LC.Tab w) :
    Calls Tryz.prog 109 #[cptr cb, .int .i64 5] w fun e w' => e = .returned (.tuple #[]) ∧ Wz base w' lab ro cb { c with st := 8 } p so sr sm n L ∧ Fx lab ro w lab ro w' := by
  have HW := Lib.hid h
  have c4 := h.ca.st_
  rw [hs] at c4
  have HS := Lib.hid (LC.Step_any 0 5 w hT)
  rw [show LC.nx 0 5 = 8 from by decide] at HS
  clear h hs hT
  unfold cptr at *
  go_enter Tryz.func109, Tryz.ntmps109
  go_wp2_with fail
  refine HS.out.mono ?_
  rintro e w1 ⟨rfl, b1⟩
  have Z1 := HW.out.below b1
  have k4 : w1.cell? ⟨cb, 4, none⟩ = some (.int .i64 c.st) := Z1.ca.st_
  have f4 := Z1.ca.fz 4
  have HZ2 := Lib.hid (Z1.own_ ((Ch.refl w1 (fun k => k = cb)).setCell (p := ⟨cb, 4, none⟩) (fun _ => rfl) (.int .i64 8)) (Z1.ca.set 4 (.int .i64 8) { c with st := 8 } rfl) rfl rfl rfl rfl)
  have HX1 := Lib.hid (Fx.below lab ro b1)
  clear Z1 b1 HS c4
  go_wp2_with fail
  go_end0
  exact ⟨rfl, HZ2.out.1, HX1.out.trans HZ2.out.2⟩
set_option maxHeartbeats 1600000 in
theorem end_any (h : Wz base w lab ro cb c p so sr sm n []) (C : c.Zero) (hn : n ≤ 1048576) {A : Option Addr} {k : Nat} (hlv : c.lv = .slice A 0 k) (hk : k ≤ 9223372036854775807) (hs : c.st = 0) (er : Int) (hT : ∀ W, Below base w W → LC.Tab W) :
    Calls Tryz.prog 104 #[cptr cb, .int .i64 er] w fun e w' => e = .returned (.tuple #[]) ∧ Wz base w' lab ro cb { c with er := er, st := 8 } p so sr sm n [] ∧ Fx lab ro w lab ro w' := by
  have c5 := h.ca.er_
  have f5 := h.ca.fz 5
  have c1 : Ch w (w.setCell ⟨cb, 5, none⟩ (.int .i64 er)) (fun k => k = cb) := (Ch.refl w (fun k => k = cb)).setCell (p := ⟨cb, 5, none⟩) (fun _ => rfl) _
  have HZ1 := Lib.hid (h.own_ c1 (h.ca.set 5 (.int .i64 er) { c with er := er } rfl) rfl rfl rfl rfl)
  have HS := Lib.hid (stepAbort_any HZ1.out.1 hs (hT _ (c1.below_of (h.ds cb (by rw [h.rc]; decide)).2.1 h.size)))
  have HCL := Lib.hid (fun W (Z : Wz base W lab ro cb { c with er := er, st := 8 } p so sr sm n []) => clear_any Z ⟨C.a0, C.a1, C.a2, C.a3, C.a4⟩ hn (A := A) (k := k) hlv hk)
  clear h C hlv hs hT c1
  unfold cptr at *
  go_enter Tryz.func104, Tryz.ntmps104
  go_wp2_with fail
  refine HS.out.mono ?_
  rintro e w2 ⟨rfl, Z2, X2⟩
  have HX2 := Lib.hid (HZ1.out.2.trans X2)
  have HCL1 := Lib.hid (HCL.out w2 Z2)
  clear Z2 X2 HS HCL c5 f5
  go_wp2_with fail
  refine HCL1.out.mono ?_
  rintro e w3 ⟨rfl, Z3, X3⟩
  have HZ3 := Lib.hid Z3
  have HX3 := Lib.hid (HX2.out.trans X3)
  clear Z3 X3 HCL1
  go_wp2_with fail
  go_end0
  exact ⟨rfl, HZ3.out, HX3.out⟩
end
end Go.Proofs.YtiehngeeamhlmaaGreatDoor

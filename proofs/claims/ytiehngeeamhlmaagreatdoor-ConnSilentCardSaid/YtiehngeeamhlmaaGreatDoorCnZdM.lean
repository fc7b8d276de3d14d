/- Err, Over and Out of a connection that is over; the law ConnSilent as a walk. Conditions: the tables are as the program lays them. -/
import Derived.Test.YtiehngeeamhlmaaGreatDoorCnZcM
import Derived.Test.YtiehngeeamhlmaaGreatDoorMg26
namespace Go.Proofs.YtiehngeeamhlmaaGreatDoor
set_option linter.unusedVariables false
set_option linter.unusedSimpArgs false
set_option maxRecDepth 20000
open Go.RowKit Go.Lib

section
variable {base : Nat} {w w' : World} {lab ro : Nat → Nat} {cb lb : Nat} {c : Cv} {z : Zc}
theorem Err_any (h : Ca w cb c) : Calls Tryz.prog 22 #[cptr cb] w fun e w' => e = .returned (.int .i64 c.er) ∧ w' = w := by
  have c5 := h.er_
  clear h
  unfold cptr
  go_enter Tryz.func22, Tryz.ntmps22
  go_wp2_with fail
  go_ret
  exact ⟨rfl, rfl⟩
theorem Legs0_any {A : Option Addr} {k : Nat} (h : Ca w cb c) (hl : c.lv = .slice A 0 k) : Calls Tryz.prog 28 #[cptr cb] w fun e w' => e = .returned (.int .i64 0) ∧ w' = w := by
  have c11 := h.lv_
  rw [hl] at c11
  clear h
  unfold cptr
  go_enter Tryz.func28, Tryz.ntmps28
  go_wp2_with fail
  go_ret
  exact ⟨rfl, rfl⟩
theorem Timers0_any {n : Nat} (h : Ca w cb c) (o : LW.On w lab c.wb n []) : Calls Tryz.prog 44 #[cptr cb] w fun e w' => e = .returned (.int .i64 0) ∧ w' = w := by
  have c16 := h.wb_
  have HL := Lib.hid (LW.olen_any o)
  rw [show (([] : List (Int × Int)).length : Int) = 0 from rfl] at HL
  clear h o
  unfold LW.ptr at HL
  unfold cptr
  go_enter Tryz.func44, Tryz.ntmps44
  go_wp2_with fail
  refine HL.out.mono ?_
  rintro e w1 ⟨rfl, rfl⟩
  go_wp2_with fail
  go_ret
  exact ⟨rfl, rfl⟩
theorem OverYes_any {n : Nat} {A : Option Addr} {k : Nat} (h : Ca w cb c) (hs : c.st = 8) (hl : c.lv = .slice A 0 k) (o : LW.On w lab c.wb n []) : Calls Tryz.prog 20 #[cptr cb] w fun e w' => e = .returned (.bool true) ∧ w' = w := by
  have c4 := h.st_
  rw [hs] at c4
  have HL := Lib.hid (Legs0_any h hl)
  have HM := Lib.hid (Timers0_any h o)
  clear h o
  unfold cptr at *
  go_enter Tryz.func20, Tryz.ntmps20
  go_wp2_with (first
    | (go_at_call 28; refine HL.out.mono ?_; rintro e w1 ⟨rfl, rfl⟩)
    | (go_at_call 44; refine HM.out.mono ?_; rintro e w1 ⟨rfl, rfl⟩)
    | fail)
  go_ret
  exact ⟨rfl, rfl⟩
theorem OutZ_any {A : Option Addr} {n k : Nat} (h : Ca w cb c) (hs : c.sv = .slice A n k) : Calls Tryz.prog 43 #[cptr cb] w fun e w' => e = .returned (.slice A n k) ∧ w' = w.setCell ⟨cb, 24, none⟩ (.slice none 0 0) := by
  have c1 := h.sv_
  have f1 := h.fz 24
  rw [hs] at c1
  clear h
  unfold cptr
  go_enter Tryz.func43, Tryz.ntmps43
  go_wp2_with fail
  go_ret
  exact ⟨rfl, rfl⟩
end
theorem wa_dial {key i j : Nat} {op tp : Int} {a : Nat} (ha : a ≤ 65535) (sb rb pb wb iss : Nat) (v v' : Value) (fb : Value) (he : Opn) (s : LF.Sh) (g : List Sgc) (p : LP.Pm) (so sr sm : Nat) (ow ot : Int) :
    Wa (Zc.armed ⟨{ Cv.fresh key op tp (a : Int) sb rb pb wb with md := 1, lv := v, sv := v' }, { Lc.new (i : Int) (j : Int) 0 with fl := fb, aw := 1, he := he }, s, (LF.F.dial iss (a : Int)).quiet, 0, [], g, p, so, sr, sm⟩).took (LF.sK.at iss) (a : Int) 0 0 := by
  have D := calm_dial (key := key) (i := i) (j := j) (op := op) (tp := tp) (t := (a : Int)) (by omega) sb rb pb wb iss v v' fb he s g p so sr sm
  have hL : (Zc.armed ⟨{ Cv.fresh key op tp (a : Int) sb rb pb wb with md := 1, lv := v, sv := v' }, { Lc.new (i : Int) (j : Int) 0 with fl := fb, aw := 1, he := he }, s, (LF.F.dial iss (a : Int)).quiet, 0, [], g, p, so, sr, sm⟩).took.L = [(5, (tmk 0 : Int))] := by
    show [((5 : Int), max (snc (a : Int) ((a : Int) + 4)) (((0 : Nat) : Int) + 1))] = [(5, ((4 : Nat) : Int))]
    congr 2
    unfold snc
    split <;> omega
  refine ⟨⟨D.st, D.a0, D.a1, D.a2, D.a3, D.a4, D.nm, D.x1, D.ks, D.ds, D.tl, D.ho, ?_, ?_, D.bg, D.df, D.dw, D.n, D.due⟩, ⟨rfl, rfl, rfl, rfl, rfl, rfl, rfl, ?_, ?_, ?_, ?_, ?_⟩, rfl, hL, by decide, rfl, rfl, rfl, rfl, ?_, rfl, rfl, rfl, fun q hq => by cases hq⟩
  · rw [hL]
    intro q hq
    obtain rfl : q = (5, (tmk 0 : Int)) := by simpa using hq
    rfl
  · rw [hL]
    simp
  · exact ⟨(by show (0 : Int) ≤ 0; decide), (by show (0 : Int) ≤ 8000; decide), (by show (0 : Int) ≤ 0; decide), (by show (0 : Int) ≤ 4000; decide), (by show 0 ≤ 1000000; decide)⟩
  · show 0 < 1000000
    decide
  · exact D.df
  · show 0 ≤ 4
    decide
  · exact Nat.zero_le _
  · omega
theorem own_rangeS {w : World} {base g n c j : Nat} {l : List Sgc} (h : w.ownsRow base 54 13 (.slice (some ⟨g, 0, none⟩) n c) n (sgv l)) (hj : j < n) : w.rangeAt g (j * 13) (l.getD j zSg).vals := by
  have hl := h.1
  rw [sgv_length] at hl
  intro k v hv
  have hk : k < 13 := (List.getElem?_eq_some_iff.1 hv).1
  rw [World.ownsRow.cellAt h (j * 13 + k) (by omega), sgv_at l j k (by omega) hk]
  exact hv
set_option maxHeartbeats 6400000 in
theorem Silent_any (key a : Nat) (w : World) (hk : key < 18446744073709551616) (ha : a < 65536) (hT : LK.Tab w ∧ LC.Tab w) : Calls Tryz.prog 12 #[.int .u64 (key : Int), .int .u16 (a : Int)] w (Held w) := by
  have HWK := Lib.hid (wakes_any w hT.1)
  have HDI := Lib.hid (fun W (b : Below w.heap.size w W) => Dial_any (w := W) (key := key) (i := 0) (j := 1) (op := 5) (tp := 80) (t := (a : Int)) hk (by decide) (by decide) (by omega) (by omega) (by omega) (hT.1.below b))
  have HTC := Lib.hid (fun W (b : Below w.heap.size w W) => hT.2.below b)
  have HA := Lib.hid ha
  have hwa : IntKind.i64.wrap (a : Int) = (a : Int) := by rw [IntKind.wrap_i64]; omega
  have hw5 : IntKind.i64.wrap ((a : Int) + 59) = (a : Int) + 59 := by rw [IntKind.wrap_i64]; omega
  have hw6 : IntKind.i64.wrap ((a : Int) + 60) = (a : Int) + 60 := by rw [IntKind.wrap_i64]; omega
  clear hT hk ha
  unfold Held
  unfold DialP cptr at HDI
  go_enter Tryz.func12, Tryz.ntmps12
  go_wp2_with fail
  refine HWK.out.mono ?_
  rintro e w0 ⟨rfl, b0⟩
  have HD := Lib.hid (HDI.out w0 b0)
  have HB0 := Lib.hid b0
  clear b0 HWK HDI
  go_wp2_with fail
  refine HD.out.mono ?_
  rintro e w1 ⟨base, lab, ro, cb, lb, z, rfl, Z, ⟨⟨sb, rb, pb, wb, v, v', s, iss, fin, ov, dv, so, sr, sm, hiss, rfl⟩⟩, hb, b1⟩
  have HO := Lib.hid (Out_any Z)
  obtain ⟨Z2, X2⟩ := Z.took
  obtain ⟨g, cap, hv, hc1, hc2, hr⟩ := seg_one Z.sv
  have HB1 : Hid (Below w.heap.size w (w1.setCell ⟨cb, 24, none⟩ (.slice none 0 0))) := Lib.hid (by
    have c2 := (Ch.of_below (fun k => k = cb) (HB0.out.trans (b1.mono HB0.out.size))).then_ ((Ch.refl w1 (fun k => k = cb)).setCell (p := ⟨cb, 24, none⟩) (fun _ => rfl) (.slice none 0 0))
    exact c2.below_of (by have := (Z.ds cb (by rw [Z.rc]; decide)).2.1; have := HB0.out.size; omega) (Nat.le_refl _))
  have HBB : Hid (w.heap.size ≤ base) := Lib.hid (Nat.le_trans HB0.out.size hb)
  have HAL : Hid (AliveP base (w1.setCell ⟨cb, 24, none⟩ (.slice none 0 0)) cb lb (a : Int) 0 (w1.setCell ⟨cb, 24, none⟩ (.slice none 0 0))) := Lib.hid ⟨lab, ro, _, _, 0, Z2, wa_dial (by have := HA.out; omega) sb rb pb wb iss _ _ _ _ _ _ _ _ _ _ 0 0, Below.refl _ _⟩
  rw [hv] at HO
  clear Z Z2 X2 b1 hr hv HD hb hiss
  generalize w1.setCell ⟨cb, 24, none⟩ (.slice none 0 0) = w2 at *
  have HT2 : Hid (∀ W, Below base w2 W → LC.Tab W) := Lib.hid (fun W b => HTC.out W (HB1.out.trans (b.mono HBB.out)))
  have HK1 := Lib.hid (Tick_any HAL.out 59 (by decide) (by decide) HT2.out)
  rw [show ((59 : Nat) : Int) = 59 from rfl] at HK1
  unfold cptr at *
  go_wp2_with (first
    | (go_at_call 43; refine HO.out.mono ?_; rintro e w3 ⟨rfl, rfl⟩)
    | fail)
  refine HK1.out.mono ?_
  rintro e w4 ⟨rfl, h4⟩
  have hal : AliveP base w3 cb lb (a : Int) 59 w4 := h4.elim id (fun h => absurd h.1 (by decide))
  have HAL4 := Lib.hid hal
  obtain ⟨lab4, ro4, z4, K4, k4, W4, C4, B4⟩ := hal
  have HE4 := Lib.hid (Err_any W4.ca)
  have HV4 := Lib.hid (OverNo_any W4 C4.cm.st)
  rw [C4.er] at HE4
  have HK2 := Lib.hid (Tick_any HAL4.out 60 (by decide) (by decide) HT2.out)
  rw [show ((60 : Nat) : Int) = 60 from rfl] at HK2
  unfold cptr at HE4 HV4 HK2
  clear W4 C4 B4 h4 HK1 HO HAL HAL4
  go_wp2_with (first
    | (go_at_call 22; refine HE4.out.mono ?_; rintro e w5 ⟨rfl, rfl⟩)
    | (go_at_call 20; refine HV4.out.mono ?_; rintro e w5 ⟨rfl, rfl⟩)
    | fail)
  refine HK2.out.mono ?_
  rintro e w6 ⟨rfl, h6⟩
  have hov : OverP base w3 cb lb w6 := h6.elim (fun ⟨lab6, ro6, z6, K6, k6, W6, C6, B6⟩ => absurd C6.lt (by have := (tmk_le k6).2; omega)) (fun h => h.2)
  obtain ⟨lab6, ro6, l6, s6, x6, g6, c6, p6, so6, sr6, sm6, hD6, Z6, S6, B6, her, hst, hgl, hgs, A6, kk6, hkk6, hlv6⟩ := hov
  have hrow := S6.sv
  rw [hgl] at hrow
  obtain ⟨gs, cs, hsv⟩ : ∃ g c, c6.sv = .slice (some ⟨g, 0, none⟩) 4 c := by
    rcases hrow.2 with ⟨e, e2⟩ | ⟨g', cap, cur, e, _⟩
    · exact absurd e2 (by decide)
    · exact ⟨g', cap, e⟩
  rw [hsv] at hrow
  have hgc : gs ≠ cb := fun e => by
    have h8 := S6.rg gs (by rw [hsv]; rfl)
    have h1 := Z6.rc
    rw [e] at h8
    rw [cored_0 (by rw [h8]; decide)] at h1
    cases h1
  have cc : Ch w6 (w6.setCell ⟨cb, 24, none⟩ (.slice none 0 0)) (fun k => k = cb) := (Ch.refl w6 (fun k => k = cb)).setCell (p := ⟨cb, 24, none⟩) (fun _ => rfl) (.slice none 0 0)
  have HR7 : Hid (∀ j, j < 4 → (w6.setCell ⟨cb, 24, none⟩ (.slice none 0 0)).rangeAt gs (j * 13) (g6.getD j zSg).vals) := Lib.hid (fun j hj => rangeAt_ch cc (own_rangeS hrow hj) hgc)
  have HQ7 : Hid (∀ j, j < 4 → (g6.getD j zSg).syn = true ∧ (g6.getD j zSg).acks = false ∧ isSl (g6.getD j zSg).ov ∧ isSl (g6.getD j zSg).dv) := Lib.hid (fun j hj => by
    have hm : g6.getD j zSg ∈ g6 := by
      rw [List.getD_eq_getElem?_getD, List.getElem?_eq_getElem (by omega)]
      exact List.getElem_mem _
    obtain ⟨h1, ob, h2, _⟩ := S6.sg _ hm
    exact ⟨(hgs _ hm).1, (hgs _ hm).2, ⟨_, _, _, h2⟩, h1⟩)
  have Z7 := Z6.own_ cc (c' := { c6 with sv := .slice none 0 0 }) (Z6.ca.set 24 _ _ rfl) rfl rfl rfl rfl
  have HE7 := Lib.hid (fun W (b : Below (w6.setCell ⟨cb, 24, none⟩ (.slice none 0 0)).heap.size (w6.setCell ⟨cb, 24, none⟩ (.slice none 0 0)) W) => Err_any (Z7.1.below b).ca)
  have HV7 := Lib.hid (fun W (b : Below (w6.setCell ⟨cb, 24, none⟩ (.slice none 0 0)).heap.size (w6.setCell ⟨cb, 24, none⟩ (.slice none 0 0)) W) => OverYes_any (Z7.1.below b).ca hst hlv6 (Z7.1.below b).wh)
  dsimp only at HE7
  rw [her] at HE7
  have HO6 := Lib.hid (OutZ_any Z6.ca hsv)
  have HB7 : Hid (Below w.heap.size w (w6.setCell ⟨cb, 24, none⟩ (.slice none 0 0))) := Lib.hid (by
    have h1 : Below base w6 (w6.setCell ⟨cb, 24, none⟩ (.slice none 0 0)) := Z7.2.behind Z6
    exact HB1.out.trans ((B6.trans h1).mono HBB.out))
  have hcs : 4 ≤ cs ∧ cs ≤ 9223372036854775807 := by
    obtain ⟨A, c, e, h1, h2⟩ := LF.own_slice hrow
    injection e with _ _ e
    exact ⟨by omega, by omega⟩
  unfold cptr at HE7 HV7 HO6
  clear hrow cc Z7 Z6 S6 B6 her hst hgl hgs hD6 hlv6 HK2 HE4 HV4 HT2 HTC HB1 h6
  generalize w6.setCell ⟨cb, 24, none⟩ (.slice none 0 0) = w7 at *
  go_wp2_with (first
    | (go_at_call 43; refine HO6.out.mono ?_; rintro e w8 ⟨rfl, rfl⟩)
    | fail)
  go_loopw [45, 8, 10] (fun i m _ wr => ∃ j : Nat, j ≤ 4 ∧ i = .int .i64 (j : Int) ∧ m = .int .i64 ((j + 1 : Nat) : Int) ∧ Below w8.heap.size w8 wr) (fun i _ _ _ => 4 - (intOf i).toNat)
  case atStart => exact ⟨0, by omega, rfl, rfl, Below.refl _ _⟩
  case round =>
    obtain ⟨j, hj, rfl, rfl, hb⟩ := hrel
    rcases Nat.lt_or_ge j 4 with hj4 | hj4
    · have r7 : wr.rangeAt gs (j * 13) (g6.getD j zSg).vals := rangeAt_ch (Ch.of_below (fun _ => False) hb) (HR7.out j hj4) (fun e => e)
      obtain ⟨q1, q2, q3, q4⟩ := HQ7.out j hj4
      have HB8 := Lib.hid hb
      clear hb
      generalize hqs : g6.getD j zSg = q at *
      have hj5 : (j : Int) < 4 := by omega
      have hwj : IntKind.i64.wrap (((j + 1 : Nat) : Int) + 1) = ((j + 1 + 1 : Nat) : Int) := by rw [IntKind.wrap_i64]; omega
      have h6q : q.vals[6]? = some (.bool true) := by rw [← q1]; rfl
      have h7q : q.vals[7]? = some (.bool false) := by rw [← q2]; rfl
      go_wp2_with (first
        | ((with_reducible refine wpList_here ?_); refine wpList_loadV (o := ⟨some 48, _, _, _, _, _⟩) rfl 54 (.tmp 47) rfl _ _ q.vals rfl r7 _ Tryz.underlying54 rfl sizeSgc ?_)
        | ((with_reducible refine wpList_here ?_); refine wpList_allocV (o := ⟨some 10, _, _, _, _, _⟩) rfl 54 rfl zSg.vals zeroSgc _ rfl ?_; intro wA zA bA sA)
        | ((with_reducible refine wpList_here ?_); refine wpList_storeV (o := ⟨none, .store 54 _ _, _, _, _, _⟩) rfl 54 (.tmp 10) (.tmp 48) rfl _ _ q.vals rfl rfl zA rfl (sgc_one q q3 q4) sizeSgc ?_; intro wB zB gB sB; have d6 : wB.cell? ⟨wr.heap.size, 6, none⟩ = some (.bool true) := (zB 6 (by rw [Sgc.vals_length]; omega)).1.trans h6q; have d7 : wB.cell? ⟨wr.heap.size, 7, none⟩ = some (.bool false) := (zB 7 (by rw [Sgc.vals_length]; omega)).1.trans h7q)
        | fail)
      have b9 : Below wr.heap.size wr wB := v_below_g bA gB bA.size (Nat.le_refl _)
      go_roundw
      case rel => exact ⟨j + 1, by omega, by go_num, by go_num, HB8.out.trans (b9.mono HB8.out.size)⟩
      case measure => simp [intOf]; omega
    · obtain rfl : j = 4 := by omega
      have HE9 := Lib.hid (HE7.out wr hb)
      have HV9 := Lib.hid (HV7.out wr hb)
      have HF := Lib.hid (HB7.out.trans (hb.mono HB7.out.size))
      clear hb HE7 HV7 HR7 HQ7
      go_wp2_with (first
        | (go_at_call 22; refine HE9.out.mono ?_; rintro e w9 ⟨rfl, rfl⟩)
        | (go_at_call 20; refine HV9.out.mono ?_; rintro e w9 ⟨rfl, rfl⟩)
        | fail)
      go_ret
      exact ⟨rfl, HF.out⟩
end Go.Proofs.YtiehngeeamhlmaaGreatDoor

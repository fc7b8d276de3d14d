/- The law FlowOver. No condition. -/
import Derived.Test.YtnpkmkjenlhkiaaFlT
namespace Go.Proofs.Ytnpkmkjenlhkiaa
set_option linter.unusedVariables false
set_option linter.unusedSimpArgs false
set_option maxRecDepth 20000
open Go.RowKit Go.Lib

/-- A dead flow that has nothing to say, behind a law's beginning. -/
structure Ov (W : World) (base fb : Nat) (X : F) (vs : List Value) (g : Nat) (wr : World) : Prop where
  fl : ∃ s : Sh, s.fb = fb ∧ Fl base wr s X
  bx : Own wr g vs
  bel : Below W.heap.size W wr
  lo : W.heap.size ≤ g ∧ g < base
  st : X.st = 11
  dw : X.dw = 0
  os : X.os = []
  E : X.E.Ok
  d : X.E.d = 0
  sm : X.ks.length ≤ 2 ∧ (∀ k ∈ X.ks, k.ds.length ≤ 10) ∧ X.tries ≤ 10 ∧ X.df = 0
section
variable {W w w' : World} {base fb g : Nat} {X : F} {vs : List Value}
theorem Ov.below (h : Ov W base fb X vs g w) (b : Below w.heap.size w w') : Ov W base fb X vs g w' := by
  obtain ⟨s, e, f⟩ := h.fl
  exact ⟨⟨s, e, f.below b⟩, h.bx.below b, h.bel.trans (b.mono h.bel.size), h.lo, h.st, h.dw, h.os, h.E, h.d, h.sm⟩
theorem Ov.left (h : Ov W base fb X vs g w) (hn : 0 < vs.length) {s : Sh} (e : s.fb = fb) (f : Fl base w s X) (l : Left base w s X w') : Ov W base fb X vs g w' := by
  obtain ⟨s2, e2, f2, c, n⟩ := l
  exact ⟨⟨s2, e2.trans e, f2⟩, h.bx.ch hn c (fun hT => by have := (f.in_ hT).1; have := h.lo; omega), ((Ch.of_below s.T h.bel).then_ c).below (fun k hk hT => by have := (f.in_ hT).1; have := h.lo; omega), h.lo, h.st, h.dw, h.os, h.E, h.d, h.sm⟩
end
theorem xK_st (i : Nat) : (xK i).st = 11 := rfl
theorem xK_os (i : Nat) : (xK i).os = [⟨sK.at i, on 4 1, true, false⟩, ⟨tK (on i 1), on 4 1, true, true⟩] := rfl
/-- What is left of it when that is told. -/
def xQ (i : Nat) : F := (xK i).quiet
theorem xQ_dies (X : F) (h : X.dw = 0) (t : Int) : X.dies t = false := decide_eq_false (by rw [h]; rintro ⟨⟨h, _⟩, _⟩; exact absurd h (by decide))
theorem xQ_expire (X : F) (h : X.dw = 0) (t : Int) : X.expire t = X := if_neg (by rw [h]; rintro ⟨h, _⟩; exact absurd h (by decide))
set_option maxHeartbeats 6400000 in
theorem FOver_any (i : Nat) (vs : List Value) (n : Nat) (W : World) (hi : i < 4294967296) (h : Sw vs) (hn : n < 256) : Calls Try.prog 5 #[.int .u32 (i : Int), .agg vs.toArray, .int .u8 (n : Int)] W (Held W) := by
  obtain ⟨A1, n1, c1, ho1⟩ := h.opts
  obtain ⟨A2, n2, c2, hd2⟩ := h.data
  have HV := Lib.hid h.sv
  have hvl := h.sv.len
  have HW := Lib.hid (fun w => wakes_any w)
  have HAn := Lib.hid (fun w => Answer_any i (Oc.mk (tP 4) 0 false false) 0 w hi (by decide) (by unfold isInt; decide))
  clear h
  by_cases hbig : 50 < n2 ∨ 50 < n1
  · have hb : (50 : Int) < (n2 : Int) ∨ (decide ((50 : Int) < (n2 : Int)) = false ∧ (50 : Int) < (n1 : Int)) := by
      by_cases h2 : 50 < n2
      · exact .inl (by omega)
      · exact .inr ⟨decide_eq_false (by omega), by omega⟩
    clear HAn
    rcases hb with hb | ⟨hb, hb2⟩
    · go_enter Try.func5, Try.ntmps5
      go_wp2_with (first
        | ((with_reducible refine wpList_here ?_); refine wpList_boxV (o := ⟨some 4, _, _, _, _, _⟩) rfl 47 (.tmp 1) rfl vs rfl _ rfl ?_; intro w0 z0 b0 s0)
        | (go_at_call 8; refine (HW.out _).mono ?_; rintro e w1 ⟨rfl, b1⟩; have z1 := z0.below b1; have HB1 := Lib.hid (below_trans b0 b1); have k12 : w1.cell? ⟨W.heap.size, 12, none⟩ = some (.slice A2 n2 c2) := (z1 12 (by rw [hvl]; omega)).1.trans hd2; clear b0 b1 z0)
        | fail)
      go_ret
      exact ⟨rfl, HB1.out⟩
    · go_enter Try.func5, Try.ntmps5
      go_wp2_with (first
        | ((with_reducible refine wpList_here ?_); refine wpList_boxV (o := ⟨some 4, _, _, _, _, _⟩) rfl 47 (.tmp 1) rfl vs rfl _ rfl ?_; intro w0 z0 b0 s0)
        | (go_at_call 8; refine (HW.out _).mono ?_; rintro e w1 ⟨rfl, b1⟩; have z1 := z0.below b1; have HB1 := Lib.hid (below_trans b0 b1); have k12 : w1.cell? ⟨W.heap.size, 12, none⟩ = some (.slice A2 n2 c2) := (z1 12 (by rw [hvl]; omega)).1.trans hd2; have k11 : w1.cell? ⟨W.heap.size, 11, none⟩ = some (.slice A1 n1 c1) := (z1 11 (by rw [hvl]; omega)).1.trans ho1; clear b0 b1 z0)
        | fail)
      go_ret
      exact ⟨rfl, HB1.out⟩
  · have hb1 : decide ((50 : Int) < (n2 : Int)) = false := decide_eq_false (by omega)
    have hb2 : decide ((50 : Int) < (n1 : Int)) = false := decide_eq_false (by omega)
    clear hbig
    have hw2 : ((n : Int).tmod 50) = ((n % 50 : Nat) : Int) := rfl
    have hx : n % 50 < 50 := Nat.mod_lt _ (by decide)
    generalize n % 50 = m at *
    go_enter Try.func5, Try.ntmps5
    go_wp2_with (first
      | ((with_reducible refine wpList_here ?_); refine wpList_boxV (o := ⟨some 4, _, _, _, _, _⟩) rfl 47 (.tmp 1) rfl vs rfl _ rfl ?_; intro w0 z0 b0 s0)
      | (go_at_call 8; refine (HW.out _).mono ?_; rintro e w1 ⟨rfl, b1⟩; have z1 := z0.below b1; have HB1 := Lib.hid (below_trans b0 b1); have hs1 : W.heap.size < w1.heap.size := by { have := b1.size; omega }; have k12 : w1.cell? ⟨W.heap.size, 12, none⟩ = some (.slice A2 n2 c2) := (z1 12 (by rw [hvl]; omega)).1.trans hd2; have k11 : w1.cell? ⟨W.heap.size, 11, none⟩ = some (.slice A1 n1 c1) := (z1 11 (by rw [hvl]; omega)).1.trans ho1; have HA1 := Lib.hid (HAn.out w1); clear b0 b1 z0)
      | fail)
    refine HA1.out.mono ?_
    rintro e w2 ⟨s2, rfl, f2, b2⟩
    rw [show (Oc.mk (tP 4) 0 false false).p.seq = 4 from rfl] at f2
    have HK := Lib.hid (Kill_any f2 ⟨by show 2 ≤ 2; omega, by show 2 ≤ 8; omega⟩ (by show 1 ≤ 549755813888; omega))
    have z2 := z1.below b2
    have HB2 := Lib.hid (HB1.out.trans (b2.mono HB1.out.size))
    have HF2 := Lib.hid f2
    clear f2 b2 z1 k12 k11 HA1 HAn
    unfold ptr at HK ⊢
    go_wp2_with (first
      | (go_at_call 17; refine HK.out.mono ?_; rintro e w3 ⟨rfl, l3⟩; have z3 := l3.own z2 (by rw [hvl]; omega) (fun hT => by { have := (HF2.out.in_ hT).1; omega }); obtain ⟨s3, e3, f3, c3, n3⟩ := l3; have HF3 : Hid (Fl w1.heap.size w3 s3 (xK i)) := Lib.hid f3; have HB3 := Lib.hid (((Ch.of_below s2.T HB2.out).then_ c3).below (fun k hk hT => by { have := (HF2.out.in_ hT).1; omega })); have HE3 := Lib.hid e3.symm; have HO3 := Lib.hid (Out_any f3); rw [e3] at HO3; unfold ptr at HO3; clear f3 c3 n3 e3)
      | fail)
    obtain ⟨g, c, o, hv, hc1, hc2, hk, hr, hgb, hgl, hgo⟩ := row_two HF3.out (xK_os i)
    rw [hv] at HO3
    have hrst : o.rst = true := congrArg (fun k => k.rst) hk
    have r17 : w3.cell? ⟨g, 17, none⟩ = some (.bool o.rst) := hr 8 _ rfl
    rw [hrst] at r17
    have hne : g ≠ s2.fb := fun e => HF3.out.ne_row (by rw [hgo, e, HE3.out])
    have hz2 : s2.fb ≠ W.heap.size := fun e => by have := HF2.out.lo; omega
    clear hk hr hrst hv hgo
    refine HO3.out.mono ?_
    rintro e w4 ⟨rfl, f4, c4⟩
    have q17 := c4.cell r17 hne
    have hO4 : Ov W w1.heap.size s2.fb (xQ i) vs W.heap.size w4 := ⟨⟨s3.quiet, HE3.out.symm, f4⟩, z3.ch (by rw [hvl]; omega) c4 (fun e => hz2 e.symm), ((Ch.of_below (fun k => k = s2.fb) HB3.out).then_ c4).below (fun k hk e => by have := HF2.out.lo; omega), ⟨Nat.le_refl _, hs1⟩, rfl, rfl, rfl, Ok_zero, rfl, ⟨by show 1 ≤ 2; omega, fun k hk => by
      have : k = sK.at i := by simpa [xQ, xK, F.quiet, F.fin_, F.rst, answer_eq] using hk
      rw [this]
      show 0 ≤ 10
      omega, by show 0 ≤ 10; omega, rfl⟩⟩
    have HV4 := Lib.hid hO4
    have hst4 := State_any f4.fa
    have HSt4 : Hid (Calls Try.prog 13 #[.pointer (some ⟨s2.fb, 0, none⟩)] w4 fun e w' => e = .returned (.int .i64 11) ∧ w' = w4) := Lib.hid (by rw [HE3.out]; exact hst4)
    clear hst4
    clear f4 c4 r17 hO4 z3 HO3 HK hne hz2 z2
    generalize xQ i = X at *
    go_wp2_with (first
      | (go_at_call 13; refine HSt4.out.mono ?_; rintro e w5 ⟨rfl, hw5⟩; obtain rfl : w4 = w5 := hw5.symm)
      | fail)
    go_loopw [49] (fun v wr => ∃ j : Nat, j ≤ m ∧ v = .int .i64 (j : Int) ∧ Ov W w1.heap.size s2.fb X vs W.heap.size wr) (fun v _ => m - (intOf v).toNat)
    case atStart => exact ⟨0, Nat.zero_le _, rfl, HV4.out⟩
    case round =>
      obtain ⟨j, hj, rfl, hov⟩ := hrel
      obtain ⟨s5, e5, f5⟩ := hov.fl
      by_cases hlt : j < m
      · have hli : (j : Int) < (m : Int) := by omega
        have HHe := Lib.hid (Hear_dead f5 (.inr hov.st) vs HV.out (j : Int))
        have HEx := Lib.hid (fun (w : World) (b : Below wr.heap.size wr w) => Expire_any (f5.below b) (by have := hov.sm.1; omega) (fun k hk => by have := hov.sm.2.1 k hk; omega) (by rw [hov.os]; exact Nat.zero_le _) hov.E (by rw [hov.d]; omega) (by rw [hov.sm.2.2.2]; omega) (by have := hov.sm.2.2.1; omega) (j : Int) (by omega))
        rw [xQ_dies X hov.dw, xQ_expire X hov.dw] at HEx
        have HKd := Lib.hid (fun (w : World) (o : Ov W w1.heap.size s2.fb X vs W.heap.size w) (s : Sh) (e : s.fb = s2.fb) (f : Fl w1.heap.size w s X) => Kill_dead f (.inr o.st))
        have HSH := Lib.hid (fun w => sameHz w)
        have HOV := Lib.hid hov
        have hz5 := hov.bx.range
        rw [e5] at HHe HEx
        unfold ptr at HHe HEx HKd
        have HF5 := Lib.hid f5
        clear hov f5
        go_wp2_with (first
          | ((with_reducible refine wpList_here ?_); refine wpList_loadV (o := ⟨some 53, _, _, _, _, _⟩) rfl 47 (.tmp 4) rfl _ _ vs rfl hz5 _ Try.underlying47 rfl (infoSv HV.out) ?_)
          | (go_at_call 20; refine HHe.out.mono ?_; rintro e w6 ⟨rfl, b6⟩; have HB6 := Lib.hid b6; clear b6)
          | fail)
        refine (HSH.out _).mono ?_
        rintro e w7 ⟨rfl, b7⟩
        have HB7 := Lib.hid (below_trans HB6.out b7)
        have HE7 := Lib.hid (HEx.out w7 HB7.out)
        clear b7
        go_wp2_with (first
          | (go_at_call 21; refine HE7.out.mono ?_; rintro e w8 ⟨rfl, l8⟩; have HO8 := Lib.hid ((HOV.out.below HB7.out).left (by have := HV.out.len; omega) e5 (HF5.out.below HB7.out) l8); clear l8)
          | fail)
        refine (HSH.out _).mono ?_
        rintro e w9 ⟨rfl, b9⟩
        have HO9 := Lib.hid (HO8.out.below b9)
        obtain ⟨s9, e9, f9⟩ := HO9.out.fl
        have HK9 := Lib.hid (HKd.out _ HO9.out s9 e9 f9)
        rw [e9] at HK9
        clear b9 f9
        go_wp2_with (first
          | (go_at_call 17; refine HK9.out.mono ?_; rintro e w10 ⟨rfl, hw10⟩; obtain rfl : w9 = w10 := hw10.symm)
          | fail)
        go_roundw
        case rel => exact ⟨j + 1, by omega, by go_num, HO9.out⟩
        case measure => simp [intOf]; omega
      · obtain rfl : j = m := by omega
        have HAt := Lib.hid (At_any f5.fa (by show 0 ≤ X.df ∧ X.df ≤ _; rw [hov.sm.2.2.2]; omega) (by show 0 ≤ X.dw ∧ X.dw ≤ _; rw [hov.dw]; omega))
        have hdue : due (X.fc s5.qb s5.ov).df (X.fc s5.qb s5.ov).dw = .tuple #[.int .i64 0, .bool false] := if_neg (by show ¬ 0 < X.dw; rw [hov.dw]; omega)
        rw [hdue, e5] at HAt
        have HOV := Lib.hid hov
        unfold ptr at HAt
        clear hov f5 hdue
        go_wp2_with (first
          | (go_at_call 12; refine HAt.out.mono ?_; rintro e w6 ⟨rfl, b6⟩; have HO6 := Lib.hid (HOV.out.below b6); clear b6)
          | fail)
        obtain ⟨s6, e6, f6⟩ := HO6.out.fl
        have HOut := Lib.hid (Out_any f6)
        obtain ⟨A6, c6, hv6, hc6, hm6⟩ := own_slice f6.row
        have hl6 : s6.ol.length = 0 := by rw [← List.length_map (f := Oc.key), f6.os, HO6.out.os]; rfl
        rw [hl6] at hv6
        rw [e6, hv6] at HOut
        unfold ptr at HOut
        have HF6 := Lib.hid f6
        clear f6 hv6 hl6 hc6 hm6
        refine HOut.out.mono ?_
        rintro e w7 ⟨rfl, f7, c7⟩
        rw [show X.quiet = X from by have := HO6.out.os; unfold F.quiet; rw [← this]] at f7
        have hO7 : Ov W w1.heap.size s2.fb X vs W.heap.size w7 := ⟨⟨s6.quiet, e6, f7⟩, HO6.out.bx.ch (by have := HV.out.len; omega) c7 (fun e => by have := (HF6.out.in_ (.inl rfl)).1; have := HO6.out.lo; omega), ((Ch.of_below (fun k => k = s2.fb) HO6.out.bel).then_ c7).below (fun k hk e => by have := (HF6.out.in_ (.inl rfl)).1; have := HO6.out.lo; omega), HO6.out.lo, HO6.out.st, HO6.out.dw, HO6.out.os, HO6.out.E, HO6.out.d, HO6.out.sm⟩
        have HO7 := Lib.hid hO7
        clear hO7 f7 c7 HOut
        obtain ⟨s7, e7, f7⟩ := HO7.out.fl
        have HSt : Hid (Calls Try.prog 13 #[.pointer (some ⟨s2.fb, 0, none⟩)] w7 fun e w' => e = .returned (.int .i64 11) ∧ w' = w7) := Lib.hid (by
          have h1 := State_any f7.fa
          rw [show (X.fc s7.qb s7.ov).st = 11 from HO7.out.st, e7] at h1
          exact h1)
        have HSe := Lib.hid (fun (w : World) (b : Below w7.heap.size w7 w) (r : RB w (some ⟨w7.heap.size, 0, none⟩) 1 1 [1]) => Send_any (f7.below b) _ 1 1 [1] r (fun g o s' e _ hT => by
          injection e with e
          injection e with e
          have := (f7.in_ hT).2
          omega) 1 (by unfold isInt; decide) false (by have := HO7.out.sm.1; omega) (by rw [HO7.out.os]; exact Nat.zero_le _) HO7.out.E 9 (by unfold isInt; decide))
        have hpe : X.putE [1] = 9 := if_neg (by rw [HO7.out.st]; decide)
        have hput : X.put 1 false [1] 9 = X := if_neg (by rw [HO7.out.st]; decide)
        rw [hpe, hput, e7] at HSe
        have HCl := Lib.hid (fun (w : World) (o : Ov W w1.heap.size s2.fb X vs W.heap.size w) (s : Sh) (e : s.fb = s2.fb) (f : Fl w1.heap.size w s X) => Close_any f (by have := o.sm.1; omega) (by rw [o.os]; exact Nat.zero_le _) o.E 9 (by unfold isInt; decide))
        have hce : X.closeE = 9 := if_neg (by rw [HO7.out.st]; decide)
        have hcl : X.close 9 = X := by unfold F.close; rw [if_neg (by rw [HO7.out.st]; decide), if_neg (by rw [HO7.out.st]; decide)]
        rw [hce, hcl] at HCl
        have HTe := Lib.hid (fun (w : World) (o : Ov W w1.heap.size s2.fb X vs W.heap.size w) (s : Sh) (e : s.fb = s2.fb) (f : Fl w1.heap.size w s X) => Tell_dead f (.inr o.st))
        have HPr := Lib.hid (fun (w : World) (o : Ov W w1.heap.size s2.fb X vs W.heap.size w) (s : Sh) (e : s.fb = s2.fb) (f : Fl w1.heap.size w s X) => Probe_dead f (.inr o.st))
        have HF7 := Lib.hid f7
        have hvn : 0 < vs.length := by have := HV.out.len; omega
        unfold ptr at HSe HCl HTe HPr
        clear f7 hpe hput hce hcl
        go_wp2_with (first
          | (go_at_call 13; refine HSt.out.mono ?_; rintro e w8 ⟨rfl, hw8⟩; obtain rfl : w7 = w8 := hw8.symm)
          | fail)
        have hb8 := below_a w7 (.cells #[.int .u8 1] 5)
        have hr8 : RB (w7.alloc (.cells #[.int .u8 1] 5)) (some ⟨w7.heap.size, 0, none⟩) 1 1 [1] := ⟨rfl, Nat.le_refl _, by unfold maxLen; omega, fun _ => ⟨_, 0, rfl, fun j hj => by
          obtain rfl : j = 0 := by omega
          rw [cell_of_row _ w7.heap.size 0 _ _ (0, 0) (heap_alloc_new w7 _)]
          rfl⟩⟩
        have HS8 := Lib.hid (HSe.out _ hb8 hr8)
        have HO8 := Lib.hid (HO7.out.below hb8)
        have HF8 := Lib.hid (HF7.out.below hb8)
        clear hb8 hr8
        generalize w7.alloc (.cells #[.int .u8 1] 5) = w8 at *
        refine HS8.out.mono ?_
        rintro e w9 ⟨rfl, l9⟩
        have HO9 := Lib.hid (HO8.out.left hvn e7 HF8.out l9)
        clear l9
        obtain ⟨s9, e9, f9⟩ := HO9.out.fl
        have HC9 := Lib.hid (HCl.out _ HO9.out s9 e9 f9)
        rw [e9] at HC9
        have HF9 := Lib.hid f9
        clear f9
        go_wp2_with (first
          | (go_at_call 23; refine HC9.out.mono ?_; rintro e w10 ⟨rfl, l10⟩; have HO10 := Lib.hid (HO9.out.left hvn e9 HF9.out l10); clear l10)
          | fail)
        obtain ⟨s10, e10, f10⟩ := HO10.out.fl
        have HT10 := Lib.hid (HTe.out _ HO10.out s10 e10 f10)
        have HP10 := Lib.hid (HPr.out _ HO10.out s10 e10 f10)
        rw [e10] at HT10 HP10
        clear f10
        refine HT10.out.mono ?_
        rintro e w11 ⟨rfl, hw11⟩
        obtain rfl : w10 = w11 := hw11.symm
        go_wp2_with (first
          | (go_at_call 25; refine HP10.out.mono ?_; rintro e w11 ⟨rfl, hw11⟩; obtain rfl : w10 = w11 := hw11.symm)
          | fail)
        go_ret
        exact ⟨rfl, HO10.out.bel⟩
end Go.Proofs.Ytnpkmkjenlhkiaa

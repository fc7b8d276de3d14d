/- The contracts of the document's own digest, third part: a block's share. Conditions: a block of 64 bytes, eight words. -/
import Derived.Test.YtdgllpcljjhhdaaDoorRefB
import Derived.Deep.QuietTactic
import Derived.BigQuiet
namespace Go.Proofs.YtdgllpcljjhhdaaDoor
set_option linter.unusedVariables false
open Go.RowKit

theorem w_notw (x : UInt32) : (4294967295 - (x.toNat : Int)) % 4294967296 = ((~~~x).toNat : Int) := by
  have := w_lt x
  rw [← w_not]
  omega
theorem w_five (a r c k x : UInt32) : (((a.toNat : Int) + (r.toNat : Int) + (c.toNat : Int) + (k.toNat : Int)) % 4294967296 + (x.toNat : Int)) % 4294967296 = ((a + r + c + k + x).toNat : Int) := by
  rw [UInt32.toNat_add, UInt32.toNat_add, UInt32.toNat_add, UInt32.toNat_add]
  omega
/-- v, moved by one place from place 7 down to behind place j. -/
def sh (f : Nat → UInt32) (j : Nat) : Nat → UInt32 := fun i => if j < i then f (i - 1) else f i
theorem sh_seven (f : Nat → UInt32) (i : Nat) (h : i < 8) : f i = sh f 7 i := by unfold sh; rw [if_neg (by omega)]
theorem sh_step (f : Nat → UInt32) (j : Nat) (h : 0 < j) : put (sh f j) j (sh f j (j - 1)) = sh f (j - 1) := by
  funext i
  unfold put sh
  by_cases e : i = j
  · subst e; rw [if_pos rfl, if_neg (by omega), if_pos (by omega)]
  · rw [if_neg e]
    by_cases h1 : j < i
    · rw [if_pos h1, if_pos (by omega)]
    · rw [if_neg h1, if_neg (by omega)]
theorem rstep_at (v : List UInt32) (k x t1 t2 : UInt32) (h1 : v.getD 7 0 + S1 (v.getD 4 0) + ch (v.getD 4 0) (v.getD 5 0) (v.getD 6 0) + k + x = t1) (h2 : S0 (v.getD 0 0) + mj (v.getD 0 0) (v.getD 1 0) (v.getD 2 0) = t2) (i : Nat) (hi : i < 8) :
    put (put (sh (fun i => v.getD i 0) 0) 4 (v.getD 3 0 + t1)) 0 (t1 + t2) i = (rstep v k x).getD i 0 := by
  subst h1 h2
  match i, hi with
  | 0, _ => rfl
  | 1, _ => rfl
  | 2, _ => rfl
  | 3, _ => rfl
  | 4, _ => rfl
  | 5, _ => rfl
  | 6, _ => rfl
  | 7, _ => rfl

set_option maxRecDepth 8000 in
set_option maxHeartbeats 3200000 in
theorem rcomp_any (A B : Option Addr) (c d : Nat) (l : List UInt8) (h : List UInt32) (w : World) (hh : RI .u32 w B 8 d (us h)) (hr : RB w A 64 c l) :
    Calls Tryd.prog 27 #[.slice B 8 d, .slice A 64 c] w (MadeW w 8 (comp h l)) := by
  have hlen : h.length = 8 := by have := hh.len; rwa [us_length] at this
  have HLEN := Lib.hid hlen
  clear hlen
  go_enter Tryd.func27, Tryd.ntmps27
  go_wp2_with (first
    | (go_at_call 35; refine (rsched_any A c l w hr).mono ?_; rintro e w1 ⟨A1, c1, rfl, s1, b1⟩; clear hr)
    | (go_at_call 36; refine (Words_any w1).mono ?_; rintro e w2 ⟨A2, c2, rfl, s2, b2⟩)
    | (at_builtin; refine wpList_appi (W := w2) rfl _ _ .u32 58 24 4 rfl Tryd.underlying58 infoU32 (by decide) _ 0 [] rfl (World.ownsRow_nil _ _ _ _) (Below.refl _ _) B 8 d (us h) rfl ((hh.below b1).below b2) (by omega) ?_; intro A3 c3 w3 _ o3 b3))
  rw [List.nil_append, Nat.zero_add] at o3
  obtain ⟨g, cap, hv, hg, hcap, hncap, ha⟩ := arr_own o3 (by omega)
  have s3 := s1.below b2
  have s5 := (hh.below b1).below b2
  have bb := below_trans b1 b2
  injection hv with e1 _ e3
  subst e1 e3
  clear o3 hh s1 b1 b2
  go_wp2_with fail
  go_loopw [8] (fun i wr => ∃ k : Nat, k ≤ 64 ∧ i = .int .i64 k ∧ Arr wr g 8 (fun i => (rl l h k).getD i 0) ∧ Below w2.heap.size w2 wr) (fun i _ => 64 - (intOf i).toNat)
  case atStart => exact ⟨0, Nat.zero_le _, rfl, ha, b3⟩
  case round =>
    obtain ⟨k, hk, rfl, ha, hb⟩ := hrel
    clear b3
    by_cases hlt : k < 64
    · have hlt' : (k : Int) < 64 := by omega
      obtain ⟨bK, oK, rfl, kK⟩ := (s2.below hb).at_ hlt
      obtain ⟨bW, oW, rfl, kW⟩ := (s3.below hb).at_ hlt
      rw [us_at] at kK kW
      have HR := Lib.hid (fun t1 t2 => rstep_at (rl l h k) (kn k) (ww l k) t1 t2)
      have HQ : Hid (rl l h (k + 1) = rstep (rl l h k) (kn k) (ww l k)) := Lib.hid rfl
      have HKN : Hid (kk.getD k 0 = kn k) := Lib.hid rfl
      have HWW : Hid ((wl l 64).getD k 0 = ww l k) := Lib.hid rfl
      rw [HKN.out] at kK
      rw [HWW.out] at kW
      generalize kn k = xK at *
      generalize ww l k = xW at *
      generalize rl l h k = v at *
      have k0 := (ha 0 (by omega)).1
      have k1 := (ha 1 (by omega)).1
      have k2 := (ha 2 (by omega)).1
      have k3 := (ha 3 (by omega)).1
      have k4 := (ha 4 (by omega)).1
      have k5 := (ha 5 (by omega)).1
      have k6 := (ha 6 (by omega)).1
      have k7 := (ha 7 (by omega)).1
      generalize ef : (fun i => v.getD i 0) = f at *
      have EF := Lib.hid ef
      have HX : Hid (∀ i, f i = v.getD i 0) := Lib.hid (fun i => by rw [← ef])
      clear ef
      generalize e : f 0 = x0 at k0
      have X0 : Hid (f 0 = x0) := Lib.hid e
      clear e
      generalize e : f 1 = x1 at k1
      have X1 : Hid (f 1 = x1) := Lib.hid e
      clear e
      generalize e : f 2 = x2 at k2
      have X2 : Hid (f 2 = x2) := Lib.hid e
      clear e
      generalize e : f 3 = x3 at k3
      have X3 : Hid (f 3 = x3) := Lib.hid e
      clear e
      generalize e : f 4 = x4 at k4
      have X4 : Hid (f 4 = x4) := Lib.hid e
      clear e
      generalize e : f 5 = x5 at k5
      have X5 : Hid (f 5 = x5) := Lib.hid e
      clear e
      generalize e : f 6 = x6 at k6
      have X6 : Hid (f 6 = x6) := Lib.hid e
      clear e
      generalize e : f 7 = x7 at k7
      have X7 : Hid (f 7 = x7) := Lib.hid e
      clear e
      have R6 := Lib.hid (rotr_lit x4 6 6 rfl (by omega) (by omega))
      have R11 := Lib.hid (rotr_lit x4 11 11 rfl (by omega) (by omega))
      have R25 := Lib.hid (rotr_lit x4 25 25 rfl (by omega) (by omega))
      have R2 := Lib.hid (rotr_lit x0 2 2 rfl (by omega) (by omega))
      have R13 := Lib.hid (rotr_lit x0 13 13 rfl (by omega) (by omega))
      have R22 := Lib.hid (rotr_lit x0 22 22 rfl (by omega) (by omega))
      go_wp2_with fail
      go_quiet (fail)
      rw [w_notw, w_and, w_and, w_xor]
      generalize e : (x4 &&& x5) ^^^ (~~~x4 &&& x6) = C
      have HC : Hid (ch x4 x5 x6 = C) := Lib.hid e
      clear e
      generalize hw : wr.drewN nq = wa
      have tr : ∀ a, wr.cell? a = wa.cell? a := fun a => by rw [← hw]; rfl
      rw [tr] at k0
      rw [tr] at k1
      rw [tr] at k2
      rw [tr] at k3
      rw [tr] at k4
      rw [tr] at k5
      rw [tr] at k6
      rw [tr] at k7
      rw [tr] at kK
      rw [tr] at kW
      have ha1 := ha.drewN nq
      have hb1 := below_drewN hb nq
      rw [hw] at ha1 hb1
      clear hw tr ha hb
      go_wp2_with fail
      go_quiet (fail)
      rw [w_and, w_and, w_and, w_xor, w_xor]
      generalize e : (x0 &&& x1) ^^^ (x0 &&& x2) ^^^ (x1 &&& x2) = M
      have HM : Hid (mj x0 x1 x2 = M) := Lib.hid e
      clear e
      generalize hw : wa.drewN nq = wb
      have tr : ∀ a, wa.cell? a = wb.cell? a := fun a => by rw [← hw]; rfl
      rw [tr] at k0
      rw [tr] at k1
      rw [tr] at k2
      rw [tr] at k3
      rw [tr] at k4
      rw [tr] at k5
      rw [tr] at k6
      rw [tr] at k7
      rw [tr] at kK
      rw [tr] at kW
      have ha2 := ha1.drewN nq
      have hb2 := below_drewN hb1 nq
      rw [hw] at ha2 hb2
      clear hw tr ha1 hb1
      go_wp2_with fail
      go_quiet (first | (go_at_call_of 37 (Value.int IntKind.u32 6); exact Calls.quiet_of_same (R6.out _)) | (go_at_call_of 37 (Value.int IntKind.u32 11); exact Calls.quiet_of_same (R11.out _)) | (go_at_call_of 37 (Value.int IntKind.u32 25); exact Calls.quiet_of_same (R25.out _)))
      rw [w_xor, w_xor, w_five]
      generalize e : x7 + (rr 6 x4 ^^^ rr 11 x4 ^^^ rr 25 x4) + C + xK + xW = T1
      have H1 : Hid (x7 + S1 x4 + ch x4 x5 x6 + xK + xW = T1) := Lib.hid (by rw [HC.out]; exact e)
      clear e R6 R11 R25 HC kK kW
      generalize hw : wb.drewN nq = wd
      have tr : ∀ a, wb.cell? a = wd.cell? a := fun a => by rw [← hw]; rfl
      rw [tr] at k0
      rw [tr] at k1
      rw [tr] at k2
      rw [tr] at k3
      rw [tr] at k4
      rw [tr] at k5
      rw [tr] at k6
      rw [tr] at k7
      have ha3 := ha2.drewN nq
      have hb3 := below_drewN hb2 nq
      rw [hw] at ha3 hb3
      clear hw tr ha2 hb2
      go_wp2_with fail
      go_quiet (first | (go_at_call_of 37 (Value.int IntKind.u32 2); exact Calls.quiet_of_same (R2.out _)) | (go_at_call_of 37 (Value.int IntKind.u32 13); exact Calls.quiet_of_same (R13.out _)) | (go_at_call_of 37 (Value.int IntKind.u32 22); exact Calls.quiet_of_same (R22.out _)))
      rw [w_xor, w_xor, w_add]
      generalize e : (rr 2 x0 ^^^ rr 13 x0 ^^^ rr 22 x0) + M = T2
      have H2 : Hid (S0 x0 + mj x0 x1 x2 = T2) := Lib.hid (by rw [HM.out]; exact e)
      clear e R2 R13 R22 HM
      have ha4 := ha3.drewN nq
      have hb4 := below_drewN hb3 nq
      clear k0 k1 k2 k3 k4 k5 k6 k7 ha3 hb3
      generalize wd.drewN nq = we at *
      go_wp2_with fail
      go_loopw [13] (fun i wr => ∃ j : Nat, j ≤ 7 ∧ i = .int .i64 j ∧ Arr wr g 8 (sh f j) ∧ Below w2.heap.size w2 wr) (fun i _ => (intOf i).toNat)
      case atStart => exact ⟨7, Nat.le_refl _, rfl, ha4.congr (sh_seven f), hb4⟩
      case round =>
        obtain ⟨j, hj, rfl, ha5, hb5⟩ := hrel
        clear ha4 hb4
        by_cases hj0 : 0 < j
        · have e1 : (j : Int) - 1 = ((j - 1 : Nat) : Int) := by omega
          have q1 : ((j - 1 : Nat) : Int) < 8 := by omega
          have q2 : (j : Int) < 8 := by omega
          have c1 := (ha5 (j - 1) (by omega)).1
          obtain ⟨c2, f2⟩ := ha5 j (by omega)
          have HS := Lib.hid (sh_step f j hj0)
          have ha6 := ha5.set j (sh f j (j - 1))
          rw [HS.out] at ha6
          have hb6 := hb5.setCell (p := ⟨g, j, none⟩) hg (c32 (sh f j (j - 1)))
          have HJ : Hid (j - 1 < j) := Lib.hid (by omega)
          have HJ7 : Hid (j - 1 ≤ 7) := Lib.hid (by omega)
          generalize sh f j (j - 1) = y at *
          generalize j - 1 = p at *
          clear HS ha5 hb5
          go_wp2_with fail
          go_roundw
          case rel => exact ⟨p, HJ7.out, rfl, ha6, hb6⟩
          case measure => have := HJ.out; simp [intOf]; omega
        · obtain rfl : j = 0 := by omega
          obtain ⟨c4, f4⟩ := ha5 4 (by omega)
          obtain ⟨c0, f0⟩ := ha5 0 (by omega)
          have h4 : sh f 0 4 = x3 := X3.out
          rw [h4] at c4
          have ha6 := (ha5.set 4 (x3 + T1)).set 0 (T1 + T2)
          have hb6 := (hb5.setCell (p := ⟨g, 4, none⟩) hg (c32 (x3 + T1))).setCell (p := ⟨g, 0, none⟩) hg (c32 (T1 + T2))
          have ha7 := ha6.congr (g := fun i => (rl l h (k + 1)).getD i 0) (fun i hi => by
            have hq := HR.out T1 T2 (by rw [← HX.out 7, ← HX.out 4, ← HX.out 5, ← HX.out 6, X7.out, X4.out, X5.out, X6.out]; exact H1.out) (by rw [← HX.out 0, ← HX.out 1, ← HX.out 2, X0.out, X1.out, X2.out]; exact H2.out) i hi
            rw [← HX.out 3, X3.out] at hq
            rw [HQ.out]
            exact hq)
          clear h4 ha5 hb5 ha6 HR X0 X1 X2 X3 X4 X5 X6 X7 HX EF HQ H1 H2
          go_wp2_with fail
          rw [w_add, w_add]
          generalize x3 + T1 = z4 at *
          generalize T1 + T2 = z0 at *
          go_roundw
          case rel => exact ⟨k + 1, by omega, by go_num, ha7, hb6⟩
          case measure => simp [intOf]; omega
    · obtain rfl : k = 64 := by omega
      rw [show ((64 : Nat) : Int) = 64 from rfl]
      have HC : Hid (∀ j, j < 8 → us ((comp h l).take (j + 1)) = us ((comp h l).take j) ++ us [h.getD j 0 + (rl l h 64).getD j 0]) := Lib.hid (fun j hj => by
        rw [List.take_succ_eq_append_getElem (by rw [comp_length]; exact hj), us_append]
        simp [comp])
      generalize rl l h 64 = v at *
      obtain ⟨wx, rfl⟩ : ∃ wx, wx = wr := ⟨_, rfl⟩
      have hsz := hb.size
      have s6 := s5.below hb
      have hgw := ha.lt (by omega)
      obtain ⟨bB, oB, rfl, cB⟩ := s6.at_ (j := 0) (by omega)
      go_wp2_with fail
      go_loopw [14, 15] (fun u i wq => ∃ j : Nat, j ≤ 8 ∧ i = .int .i64 j ∧ wq.ownsRow wx.heap.size 24 1 u j (iv .u32 (us ((comp h l).take j))) ∧ Below wx.heap.size wx wq) (fun _ i _ => 8 - (intOf i).toNat)
      case atStart => exact ⟨0, Nat.zero_le _, rfl, World.ownsRow_nil _ _ _ _, Below.refl _ _⟩
      case round =>
        obtain ⟨j, hj, rfl, hown, hbq⟩ := hrel
        by_cases hlt : j < 8
        · have hlt' : (j : Int) < 8 := by omega
          have c1 := ((ha.below hbq) j hlt).1
          have c2 := (s6.below hbq).word hlt
          have hE := Lib.hid (HC.out j hlt)
          have nb : u14.ownBlock ≠ some g := fun e => by have := (hown.lt _ e).1; omega
          have lB := World.block_lt_of_cell? wx _ cB
          have nb2 : u14.ownBlock ≠ some bB := fun e => by have := (hown.lt _ e).1; simp at lB; omega
          have hs := hbq.size
          generalize h.getD j 0 = y at *
          generalize v.getD j 0 = x at *
          go_wp2_with fail
          go_region_law ((refine step_appi _ .u32 (by rfl) _ _ _ _ 4 (by rfl) Tryd.underlying58 infoU32 (by decide) wx.heap.size _ _ _ (by rfl) ((hown.alloc _).drew) _ 1 1 _ (by rfl) (RI.sum2 wr y x 24).drew ?_ ?_ ?_; (first | omega | skip); (first | (simp; omega) | skip); intro v' w6 hown' hgrow hat))
          all_goals
            rw [← hE.out] at hown'
            have hb2 := ((hbq.alloc hbq.size _).drew).grown hgrow (by simp; omega) (fun k hk => (hown.lt k hk).1)
            clear hown hgrow hat hbq c1 c2 hE nb nb2
            go_wp2_with fail
            go_roundw
            case rel => exact ⟨j + 1, by omega, by go_num, hown', hb2⟩
            case measure => simp [intOf]; omega
        · obtain rfl : j = 8 := by omega
          rw [List.take_of_length_le (by rw [comp_length]; exact Nat.le_refl _)] at hown
          obtain ⟨A5, c5, rfl, r5, _⟩ := RI.of_own hown
          have hbb := (below_trans bb hb).trans (hbq.mono (Nat.le_trans bb.size hb.size))
          clear hown
          go_wp2_with fail
          go_ret
          exact ⟨A5, c5, rfl, r5, hbb⟩
end Go.Proofs.YtdgllpcljjhhdaaDoor

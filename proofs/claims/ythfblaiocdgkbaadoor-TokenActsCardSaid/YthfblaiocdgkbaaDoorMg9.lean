/- The contracts of the document's own digest, third part: a block's share. Conditions: a block of 64 bytes, eight words.
append of bytes onto a slice that the call owns, as a step of a region that draws its order. Condition: what comes out is at most 2^40 bytes long.
The contract of the document's own digest. Condition: at most 2^38 bytes.
The contract of the document's own width. No condition.
The contract of the document's own way to put a number in bytes: what it answers lies in memory of its own. Condition: the number is one of 64 bits.
The contract of the document's own number of some bytes. Condition: a slice of at most eight bytes.
The contract of the document's own token. Condition: the key is a number of 64 bits. -/
import Derived.Test.YthfblaiocdgkbaaDoorMg8
import Derived.Deep.QuietTactic
import Derived.BigQuiet
import Derived.Test.YthfblaiocdgkbaaDoorMg1
import Derived.Deep.RegionLaw
import Derived.Deep.AppendLies
import Derived.Test.YthfblaiocdgkbaaDoorMg5
import Derived.Deep.RegionHeld3
namespace Go.Proofs.YthfblaiocdgkbaaDoor
set_option linter.unusedVariables false
set_option linter.unusedSimpArgs false
open Go.RowKit

theorem w_notw (x : UInt32) : (4294967295 - (x.toNat : Int)) % 4294967296 = ((~~~x).toNat : Int) := by
  have := w_lt x
  rw [← w_not]
  omega
theorem w_five (a r c k x : UInt32) : (((a.toNat : Int) + (r.toNat : Int) + (c.toNat : Int) + (k.toNat : Int)) % 4294967296 + (x.toNat : Int)) % 4294967296 = ((a + r + c + k + x).toNat : Int) := by
  rw [UInt32.toNat_add, UInt32.toNat_add, UInt32.toNat_add, UInt32.toNat_add]
  omega
/-- v, moved by one place from place 7 down to behind place j. -/
def sh (f : Nat → UInt32) (j : Nat) : Nat → UInt32 := fun i => if j < i then f (i - 1) else f i
theorem sh_seven (f : Nat → UInt32) (i : Nat) (h : i < 8) : f i = sh f 7 i := by unfold sh; rw [if_neg (by omega)]
theorem sh_step (f : Nat → UInt32) (j : Nat) (h : 0 < j) : put (sh f j) j (sh f j (j - 1)) = sh f (j - 1) := by
  funext i
  unfold put sh
  by_cases e : i = j
  · subst e; rw [if_pos rfl, if_neg (by omega), if_pos (by omega)]
  · rw [if_neg e]
    by_cases h1 : j < i
    · rw [if_pos h1, if_pos (by omega)]
    · rw [if_neg h1, if_neg (by omega)]
theorem rstep_at (v : List UInt32) (k x t1 t2 : UInt32) (h1 : v.getD 7 0 + S1 (v.getD 4 0) + ch (v.getD 4 0) (v.getD 5 0) (v.getD 6 0) + k + x = t1) (h2 : S0 (v.getD 0 0) + mj (v.getD 0 0) (v.getD 1 0) (v.getD 2 0) = t2) (i : Nat) (hi : i < 8) :
    put (put (sh (fun i => v.getD i 0) 0) 4 (v.getD 3 0 + t1)) 0 (t1 + t2) i = (rstep v k x).getD i 0 := by
  subst h1 h2
  match i, hi with
  | 0, _ => rfl
  | 1, _ => rfl
  | 2, _ => rfl
  | 3, _ => rfl
  | 4, _ => rfl
  | 5, _ => rfl
  | 6, _ => rfl
  | 7, _ => rfl

set_option maxRecDepth 8000 in
set_option maxHeartbeats 3200000 in
theorem rcomp_any (A B : Option Addr) (c d : Nat) (l : List UInt8) (h : List UInt32) (w : World) (hh : RI .u32 w B 8 d (us h)) (hr : RB w A 64 c l) :
    Calls Tryd.prog 43 #[.slice B 8 d, .slice A 64 c] w (MadeW w 8 (comp h l)) := by
  have hlen : h.length = 8 := by have := hh.len; rwa [us_length] at this
  have HLEN := Lib.hid hlen
  clear hlen
  go_enter Tryd.func43, Tryd.ntmps43
  go_wp2_with (first
    | (go_at_call 60; refine (rsched_any A c l w hr).mono ?_; rintro e w1 ⟨A1, c1, rfl, s1, b1⟩; clear hr)
    | (go_at_call 61; refine (Words_any w1).mono ?_; rintro e w2 ⟨A2, c2, rfl, s2, b2⟩)
    | (at_builtin; refine wpList_appi (W := w2) rfl _ _ .u32 95 38 4 rfl Tryd.underlying95 infoU32 (by decide) _ 0 [] rfl (World.ownsRow_nil _ _ _ _) (Below.refl _ _) B 8 d (us h) rfl ((hh.below b1).below b2) (by omega) ?_; intro A3 c3 w3 _ o3 b3))
  rw [List.nil_append, Nat.zero_add] at o3
  obtain ⟨g, cap, hv, hg, hcap, hncap, ha⟩ := arr_own o3 (by omega)
  have s3 := s1.below b2
  have s5 := (hh.below b1).below b2
  have bb := below_trans b1 b2
  injection hv with e1 _ e3
  subst e1 e3
  clear o3 hh s1 b1 b2
  go_wp2_with fail
  go_loopw [8] (fun i wr => ∃ k : Nat, k ≤ 64 ∧ i = .int .i64 k ∧ Arr wr g 8 (fun i => (rl l h k).getD i 0) ∧ Below w2.heap.size w2 wr) (fun i _ => 64 - (intOf i).toNat)
  case atStart => exact ⟨0, Nat.zero_le _, rfl, ha, b3⟩
  case round =>
    obtain ⟨k, hk, rfl, ha, hb⟩ := hrel
    clear b3
    by_cases hlt : k < 64
    · have hlt' : (k : Int) < 64 := by omega
      obtain ⟨bK, oK, rfl, kK⟩ := (s2.below hb).at_ hlt
      obtain ⟨bW, oW, rfl, kW⟩ := (s3.below hb).at_ hlt
      rw [us_at] at kK kW
      have HR := Lib.hid (fun t1 t2 => rstep_at (rl l h k) (kn k) (ww l k) t1 t2)
      have HQ : Hid (rl l h (k + 1) = rstep (rl l h k) (kn k) (ww l k)) := Lib.hid rfl
      have HKN : Hid (kk.getD k 0 = kn k) := Lib.hid rfl
      have HWW : Hid ((wl l 64).getD k 0 = ww l k) := Lib.hid rfl
      rw [HKN.out] at kK
      rw [HWW.out] at kW
      generalize kn k = xK at *
      generalize ww l k = xW at *
      generalize rl l h k = v at *
      have k0 := (ha 0 (by omega)).1
      have k1 := (ha 1 (by omega)).1
      have k2 := (ha 2 (by omega)).1
      have k3 := (ha 3 (by omega)).1
      have k4 := (ha 4 (by omega)).1
      have k5 := (ha 5 (by omega)).1
      have k6 := (ha 6 (by omega)).1
      have k7 := (ha 7 (by omega)).1
      generalize ef : (fun i => v.getD i 0) = f at *
      have EF := Lib.hid ef
      have HX : Hid (∀ i, f i = v.getD i 0) := Lib.hid (fun i => by rw [← ef])
      clear ef
      generalize e : f 0 = x0 at k0
      have X0 : Hid (f 0 = x0) := Lib.hid e
      clear e
      generalize e : f 1 = x1 at k1
      have X1 : Hid (f 1 = x1) := Lib.hid e
      clear e
      generalize e : f 2 = x2 at k2
      have X2 : Hid (f 2 = x2) := Lib.hid e
      clear e
      generalize e : f 3 = x3 at k3
      have X3 : Hid (f 3 = x3) := Lib.hid e
      clear e
      generalize e : f 4 = x4 at k4
      have X4 : Hid (f 4 = x4) := Lib.hid e
      clear e
      generalize e : f 5 = x5 at k5
      have X5 : Hid (f 5 = x5) := Lib.hid e
      clear e
      generalize e : f 6 = x6 at k6
      have X6 : Hid (f 6 = x6) := Lib.hid e
      clear e
      generalize e : f 7 = x7 at k7
      have X7 : Hid (f 7 = x7) := Lib.hid e
      clear e
      have R6 := Lib.hid (rotr_lit x4 6 6 rfl (by omega) (by omega))
      have R11 := Lib.hid (rotr_lit x4 11 11 rfl (by omega) (by omega))
      have R25 := Lib.hid (rotr_lit x4 25 25 rfl (by omega) (by omega))
      have R2 := Lib.hid (rotr_lit x0 2 2 rfl (by omega) (by omega))
      have R13 := Lib.hid (rotr_lit x0 13 13 rfl (by omega) (by omega))
      have R22 := Lib.hid (rotr_lit x0 22 22 rfl (by omega) (by omega))
      go_wp2_with fail
      go_quiet (fail)
      rw [w_notw, w_and, w_and, w_xor]
      generalize e : (x4 &&& x5) ^^^ (~~~x4 &&& x6) = C
      have HC : Hid (ch x4 x5 x6 = C) := Lib.hid e
      clear e
      generalize hw : wr.drewN nq = wa
      have tr : ∀ a, wr.cell? a = wa.cell? a := fun a => by rw [← hw]; rfl
      rw [tr] at k0
      rw [tr] at k1
      rw [tr] at k2
      rw [tr] at k3
      rw [tr] at k4
      rw [tr] at k5
      rw [tr] at k6
      rw [tr] at k7
      rw [tr] at kK
      rw [tr] at kW
      have ha1 := ha.drewN nq
      have hb1 := below_drewN hb nq
      rw [hw] at ha1 hb1
      clear hw tr ha hb
      go_wp2_with fail
      go_quiet (fail)
      rw [w_and, w_and, w_and, w_xor, w_xor]
      generalize e : (x0 &&& x1) ^^^ (x0 &&& x2) ^^^ (x1 &&& x2) = M
      have HM : Hid (mj x0 x1 x2 = M) := Lib.hid e
      clear e
      generalize hw : wa.drewN nq = wb
      have tr : ∀ a, wa.cell? a = wb.cell? a := fun a => by rw [← hw]; rfl
      rw [tr] at k0
      rw [tr] at k1
      rw [tr] at k2
      rw [tr] at k3
      rw [tr] at k4
      rw [tr] at k5
      rw [tr] at k6
      rw [tr] at k7
      rw [tr] at kK
      rw [tr] at kW
      have ha2 := ha1.drewN nq
      have hb2 := below_drewN hb1 nq
      rw [hw] at ha2 hb2
      clear hw tr ha1 hb1
      go_wp2_with fail
      go_quiet (first | (go_at_call_of 62 (Value.int IntKind.u32 6); exact Calls.quiet_of_same (R6.out _)) | (go_at_call_of 62 (Value.int IntKind.u32 11); exact Calls.quiet_of_same (R11.out _)) | (go_at_call_of 62 (Value.int IntKind.u32 25); exact Calls.quiet_of_same (R25.out _)))
      rw [w_xor, w_xor, w_five]
      generalize e : x7 + (rr 6 x4 ^^^ rr 11 x4 ^^^ rr 25 x4) + C + xK + xW = T1
      have H1 : Hid (x7 + S1 x4 + ch x4 x5 x6 + xK + xW = T1) := Lib.hid (by rw [HC.out]; exact e)
      clear e R6 R11 R25 HC kK kW
      generalize hw : wb.drewN nq = wd
      have tr : ∀ a, wb.cell? a = wd.cell? a := fun a => by rw [← hw]; rfl
      rw [tr] at k0
      rw [tr] at k1
      rw [tr] at k2
      rw [tr] at k3
      rw [tr] at k4
      rw [tr] at k5
      rw [tr] at k6
      rw [tr] at k7
      have ha3 := ha2.drewN nq
      have hb3 := below_drewN hb2 nq
      rw [hw] at ha3 hb3
      clear hw tr ha2 hb2
      go_wp2_with fail
      go_quiet (first | (go_at_call_of 62 (Value.int IntKind.u32 2); exact Calls.quiet_of_same (R2.out _)) | (go_at_call_of 62 (Value.int IntKind.u32 13); exact Calls.quiet_of_same (R13.out _)) | (go_at_call_of 62 (Value.int IntKind.u32 22); exact Calls.quiet_of_same (R22.out _)))
      rw [w_xor, w_xor, w_add]
      generalize e : (rr 2 x0 ^^^ rr 13 x0 ^^^ rr 22 x0) + M = T2
      have H2 : Hid (S0 x0 + mj x0 x1 x2 = T2) := Lib.hid (by rw [HM.out]; exact e)
      clear e R2 R13 R22 HM
      have ha4 := ha3.drewN nq
      have hb4 := below_drewN hb3 nq
      clear k0 k1 k2 k3 k4 k5 k6 k7 ha3 hb3
      generalize wd.drewN nq = we at *
      go_wp2_with fail
      go_loopw [13] (fun i wr => ∃ j : Nat, j ≤ 7 ∧ i = .int .i64 j ∧ Arr wr g 8 (sh f j) ∧ Below w2.heap.size w2 wr) (fun i _ => (intOf i).toNat)
      case atStart => exact ⟨7, Nat.le_refl _, rfl, ha4.congr (sh_seven f), hb4⟩
      case round =>
        obtain ⟨j, hj, rfl, ha5, hb5⟩ := hrel
        clear ha4 hb4
        by_cases hj0 : 0 < j
        · have e1 : (j : Int) - 1 = ((j - 1 : Nat) : Int) := by omega
          have q1 : ((j - 1 : Nat) : Int) < 8 := by omega
          have q2 : (j : Int) < 8 := by omega
          have c1 := (ha5 (j - 1) (by omega)).1
          obtain ⟨c2, f2⟩ := ha5 j (by omega)
          have HS := Lib.hid (sh_step f j hj0)
          have ha6 := ha5.set j (sh f j (j - 1))
          rw [HS.out] at ha6
          have hb6 := hb5.setCell (p := ⟨g, j, none⟩) hg (c32 (sh f j (j - 1)))
          have HJ : Hid (j - 1 < j) := Lib.hid (by omega)
          have HJ7 : Hid (j - 1 ≤ 7) := Lib.hid (by omega)
          generalize sh f j (j - 1) = y at *
          generalize j - 1 = p at *
          clear HS ha5 hb5
          go_wp2_with fail
          go_roundw
          case rel => exact ⟨p, HJ7.out, rfl, ha6, hb6⟩
          case measure => have := HJ.out; simp [intOf]; omega
        · obtain rfl : j = 0 := by omega
          obtain ⟨c4, f4⟩ := ha5 4 (by omega)
          obtain ⟨c0, f0⟩ := ha5 0 (by omega)
          have h4 : sh f 0 4 = x3 := X3.out
          rw [h4] at c4
          have ha6 := (ha5.set 4 (x3 + T1)).set 0 (T1 + T2)
          have hb6 := (hb5.setCell (p := ⟨g, 4, none⟩) hg (c32 (x3 + T1))).setCell (p := ⟨g, 0, none⟩) hg (c32 (T1 + T2))
          have ha7 := ha6.congr (g := fun i => (rl l h (k + 1)).getD i 0) (fun i hi => by
            have hq := HR.out T1 T2 (by rw [← HX.out 7, ← HX.out 4, ← HX.out 5, ← HX.out 6, X7.out, X4.out, X5.out, X6.out]; exact H1.out) (by rw [← HX.out 0, ← HX.out 1, ← HX.out 2, X0.out, X1.out, X2.out]; exact H2.out) i hi
            rw [← HX.out 3, X3.out] at hq
            rw [HQ.out]
            exact hq)
          clear h4 ha5 hb5 ha6 HR X0 X1 X2 X3 X4 X5 X6 X7 HX EF HQ H1 H2
          go_wp2_with fail
          rw [w_add, w_add]
          generalize x3 + T1 = z4 at *
          generalize T1 + T2 = z0 at *
          go_roundw
          case rel => exact ⟨k + 1, by omega, by go_num, ha7, hb6⟩
          case measure => simp [intOf]; omega
    · obtain rfl : k = 64 := by omega
      rw [show ((64 : Nat) : Int) = 64 from rfl]
      have HC : Hid (∀ j, j < 8 → us ((comp h l).take (j + 1)) = us ((comp h l).take j) ++ us [h.getD j 0 + (rl l h 64).getD j 0]) := Lib.hid (fun j hj => by
        rw [List.take_succ_eq_append_getElem (by rw [comp_length]; exact hj), us_append]
        simp [comp])
      generalize rl l h 64 = v at *
      obtain ⟨wx, rfl⟩ : ∃ wx, wx = wr := ⟨_, rfl⟩
      have hsz := hb.size
      have s6 := s5.below hb
      have hgw := ha.lt (by omega)
      obtain ⟨bB, oB, rfl, cB⟩ := s6.at_ (j := 0) (by omega)
      go_wp2_with fail
      go_loopw [14, 15] (fun u i wq => ∃ j : Nat, j ≤ 8 ∧ i = .int .i64 j ∧ wq.ownsRow wx.heap.size 38 1 u j (iv .u32 (us ((comp h l).take j))) ∧ Below wx.heap.size wx wq) (fun _ i _ => 8 - (intOf i).toNat)
      case atStart => exact ⟨0, Nat.zero_le _, rfl, World.ownsRow_nil _ _ _ _, Below.refl _ _⟩
      case round =>
        obtain ⟨j, hj, rfl, hown, hbq⟩ := hrel
        by_cases hlt : j < 8
        · have hlt' : (j : Int) < 8 := by omega
          have c1 := ((ha.below hbq) j hlt).1
          have c2 := (s6.below hbq).word hlt
          have hE := Lib.hid (HC.out j hlt)
          have nb : u14.ownBlock ≠ some g := fun e => by have := (hown.lt _ e).1; omega
          have lB := World.block_lt_of_cell? wx _ cB
          have nb2 : u14.ownBlock ≠ some bB := fun e => by have := (hown.lt _ e).1; simp at lB; omega
          have hs := hbq.size
          generalize h.getD j 0 = y at *
          generalize v.getD j 0 = x at *
          go_wp2_with fail
          go_region_law ((refine step_appi _ .u32 (by rfl) _ _ _ _ 4 (by rfl) Tryd.underlying95 infoU32 (by decide) wx.heap.size _ _ _ (by rfl) ((hown.alloc _).drew) _ 1 1 _ (by rfl) (RI.sum2 wr y x 38).drew ?_ ?_ ?_; (first | omega | skip); (first | (simp; omega) | skip); intro v' w6 hown' hgrow hat))
          all_goals
            rw [← hE.out] at hown'
            have hb2 := ((hbq.alloc hbq.size _).drew).grown hgrow (by simp; omega) (fun k hk => (hown.lt k hk).1)
            clear hown hgrow hat hbq c1 c2 hE nb nb2
            go_wp2_with fail
            go_roundw
            case rel => exact ⟨j + 1, by omega, by go_num, hown', hb2⟩
            case measure => simp [intOf]; omega
        · obtain rfl : j = 8 := by omega
          rw [List.take_of_length_le (by rw [comp_length]; exact Nat.le_refl _)] at hown
          obtain ⟨A5, c5, rfl, r5, _⟩ := RI.of_own hown
          have hbb := (below_trans bb hb).trans (hbq.mono (Nat.le_trans bb.size hb.size))
          clear hown
          go_wp2_with fail
          go_ret
          exact ⟨A5, c5, rfl, r5, hbb⟩
end Go.Proofs.YthfblaiocdgkbaaDoor

namespace Go.Proofs.YthfblaiocdgkbaaDoor
set_option linter.unusedVariables false
set_option linter.unusedSimpArgs false
open Go.RowKit

theorem step_app {P : Program} (w : World) {ops : Array Oper} {o : Oper} {a : Act} {K : Act → World → Prop} {Q : Exit → Act → World → Prop} {E : Prop} (hgd : o.guard = none) (s x : Operand) (t e : TypeId)
    (ho : o.op = .call { callee := .builtin .append, args := #[s, x], argTypes := #[t, t] })
    (ht : P.underlying t = some (.slice e)) (hi : (P.info? e).map (fun i => (i.zero, i.size, i.bytes)) = some (some (.int .u8 0), 1, 1))
    (base : Nat) (v : Value) (n : Nat) (l : List UInt8) (hs : a.eval s = v) (hown : w.ownsRow base e 1 v n (bv l))
    (A : Option Addr) (m c : Nat) (r : List UInt8) (hx : a.eval x = .slice A m c) (hr : RB w A m c r) (h40 : n + m ≤ 1099511627776) (hb : base ≤ w.heap.size)
    (h : ∀ v' w', w'.ownsRow base e 1 v' (n + m) (bv (l ++ r)) → w.grownBy w' v.ownBlock → (v'.ownBlock = v.ownBlock ∨ v'.ownBlock = some w.heap.size) → K (a.put o.dst v') w') :
    if Region.wanted o (yielded ops a.tmps) = true then Oper.wp P o a w K Q else E := by
  have hw : Region.wanted o (yielded ops a.tmps) = true := by simp [Region.wanted, hgd]
  rw [if_pos hw]
  obtain ⟨v', w', hrun, h1, h2, h3⟩ := app_run (P := P) w t o.type e ht hi base v n l hown A m c r hr h40 hb
  exact Lib.wp_append_run w s x t t ho _ _ hs hx v' w' hrun (h v' w' h1 h2 h3)
end Go.Proofs.YthfblaiocdgkbaaDoor

namespace Go.Proofs.YthfblaiocdgkbaaDoor
set_option linter.unusedVariables false
set_option linter.unusedSimpArgs false
open Go.RowKit

/-- The length's bytes, as they are told. -/
theorem tell_byte (N j : Nat) (hN : N < 18446744073709551616) (hj : j < 8) : (N * 256 ^ j % 18446744073709551616) / 72057594037927936 % 256 = ((be N 8).getD j 0).toNat := by
  rw [be_at N 8 j hj, UInt8.toNat_ofNat']
  match j, hj with
  | 0, _ => omega
  | 1, _ => omega
  | 2, _ => omega
  | 3, _ => omega
  | 4, _ => omega
  | 5, _ => omega
  | 6, _ => omega
  | 7, _ => omega
theorem tell_next (N j : Nat) : N * 256 ^ j % 18446744073709551616 * 256 % 18446744073709551616 = N * 256 ^ (j + 1) % 18446744073709551616 := by
  rw [Nat.pow_succ, ← Nat.mul_assoc]
  omega
theorem be_next (N j : Nat) (hj : j < 8) : (be N 8).take (j + 1) = (be N 8).take j ++ [(be N 8).getD j 0] := by
  rw [List.take_succ_eq_append_getElem (by rw [be_length]; exact hj)]
  simp [show j < (be N 8).length by rw [be_length]; exact hj]
theorem us_hh : us hh = [1779033703, 3144134277, 1013904242, 2773480762, 1359893119, 2600822924, 528734635, 1541459225] := by decide +kernel
/-- Four bytes of a word. -/
def b4 (x : UInt32) : List UInt8 := [UInt8.ofNat (x.toNat / 2 ^ 24 % 256), UInt8.ofNat (x.toNat / 2 ^ 16 % 256), UInt8.ofNat (x.toNat / 2 ^ 8 % 256), UInt8.ofNat (x.toNat / 2 ^ 0 % 256)]
theorem RB.word (w : World) (x : UInt32) (t : TypeId) :
    RB (w.alloc (.cells #[.int .u8 (IntKind.u8.wrap ((x.toNat : Int) / 16777216)), .int .u8 (IntKind.u8.wrap ((x.toNat : Int) / 65536)), .int .u8 (IntKind.u8.wrap ((x.toNat : Int) / 256)), .int .u8 (IntKind.u8.wrap (x.toNat : Int))] t)) (some ⟨w.heap.size, 0, none⟩) 4 4 (b4 x) := by
  have h : ∀ m : Nat, m < 256 → IntKind.u8.wrap (m : Int) = ((UInt8.ofNat m).toNat : Int) := fun m hm => by rw [IntKind.wrap_u8, UInt8.toNat_ofNat']; omega
  have e0 : IntKind.u8.wrap ((x.toNat : Int) / 16777216) = ((UInt8.ofNat (x.toNat / 2 ^ 24 % 256)).toNat : Int) := by rw [IntKind.wrap_u8, UInt8.toNat_ofNat']; omega
  have e1 : IntKind.u8.wrap ((x.toNat : Int) / 65536) = ((UInt8.ofNat (x.toNat / 2 ^ 16 % 256)).toNat : Int) := by rw [IntKind.wrap_u8, UInt8.toNat_ofNat']; omega
  have e2 : IntKind.u8.wrap ((x.toNat : Int) / 256) = ((UInt8.ofNat (x.toNat / 2 ^ 8 % 256)).toNat : Int) := by rw [IntKind.wrap_u8, UInt8.toNat_ofNat']; omega
  have e3 : IntKind.u8.wrap (x.toNat : Int) = ((UInt8.ofNat (x.toNat / 2 ^ 0 % 256)).toNat : Int) := by rw [IntKind.wrap_u8, UInt8.toNat_ofNat']; omega
  rw [e0, e1, e2, e3]
  exact RB.lit w (b4 x) t (by unfold maxLen; simp [b4])
theorem dg_four (h : List UInt32) (i : Nat) (hi : i < 8) : ((List.range 32).map (wbytes h)).take (4 * (i + 1)) = ((List.range 32).map (wbytes h)).take (4 * i) ++ b4 (h.getD i 0) := by
  have hl : ((List.range 32).map (wbytes h)).length = 32 := by simp
  have g : ∀ q, q < 4 → wbytes h (4 * i + q) = UInt8.ofNat ((h.getD i 0).toNat / 2 ^ (24 - 8 * q) % 256) := fun q hq => by
    unfold wbytes
    rw [show (4 * i + q) / 4 = i by omega, show (4 * i + q) % 4 = q by omega]
  have at_ : ∀ q, (hq : q < 32) → ((List.range 32).map (wbytes h))[q]'(by rw [hl]; exact hq) = wbytes h q := fun q hq => by simp
  rw [show 4 * (i + 1) = 4 * i + 1 + 1 + 1 + 1 by omega, List.take_succ_eq_append_getElem (by rw [hl]; omega), List.take_succ_eq_append_getElem (by rw [hl]; omega), List.take_succ_eq_append_getElem (by rw [hl]; omega), List.take_succ_eq_append_getElem (by rw [hl]; omega),
    at_ _ (by omega), at_ _ (by omega), at_ _ (by omega), at_ _ (by omega)]
  have g0 := g 0 (by omega)
  have g1 := g 1 (by omega)
  have g2 := g 2 (by omega)
  have g3 := g 3 (by omega)
  rw [Nat.add_zero] at g0
  rw [g0, g1, show 4 * i + 1 + 1 = 4 * i + 2 by omega, g2, show 4 * i + 2 + 1 = 4 * i + 3 by omega, g3]
  simp [b4]

/-- A slice's length. -/
def lenV : Value → Nat | .slice _ n _ => n | _ => 0

set_option maxRecDepth 8000 in
set_option maxHeartbeats 3200000 in
theorem rof_any (A : Option Addr) (n c : Nat) (l : List UInt8) (w : World) (h : RB w A n c l) (hn : n ≤ 274877906944) :
    Calls Tryd.prog 31 #[.slice A n c] w (MadeRB w 32 (dg l)) := by
  have hlen := h.len
  have hmx := h.max
  have hcp := h.cap
  have HL := Lib.hid hlen
  clear hlen
  go_enter Tryd.func31, Tryd.ntmps31
  go_wp2_with (first
    | (at_builtin; refine wpList_app_nil (W := w) rfl (.tmp 10) (.tmp 11) 71 5 rfl Tryd.underlying71 infoByte rfl A n c l rfl h (by omega) ?_; intro A1 c1 w1 _ o1 b1)
    | (at_builtin; refine wpList_app_more (W := w) rfl (.tmp 13) (.tmp 14) 71 5 rfl Tryd.underlying71 infoByte _ n l rfl (o1.alloc _) (b1.alloc b1.size _) _ 1 1 [128] rfl (RB.lit1 w1 128 128 _ rfl) (by omega) ?_; intro A2 c2 w2 _ o2 b2; clear o1 b1))
  have hz := Nat.mod_lt (119 - n % 64) (show 0 < 64 by omega)
  have HZ : Hid (∀ j, j ≤ (119 - n % 64) % 64 → ((n + 1 + j) % 64 = 56 ↔ j = (119 - n % 64) % 64)) := Lib.hid (by intro j hj; omega)
  have HN : Hid (n + 1 + (119 - n % 64) % 64 + 8 = 64 * ((full l).length / 64)) := Lib.hid (by rw [← full_blocks, full_length, HL.out]; omega)
  have HF : Hid (l ++ [128] ++ List.replicate ((119 - n % 64) % 64) 0 ++ be (8 * n) 8 = full l) := Lib.hid (by
    unfold full
    rw [HL.out]
    unfold ends
    rw [Nat.mod_eq_of_lt (show 8 * n < 18446744073709551616 by omega)]
    simp)
  generalize (119 - n % 64) % 64 = z at *
  go_loopw [3] (fun v wr => ∃ j A3 c3, j ≤ z ∧ v = .slice A3 (n + 1 + j) c3 ∧ wr.ownsRow w.heap.size 5 1 (.slice A3 (n + 1 + j) c3) (n + 1 + j) (bv (l ++ [128] ++ List.replicate j 0)) ∧ Below w.heap.size w wr) (fun v _ => n + 1 + z - lenV v)
  case atStart => exact ⟨0, A2, c2, Nat.zero_le _, rfl, by simpa using o2, b2⟩
  case round =>
    obtain ⟨j, A3, c3, hj, rfl, o3, b3⟩ := hrel
    clear o2 b2
    have hjz := HZ.out j hj
    by_cases hlt : j < z
    · have hq : (n + 1 + j) % 64 ≠ 56 := fun e => by have := hjz.1 e; omega
      have hq2 : ((((n + 1 + j : Nat) : Int) % 64) == 56) = false := by rw [beq_eq_false_iff_ne]; omega
      have HR : Hid (bv (l ++ [128] ++ List.replicate (j + 1) 0) = bv (l ++ [128] ++ List.replicate j 0 ++ [0])) := Lib.hid (by rw [List.replicate_succ', ← List.append_assoc])
      clear hjz
      generalize l ++ [128] ++ List.replicate j 0 = x at *
      have hq3 : n + 1 + j ≤ 274877907100 := by omega
      generalize hg : n + 1 + j = q at *
      have HG := Lib.hid hg
      clear hg hq
      go_wp2_with (at_builtin; refine wpList_app_more (W := w) rfl (.tmp 20) (.tmp 21) 71 5 rfl Tryd.underlying71 infoByte _ q x rfl (o3.alloc _) (b3.alloc b3.size _) _ 1 1 [0] rfl (RB.lit1 wr 0 0 _ rfl) (by omega) ?_; intro A4 c4 w4 _ o4 b4)
      have HQ : Hid (n + 1 + (j + 1) = q + 1) := Lib.hid (by have := HG.out; omega)
      go_roundw
      case rel => exact ⟨j + 1, A4, c4, by omega, by rw [HQ.out], by rw [HQ.out, HR.out]; exact o4, b4⟩
      case measure => have := HG.out; simp [lenV]; omega
    · obtain rfl : j = z := by omega
      have hq2 : ((((n + 1 + j : Nat) : Int) % 64) == 56) = true := by have := hjz.2 rfl; rw [beq_iff_eq]; omega
      have hq3 : n + 1 + j ≤ 274877907100 := by omega
      have HB := fun i hi => tell_byte (8 * n) i (by omega) hi
      have HX := Lib.hid (fun i => tell_next (8 * n) i)
      have HBE := Lib.hid (fun i hi => be_next (8 * n) i hi)
      have HBH := Lib.hid HB
      have HBL : Hid ((be (8 * n) 8).length = 8) := Lib.hid (be_length _ _)
      clear hjz HB HZ
      generalize l ++ [128] ++ List.replicate j 0 = x at *
      generalize be (8 * n) 8 = bs at *
      generalize hg : n + 1 + j = q at *
      have HG := Lib.hid hg
      clear hg
      have hq4 : (((q : Int) % 64) != 56) = false := by rw [bne, hq2]; rfl
      go_wp2_with fail
      clear hq4
      go_loopw [3, 4, 5] (fun v u i wr => ∃ k A4 c4, k ≤ 8 ∧ i = .int .i64 (k : Nat) ∧ u = .int .u64 ((8 * n * 256 ^ k % 18446744073709551616 : Nat) : Int) ∧ v = .slice A4 (q + k) c4 ∧ wr.ownsRow w.heap.size 5 1 (.slice A4 (q + k) c4) (q + k) (bv (x ++ bs.take k)) ∧ Below w.heap.size w wr) (fun _ _ i _ => 8 - (intOf i).toNat)
      case atStart => exact ⟨0, A3, c3, Nat.zero_le _, rfl, by congr 1; omega, rfl, by simpa using o3, b3⟩
      case round =>
        obtain ⟨k, A4, c4, hk, rfl, rfl, rfl, o4, b4⟩ := hrel
        clear o3 b3 hq2
        by_cases hlt : k < 8
        · have hb := HBH.out k hlt
          have hx := HX.out k
          have HE : Hid (bv (x ++ bs.take (k + 1)) = bv (x ++ bs.take k ++ [bs.getD k 0])) := Lib.hid (by rw [HBE.out k hlt, List.append_assoc])
          have hm := Nat.mod_lt (8 * n * 256 ^ k) (show 0 < 18446744073709551616 by omega)
          generalize hxe : 8 * n * 256 ^ (k + 1) % 18446744073709551616 = X' at *
          have HXE := Lib.hid hxe
          clear hxe
          generalize 8 * n * 256 ^ k % 18446744073709551616 = X at *
          generalize bs.getD k 0 = y at *
          have HY : Hid ((X : Int) / 72057594037927936 = (y.toNat : Int)) := Lib.hid (by omega)
          have HX' : Hid (IntKind.u64.wrap ((X : Int) * 256) = (X' : Int)) := Lib.hid (by simp [IntKind.wrap, IntKind.bits, IntKind.signed]; omega)
          clear hb hx
          go_wp2_with (at_builtin; refine wpList_app_more (W := w) rfl (.tmp 31) (.tmp 35) 71 5 rfl Tryd.underlying71 infoByte _ (q + k) _ rfl (o4.alloc _) (b4.alloc b4.size _) _ 1 1 [y] rfl (RB.lit1 wr _ y _ HY.out) (by omega) ?_; intro A5 c5 w5 _ o5 b5)
          rw [HX'.out]
          go_roundw
          case rel => exact ⟨k + 1, A5, c5, by omega, by go_num, by rw [HXE.out], rfl, by rw [HE.out]; exact o5, b5⟩
          case measure => simp [intOf]; omega
        · obtain rfl : k = 8 := by omega
          rw [List.take_of_length_le (by rw [HBL.out]; exact Nat.le_refl _), HF.out] at o4
          rw [HN.out] at o4 ⊢
          rw [show ((8 : Nat) : Int) = 8 from rfl]
          generalize ((8 * n * 256 ^ 8 % 18446744073709551616 : Nat) : Int) = U
          obtain ⟨A5, c5, hv, r4, _⟩ := RB.of_own o4
          injection hv with e1 _ e3
          subst e1 e3
          obtain ⟨wx, rfl⟩ : ∃ wx, wx = wr := ⟨_, rfl⟩
          have HD : Hid (dg l = (List.range 32).map (wbytes (blocks (full l) ((full l).length / 64)))) := Lib.hid rfl
          have hmc := r4.max
          have hcc := r4.cap
          generalize (full l).length / 64 = B at *
          generalize full l = m at *
          have i0 := RI.lit8 wx 1779033703 3144134277 1013904242 2773480762 1359893119 2600822924 528734635 1541459225 38
          have HU : Hid (us (blocks m 0) = [1779033703, 3144134277, 1013904242, 2773480762, 1359893119, 2600822924, 528734635, 1541459225]) := Lib.hid us_hh
          rw [← HU.out] at i0
          have y0 := below_a wx (.cells #[.int .u32 1779033703, .int .u32 3144134277, .int .u32 1013904242, .int .u32 2773480762, .int .u32 1359893119, .int .u32 2600822924, .int .u32 528734635, .int .u32 1541459225] 38)
          clear HU HX HBE HBH HF o4
          go_wp2_with fail
          go_loopw [6, 7] (fun v i wq => ∃ k A6 c6, k ≤ B ∧ i = .int .i64 ((64 * k : Nat) : Int) ∧ v = .slice A6 8 c6 ∧ RI .u32 wq A6 8 c6 (us (blocks m k)) ∧ Below wx.heap.size wx wq) (fun _ i _ => 64 * B - (intOf i).toNat)
          case atStart => exact ⟨0, _, _, Nat.zero_le _, rfl, rfl, i0, y0⟩
          case round =>
            obtain ⟨k, A6, c6, hk, rfl, rfl, i6, y6⟩ := hrel
            clear i0 y0
            by_cases hlt : k < B
            · have hlt' : 64 * k < 64 * B := by omega
              obtain ⟨A7, hcut, r7⟩ := cut64 (r4.below y6) (k := 64 * k) (by omega)
              have HS : Hid (blocks m (k + 1) = comp (blocks m k) ((m.drop (64 * k)).take 64)) := Lib.hid rfl
              have HI : Hid (((64 * k : Nat) : Int) + 64 = ((64 * (k + 1) : Nat) : Int)) := Lib.hid (by omega)
              have hmx2 : 64 * k + 64 ≤ 64 * B := by omega
              generalize (m.drop (64 * k)).take 64 = y at *
              generalize blocks m k = hs at *
              generalize 64 * k = p at *
              clear r4
              go_wp2_with (go_at_call 43; refine (rcomp_any A7 A6 _ c6 y hs wr i6 r7).mono ?_; rintro e w5 ⟨A8, c8, rfl, i8, y8⟩)
              have y9 := y6.trans (y8.mono y6.size)
              rw [← HS.out] at i8
              clear i6 y6 y8 hcut r7 HS
              go_roundw
              case rel => exact ⟨k + 1, A8, c8, by omega, by rw [HI.out], rfl, i8, y9⟩
              case measure => have := HI.out; simp [intOf]; omega
            · obtain rfl : k = B := by omega
              obtain ⟨wy, rfl⟩ : ∃ wy, wy = wr := ⟨_, rfl⟩
              have HS := Lib.hid (fun j hj => dg_four (blocks m k) j hj)
              have hbb := b4.trans (y6.mono b4.size)
              obtain ⟨bH, oH, rfl, cH⟩ := i6.at_ (j := 0) (by omega)
              rw [← HD.out] at HS
              have HDL : Hid ((dg l).length = 32) := Lib.hid (dg_length l)
              generalize blocks m k = hs at *
              generalize dg l = D at *
              have hlH := World.block_lt_of_cell? wy _ cH
              generalize 64 * k = p at *
              clear r4 cH b4 y6
              go_wp2_with fail
              go_loopw [8, 9] (fun v i wq => ∃ j : Nat, j ≤ 8 ∧ i = .int .i64 j ∧ wq.ownsRow wy.heap.size 5 1 v (4 * j) (bv (D.take (4 * j))) ∧ Below wy.heap.size wy wq) (fun _ i _ => 8 - (intOf i).toNat)
              case atStart => exact ⟨0, Nat.zero_le _, rfl, World.ownsRow_nil _ _ _ _, Below.refl _ _⟩
              case round =>
                obtain ⟨j, hj, rfl, o9, b9⟩ := hrel
                by_cases hlt : j < 8
                · have hlt' : (j : Int) < 8 := by omega
                  have c1 := (i6.below b9).word hlt
                  have HE : Hid (bv (D.take (4 * (j + 1))) = bv (D.take (4 * j) ++ b4 (hs.getD j 0))) := Lib.hid (by rw [HS.out j hlt])
                  have HJ : Hid (4 * (j + 1) = 4 * j + 4) := Lib.hid (by omega)
                  have nb : u8.ownBlock ≠ some bH := fun e => by have := (o9.lt _ e).1; have := hlH; omega
                  have hlq : bH < wr.heap.size := by have := b9.size; have := hlH; omega
                  have hs9 := b9.size
                  generalize hs.getD j 0 = y at *
                  generalize D.take (4 * j) = x9 at *
                  have hq : 4 * j ≤ 32 := by omega
                  generalize 4 * j = q9 at *
                  go_wp2_with fail
                  go_region_held3 (fun w' => w'.cell? ⟨bH, oH + j, none⟩ = some (c32 y)) (first
                      | go_keep
                      | (rw [hgrow.cell_far _ (by simp; omega) (Ne.symm nb)]; assumption))
                    ((refine step_app _ (by rfl) _ _ _ _ (by rfl) Tryd.underlying71 infoByte wy.heap.size _ _ _ (by rfl) ((o9.alloc _).drew) _ 4 4 _ (by rfl) (RB.word wr y 5).drew ?_ ?_ ?_; (first | omega | skip); (first | (simp; omega) | skip); intro v' w6 hown' hgrow hat))
                  all_goals
                    have hb2 := ((b9.alloc b9.size _).drew).grown hgrow (by simp; omega) (fun k hk => (o9.lt k hk).1)
                    clear o9 hgrow hat b9 c1 nb
                    go_wp2_with fail
                    go_roundw
                    case rel => exact ⟨j + 1, by omega, by go_num, by rw [HE.out, HJ.out]; exact hown', hb2⟩
                    case measure => simp [intOf]; omega
                · obtain rfl : j = 8 := by omega
                  rw [List.take_of_length_le (by rw [HDL.out]; exact Nat.le_refl _)] at o9
                  obtain ⟨A9, c9, rfl, r9, _⟩ := RB.of_own o9
                  have hbf := hbb.trans (b9.mono hbb.size)
                  clear o9
                  go_wp2_with fail
                  go_ret
                  exact ⟨A9, c9, rfl, r9, hbf⟩
end Go.Proofs.YthfblaiocdgkbaaDoor

namespace Go.Proofs.YthfblaiocdgkbaaDoor
set_option linter.unusedVariables false
set_option linter.unusedSimpArgs false
open Go.RowKit

theorem Width_any (n : Int) (w : World) : Calls Tryd.prog 44 #[.int .i64 n] w fun e w' => e = .returned (.int .i64 (wn n : Nat)) ∧ w = w' := by
  rcases Int.lt_or_le n 1 with h | h
  · have H := Lib.hid (wn_one h)
    go_enter Tryd.func44, Tryd.ntmps44
    go_wp2
    go_ret
    exact ⟨by rw [H.out]; rfl, rfl⟩
  · rcases Int.lt_or_le 8 n with h8 | h8
    · have H := Lib.hid (wn_eight h8)
      have h' : ¬ n < 1 := by omega
      go_enter Tryd.func44, Tryd.ntmps44
      go_wp2
      go_ret
      exact ⟨by rw [H.out]; rfl, rfl⟩
    · have H := Lib.hid (wn_mid h h8)
      have h' : ¬ n < 1 := by omega
      have h9 : ¬ 8 < n := by omega
      go_enter Tryd.func44, Tryd.ntmps44
      go_wp2
      go_ret
      exact ⟨by rw [H.out]; rfl, rfl⟩
end Go.Proofs.YthfblaiocdgkbaaDoor

namespace Go.Proofs.YthfblaiocdgkbaaDoor
set_option linter.unusedVariables false
set_option linter.unusedSimpArgs false
open Go.RowKit

theorem div_step (a k j m : Nat) (h : j + 1 ≤ m) : a / 256 ^ (m - (j + 1)) / 256 = a / 256 ^ (m + 1 - (j + 1)) := by
  rw [Nat.div_div_eq_div_mul, ← Nat.pow_succ, show (m - (j + 1)).succ = m + 1 - (j + 1) from by omega]

theorem low_byte {x : Nat} : (x : Int) % 256 = ((UInt8.ofNat x).toNat : Int) := by rw [UInt8.toNat_ofNat']; omega

set_option maxHeartbeats 800000 in
theorem Bytes_any (a : Nat) (n : Int) (w : World) (ha : a < 18446744073709551616) :
    Calls Tryd.prog 32 #[.int .u64 (a : Int), .int .i64 n] w (Made w 5 (wn n) (be a (wn n))) := by
  have hlo := wn_lo n
  have hhi := wn_hi n
  go_enter Tryd.func32, Tryd.ntmps32
  go_wp2_with (go_at_call 44; refine (Width_any _ _).mono ?_; rintro e w' ⟨rfl, rfl⟩)
  generalize wn n = K at *
  go_loopw [5, 6] (fun v i wr => ∃ j : Nat, j ≤ K ∧ i = .int .i64 j ∧ wr.ownsRow w.heap.size 5 1 v j (bv ((be a K).take j)) ∧ Below w.heap.size w wr) (fun _ i _ => K - (intOf i).toNat)
  case atStart => exact ⟨0, Nat.zero_le _, rfl, World.ownsRow_nil _ _ _ _, Below.refl _ _⟩
  case round =>
    obtain ⟨j, hj, rfl, hown, hbel⟩ := hrel
    by_cases hlt : j < K
    · have h0 : a / 256 ^ (j + 1 - (j + 1)) = a := by rw [Nat.sub_self]; simp
      have H0 := Lib.hid h0
      clear h0
      go_wp2
      go_loop [7, 8] (fun x m => ∃ k : Nat, j + 1 ≤ k ∧ k ≤ K ∧ m = .int .i64 k ∧ x = .int .u64 ((a / 256 ^ (k - (j + 1)) : Nat) : Int)) (fun _ m => K - (intOf m).toNat)
      case atStart => exact ⟨j + 1, Nat.le_refl _, hlt, rfl, by rw [H0.out]⟩
      case round =>
        obtain ⟨k, hk1, hk2, rfl, rfl⟩ := hrel
        have hx : a / 256 ^ (k - (j + 1)) < 18446744073709551616 := Nat.lt_of_le_of_lt (Nat.div_le_self _ _) ha
        have hb := @low_byte (a / 256 ^ (k - (j + 1)))
        by_cases hkl : k < K
        · clear hb
          have HS := Lib.hid (div_step a k j k hk1)
          generalize a / 256 ^ (k - (j + 1)) = x at *
          go_wp2
          go_round
          case rel => exact ⟨k + 1, by omega, by omega, by go_num, by rw [← HS.out]; rfl⟩
          case measure => simp [intOf]; omega
        · obtain rfl : k = K := by omega
          have HT := Lib.hid (be_take a k j hlt)
          rw [show k - 1 - j = k - (j + 1) from by omega] at HT
          generalize a / 256 ^ (k - (j + 1)) = x at *
          have HB := Lib.hid hb
          clear hb
          go_wp2_with (at_builtin; refine wpList_app _ rfl (.tmp 26) (.tmp 30) 71 5 rfl Tryd.underlying71 infoByte w.heap.size _ j ((be a k).take j) rfl (hown.alloc _) _ 1 1 [UInt8.ofNat x] rfl (RB.lit1 _ _ _ _ HB.out) (by omega) (by have := hbel.size; simp; omega) ?_; intro v' w1 hown' hg' _)
          have R := own_one hbel hown hown' hg' HT.out
          clear hown' hg' hown hbel
          go_wp2
          go_roundw
          case rel => exact ⟨j + 1, by omega, by go_num, R.1, R.2⟩
          case measure => simp [intOf]; omega
    · obtain rfl : j = K := by omega
      go_wp2
      go_ret
      exact ⟨_, rfl, by rw [List.take_of_length_le (by rw [be_length]; exact Nat.le_refl _)] at hown; exact hown, hbel⟩
theorem Bytes_own (a : Nat) (k : Int) (w : World) (ha : a < 18446744073709551616) :
    Calls Tryd.prog 32 #[.int .u64 (a : Int), .int .i64 k] w (OwnMade w (wn k) (be a (wn k))) :=
  (Bytes_any a k w ha).mono fun e w' ⟨v, he, hown, hb⟩ => by
    obtain ⟨A, c, rfl, hr, _⟩ := RB.of_own hown
    exact ⟨A, c, he, hr, hown, hb⟩
end Go.Proofs.YthfblaiocdgkbaaDoor

namespace Go.Proofs.YthfblaiocdgkbaaDoor
set_option linter.unusedVariables false
set_option linter.unusedSimpArgs false
open Go.RowKit

set_option maxHeartbeats 400000 in
theorem Number_any (A : Option Addr) (n c : Nat) (l : List UInt8) (w : World) (h : RB w A n c l) (h8 : n ≤ 8) :
    Calls Tryd.prog 33 #[.slice A n c] w fun e w' => e = .returned (.int .u64 (num l : Nat)) ∧ w = w' := by
  have hl := Lib.hid h.len
  go_enter Tryd.func33, Tryd.ntmps33
  go_wp2
  go_loop [3, 4] (fun x i => ∃ k : Nat, k ≤ n ∧ i = .int .i64 k ∧ x = .int .u64 (num (l.take k) : Nat)) (fun _ i => n - (intOf i).toNat)
  case atStart => exact ⟨0, Nat.zero_le _, rfl, rfl⟩
  case round =>
    obtain ⟨k, hk, rfl, rfl⟩ := hrel
    by_cases hlt : k < n
    · have hb := num_take_seven l k (by omega)
      have hx := (l.getD k 0).toNat_lt
      have HS := Lib.hid (num_step l k (by rw [hl.out]; exact hlt))
      obtain ⟨b, o, rfl, hc⟩ := h.at_ hlt
      clear h
      generalize num (l.take k) = x at *
      generalize (l.getD k 0).toNat = y at *
      go_wp2
      go_round
      case rel => exact ⟨k + 1, by omega, by go_num, by rw [HS.out]; go_num⟩
      case measure => simp [intOf]; omega
    · go_wp2
      go_ret
      exact ⟨by rw [List.take_of_length_le (by rw [hl.out]; omega)]; rfl, rfl⟩
end Go.Proofs.YthfblaiocdgkbaaDoor

namespace Go.Proofs.YthfblaiocdgkbaaDoor
set_option linter.unusedVariables false
set_option linter.unusedSimpArgs false
open Go.RowKit

theorem rwn8 : wn 8 = 8 := rfl
theorem rwn4 : wn 4 = 4 := rfl

set_option maxHeartbeats 800000 in
theorem rtoken_any (k : Nat) (w : World) (hk : k < 18446744073709551616) :
    Calls Tryd.prog 21 #[.int .u64 (k : Int)] w fun e w' => e = .returned (.int .u32 (kt k : Nat)) ∧ Below w.heap.size w w' := by
  have hlt := kt_lt k
  have HK : Hid (kt k = num ((dg (be k 8)).take 4)) := Lib.hid rfl
  go_enter Tryd.func21, Tryd.ntmps21
  go_wp2_with (first
    | (go_at_call 32; refine (Bytes_own k 8 _ hk).mono ?_; rw [rwn8]; rintro e w1 ⟨A1, c1, rfl, r1, _, b1⟩)
    | (go_at_call 31; refine (rof_any A1 8 c1 _ _ r1 (by omega)).mono ?_; rintro e w2 ⟨A2, c2, rfl, r2, b2⟩; have hcp := r2.cap; have hmx := r2.max; have r3 := r2.take (k := 4) (by omega); have b3 := below_trans b1 b2; clear b1 b2 r1 r2)
    | (go_at_call 33; refine (Number_any _ 4 _ _ _ r3 (by omega)).mono ?_; rw [← HK.out]; generalize hx : kt k = x at *; have HX := Lib.hid hx; clear hx; rintro e w4 ⟨rfl, rfl⟩))
  go_ret
  exact ⟨by rw [HX.out]; rfl, b3⟩

end Go.Proofs.YthfblaiocdgkbaaDoor

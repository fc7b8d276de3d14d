/- The contract of the document's own digest with a key. Conditions: the key and the text hold at most 2^37 bytes each. -/
import Derived.Test.YtdgllpcljjhhdaaDoorHmM
import Derived.Test.YtdgllpcljjhhdaaDoorRefD
import Derived.Test.YtdgllpcljjhhdaaDoorTwo
import Derived.Deep.CutRange
import Derived.Deep.DeepCutAuto
namespace Go.Proofs.YtdgllpcljjhhdaaDoor
set_option linter.unusedVariables false
open Go.RowKit

theorem ks_fill (k : List UInt8) (j : Nat) (h : (ks k).length + j = 64) : ks k ++ List.replicate j 0 = kf k := by
  unfold kf
  rw [show 64 - (ks k).length = j by omega]
theorem xo_take (n : UInt8) (k : List UInt8) (j : Nat) (h : j < k.length) : (xo n k).take (j + 1) = (xo n k).take j ++ [k.getD j 0 ^^^ n] := by
  rw [List.take_succ_eq_append_getElem (by rw [xo_length]; exact h)]
  simp [xo, h]

set_option maxRecDepth 8000 in
set_option maxHeartbeats 3200000 in
theorem rh_any (B : Option Addr) (m d : Nat) (k : List UInt8) (A : Option Addr) (n c : Nat) (l : List UInt8) (w : World) (hk : RB w B m d k) (h : RB w A n c l) (hm : m ≤ 137438953472) (hn : n ≤ 137438953472) :
    Calls Tryd.prog 20 #[.slice B m d, .slice A n c] w (MadeRB w 32 (Go.Proofs.YtdgllpcljjhhdaaDoor.hm k l)) := by
  have hmx := h.max
  have hcp := h.cap
  have hmd := hk.max
  have hcd := hk.cap
  have HL := Lib.hid h.len
  have HKL := Lib.hid hk.len
  go_enter Tryd.func20, Tryd.ntmps20
  go_upto_if 11 with (fail)
  go_cut [5] from 9 (fun v wx => ∃ A1 c1, v = .slice A1 (ks k).length c1 ∧ wx.ownsRow w.heap.size 5 1 (.slice A1 (ks k).length c1) (ks k).length (bv (ks k)) ∧ Below w.heap.size w wx)
  case first =>
    by_cases hlong : 64 < m
    · have HKS : Hid (ks k = dg k) := Lib.hid (by unfold ks; rw [if_pos (by rw [HKL.out]; exact hlong)])
      have HDL := Lib.hid (dg_length k)
      go_wp2_with (first
        | (go_at_call 16; refine (rof_any B m d k w hk (by omega)).mono ?_; rintro e w1 ⟨A1, c1, rfl, r1, b1⟩)
        | (at_builtin; refine wpList_app_nil (W := w1) rfl (.tmp 12) (.tmp 14) 33 5 rfl Tryd.underlying33 infoByte rfl A1 32 c1 (dg k) rfl r1 (by omega) ?_; intro A2 c2 w2 r2 o2 b2))
      go_meet
      case rel =>
        rw [HKS.out, HDL.out]
        exact ⟨A2, c2, rfl, own_mono o2 b1.size, below_trans b1 b2⟩
    · have HKS : Hid (ks k = k) := Lib.hid (by unfold ks; rw [if_neg (by rw [HKL.out]; exact hlong)])
      go_wp2_with (at_builtin; refine wpList_app_nil (W := w) rfl (.tmp 16) (.tmp 17) 33 5 rfl Tryd.underlying33 infoByte rfl B m d k rfl hk (by omega) ?_; intro A2 c2 w2 r2 o2 b2)
      go_meet
      case rel =>
        rw [HKS.out, HKL.out]
        exact ⟨A2, c2, rfl, o2, b2⟩
  case rest =>
    obtain ⟨A1, c1, rfl, o1, b1⟩ := hcut
    have hq := ks_length k
    have HF := Lib.hid (ks_fill k)
    have HKF := Lib.hid (kf_length k)
    generalize (ks k).length = q at *
    generalize ks k = s at *
    go_wp2_with fail
    go_loopw [5] (fun v wr => ∃ j A3 c3, q + j ≤ 64 ∧ v = .slice A3 (q + j) c3 ∧ wr.ownsRow w.heap.size 5 1 (.slice A3 (q + j) c3) (q + j) (bv (s ++ List.replicate j 0)) ∧ Below w.heap.size w wr) (fun v _ => 64 - lenV v)
    case atStart => exact ⟨0, A1, c1, hq, rfl, by simpa using o1, b1⟩
    case round =>
      obtain ⟨j, A3, c3, hj, rfl, o3, b3⟩ := hrel
      clear o1 b1
      by_cases hlt : q + j < 64
      · have hlt' : ((q + j : Nat) : Int) < 64 := by omega
        have HR : Hid (bv (s ++ List.replicate (j + 1) 0) = bv (s ++ List.replicate j 0 ++ [0])) := Lib.hid (by rw [List.replicate_succ', ← List.append_assoc])
        generalize s ++ List.replicate j 0 = x at *
        generalize hg : q + j = p at *
        have HG := Lib.hid hg
        clear hg
        go_wp2_with (at_builtin; refine wpList_app_more (W := w) rfl (.tmp 22) (.tmp 23) 33 5 rfl Tryd.underlying33 infoByte _ p x rfl (o3.alloc _) (b3.alloc b3.size _) _ 1 1 [0] rfl (RB.lit1 wr 0 0 _ rfl) (by omega) ?_; intro A4 c4 w4 _ o4 b4)
        have HQ : Hid (q + (j + 1) = p + 1) := Lib.hid (by have := HG.out; omega)
        go_roundw
        case rel => exact ⟨j + 1, A4, c4, by rw [HQ.out]; omega, by rw [HQ.out], by rw [HQ.out, HR.out]; exact o4, b4⟩
        case measure => have := HG.out; simp [lenV]; omega
      · have hqj : q + j = 64 := by omega
        rw [HF.out j hqj, hqj] at o3
        rw [hqj]
        obtain ⟨wx, rfl⟩ : ∃ wx, wx = wr := ⟨_, rfl⟩
        obtain ⟨A5, c5, hv, r3, _⟩ := RB.of_own o3
        injection hv with e1 _ e3
        subst e1 e3
        have hmc := r3.max
        have hcc := r3.cap
        have HX1 := Lib.hid (xo_take 54 (kf k))
        have HX2 := Lib.hid (xo_take 92 (kf k))
        have HT1 : Hid ((xo 54 (kf k)).take 64 = xo 54 (kf k)) := Lib.hid (List.take_of_length_le (by rw [xo_length, HKF.out]; exact Nat.le_refl _))
        have HT2 : Hid ((xo 92 (kf k)).take 64 = xo 92 (kf k)) := Lib.hid (List.take_of_length_le (by rw [xo_length, HKF.out]; exact Nat.le_refl _))
        have HHM : Hid (Go.Proofs.YtdgllpcljjhhdaaDoor.hm k l = dg (xo 92 (kf k) ++ dg (xo 54 (kf k) ++ l))) := Lib.hid rfl
        clear o3 HF hj hlt
        generalize kf k = f at *
        go_wp2_with fail
        go_loopw [6, 7, 8] (fun v u i wr => ∃ j : Nat, j ≤ 64 ∧ i = .int .i64 j ∧ Two wx.heap.size 5 wr v u j ((xo 54 f).take j) ((xo 92 f).take j) j ∧ Below wx.heap.size wx wr) (fun _ _ i _ => 64 - (intOf i).toNat)
        case atStart => exact ⟨0, Nat.zero_le _, rfl, ⟨World.ownsRow_nil wx _ _ _, World.ownsRow_nil wx _ _ _, fun b hb => by cases hb⟩, Below.refl _ _⟩
        case round =>
          obtain ⟨j, hj, rfl, T, b4⟩ := hrel
          by_cases hlt : j < 64
          · have hlt' : (j : Int) < 64 := by omega
            obtain ⟨bb, oo, rfl, hc0⟩ := r3.at_ (j := j) hlt
            have hlb := World.block_lt_of_cell? wx _ hc0
            have hc := (b4.cell hlb).trans hc0
            have H1 := Lib.hid (HX1.out j (by rw [HKF.out]; exact hlt))
            have H2 := Lib.hid (HX2.out j (by rw [HKF.out]; exact hlt))
            generalize f.getD j 0 = y at *
            generalize (xo 54 f).take j = x1 at *
            generalize (xo 92 f).take j = x2 at *
            have HB1 : Hid (bits .xor .u8 (y.toNat : Int) 54 = ((y ^^^ 54).toNat : Int)) := Lib.hid (b_xor y 54)
            have HB2 : Hid (bits .xor .u8 (y.toNat : Int) 92 = ((y ^^^ 92).toNat : Int)) := Lib.hid (b_xor y 92)
            have HC := Lib.hid hc0
            have HTW := Lib.hid T
            have HB4 := Lib.hid b4
            have hlc := b4.size
            clear hc0 T b4 r3
            go_wp2_with (first
              | (at_builtin; refine wpList_app _ rfl (.tmp 29) (.tmp 35) 33 5 rfl Tryd.underlying33 infoByte wx.heap.size _ j x1 rfl (HTW.out.1.alloc _) _ 1 1 [y ^^^ 54] rfl (RB.lit1 wr _ (y ^^^ 54) _ HB1.out) (by omega) (by simp; omega) ?_; intro v' w5 o5 g5 a5
                 have T5 := (HTW.out.alloc _).left o5 g5 a5
                 have b5 := below_grown ((HB4.out).alloc hlc _) (HTW.out.1.alloc _) g5
                 have hlc5 := b5.size
                 have hc5 := (b5.cell hlb).trans HC.out
                 clear hc o5 g5 a5)
              | (at_builtin; refine wpList_app _ rfl (.tmp 37) (.tmp 43) 33 5 rfl Tryd.underlying33 infoByte wx.heap.size _ j x2 rfl (T5.2.1.alloc _) _ 1 1 [y ^^^ 92] rfl (RB.lit1 w5 _ (y ^^^ 92) _ HB2.out) (by omega) (by simp; omega) ?_; intro v6 w6 o6 g6 a6
                 have T6 := (T5.alloc _).right o6 g6 a6
                 have b6 := below_grown (b5.alloc hlc5 _) (T5.2.1.alloc _) g6
                 clear hc5 o6 g6 a6))
            go_roundw
            case rel => exact ⟨j + 1, by omega, by go_num, by rw [H1.out, H2.out]; exact T6, b6⟩
            case measure => simp [intOf]; omega
          · obtain rfl : j = 64 := by omega
            rw [HT1.out, HT2.out] at T
            have h4 := h.below (below_trans b3 b4)
            have hlc := b4.size
            have hB3 := Lib.hid b3
            clear h hk r3 b3 HX1 HX2 HT1 HT2
            generalize xo 54 f = x1 at *
            generalize xo 92 f = x2 at *
            have HT := Lib.hid T
            clear T
            go_wp2_with (first
              | (at_builtin; refine wpList_app _ rfl (.tmp 45) (.tmp 46) 33 5 rfl Tryd.underlying33 infoByte wx.heap.size _ 64 x1 rfl HT.out.1 A n c l rfl h4 (by omega) hlc ?_; intro v' w5 o5 g5 a5
                 have T5 := HT.out.left o5 g5 a5
                 have b5 := below_grown b4 HT.out.1 g5
                 obtain ⟨A7, c7, rfl, r7, _⟩ := RB.of_own T5.1
                 clear o5 g5 a5 b4 h4 hlc)
              | (go_at_call 16; refine (rof_any A7 (64 + n) c7 (x1 ++ l) w5 r7 (by omega)).mono ?_; rintro e w6 ⟨A8, c8, rfl, r8, b8⟩
                 have T6 := T5.below b8
                 have b6 := b5.trans (b8.mono b5.size)
                 have hlc6 := b6.size
                 clear T5 r7 b5 b8)
              | (at_builtin; refine wpList_app _ rfl (.tmp 48) (.tmp 50) 33 5 rfl Tryd.underlying33 infoByte wx.heap.size _ 64 x2 rfl T6.2.1 A8 32 c8 _ rfl r8 (by omega) hlc6 ?_; intro v9 w9 o9 g9 a9
                 have b9 := below_grown b6 T6.2.1 g9
                 obtain ⟨A9, c9, rfl, r9, _⟩ := RB.of_own o9
                 clear o9 g9 a9 T6 b6 r8)
              | (go_at_call 16; refine (rof_any A9 (64 + 32) c9 _ w9 r9 (by omega)).mono ?_; rintro e wA ⟨AA, cA, rfl, rA, bA⟩
                 have bB := b9.trans (bA.mono b9.size)
                 clear r9 b9 bA))
            have bC := below_trans hB3.out bB
            rw [HHM.out]
            go_ret
            exact ⟨AA, cA, rfl, rA, bC⟩
end Go.Proofs.YtdgllpcljjhhdaaDoor

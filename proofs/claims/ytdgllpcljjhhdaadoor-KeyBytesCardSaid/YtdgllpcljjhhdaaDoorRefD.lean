/- The contract of the document's own digest. Condition: at most 2^38 bytes. -/
import Derived.Test.YtdgllpcljjhhdaaDoorRefC
import Derived.Test.YtdgllpcljjhhdaaDoorShaO
import Derived.Test.YtdgllpcljjhhdaaDoorStepA
import Derived.Deep.RegionHeld3
namespace Go.Proofs.YtdgllpcljjhhdaaDoor
set_option linter.unusedVariables false
open Go.RowKit

/-- The length's bytes, as they are told. -/
theorem tell_byte (N j : Nat) (hN : N < 18446744073709551616) (hj : j < 8) : (N * 256 ^ j % 18446744073709551616) / 72057594037927936 % 256 = ((be N 8).getD j 0).toNat := by
  rw [be_at N 8 j hj, UInt8.toNat_ofNat']
  match j, hj with
  | 0, _ => omega
  | 1, _ => omega
  | 2, _ => omega
  | 3, _ => omega
  | 4, _ => omega
  | 5, _ => omega
  | 6, _ => omega
  | 7, _ => omega
theorem tell_next (N j : Nat) : N * 256 ^ j % 18446744073709551616 * 256 % 18446744073709551616 = N * 256 ^ (j + 1) % 18446744073709551616 := by
  rw [Nat.pow_succ, ← Nat.mul_assoc]
  omega
theorem be_next (N j : Nat) (hj : j < 8) : (be N 8).take (j + 1) = (be N 8).take j ++ [(be N 8).getD j 0] := by
  rw [List.take_succ_eq_append_getElem (by rw [be_length]; exact hj)]
  simp [show j < (be N 8).length by rw [be_length]; exact hj]
theorem us_hh : us hh = [1779033703, 3144134277, 1013904242, 2773480762, 1359893119, 2600822924, 528734635, 1541459225] := by decide +kernel
/-- Four bytes of a word. -/
def b4 (x : UInt32) : List UInt8 := [UInt8.ofNat (x.toNat / 2 ^ 24 % 256), UInt8.ofNat (x.toNat / 2 ^ 16 % 256), UInt8.ofNat (x.toNat / 2 ^ 8 % 256), UInt8.ofNat (x.toNat / 2 ^ 0 % 256)]
theorem RB.word (w : World) (x : UInt32) (t : TypeId) :
    RB (w.alloc (.cells #[.int .u8 (IntKind.u8.wrap ((x.toNat : Int) / 16777216)), .int .u8 (IntKind.u8.wrap ((x.toNat : Int) / 65536)), .int .u8 (IntKind.u8.wrap ((x.toNat : Int) / 256)), .int .u8 (IntKind.u8.wrap (x.toNat : Int))] t)) (some ⟨w.heap.size, 0, none⟩) 4 4 (b4 x) := by
  have h : ∀ m : Nat, m < 256 → IntKind.u8.wrap (m : Int) = ((UInt8.ofNat m).toNat : Int) := fun m hm => by rw [IntKind.wrap_u8, UInt8.toNat_ofNat']; omega
  have e0 : IntKind.u8.wrap ((x.toNat : Int) / 16777216) = ((UInt8.ofNat (x.toNat / 2 ^ 24 % 256)).toNat : Int) := by rw [IntKind.wrap_u8, UInt8.toNat_ofNat']; omega
  have e1 : IntKind.u8.wrap ((x.toNat : Int) / 65536) = ((UInt8.ofNat (x.toNat / 2 ^ 16 % 256)).toNat : Int) := by rw [IntKind.wrap_u8, UInt8.toNat_ofNat']; omega
  have e2 : IntKind.u8.wrap ((x.toNat : Int) / 256) = ((UInt8.ofNat (x.toNat / 2 ^ 8 % 256)).toNat : Int) := by rw [IntKind.wrap_u8, UInt8.toNat_ofNat']; omega
  have e3 : IntKind.u8.wrap (x.toNat : Int) = ((UInt8.ofNat (x.toNat / 2 ^ 0 % 256)).toNat : Int) := by rw [IntKind.wrap_u8, UInt8.toNat_ofNat']; omega
  rw [e0, e1, e2, e3]
  exact RB.lit w (b4 x) t (by unfold maxLen; simp [b4])
theorem dg_four (h : List UInt32) (i : Nat) (hi : i < 8) : ((List.range 32).map (wbytes h)).take (4 * (i + 1)) = ((List.range 32).map (wbytes h)).take (4 * i) ++ b4 (h.getD i 0) := by
  have hl : ((List.range 32).map (wbytes h)).length = 32 := by simp
  have g : ∀ q, q < 4 → wbytes h (4 * i + q) = UInt8.ofNat ((h.getD i 0).toNat / 2 ^ (24 - 8 * q) % 256) := fun q hq => by
    unfold wbytes
    rw [show (4 * i + q) / 4 = i by omega, show (4 * i + q) % 4 = q by omega]
  have at_ : ∀ q, (hq : q < 32) → ((List.range 32).map (wbytes h))[q]'(by rw [hl]; exact hq) = wbytes h q := fun q hq => by simp
  rw [show 4 * (i + 1) = 4 * i + 1 + 1 + 1 + 1 by omega, List.take_succ_eq_append_getElem (by rw [hl]; omega), List.take_succ_eq_append_getElem (by rw [hl]; omega), List.take_succ_eq_append_getElem (by rw [hl]; omega), List.take_succ_eq_append_getElem (by rw [hl]; omega),
    at_ _ (by omega), at_ _ (by omega), at_ _ (by omega), at_ _ (by omega)]
  have g0 := g 0 (by omega)
  have g1 := g 1 (by omega)
  have g2 := g 2 (by omega)
  have g3 := g 3 (by omega)
  rw [Nat.add_zero] at g0
  rw [g0, g1, show 4 * i + 1 + 1 = 4 * i + 2 by omega, g2, show 4 * i + 2 + 1 = 4 * i + 3 by omega, g3]
  simp [b4]

/-- A slice's length. -/
def lenV : Value → Nat | .slice _ n _ => n | _ => 0

set_option maxRecDepth 8000 in
set_option maxHeartbeats 3200000 in
theorem rof_any (A : Option Addr) (n c : Nat) (l : List UInt8) (w : World) (h : RB w A n c l) (hn : n ≤ 274877906944) :
    Calls Tryd.prog 16 #[.slice A n c] w (MadeRB w 32 (dg l)) := by
  have hlen := h.len
  have hmx := h.max
  have hcp := h.cap
  have HL := Lib.hid hlen
  clear hlen
  go_enter Tryd.func16, Tryd.ntmps16
  go_wp2_with (first
    | (at_builtin; refine wpList_app_nil (W := w) rfl (.tmp 10) (.tmp 11) 33 5 rfl Tryd.underlying33 infoByte rfl A n c l rfl h (by omega) ?_; intro A1 c1 w1 _ o1 b1)
    | (at_builtin; refine wpList_app_more (W := w) rfl (.tmp 13) (.tmp 14) 33 5 rfl Tryd.underlying33 infoByte _ n l rfl (o1.alloc _) (b1.alloc b1.size _) _ 1 1 [128] rfl (RB.lit1 w1 128 128 _ rfl) (by omega) ?_; intro A2 c2 w2 _ o2 b2; clear o1 b1))
  have hz := Nat.mod_lt (119 - n % 64) (show 0 < 64 by omega)
  have HZ : Hid (∀ j, j ≤ (119 - n % 64) % 64 → ((n + 1 + j) % 64 = 56 ↔ j = (119 - n % 64) % 64)) := Lib.hid (by intro j hj; omega)
  have HN : Hid (n + 1 + (119 - n % 64) % 64 + 8 = 64 * ((full l).length / 64)) := Lib.hid (by rw [← full_blocks, full_length, HL.out]; omega)
  have HF : Hid (l ++ [128] ++ List.replicate ((119 - n % 64) % 64) 0 ++ be (8 * n) 8 = full l) := Lib.hid (by
    unfold full
    rw [HL.out]
    unfold ends
    rw [Nat.mod_eq_of_lt (show 8 * n < 18446744073709551616 by omega)]
    simp)
  generalize (119 - n % 64) % 64 = z at *
  go_loopw [3] (fun v wr => ∃ j A3 c3, j ≤ z ∧ v = .slice A3 (n + 1 + j) c3 ∧ wr.ownsRow w.heap.size 5 1 (.slice A3 (n + 1 + j) c3) (n + 1 + j) (bv (l ++ [128] ++ List.replicate j 0)) ∧ Below w.heap.size w wr) (fun v _ => n + 1 + z - lenV v)
  case atStart => exact ⟨0, A2, c2, Nat.zero_le _, rfl, by simpa using o2, b2⟩
  case round =>
    obtain ⟨j, A3, c3, hj, rfl, o3, b3⟩ := hrel
    clear o2 b2
    have hjz := HZ.out j hj
    by_cases hlt : j < z
    · have hq : (n + 1 + j) % 64 ≠ 56 := fun e => by have := hjz.1 e; omega
      have hq2 : ((((n + 1 + j : Nat) : Int) % 64) == 56) = false := by rw [beq_eq_false_iff_ne]; omega
      have HR : Hid (bv (l ++ [128] ++ List.replicate (j + 1) 0) = bv (l ++ [128] ++ List.replicate j 0 ++ [0])) := Lib.hid (by rw [List.replicate_succ', ← List.append_assoc])
      clear hjz
      generalize l ++ [128] ++ List.replicate j 0 = x at *
      have hq3 : n + 1 + j ≤ 274877907100 := by omega
      generalize hg : n + 1 + j = q at *
      have HG := Lib.hid hg
      clear hg hq
      go_wp2_with (at_builtin; refine wpList_app_more (W := w) rfl (.tmp 20) (.tmp 21) 33 5 rfl Tryd.underlying33 infoByte _ q x rfl (o3.alloc _) (b3.alloc b3.size _) _ 1 1 [0] rfl (RB.lit1 wr 0 0 _ rfl) (by omega) ?_; intro A4 c4 w4 _ o4 b4)
      have HQ : Hid (n + 1 + (j + 1) = q + 1) := Lib.hid (by have := HG.out; omega)
      go_roundw
      case rel => exact ⟨j + 1, A4, c4, by omega, by rw [HQ.out], by rw [HQ.out, HR.out]; exact o4, b4⟩
      case measure => have := HG.out; simp [lenV]; omega
    · obtain rfl : j = z := by omega
      have hq2 : ((((n + 1 + j : Nat) : Int) % 64) == 56) = true := by have := hjz.2 rfl; rw [beq_iff_eq]; omega
      have hq3 : n + 1 + j ≤ 274877907100 := by omega
      have HB := fun i hi => tell_byte (8 * n) i (by omega) hi
      have HX := Lib.hid (fun i => tell_next (8 * n) i)
      have HBE := Lib.hid (fun i hi => be_next (8 * n) i hi)
      have HBH := Lib.hid HB
      have HBL : Hid ((be (8 * n) 8).length = 8) := Lib.hid (be_length _ _)
      clear hjz HB HZ
      generalize l ++ [128] ++ List.replicate j 0 = x at *
      generalize be (8 * n) 8 = bs at *
      generalize hg : n + 1 + j = q at *
      have HG := Lib.hid hg
      clear hg
      have hq4 : (((q : Int) % 64) != 56) = false := by rw [bne, hq2]; rfl
      go_wp2_with fail
      clear hq4
      go_loopw [3, 4, 5] (fun v u i wr => ∃ k A4 c4, k ≤ 8 ∧ i = .int .i64 (k : Nat) ∧ u = .int .u64 ((8 * n * 256 ^ k % 18446744073709551616 : Nat) : Int) ∧ v = .slice A4 (q + k) c4 ∧ wr.ownsRow w.heap.size 5 1 (.slice A4 (q + k) c4) (q + k) (bv (x ++ bs.take k)) ∧ Below w.heap.size w wr) (fun _ _ i _ => 8 - (intOf i).toNat)
      case atStart => exact ⟨0, A3, c3, Nat.zero_le _, rfl, by congr 1; omega, rfl, by simpa using o3, b3⟩
      case round =>
        obtain ⟨k, A4, c4, hk, rfl, rfl, rfl, o4, b4⟩ := hrel
        clear o3 b3 hq2
        by_cases hlt : k < 8
        · have hb := HBH.out k hlt
          have hx := HX.out k
          have HE : Hid (bv (x ++ bs.take (k + 1)) = bv (x ++ bs.take k ++ [bs.getD k 0])) := Lib.hid (by rw [HBE.out k hlt, List.append_assoc])
          have hm := Nat.mod_lt (8 * n * 256 ^ k) (show 0 < 18446744073709551616 by omega)
          generalize hxe : 8 * n * 256 ^ (k + 1) % 18446744073709551616 = X' at *
          have HXE := Lib.hid hxe
          clear hxe
          generalize 8 * n * 256 ^ k % 18446744073709551616 = X at *
          generalize bs.getD k 0 = y at *
          have HY : Hid ((X : Int) / 72057594037927936 = (y.toNat : Int)) := Lib.hid (by omega)
          have HX' : Hid (IntKind.u64.wrap ((X : Int) * 256) = (X' : Int)) := Lib.hid (by simp [IntKind.wrap, IntKind.bits, IntKind.signed]; omega)
          clear hb hx
          go_wp2_with (at_builtin; refine wpList_app_more (W := w) rfl (.tmp 31) (.tmp 35) 33 5 rfl Tryd.underlying33 infoByte _ (q + k) _ rfl (o4.alloc _) (b4.alloc b4.size _) _ 1 1 [y] rfl (RB.lit1 wr _ y _ HY.out) (by omega) ?_; intro A5 c5 w5 _ o5 b5)
          rw [HX'.out]
          go_roundw
          case rel => exact ⟨k + 1, A5, c5, by omega, by go_num, by rw [HXE.out], rfl, by rw [HE.out]; exact o5, b5⟩
          case measure => simp [intOf]; omega
        · obtain rfl : k = 8 := by omega
          rw [List.take_of_length_le (by rw [HBL.out]; exact Nat.le_refl _), HF.out] at o4
          rw [HN.out] at o4 ⊢
          rw [show ((8 : Nat) : Int) = 8 from rfl]
          generalize ((8 * n * 256 ^ 8 % 18446744073709551616 : Nat) : Int) = U
          obtain ⟨A5, c5, hv, r4, _⟩ := RB.of_own o4
          injection hv with e1 _ e3
          subst e1 e3
          obtain ⟨wx, rfl⟩ : ∃ wx, wx = wr := ⟨_, rfl⟩
          have HD : Hid (dg l = (List.range 32).map (wbytes (blocks (full l) ((full l).length / 64)))) := Lib.hid rfl
          have hmc := r4.max
          have hcc := r4.cap
          generalize (full l).length / 64 = B at *
          generalize full l = m at *
          have i0 := RI.lit8 wx 1779033703 3144134277 1013904242 2773480762 1359893119 2600822924 528734635 1541459225 24
          have HU : Hid (us (blocks m 0) = [1779033703, 3144134277, 1013904242, 2773480762, 1359893119, 2600822924, 528734635, 1541459225]) := Lib.hid us_hh
          rw [← HU.out] at i0
          have y0 := below_a wx (.cells #[.int .u32 1779033703, .int .u32 3144134277, .int .u32 1013904242, .int .u32 2773480762, .int .u32 1359893119, .int .u32 2600822924, .int .u32 528734635, .int .u32 1541459225] 24)
          clear HU HX HBE HBH HF o4
          go_wp2_with fail
          go_loopw [6, 7] (fun v i wq => ∃ k A6 c6, k ≤ B ∧ i = .int .i64 ((64 * k : Nat) : Int) ∧ v = .slice A6 8 c6 ∧ RI .u32 wq A6 8 c6 (us (blocks m k)) ∧ Below wx.heap.size wx wq) (fun _ i _ => 64 * B - (intOf i).toNat)
          case atStart => exact ⟨0, _, _, Nat.zero_le _, rfl, rfl, i0, y0⟩
          case round =>
            obtain ⟨k, A6, c6, hk, rfl, rfl, i6, y6⟩ := hrel
            clear i0 y0
            by_cases hlt : k < B
            · have hlt' : 64 * k < 64 * B := by omega
              obtain ⟨A7, hcut, r7⟩ := cut64 (r4.below y6) (k := 64 * k) (by omega)
              have HS : Hid (blocks m (k + 1) = comp (blocks m k) ((m.drop (64 * k)).take 64)) := Lib.hid rfl
              have HI : Hid (((64 * k : Nat) : Int) + 64 = ((64 * (k + 1) : Nat) : Int)) := Lib.hid (by omega)
              have hmx2 : 64 * k + 64 ≤ 64 * B := by omega
              generalize (m.drop (64 * k)).take 64 = y at *
              generalize blocks m k = hs at *
              generalize 64 * k = p at *
              clear r4
              go_wp2_with (go_at_call 27; refine (rcomp_any A7 A6 _ c6 y hs wr i6 r7).mono ?_; rintro e w5 ⟨A8, c8, rfl, i8, y8⟩)
              have y9 := y6.trans (y8.mono y6.size)
              rw [← HS.out] at i8
              clear i6 y6 y8 hcut r7 HS
              go_roundw
              case rel => exact ⟨k + 1, A8, c8, by omega, by rw [HI.out], rfl, i8, y9⟩
              case measure => have := HI.out; simp [intOf]; omega
            · obtain rfl : k = B := by omega
              obtain ⟨wy, rfl⟩ : ∃ wy, wy = wr := ⟨_, rfl⟩
              have HS := Lib.hid (fun j hj => dg_four (blocks m k) j hj)
              have hbb := b4.trans (y6.mono b4.size)
              obtain ⟨bH, oH, rfl, cH⟩ := i6.at_ (j := 0) (by omega)
              rw [← HD.out] at HS
              have HDL : Hid ((dg l).length = 32) := Lib.hid (dg_length l)
              generalize blocks m k = hs at *
              generalize dg l = D at *
              have hlH := World.block_lt_of_cell? wy _ cH
              generalize 64 * k = p at *
              clear r4 cH b4 y6
              go_wp2_with fail
              go_loopw [8, 9] (fun v i wq => ∃ j : Nat, j ≤ 8 ∧ i = .int .i64 j ∧ wq.ownsRow wy.heap.size 5 1 v (4 * j) (bv (D.take (4 * j))) ∧ Below wy.heap.size wy wq) (fun _ i _ => 8 - (intOf i).toNat)
              case atStart => exact ⟨0, Nat.zero_le _, rfl, World.ownsRow_nil _ _ _ _, Below.refl _ _⟩
              case round =>
                obtain ⟨j, hj, rfl, o9, b9⟩ := hrel
                by_cases hlt : j < 8
                · have hlt' : (j : Int) < 8 := by omega
                  have c1 := (i6.below b9).word hlt
                  have HE : Hid (bv (D.take (4 * (j + 1))) = bv (D.take (4 * j) ++ b4 (hs.getD j 0))) := Lib.hid (by rw [HS.out j hlt])
                  have HJ : Hid (4 * (j + 1) = 4 * j + 4) := Lib.hid (by omega)
                  have nb : u8.ownBlock ≠ some bH := fun e => by have := (o9.lt _ e).1; have := hlH; omega
                  have hlq : bH < wr.heap.size := by have := b9.size; have := hlH; omega
                  have hs9 := b9.size
                  generalize hs.getD j 0 = y at *
                  generalize D.take (4 * j) = x9 at *
                  have hq : 4 * j ≤ 32 := by omega
                  generalize 4 * j = q9 at *
                  go_wp2_with fail
                  go_region_held3 (fun w' => w'.cell? ⟨bH, oH + j, none⟩ = some (c32 y)) (first
                      | go_keep
                      | (rw [hgrow.cell_far _ (by simp; omega) (Ne.symm nb)]; assumption))
                    ((refine step_app _ (by rfl) _ _ _ _ (by rfl) Tryd.underlying33 infoByte wy.heap.size _ _ _ (by rfl) ((o9.alloc _).drew) _ 4 4 _ (by rfl) (RB.word wr y 5).drew ?_ ?_ ?_; (first | omega | skip); (first | (simp; omega) | skip); intro v' w6 hown' hgrow hat))
                  all_goals
                    have hb2 := ((b9.alloc b9.size _).drew).grown hgrow (by simp; omega) (fun k hk => (o9.lt k hk).1)
                    clear o9 hgrow hat b9 c1 nb
                    go_wp2_with fail
                    go_roundw
                    case rel => exact ⟨j + 1, by omega, by go_num, by rw [HE.out, HJ.out]; exact hown', hb2⟩
                    case measure => simp [intOf]; omega
                · obtain rfl : j = 8 := by omega
                  rw [List.take_of_length_le (by rw [HDL.out]; exact Nat.le_refl _)] at o9
                  obtain ⟨A9, c9, rfl, r9, _⟩ := RB.of_own o9
                  have hbf := hbb.trans (b9.mono hbb.size)
                  clear o9
                  go_wp2_with fail
                  go_ret
                  exact ⟨A9, c9, rfl, r9, hbf⟩
end Go.Proofs.YtdgllpcljjhhdaaDoor

/- The law FlowCloses. Conditions: the arguments are of their kinds. -/
import Derived.Test.YtnpkmkjenlhkiaaMg29
namespace Go.Proofs.Ytnpkmkjenlhkiaa
set_option linter.unusedVariables false
set_option linter.unusedSimpArgs false
set_option maxRecDepth 20000
open Go.RowKit Go.Lib

theorem idx_rows (a b : Value) (W : World) : (Instr.index 31 (.agg #[a, b]) (.int .i64 0)).run Try.prog W = .ok a W ∧ (Instr.index 31 (.agg #[a, b]) (.int .i64 1)).run Try.prog W = .ok b W := by constructor <;> kernel_rfl
theorem take_succ_getD8 (l : List UInt8) (j : Nat) (hj : j < l.length) : l.take (j + 1) = l.take j ++ [l.getD j 0] := by
  rw [List.take_succ_eq_append_getElem hj, List.getD_eq_getElem?_getD, List.getElem?_eq_getElem hj]
  rfl
section
variable {base : Nat} {w w' w1 : World} {pb gb : Nat} {p : P}
/-- A pair of the law: where it stands, and its bounds. -/
def Cl (base pb gb i : Nat) (p : P) (N : Nat) (w : World) : Prop := (∃ m lab, PR (some gb) base w pb p m lab) ∧ ∃ n, n ≤ N ∧ Both i n p
theorem Cl.step {i N : Nat} (h : Cl base pb gb i p N w) (hN : N + 301 ≤ 100000) (k I : Int) (hk : isInt k) (hI : isInt I) :
    Calls Try.prog 10 #[.pointer (some ⟨pb, 0, none⟩), .agg #[.int .i64 k, .int .i64 I]] w fun e w' => e = .returned (.tuple #[]) ∧ Cl base pb gb i (p.step k I) (N + 1) w' ∧ Below base w w' := by
  obtain ⟨⟨m, lab, h⟩, n, hn, hB⟩ := h
  exact (step_any h (hB.bd (by omega)) k I hk hI).mono fun e w' ⟨a, b, c⟩ => ⟨a, ⟨b, n + 1, by omega, hB.step (by omega) k I⟩, c⟩
theorem Cl.all {i N : Nat} (h : Cl base pb gb i p N w) (hN : N + 300 ≤ 100000) :
    Calls Try.prog 27 #[.pointer (some ⟨gb, 0, none⟩)] w fun e w' => e = .returned (.tuple #[]) ∧ Cl base pb gb i p.all (N + 300) w' ∧ Below base w w' := by
  obtain ⟨⟨m, lab, h⟩, n, hn, hB⟩ := h
  have hF : Both i n p.flush := by
    obtain ⟨⟨h0, h1, m0, m1, I⟩, N⟩ := hB
    exact ⟨⟨h0, h1, m0, m1, I.flush⟩, N.flush⟩
  obtain ⟨n', h1, h2⟩ := Both.settle 300 n p.flush hF (by omega)
  exact (allc_any h hB (by omega)).mono fun e w' ⟨a, b, c⟩ => ⟨a, ⟨b, n', by omega, h2⟩, c⟩
theorem Cl.more {i N M : Nat} (h : Cl base pb gb i p N w) (hN : N ≤ M) : Cl base pb gb i p M w := ⟨h.1, by obtain ⟨n, a, b⟩ := h.2; exact ⟨n, by omega, b⟩⟩
theorem Cl.var {i N : Nat} (h : Cl base pb gb i p N w) : w.cell? ⟨gb, 0, none⟩ = some (.pointer (some ⟨pb, 0, none⟩)) := by
  obtain ⟨⟨m, lab, h⟩, _⟩ := h
  exact h.var
end
theorem byte8 (u : UInt8) : ((u.toNat : Int)).tmod 8 = (u.toNat : Int) % 8 := Int.tmod_eq_emod_of_nonneg (by omega)
set_option maxHeartbeats 25600000 in
theorem FCloses_any (i : Nat) (A1 : Option Addr) (n1 c1 : Nat) (l1 : List UInt8) (A2 : Option Addr) (n2 c2 : Nat) (l2 : List UInt8) (W : World) (hi : i < 4294967296) (hl1 : RB W A1 n1 c1 l1) (hl2 : RB W A2 n2 c2 l2) :
    Calls Try.prog 7 #[.int .u32 (i : Int), .slice A1 n1 c1, .slice A2 n2 c2] W (Held W) := by
  have HW := Lib.hid (wakes_any W)
  by_cases hlong : 20 < n1 ∨ 20 < n2
  · have hb : (20 : Int) < (n1 : Int) ∨ (decide ((20 : Int) < (n1 : Int)) = false ∧ (20 : Int) < (n2 : Int)) := by
      by_cases h2 : 20 < n1
      · exact .inl (by omega)
      · exact .inr ⟨decide_eq_false (by omega), by omega⟩
    clear hl1 hl2
    rcases hb with hb | ⟨hb, hb2⟩
    · go_enter Try.func7, Try.ntmps7
      go_wp2_with fail
      refine (HW.out).mono ?_
      rintro e w1 ⟨rfl, b1⟩
      have B1 := Lib.hid b1
      clear b1
      go_wp2_with fail
      go_ret
      exact ⟨rfl, B1.out⟩
    · go_enter Try.func7, Try.ntmps7
      go_wp2_with fail
      refine (HW.out).mono ?_
      rintro e w1 ⟨rfl, b1⟩
      have B1 := Lib.hid b1
      clear b1
      go_wp2_with fail
      go_ret
      exact ⟨rfl, B1.out⟩
  · have hb : decide ((20 : Int) < (n1 : Int)) = false := decide_eq_false (by omega)
    have hb2 : decide ((20 : Int) < (n2 : Int)) = false := decide_eq_false (by omega)
    have HD := Lib.hid (fun w => Dial_any i 0 w hi (by unfold isInt; decide))
    have HL1 := Lib.hid hl1
    have HL2 := Lib.hid hl2
    have HNN := Lib.hid (show n1 ≤ 20 ∧ n2 ≤ 20 by omega)
    have hmf : ∀ (fn : Fn) (first cap : Array Value) (w : World), (Instr.makeFunc fn first cap).run Try.prog w = .ok (.func fn first cap) w := fun _ _ _ _ => rfl
    clear hl1 hl2
    go_enter Try.func7, Try.ntmps7
    go_wp2_with fail
    refine (HW.out).mono ?_
    rintro e w1 ⟨rfl, b1⟩
    have B1 := Lib.hid b1
    clear b1
    go_wp2_with fail
    refine (HD.out _).mono ?_
    rintro e w2 ⟨s, rfl, f2, b2⟩
    have B2 := Lib.hid (B1.out.trans (b2.mono B1.out.size))
    have F2 := Lib.hid (f2.mono B1.out.size)
    clear f2 b2 HW HD
    unfold ptr
    go_wp2_with (first
      | ((with_reducible refine wpList_here ?_); refine wpList_boxO (o := ⟨some 27, _, _, _, _, _⟩) rfl 33 (.tmp 26) rfl ((M0 s).cs 0).toList rfl _ rfl ?_; intro w3 o3 b3 s3; have O3 := Lib.hid o3; have B3 := Lib.hid b3; clear o3 b3)
      | fail)
    have hpr := PR.first F2.out B2.out.size B3.out (by exact O3.out)
    obtain ⟨lab3, h3⟩ := hpr
    have b4 := below_a w3 (.cells #[.pointer (some ⟨w2.heap.size, 0, none⟩)] 25)
    obtain ⟨lab4, h4⟩ := h3.own b4 (gb := w2.heap.size + 1) (by omega) (by rw [← s3]; exact heap_alloc_new _ _)
    obtain ⟨gb, hgb⟩ : ∃ g, g = w2.heap.size + 1 := ⟨_, rfl⟩
    rw [← hgb] at h4
    rw [← hgb]
    obtain ⟨pb, hpb⟩ : ∃ g, g = w2.heap.size := ⟨_, rfl⟩
    rw [← hpb] at h4 b4
    rw [← hpb]
    have HB4 : Hid (Below W.heap.size W (w3.alloc (.cells #[.pointer (some ⟨pb, 0, none⟩)] 25))) := Lib.hid ((B2.out.trans (B3.out.mono B2.out.size)).trans (b4.mono (by have := B2.out.size; have := B3.out.size; omega)))
    have HC4 := Lib.hid (show Cl W.heap.size pb gb i (P.init i) 0 _ from ⟨⟨_, lab4, h4⟩, 0, Nat.le_refl _, Both.init i hi⟩)
    clear h3 h4 b4 hgb hpb s3 O3 B3 B2 F2 B1
    generalize w3.alloc (.cells #[.pointer (some ⟨pb, 0, none⟩)] 25) = w4 at *
    refine (HC4.out.all (by omega)).mono ?_
    rintro e w5 ⟨rfl, c5, b5⟩
    have HC5 := Lib.hid c5
    have HB5 := Lib.hid (HB4.out.trans b5)
    have HS5 : Hid (St (P.init i).all 3 3) := Lib.hid (St.first i hi)
    clear c5 b5 HC4 HB4
    generalize (P.init i).all = p0 at *
    go_wp2_with fail
    go_loopw [34] (fun v wr => Below W.heap.size W wr ∧ ((v = .int .i64 0 ∧ Cl W.heap.size pb gb i p0 300 wr) ∨ (v = .int .i64 1 ∧ Cl W.heap.size pb gb i (p0.sends 3 l1) 7000 wr) ∨ (v = .int .i64 2 ∧ Cl W.heap.size pb gb i ((p0.sends 3 l1).sends 4 l2) 14000 wr))) (fun v _ => 2 - (intOf v).toNat)
    case atStart => exact ⟨HB5.out, .inl ⟨rfl, HC5.out⟩⟩
    case round =>
      obtain ⟨hB, ⟨rfl, c⟩ | ⟨rfl, c⟩ | ⟨rfl, c⟩⟩ := hrel
      · have hix := (idx_rows (.slice A1 n1 c1) (.slice A2 n2 c2) wr).1
        have HBr := Lib.hid hB
        have HCr := Lib.hid c
        clear hB c
        go_wp2_with fail
        go_loopw [40] (fun v wr => ∃ j : Nat, j ≤ n1 ∧ v = .int .i64 (j : Int) ∧ Below W.heap.size W wr ∧ Cl W.heap.size pb gb i (p0.sends 3 (l1.take j)) (300 + 301 * j) wr) (fun v _ => n1 - (intOf v).toNat)
        case atStart => exact ⟨0, Nat.zero_le _, rfl, HBr.out, by rw [List.take_zero]; exact HCr.out⟩
        case round =>
          obtain ⟨j, hj, rfl, hB2, cl2⟩ := hrel
          by_cases hlt : j < n1
          · have hli : (j : Int) < (n1 : Int) := by omega
            obtain ⟨b, o, hA, hc0⟩ := HL1.out.at_ hlt
            have hcb := hB2.cell (World.block_lt_of_cell? W _ hc0) |>.trans hc0
            have hjl : j < l1.length := by rw [HL1.out.len]; exact hlt
            have HTK := Lib.hid (take_succ_getD8 l1 j hjl)
            obtain ⟨u, hu⟩ : ∃ u, u = l1.getD j 0 := ⟨_, rfl⟩
            rw [← hu] at hcb HTK
            have hu2 := u.toNat_lt
            have hm8 := byte8 u
            have HIN : Hid (isInt ((u.toNat : Int) % 8 + 1)) := Lib.hid (by unfold isInt; omega)
            have hw1 : IntKind.i64.wrap (u.toNat : Int) = (u.toNat : Int) := by rw [IntKind.wrap_i64]; omega
            have hw2 : IntKind.i64.wrap ((u.toNat : Int) % 8 + 1) = (u.toNat : Int) % 8 + 1 := by rw [IntKind.wrap_i64]; omega
            have hw3 : IntKind.i64.wrap ((u.toNat : Int) % 8) = (u.toNat : Int) % 8 := by rw [IntKind.wrap_i64]; omega
            have hvar := cl2.var
            have HST := Lib.hid (cl2.step (by have := HNN.out; omega) 3 ((u.toNat : Int) % 8 + 1) (by unfold isInt; decide) HIN.out)
            have HSN := Lib.hid (sends_snoc p0 3 (l1.take j) u)
            have HB2 := Lib.hid hB2
            subst hA
            clear hB2 cl2 hc0 hjl hu hix
            generalize (u.toNat : Int) % 8 = y at *
            generalize (u.toNat : Int) = x at *
            go_wp2_with fail
            refine HST.out.mono ?_
            rintro e w6 ⟨rfl, c6, b6⟩
            have hvar6 := c6.var
            have HALL := Lib.hid (c6.all (by have := HNN.out; omega))
            have HB6 := Lib.hid (HB2.out.trans b6)
            clear c6 b6 hvar
            go_wp2_with fail
            refine HALL.out.mono ?_
            rintro e w7 ⟨rfl, c7, b7⟩
            have HB7 := Lib.hid (HB6.out.trans b7)
            have HC7 := Lib.hid c7
            clear c7 b7 hvar6
            go_wp2_with fail
            go_roundw
            case rel => exact ⟨j + 1, by omega, by go_num, HB7.out, by rw [HTK.out, HSN.out]; exact HC7.out.more (by omega)⟩
            case measure => simp [intOf]; omega
          · obtain rfl : j = n1 := by omega
            have HBe := Lib.hid hB2
            have HCe := Lib.hid cl2
            have HLE : Hid (l1.take j = l1) := Lib.hid (List.take_of_length_le (by rw [HL1.out.len]; exact Nat.le_refl _))
            clear hB2 cl2 hix
            go_wp2_with fail
            go_roundw
            case rel => exact ⟨HBe.out, .inr (.inl ⟨rfl, by have h9 := HCe.out; rw [HLE.out] at h9; exact h9.more (by have := HNN.out; omega)⟩)⟩
            case measure => simp [intOf]
      · have hix := (idx_rows (.slice A1 n1 c1) (.slice A2 n2 c2) wr).2
        have HBr := Lib.hid hB
        have HCr := Lib.hid c
        clear hB c
        go_wp2_with fail
        go_loopw [40] (fun v wr => ∃ j : Nat, j ≤ n2 ∧ v = .int .i64 (j : Int) ∧ Below W.heap.size W wr ∧ Cl W.heap.size pb gb i ((p0.sends 3 l1).sends 4 (l2.take j)) (7000 + 301 * j) wr) (fun v _ => n2 - (intOf v).toNat)
        case atStart => exact ⟨0, Nat.zero_le _, rfl, HBr.out, by rw [List.take_zero]; exact HCr.out⟩
        case round =>
          obtain ⟨j, hj, rfl, hB2, cl2⟩ := hrel
          by_cases hlt : j < n2
          · have hli : (j : Int) < (n2 : Int) := by omega
            obtain ⟨b, o, hA, hc0⟩ := HL2.out.at_ hlt
            have hcb := hB2.cell (World.block_lt_of_cell? W _ hc0) |>.trans hc0
            have hjl : j < l2.length := by rw [HL2.out.len]; exact hlt
            have HTK := Lib.hid (take_succ_getD8 l2 j hjl)
            obtain ⟨u, hu⟩ : ∃ u, u = l2.getD j 0 := ⟨_, rfl⟩
            rw [← hu] at hcb HTK
            have hu2 := u.toNat_lt
            have hm8 := byte8 u
            have HIN : Hid (isInt ((u.toNat : Int) % 8 + 1)) := Lib.hid (by unfold isInt; omega)
            have hw1 : IntKind.i64.wrap (u.toNat : Int) = (u.toNat : Int) := by rw [IntKind.wrap_i64]; omega
            have hw2 : IntKind.i64.wrap ((u.toNat : Int) % 8 + 1) = (u.toNat : Int) % 8 + 1 := by rw [IntKind.wrap_i64]; omega
            have hw3 : IntKind.i64.wrap ((u.toNat : Int) % 8) = (u.toNat : Int) % 8 := by rw [IntKind.wrap_i64]; omega
            have hvar := cl2.var
            have HST := Lib.hid (cl2.step (by have := HNN.out; omega) 4 ((u.toNat : Int) % 8 + 1) (by unfold isInt; decide) HIN.out)
            have HSN := Lib.hid (sends_snoc (p0.sends 3 l1) 4 (l2.take j) u)
            have HB2 := Lib.hid hB2
            subst hA
            clear hB2 cl2 hc0 hjl hu hix
            generalize (u.toNat : Int) % 8 = y at *
            generalize (u.toNat : Int) = x at *
            go_wp2_with fail
            refine HST.out.mono ?_
            rintro e w6 ⟨rfl, c6, b6⟩
            have hvar6 := c6.var
            have HALL := Lib.hid (c6.all (by have := HNN.out; omega))
            have HB6 := Lib.hid (HB2.out.trans b6)
            clear c6 b6 hvar
            go_wp2_with fail
            refine HALL.out.mono ?_
            rintro e w7 ⟨rfl, c7, b7⟩
            have HB7 := Lib.hid (HB6.out.trans b7)
            have HC7 := Lib.hid c7
            clear c7 b7 hvar6
            go_wp2_with fail
            go_roundw
            case rel => exact ⟨j + 1, by omega, by go_num, HB7.out, by rw [HTK.out, HSN.out]; exact HC7.out.more (by omega)⟩
            case measure => simp [intOf]; omega
          · obtain rfl : j = n2 := by omega
            have HBe := Lib.hid hB2
            have HCe := Lib.hid cl2
            have HLE : Hid (l2.take j = l2) := Lib.hid (List.take_of_length_le (by rw [HL2.out.len]; exact Nat.le_refl _))
            clear hB2 cl2 hix
            go_wp2_with fail
            go_roundw
            case rel => exact ⟨HBe.out, .inr (.inr ⟨rfl, by have h9 := HCe.out; rw [HLE.out] at h9; exact h9.more (by have := HNN.out; omega)⟩)⟩
            case measure => simp [intOf]
      · have HSS : Hid (St ((p0.sends 3 l1).sends 4 l2) 3 3) := Lib.hid ((HS5.out.sends 3 (.inl rfl) l1).sends 4 (.inr rfl) l2)
        generalize (p0.sends 3 l1).sends 4 l2 = q0 at *
        have hvar := c.var
        have HST := Lib.hid (c.step (by omega) 5 0 (by unfold isInt; decide) (by unfold isInt; decide))
        have HB0 := Lib.hid hB
        clear hB c
        go_wp2_with fail
        refine HST.out.mono ?_
        rintro e w6 ⟨rfl, c6, b6⟩
        have hvar6 := c6.var
        have HALL := Lib.hid (c6.all (by omega))
        have HB6 := Lib.hid (HB0.out.trans b6)
        clear c6 b6 hvar HST
        go_wp2_with fail
        refine HALL.out.mono ?_
        rintro e w7 ⟨rfl, c7, b7⟩
        have HB7 := Lib.hid (HB6.out.trans b7)
        have HS7 : Hid (St (q0.step 5 0).all 5 6) := Lib.hid HSS.out.close0
        generalize (q0.step 5 0).all = q1 at *
        have hvar7 := c7.var
        have HC7 := Lib.hid c7
        obtain ⟨⟨m7, lab7, h7⟩, _⟩ := c7
        have hs7 := HS7.out
        obtain ⟨x, y, e0, e1, S, T, hq1, hx, hy, _⟩ := hs7
        have hf0 : q1.f0.st = 5 := by rw [hq1]; exact hx.st
        have hf1 : q1.f1 = some y := by rw [hq1]
        obtain ⟨s7, hs7, hF7⟩ := h7.fb y hf1
        have k0 : w7.cell? ⟨pb, 0, none⟩ = some (ptr m7.a.fb) := h7.at_ 0
        have k1 : w7.cell? ⟨pb, 1, none⟩ = some (ptr s7.fb) := (h7.at_ 1).trans (by rw [show (m7.cs q1.t)[1]? = some (f1v m7.b) from rfl, hs7]; rfl)
        have HT0 := Lib.hid (State_any h7.fa.fa)
        have HT1 := Lib.hid (State_any hF7.fa)
        rw [show (q1.f0.fc m7.a.qb m7.a.ov).st = 5 from hf0] at HT0
        rw [show (y.fc s7.qb s7.ov).st = 6 from hy.st] at HT1
        unfold ptr at k0 k1 HT0 HT1
        have hlo7 := h7.lt
        clear hvar6 b7 h7 hq1 hx hy hf0 hf1 hs7 hF7 HALL
        generalize m7.a.fb = fb0 at *
        generalize s7.fb = fb1 at *
        rw [show ((5 : Nat) : Int) = 5 from rfl] at HT0
        rw [show ((6 : Nat) : Int) = 6 from rfl] at HT1
        go_wp2_with fail
        refine HT0.out.mono ?_
        rintro e w8 ⟨rfl, hw8⟩
        obtain rfl : w7 = w8 := hw8.symm
        clear HT0
        go_wp2_with fail
        refine HT1.out.mono ?_
        rintro e w8 ⟨rfl, hw8⟩
        obtain rfl : w7 = w8 := hw8.symm
        clear HT1
        have HST := Lib.hid (HC7.out.step (by omega) 6 0 (by unfold isInt; decide) (by unfold isInt; decide))
        clear k0 k1 hlo7
        go_wp2_with fail
        refine HST.out.mono ?_
        rintro e w9 ⟨rfl, c9, b9⟩
        have hvar9 := c9.var
        have HALL := Lib.hid (c9.all (by omega))
        have HB9 := Lib.hid (HB7.out.trans b9)
        clear c9 b9 hvar7 HST HC7
        go_wp2_with fail
        refine HALL.out.mono ?_
        rintro e w10 ⟨rfl, c10, b10⟩
        have HB10 := Lib.hid (HB9.out.trans b10)
        have hcl := HS7.out.close1
        generalize (q1.step 6 0).all = q2 at *
        obtain ⟨x9, y9, S9, T9, hq2, hx1, hx2, hx3, hy1, hy2, hx4, hy3⟩ := hcl
        have hvar10 := c10.var
        have HC10 := Lib.hid c10
        obtain ⟨⟨m10, lab10, h10⟩, _⟩ := c10
        have hf0 : q2.f0.st = 9 := by rw [hq2]; exact hx1
        have hf1 : q2.f1 = some y9 := by rw [hq2]
        obtain ⟨s10, hs10, hF10⟩ := h10.fb y9 hf1
        have k0 : w10.cell? ⟨pb, 0, none⟩ = some (ptr m10.a.fb) := h10.at_ 0
        have k1 : w10.cell? ⟨pb, 1, none⟩ = some (ptr s10.fb) := (h10.at_ 1).trans (by rw [show (m10.cs q2.t)[1]? = some (f1v m10.b) from rfl, hs10]; rfl)
        have HT0 := Lib.hid (State_any h10.fa.fa)
        have HT1 := Lib.hid (State_any hF10.fa)
        rw [show (q2.f0.fc m10.a.qb m10.a.ov).st = 9 from hf0, show ((9 : Nat) : Int) = 9 from rfl] at HT0
        rw [show (y9.fc s10.qb s10.ov).st = 10 from hy1, show ((10 : Nat) : Int) = 10 from rfl] at HT1
        have HW8 := Lib.hid (wait8 (S := S9) (T := T9) hx1 hx2 hx3 hy2 hx4 hy3 8 (Nat.le_refl _))
        rw [← hq2, if_pos rfl] at HW8
        unfold ptr at k0 k1 HT0 HT1
        clear hvar9 b10 h10 hq2 hf0 hf1 hs10 hF10 HALL hx1 hx2 hx3 hy1 hy2 hx4 hy3
        generalize m10.a.fb = fb2 at *
        generalize s10.fb = fb3 at *
        go_wp2_with fail
        refine HT0.out.mono ?_
        rintro e w11 ⟨rfl, hw11⟩
        obtain rfl : w10 = w11 := hw11.symm
        clear HT0
        go_wp2_with fail
        refine HT1.out.mono ?_
        rintro e w11 ⟨rfl, hw11⟩
        obtain rfl : w10 = w11 := hw11.symm
        clear HT1 k0 k1
        go_wp2_with fail
        go_loopw [99] (fun v wr => ∃ k : Nat, k ≤ 8 ∧ v = .int .i64 (k : Int) ∧ Below W.heap.size W wr ∧ Cl W.heap.size pb gb i ((List.range k).foldl (fun p _ => P.step p 7 0) q2) (20000 + k) wr) (fun v _ => 8 - (intOf v).toNat)
        case atStart => exact ⟨0, by omega, rfl, HB10.out, HC10.out.more (by omega)⟩
        case round =>
          obtain ⟨k, hk, rfl, hBk, ck⟩ := hrel
          have hvark := ck.var
          have HBk := Lib.hid hBk
          by_cases hlt : k < 8
          · have hki : (k : Int) < 8 := by omega
            have HST := Lib.hid (ck.step (by omega) 7 0 (by unfold isInt; decide) (by unfold isInt; decide))
            have HSN : Hid ((List.range (k + 1)).foldl (fun p _ => P.step p 7 0) q2 = ((List.range k).foldl (fun p _ => P.step p 7 0) q2).step 7 0) := Lib.hid (by rw [List.range_succ, List.foldl_append]; rfl)
            clear ck hBk
            go_wp2_with fail
            refine HST.out.mono ?_
            rintro e w12 ⟨rfl, c12, b12⟩
            have HC12 := Lib.hid c12
            have HB12 := Lib.hid (HBk.out.trans b12)
            clear c12 b12
            go_wp2_with fail
            go_roundw
            case rel => exact ⟨k + 1, by omega, by go_num, HB12.out, by rw [HSN.out]; exact HC12.out⟩
            case measure => simp [intOf]; omega
          · obtain rfl : k = 8 := by omega
            rw [HW8.out] at ck
            obtain ⟨⟨m13, lab13, h13⟩, _⟩ := ck
            have k0 : wr.cell? ⟨pb, 0, none⟩ = some (ptr m13.a.fb) := h13.at_ 0
            have HT0 := Lib.hid (fun q => State_any ((h13.below (below_drewN (Below.refl _ _) q)).fa.fa))
            obtain ⟨B0, j0, e0, r0⟩ := h13.s0.rb
            obtain ⟨B1, j1, e1, r1⟩ := h13.s1.rb
            obtain ⟨B2, j2, e2, r2⟩ := h13.c0.rb
            obtain ⟨B3, j3, e3, r3⟩ := h13.c1.rb
            have q0 := h13.at_ 3
            have q1 := h13.at_ 4
            have q2 := h13.at_ 5
            have q3 := h13.at_ 6
            rw [show ∀ t, (m13.cs t)[3]? = some m13.sv0 from fun _ => rfl, e0] at q0
            rw [show ∀ t, (m13.cs t)[4]? = some m13.sv1 from fun _ => rfl, e1] at q1
            rw [show ∀ t, (m13.cs t)[5]? = some m13.cv0 from fun _ => rfl, e2] at q2
            rw [show ∀ t, (m13.cs t)[6]? = some m13.cv1 from fun _ => rfl, e3] at q3
            have HS1 := Lib.hid (fun q => Same_any B0 B3 _ j0 _ j3 _ _ (wr.drewN q) r0 r3)
            have HS2 := Lib.hid (fun q => Same_any B1 B2 _ j1 _ j2 _ _ (wr.drewN q) r1 r2)
            rw [show ((F.fin_ x9 10).fc m13.a.qb m13.a.ov).st = 10 from rfl, show ((10 : Nat) : Int) = 10 from rfl] at HT0
            have hbs : ∀ l : List UInt8, (l == l) = true := fun l => beq_self_eq_true l
            dsimp only at q0 q1 q2 q3 HS1 HS2
            rw [hbs S9] at HS1
            rw [hbs T9] at HS2
            unfold ptr at k0 HT0
            clear h13 e0 e1 e2 e3 r0 r1 r2 r3 hBk
            generalize m13.a.fb = fb4 at *
            generalize S9.length = nS at *
            generalize T9.length = nT at *
            go_wp2_with fail
            go_quiet (first | (go_at_call_of 13 (Value.pointer (some ⟨fb4, 0, none⟩)); exact Calls.quiet_of_same (HT0.out _)) | (go_at_call_of 15 (Value.slice B0 nS j0); exact Calls.quiet_of (HS1.out _)) | (go_at_call_of 15 (Value.slice B1 nT j1); exact Calls.quiet_of (HS2.out _)))
            go_wp2_with fail
            go_ret
            exact ⟨rfl, below_drewN HBk.out nq⟩
theorem LawCloses (i : Nat) (A1 : Option Addr) (n1 c1 : Nat) (l1 : List UInt8) (A2 : Option Addr) (n2 c2 : Nat) (l2 : List UInt8) (W : World) (hi : i < 4294967296) (hl1 : RB W A1 n1 c1 l1) (hl2 : RB W A2 n2 c2 l2) : Calls Try.prog 7 #[.int .u32 (i : Int), .slice A1 n1 c1, .slice A2 n2 c2] W (Held W) := FCloses_any i A1 n1 c1 l1 A2 n2 c2 l2 W hi hl1 hl2
end Go.Proofs.Ytnpkmkjenlhkiaa

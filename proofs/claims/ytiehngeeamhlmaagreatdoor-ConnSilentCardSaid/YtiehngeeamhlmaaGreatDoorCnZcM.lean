/- The contract of Conn.Tick at a connection that dials and hears nothing. Conditions: at most 60 ticks behind Dial; the table of moves is as the program lays it. -/
import Derived.Test.YtiehngeeamhlmaaGreatDoorCnZbM
namespace Go.Proofs.YtiehngeeamhlmaaGreatDoor
set_option linter.unusedVariables false
set_option linter.unusedSimpArgs false
set_option maxRecDepth 20000
open Go.RowKit Go.Lib

section
variable {base : Nat} {w0 w w' : World} {cb lb : Nat} {t0 : Int} {n : Nat}
def TickP (base : Nat) (w0 : World) (cb lb : Nat) (t0 : Int) (e : Nat) (w' : World) : Prop := AliveP base w0 cb lb t0 e w' ∨ e = 60 ∧ OverP base w0 cb lb w'
theorem AliveP.below (h : AliveP base w0 cb lb t0 n w) (b : Below w.heap.size w w') : AliveP base w0 cb lb t0 n w' := by
  obtain ⟨lab, ro, z, K, k, W, C, B⟩ := h
  exact ⟨lab, ro, z, K, k, W.below b, C, B.trans (b.mono W.size_)⟩
set_option maxHeartbeats 3200000 in
theorem Tick_any (h : AliveP base w0 cb lb t0 n w) (e : Nat) (hne : n ≤ e) (he : e ≤ 60) (hT : ∀ W, Below base w0 W → LC.Tab W) :
    Calls Tryz.prog 31 #[cptr cb, .int .i64 (t0 + (e : Int))] w fun ee w' => ee = .returned (.tuple #[]) ∧ TickP base w0 cb lb t0 e w' := by
  have HA := Lib.hid h
  have HT := Lib.hid hT
  obtain ⟨lab, ro, z, K, k, W, C, B⟩ := h
  have hb3 := C.tb
  have hk := tmk_le k
  have hlt := C.lt
  have hsn : snc z.c.bg (t0 + (e : Int)) = (e : Int) := by rw [C.bg]; unfold snc; split <;> omega
  have HS := Lib.hid (fun m => since_any (w := w.drewN m) (c := z.c) ((W.below (below_dn (Below.refl _ _) m)).ca) (t0 + (e : Int)) (by rw [C.bg]; omega) (by omega))
  rw [hsn] at HS
  have HN := Lib.hid (fun m => LW.onow_any (w := w.drewN m) ((W.below (below_dn (Below.refl _ _) m)).wh))
  rw [C.nn] at HN
  have c16 := W.ca.wb_
  have hmin : min (e : Int) ((n : Int) + 10000) = (e : Int) := by omega
  have hwr : IntKind.i64.wrap ((n : Int) + 10000) = (n : Int) + 10000 := by rw [IntKind.wrap_i64]; omega
  clear W C B hT hsn hk
  unfold tptr at HS
  unfold LW.ptr at HN
  unfold cptr at *
  generalize t0 + (e : Int) = tt at *
  go_enter Tryz.func31, Tryz.ntmps31
  go_wp2_with fail
  go_quiet (first
    | (go_at_call 75; exact Calls.quiet_of_same (HS.out _))
    | (go_at_call 76; exact Calls.quiet_of_same (HN.out _)))
  have HAq : Hid (AliveP base w0 cb lb t0 n (w.drewN nq)) := Lib.hid (HA.out.below (below_dn (Below.refl _ _) nq))
  clear HS HN c16 hmin hwr HA hb3 hlt
  generalize w.drewN nq = wq at *
  clear nq
  go_wp2_with fail
  go_loopw [42] (fun i wr => ∃ m : Nat, n ≤ m ∧ m ≤ e ∧ ((i = undef ∧ m = n) ∨ i = .int .i64 (m : Int)) ∧ (AliveP base w0 cb lb t0 m wr ∨ m = 60 ∧ OverP base w0 cb lb wr)) (fun i _ => 60 - (intOf i).toNat)
  case atStart => exact ⟨n, Nat.le_refl _, hne, .inl ⟨rfl, rfl⟩, .inl HAq.out⟩
  case round =>
    obtain ⟨m, hnm, hme, hi, hP | ⟨rfl, hP⟩⟩ := hrel
    · obtain ⟨lab1, ro1, z1, K1, k1, W, C, B⟩ := hP
      have d16 := W.ca.wb_
      have d4 := W.ca.st_
      rw [C.cm.st] at d4
      have HN := Lib.hid (LW.onow_any W.wh)
      rw [C.nn] at HN
      unfold LW.ptr at HN
      rcases Nat.lt_or_ge m e with hm | hm
      · have hmi : (m : Int) < (e : Int) := by omega
        have hwr : IntKind.i64.wrap ((m : Int) + 1) = (m : Int) + 1 := by rw [IntKind.wrap_i64]; omega
        have HP := Lib.hid (pass_any W C (fun W2 b2 => HT.out W2 (B.trans b2)))
        have HB := Lib.hid B
        have HI := Lib.hid hi
        unfold cptr at HP
        clear W C B hi
        go_wp2_with (first
          | (go_at_call 76; refine HN.out.mono ?_; rintro e1 w1 ⟨rfl, rfl⟩)
          | fail)
        refine HP.out.mono ?_
        rintro e1 w1 ⟨rfl, h1⟩
        have HR : Hid (AliveP base w0 cb lb t0 (m + 1) w1 ∨ m + 1 = 60 ∧ OverP base w0 cb lb w1) := Lib.hid (by
          rcases h1 with ⟨lab2, ro2, z2, K2, k2, W2, C2, B2⟩ | ⟨h60, lab2, ro2, l2, s2, x2, g2, c2, p2, so2, sr2, sm2, hD, Z2, S2, B2, hr⟩
          · exact .inl ⟨lab2, ro2, z2, K2, k2, W2, C2, HB.out.trans B2⟩
          · exact .inr ⟨h60, lab2, ro2, l2, s2, x2, g2, c2, p2, so2, sr2, sm2, hD, Z2, S2, HB.out.trans B2, hr⟩)
        clear h1 HP HN
        go_wp2_with fail
        go_roundw
        case rel => exact ⟨m + 1, by omega, by omega, .inr (by rw [Int.natCast_add]; rfl), HR.out⟩
        case measure =>
          rcases HI.out with ⟨rfl, rfl⟩ | rfl
          · have h0 : intOf undef = 0 := rfl
            rw [h0]
            simp [intOf]; omega
          · simp [intOf]; omega
      · obtain rfl : m = e := by omega
        have HQ : Hid (TickP base w0 cb lb t0 m wr) := Lib.hid (.inl ⟨lab1, ro1, z1, K1, k1, W, C, B⟩)
        clear W C B hi HAq
        go_wp2_with (first
          | (go_at_call 76; refine HN.out.mono ?_; rintro e1 w1 ⟨rfl, rfl⟩)
          | fail)
        go_end0
        exact ⟨rfl, HQ.out⟩
    · obtain rfl : e = 60 := by omega
      have HQ : Hid (TickP base w0 cb lb t0 60 wr) := Lib.hid (.inr ⟨rfl, hP⟩)
      obtain ⟨lab2, ro2, l2, s2, x2, g2, c2, p2, so2, sr2, sm2, hD, Z2, S2, B2, hr⟩ := hP
      have d16 := Z2.ca.wb_
      have HN := Lib.hid (LW.onow_any Z2.wh)
      unfold LW.ptr at HN
      clear hD Z2 S2 B2 hr hi HAq
      go_wp2_with (first
        | (go_at_call 76; refine HN.out.mono ?_; rintro e1 w1 ⟨rfl, rfl⟩)
        | fail)
      go_end0
      exact ⟨rfl, HQ.out⟩
end
end Go.Proofs.YtiehngeeamhlmaaGreatDoor

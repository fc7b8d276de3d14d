/- Laws: a wheel that is not there has nothing; a timer that is armed anew. No condition. -/
import Derived.Test.YtkmhgcdjmfafhaaWhK
namespace Go.Proofs.Ytkmhgcdjmfafhaa
set_option linter.unusedVariables false
set_option linter.unusedSimpArgs false
open Go.RowKit

set_option maxHeartbeats 4000000 in
theorem Nil_any (x t : Int) (w : World) (hx : -9223372036854775808 ≤ x ∧ x ≤ 9223372036854775807) (ht : -9223372036854775808 ≤ t ∧ t ≤ 9223372036854775807) : Calls Try.prog 6 #[.int .i64 x, .int .i64 t] w (Held w) := by
  have HW := Lib.hid wakes_any
  go_enter Try.func6, Try.ntmps6
  go_wp2_with fail
  refine (HW.out _).mono ?_
  rintro e w1 ⟨rfl, b1⟩
  go_wp2_with fail
  refine (nat_any _ _).mono ?_
  rintro e w2 ⟨rfl, rfl⟩
  go_wp2_with fail
  refine (nnext_any _).mono ?_
  rintro e w3 ⟨rfl, rfl⟩
  go_wp2_with fail
  refine (narm_any _ _ _).mono ?_
  rintro e w4 ⟨rfl, rfl⟩
  go_wp2_with fail
  refine (ncancel_any _ _ _ _).mono ?_
  rintro e w5 ⟨rfl, rfl⟩
  go_wp2_with fail
  refine (nadv_any _ _).mono ?_
  rintro e w6 ⟨rfl, rfl⟩
  go_wp2_with fail
  refine (nnow_any _).mono ?_
  rintro e w7 ⟨rfl, rfl⟩
  go_wp2_with fail
  refine (nlen_any _).mono ?_
  rintro e w8 ⟨rfl, rfl⟩
  go_wp2_with fail
  go_ret
  exact ⟨rfl, b1.alloc b1.size _⟩

theorem far_np (n y : Nat) (hy : y < 4096) : ∃ N : Nat, n + y + 1 ≤ N ∧ N ≤ n + y + 1 + 10000 ∧ ∀ m : Nat, n + y + 1 ≤ m → ((m : Int) < min ((n : Int) + 5000) (((n + y + 1 : Nat) : Int) + 10000) ↔ m < N) := by
  refine ⟨((n : Int) + 5000).toNat, by omega, by omega, fun m _ => ?_⟩
  omega

set_option maxHeartbeats 4000000 in
theorem Again_any (n a b : Nat) (w : World) (hn : n < 65536) (ha : a < 65536) (hb : b < 65536) : Calls Try.prog 7 #[.int .u16 (n : Int), .int .u16 (a : Int), .int .u16 (b : Int)] w (Held w) := by
  have HW := Lib.hid wakes_any
  have qa : (a : Int).tmod 4096 = ((a % 4096 : Nat) : Int) := (Int.ofNat_tmod a 4096).symm
  have qb : (b : Int).tmod 4096 = ((b % 4096 : Nat) : Int) := (Int.ofNat_tmod b 4096).symm
  have la : a % 4096 < 4096 := Nat.mod_lt _ (by decide)
  have lb : b % 4096 < 4096 := Nat.mod_lt _ (by decide)
  generalize a % 4096 = x at *
  generalize b % 4096 = y at *
  have hcl : clamp (n : Int) = n := by unfold clamp; omega
  have HN := Lib.hid (fun w => new_any (n : Int) (by unfold isI; omega) w)
  rw [hcl] at HN
  clear hcl
  go_enter Try.func7, Try.ntmps7
  go_wp2_with fail
  refine (HW.out _).mono ?_
  rintro e w0 ⟨rfl, b0⟩
  go_wp2_with fail
  refine (HN.out _).mono ?_
  rintro e w1 ⟨lab1, wb, rfl, O1, F1⟩
  unfold ptr
  have H1 := Lib.hid O1
  have HF1 := Lib.hid F1
  clear O1 F1
  go_wp2_with fail
  obtain ⟨X, hX⟩ : ∃ X : Int, (n : Int) + 1 + (x : Int) = X := ⟨_, rfl⟩
  refine (oarm_good H1.out (x := 7) (t := (n : Int) + 1 + (x : Int)) (by unfold isI; omega) (by omega) (by simp) (by omega)).mono ?_
  rintro e w2 ⟨rfl, lab2, O2, F2⟩
  have e2 : woL [] 7 ++ [((7 : Int), (n : Int) + 1 + (x : Int))] = [(7, (n : Int) + 1 + (x : Int))] := rfl
  rw [e2] at O2
  have H2 := Lib.hid O2
  have HF2 := Lib.hid (HF1.out.trans F2)
  clear O2 F2 H1 HF1 e2 hX
  go_wp2_with fail
  refine (oarm_good H2.out (x := 7) (t := (n : Int) + 1 + (y : Int)) (by unfold isI; omega) (by omega) (by simp) (by omega)).mono ?_
  rintro e w3 ⟨rfl, lab3, O3, F3⟩
  have e3 : woL [((7 : Int), (n : Int) + 1 + (x : Int))] 7 ++ [((7 : Int), (n : Int) + 1 + (y : Int))] = [(7, (n : Int) + 1 + (y : Int))] := by simp [woL]
  rw [e3] at O3
  have H3 := Lib.hid O3
  have HF3 := Lib.hid (HF2.out.trans F3)
  clear O3 F3 H2 HF2 e3
  go_wp2_with fail
  have hl3 := olen_any H3.out
  rw [show (([((7 : Int), (n : Int) + 1 + (y : Int))].length : Nat) : Int) = 1 from rfl] at hl3
  refine hl3.mono ?_
  rintro e w4 ⟨rfl, rfl⟩
  clear hl3
  go_wp2_with fail
  refine (oadv_any H3.out (t := _) (by unfold isI; omega) (by omega) (by simp) (n + y) (by omega) (by omega) (fun m _ => by omega)).mono ?_
  rintro e w5 ⟨v5, lab5, out5, rfl, O5, F5, D5, vl5, od5, mm5⟩
  have ho5 : out5 = [] := List.eq_nil_iff_forall_not_mem.2 fun p hp => by
    obtain ⟨h1, h2⟩ := (mm5 p).1 hp
    rw [List.mem_singleton] at h1
    subst h1
    simp at h2
    omega
  subst ho5
  have e5 : ([((7 : Int), (n : Int) + 1 + (y : Int))].filter fun p => decide (((n + y : Nat) : Int) < p.2)) = [(7, (n : Int) + 1 + (y : Int))] := by
    rw [List.filter_cons_of_pos (by simp; omega)]
    rfl
  rw [e5] at O5
  obtain ⟨A5, c5, rfl, _⟩ := D5.slice
  have H5 := Lib.hid O5
  have HF5 := Lib.hid (HF3.out.trans F5)
  clear O5 F5 H3 HF3 D5 vl5 od5 mm5 e5
  go_wp2_with fail
  refine (oadv_any H5.out (t := _) (by unfold isI; omega) (by omega) (by simp) (n + y + 1) (by omega) (by omega) (fun m _ => by omega)).mono ?_
  rintro e w6 ⟨v6, lab6, out6, rfl, O6, F6, D6, vl6, od6, mm6⟩
  have ho6 : out6 = [(7, (n : Int) + 1 + (y : Int))] := by
    refine ordL_ext od6 (by unfold OrdL; simp) fun p => ?_
    rw [mm6 p, List.mem_singleton]
    constructor
    · exact fun h => h.1
    · rintro rfl
      exact ⟨rfl, by simp; omega⟩
  subst ho6
  have e6 : ([((7 : Int), (n : Int) + 1 + (y : Int))].filter fun p => decide (((n + y + 1 : Nat) : Int) < p.2)) = [] := by
    rw [List.filter_cons_of_neg (by simp; omega)]
    rfl
  rw [e6] at O6
  obtain ⟨g, c, rfl, hc, _, hcell⟩ := D6.at_ (by simp)
  have d0 : w6.cell? ⟨g, 0, none⟩ = some (.int .i64 7) := hcell 0 (by simp)
  have d1 : w6.cell? ⟨g, 1, none⟩ = some (.int .i64 ((n : Int) + 1 + (y : Int))) := hcell 1 (by simp)
  have H6 := Lib.hid O6
  have HF6 := Lib.hid (HF5.out.trans F6)
  clear O6 F6 H5 HF5 D6 vl6 od6 mm6 e6 hcell
  go_wp2_with fail
  have hl6 := olen_any H6.out
  rw [show ((([] : List (Int × Int)).length : Nat) : Int) = 0 from rfl] at hl6
  refine hl6.mono ?_
  rintro e w7 ⟨rfl, rfl⟩
  clear hl6
  go_wp2_with fail
  obtain ⟨N, hN1, hN2, hN3⟩ := far_np n y lb
  refine (oadv_any H6.out (t := _) (by unfold isI; omega) (by omega) (by simp) N hN1 hN2 hN3).mono ?_
  rintro e w8 ⟨v8, lab8, out8, rfl, O8, F8, D8, vl8, od8, mm8⟩
  have ho8 : out8 = [] := List.eq_nil_iff_forall_not_mem.2 fun p hp => by
    have h1 := ((mm8 p).1 hp).1
    cases h1
  subst ho8
  obtain ⟨A8, c8, rfl, _⟩ := D8.slice
  have HF8 := Lib.hid (HF6.out.trans F8)
  clear O8 F8 H6 HF6 D8 vl8 od8 mm8
  go_wp2_with fail
  go_ret
  exact ⟨rfl, b0.trans (HF8.out.start.mono b0.size)⟩

end Go.Proofs.Ytkmhgcdjmfafhaa

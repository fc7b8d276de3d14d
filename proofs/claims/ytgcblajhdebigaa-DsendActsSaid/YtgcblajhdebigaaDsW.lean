/- The law DsendWindow. Conditions: the acts lie where the slice says. -/
import Derived.Test.YtgcblajhdebigaaDsQ
import Derived.Test.YtgcblajhdebigaaDsFr
namespace Go.Proofs.Ytgcblajhdebigaa
set_option linter.unusedVariables false
set_option linter.unusedSimpArgs false
open Go.RowKit Go.Lib

/-- A number held within 2^30. -/
def nearN (n : Int) : Int := min (max n (-1073741824)) 1073741824
theorem near_in (n : Int) : -1073741824 ≤ nearN n ∧ nearN n ≤ 1073741824 := by unfold nearN; omega
theorem near_any (n : Int) (w : World) : Calls Try.prog 16 #[.int .i64 n] w fun e w' => e = .returned (.int .i64 (nearN n)) ∧ w' = w := by
  have hn : min (max n (-1073741824)) 1073741824 = nearN n := rfl
  go_enter Try.func16, Try.ntmps16
  go_wp2_with fail
  go_ret
  exact ⟨rfl, rfl⟩
theorem cell4 (w : World) (x y z u : Value) (t : TypeId) : (w.alloc (.cells #[x, y, z, u] t)).cell? ⟨w.heap.size, 0, none⟩ = some x ∧ (w.alloc (.cells #[x, y, z, u] t)).cell? ⟨w.heap.size, 1, none⟩ = some y ∧ (w.alloc (.cells #[x, y, z, u] t)).cell? ⟨w.heap.size, 2, none⟩ = some z ∧ (w.alloc (.cells #[x, y, z, u] t)).cell? ⟨w.heap.size, 3, none⟩ = some u :=
  ⟨by rw [cell_of_row _ _ _ _ _ _ (heap_alloc_new w _)]; rfl, by rw [cell_of_row _ _ _ _ _ _ (heap_alloc_new w _)]; rfl, by rw [cell_of_row _ _ _ _ _ _ (heap_alloc_new w _)]; rfl, by rw [cell_of_row _ _ _ _ _ _ (heap_alloc_new w _)]; rfl⟩

section
variable {W w : World} {sb : Nat} {z : Sh} {d : Dq}
/-- What a sender tells of its numbers. -/
structure Tells (w : World) (sb un nx eg hd : Nat) : Prop where
  una : Calls Try.prog 24 #[.pointer (some ⟨sb, 0, none⟩)] w fun e w' => e = .returned (.int .i64 (un : Int)) ∧ w' = w
  next : Calls Try.prog 23 #[.pointer (some ⟨sb, 0, none⟩)] w fun e w' => e = .returned (.int .i64 (nx : Int)) ∧ w' = w
  edge : Calls Try.prog 25 #[.pointer (some ⟨sb, 0, none⟩)] w fun e w' => e = .returned (.int .i64 (eg : Int)) ∧ w' = w
  held : Calls Try.prog 26 #[.pointer (some ⟨sb, 0, none⟩)] w fun e w' => e = .returned (.int .i64 (hd : Int)) ∧ w' = w
theorem Sv.tells (h : Sv W w sb z d) : Tells w sb d.una d.next d.edge d.held := ⟨Una_any h.s, Next_sd h.s, Edge_any h.s, Held_any h.s⟩
theorem Dq.ok.took (h : d.ok) {m : Nat} (h0 : d.most m ≠ 0) : d.dsn m = d.from_ ∧ d.una ≤ d.dsn m ∧ d.dsn m + d.most m ≤ (d.take m).edge ∧ d.most m ≤ m ∧ d.dsn m + d.most m ≤ (d.take m).next := by
  obtain ⟨q1, q2, q3, q4⟩ := h.most (m := m)
  have e : d.dsn m = d.from_ := by unfold Dq.dsn; rw [if_neg h0]
  have f1 := h.from_.1
  rw [e]
  refine ⟨rfl, f1, q2, q1, ?_⟩
  show _ ≤ max d.next (d.from_ + d.most m)
  omega
theorem Dq.wrote_fin {b : List UInt8} : (d.wrote b).fin ≤ d.fin + b.length := by
  unfold Dq.wrote
  split
  · omega
  · unfold Dq.put Dq.fin
    simp only [List.length_append, List.length_take]
    omega
theorem Dq.acks_fin {a win : Int} : (d.acks a win).fin = d.fin := by
  unfold Dq.acks
  split <;> rfl
theorem Sv.write (h : Sv W w sb z d) (hc : d.fin ≤ 1000000000) {A : Option Addr} {n c : Nat} {b : List UInt8} (R : RB w A n c b) (hn : n ≤ 1000) : Calls Try.prog 11 #[ptr sb, .slice A n c] w fun e w' => ∃ z', e = .returned (.tuple #[.int .i64 (d.wN n : Int), .int .i64 (d.wE n)]) ∧ Sv W w' sb z' (d.wrote b) ∧ Left W.heap.size w sb z (d.wrote b) w' z' :=
  (Write_any h.s h.bel.size hc R (by omega)).mono fun e w' ⟨he, z', hl⟩ => ⟨z', he, h.step hl, hl⟩
theorem Sv.ack (h : Sv W w sb z d) (hc : d.fin ≤ 1000000000) {a win : Int} (ha : isI a) (hw : isI win) : Calls Try.prog 19 #[ptr sb, .int .i64 a, .int .i64 win] w fun e w' => ∃ z', e = .returned (.tuple #[.int .i64 (d.gone a win : Int), .bool (d.may a win)]) ∧ Sv W w' sb z' (d.acks a win) ∧ Left W.heap.size w sb z (d.acks a win) w' z' :=
  (Ack_any h.s hc ha hw).mono fun e w' ⟨he, z', hl⟩ => ⟨z', he, h.step hl, hl⟩
end

set_option maxRecDepth 20000 in
set_option maxHeartbeats 6400000 in
theorem Window_law (A : Option Addr) (n c : Nat) (l : List Da) (W : World) (hA : Das W A n c l) : Calls Try.prog 5 #[.slice A n c] W (Held W) := by
  have HW := Lib.hid (wakes_any W)
  have HA := Lib.hid hA
  have hcc := hA.cap
  have hcm := hA.max
  clear hA
  by_cases hn : 100 < n
  · have h' : (100 : Int) < (n : Int) := by omega
    go_enter Try.func5, Try.ntmps5
    go_wp2_with fail
    refine (HW.out).mono ?_
    rintro e w1 ⟨rfl, b1⟩
    have B1 := Lib.hid b1
    clear b1
    go_wp2_with fail
    go_ret
    exact ⟨rfl, B1.out⟩
  · have hg1 : ¬ ((100 : Int) < (n : Int)) := by omega
    go_enter Try.func5, Try.ntmps5
    go_wp2_with fail
    refine (HW.out).mono ?_
    rintro e w1 ⟨rfl, b1⟩
    have HN1 := Lib.hid (new_sv W w1 b1)
    clear b1
    go_wp2_with fail
    refine (HN1.out).mono ?_
    rintro e w2 ⟨sb, z2, rfl, S2, -, -⟩
    have HS2 := Lib.hid S2
    clear S2 HN1
    unfold ptr
    go_wp2_with fail
    go_loopw [17] (fun ix wr => ∃ (j : Nat) (z : Sh) (d : Dq), ix = .int .i64 (j : Int) ∧ j ≤ n ∧ d.fin ≤ 1 + 100 * j ∧ Sv W wr sb z d) (fun ix _ => n - (intOf ix).toNat)
    case atStart => exact ⟨0, z2, Dq.new, rfl, Nat.zero_le _, by decide, HS2.out⟩
    case round =>
      obtain ⟨j, z5, d, rfl, hj, hfin, S5⟩ := hrel
      by_cases hjn : j < n
      · obtain ⟨g, o, rfl, ok, x0, x1, x2, x3⟩ := (HA.out.below S5.bel).at_ hjn
        generalize l.getD j default = a at *
        obtain ⟨kd, an, am, bA, bn, bc, bs⟩ := a
        dsimp only at *
        have HOK := Lib.hid ok
        have hb := below_a wr (.cells #[.int .i64 kd, .int .i64 an, .int .i64 am, .slice bA bn bc] 30)
        have HS6 := Lib.hid (S5.below hb)
        have HR6 : Hid (RB (wr.alloc (.cells #[.int .i64 kd, .int .i64 an, .int .i64 am, .slice bA bn bc] 30)) bA bn bc bs) := Lib.hid (ok.row.below hb)
        obtain ⟨y0, y1, y2, y3⟩ := cell4 wr (.int .i64 kd) (.int .i64 an) (.int .i64 am) (.slice bA bn bc) 30
        have HF := Lib.hid (And.intro hfin hn)
        have HJ := Lib.hid hj
        clear ok hb S5 hfin hn
        have hjc : (j : Int) < (n : Int) := by omega
        obtain ⟨gt, hgt⟩ : ∃ gt, gt = wr.heap.size := ⟨_, rfl⟩
        go_upto_region 9 with (fail)
        rw [← hgt] at y0 y1 y2 y3 ⊢
        clear hgt x0 x1 x2 x3
        generalize wr.alloc (.cells #[.int .i64 kd, .int .i64 an, .int .i64 am, .slice bA bn bc] 30) = w6 at *
        by_cases k0 : kd = 0
        · subst k0
          by_cases hbn : 100 < bn
          · have hb1 : (100 : Int) < (bn : Int) := by omega
            go_wp2_with fail
            go_ret
            exact ⟨rfl, HS6.out.bel⟩
          · have hb1 : ¬ ((100 : Int) < (bn : Int)) := by omega
            have HWR := Lib.hid (HS6.out.write (by have := HF.out; omega) HR6.out (by omega))
            have HBL := Lib.hid HR6.out.len
            generalize d.wE bn = we at *
            generalize d.wN bn = wn at *
            unfold ptr at HWR
            clear y1 y2
            go_wp2_with fail
            refine (HWR.out).mono ?_
            rintro e w7 ⟨z7, rfl, S7, -⟩
            have HS7 := Lib.hid S7
            have HF7 : Hid ((d.wrote bs).fin ≤ 1 + 100 * (j + 1)) := Lib.hid (by have := d.wrote_fin (b := bs); have := HF.out; have := HBL.out; omega)
            generalize d.wrote bs = d7 at *
            clear S7 HWR
            have hnm := HS7.out.s.nums
            have q1 : ¬ ((d7.next : Int) < (d7.una : Int)) := by omega
            have q2 : ¬ ((d7.edge : Int) < (d7.next : Int)) := by omega
            have q3 : ¬ ((64 : Int) < (d7.held : Int)) := by omega
            have HT1 := Lib.hid HS7.out.tells.una
            have HT2 := Lib.hid HS7.out.tells.next
            have HT3 := Lib.hid HS7.out.tells.edge
            have HT4 := Lib.hid HS7.out.tells.held
            clear hnm
            generalize d7.next = n9 at *
            generalize d7.una = u9 at *
            generalize d7.edge = e9 at *
            generalize d7.held = h9 at *
            go_wp2_with fail
            refine (HT1.out).mono ?_
            rintro e w9 ⟨rfl, rfl⟩
            go_wp2_with fail
            refine (HT2.out).mono ?_
            rintro e w9 ⟨rfl, rfl⟩
            go_wp2_with fail
            refine (HT2.out).mono ?_
            rintro e w9 ⟨rfl, rfl⟩
            go_wp2_with fail
            refine (HT3.out).mono ?_
            rintro e w9 ⟨rfl, rfl⟩
            go_wp2_with fail
            refine (HT4.out).mono ?_
            rintro e w9 ⟨rfl, rfl⟩
            go_wp2_with fail
            go_roundw
            case rel => exact ⟨j + 1, _, d7, by go_num, by omega, HF7.out, HS7.out⟩
            case measure => simp [intOf]; omega
        · have f0 : ((kd : Int) == 0) = false := by simp; omega
          by_cases k1 : kd = 1
          · subst k1
            have HTK := Lib.hid (HS6.out.take HOK.out.n)
            obtain ⟨M, hM⟩ : ∃ M, M = mostOf an := ⟨_, rfl⟩
            rw [← hM] at HTK
            have HM8 : Hid (M ≤ 8) := Lib.hid (by rw [hM]; exact (most_in an).2)
            clear hM
            have HUN := Lib.hid HS6.out.tells.una
            unfold ptr at HTK
            go_wp2_with fail
            refine (HUN.out).mono ?_
            rintro e w7 ⟨rfl, rfl⟩
            go_wp2_with fail
            refine (HTK.out).mono ?_
            rintro e w7 ⟨v7, z7, rfl, B7, S7, -⟩
            obtain ⟨A7, c7, rfl, -⟩ := B7.rb
            have HS7 := Lib.hid S7
            have HF7 : Hid ((d.take M).fin ≤ 1 + 100 * (j + 1)) := Lib.hid (by have := HF.out; show d.fin ≤ _; omega)
            by_cases hm0 : d.most M = 0
            · rw [hm0]
              generalize d.take M = d7 at *
              generalize d.dsn M = dn at *
              generalize d.una = u0 at *
              clear S7 B7 HTK HUN
              go_wp2_with fail
              have hnm := HS7.out.s.nums
              have q1 : ¬ ((d7.next : Int) < (d7.una : Int)) := by omega
              have q2 : ¬ ((d7.edge : Int) < (d7.next : Int)) := by omega
              have q3 : ¬ ((64 : Int) < (d7.held : Int)) := by omega
              have HT1 := Lib.hid HS7.out.tells.una
              have HT2 := Lib.hid HS7.out.tells.next
              have HT3 := Lib.hid HS7.out.tells.edge
              have HT4 := Lib.hid HS7.out.tells.held
              clear hnm
              generalize d7.next = n9 at *
              generalize d7.una = u9 at *
              generalize d7.edge = e9 at *
              generalize d7.held = h9 at *
              go_wp2_with fail
              refine (HT1.out).mono ?_
              rintro e w9 ⟨rfl, rfl⟩
              go_wp2_with fail
              refine (HT2.out).mono ?_
              rintro e w9 ⟨rfl, rfl⟩
              go_wp2_with fail
              refine (HT2.out).mono ?_
              rintro e w9 ⟨rfl, rfl⟩
              go_wp2_with fail
              refine (HT3.out).mono ?_
              rintro e w9 ⟨rfl, rfl⟩
              go_wp2_with fail
              refine (HT4.out).mono ?_
              rintro e w9 ⟨rfl, rfl⟩
              go_wp2_with fail
              go_roundw
              case rel => exact ⟨j + 1, _, d7, by go_num, by omega, HF7.out, HS7.out⟩
              case measure => simp [intOf]; omega
            · obtain ⟨-, t1, t2, t3, t4⟩ := HS6.out.s.ok.took hm0
              have hfb := HF7.out
              have hnm := S7.s.nums
              have HED := Lib.hid S7.tells.edge
              have HNX := Lib.hid S7.tells.next
              have hm8 := HM8.out
              have hjj := HF.out
              have hwd : IntKind.i64.wrap ((d.dsn M : Int) + (d.most M : Int)) = (d.dsn M : Int) + (d.most M : Int) := by rw [IntKind.wrap_i64]; omega
              have c1 : ¬ ((d.dsn M : Int) < (d.una : Int)) := by omega
              have c2 : ¬ (((d.take M).edge : Int) < (d.dsn M : Int) + (d.most M : Int)) := by omega
              have c3 : ¬ ((8 : Int) < (d.most M : Int)) := by omega
              have c4 : ¬ (((d.take M).next : Int) < (d.dsn M : Int) + (d.most M : Int)) := by omega
              have c5 : (0 : Int) < (d.most M : Int) := by omega
              clear t1 t2 t3 t4 hnm hm8 hjj hfb S7 B7 HTK HUN hm0
              have HT7 := Lib.hid HS7.out
              generalize (d.take M).edge = e7 at *
              generalize (d.take M).next = n7 at *
              generalize d.take M = d7 at *
              generalize d.dsn M = dn at *
              generalize d.most M = mn at *
              generalize d.una = u0 at *
              go_wp2_with fail
              refine (HED.out).mono ?_
              rintro e w8 ⟨rfl, rfl⟩
              go_wp2_with fail
              refine (HNX.out).mono ?_
              rintro e w8 ⟨rfl, rfl⟩
              have hnm := HS7.out.s.nums
              have q1 : ¬ ((d7.next : Int) < (d7.una : Int)) := by omega
              have q2 : ¬ ((d7.edge : Int) < (d7.next : Int)) := by omega
              have q3 : ¬ ((64 : Int) < (d7.held : Int)) := by omega
              have HT1 := Lib.hid HS7.out.tells.una
              have HT2 := Lib.hid HS7.out.tells.next
              have HT3 := Lib.hid HS7.out.tells.edge
              have HT4 := Lib.hid HS7.out.tells.held
              clear hnm
              generalize d7.next = n9 at *
              generalize d7.una = u9 at *
              generalize d7.edge = e9 at *
              generalize d7.held = h9 at *
              go_wp2_with fail
              refine (HT1.out).mono ?_
              rintro e w9 ⟨rfl, rfl⟩
              go_wp2_with fail
              refine (HT2.out).mono ?_
              rintro e w9 ⟨rfl, rfl⟩
              go_wp2_with fail
              refine (HT2.out).mono ?_
              rintro e w9 ⟨rfl, rfl⟩
              go_wp2_with fail
              refine (HT3.out).mono ?_
              rintro e w9 ⟨rfl, rfl⟩
              go_wp2_with fail
              refine (HT4.out).mono ?_
              rintro e w9 ⟨rfl, rfl⟩
              go_wp2_with fail
              go_roundw
              case rel => exact ⟨j + 1, _, d7, by go_num, by omega, HF7.out, HS7.out⟩
              case measure => simp [intOf]; omega
          · have f1 : ((kd : Int) == 1) = false := by simp; omega
            by_cases k2 : kd = 2
            · subst k2
              have HLO := Lib.hid (fun (W6 : World) (s : Sv W W6 sb z5 d) => s.lost (x := (d.una : Int) + nearN an) (g := nearN am) (by have := near_in an; have := s.s.nums; omega) (by have := near_in am; omega) (f := d.lf ((d.una : Int) + nearN an)) (t := d.lt ((d.una : Int) + nearN an) (nearN am)) rfl rfl)
              have hwa : IntKind.i64.wrap ((d.una : Int) + nearN an) = (d.una : Int) + nearN an := by have := near_in an; have := HS6.out.s.nums; rw [IntKind.wrap_i64]; omega
              generalize d.lt ((d.una : Int) + nearN an) (nearN am) = lt at *
              generalize d.lf ((d.una : Int) + nearN an) = lf at *
              generalize kept d.L lf (lt - lf) = kp at *
              have HF7 : Hid ((d.lose lf lt).fin ≤ 1 + 100 * (j + 1)) := Lib.hid (by have := HF.out; show d.fin ≤ _; omega)
              generalize d.lose lf lt = d7 at *
              have HNA := Lib.hid (fun W6 => near_any an W6)
              have HNM := Lib.hid (fun W6 => near_any am W6)
              have HUN := Lib.hid (fun (W6 : World) (s : Sv W W6 sb z5 d) => s.tells.una)
              generalize nearN an = nan at *
              generalize nearN am = nam at *
              generalize d.una = u0 at *
              obtain ⟨x9, hx9⟩ : ∃ x9 : Int, x9 = (u0 : Int) + nan := ⟨_, rfl⟩
              have hwa2 : IntKind.i64.wrap ((u0 : Int) + nan) = x9 := by rw [hwa, hx9]
              rw [← hx9] at HLO
              clear hx9 hwa
              unfold ptr at HLO
              have z1 : w6.drew.cell? ⟨gt, 1, none⟩ = some (.int .i64 an) := y1
              have z2' : w6.drew.cell? ⟨gt, 2, none⟩ = some (.int .i64 am) := y2
              have HS7 := Lib.hid (HS6.out.below (Below.refl _ _).drew)
              go_wp2_with fail
              refine wp_region_noPanic ?_
              refine until_start (fun W => W.cell? ⟨gt, 1, none⟩ = some (.int .i64 an) ∧ W.cell? ⟨gt, 2, none⟩ = some (.int .i64 am)) 10 (by kernel_rfl) ⟨z1, z2'⟩ (fun _ => ?_)
              refine until_take (i := 0) (v := .pointer (some ⟨sb, 0, none⟩)) (some 77) [10] rfl rfl (by kernel_rfl) (by kernel_rfl) (by kernel_rfl) (by kernel_rfl) rfl rfl (fun _ _ _ h => h) (Or.inl ⟨by rfl, fun W hW => by go_simp⟩) ⟨z1, z2'⟩ ?_
              simp only [Act.put, List.setIfInBounds_toArray, List.set_cons_zero, List.set_cons_succ]
              refine until_take (i := 1) (v := .pointer (some ⟨sb, 0, none⟩)) (some 78) [2, 6, 10] rfl rfl (by kernel_rfl) (by kernel_rfl) (by kernel_rfl) (by kernel_rfl) rfl rfl (fun _ _ _ h => h) (Or.inl ⟨by rfl, fun W hW => by go_simp⟩) ⟨z1, z2'⟩ ?_
              simp only [Act.put, List.setIfInBounds_toArray, List.set_cons_zero, List.set_cons_succ]
              refine until_take (i := 3) (v := .pointer (some ⟨gt, 1, none⟩)) (some 80) [4, 5, 6, 10] rfl rfl (by kernel_rfl) (by kernel_rfl) (by kernel_rfl) (by kernel_rfl) rfl rfl (fun _ _ _ h => h) (Or.inl ⟨by rfl, fun W hW => by go_simp⟩) ⟨z1, z2'⟩ ?_
              simp only [Act.put, List.setIfInBounds_toArray, List.set_cons_zero, List.set_cons_succ]
              refine until_take (i := 7) (v := .pointer (some ⟨gt, 2, none⟩)) (some 84) [8, 9, 10] rfl rfl (by kernel_rfl) (by kernel_rfl) (by kernel_rfl) (by kernel_rfl) rfl rfl (fun _ _ _ h => h) (Or.inl ⟨by rfl, fun W hW => by go_simp⟩) ⟨z1, z2'⟩ ?_
              simp only [Act.put, List.setIfInBounds_toArray, List.set_cons_zero, List.set_cons_succ]
              refine until_take (i := 4) (v := .int .i64 an) (some 81) [5, 6, 10] rfl rfl (by kernel_rfl) (by kernel_rfl) (by kernel_rfl) (by kernel_rfl) rfl rfl (fun _ _ _ h => h) (Or.inl ⟨by rfl, fun W hW => by have hc := hW.1; go_simp⟩) ⟨z1, z2'⟩ ?_
              simp only [Act.put, List.setIfInBounds_toArray, List.set_cons_zero, List.set_cons_succ]
              refine until_take (i := 8) (v := .int .i64 am) (some 85) [9, 10] rfl rfl (by kernel_rfl) (by kernel_rfl) (by kernel_rfl) (by kernel_rfl) rfl rfl (fun _ _ _ h => h) (Or.inl ⟨by rfl, fun W hW => by have hc := hW.2; go_simp⟩) ⟨z1, z2'⟩ ?_
              simp only [Act.put, List.setIfInBounds_toArray, List.set_cons_zero, List.set_cons_succ]
              refine until_step (i := 2) (by kernel_rfl) rfl rfl (fun K hK => ?_)
              go_simp
              refine (HUN.out _ HS7.out).mono ?_
              rintro e w7 ⟨rfl, rfl⟩
              dsimp only
              refine hK.out _ _ ⟨z1, z2'⟩ (fun _ => ?_)
              clear hK
              try simp only [Act.put, List.setIfInBounds_toArray, List.set_cons_zero, List.set_cons_succ]
              refine until_step (i := 5) (by kernel_rfl) rfl rfl (fun K hK => ?_)
              go_simp
              refine (HNA.out _).mono ?_
              rintro e w7 ⟨rfl, rfl⟩
              dsimp only
              refine hK.out _ _ ⟨z1, z2'⟩ (fun _ => ?_)
              clear hK
              try simp only [Act.put, List.setIfInBounds_toArray, List.set_cons_zero, List.set_cons_succ]
              refine until_take (i := 6) (v := .int .i64 x9) (some 83) [10] rfl rfl (by kernel_rfl) (by kernel_rfl) (by kernel_rfl) (by kernel_rfl) rfl rfl (fun _ _ _ h => h) (Or.inl ⟨by rfl, fun W hW => by have hc := hwa2; go_simp⟩) ⟨z1, z2'⟩ ?_
              simp only [Act.put, List.setIfInBounds_toArray, List.set_cons_zero, List.set_cons_succ]
              refine until_step (i := 9) (by kernel_rfl) rfl rfl (fun K hK => ?_)
              go_simp
              refine (HNM.out _).mono ?_
              rintro e w7 ⟨rfl, rfl⟩
              dsimp only
              refine hK.out _ _ ⟨z1, z2'⟩ (fun _ => ?_)
              clear hK
              try simp only [Act.put, List.setIfInBounds_toArray, List.set_cons_zero, List.set_cons_succ]
              refine until_last (by kernel_rfl) rfl (fun K hK => ?_)
              go_simp
              refine (HLO.out _ HS7.out).mono ?_
              rintro e w8 ⟨z8, rfl, S8, -⟩
              have HS8 := Lib.hid S8
              clear S8 HLO
              dsimp only
              refine hK.out _ _ ?_
              clear hK
              try simp only [Act.put, List.setIfInBounds_toArray, List.set_cons_zero, List.set_cons_succ]
              refine wpAnyH_done (by kernel_rfl) ?_ _
              refine NoPanic.normal ?_
              have hnm := HS8.out.s.nums
              have q1 : ¬ ((d7.next : Int) < (d7.una : Int)) := by omega
              have q2 : ¬ ((d7.edge : Int) < (d7.next : Int)) := by omega
              have q3 : ¬ ((64 : Int) < (d7.held : Int)) := by omega
              have HT1 := Lib.hid HS8.out.tells.una
              have HT2 := Lib.hid HS8.out.tells.next
              have HT3 := Lib.hid HS8.out.tells.edge
              have HT4 := Lib.hid HS8.out.tells.held
              clear hnm
              generalize d7.next = n9 at *
              generalize d7.una = u9 at *
              generalize d7.edge = e9 at *
              generalize d7.held = h9 at *
              go_wp2_with fail
              refine (HT1.out).mono ?_
              rintro e w9 ⟨rfl, rfl⟩
              go_wp2_with fail
              refine (HT2.out).mono ?_
              rintro e w9 ⟨rfl, rfl⟩
              go_wp2_with fail
              refine (HT2.out).mono ?_
              rintro e w9 ⟨rfl, rfl⟩
              go_wp2_with fail
              refine (HT3.out).mono ?_
              rintro e w9 ⟨rfl, rfl⟩
              go_wp2_with fail
              refine (HT4.out).mono ?_
              rintro e w9 ⟨rfl, rfl⟩
              go_wp2_with fail
              go_roundw
              case rel => exact ⟨j + 1, _, d7, by go_num, by omega, HF7.out, HS8.out⟩
              case measure => simp [intOf]; omega
            · have f2 : ((kd : Int) == 2) = false := by simp; omega
              by_cases k3 : kd = 3
              · subst k3
                have HLO := Lib.hid (fun (W6 : World) (s : Sv W W6 sb z5 d) => s.ack (by have := HF.out; omega) (a := (d.una : Int) + nearN an) (win := nearN am) (by unfold isI; have := near_in an; have := s.s.nums; omega) (by unfold isI; have := near_in am; omega))
                have hwa : IntKind.i64.wrap ((d.una : Int) + nearN an) = (d.una : Int) + nearN an := by have := near_in an; have := HS6.out.s.nums; rw [IntKind.wrap_i64]; omega
                have HF7 : Hid ((d.acks ((d.una : Int) + nearN an) (nearN am)).fin ≤ 1 + 100 * (j + 1)) := Lib.hid (by rw [Dq.acks_fin]; have := HF.out; omega)
                generalize d.acks ((d.una : Int) + nearN an) (nearN am) = d7 at *
                generalize d.gone ((d.una : Int) + nearN an) (nearN am) = gn at *
                generalize d.may ((d.una : Int) + nearN an) (nearN am) = my at *
                have HNA := Lib.hid (fun W6 => near_any an W6)
                have HNM := Lib.hid (fun W6 => near_any am W6)
                have HUN := Lib.hid (fun (W6 : World) (s : Sv W W6 sb z5 d) => s.tells.una)
                generalize nearN an = nan at *
                generalize nearN am = nam at *
                generalize d.una = u0 at *
                obtain ⟨x9, hx9⟩ : ∃ x9 : Int, x9 = (u0 : Int) + nan := ⟨_, rfl⟩
                have hwa2 : IntKind.i64.wrap ((u0 : Int) + nan) = x9 := by rw [hwa, hx9]
                rw [← hx9] at HLO
                clear hx9 hwa
                unfold ptr at HLO
                have z1 : w6.drew.cell? ⟨gt, 1, none⟩ = some (.int .i64 an) := y1
                have z2' : w6.drew.cell? ⟨gt, 2, none⟩ = some (.int .i64 am) := y2
                have HS7 := Lib.hid (HS6.out.below (Below.refl _ _).drew)
                go_wp2_with fail
                refine wp_region_noPanic ?_
                refine until_start (fun W => W.cell? ⟨gt, 1, none⟩ = some (.int .i64 an) ∧ W.cell? ⟨gt, 2, none⟩ = some (.int .i64 am)) 10 (by kernel_rfl) ⟨z1, z2'⟩ (fun _ => ?_)
                refine until_take (i := 0) (v := .pointer (some ⟨sb, 0, none⟩)) (some 90) [10] rfl rfl (by kernel_rfl) (by kernel_rfl) (by kernel_rfl) (by kernel_rfl) rfl rfl (fun _ _ _ h => h) (Or.inl ⟨by rfl, fun W hW => by go_simp⟩) ⟨z1, z2'⟩ ?_
                simp only [Act.put, List.setIfInBounds_toArray, List.set_cons_zero, List.set_cons_succ]
                refine until_take (i := 1) (v := .pointer (some ⟨sb, 0, none⟩)) (some 91) [2, 6, 10] rfl rfl (by kernel_rfl) (by kernel_rfl) (by kernel_rfl) (by kernel_rfl) rfl rfl (fun _ _ _ h => h) (Or.inl ⟨by rfl, fun W hW => by go_simp⟩) ⟨z1, z2'⟩ ?_
                simp only [Act.put, List.setIfInBounds_toArray, List.set_cons_zero, List.set_cons_succ]
                refine until_take (i := 3) (v := .pointer (some ⟨gt, 1, none⟩)) (some 93) [4, 5, 6, 10] rfl rfl (by kernel_rfl) (by kernel_rfl) (by kernel_rfl) (by kernel_rfl) rfl rfl (fun _ _ _ h => h) (Or.inl ⟨by rfl, fun W hW => by go_simp⟩) ⟨z1, z2'⟩ ?_
                simp only [Act.put, List.setIfInBounds_toArray, List.set_cons_zero, List.set_cons_succ]
                refine until_take (i := 7) (v := .pointer (some ⟨gt, 2, none⟩)) (some 97) [8, 9, 10] rfl rfl (by kernel_rfl) (by kernel_rfl) (by kernel_rfl) (by kernel_rfl) rfl rfl (fun _ _ _ h => h) (Or.inl ⟨by rfl, fun W hW => by go_simp⟩) ⟨z1, z2'⟩ ?_
                simp only [Act.put, List.setIfInBounds_toArray, List.set_cons_zero, List.set_cons_succ]
                refine until_take (i := 4) (v := .int .i64 an) (some 94) [5, 6, 10] rfl rfl (by kernel_rfl) (by kernel_rfl) (by kernel_rfl) (by kernel_rfl) rfl rfl (fun _ _ _ h => h) (Or.inl ⟨by rfl, fun W hW => by have hc := hW.1; go_simp⟩) ⟨z1, z2'⟩ ?_
                simp only [Act.put, List.setIfInBounds_toArray, List.set_cons_zero, List.set_cons_succ]
                refine until_take (i := 8) (v := .int .i64 am) (some 98) [9, 10] rfl rfl (by kernel_rfl) (by kernel_rfl) (by kernel_rfl) (by kernel_rfl) rfl rfl (fun _ _ _ h => h) (Or.inl ⟨by rfl, fun W hW => by have hc := hW.2; go_simp⟩) ⟨z1, z2'⟩ ?_
                simp only [Act.put, List.setIfInBounds_toArray, List.set_cons_zero, List.set_cons_succ]
                refine until_step (i := 2) (by kernel_rfl) rfl rfl (fun K hK => ?_)
                go_simp
                refine (HUN.out _ HS7.out).mono ?_
                rintro e w7 ⟨rfl, rfl⟩
                dsimp only
                refine hK.out _ _ ⟨z1, z2'⟩ (fun _ => ?_)
                clear hK
                try simp only [Act.put, List.setIfInBounds_toArray, List.set_cons_zero, List.set_cons_succ]
                refine until_step (i := 5) (by kernel_rfl) rfl rfl (fun K hK => ?_)
                go_simp
                refine (HNA.out _).mono ?_
                rintro e w7 ⟨rfl, rfl⟩
                dsimp only
                refine hK.out _ _ ⟨z1, z2'⟩ (fun _ => ?_)
                clear hK
                try simp only [Act.put, List.setIfInBounds_toArray, List.set_cons_zero, List.set_cons_succ]
                refine until_take (i := 6) (v := .int .i64 x9) (some 96) [10] rfl rfl (by kernel_rfl) (by kernel_rfl) (by kernel_rfl) (by kernel_rfl) rfl rfl (fun _ _ _ h => h) (Or.inl ⟨by rfl, fun W hW => by have hc := hwa2; go_simp⟩) ⟨z1, z2'⟩ ?_
                simp only [Act.put, List.setIfInBounds_toArray, List.set_cons_zero, List.set_cons_succ]
                refine until_step (i := 9) (by kernel_rfl) rfl rfl (fun K hK => ?_)
                go_simp
                refine (HNM.out _).mono ?_
                rintro e w7 ⟨rfl, rfl⟩
                dsimp only
                refine hK.out _ _ ⟨z1, z2'⟩ (fun _ => ?_)
                clear hK
                try simp only [Act.put, List.setIfInBounds_toArray, List.set_cons_zero, List.set_cons_succ]
                refine until_last (by kernel_rfl) rfl (fun K hK => ?_)
                go_simp
                refine (HLO.out _ HS7.out).mono ?_
                rintro e w8 ⟨z8, rfl, S8, -⟩
                have HS8 := Lib.hid S8
                clear S8 HLO
                dsimp only
                refine hK.out _ _ ?_
                clear hK
                try simp only [Act.put, List.setIfInBounds_toArray, List.set_cons_zero, List.set_cons_succ]
                refine wpAnyH_done (by kernel_rfl) ?_ _
                refine NoPanic.normal ?_
                have hnm := HS8.out.s.nums
                have q1 : ¬ ((d7.next : Int) < (d7.una : Int)) := by omega
                have q2 : ¬ ((d7.edge : Int) < (d7.next : Int)) := by omega
                have q3 : ¬ ((64 : Int) < (d7.held : Int)) := by omega
                have HT1 := Lib.hid HS8.out.tells.una
                have HT2 := Lib.hid HS8.out.tells.next
                have HT3 := Lib.hid HS8.out.tells.edge
                have HT4 := Lib.hid HS8.out.tells.held
                clear hnm
                generalize d7.next = n9 at *
                generalize d7.una = u9 at *
                generalize d7.edge = e9 at *
                generalize d7.held = h9 at *
                go_wp2_with fail
                refine (HT1.out).mono ?_
                rintro e w9 ⟨rfl, rfl⟩
                go_wp2_with fail
                refine (HT2.out).mono ?_
                rintro e w9 ⟨rfl, rfl⟩
                go_wp2_with fail
                refine (HT2.out).mono ?_
                rintro e w9 ⟨rfl, rfl⟩
                go_wp2_with fail
                refine (HT3.out).mono ?_
                rintro e w9 ⟨rfl, rfl⟩
                go_wp2_with fail
                refine (HT4.out).mono ?_
                rintro e w9 ⟨rfl, rfl⟩
                go_wp2_with fail
                go_roundw
                case rel => exact ⟨j + 1, _, d7, by go_num, by omega, HF7.out, HS8.out⟩
                case measure => simp [intOf]; omega
              · have f3 : ((kd : Int) == 3) = false := by simp; omega
                have HF7 : Hid (d.fin ≤ 1 + 100 * (j + 1)) := Lib.hid (by have := HF.out; omega)
                have HS7 := Lib.hid HS6.out
                generalize hd7 : d = d7 at *
                clear y1 y2 y3 hd7
                have hnm := HS7.out.s.nums
                have q1 : ¬ ((d7.next : Int) < (d7.una : Int)) := by omega
                have q2 : ¬ ((d7.edge : Int) < (d7.next : Int)) := by omega
                have q3 : ¬ ((64 : Int) < (d7.held : Int)) := by omega
                have HT1 := Lib.hid HS7.out.tells.una
                have HT2 := Lib.hid HS7.out.tells.next
                have HT3 := Lib.hid HS7.out.tells.edge
                have HT4 := Lib.hid HS7.out.tells.held
                clear hnm
                generalize d7.next = n9 at *
                generalize d7.una = u9 at *
                generalize d7.edge = e9 at *
                generalize d7.held = h9 at *
                go_wp2_with fail
                refine (HT1.out).mono ?_
                rintro e w9 ⟨rfl, rfl⟩
                go_wp2_with fail
                refine (HT2.out).mono ?_
                rintro e w9 ⟨rfl, rfl⟩
                go_wp2_with fail
                refine (HT2.out).mono ?_
                rintro e w9 ⟨rfl, rfl⟩
                go_wp2_with fail
                refine (HT3.out).mono ?_
                rintro e w9 ⟨rfl, rfl⟩
                go_wp2_with fail
                refine (HT4.out).mono ?_
                rintro e w9 ⟨rfl, rfl⟩
                go_wp2_with fail
                go_roundw
                case rel => exact ⟨j + 1, _, d7, by go_num, by omega, HF7.out, HS7.out⟩
                case measure => simp [intOf]; omega
      · obtain rfl : j = n := by omega
        have HB := Lib.hid S5.bel
        clear S5
        go_wp2_with fail
        go_ret
        exact ⟨rfl, HB.out⟩
end Go.Proofs.Ytgcblajhdebigaa

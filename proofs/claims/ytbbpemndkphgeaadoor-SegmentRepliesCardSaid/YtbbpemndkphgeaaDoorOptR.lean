/- The contracts of acked, mapped, bounded and Right: what an option may have. Condition: each of its numbers is one of its kind. -/
import Derived.Test.YtbbpemndkphgeaaDoorOptQ
namespace Go.Proofs.YtbbpemndkphgeaaDoor
set_option linter.unusedVariables false
set_option linter.unusedSimpArgs false
open Go.RowKit

def ackedB (o : Opt) : Bool := o.hasAck || o.ack == 0
def mappedB (o : Opt) : Bool := if o.hasMap then decide (o.len ≤ 8) else o.dsn == 0 && o.len == 0 && !o.fin
def boundB (o : Opt) : Bool := if 4 ≤ o.addr then false else o.kind != 5 || ackedB o && mappedB o
/-- Is an option right? -/
def rightB (o : Opt) : Bool := decide (0 < (tab o.kind).length) && fitB o (tab o.kind) && boundB o && eqO (bareO o (tab o.kind)) (zK o.kind)

set_option maxRecDepth 8000 in
set_option maxHeartbeats 1600000 in
theorem acked_any (o : Opt) (w : World) : Calls Tryd.prog 67 #[.agg o.vals.toArray] w fun e w' => e = .returned (.bool (ackedB o)) ∧ Below w.heap.size w w' := by
  go_enter Tryd.func67, Tryd.ntmps67
  go_wp2_with (first
    | ((with_reducible refine wpList_here ?_); refine wpList_boxV rfl 52 (.tmp 0) rfl o.vals rfl _ rfl ?_; intro w1 z1 b1 s1; have k8 : w1.cell? ⟨w.heap.size, 8, none⟩ = some (.bool o.hasAck) := (z1 8 (by rw [o.vals_length]; omega)).1; have k9 : w1.cell? ⟨w.heap.size, 9, none⟩ = some (.int .i64 o.ack) := (z1 9 (by rw [o.vals_length]; omega)).1; cases hx : o.hasAck <;> rw [hx] at k8))
  all_goals go_ret
  all_goals
    refine ⟨?_, b1⟩
    unfold ackedB
    rw [hx]
    rfl

set_option maxRecDepth 8000 in
set_option maxHeartbeats 1600000 in
theorem mapped_any (o : Opt) (w : World) : Calls Tryd.prog 68 #[.agg o.vals.toArray] w fun e w' => e = .returned (.bool (mappedB o)) ∧ Below w.heap.size w w' := by
  cases hx : o.hasMap with
  | true =>
    have HM : Hid (mappedB o = decide (o.len ≤ 8)) := Lib.hid (by unfold mappedB; rw [hx]; rfl)
    go_enter Tryd.func68, Tryd.ntmps68
    go_wp2_with (first
      | ((with_reducible refine wpList_here ?_); refine wpList_boxV rfl 52 (.tmp 0) rfl o.vals rfl _ rfl ?_; intro w1 z1 b1 s1; have k10 : w1.cell? ⟨w.heap.size, 10, none⟩ = some (.bool o.hasMap) := (z1 10 (by rw [o.vals_length]; omega)).1; rw [hx] at k10; have k12 : w1.cell? ⟨w.heap.size, 12, none⟩ = some (.int .i64 o.len) := (z1 12 (by rw [o.vals_length]; omega)).1))
    go_ret
    rw [HM.out]
    exact ⟨rfl, b1⟩
  | false =>
    have HM : Hid (mappedB o = (o.dsn == 0 && o.len == 0 && !o.fin)) := Lib.hid (by unfold mappedB; rw [hx]; rfl)
    cases h1 : (o.dsn == 0) <;> cases h2 : (o.len == 0)
    all_goals
      go_enter Tryd.func68, Tryd.ntmps68
      go_wp2_with (first
        | ((with_reducible refine wpList_here ?_); refine wpList_boxV rfl 52 (.tmp 0) rfl o.vals rfl _ rfl ?_; intro w1 z1 b1 s1; have k10 : w1.cell? ⟨w.heap.size, 10, none⟩ = some (.bool o.hasMap) := (z1 10 (by rw [o.vals_length]; omega)).1; rw [hx] at k10; have k11 : w1.cell? ⟨w.heap.size, 11, none⟩ = some (.int .i64 o.dsn) := (z1 11 (by rw [o.vals_length]; omega)).1; have k12 : w1.cell? ⟨w.heap.size, 12, none⟩ = some (.int .i64 o.len) := (z1 12 (by rw [o.vals_length]; omega)).1; have k13 : w1.cell? ⟨w.heap.size, 13, none⟩ = some (.bool o.fin) := (z1 13 (by rw [o.vals_length]; omega)).1))
      go_ret
      rw [HM.out, h1, h2]
      exact ⟨rfl, b1⟩

set_option maxRecDepth 8000 in
set_option maxHeartbeats 1600000 in
theorem bounded_any (o : Opt) (w : World) : Calls Tryd.prog 55 #[.agg o.vals.toArray] w fun e w' => e = .returned (.bool (boundB o)) ∧ Below w.heap.size w w' := by
  have HA := Lib.hid (acked_any o)
  have HB := Lib.hid (mapped_any o)
  by_cases h4 : 4 ≤ o.addr
  · have HM : Hid (boundB o = false) := Lib.hid (by unfold boundB; rw [if_pos h4])
    go_enter Tryd.func55, Tryd.ntmps55
    go_wp2_with (first
      | ((with_reducible refine wpList_here ?_); refine wpList_boxV rfl 52 (.tmp 0) rfl o.vals rfl _ rfl ?_; intro w1 z1 b1 s1; have k5 : w1.cell? ⟨w.heap.size, 5, none⟩ = some (.int .i64 o.addr) := (z1 5 (by rw [o.vals_length]; omega)).1))
    go_ret
    rw [HM.out]
    exact ⟨rfl, b1⟩
  · have HM : Hid (boundB o = (o.kind != 5 || ackedB o && mappedB o)) := Lib.hid (by unfold boundB; rw [if_neg h4])
    cases h5 : (o.kind != 5) with
    | true =>
      go_enter Tryd.func55, Tryd.ntmps55
      go_wp2_with (first
        | ((with_reducible refine wpList_here ?_); refine wpList_boxV rfl 52 (.tmp 0) rfl o.vals rfl _ rfl ?_; intro w1 z1 b1 s1; have k5 : w1.cell? ⟨w.heap.size, 5, none⟩ = some (.int .i64 o.addr) := (z1 5 (by rw [o.vals_length]; omega)).1; have k0 : w1.cell? ⟨w.heap.size, 0, none⟩ = some (.int .i64 o.kind) := (z1 0 (by rw [o.vals_length]; omega)).1))
      go_ret
      rw [HM.out, h5]
      exact ⟨rfl, b1⟩
    | false =>
      have h5' : (o.kind == 5) = true := by simpa using h5
      generalize mappedB o = m at *
      cases ha : ackedB o with
      | true =>
        rw [ha] at HA
        go_enter Tryd.func55, Tryd.ntmps55
        go_wp2_with (first
          | ((with_reducible refine wpList_here ?_); refine wpList_boxV rfl 52 (.tmp 0) rfl o.vals rfl _ rfl ?_; intro w1 z1 b1 s1; have k5 : w1.cell? ⟨w.heap.size, 5, none⟩ = some (.int .i64 o.addr) := (z1 5 (by rw [o.vals_length]; omega)).1; have k0 : w1.cell? ⟨w.heap.size, 0, none⟩ = some (.int .i64 o.kind) := (z1 0 (by rw [o.vals_length]; omega)).1)
          | ((with_reducible refine wpList_here ?_); refine wpList_loadV rfl 52 (.tmp 1) rfl _ _ o.vals rfl z1.range _ Tryd.underlying52 rfl infoOpt ?_))
        refine (HA.out _).mono ?_
        rintro e w2 ⟨rfl, b2⟩
        have z2 := z1.below b2
        have b3 := below_trans b1 b2
        clear z1 b1 b2
        go_wp2_with (first
          | ((with_reducible refine wpList_here ?_); refine wpList_loadV rfl 52 (.tmp 1) rfl _ _ o.vals rfl z2.range _ Tryd.underlying52 rfl infoOpt ?_))
        refine (HB.out _).mono ?_
        rintro e w4 ⟨rfl, b4⟩
        have b5 := below_trans b3 b4
        go_wp2_with fail
        go_ret
        rw [HM.out, h5, ha]
        exact ⟨rfl, b5⟩
      | false =>
        rw [ha] at HA
        go_enter Tryd.func55, Tryd.ntmps55
        go_wp2_with (first
          | ((with_reducible refine wpList_here ?_); refine wpList_boxV rfl 52 (.tmp 0) rfl o.vals rfl _ rfl ?_; intro w1 z1 b1 s1; have k5 : w1.cell? ⟨w.heap.size, 5, none⟩ = some (.int .i64 o.addr) := (z1 5 (by rw [o.vals_length]; omega)).1; have k0 : w1.cell? ⟨w.heap.size, 0, none⟩ = some (.int .i64 o.kind) := (z1 0 (by rw [o.vals_length]; omega)).1)
          | ((with_reducible refine wpList_here ?_); refine wpList_loadV rfl 52 (.tmp 1) rfl _ _ o.vals rfl z1.range _ Tryd.underlying52 rfl infoOpt ?_))
        refine (HA.out _).mono ?_
        rintro e w2 ⟨rfl, b2⟩
        have b3 := below_trans b1 b2
        go_wp2_with fail
        go_ret
        rw [HM.out, h5, ha]
        exact ⟨rfl, b3⟩

theorem rightB_none {o : Opt} (h : tab o.kind = []) : rightB o = false := by unfold rightB; rw [h]; rfl

set_option maxRecDepth 8000 in
set_option maxHeartbeats 1600000 in
theorem Right_any (o : Opt) (w : World) (hok : o.ok) : Calls Tryd.prog 37 #[.agg o.vals.toArray] w fun e w' => e = .returned (.bool (rightB o)) ∧ Below w.heap.size w w' := by
  have hl := fine_tab o.kind
  have HB := Lib.hid (bounded_any o)
  have HC := Lib.hid (bare_any o)
  have HE := Lib.hid (show rightB o = (decide (0 < (tab o.kind).length) && fitB o (tab o.kind) && boundB o && eqO (bareO o (tab o.kind)) (zK o.kind)) from rfl)
  have HF : Hid (∀ A c W, FL W A (tab o.kind).length c w.heap.size (tab o.kind) → Own W w.heap.size o.vals → Calls Tryd.prog 54 #[.slice A (tab o.kind).length c] W fun e w' => e = .returned (.bool (fitB o (tab o.kind))) ∧ Below W.heap.size W w') := Lib.hid (fun A c W h1 h2 => fit_any A _ c _ _ o W h1 hl h2 hok)
  generalize eqO (bareO o (tab o.kind)) (zK o.kind) = q at *
  generalize boundB o = r at *
  generalize fitB o (tab o.kind) = p at *
  go_enter Tryd.func37, Tryd.ntmps37
  go_wp2_with (first
    | ((with_reducible refine wpList_here ?_); refine wpList_boxV rfl 52 (.tmp 0) rfl o.vals rfl _ rfl ?_; intro w1 z1 b1 s1))
  refine (fields_any w.heap.size o w1 z1).mono ?_
  rintro e w2 ⟨A, c, rfl, f2, b2⟩
  have z2 := z1.below b2
  have b3 := below_trans b1 b2
  clear z1 b1 b2 s1
  have hmx := f2.max
  have hcp := f2.cap
  generalize (tab o.kind).length = n at *
  by_cases hn : 0 < n
  · have hn1 : decide (0 < n) = true := decide_eq_true hn
    rw [hn1, Bool.true_and] at HE
    cases p with
    | false =>
      go_wp2_with fail
      refine (HF.out _ _ _ f2 z2).mono ?_
      rintro e w4 ⟨rfl, b4⟩
      have b5 := below_trans b3 b4
      go_wp2_with fail
      go_ret
      rw [HE.out]
      exact ⟨rfl, b5⟩
    | true =>
      go_wp2_with fail
      refine (HF.out _ _ _ f2 z2).mono ?_
      rintro e w4 ⟨rfl, b4⟩
      have z4 := z2.below b4
      have b5 := below_trans b3 b4
      clear z2 b4 b3 f2 HF
      go_wp2_with (first
        | ((with_reducible refine wpList_here ?_); refine wpList_loadV rfl 52 (.tmp 1) rfl _ _ o.vals rfl z4.range _ Tryd.underlying52 rfl infoOpt ?_))
      refine (HB.out _).mono ?_
      rintro e w6 ⟨rfl, b6⟩
      have z6 := z4.below b6
      have b7 := below_trans b5 b6
      clear z4 b6 b5
      cases r with
      | false =>
        go_wp2_with fail
        go_ret
        rw [HE.out]
        exact ⟨rfl, b7⟩
      | true =>
        go_wp2_with (first
          | ((with_reducible refine wpList_here ?_); refine wpList_loadV rfl 52 (.tmp 1) rfl _ _ o.vals rfl z6.range _ Tryd.underlying52 rfl infoOpt ?_))
        refine (HC.out _).mono ?_
        rintro e w8 ⟨rfl, b8⟩
        have b9 := below_trans b7 b8
        go_wp2_with fail
        go_ret
        rw [HE.out]
        exact ⟨rfl, b9⟩
  · have hn1 : decide (0 < n) = false := decide_eq_false hn
    rw [hn1] at HE
    go_wp2_with fail
    go_ret
    rw [HE.out]
    exact ⟨rfl, b3⟩
end Go.Proofs.YtbbpemndkphgeaaDoor

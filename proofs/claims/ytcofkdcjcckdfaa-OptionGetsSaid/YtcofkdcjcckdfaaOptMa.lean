/- The contracts of the document's own words for what may be, of its Right, and of its way to read any option. Condition: each of an option's numbers is one of its kind. -/
import Derived.Test.YtcofkdcjcckdfaaOptJ
import Derived.Test.YtcofkdcjcckdfaaOptD
import Derived.Test.YtcofkdcjcckdfaaOptY
import Derived.Test.YtcofkdcjcckdfaaSameR
import Derived.Deep.Cut
namespace Go.Proofs.Ytcofkdcjcckdfaa
set_option linter.unusedVariables false
set_option linter.unusedSimpArgs false
open Go.RowKit

set_option maxRecDepth 8000 in
set_option maxHeartbeats 1600000 in
theorem may_1 (o : Opt) (w : World) (ha : 3 < o.addr) : Calls Try.prog 24 #[.agg o.vals.toArray] w fun e w' => e = .returned (.bool (mayB o)) ∧ Below w.heap.size w w' := by
    have HM : Hid (mayB o = false) := Lib.hid (by unfold mayB; rw [if_pos (.inl ha)])
    have hd : decide (3 < o.addr) = true := decide_eq_true ha
    go_enter Try.func24, Try.ntmps24
    go_upto_region 1 with (first
      | ((with_reducible refine wpList_here ?_); refine wpList_boxV (o := ⟨some 1, _, _, _, _, _⟩) rfl 31 (.tmp 0) rfl o.vals rfl _ rfl ?_; intro w1 z1 b1 s1; have k5 : w1.cell? ⟨w.heap.size, 5, none⟩ = some (.int .i64 o.addr) := (z1 5 (by rw [o.vals_length]; omega)).1; have k12 : w1.cell? ⟨w.heap.size, 12, none⟩ = some (.int .i64 o.len) := (z1 12 (by rw [o.vals_length]; omega)).1; have k8 : w1.cell? ⟨w.heap.size, 8, none⟩ = some (.bool o.hasAck) := (z1 8 (by rw [o.vals_length]; omega)).1; have k9 : w1.cell? ⟨w.heap.size, 9, none⟩ = some (.int .i64 o.ack) := (z1 9 (by rw [o.vals_length]; omega)).1; have k10 : w1.cell? ⟨w.heap.size, 10, none⟩ = some (.bool o.hasMap) := (z1 10 (by rw [o.vals_length]; omega)).1; have k11 : w1.cell? ⟨w.heap.size, 11, none⟩ = some (.int .i64 o.dsn) := (z1 11 (by rw [o.vals_length]; omega)).1; have k13 : w1.cell? ⟨w.heap.size, 13, none⟩ = some (.bool o.fin) := (z1 13 (by rw [o.vals_length]; omega)).1; clear z1 s1))
    go_wp2
    go_ret
    rw [HM.out]
    exact ⟨rfl, b1⟩

set_option maxRecDepth 8000 in
set_option maxHeartbeats 1600000 in
theorem may_2 (o : Opt) (w : World) (ha : ¬ 3 < o.addr) (hl : 8 < o.len) : Calls Try.prog 24 #[.agg o.vals.toArray] w fun e w' => e = .returned (.bool (mayB o)) ∧ Below w.heap.size w w' := by
    have HM : Hid (mayB o = false) := Lib.hid (by unfold mayB; rw [if_pos (.inr hl)])
    have hd : decide (3 < o.addr) = false := decide_eq_false ha
    have hd2 : decide (8 < o.len) = true := decide_eq_true hl
    go_enter Try.func24, Try.ntmps24
    go_upto_region 1 with (first
      | ((with_reducible refine wpList_here ?_); refine wpList_boxV (o := ⟨some 1, _, _, _, _, _⟩) rfl 31 (.tmp 0) rfl o.vals rfl _ rfl ?_; intro w1 z1 b1 s1; have k5 : w1.cell? ⟨w.heap.size, 5, none⟩ = some (.int .i64 o.addr) := (z1 5 (by rw [o.vals_length]; omega)).1; have k12 : w1.cell? ⟨w.heap.size, 12, none⟩ = some (.int .i64 o.len) := (z1 12 (by rw [o.vals_length]; omega)).1; have k8 : w1.cell? ⟨w.heap.size, 8, none⟩ = some (.bool o.hasAck) := (z1 8 (by rw [o.vals_length]; omega)).1; have k9 : w1.cell? ⟨w.heap.size, 9, none⟩ = some (.int .i64 o.ack) := (z1 9 (by rw [o.vals_length]; omega)).1; have k10 : w1.cell? ⟨w.heap.size, 10, none⟩ = some (.bool o.hasMap) := (z1 10 (by rw [o.vals_length]; omega)).1; have k11 : w1.cell? ⟨w.heap.size, 11, none⟩ = some (.int .i64 o.dsn) := (z1 11 (by rw [o.vals_length]; omega)).1; have k13 : w1.cell? ⟨w.heap.size, 13, none⟩ = some (.bool o.fin) := (z1 13 (by rw [o.vals_length]; omega)).1; clear z1 s1))
    go_wp2
    go_ret
    rw [HM.out]
    exact ⟨rfl, b1⟩

set_option maxRecDepth 8000 in
set_option maxHeartbeats 1600000 in
theorem may_3 (o : Opt) (w : World) (ha : ¬ 3 < o.addr) (hl : ¬ 8 < o.len) (hA : o.hasAck = false) (hB : (o.ack == 0) = false) : Calls Try.prog 24 #[.agg o.vals.toArray] w fun e w' => e = .returned (.bool (mayB o)) ∧ Below w.heap.size w w' := by
    have HM : Hid (mayB o = false) := Lib.hid (by unfold mayB; rw [if_neg (by omega), hA, hB]; rfl)
    have hd : decide (3 < o.addr) = false := decide_eq_false ha
    have hd2 : decide (8 < o.len) = false := decide_eq_false hl
    go_enter Try.func24, Try.ntmps24
    go_upto_region 1 with (first
      | ((with_reducible refine wpList_here ?_); refine wpList_boxV (o := ⟨some 1, _, _, _, _, _⟩) rfl 31 (.tmp 0) rfl o.vals rfl _ rfl ?_; intro w1 z1 b1 s1; have k5 : w1.cell? ⟨w.heap.size, 5, none⟩ = some (.int .i64 o.addr) := (z1 5 (by rw [o.vals_length]; omega)).1; have k12 : w1.cell? ⟨w.heap.size, 12, none⟩ = some (.int .i64 o.len) := (z1 12 (by rw [o.vals_length]; omega)).1; have k8 : w1.cell? ⟨w.heap.size, 8, none⟩ = some (.bool o.hasAck) := (z1 8 (by rw [o.vals_length]; omega)).1; have k9 : w1.cell? ⟨w.heap.size, 9, none⟩ = some (.int .i64 o.ack) := (z1 9 (by rw [o.vals_length]; omega)).1; have k10 : w1.cell? ⟨w.heap.size, 10, none⟩ = some (.bool o.hasMap) := (z1 10 (by rw [o.vals_length]; omega)).1; have k11 : w1.cell? ⟨w.heap.size, 11, none⟩ = some (.int .i64 o.dsn) := (z1 11 (by rw [o.vals_length]; omega)).1; have k13 : w1.cell? ⟨w.heap.size, 13, none⟩ = some (.bool o.fin) := (z1 13 (by rw [o.vals_length]; omega)).1; rw [hA] at k8; clear z1 s1))
    go_wp2
    go_ret
    rw [HM.out]
    exact ⟨rfl, b1⟩

set_option maxRecDepth 8000 in
set_option maxHeartbeats 1600000 in
theorem may_4 (o : Opt) (w : World) (ha : ¬ 3 < o.addr) (hl : ¬ 8 < o.len) (hA : o.hasAck = true) (hM : o.hasMap = true) : Calls Try.prog 24 #[.agg o.vals.toArray] w fun e w' => e = .returned (.bool (mayB o)) ∧ Below w.heap.size w w' := by
    have HM : Hid (mayB o = true) := Lib.hid (by unfold mayB; rw [if_neg (by omega), hA, hM]; rfl)
    have hd : decide (3 < o.addr) = false := decide_eq_false ha
    have hd2 : decide (8 < o.len) = false := decide_eq_false hl
    go_enter Try.func24, Try.ntmps24
    go_upto_region 1 with (first
      | ((with_reducible refine wpList_here ?_); refine wpList_boxV (o := ⟨some 1, _, _, _, _, _⟩) rfl 31 (.tmp 0) rfl o.vals rfl _ rfl ?_; intro w1 z1 b1 s1; have k5 : w1.cell? ⟨w.heap.size, 5, none⟩ = some (.int .i64 o.addr) := (z1 5 (by rw [o.vals_length]; omega)).1; have k12 : w1.cell? ⟨w.heap.size, 12, none⟩ = some (.int .i64 o.len) := (z1 12 (by rw [o.vals_length]; omega)).1; have k8 : w1.cell? ⟨w.heap.size, 8, none⟩ = some (.bool o.hasAck) := (z1 8 (by rw [o.vals_length]; omega)).1; have k9 : w1.cell? ⟨w.heap.size, 9, none⟩ = some (.int .i64 o.ack) := (z1 9 (by rw [o.vals_length]; omega)).1; have k10 : w1.cell? ⟨w.heap.size, 10, none⟩ = some (.bool o.hasMap) := (z1 10 (by rw [o.vals_length]; omega)).1; have k11 : w1.cell? ⟨w.heap.size, 11, none⟩ = some (.int .i64 o.dsn) := (z1 11 (by rw [o.vals_length]; omega)).1; have k13 : w1.cell? ⟨w.heap.size, 13, none⟩ = some (.bool o.fin) := (z1 13 (by rw [o.vals_length]; omega)).1; rw [hA] at k8; rw [hM] at k10; clear z1 s1))
    go_wp2
    go_ret
    rw [HM.out]
    exact ⟨rfl, b1⟩

set_option maxRecDepth 8000 in
set_option maxHeartbeats 1600000 in
theorem may_5 (o : Opt) (w : World) (ha : ¬ 3 < o.addr) (hl : ¬ 8 < o.len) (hA : o.hasAck = true) (hM : o.hasMap = false) (hD : (o.dsn == 0) = false) : Calls Try.prog 24 #[.agg o.vals.toArray] w fun e w' => e = .returned (.bool (mayB o)) ∧ Below w.heap.size w w' := by
    have HM : Hid (mayB o = false) := Lib.hid (by unfold mayB; rw [if_neg (by omega), hA, hM, hD]; rfl)
    have hd : decide (3 < o.addr) = false := decide_eq_false ha
    have hd2 : decide (8 < o.len) = false := decide_eq_false hl
    go_enter Try.func24, Try.ntmps24
    go_upto_region 1 with (first
      | ((with_reducible refine wpList_here ?_); refine wpList_boxV (o := ⟨some 1, _, _, _, _, _⟩) rfl 31 (.tmp 0) rfl o.vals rfl _ rfl ?_; intro w1 z1 b1 s1; have k5 : w1.cell? ⟨w.heap.size, 5, none⟩ = some (.int .i64 o.addr) := (z1 5 (by rw [o.vals_length]; omega)).1; have k12 : w1.cell? ⟨w.heap.size, 12, none⟩ = some (.int .i64 o.len) := (z1 12 (by rw [o.vals_length]; omega)).1; have k8 : w1.cell? ⟨w.heap.size, 8, none⟩ = some (.bool o.hasAck) := (z1 8 (by rw [o.vals_length]; omega)).1; have k9 : w1.cell? ⟨w.heap.size, 9, none⟩ = some (.int .i64 o.ack) := (z1 9 (by rw [o.vals_length]; omega)).1; have k10 : w1.cell? ⟨w.heap.size, 10, none⟩ = some (.bool o.hasMap) := (z1 10 (by rw [o.vals_length]; omega)).1; have k11 : w1.cell? ⟨w.heap.size, 11, none⟩ = some (.int .i64 o.dsn) := (z1 11 (by rw [o.vals_length]; omega)).1; have k13 : w1.cell? ⟨w.heap.size, 13, none⟩ = some (.bool o.fin) := (z1 13 (by rw [o.vals_length]; omega)).1; rw [hA] at k8; rw [hM] at k10; clear z1 s1))
    go_wp2
    go_ret
    rw [HM.out]
    exact ⟨rfl, b1⟩

set_option maxRecDepth 8000 in
set_option maxHeartbeats 1600000 in
theorem may_6 (o : Opt) (w : World) (ha : ¬ 3 < o.addr) (hl : ¬ 8 < o.len) (hA : o.hasAck = true) (hM : o.hasMap = false) (hD : (o.dsn == 0) = true) (hL : (o.len == 0) = false) : Calls Try.prog 24 #[.agg o.vals.toArray] w fun e w' => e = .returned (.bool (mayB o)) ∧ Below w.heap.size w w' := by
    have HM : Hid (mayB o = false) := Lib.hid (by unfold mayB; rw [if_neg (by omega), hA, hM, hD, hL]; rfl)
    have hd : decide (3 < o.addr) = false := decide_eq_false ha
    have hd2 : decide (8 < o.len) = false := decide_eq_false hl
    go_enter Try.func24, Try.ntmps24
    go_upto_region 1 with (first
      | ((with_reducible refine wpList_here ?_); refine wpList_boxV (o := ⟨some 1, _, _, _, _, _⟩) rfl 31 (.tmp 0) rfl o.vals rfl _ rfl ?_; intro w1 z1 b1 s1; have k5 : w1.cell? ⟨w.heap.size, 5, none⟩ = some (.int .i64 o.addr) := (z1 5 (by rw [o.vals_length]; omega)).1; have k12 : w1.cell? ⟨w.heap.size, 12, none⟩ = some (.int .i64 o.len) := (z1 12 (by rw [o.vals_length]; omega)).1; have k8 : w1.cell? ⟨w.heap.size, 8, none⟩ = some (.bool o.hasAck) := (z1 8 (by rw [o.vals_length]; omega)).1; have k9 : w1.cell? ⟨w.heap.size, 9, none⟩ = some (.int .i64 o.ack) := (z1 9 (by rw [o.vals_length]; omega)).1; have k10 : w1.cell? ⟨w.heap.size, 10, none⟩ = some (.bool o.hasMap) := (z1 10 (by rw [o.vals_length]; omega)).1; have k11 : w1.cell? ⟨w.heap.size, 11, none⟩ = some (.int .i64 o.dsn) := (z1 11 (by rw [o.vals_length]; omega)).1; have k13 : w1.cell? ⟨w.heap.size, 13, none⟩ = some (.bool o.fin) := (z1 13 (by rw [o.vals_length]; omega)).1; rw [hA] at k8; rw [hM] at k10; clear z1 s1))
    go_wp2
    go_ret
    rw [HM.out]
    exact ⟨rfl, b1⟩

set_option maxRecDepth 8000 in
set_option maxHeartbeats 1600000 in
theorem may_7 (o : Opt) (w : World) (ha : ¬ 3 < o.addr) (hl : ¬ 8 < o.len) (hA : o.hasAck = true) (hM : o.hasMap = false) (hD : (o.dsn == 0) = true) (hL : (o.len == 0) = true) : Calls Try.prog 24 #[.agg o.vals.toArray] w fun e w' => e = .returned (.bool (mayB o)) ∧ Below w.heap.size w w' := by
    have HM : Hid (mayB o = (!o.fin)) := Lib.hid (by unfold mayB; rw [if_neg (by omega), hA, hM, hD, hL]; rfl)
    have hd : decide (3 < o.addr) = false := decide_eq_false ha
    have hd2 : decide (8 < o.len) = false := decide_eq_false hl
    go_enter Try.func24, Try.ntmps24
    go_upto_region 1 with (first
      | ((with_reducible refine wpList_here ?_); refine wpList_boxV (o := ⟨some 1, _, _, _, _, _⟩) rfl 31 (.tmp 0) rfl o.vals rfl _ rfl ?_; intro w1 z1 b1 s1; have k5 : w1.cell? ⟨w.heap.size, 5, none⟩ = some (.int .i64 o.addr) := (z1 5 (by rw [o.vals_length]; omega)).1; have k12 : w1.cell? ⟨w.heap.size, 12, none⟩ = some (.int .i64 o.len) := (z1 12 (by rw [o.vals_length]; omega)).1; have k8 : w1.cell? ⟨w.heap.size, 8, none⟩ = some (.bool o.hasAck) := (z1 8 (by rw [o.vals_length]; omega)).1; have k9 : w1.cell? ⟨w.heap.size, 9, none⟩ = some (.int .i64 o.ack) := (z1 9 (by rw [o.vals_length]; omega)).1; have k10 : w1.cell? ⟨w.heap.size, 10, none⟩ = some (.bool o.hasMap) := (z1 10 (by rw [o.vals_length]; omega)).1; have k11 : w1.cell? ⟨w.heap.size, 11, none⟩ = some (.int .i64 o.dsn) := (z1 11 (by rw [o.vals_length]; omega)).1; have k13 : w1.cell? ⟨w.heap.size, 13, none⟩ = some (.bool o.fin) := (z1 13 (by rw [o.vals_length]; omega)).1; rw [hA] at k8; rw [hM] at k10; clear z1 s1))
    go_wp2
    go_ret
    rw [HM.out]
    exact ⟨rfl, b1⟩

set_option maxRecDepth 8000 in
set_option maxHeartbeats 1600000 in
theorem may_8 (o : Opt) (w : World) (ha : ¬ 3 < o.addr) (hl : ¬ 8 < o.len) (hA : o.hasAck = false) (hB : (o.ack == 0) = true) (hM : o.hasMap = true) : Calls Try.prog 24 #[.agg o.vals.toArray] w fun e w' => e = .returned (.bool (mayB o)) ∧ Below w.heap.size w w' := by
    have HM : Hid (mayB o = true) := Lib.hid (by unfold mayB; rw [if_neg (by omega), hA, hB, hM]; rfl)
    have hd : decide (3 < o.addr) = false := decide_eq_false ha
    have hd2 : decide (8 < o.len) = false := decide_eq_false hl
    go_enter Try.func24, Try.ntmps24
    go_upto_region 1 with (first
      | ((with_reducible refine wpList_here ?_); refine wpList_boxV (o := ⟨some 1, _, _, _, _, _⟩) rfl 31 (.tmp 0) rfl o.vals rfl _ rfl ?_; intro w1 z1 b1 s1; have k5 : w1.cell? ⟨w.heap.size, 5, none⟩ = some (.int .i64 o.addr) := (z1 5 (by rw [o.vals_length]; omega)).1; have k12 : w1.cell? ⟨w.heap.size, 12, none⟩ = some (.int .i64 o.len) := (z1 12 (by rw [o.vals_length]; omega)).1; have k8 : w1.cell? ⟨w.heap.size, 8, none⟩ = some (.bool o.hasAck) := (z1 8 (by rw [o.vals_length]; omega)).1; have k9 : w1.cell? ⟨w.heap.size, 9, none⟩ = some (.int .i64 o.ack) := (z1 9 (by rw [o.vals_length]; omega)).1; have k10 : w1.cell? ⟨w.heap.size, 10, none⟩ = some (.bool o.hasMap) := (z1 10 (by rw [o.vals_length]; omega)).1; have k11 : w1.cell? ⟨w.heap.size, 11, none⟩ = some (.int .i64 o.dsn) := (z1 11 (by rw [o.vals_length]; omega)).1; have k13 : w1.cell? ⟨w.heap.size, 13, none⟩ = some (.bool o.fin) := (z1 13 (by rw [o.vals_length]; omega)).1; rw [hA] at k8; rw [hM] at k10; clear z1 s1))
    go_wp2
    go_ret
    rw [HM.out]
    exact ⟨rfl, b1⟩

set_option maxRecDepth 8000 in
set_option maxHeartbeats 1600000 in
theorem may_9 (o : Opt) (w : World) (ha : ¬ 3 < o.addr) (hl : ¬ 8 < o.len) (hA : o.hasAck = false) (hB : (o.ack == 0) = true) (hM : o.hasMap = false) (hD : (o.dsn == 0) = false) : Calls Try.prog 24 #[.agg o.vals.toArray] w fun e w' => e = .returned (.bool (mayB o)) ∧ Below w.heap.size w w' := by
    have HM : Hid (mayB o = false) := Lib.hid (by unfold mayB; rw [if_neg (by omega), hA, hB, hM, hD]; rfl)
    have hd : decide (3 < o.addr) = false := decide_eq_false ha
    have hd2 : decide (8 < o.len) = false := decide_eq_false hl
    go_enter Try.func24, Try.ntmps24
    go_upto_region 1 with (first
      | ((with_reducible refine wpList_here ?_); refine wpList_boxV (o := ⟨some 1, _, _, _, _, _⟩) rfl 31 (.tmp 0) rfl o.vals rfl _ rfl ?_; intro w1 z1 b1 s1; have k5 : w1.cell? ⟨w.heap.size, 5, none⟩ = some (.int .i64 o.addr) := (z1 5 (by rw [o.vals_length]; omega)).1; have k12 : w1.cell? ⟨w.heap.size, 12, none⟩ = some (.int .i64 o.len) := (z1 12 (by rw [o.vals_length]; omega)).1; have k8 : w1.cell? ⟨w.heap.size, 8, none⟩ = some (.bool o.hasAck) := (z1 8 (by rw [o.vals_length]; omega)).1; have k9 : w1.cell? ⟨w.heap.size, 9, none⟩ = some (.int .i64 o.ack) := (z1 9 (by rw [o.vals_length]; omega)).1; have k10 : w1.cell? ⟨w.heap.size, 10, none⟩ = some (.bool o.hasMap) := (z1 10 (by rw [o.vals_length]; omega)).1; have k11 : w1.cell? ⟨w.heap.size, 11, none⟩ = some (.int .i64 o.dsn) := (z1 11 (by rw [o.vals_length]; omega)).1; have k13 : w1.cell? ⟨w.heap.size, 13, none⟩ = some (.bool o.fin) := (z1 13 (by rw [o.vals_length]; omega)).1; rw [hA] at k8; rw [hM] at k10; clear z1 s1))
    go_wp2
    go_ret
    rw [HM.out]
    exact ⟨rfl, b1⟩

set_option maxRecDepth 8000 in
set_option maxHeartbeats 1600000 in
theorem may_10 (o : Opt) (w : World) (ha : ¬ 3 < o.addr) (hl : ¬ 8 < o.len) (hA : o.hasAck = false) (hB : (o.ack == 0) = true) (hM : o.hasMap = false) (hD : (o.dsn == 0) = true) (hL : (o.len == 0) = false) : Calls Try.prog 24 #[.agg o.vals.toArray] w fun e w' => e = .returned (.bool (mayB o)) ∧ Below w.heap.size w w' := by
    have HM : Hid (mayB o = false) := Lib.hid (by unfold mayB; rw [if_neg (by omega), hA, hB, hM, hD, hL]; rfl)
    have hd : decide (3 < o.addr) = false := decide_eq_false ha
    have hd2 : decide (8 < o.len) = false := decide_eq_false hl
    go_enter Try.func24, Try.ntmps24
    go_upto_region 1 with (first
      | ((with_reducible refine wpList_here ?_); refine wpList_boxV (o := ⟨some 1, _, _, _, _, _⟩) rfl 31 (.tmp 0) rfl o.vals rfl _ rfl ?_; intro w1 z1 b1 s1; have k5 : w1.cell? ⟨w.heap.size, 5, none⟩ = some (.int .i64 o.addr) := (z1 5 (by rw [o.vals_length]; omega)).1; have k12 : w1.cell? ⟨w.heap.size, 12, none⟩ = some (.int .i64 o.len) := (z1 12 (by rw [o.vals_length]; omega)).1; have k8 : w1.cell? ⟨w.heap.size, 8, none⟩ = some (.bool o.hasAck) := (z1 8 (by rw [o.vals_length]; omega)).1; have k9 : w1.cell? ⟨w.heap.size, 9, none⟩ = some (.int .i64 o.ack) := (z1 9 (by rw [o.vals_length]; omega)).1; have k10 : w1.cell? ⟨w.heap.size, 10, none⟩ = some (.bool o.hasMap) := (z1 10 (by rw [o.vals_length]; omega)).1; have k11 : w1.cell? ⟨w.heap.size, 11, none⟩ = some (.int .i64 o.dsn) := (z1 11 (by rw [o.vals_length]; omega)).1; have k13 : w1.cell? ⟨w.heap.size, 13, none⟩ = some (.bool o.fin) := (z1 13 (by rw [o.vals_length]; omega)).1; rw [hA] at k8; rw [hM] at k10; clear z1 s1))
    go_wp2
    go_ret
    rw [HM.out]
    exact ⟨rfl, b1⟩

set_option maxRecDepth 8000 in
set_option maxHeartbeats 1600000 in
theorem may_11 (o : Opt) (w : World) (ha : ¬ 3 < o.addr) (hl : ¬ 8 < o.len) (hA : o.hasAck = false) (hB : (o.ack == 0) = true) (hM : o.hasMap = false) (hD : (o.dsn == 0) = true) (hL : (o.len == 0) = true) : Calls Try.prog 24 #[.agg o.vals.toArray] w fun e w' => e = .returned (.bool (mayB o)) ∧ Below w.heap.size w w' := by
    have HM : Hid (mayB o = (!o.fin)) := Lib.hid (by unfold mayB; rw [if_neg (by omega), hA, hB, hM, hD, hL]; rfl)
    have hd : decide (3 < o.addr) = false := decide_eq_false ha
    have hd2 : decide (8 < o.len) = false := decide_eq_false hl
    go_enter Try.func24, Try.ntmps24
    go_upto_region 1 with (first
      | ((with_reducible refine wpList_here ?_); refine wpList_boxV (o := ⟨some 1, _, _, _, _, _⟩) rfl 31 (.tmp 0) rfl o.vals rfl _ rfl ?_; intro w1 z1 b1 s1; have k5 : w1.cell? ⟨w.heap.size, 5, none⟩ = some (.int .i64 o.addr) := (z1 5 (by rw [o.vals_length]; omega)).1; have k12 : w1.cell? ⟨w.heap.size, 12, none⟩ = some (.int .i64 o.len) := (z1 12 (by rw [o.vals_length]; omega)).1; have k8 : w1.cell? ⟨w.heap.size, 8, none⟩ = some (.bool o.hasAck) := (z1 8 (by rw [o.vals_length]; omega)).1; have k9 : w1.cell? ⟨w.heap.size, 9, none⟩ = some (.int .i64 o.ack) := (z1 9 (by rw [o.vals_length]; omega)).1; have k10 : w1.cell? ⟨w.heap.size, 10, none⟩ = some (.bool o.hasMap) := (z1 10 (by rw [o.vals_length]; omega)).1; have k11 : w1.cell? ⟨w.heap.size, 11, none⟩ = some (.int .i64 o.dsn) := (z1 11 (by rw [o.vals_length]; omega)).1; have k13 : w1.cell? ⟨w.heap.size, 13, none⟩ = some (.bool o.fin) := (z1 13 (by rw [o.vals_length]; omega)).1; rw [hA] at k8; rw [hM] at k10; clear z1 s1))
    go_wp2
    go_ret
    rw [HM.out]
    exact ⟨rfl, b1⟩

theorem may_any (o : Opt) (w : World) : Calls Try.prog 24 #[.agg o.vals.toArray] w fun e w' => e = .returned (.bool (mayB o)) ∧ Below w.heap.size w w' := by
  by_cases ha : 3 < o.addr
  · exact may_1 o w ha
  by_cases hl : 8 < o.len
  · exact may_2 o w ha hl
  cases hA : o.hasAck with
  | true =>
    cases hM : o.hasMap with
    | true => exact may_4 o w ha hl hA hM
    | false =>
      cases hD : (o.dsn == 0) with
      | false => exact may_5 o w ha hl hA hM hD
      | true =>
        cases hL : (o.len == 0) with
        | false => exact may_6 o w ha hl hA hM hD hL
        | true => exact may_7 o w ha hl hA hM hD hL
  | false =>
    cases hB : (o.ack == 0) with
    | false => exact may_3 o w ha hl hA hB
    | true =>
      cases hM : o.hasMap with
      | true => exact may_8 o w ha hl hA hB hM
      | false =>
        cases hD : (o.dsn == 0) with
        | false => exact may_9 o w ha hl hA hB hM hD
        | true =>
          cases hL : (o.len == 0) with
          | false => exact may_10 o w ha hl hA hB hM hD hL
          | true => exact may_11 o w ha hl hA hB hM hD hL
end Go.Proofs.Ytcofkdcjcckdfaa

/- The contract of the document's own comparison of bytes. Condition: both slices hold bytes.
The contracts of the document's own words for what may be, of its Right, and of its way to read any option. Condition: each of an option's numbers is one of its kind.
The contract of the document's own Right. Condition: each of an option's numbers is one of its kind. -/
import Derived.Test.YtbbpemndkphgeaaDoorMg1
import Derived.Test.YtbbpemndkphgeaaDoorMg11
import Derived.Test.YtbbpemndkphgeaaDoorMg12
import Derived.Test.YtbbpemndkphgeaaDoorMg14
import Derived.Deep.Cut
namespace Go.Proofs.YtbbpemndkphgeaaDoor
set_option linter.unusedSimpArgs false
set_option linter.unusedVariables false
open Go.RowKit

theorem ne_at {l r : List UInt8} {k : Nat} (h : (l.getD k 0) ≠ (r.getD k 0)) : (l == r) = false := by
  rw [beq_eq_false_iff_ne]
  rintro rfl
  exact h rfl
theorem eq_all {l r : List UInt8} (hl : l.length = r.length) (h : ∀ k, k < l.length → l.getD k 0 = r.getD k 0) : (l == r) = true := by
  rw [beq_iff_eq]
  apply List.ext_getElem hl
  intro i h1 h2
  have := h i h1
  simpa [h1, h2] using this

set_option maxHeartbeats 400000 in
theorem Same_any (A B : Option Addr) (n c m d : Nat) (l r : List UInt8) (w : World) (h : RB w A n c l) (h' : RB w B m d r) :
    Calls Tryd.prog 14 #[.slice A n c, .slice B m d] w fun e w' => e = .returned (.bool (l == r)) ∧ ∃ q, w' = w.drewN q := by
  have hl := Lib.hid h.len
  have hr := Lib.hid h'.len
  have hn := h.max
  have hn' := h.cap
  have hm := h'.max
  have hm' := h'.cap
  by_cases hnm : n = m
  · subst hnm
    go_enter Tryd.func14, Tryd.ntmps14
    go_wp2
    go_loopw [5] (fun i wr => ∃ k : Nat, k ≤ n ∧ i = .int .i64 k ∧ (∀ j, j < k → l.getD j 0 = r.getD j 0) ∧ ∃ q, wr = w.drewN q) (fun i _ => n - (intOf i).toNat)
    case atStart => exact ⟨0, Nat.zero_le _, rfl, fun j hj => absurd hj (by omega), 0, rfl⟩
    case round =>
      obtain ⟨k, hk, rfl, heq, q, rfl⟩ := hrel
      have HE := Lib.hid heq
      clear heq
      by_cases hlt : k < n
      · obtain ⟨b, o, rfl, hc⟩ := h.at_ hlt
        obtain ⟨b', o', rfl, hc'⟩ := h'.at_ hlt
        clear h h'
        have hx := (l.getD k 0).toNat_lt
        have hy := (r.getD k 0).toNat_lt
        by_cases hxy : l.getD k 0 = r.getD k 0
        · have HX := Lib.hid hxy
          have hne : (((l.getD k 0).toNat : Int) != ((r.getD k 0).toNat : Int)) = false := by rw [hxy]; simp
          clear hxy
          generalize (l.getD k 0).toNat = x at *
          generalize (r.getD k 0).toNat = y at *
          go_wp2
          go_quiet (fail)
          go_wp2
          go_roundw
          case rel =>
            refine ⟨k + 1, by omega, by go_num, fun j hj => ?_, _, rfl⟩
            rcases Nat.lt_or_ge j k with hj' | hj'
            · exact HE.out j hj'
            · obtain rfl : j = k := by omega
              exact HX.out
          case measure => simp [intOf]; omega
        · have HX := Lib.hid (ne_at hxy)
          have hne : (((l.getD k 0).toNat : Int) != ((r.getD k 0).toNat : Int)) = true := by
            rw [bne_iff_ne]
            intro e
            exact hxy (UInt8.toNat_inj.1 (by omega))
          clear hxy
          generalize (l.getD k 0).toNat = x at *
          generalize (r.getD k 0).toNat = y at *
          go_wp2
          go_quiet (fail)
          go_wp2
          go_ret
          exact ⟨by rw [HX.out]; rfl, _, World.drewN_drewN ..⟩
      · have HX := Lib.hid (eq_all (l := l) (r := r) (by rw [hl.out, hr.out]) (fun j hj => HE.out j (by rw [hl.out] at hj; omega)))
        go_wp2
        go_ret
        exact ⟨by rw [HX.out]; rfl, _, rfl⟩
  · have HX : Hid ((l == r) = false) := by
      show (l == r) = false
      rw [beq_eq_false_iff_ne]
      rintro rfl
      exact hnm (hl.out.symm.trans hr.out)
    have hne : ((n : Int) != (m : Int)) = true := by rw [bne_iff_ne]; omega
    go_enter Tryd.func14, Tryd.ntmps14
    go_wp2
    go_ret
    exact ⟨by rw [HX.out]; rfl, 0, rfl⟩

theorem Same_yes (A B : Option Addr) (n c m d : Nat) (l : List UInt8) (w : World) (h : RB w A n c l) (h' : RB w B m d l) :
    Calls Tryd.prog 14 #[.slice A n c, .slice B m d] w (Yes w) :=
  (Same_any A B n c m d l l w h h').mono fun e w' ⟨he, q, hq⟩ => by
    subst hq
    exact ⟨by rw [he]; simp, below_drewN (Below.refl _ _) q⟩
end Go.Proofs.YtbbpemndkphgeaaDoor

namespace Go.Proofs.YtbbpemndkphgeaaDoor
set_option linter.unusedVariables false
set_option linter.unusedSimpArgs false
open Go.RowKit

set_option maxRecDepth 8000 in
set_option maxHeartbeats 1600000 in
theorem may_1 (o : Opt) (w : World) (ha : 3 < o.addr) : Calls Tryd.prog 44 #[.agg o.vals.toArray] w fun e w' => e = .returned (.bool (mayB o)) ∧ Below w.heap.size w w' := by
    have HM : Hid (mayB o = false) := Lib.hid (by unfold mayB; rw [if_pos (.inl ha)])
    have hd : decide (3 < o.addr) = true := decide_eq_true ha
    go_enter Tryd.func44, Tryd.ntmps44
    go_upto_region 1 with (first
      | ((with_reducible refine wpList_here ?_); refine wpList_boxV (o := ⟨some 1, _, _, _, _, _⟩) rfl 52 (.tmp 0) rfl o.vals rfl _ rfl ?_; intro w1 z1 b1 s1; have k5 : w1.cell? ⟨w.heap.size, 5, none⟩ = some (.int .i64 o.addr) := (z1 5 (by rw [o.vals_length]; omega)).1; have k12 : w1.cell? ⟨w.heap.size, 12, none⟩ = some (.int .i64 o.len) := (z1 12 (by rw [o.vals_length]; omega)).1; have k8 : w1.cell? ⟨w.heap.size, 8, none⟩ = some (.bool o.hasAck) := (z1 8 (by rw [o.vals_length]; omega)).1; have k9 : w1.cell? ⟨w.heap.size, 9, none⟩ = some (.int .i64 o.ack) := (z1 9 (by rw [o.vals_length]; omega)).1; have k10 : w1.cell? ⟨w.heap.size, 10, none⟩ = some (.bool o.hasMap) := (z1 10 (by rw [o.vals_length]; omega)).1; have k11 : w1.cell? ⟨w.heap.size, 11, none⟩ = some (.int .i64 o.dsn) := (z1 11 (by rw [o.vals_length]; omega)).1; have k13 : w1.cell? ⟨w.heap.size, 13, none⟩ = some (.bool o.fin) := (z1 13 (by rw [o.vals_length]; omega)).1; clear z1 s1))
    go_wp2
    go_ret
    rw [HM.out]
    exact ⟨rfl, b1⟩

set_option maxRecDepth 8000 in
set_option maxHeartbeats 1600000 in
theorem may_2 (o : Opt) (w : World) (ha : ¬ 3 < o.addr) (hl : 8 < o.len) : Calls Tryd.prog 44 #[.agg o.vals.toArray] w fun e w' => e = .returned (.bool (mayB o)) ∧ Below w.heap.size w w' := by
    have HM : Hid (mayB o = false) := Lib.hid (by unfold mayB; rw [if_pos (.inr hl)])
    have hd : decide (3 < o.addr) = false := decide_eq_false ha
    have hd2 : decide (8 < o.len) = true := decide_eq_true hl
    go_enter Tryd.func44, Tryd.ntmps44
    go_upto_region 1 with (first
      | ((with_reducible refine wpList_here ?_); refine wpList_boxV (o := ⟨some 1, _, _, _, _, _⟩) rfl 52 (.tmp 0) rfl o.vals rfl _ rfl ?_; intro w1 z1 b1 s1; have k5 : w1.cell? ⟨w.heap.size, 5, none⟩ = some (.int .i64 o.addr) := (z1 5 (by rw [o.vals_length]; omega)).1; have k12 : w1.cell? ⟨w.heap.size, 12, none⟩ = some (.int .i64 o.len) := (z1 12 (by rw [o.vals_length]; omega)).1; have k8 : w1.cell? ⟨w.heap.size, 8, none⟩ = some (.bool o.hasAck) := (z1 8 (by rw [o.vals_length]; omega)).1; have k9 : w1.cell? ⟨w.heap.size, 9, none⟩ = some (.int .i64 o.ack) := (z1 9 (by rw [o.vals_length]; omega)).1; have k10 : w1.cell? ⟨w.heap.size, 10, none⟩ = some (.bool o.hasMap) := (z1 10 (by rw [o.vals_length]; omega)).1; have k11 : w1.cell? ⟨w.heap.size, 11, none⟩ = some (.int .i64 o.dsn) := (z1 11 (by rw [o.vals_length]; omega)).1; have k13 : w1.cell? ⟨w.heap.size, 13, none⟩ = some (.bool o.fin) := (z1 13 (by rw [o.vals_length]; omega)).1; clear z1 s1))
    go_wp2
    go_ret
    rw [HM.out]
    exact ⟨rfl, b1⟩

set_option maxRecDepth 8000 in
set_option maxHeartbeats 1600000 in
theorem may_3 (o : Opt) (w : World) (ha : ¬ 3 < o.addr) (hl : ¬ 8 < o.len) (hA : o.hasAck = false) (hB : (o.ack == 0) = false) : Calls Tryd.prog 44 #[.agg o.vals.toArray] w fun e w' => e = .returned (.bool (mayB o)) ∧ Below w.heap.size w w' := by
    have HM : Hid (mayB o = false) := Lib.hid (by unfold mayB; rw [if_neg (by omega), hA, hB]; rfl)
    have hd : decide (3 < o.addr) = false := decide_eq_false ha
    have hd2 : decide (8 < o.len) = false := decide_eq_false hl
    go_enter Tryd.func44, Tryd.ntmps44
    go_upto_region 1 with (first
      | ((with_reducible refine wpList_here ?_); refine wpList_boxV (o := ⟨some 1, _, _, _, _, _⟩) rfl 52 (.tmp 0) rfl o.vals rfl _ rfl ?_; intro w1 z1 b1 s1; have k5 : w1.cell? ⟨w.heap.size, 5, none⟩ = some (.int .i64 o.addr) := (z1 5 (by rw [o.vals_length]; omega)).1; have k12 : w1.cell? ⟨w.heap.size, 12, none⟩ = some (.int .i64 o.len) := (z1 12 (by rw [o.vals_length]; omega)).1; have k8 : w1.cell? ⟨w.heap.size, 8, none⟩ = some (.bool o.hasAck) := (z1 8 (by rw [o.vals_length]; omega)).1; have k9 : w1.cell? ⟨w.heap.size, 9, none⟩ = some (.int .i64 o.ack) := (z1 9 (by rw [o.vals_length]; omega)).1; have k10 : w1.cell? ⟨w.heap.size, 10, none⟩ = some (.bool o.hasMap) := (z1 10 (by rw [o.vals_length]; omega)).1; have k11 : w1.cell? ⟨w.heap.size, 11, none⟩ = some (.int .i64 o.dsn) := (z1 11 (by rw [o.vals_length]; omega)).1; have k13 : w1.cell? ⟨w.heap.size, 13, none⟩ = some (.bool o.fin) := (z1 13 (by rw [o.vals_length]; omega)).1; rw [hA] at k8; clear z1 s1))
    go_wp2
    go_ret
    rw [HM.out]
    exact ⟨rfl, b1⟩

set_option maxRecDepth 8000 in
set_option maxHeartbeats 1600000 in
theorem may_4 (o : Opt) (w : World) (ha : ¬ 3 < o.addr) (hl : ¬ 8 < o.len) (hA : o.hasAck = true) (hM : o.hasMap = true) : Calls Tryd.prog 44 #[.agg o.vals.toArray] w fun e w' => e = .returned (.bool (mayB o)) ∧ Below w.heap.size w w' := by
    have HM : Hid (mayB o = true) := Lib.hid (by unfold mayB; rw [if_neg (by omega), hA, hM]; rfl)
    have hd : decide (3 < o.addr) = false := decide_eq_false ha
    have hd2 : decide (8 < o.len) = false := decide_eq_false hl
    go_enter Tryd.func44, Tryd.ntmps44
    go_upto_region 1 with (first
      | ((with_reducible refine wpList_here ?_); refine wpList_boxV (o := ⟨some 1, _, _, _, _, _⟩) rfl 52 (.tmp 0) rfl o.vals rfl _ rfl ?_; intro w1 z1 b1 s1; have k5 : w1.cell? ⟨w.heap.size, 5, none⟩ = some (.int .i64 o.addr) := (z1 5 (by rw [o.vals_length]; omega)).1; have k12 : w1.cell? ⟨w.heap.size, 12, none⟩ = some (.int .i64 o.len) := (z1 12 (by rw [o.vals_length]; omega)).1; have k8 : w1.cell? ⟨w.heap.size, 8, none⟩ = some (.bool o.hasAck) := (z1 8 (by rw [o.vals_length]; omega)).1; have k9 : w1.cell? ⟨w.heap.size, 9, none⟩ = some (.int .i64 o.ack) := (z1 9 (by rw [o.vals_length]; omega)).1; have k10 : w1.cell? ⟨w.heap.size, 10, none⟩ = some (.bool o.hasMap) := (z1 10 (by rw [o.vals_length]; omega)).1; have k11 : w1.cell? ⟨w.heap.size, 11, none⟩ = some (.int .i64 o.dsn) := (z1 11 (by rw [o.vals_length]; omega)).1; have k13 : w1.cell? ⟨w.heap.size, 13, none⟩ = some (.bool o.fin) := (z1 13 (by rw [o.vals_length]; omega)).1; rw [hA] at k8; rw [hM] at k10; clear z1 s1))
    go_wp2
    go_ret
    rw [HM.out]
    exact ⟨rfl, b1⟩

set_option maxRecDepth 8000 in
set_option maxHeartbeats 1600000 in
theorem may_5 (o : Opt) (w : World) (ha : ¬ 3 < o.addr) (hl : ¬ 8 < o.len) (hA : o.hasAck = true) (hM : o.hasMap = false) (hD : (o.dsn == 0) = false) : Calls Tryd.prog 44 #[.agg o.vals.toArray] w fun e w' => e = .returned (.bool (mayB o)) ∧ Below w.heap.size w w' := by
    have HM : Hid (mayB o = false) := Lib.hid (by unfold mayB; rw [if_neg (by omega), hA, hM, hD]; rfl)
    have hd : decide (3 < o.addr) = false := decide_eq_false ha
    have hd2 : decide (8 < o.len) = false := decide_eq_false hl
    go_enter Tryd.func44, Tryd.ntmps44
    go_upto_region 1 with (first
      | ((with_reducible refine wpList_here ?_); refine wpList_boxV (o := ⟨some 1, _, _, _, _, _⟩) rfl 52 (.tmp 0) rfl o.vals rfl _ rfl ?_; intro w1 z1 b1 s1; have k5 : w1.cell? ⟨w.heap.size, 5, none⟩ = some (.int .i64 o.addr) := (z1 5 (by rw [o.vals_length]; omega)).1; have k12 : w1.cell? ⟨w.heap.size, 12, none⟩ = some (.int .i64 o.len) := (z1 12 (by rw [o.vals_length]; omega)).1; have k8 : w1.cell? ⟨w.heap.size, 8, none⟩ = some (.bool o.hasAck) := (z1 8 (by rw [o.vals_length]; omega)).1; have k9 : w1.cell? ⟨w.heap.size, 9, none⟩ = some (.int .i64 o.ack) := (z1 9 (by rw [o.vals_length]; omega)).1; have k10 : w1.cell? ⟨w.heap.size, 10, none⟩ = some (.bool o.hasMap) := (z1 10 (by rw [o.vals_length]; omega)).1; have k11 : w1.cell? ⟨w.heap.size, 11, none⟩ = some (.int .i64 o.dsn) := (z1 11 (by rw [o.vals_length]; omega)).1; have k13 : w1.cell? ⟨w.heap.size, 13, none⟩ = some (.bool o.fin) := (z1 13 (by rw [o.vals_length]; omega)).1; rw [hA] at k8; rw [hM] at k10; clear z1 s1))
    go_wp2
    go_ret
    rw [HM.out]
    exact ⟨rfl, b1⟩

set_option maxRecDepth 8000 in
set_option maxHeartbeats 1600000 in
theorem may_6 (o : Opt) (w : World) (ha : ¬ 3 < o.addr) (hl : ¬ 8 < o.len) (hA : o.hasAck = true) (hM : o.hasMap = false) (hD : (o.dsn == 0) = true) (hL : (o.len == 0) = false) : Calls Tryd.prog 44 #[.agg o.vals.toArray] w fun e w' => e = .returned (.bool (mayB o)) ∧ Below w.heap.size w w' := by
    have HM : Hid (mayB o = false) := Lib.hid (by unfold mayB; rw [if_neg (by omega), hA, hM, hD, hL]; rfl)
    have hd : decide (3 < o.addr) = false := decide_eq_false ha
    have hd2 : decide (8 < o.len) = false := decide_eq_false hl
    go_enter Tryd.func44, Tryd.ntmps44
    go_upto_region 1 with (first
      | ((with_reducible refine wpList_here ?_); refine wpList_boxV (o := ⟨some 1, _, _, _, _, _⟩) rfl 52 (.tmp 0) rfl o.vals rfl _ rfl ?_; intro w1 z1 b1 s1; have k5 : w1.cell? ⟨w.heap.size, 5, none⟩ = some (.int .i64 o.addr) := (z1 5 (by rw [o.vals_length]; omega)).1; have k12 : w1.cell? ⟨w.heap.size, 12, none⟩ = some (.int .i64 o.len) := (z1 12 (by rw [o.vals_length]; omega)).1; have k8 : w1.cell? ⟨w.heap.size, 8, none⟩ = some (.bool o.hasAck) := (z1 8 (by rw [o.vals_length]; omega)).1; have k9 : w1.cell? ⟨w.heap.size, 9, none⟩ = some (.int .i64 o.ack) := (z1 9 (by rw [o.vals_length]; omega)).1; have k10 : w1.cell? ⟨w.heap.size, 10, none⟩ = some (.bool o.hasMap) := (z1 10 (by rw [o.vals_length]; omega)).1; have k11 : w1.cell? ⟨w.heap.size, 11, none⟩ = some (.int .i64 o.dsn) := (z1 11 (by rw [o.vals_length]; omega)).1; have k13 : w1.cell? ⟨w.heap.size, 13, none⟩ = some (.bool o.fin) := (z1 13 (by rw [o.vals_length]; omega)).1; rw [hA] at k8; rw [hM] at k10; clear z1 s1))
    go_wp2
    go_ret
    rw [HM.out]
    exact ⟨rfl, b1⟩

set_option maxRecDepth 8000 in
set_option maxHeartbeats 1600000 in
theorem may_7 (o : Opt) (w : World) (ha : ¬ 3 < o.addr) (hl : ¬ 8 < o.len) (hA : o.hasAck = true) (hM : o.hasMap = false) (hD : (o.dsn == 0) = true) (hL : (o.len == 0) = true) : Calls Tryd.prog 44 #[.agg o.vals.toArray] w fun e w' => e = .returned (.bool (mayB o)) ∧ Below w.heap.size w w' := by
    have HM : Hid (mayB o = (!o.fin)) := Lib.hid (by unfold mayB; rw [if_neg (by omega), hA, hM, hD, hL]; rfl)
    have hd : decide (3 < o.addr) = false := decide_eq_false ha
    have hd2 : decide (8 < o.len) = false := decide_eq_false hl
    go_enter Tryd.func44, Tryd.ntmps44
    go_upto_region 1 with (first
      | ((with_reducible refine wpList_here ?_); refine wpList_boxV (o := ⟨some 1, _, _, _, _, _⟩) rfl 52 (.tmp 0) rfl o.vals rfl _ rfl ?_; intro w1 z1 b1 s1; have k5 : w1.cell? ⟨w.heap.size, 5, none⟩ = some (.int .i64 o.addr) := (z1 5 (by rw [o.vals_length]; omega)).1; have k12 : w1.cell? ⟨w.heap.size, 12, none⟩ = some (.int .i64 o.len) := (z1 12 (by rw [o.vals_length]; omega)).1; have k8 : w1.cell? ⟨w.heap.size, 8, none⟩ = some (.bool o.hasAck) := (z1 8 (by rw [o.vals_length]; omega)).1; have k9 : w1.cell? ⟨w.heap.size, 9, none⟩ = some (.int .i64 o.ack) := (z1 9 (by rw [o.vals_length]; omega)).1; have k10 : w1.cell? ⟨w.heap.size, 10, none⟩ = some (.bool o.hasMap) := (z1 10 (by rw [o.vals_length]; omega)).1; have k11 : w1.cell? ⟨w.heap.size, 11, none⟩ = some (.int .i64 o.dsn) := (z1 11 (by rw [o.vals_length]; omega)).1; have k13 : w1.cell? ⟨w.heap.size, 13, none⟩ = some (.bool o.fin) := (z1 13 (by rw [o.vals_length]; omega)).1; rw [hA] at k8; rw [hM] at k10; clear z1 s1))
    go_wp2
    go_ret
    rw [HM.out]
    exact ⟨rfl, b1⟩

set_option maxRecDepth 8000 in
set_option maxHeartbeats 1600000 in
theorem may_8 (o : Opt) (w : World) (ha : ¬ 3 < o.addr) (hl : ¬ 8 < o.len) (hA : o.hasAck = false) (hB : (o.ack == 0) = true) (hM : o.hasMap = true) : Calls Tryd.prog 44 #[.agg o.vals.toArray] w fun e w' => e = .returned (.bool (mayB o)) ∧ Below w.heap.size w w' := by
    have HM : Hid (mayB o = true) := Lib.hid (by unfold mayB; rw [if_neg (by omega), hA, hB, hM]; rfl)
    have hd : decide (3 < o.addr) = false := decide_eq_false ha
    have hd2 : decide (8 < o.len) = false := decide_eq_false hl
    go_enter Tryd.func44, Tryd.ntmps44
    go_upto_region 1 with (first
      | ((with_reducible refine wpList_here ?_); refine wpList_boxV (o := ⟨some 1, _, _, _, _, _⟩) rfl 52 (.tmp 0) rfl o.vals rfl _ rfl ?_; intro w1 z1 b1 s1; have k5 : w1.cell? ⟨w.heap.size, 5, none⟩ = some (.int .i64 o.addr) := (z1 5 (by rw [o.vals_length]; omega)).1; have k12 : w1.cell? ⟨w.heap.size, 12, none⟩ = some (.int .i64 o.len) := (z1 12 (by rw [o.vals_length]; omega)).1; have k8 : w1.cell? ⟨w.heap.size, 8, none⟩ = some (.bool o.hasAck) := (z1 8 (by rw [o.vals_length]; omega)).1; have k9 : w1.cell? ⟨w.heap.size, 9, none⟩ = some (.int .i64 o.ack) := (z1 9 (by rw [o.vals_length]; omega)).1; have k10 : w1.cell? ⟨w.heap.size, 10, none⟩ = some (.bool o.hasMap) := (z1 10 (by rw [o.vals_length]; omega)).1; have k11 : w1.cell? ⟨w.heap.size, 11, none⟩ = some (.int .i64 o.dsn) := (z1 11 (by rw [o.vals_length]; omega)).1; have k13 : w1.cell? ⟨w.heap.size, 13, none⟩ = some (.bool o.fin) := (z1 13 (by rw [o.vals_length]; omega)).1; rw [hA] at k8; rw [hM] at k10; clear z1 s1))
    go_wp2
    go_ret
    rw [HM.out]
    exact ⟨rfl, b1⟩

set_option maxRecDepth 8000 in
set_option maxHeartbeats 1600000 in
theorem may_9 (o : Opt) (w : World) (ha : ¬ 3 < o.addr) (hl : ¬ 8 < o.len) (hA : o.hasAck = false) (hB : (o.ack == 0) = true) (hM : o.hasMap = false) (hD : (o.dsn == 0) = false) : Calls Tryd.prog 44 #[.agg o.vals.toArray] w fun e w' => e = .returned (.bool (mayB o)) ∧ Below w.heap.size w w' := by
    have HM : Hid (mayB o = false) := Lib.hid (by unfold mayB; rw [if_neg (by omega), hA, hB, hM, hD]; rfl)
    have hd : decide (3 < o.addr) = false := decide_eq_false ha
    have hd2 : decide (8 < o.len) = false := decide_eq_false hl
    go_enter Tryd.func44, Tryd.ntmps44
    go_upto_region 1 with (first
      | ((with_reducible refine wpList_here ?_); refine wpList_boxV (o := ⟨some 1, _, _, _, _, _⟩) rfl 52 (.tmp 0) rfl o.vals rfl _ rfl ?_; intro w1 z1 b1 s1; have k5 : w1.cell? ⟨w.heap.size, 5, none⟩ = some (.int .i64 o.addr) := (z1 5 (by rw [o.vals_length]; omega)).1; have k12 : w1.cell? ⟨w.heap.size, 12, none⟩ = some (.int .i64 o.len) := (z1 12 (by rw [o.vals_length]; omega)).1; have k8 : w1.cell? ⟨w.heap.size, 8, none⟩ = some (.bool o.hasAck) := (z1 8 (by rw [o.vals_length]; omega)).1; have k9 : w1.cell? ⟨w.heap.size, 9, none⟩ = some (.int .i64 o.ack) := (z1 9 (by rw [o.vals_length]; omega)).1; have k10 : w1.cell? ⟨w.heap.size, 10, none⟩ = some (.bool o.hasMap) := (z1 10 (by rw [o.vals_length]; omega)).1; have k11 : w1.cell? ⟨w.heap.size, 11, none⟩ = some (.int .i64 o.dsn) := (z1 11 (by rw [o.vals_length]; omega)).1; have k13 : w1.cell? ⟨w.heap.size, 13, none⟩ = some (.bool o.fin) := (z1 13 (by rw [o.vals_length]; omega)).1; rw [hA] at k8; rw [hM] at k10; clear z1 s1))
    go_wp2
    go_ret
    rw [HM.out]
    exact ⟨rfl, b1⟩

set_option maxRecDepth 8000 in
set_option maxHeartbeats 1600000 in
theorem may_10 (o : Opt) (w : World) (ha : ¬ 3 < o.addr) (hl : ¬ 8 < o.len) (hA : o.hasAck = false) (hB : (o.ack == 0) = true) (hM : o.hasMap = false) (hD : (o.dsn == 0) = true) (hL : (o.len == 0) = false) : Calls Tryd.prog 44 #[.agg o.vals.toArray] w fun e w' => e = .returned (.bool (mayB o)) ∧ Below w.heap.size w w' := by
    have HM : Hid (mayB o = false) := Lib.hid (by unfold mayB; rw [if_neg (by omega), hA, hB, hM, hD, hL]; rfl)
    have hd : decide (3 < o.addr) = false := decide_eq_false ha
    have hd2 : decide (8 < o.len) = false := decide_eq_false hl
    go_enter Tryd.func44, Tryd.ntmps44
    go_upto_region 1 with (first
      | ((with_reducible refine wpList_here ?_); refine wpList_boxV (o := ⟨some 1, _, _, _, _, _⟩) rfl 52 (.tmp 0) rfl o.vals rfl _ rfl ?_; intro w1 z1 b1 s1; have k5 : w1.cell? ⟨w.heap.size, 5, none⟩ = some (.int .i64 o.addr) := (z1 5 (by rw [o.vals_length]; omega)).1; have k12 : w1.cell? ⟨w.heap.size, 12, none⟩ = some (.int .i64 o.len) := (z1 12 (by rw [o.vals_length]; omega)).1; have k8 : w1.cell? ⟨w.heap.size, 8, none⟩ = some (.bool o.hasAck) := (z1 8 (by rw [o.vals_length]; omega)).1; have k9 : w1.cell? ⟨w.heap.size, 9, none⟩ = some (.int .i64 o.ack) := (z1 9 (by rw [o.vals_length]; omega)).1; have k10 : w1.cell? ⟨w.heap.size, 10, none⟩ = some (.bool o.hasMap) := (z1 10 (by rw [o.vals_length]; omega)).1; have k11 : w1.cell? ⟨w.heap.size, 11, none⟩ = some (.int .i64 o.dsn) := (z1 11 (by rw [o.vals_length]; omega)).1; have k13 : w1.cell? ⟨w.heap.size, 13, none⟩ = some (.bool o.fin) := (z1 13 (by rw [o.vals_length]; omega)).1; rw [hA] at k8; rw [hM] at k10; clear z1 s1))
    go_wp2
    go_ret
    rw [HM.out]
    exact ⟨rfl, b1⟩

set_option maxRecDepth 8000 in
set_option maxHeartbeats 1600000 in
theorem may_11 (o : Opt) (w : World) (ha : ¬ 3 < o.addr) (hl : ¬ 8 < o.len) (hA : o.hasAck = false) (hB : (o.ack == 0) = true) (hM : o.hasMap = false) (hD : (o.dsn == 0) = true) (hL : (o.len == 0) = true) : Calls Tryd.prog 44 #[.agg o.vals.toArray] w fun e w' => e = .returned (.bool (mayB o)) ∧ Below w.heap.size w w' := by
    have HM : Hid (mayB o = (!o.fin)) := Lib.hid (by unfold mayB; rw [if_neg (by omega), hA, hB, hM, hD, hL]; rfl)
    have hd : decide (3 < o.addr) = false := decide_eq_false ha
    have hd2 : decide (8 < o.len) = false := decide_eq_false hl
    go_enter Tryd.func44, Tryd.ntmps44
    go_upto_region 1 with (first
      | ((with_reducible refine wpList_here ?_); refine wpList_boxV (o := ⟨some 1, _, _, _, _, _⟩) rfl 52 (.tmp 0) rfl o.vals rfl _ rfl ?_; intro w1 z1 b1 s1; have k5 : w1.cell? ⟨w.heap.size, 5, none⟩ = some (.int .i64 o.addr) := (z1 5 (by rw [o.vals_length]; omega)).1; have k12 : w1.cell? ⟨w.heap.size, 12, none⟩ = some (.int .i64 o.len) := (z1 12 (by rw [o.vals_length]; omega)).1; have k8 : w1.cell? ⟨w.heap.size, 8, none⟩ = some (.bool o.hasAck) := (z1 8 (by rw [o.vals_length]; omega)).1; have k9 : w1.cell? ⟨w.heap.size, 9, none⟩ = some (.int .i64 o.ack) := (z1 9 (by rw [o.vals_length]; omega)).1; have k10 : w1.cell? ⟨w.heap.size, 10, none⟩ = some (.bool o.hasMap) := (z1 10 (by rw [o.vals_length]; omega)).1; have k11 : w1.cell? ⟨w.heap.size, 11, none⟩ = some (.int .i64 o.dsn) := (z1 11 (by rw [o.vals_length]; omega)).1; have k13 : w1.cell? ⟨w.heap.size, 13, none⟩ = some (.bool o.fin) := (z1 13 (by rw [o.vals_length]; omega)).1; rw [hA] at k8; rw [hM] at k10; clear z1 s1))
    go_wp2
    go_ret
    rw [HM.out]
    exact ⟨rfl, b1⟩

theorem may_any (o : Opt) (w : World) : Calls Tryd.prog 44 #[.agg o.vals.toArray] w fun e w' => e = .returned (.bool (mayB o)) ∧ Below w.heap.size w w' := by
  by_cases ha : 3 < o.addr
  · exact may_1 o w ha
  by_cases hl : 8 < o.len
  · exact may_2 o w ha hl
  cases hA : o.hasAck with
  | true =>
    cases hM : o.hasMap with
    | true => exact may_4 o w ha hl hA hM
    | false =>
      cases hD : (o.dsn == 0) with
      | false => exact may_5 o w ha hl hA hM hD
      | true =>
        cases hL : (o.len == 0) with
        | false => exact may_6 o w ha hl hA hM hD hL
        | true => exact may_7 o w ha hl hA hM hD hL
  | false =>
    cases hB : (o.ack == 0) with
    | false => exact may_3 o w ha hl hA hB
    | true =>
      cases hM : o.hasMap with
      | true => exact may_8 o w ha hl hA hB hM
      | false =>
        cases hD : (o.dsn == 0) with
        | false => exact may_9 o w ha hl hA hB hM hD
        | true =>
          cases hL : (o.len == 0) with
          | false => exact may_10 o w ha hl hA hB hM hD hL
          | true => exact may_11 o w ha hl hA hB hM hD hL
end Go.Proofs.YtbbpemndkphgeaaDoor

namespace Go.Proofs.YtbbpemndkphgeaaDoor
set_option linter.unusedVariables false
set_option linter.unusedSimpArgs false
open Go.RowKit

theorem parse_any (k : Nat) (h1 : 1 ≤ k) (h2 : k ≤ 11) (A : Option Addr) (c : Nat) (bs : List UInt8) (w : World) (h : RB w A (sz k) c bs) (hk : (bs.getD 0 0).toNat = k) :
    Calls Tryd.prog 45 #[.slice A (sz k) c] w (ParseMade w (prs (zK k) (tab k) (bs.drop 1))) := by
  rcases (show k = 1 ∨ k = 2 ∨ k = 3 ∨ k = 4 ∨ k = 5 ∨ k = 6 ∨ k = 7 ∨ k = 8 ∨ k = 9 ∨ k = 10 ∨ k = 11 from by omega) with rfl | rfl | rfl | rfl | rfl | rfl | rfl | rfl | rfl | rfl | rfl
  · exact parse_1 A c bs w h hk
  · exact parse_2 A c bs w h hk
  · exact parse_3 A c bs w h hk
  · exact parse_4 A c bs w h hk
  · exact parse_5 A c bs w h hk
  · exact parse_6 A c bs w h hk
  · exact parse_7 A c bs w h hk
  · exact parse_8 A c bs w h hk
  · exact parse_9 A c bs w h hk
  · exact parse_10 A c bs w h hk
  · exact parse_11 A c bs w h hk
/-- A kind that there is. -/
theorem sz_range {k : Int} (h : sz k ≠ 0) : 1 ≤ k ∧ k ≤ 11 := by
  by_cases h1 : k < 1
  · exfalso
    rcases (show k < 0 ∨ k = 0 from by omega) with h2 | rfl
    · exact h (sz_zero (tab_neg h2))
    · exact h rfl
  · by_cases h2 : 12 ≤ k
    · exact absurd (sz_zero (tab_far h2)) h
    · omega
theorem sz_pos {k : Int} (h : sz k ≠ 0) : sz k = 1 + long (tab k) := by
  unfold sz at h ⊢
  split
  · rename_i h1; rw [if_pos h1] at h; exact absurd rfl h
  · rfl
theorem ob_first {o : Opt} (h : sz o.kind ≠ 0) : (((ob o).getD 0 0).toNat : Int) = o.kind := by
  have hr := sz_range h
  have e : (ob o).getD 0 0 = UInt8.ofNat (u64 o.kind) := by
    unfold ob
    rw [byte_one]
    rfl
  rw [e, UInt8.toNat_ofNat']
  have := u64_int o.kind
  omega
theorem ob_size {o : Opt} (h : sz o.kind ≠ 0) : (ob o).length = sz o.kind := by rw [ob_length, sz_pos h]
/-- parse, of an option's own bytes. -/
theorem parse_own (o : Opt) (h : sz o.kind ≠ 0) (A : Option Addr) (c : Nat) (w : World) (hr : RB w A (ob o).length c (ob o)) :
    Calls Tryd.prog 45 #[.slice A (ob o).length c] w (ParseMade w (prs (zK o.kind) (tab o.kind) ((ob o).drop 1))) := by
  have hk := ob_first h
  have hr' := sz_range h
  obtain ⟨k, e⟩ := Int.eq_ofNat_of_zero_le (show 0 ≤ o.kind by omega)
  rw [ob_size h] at hr ⊢
  rw [e] at hr hr' hk ⊢
  exact parse_any k (by omega) (by omega) A c (ob o) w hr (by omega)
theorem exec_eqO {W : World} {op : Oper} {a : Act} (x y : Operand) (t : TypeId) (ho : op.op = .binOp .eql 52 x y t) (p q : Opt) (hx : a.eval x = .agg p.vals.toArray) (hy : a.eval y = .agg q.vals.toArray) : (execOp a.eval op).run Tryd.prog W = .ok (.value (.bool (eqO p q))) W := by
  unfold execOp
  simp only [ho, hx, hy, Sem.run_bind, run_eqGuard_agg _ _ _ _ _ _ _ eqGuardOpt, Result.andThen_ok, run_eqlO, Sem.run_pure]

set_option maxRecDepth 8000 in
set_option maxHeartbeats 1600000 in
theorem rRight_any (o : Opt) (w : World) (hok : o.ok) : Calls Tryd.prog 24 #[.agg o.vals.toArray] w fun e w' => e = .returned (.bool (rrightB o)) ∧ Below w.heap.size w w' := by
  have HSZ := Lib.hid (Size_any o.kind)
  by_cases hs : sz o.kind = 0
  · have HR : Hid (rrightB o = false) := Lib.hid (by unfold rrightB; rw [if_pos (.inl hs)])
    rw [hs] at HSZ
    clear hs
    go_enter Tryd.func24, Tryd.ntmps24
    go_wp2_with (first
      | ((with_reducible refine wpList_here ?_); refine wpList_boxV (o := ⟨some 1, _, _, _, _, _⟩) rfl 52 (.tmp 0) rfl o.vals rfl _ rfl ?_; intro w1 z1 b1 s1; have k0 : w1.cell? ⟨w.heap.size, 0, none⟩ = some (.int .i64 o.kind) := (z1 0 (Nat.zero_lt_succ _)).1))
    refine (HSZ.out _).mono ?_
    rintro e w2 ⟨rfl, b2⟩
    have b3 := below_trans b1 b2
    clear z1 b1 b2 s1 k0
    go_wp2_with fail
    go_ret
    rw [HR.out]
    exact ⟨rfl, b3⟩
  · by_cases h9 : o.kind = 9 ∧ o.dsn < 0
    · have HR : Hid (rrightB o = false) := Lib.hid (by unfold rrightB; rw [if_pos (.inr h9)])
      have h91 : (o.kind == 9) = true := by simpa using h9.1
      have hd : decide (o.dsn < 0) = true := decide_eq_true h9.2
      have hs1 : ((sz o.kind : Int) == 0) = false := by rw [beq_eq_false_iff_ne]; omega
      generalize sz o.kind = s at *
      clear hs h9
      go_enter Tryd.func24, Tryd.ntmps24
      go_wp2_with (first
        | ((with_reducible refine wpList_here ?_); refine wpList_boxV (o := ⟨some 1, _, _, _, _, _⟩) rfl 52 (.tmp 0) rfl o.vals rfl _ rfl ?_; intro w1 z1 b1 s1; have k0 : w1.cell? ⟨w.heap.size, 0, none⟩ = some (.int .i64 o.kind) := (z1 0 (Nat.zero_lt_succ _)).1))
      refine (HSZ.out _).mono ?_
      rintro e w2 ⟨rfl, b2⟩
      have b3 := below_trans b1 b2
      have k0' := (b2.cell (World.block_lt_of_cell? _ _ k0)).trans k0
      have k11 : w2.cell? ⟨w.heap.size, 11, none⟩ = some (.int .i64 o.dsn) := ((z1.below b2) 11 (by rw [o.vals_length]; omega)).1
      clear z1 b1 b2 s1 k0
      go_wp2_with fail
      go_ret
      rw [HR.out]
      exact ⟨rfl, b3⟩
    · have HPA := Lib.hid (fun A c W h => parse_own o hs A c W h)
      have HP := Lib.hid (show prs (zK o.kind) (tab o.kind) ((ob o).drop 1) = prs (zK o.kind) (tab o.kind) ((ob o).drop 1) from rfl)
      have hs1 : ((sz o.kind : Int) == 0) = false := by rw [beq_eq_false_iff_ne]; omega
      by_cases hk : o.kind = 9
      · have HR : Hid (rrightB o = eqO (prs (zK o.kind) (tab o.kind) ((ob o).drop 1)) o) := Lib.hid (by
          unfold rrightB
          rw [if_neg (by omega), if_neg (by omega)])
        have h91 : (o.kind == 9) = true := by simpa using hk
        have hd : decide (o.dsn < 0) = false := decide_eq_false (by omega)
        generalize prs (zK o.kind) (tab o.kind) ((ob o).drop 1) = P at *
        generalize sz o.kind = s at *
        clear hs h9 hk
        go_enter Tryd.func24, Tryd.ntmps24
        go_wp2_with (first
          | ((with_reducible refine wpList_here ?_); refine wpList_boxV (o := ⟨some 1, _, _, _, _, _⟩) rfl 52 (.tmp 0) rfl o.vals rfl _ rfl ?_; intro w1 z1 b1 s1; have k0 : w1.cell? ⟨w.heap.size, 0, none⟩ = some (.int .i64 o.kind) := (z1 0 (Nat.zero_lt_succ _)).1))
        refine (HSZ.out _).mono ?_
        rintro e w2 ⟨rfl, b2⟩
        have b3 := below_trans b1 b2
        have k0' := (b2.cell (World.block_lt_of_cell? _ _ k0)).trans k0
        have z2 := z1.below b2
        have k11 : w2.cell? ⟨w.heap.size, 11, none⟩ = some (.int .i64 o.dsn) := (z2 11 (by rw [o.vals_length]; omega)).1
        clear z1 b1 b2 s1 k0
        go_wp2_with fail
        have s0 : Own w2.drew w.heap.size o.vals ∧ Below w.heap.size w w2.drew := ⟨z2.below (Below.refl _ _).drew, b3.drew⟩
        refine wp_region_noPanic ?_
        refine wp_region_held_drew (S := fun W => Own W w.heap.size o.vals ∧ Below w.heap.size w W) (by kernel_rfl) s0 (fun _ => ?_)
        refine held_take (i := 0) (v := .agg o.vals.toArray) (some 26) rfl rfl (by kernel_rfl) (by kernel_rfl) (by kernel_rfl) (fun _ _ _ h => h) (yieldsIf_load_mid (by rfl) 52 (.tmp 1) rfl w.heap.size 0 rfl o.vals _ (fun W hW => hW.1.range) Tryd.underlying52 rfl infoOpt) s0 ?_
        simp only [Act.put, List.setIfInBounds_toArray, List.set_cons_zero, List.set_cons_succ]
        refine held_take (i := 3) (v := .agg o.vals.toArray) (some 29) rfl rfl (by kernel_rfl) (by kernel_rfl) (by kernel_rfl) (fun _ _ _ h => h) (yieldsIf_load_mid (by rfl) 52 (.tmp 1) rfl w.heap.size 0 rfl o.vals _ (fun W hW => hW.1.range) Tryd.underlying52 rfl infoOpt) s0 ?_
        simp only [Act.put, List.setIfInBounds_toArray, List.set_cons_zero, List.set_cons_succ]
        refine wpAnyH_ready (rs := [1]) (by kernel_rfl) (by simp) ?_
        refine AllReadyH.cons rfl (fun K hK => ?_) AllReadyH.nil
        go_simp
        refine (rbytes_any o _ hok).mono ?_
        rintro e w5 ⟨A5, c5, rfl, r5, _, b5⟩
        have s5 : Own w5 w.heap.size o.vals ∧ Below w.heap.size w w5 := ⟨s0.1.below b5, below_trans s0.2 b5⟩
        dsimp only
        refine hK.out _ _ s5 (fun _ => ?_)
        clear hK
        refine wpAnyH_ready (rs := [2]) (by kernel_rfl) (by simp) ?_
        refine AllReadyH.cons rfl (fun K hK => ?_) AllReadyH.nil
        go_simp
        refine (HPA.out A5 c5 _ r5).mono ?_
        rintro e w6 ⟨rfl, b6⟩
        have s6 : Own w6 w.heap.size o.vals ∧ Below w.heap.size w w6 := ⟨s5.1.below b6, below_trans s5.2 b6⟩
        dsimp only
        refine hK.out _ _ s6 (fun _ => ?_)
        clear hK
        refine held_take (i := 4) (v := .bool (eqO P o)) (some 30) rfl rfl (by kernel_rfl) (by kernel_rfl) (by kernel_rfl) (fun _ _ _ h => h) (Or.inl ⟨by rfl, fun W _ => exec_eqO (.tmp 28) (.tmp 29) _ rfl P o rfl rfl⟩) s6 ?_
        simp only [Act.put, List.setIfInBounds_toArray, List.set_cons_zero, List.set_cons_succ]
        refine held_take (i := 5) (v := .bool (eqO P o)) (some 2) rfl rfl (by kernel_rfl) (by kernel_rfl) (by kernel_rfl) (fun _ _ _ h => h) (Or.inl ⟨by rfl, fun W _ => by go_simp⟩) s6 ?_
        simp only [Act.put, List.setIfInBounds_toArray, List.set_cons_zero, List.set_cons_succ]
        refine wpAnyH_done (by kernel_rfl) ?_ _
        refine NoPanic.normal ?_
        go_wp2_with fail
        go_ret
        rw [HR.out]
        exact ⟨rfl, s6.2⟩
      · have h91 : (o.kind == 9) = false := by rw [beq_eq_false_iff_ne]; exact hk
        have HMA := Lib.hid (may_any o)
        cases hm : mayB o with
        | false =>
          have HR : Hid (rrightB o = false) := Lib.hid (by
            unfold rrightB
            rw [if_neg (by omega), if_pos ⟨hk, hm⟩])
          rw [hm] at HMA
          clear hm
          generalize sz o.kind = s at *
          clear hs h9 hk HPA HP
          go_enter Tryd.func24, Tryd.ntmps24
          go_wp2_with (first
            | ((with_reducible refine wpList_here ?_); refine wpList_boxV (o := ⟨some 1, _, _, _, _, _⟩) rfl 52 (.tmp 0) rfl o.vals rfl _ rfl ?_; intro w1 z1 b1 s1; have k0 : w1.cell? ⟨w.heap.size, 0, none⟩ = some (.int .i64 o.kind) := (z1 0 (Nat.zero_lt_succ _)).1))
          refine (HSZ.out _).mono ?_
          rintro e w2 ⟨rfl, b2⟩
          have b3 := below_trans b1 b2
          have k0' := (b2.cell (World.block_lt_of_cell? _ _ k0)).trans k0
          have z2 := z1.below b2
          have k11 : w2.cell? ⟨w.heap.size, 11, none⟩ = some (.int .i64 o.dsn) := (z2 11 (by rw [o.vals_length]; omega)).1
          clear z1 b1 b2 s1 k0
          go_wp2_with (first
            | ((with_reducible refine wpList_here ?_); refine wpList_loadV (o := ⟨some 22, _, _, _, _, _⟩) rfl 52 (.tmp 1) rfl _ _ o.vals rfl z2.range _ Tryd.underlying52 rfl infoOpt ?_))
          refine (HMA.out _).mono ?_
          rintro e w4 ⟨rfl, b4⟩
          have b5 := below_trans b3 b4
          go_wp2_with fail
          go_ret
          rw [HR.out]
          exact ⟨rfl, b5⟩
        | true =>
          have HR : Hid (rrightB o = eqO (prs (zK o.kind) (tab o.kind) ((ob o).drop 1)) o) := Lib.hid (by
            unfold rrightB
            rw [if_neg (by omega), if_neg (by rw [hm]; simp)])
          rw [hm] at HMA
          clear hm
          generalize prs (zK o.kind) (tab o.kind) ((ob o).drop 1) = P at *
          generalize sz o.kind = s at *
          clear hs h9 hk
          go_enter Tryd.func24, Tryd.ntmps24
          go_wp2_with (first
            | ((with_reducible refine wpList_here ?_); refine wpList_boxV (o := ⟨some 1, _, _, _, _, _⟩) rfl 52 (.tmp 0) rfl o.vals rfl _ rfl ?_; intro w1 z1 b1 s1; have k0 : w1.cell? ⟨w.heap.size, 0, none⟩ = some (.int .i64 o.kind) := (z1 0 (Nat.zero_lt_succ _)).1))
          refine (HSZ.out _).mono ?_
          rintro e w2 ⟨rfl, b2⟩
          have b3 := below_trans b1 b2
          have k0' := (b2.cell (World.block_lt_of_cell? _ _ k0)).trans k0
          have z2 := z1.below b2
          have k11 : w2.cell? ⟨w.heap.size, 11, none⟩ = some (.int .i64 o.dsn) := (z2 11 (by rw [o.vals_length]; omega)).1
          clear z1 b1 b2 s1 k0
          go_wp2_with (first
            | ((with_reducible refine wpList_here ?_); refine wpList_loadV (o := ⟨some 22, _, _, _, _, _⟩) rfl 52 (.tmp 1) rfl _ _ o.vals rfl z2.range _ Tryd.underlying52 rfl infoOpt ?_))
          refine (HMA.out _).mono ?_
          rintro e w4 ⟨rfl, b4⟩
          have z4 := z2.below b4
          have b5' := below_trans b3 b4
          clear z2 k0' k11 b4 b3
          go_wp2_with fail
          have s0 : Own w4.drew w.heap.size o.vals ∧ Below w.heap.size w w4.drew := ⟨z4.below (Below.refl _ _).drew, b5'.drew⟩
          refine wp_region_noPanic ?_
          refine wp_region_held_drew (S := fun W => Own W w.heap.size o.vals ∧ Below w.heap.size w W) (by kernel_rfl) s0 (fun _ => ?_)
          refine held_take (i := 0) (v := .agg o.vals.toArray) (some 26) rfl rfl (by kernel_rfl) (by kernel_rfl) (by kernel_rfl) (fun _ _ _ h => h) (yieldsIf_load_mid (by rfl) 52 (.tmp 1) rfl w.heap.size 0 rfl o.vals _ (fun W hW => hW.1.range) Tryd.underlying52 rfl infoOpt) s0 ?_
          simp only [Act.put, List.setIfInBounds_toArray, List.set_cons_zero, List.set_cons_succ]
          refine held_take (i := 3) (v := .agg o.vals.toArray) (some 29) rfl rfl (by kernel_rfl) (by kernel_rfl) (by kernel_rfl) (fun _ _ _ h => h) (yieldsIf_load_mid (by rfl) 52 (.tmp 1) rfl w.heap.size 0 rfl o.vals _ (fun W hW => hW.1.range) Tryd.underlying52 rfl infoOpt) s0 ?_
          simp only [Act.put, List.setIfInBounds_toArray, List.set_cons_zero, List.set_cons_succ]
          refine wpAnyH_ready (rs := [1]) (by kernel_rfl) (by simp) ?_
          refine AllReadyH.cons rfl (fun K hK => ?_) AllReadyH.nil
          go_simp
          refine (rbytes_any o _ hok).mono ?_
          rintro e w5 ⟨A5, c5, rfl, r5, _, b5⟩
          have s5 : Own w5 w.heap.size o.vals ∧ Below w.heap.size w w5 := ⟨s0.1.below b5, below_trans s0.2 b5⟩
          dsimp only
          refine hK.out _ _ s5 (fun _ => ?_)
          clear hK
          refine wpAnyH_ready (rs := [2]) (by kernel_rfl) (by simp) ?_
          refine AllReadyH.cons rfl (fun K hK => ?_) AllReadyH.nil
          go_simp
          refine (HPA.out A5 c5 _ r5).mono ?_
          rintro e w6 ⟨rfl, b6⟩
          have s6 : Own w6 w.heap.size o.vals ∧ Below w.heap.size w w6 := ⟨s5.1.below b6, below_trans s5.2 b6⟩
          dsimp only
          refine hK.out _ _ s6 (fun _ => ?_)
          clear hK
          refine held_take (i := 4) (v := .bool (eqO P o)) (some 30) rfl rfl (by kernel_rfl) (by kernel_rfl) (by kernel_rfl) (fun _ _ _ h => h) (Or.inl ⟨by rfl, fun W _ => exec_eqO (.tmp 28) (.tmp 29) _ rfl P o rfl rfl⟩) s6 ?_
          simp only [Act.put, List.setIfInBounds_toArray, List.set_cons_zero, List.set_cons_succ]
          refine held_take (i := 5) (v := .bool (eqO P o)) (some 2) rfl rfl (by kernel_rfl) (by kernel_rfl) (by kernel_rfl) (fun _ _ _ h => h) (Or.inl ⟨by rfl, fun W _ => by go_simp⟩) s6 ?_
          simp only [Act.put, List.setIfInBounds_toArray, List.set_cons_zero, List.set_cons_succ]
          refine wpAnyH_done (by kernel_rfl) ?_ _
          refine NoPanic.normal ?_
          go_wp2_with fail
          go_ret
          rw [HR.out]
          exact ⟨rfl, s6.2⟩
end Go.Proofs.YtbbpemndkphgeaaDoor

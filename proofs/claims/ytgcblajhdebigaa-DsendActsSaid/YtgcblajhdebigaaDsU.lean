/- The document's Ack. Conditions: its sender stands; at most 10^9 data in all. -/
import Derived.Test.YtgcblajhdebigaaDsT
namespace Go.Proofs.Ytgcblajhdebigaa
set_option linter.unusedVariables false
set_option linter.unusedSimpArgs false
open Go.RowKit Go.Lib

section
variable {base : Nat} {w w' : World} {xb : Nat} {y : Ry} {d d' : Dq}
def RAckP (base : Nat) (w : World) (xb : Nat) (y : Ry) (d : Dq) (a win : Int) (e : Ending) (w' : World) : Prop := e = .returned (.agg #[.int .i64 (d.gone a win : Int), .bool (d.may a win)]) ∧ LeftR base w xb y (d.acks a win) w' y
theorem szAcked : (Try.prog.info? 51).map (·.size) = some 2 := by kernel_rfl
theorem store2t {w : World} {g : Nat} {u0 u1 : Value} {t : TypeId} (h : w.heap[g]? = some (.cells #[u0, u1] t (0, 0))) (x y : Value) : ((w.setCell ⟨g, 0, none⟩ x).setCell ⟨g, 1, none⟩ y).rangeAt g 0 [x, y] ∧ Ch w ((w.setCell ⟨g, 0, none⟩ x).setCell ⟨g, 1, none⟩ y) (fun k => k = g) := store2 h x y
theorem rack_no (H : Rf base w xb y d) {a win : Int} (h : d.may a win = false) {w' : World} (b : Below w.heap.size w w') : RAckP base w xb y d a win (.returned (.agg #[.int .i64 0, .bool false])) w' := by
  refine ⟨by unfold Dq.gone; rw [h]; rfl, ?_⟩
  unfold Dq.acks
  rw [h]
  exact LeftR.of_below H b
/-- The edge. -/
theorem rack_1y (H : Rf base w xb y d) {a win : Nat} (h : d.edge < a + win) : LeftR base w xb y { d with edge := max d.edge (a + win) } (w.setCell ⟨xb, 4, none⟩ (.int .i64 ((a : Int) + (win : Int)))) y := by
  refine H.setc 4 _ ?_ rfl H.rel
  show #[y.av, y.lv, _, _, .int .i64 ((max d.edge (a + win) : Nat) : Int), _, _] = _
  rw [show ((max d.edge (a + win) : Nat) : Int) = (a : Int) + (win : Int) from by omega]
  rfl
theorem rack_1n (H : Rf base w xb y d) {a win : Nat} (h : ¬ d.edge < a + win) : LeftR base w xb y { d with edge := max d.edge (a + win) } w y := by
  rw [show max d.edge (a + win) = d.edge from by omega]
  exact LeftR.refl H
/-- The end's mark. -/
theorem rack_2y (H : Rf base w xb y d) {a : Nat} (h : d.fin < a) : LeftR base w xb y { d with done := d.done || decide (d.fin < a) } (w.setCell ⟨xb, 6, none⟩ (.bool true)) y := by
  refine H.setc 6 _ ?_ rfl H.rel
  show #[y.av, y.lv, _, _, _, _, .bool (d.done || decide (d.fin < a))] = _
  rw [decide_eq_true h, Bool.or_true]
  rfl
theorem rack_2n (H : Rf base w xb y d) {a : Nat} (h : ¬ d.fin < a) : LeftR base w xb y { d with done := d.done || decide (d.fin < a) } w y := by
  rw [decide_eq_false h, Bool.or_false]
  exact LeftR.refl H
/-- The first number that isn't acknowledged. -/
theorem rack_3 {a win : Nat} (H : Rf base w xb y { d with edge := max d.edge (a + win), done := d.done || decide (d.fin < a) }) (hu : d.una ≤ min a d.fin) : LeftR base w xb y (d.ack a win) (w.setCell ⟨xb, 2, none⟩ (.int .i64 ((min a d.fin : Nat) : Int))) y := by
  refine H.setc 2 _ rfl rfl (fun k k1 k2 => ?_)
  have k1' : min a d.fin ≤ k := k1
  show _ = (d.L k && decide (min a d.fin ≤ k))
  rw [decide_eq_true k1', Bool.and_true]
  exact H.rel k (show d.una ≤ k by omega) k2
theorem LeftR.res {y' : Ry} {w7 : World} {r : Nat} (h : LeftR base w xb y d' w' y') (c : Ch w' w7 (fun k => k = r)) (hr : w.heap.size ≤ r) (hnt : ¬ y'.T xb r) : LeftR base w xb y d' w7 y' :=
  ⟨h.s.frame c (fun k hk e => hnt (e ▸ hk)), h.ch.trans c (fun _ _ x => x) (fun x hx e => absurd hr (by omega)), h.new⟩

set_option maxRecDepth 20000 in
set_option maxHeartbeats 6400000 in
theorem rack_any (H : Rf base w xb y d) (hok : d.ok) (hc : d.fin ≤ 1000000000) (hedge : d.edge ≤ 2147483648) {a win : Int} (ha : -1099511627776 ≤ a ∧ a ≤ 1099511627776) (hwi : -1099511627776 ≤ win ∧ win ≤ 1099511627776) : Calls Try.prog 20 #[ptr xb, .int .i64 a, .int .i64 win] w (RAckP base w xb y d a win) := by
  have hb1 := below_a w (.cells #[.int .i64 0, .bool false] 51)
  have hr1 : ∀ q, ((w.alloc (.cells #[.int .i64 0, .bool false] 51)).drewN q).heap[w.heap.size]? = some (.cells #[.int .i64 0, .bool false] 51 (0, 0)) := fun q => heap_alloc_new w _
  have HR1 := Lib.hid hr1
  have HB1 : Hid (∀ q, Below w.heap.size w ((w.alloc (.cells #[.int .i64 0, .bool false] 51)).drewN q)) := Lib.hid (fun q => below_dn hb1 q)
  have H1 := H.below hb1
  have HH := Lib.hid H
  have HLA := Lib.hid (fun q => last_any (H1.below (below_dn (Below.refl _ _) q)) (by omega))
  have HOK := Lib.hid hok
  have d3 := H1.cell 3
  have d5 := H1.cell 5
  unfold rcells at d3 d5
  have hmy := may_eq (d := d) (a := a) (win := win)
  have hmi := Dq.may_iff (d := d) (a := a) (win := win)
  have hun := hok.un
  have hne := hok.ne
  have hng := hok.ng
  have HNO := Lib.hid (fun (w' : World) (h : d.may a win = false) (b : Below w.heap.size w w') => rack_no H h b)
  clear hmy hr1 hb1 H1 H hok
  unfold ptr at *
  cases ht : d.told with
  | false =>
    rw [ht] at d5
    obtain ⟨mo, hmo⟩ : ∃ mo : Nat, mo = d.next := ⟨_, rfl⟩
    have hmm : d.may a win = true ↔ ((d.una : Int) ≤ a ∧ a ≤ (mo : Int)) ∧ 0 ≤ win ∧ win ≤ 65535 := by
      rw [hmi, hmo, ht]
      simp
    have hd3 : (w.alloc (.cells #[.int .i64 0, .bool false] 51)).cell? ⟨xb, 3, none⟩ = some (.int .i64 (mo : Int)) := by rw [hmo]; exact d3
    have hmf : (mo : Int) ≤ d.fin := by omega
    clear hmi d3 ht hmo
    go_enter Try.func20, Try.ntmps20
    go_wp2_with fail
    go_quiet (fail)
    go_upto_region 4 with (fail)
    have HB2 := Lib.hid (HB1.out nq)
    have hx2 := HR1.out nq
    generalize hw2 : (w.alloc (.cells #[.int .i64 0, .bool false] 51)).drewN nq = w2 at *
    clear hw2
    have HS2 := Lib.hid (HH.out.below HB2.out)
    have e2 : w2.cell? ⟨xb, 2, none⟩ = some (.int .i64 (d.una : Int)) := HS2.out.cell 2
    have e4 : w2.cell? ⟨xb, 4, none⟩ = some (.int .i64 (d.edge : Int)) := HS2.out.cell 4
    have ef : ∀ j, w2.frozen? ⟨xb, j, none⟩ = false := fun j => HS2.out.fz j
    have rf := frozen_of hx2
    have r0 : w2.cell? ⟨w.heap.size, 0, none⟩ = some (.int .i64 0) := (cell_of_row _ _ 0 _ _ (0, 0) hx2)
    have r1 : w2.cell? ⟨w.heap.size, 1, none⟩ = some (.bool false) := (cell_of_row _ _ 1 _ _ (0, 0) hx2)
    have HNT : Hid (¬ y.T xb w.heap.size) := Lib.hid (fun e => by have := (HH.out.in_ e).2; omega)
    by_cases k1 : d.may a win = true
    · have hma := hmm.1 k1
      have HX2 := Lib.hid hx2
      obtain ⟨aN, rfl⟩ := Int.eq_ofNat_of_zero_le (show 0 ≤ a by omega)
      obtain ⟨wN, rfl⟩ := Int.eq_ofNat_of_zero_le hma.2.1
      have q1 : ¬ ((aN : Int) < (d.una : Int)) := by omega
      have q2 : ¬ ((mo : Int) < (aN : Int)) := by omega
      have q3 : ¬ ((wN : Int) < 0) := by omega
      have q4 : ¬ ((65535 : Int) < (wN : Int)) := by omega
      have hwe : IntKind.i64.wrap ((aN : Int) + (wN : Int)) = (aN : Int) + (wN : Int) := by rw [IntKind.wrap_i64]; omega
      have HFI : Hid (∀ w7 gn, gn = min aN d.fin - d.una → LeftR base w xb y (d.ack aN wN) w7 y → RAckP base w xb y d (aN : Int) (wN : Int) (.returned (.agg #[.int .i64 (gn : Int), .bool true])) w7) := Lib.hid (fun w7 gn hg hl => by
        refine ⟨?_, ?_⟩
        · unfold Dq.gone
          rw [if_pos k1, k1, hg]
          rfl
        · unfold Dq.acks
          rw [if_pos k1]
          exact hl)
      have HUB : Hid (d.una ≤ aN ∧ aN ≤ d.fin + 1 ∧ d.una ≤ d.fin ∧ d.fin ≤ 1000000000) := Lib.hid (by omega)
      have hub := HUB.out
      clear hmm hma k1 hx2 hd3 d5 HLA HB1 HR1 HNO
      by_cases hed : d.edge < aN + wN
      · have hed1 : (d.edge : Int) < (aN : Int) + (wN : Int) := by omega
        have HL4 := Lib.hid (rack_1y HS2.out hed)
        clear hed
        go_upto_region 8 with (fail)
        generalize w2.setCell ⟨xb, 4, none⟩ (.int .i64 ((aN : Int) + (wN : Int))) = w4 at *
        clear r0 r1 rf e2 e4 ef
        have HLA4 := Lib.hid (last_any HL4.out.s (show d.fin ≤ 1073741824 by omega))
        have e42 : w4.cell? ⟨xb, 2, none⟩ = some (.int .i64 (d.una : Int)) := HL4.out.s.cell 2
        have e46 : w4.cell? ⟨xb, 6, none⟩ = some (.bool d.done) := HL4.out.s.cell 6
        have ef4 : ∀ j, w4.frozen? ⟨xb, j, none⟩ = false := fun j => HL4.out.s.fz j
        have hf4 : ({ d with edge := max d.edge (aN + wN) } : Dq).fin = d.fin := rfl
        rw [hf4] at HLA4
        unfold ptr at HLA4
        clear hf4
        go_wp2_with fail
        refine (HLA4.out).mono ?_
        rintro e w4 ⟨rfl, rfl⟩
        by_cases hfa : d.fin < aN
        · exact absurd hfa (by omega)
        · have hfa1 : ¬ ((d.fin : Int) < (aN : Int)) := by omega
          have HL56 := Lib.hid (HL4.out.then_ (rack_2n HL4.out.s (a := aN) hfa))
          have hwg : IntKind.i64.wrap ((aN : Int) - (d.una : Int)) = ((aN - d.una : Nat) : Int) := by rw [IntKind.wrap_i64]; omega
          have HMN : Hid (min aN d.fin = aN) := Lib.hid (by omega)
          have HL6 : Hid (LeftR base w4 xb y (d.ack aN wN) (w4.setCell ⟨xb, 2, none⟩ (.int .i64 (aN : Int))) y) := by
            have h := rack_3 (d := d) (a := aN) (win := wN) HL56.out.s (by omega)
            rw [HMN.out] at h
            exact Lib.hid h
          have HGN : Hid (aN - d.una = min aN d.fin - d.una) := Lib.hid (by rw [HMN.out])
          clear HLA4
          go_upto_region 13 with (fail)
          generalize w4.setCell ⟨xb, 2, none⟩ (.int .i64 (aN : Int)) = w6 at *
          have HL := Lib.hid ((HL56.out.then_ HL6.out).ahead HB2.out)
          have hx6 : w6.heap[w.heap.size]? = some (.cells #[.int .i64 0, .bool false] 51 (0, 0)) := ((HL56.out.then_ HL6.out).ch.block _ (Array.getElem?_eq_some_iff.1 HX2.out).1 HNT.out).trans HX2.out
          have rf6 := frozen_of hx6
          have r60 : w6.cell? ⟨w.heap.size, 0, none⟩ = some (.int .i64 0) := (cell_of_row _ _ 0 _ _ (0, 0) hx6)
          have r61 : w6.cell? ⟨w.heap.size, 1, none⟩ = some (.bool false) := (cell_of_row _ _ 1 _ _ (0, 0) hx6)
          obtain ⟨gn, hgn⟩ : ∃ gn, gn = aN - d.una := ⟨_, rfl⟩
          rw [← hgn] at hwg HGN
          rw [← hgn]
          have HST := Lib.hid (store2t hx6 (.int .i64 (gn : Int)) (.bool true))
          clear hgn hx6
          go_wp2_with fail
          exact bodyPost_ret (results_c0 rfl _ _ w.heap.size _ _ rfl HST.out.1 Try.underlying51 rfl szAcked) rfl (HFI.out _ gn HGN.out (HL.out.res HST.out.2 (Nat.le_refl _) HNT.out))
      · have hed1 : ¬ ((d.edge : Int) < (aN : Int) + (wN : Int)) := by omega
        have HL4 := Lib.hid (rack_1n HS2.out hed)
        clear hed
        go_upto_region 8 with (fail)
        clear r0 r1 rf e2 e4 ef
        have HLA4 := Lib.hid (last_any HL4.out.s (show d.fin ≤ 1073741824 by omega))
        have e42 : w2.cell? ⟨xb, 2, none⟩ = some (.int .i64 (d.una : Int)) := HL4.out.s.cell 2
        have e46 : w2.cell? ⟨xb, 6, none⟩ = some (.bool d.done) := HL4.out.s.cell 6
        have ef4 : ∀ j, w2.frozen? ⟨xb, j, none⟩ = false := fun j => HL4.out.s.fz j
        have hf4 : ({ d with edge := max d.edge (aN + wN) } : Dq).fin = d.fin := rfl
        rw [hf4] at HLA4
        unfold ptr at HLA4
        clear hf4
        go_wp2_with fail
        refine (HLA4.out).mono ?_
        rintro e w2 ⟨rfl, rfl⟩
        by_cases hfa : d.fin < aN
        · exact absurd hfa (by omega)
        · have hfa1 : ¬ ((d.fin : Int) < (aN : Int)) := by omega
          have HL56 := Lib.hid (HL4.out.then_ (rack_2n HL4.out.s (a := aN) hfa))
          have hwg : IntKind.i64.wrap ((aN : Int) - (d.una : Int)) = ((aN - d.una : Nat) : Int) := by rw [IntKind.wrap_i64]; omega
          have HMN : Hid (min aN d.fin = aN) := Lib.hid (by omega)
          have HL6 : Hid (LeftR base w2 xb y (d.ack aN wN) (w2.setCell ⟨xb, 2, none⟩ (.int .i64 (aN : Int))) y) := by
            have h := rack_3 (d := d) (a := aN) (win := wN) HL56.out.s (by omega)
            rw [HMN.out] at h
            exact Lib.hid h
          have HGN : Hid (aN - d.una = min aN d.fin - d.una) := Lib.hid (by rw [HMN.out])
          clear HLA4
          go_upto_region 13 with (fail)
          generalize w2.setCell ⟨xb, 2, none⟩ (.int .i64 (aN : Int)) = w6 at *
          have HL := Lib.hid ((HL56.out.then_ HL6.out).ahead HB2.out)
          have hx6 : w6.heap[w.heap.size]? = some (.cells #[.int .i64 0, .bool false] 51 (0, 0)) := ((HL56.out.then_ HL6.out).ch.block _ (Array.getElem?_eq_some_iff.1 HX2.out).1 HNT.out).trans HX2.out
          have rf6 := frozen_of hx6
          have r60 : w6.cell? ⟨w.heap.size, 0, none⟩ = some (.int .i64 0) := (cell_of_row _ _ 0 _ _ (0, 0) hx6)
          have r61 : w6.cell? ⟨w.heap.size, 1, none⟩ = some (.bool false) := (cell_of_row _ _ 1 _ _ (0, 0) hx6)
          obtain ⟨gn, hgn⟩ : ∃ gn, gn = aN - d.una := ⟨_, rfl⟩
          rw [← hgn] at hwg HGN
          rw [← hgn]
          have HST := Lib.hid (store2t hx6 (.int .i64 (gn : Int)) (.bool true))
          clear hgn hx6
          go_wp2_with fail
          exact bodyPost_ret (results_c0 rfl _ _ w.heap.size _ _ rfl HST.out.1 Try.underlying51 rfl szAcked) rfl (HFI.out _ gn HGN.out (HL.out.res HST.out.2 (Nat.le_refl _) HNT.out))
    · have HF := Lib.hid (fun (w9 : World) => HNO.out w9 (by cases h : d.may a win; rfl; exact absurd h k1))
      have hmn : ¬ (((d.una : Int) ≤ a ∧ a ≤ (mo : Int)) ∧ 0 ≤ win ∧ win ≤ 65535) := fun h => k1 (hmm.2 h)
      have hst := store2t hx2 (.int .i64 0) (.bool false)
      have HST := Lib.hid (And.intro hst.1 (((Ch.of_below (fun k => k = w.heap.size) HB2.out).then_ hst.2).below (fun x hx e => by omega)))
      clear hmm k1 hst hx2 hd3 d5 HLA HB1 HR1
      by_cases q1 : a < (d.una : Int)
      · clear hmn
        go_wp2_with fail
        exact bodyPost_ret (results_c0 rfl _ _ w.heap.size _ _ rfl HST.out.1 Try.underlying51 rfl szAcked) rfl (HF.out _ HST.out.2)
      · by_cases q2 : (mo : Int) < a
        · clear hmn
          go_wp2_with fail
          exact bodyPost_ret (results_c0 rfl _ _ w.heap.size _ _ rfl HST.out.1 Try.underlying51 rfl szAcked) rfl (HF.out _ HST.out.2)
        · by_cases q3 : win < 0
          · clear hmn
            go_wp2_with fail
            exact bodyPost_ret (results_c0 rfl _ _ w.heap.size _ _ rfl HST.out.1 Try.underlying51 rfl szAcked) rfl (HF.out _ HST.out.2)
          · have q4 : (65535 : Int) < win := by omega
            clear hmn
            go_wp2_with fail
            exact bodyPost_ret (results_c0 rfl _ _ w.heap.size _ _ rfl HST.out.1 Try.underlying51 rfl szAcked) rfl (HF.out _ HST.out.2)
  | true =>
    rw [ht] at d5
    by_cases hf : d.next = d.fin
    · obtain ⟨mo, hmo⟩ : ∃ mo : Nat, mo = d.next + 1 := ⟨_, rfl⟩
      have hmm : d.may a win = true ↔ ((d.una : Int) ≤ a ∧ a ≤ (mo : Int)) ∧ 0 ≤ win ∧ win ≤ 65535 := by
        rw [hmi, hmo, ht]
        simp only [hf, true_and]
        omega
      have hd3 : (w.alloc (.cells #[.int .i64 0, .bool false] 51)).cell? ⟨xb, 3, none⟩ = some (.int .i64 (d.fin : Int)) := by rw [← hf]; exact d3
      have hwm : IntKind.i64.wrap ((d.fin : Int) + 1) = (mo : Int) := by rw [IntKind.wrap_i64]; omega
      have hmf : (mo : Int) ≤ d.fin + 1 := by omega
      clear hmi d3 ht hmo
      go_enter Try.func20, Try.ntmps20
      go_wp2_with fail
      go_quiet (first | (go_at_call 30; exact Calls.quiet_of_same (HLA.out _)))
      go_upto_region 4 with (fail)
      have HB2 := Lib.hid (HB1.out nq)
      have hx2 := HR1.out nq
      generalize hw2 : (w.alloc (.cells #[.int .i64 0, .bool false] 51)).drewN nq = w2 at *
      clear hw2
      have HS2 := Lib.hid (HH.out.below HB2.out)
      have e2 : w2.cell? ⟨xb, 2, none⟩ = some (.int .i64 (d.una : Int)) := HS2.out.cell 2
      have e4 : w2.cell? ⟨xb, 4, none⟩ = some (.int .i64 (d.edge : Int)) := HS2.out.cell 4
      have ef : ∀ j, w2.frozen? ⟨xb, j, none⟩ = false := fun j => HS2.out.fz j
      have rf := frozen_of hx2
      have r0 : w2.cell? ⟨w.heap.size, 0, none⟩ = some (.int .i64 0) := (cell_of_row _ _ 0 _ _ (0, 0) hx2)
      have r1 : w2.cell? ⟨w.heap.size, 1, none⟩ = some (.bool false) := (cell_of_row _ _ 1 _ _ (0, 0) hx2)
      have HNT : Hid (¬ y.T xb w.heap.size) := Lib.hid (fun e => by have := (HH.out.in_ e).2; omega)
      by_cases k1 : d.may a win = true
      · have hma := hmm.1 k1
        have HX2 := Lib.hid hx2
        obtain ⟨aN, rfl⟩ := Int.eq_ofNat_of_zero_le (show 0 ≤ a by omega)
        obtain ⟨wN, rfl⟩ := Int.eq_ofNat_of_zero_le hma.2.1
        have q1 : ¬ ((aN : Int) < (d.una : Int)) := by omega
        have q2 : ¬ ((mo : Int) < (aN : Int)) := by omega
        have q3 : ¬ ((wN : Int) < 0) := by omega
        have q4 : ¬ ((65535 : Int) < (wN : Int)) := by omega
        have hwe : IntKind.i64.wrap ((aN : Int) + (wN : Int)) = (aN : Int) + (wN : Int) := by rw [IntKind.wrap_i64]; omega
        have HFI : Hid (∀ w7 gn, gn = min aN d.fin - d.una → LeftR base w xb y (d.ack aN wN) w7 y → RAckP base w xb y d (aN : Int) (wN : Int) (.returned (.agg #[.int .i64 (gn : Int), .bool true])) w7) := Lib.hid (fun w7 gn hg hl => by
          refine ⟨?_, ?_⟩
          · unfold Dq.gone
            rw [if_pos k1, k1, hg]
            rfl
          · unfold Dq.acks
            rw [if_pos k1]
            exact hl)
        have HUB : Hid (d.una ≤ aN ∧ aN ≤ d.fin + 1 ∧ d.una ≤ d.fin ∧ d.fin ≤ 1000000000) := Lib.hid (by omega)
        have hub := HUB.out
        clear hmm hma k1 hx2 hd3 d5 HLA HB1 HR1 HNO
        by_cases hed : d.edge < aN + wN
        · have hed1 : (d.edge : Int) < (aN : Int) + (wN : Int) := by omega
          have HL4 := Lib.hid (rack_1y HS2.out hed)
          clear hed
          go_upto_region 8 with (fail)
          generalize w2.setCell ⟨xb, 4, none⟩ (.int .i64 ((aN : Int) + (wN : Int))) = w4 at *
          clear r0 r1 rf e2 e4 ef
          have HLA4 := Lib.hid (last_any HL4.out.s (show d.fin ≤ 1073741824 by omega))
          have e42 : w4.cell? ⟨xb, 2, none⟩ = some (.int .i64 (d.una : Int)) := HL4.out.s.cell 2
          have e46 : w4.cell? ⟨xb, 6, none⟩ = some (.bool d.done) := HL4.out.s.cell 6
          have ef4 : ∀ j, w4.frozen? ⟨xb, j, none⟩ = false := fun j => HL4.out.s.fz j
          have hf4 : ({ d with edge := max d.edge (aN + wN) } : Dq).fin = d.fin := rfl
          rw [hf4] at HLA4
          unfold ptr at HLA4
          clear hf4
          go_wp2_with fail
          refine (HLA4.out).mono ?_
          rintro e w4 ⟨rfl, rfl⟩
          by_cases hfa : d.fin < aN
          · have hfa1 : (d.fin : Int) < (aN : Int) := by omega
            have HL5 := Lib.hid (rack_2y HL4.out.s (a := aN) hfa)
            have hmn : min aN d.fin = d.fin := by omega
            have HMN := Lib.hid hmn
            clear hfa
            go_upto_region 10 with (fail)
            generalize w4.setCell ⟨xb, 6, none⟩ (.bool true) = w5 at *
            have HLA5 : Hid (Calls Try.prog 30 #[.pointer (some ⟨xb, 0, none⟩)] w5 fun e w' => e = .returned (.int .i64 (d.fin : Int)) ∧ w' = w5) := Lib.hid (by have h := last_any HL5.out.s (show d.fin ≤ 1073741824 by omega); exact h)
            have e52 : w5.cell? ⟨xb, 2, none⟩ = some (.int .i64 (d.una : Int)) := HL5.out.s.cell 2
            have ef5 : ∀ j, w5.frozen? ⟨xb, j, none⟩ = false := fun j => HL5.out.s.fz j
            have hwg : IntKind.i64.wrap ((d.fin : Int) - (d.una : Int)) = ((d.fin - d.una : Nat) : Int) := by rw [IntKind.wrap_i64]; omega
            have HL6 : Hid (LeftR base w5 xb y (d.ack aN wN) (w5.setCell ⟨xb, 2, none⟩ (.int .i64 (d.fin : Int))) y) := by
              have h := rack_3 (d := d) (a := aN) (win := wN) HL5.out.s (by omega)
              rw [HMN.out] at h
              exact Lib.hid h
            have HGN : Hid (d.fin - d.una = min aN d.fin - d.una) := Lib.hid (by rw [HMN.out])
            have HL56 := Lib.hid (HL4.out.then_ HL5.out)
            clear e42 e46 ef4 HLA4 hmn
            go_wp2_with fail
            refine (HLA5.out).mono ?_
            rintro e w5 ⟨rfl, rfl⟩
            go_upto_region 13 with (fail)
            generalize w5.setCell ⟨xb, 2, none⟩ (.int .i64 (d.fin : Int)) = w6 at *
            have HL := Lib.hid ((HL56.out.then_ HL6.out).ahead HB2.out)
            have hx6 : w6.heap[w.heap.size]? = some (.cells #[.int .i64 0, .bool false] 51 (0, 0)) := ((HL56.out.then_ HL6.out).ch.block _ (Array.getElem?_eq_some_iff.1 HX2.out).1 HNT.out).trans HX2.out
            have rf6 := frozen_of hx6
            have r60 : w6.cell? ⟨w.heap.size, 0, none⟩ = some (.int .i64 0) := (cell_of_row _ _ 0 _ _ (0, 0) hx6)
            have r61 : w6.cell? ⟨w.heap.size, 1, none⟩ = some (.bool false) := (cell_of_row _ _ 1 _ _ (0, 0) hx6)
            obtain ⟨gn, hgn⟩ : ∃ gn, gn = d.fin - d.una := ⟨_, rfl⟩
            rw [← hgn] at hwg HGN
            rw [← hgn]
            have HST := Lib.hid (store2t hx6 (.int .i64 (gn : Int)) (.bool true))
            clear hgn hx6
            go_wp2_with fail
            exact bodyPost_ret (results_c0 rfl _ _ w.heap.size _ _ rfl HST.out.1 Try.underlying51 rfl szAcked) rfl (HFI.out _ gn HGN.out (HL.out.res HST.out.2 (Nat.le_refl _) HNT.out))
          · have hfa1 : ¬ ((d.fin : Int) < (aN : Int)) := by omega
            have HL56 := Lib.hid (HL4.out.then_ (rack_2n HL4.out.s (a := aN) hfa))
            have hwg : IntKind.i64.wrap ((aN : Int) - (d.una : Int)) = ((aN - d.una : Nat) : Int) := by rw [IntKind.wrap_i64]; omega
            have HMN : Hid (min aN d.fin = aN) := Lib.hid (by omega)
            have HL6 : Hid (LeftR base w4 xb y (d.ack aN wN) (w4.setCell ⟨xb, 2, none⟩ (.int .i64 (aN : Int))) y) := by
              have h := rack_3 (d := d) (a := aN) (win := wN) HL56.out.s (by omega)
              rw [HMN.out] at h
              exact Lib.hid h
            have HGN : Hid (aN - d.una = min aN d.fin - d.una) := Lib.hid (by rw [HMN.out])
            clear HLA4
            go_upto_region 13 with (fail)
            generalize w4.setCell ⟨xb, 2, none⟩ (.int .i64 (aN : Int)) = w6 at *
            have HL := Lib.hid ((HL56.out.then_ HL6.out).ahead HB2.out)
            have hx6 : w6.heap[w.heap.size]? = some (.cells #[.int .i64 0, .bool false] 51 (0, 0)) := ((HL56.out.then_ HL6.out).ch.block _ (Array.getElem?_eq_some_iff.1 HX2.out).1 HNT.out).trans HX2.out
            have rf6 := frozen_of hx6
            have r60 : w6.cell? ⟨w.heap.size, 0, none⟩ = some (.int .i64 0) := (cell_of_row _ _ 0 _ _ (0, 0) hx6)
            have r61 : w6.cell? ⟨w.heap.size, 1, none⟩ = some (.bool false) := (cell_of_row _ _ 1 _ _ (0, 0) hx6)
            obtain ⟨gn, hgn⟩ : ∃ gn, gn = aN - d.una := ⟨_, rfl⟩
            rw [← hgn] at hwg HGN
            rw [← hgn]
            have HST := Lib.hid (store2t hx6 (.int .i64 (gn : Int)) (.bool true))
            clear hgn hx6
            go_wp2_with fail
            exact bodyPost_ret (results_c0 rfl _ _ w.heap.size _ _ rfl HST.out.1 Try.underlying51 rfl szAcked) rfl (HFI.out _ gn HGN.out (HL.out.res HST.out.2 (Nat.le_refl _) HNT.out))
        · have hed1 : ¬ ((d.edge : Int) < (aN : Int) + (wN : Int)) := by omega
          have HL4 := Lib.hid (rack_1n HS2.out hed)
          clear hed
          go_upto_region 8 with (fail)
          clear r0 r1 rf e2 e4 ef
          have HLA4 := Lib.hid (last_any HL4.out.s (show d.fin ≤ 1073741824 by omega))
          have e42 : w2.cell? ⟨xb, 2, none⟩ = some (.int .i64 (d.una : Int)) := HL4.out.s.cell 2
          have e46 : w2.cell? ⟨xb, 6, none⟩ = some (.bool d.done) := HL4.out.s.cell 6
          have ef4 : ∀ j, w2.frozen? ⟨xb, j, none⟩ = false := fun j => HL4.out.s.fz j
          have hf4 : ({ d with edge := max d.edge (aN + wN) } : Dq).fin = d.fin := rfl
          rw [hf4] at HLA4
          unfold ptr at HLA4
          clear hf4
          go_wp2_with fail
          refine (HLA4.out).mono ?_
          rintro e w2 ⟨rfl, rfl⟩
          by_cases hfa : d.fin < aN
          · have hfa1 : (d.fin : Int) < (aN : Int) := by omega
            have HL5 := Lib.hid (rack_2y HL4.out.s (a := aN) hfa)
            have hmn : min aN d.fin = d.fin := by omega
            have HMN := Lib.hid hmn
            clear hfa
            go_upto_region 10 with (fail)
            generalize w2.setCell ⟨xb, 6, none⟩ (.bool true) = w5 at *
            have HLA5 : Hid (Calls Try.prog 30 #[.pointer (some ⟨xb, 0, none⟩)] w5 fun e w' => e = .returned (.int .i64 (d.fin : Int)) ∧ w' = w5) := Lib.hid (by have h := last_any HL5.out.s (show d.fin ≤ 1073741824 by omega); exact h)
            have e52 : w5.cell? ⟨xb, 2, none⟩ = some (.int .i64 (d.una : Int)) := HL5.out.s.cell 2
            have ef5 : ∀ j, w5.frozen? ⟨xb, j, none⟩ = false := fun j => HL5.out.s.fz j
            have hwg : IntKind.i64.wrap ((d.fin : Int) - (d.una : Int)) = ((d.fin - d.una : Nat) : Int) := by rw [IntKind.wrap_i64]; omega
            have HL6 : Hid (LeftR base w5 xb y (d.ack aN wN) (w5.setCell ⟨xb, 2, none⟩ (.int .i64 (d.fin : Int))) y) := by
              have h := rack_3 (d := d) (a := aN) (win := wN) HL5.out.s (by omega)
              rw [HMN.out] at h
              exact Lib.hid h
            have HGN : Hid (d.fin - d.una = min aN d.fin - d.una) := Lib.hid (by rw [HMN.out])
            have HL56 := Lib.hid (HL4.out.then_ HL5.out)
            clear e42 e46 ef4 HLA4 hmn
            go_wp2_with fail
            refine (HLA5.out).mono ?_
            rintro e w5 ⟨rfl, rfl⟩
            go_upto_region 13 with (fail)
            generalize w5.setCell ⟨xb, 2, none⟩ (.int .i64 (d.fin : Int)) = w6 at *
            have HL := Lib.hid ((HL56.out.then_ HL6.out).ahead HB2.out)
            have hx6 : w6.heap[w.heap.size]? = some (.cells #[.int .i64 0, .bool false] 51 (0, 0)) := ((HL56.out.then_ HL6.out).ch.block _ (Array.getElem?_eq_some_iff.1 HX2.out).1 HNT.out).trans HX2.out
            have rf6 := frozen_of hx6
            have r60 : w6.cell? ⟨w.heap.size, 0, none⟩ = some (.int .i64 0) := (cell_of_row _ _ 0 _ _ (0, 0) hx6)
            have r61 : w6.cell? ⟨w.heap.size, 1, none⟩ = some (.bool false) := (cell_of_row _ _ 1 _ _ (0, 0) hx6)
            obtain ⟨gn, hgn⟩ : ∃ gn, gn = d.fin - d.una := ⟨_, rfl⟩
            rw [← hgn] at hwg HGN
            rw [← hgn]
            have HST := Lib.hid (store2t hx6 (.int .i64 (gn : Int)) (.bool true))
            clear hgn hx6
            go_wp2_with fail
            exact bodyPost_ret (results_c0 rfl _ _ w.heap.size _ _ rfl HST.out.1 Try.underlying51 rfl szAcked) rfl (HFI.out _ gn HGN.out (HL.out.res HST.out.2 (Nat.le_refl _) HNT.out))
          · have hfa1 : ¬ ((d.fin : Int) < (aN : Int)) := by omega
            have HL56 := Lib.hid (HL4.out.then_ (rack_2n HL4.out.s (a := aN) hfa))
            have hwg : IntKind.i64.wrap ((aN : Int) - (d.una : Int)) = ((aN - d.una : Nat) : Int) := by rw [IntKind.wrap_i64]; omega
            have HMN : Hid (min aN d.fin = aN) := Lib.hid (by omega)
            have HL6 : Hid (LeftR base w2 xb y (d.ack aN wN) (w2.setCell ⟨xb, 2, none⟩ (.int .i64 (aN : Int))) y) := by
              have h := rack_3 (d := d) (a := aN) (win := wN) HL56.out.s (by omega)
              rw [HMN.out] at h
              exact Lib.hid h
            have HGN : Hid (aN - d.una = min aN d.fin - d.una) := Lib.hid (by rw [HMN.out])
            clear HLA4
            go_upto_region 13 with (fail)
            generalize w2.setCell ⟨xb, 2, none⟩ (.int .i64 (aN : Int)) = w6 at *
            have HL := Lib.hid ((HL56.out.then_ HL6.out).ahead HB2.out)
            have hx6 : w6.heap[w.heap.size]? = some (.cells #[.int .i64 0, .bool false] 51 (0, 0)) := ((HL56.out.then_ HL6.out).ch.block _ (Array.getElem?_eq_some_iff.1 HX2.out).1 HNT.out).trans HX2.out
            have rf6 := frozen_of hx6
            have r60 : w6.cell? ⟨w.heap.size, 0, none⟩ = some (.int .i64 0) := (cell_of_row _ _ 0 _ _ (0, 0) hx6)
            have r61 : w6.cell? ⟨w.heap.size, 1, none⟩ = some (.bool false) := (cell_of_row _ _ 1 _ _ (0, 0) hx6)
            obtain ⟨gn, hgn⟩ : ∃ gn, gn = aN - d.una := ⟨_, rfl⟩
            rw [← hgn] at hwg HGN
            rw [← hgn]
            have HST := Lib.hid (store2t hx6 (.int .i64 (gn : Int)) (.bool true))
            clear hgn hx6
            go_wp2_with fail
            exact bodyPost_ret (results_c0 rfl _ _ w.heap.size _ _ rfl HST.out.1 Try.underlying51 rfl szAcked) rfl (HFI.out _ gn HGN.out (HL.out.res HST.out.2 (Nat.le_refl _) HNT.out))
      · have HF := Lib.hid (fun (w9 : World) => HNO.out w9 (by cases h : d.may a win; rfl; exact absurd h k1))
        have hmn : ¬ (((d.una : Int) ≤ a ∧ a ≤ (mo : Int)) ∧ 0 ≤ win ∧ win ≤ 65535) := fun h => k1 (hmm.2 h)
        have hst := store2t hx2 (.int .i64 0) (.bool false)
        have HST := Lib.hid (And.intro hst.1 (((Ch.of_below (fun k => k = w.heap.size) HB2.out).then_ hst.2).below (fun x hx e => by omega)))
        clear hmm k1 hst hx2 hd3 d5 HLA HB1 HR1
        by_cases q1 : a < (d.una : Int)
        · clear hmn
          go_wp2_with fail
          exact bodyPost_ret (results_c0 rfl _ _ w.heap.size _ _ rfl HST.out.1 Try.underlying51 rfl szAcked) rfl (HF.out _ HST.out.2)
        · by_cases q2 : (mo : Int) < a
          · clear hmn
            go_wp2_with fail
            exact bodyPost_ret (results_c0 rfl _ _ w.heap.size _ _ rfl HST.out.1 Try.underlying51 rfl szAcked) rfl (HF.out _ HST.out.2)
          · by_cases q3 : win < 0
            · clear hmn
              go_wp2_with fail
              exact bodyPost_ret (results_c0 rfl _ _ w.heap.size _ _ rfl HST.out.1 Try.underlying51 rfl szAcked) rfl (HF.out _ HST.out.2)
            · have q4 : (65535 : Int) < win := by omega
              clear hmn
              go_wp2_with fail
              exact bodyPost_ret (results_c0 rfl _ _ w.heap.size _ _ rfl HST.out.1 Try.underlying51 rfl szAcked) rfl (HF.out _ HST.out.2)
    · obtain ⟨mo, hmo⟩ : ∃ mo : Nat, mo = d.next := ⟨_, rfl⟩
      have hmm : d.may a win = true ↔ ((d.una : Int) ≤ a ∧ a ≤ (mo : Int)) ∧ 0 ≤ win ∧ win ≤ 65535 := by
        rw [hmi, hmo, ht]
        constructor
        · rintro ⟨h | h, h'⟩
          · exact ⟨h, h'⟩
          · exact absurd h.2.1 hf
        · rintro ⟨h, h'⟩
          exact ⟨.inl h, h'⟩
      have hd3 : (w.alloc (.cells #[.int .i64 0, .bool false] 51)).cell? ⟨xb, 3, none⟩ = some (.int .i64 (mo : Int)) := by rw [hmo]; exact d3
      have hmf : (mo : Int) ≤ d.fin := by omega
      have hlf : ¬ ((mo : Int) = (d.fin : Int)) := by omega
      have hlf2 : ((mo : Int) == (d.fin : Int)) = false := by simp; omega
      clear hmi d3 ht hmo
      go_enter Try.func20, Try.ntmps20
      go_wp2_with fail
      go_quiet (first | (go_at_call 30; exact Calls.quiet_of_same (HLA.out _)))
      go_upto_region 4 with (fail)
      have HB2 := Lib.hid (HB1.out nq)
      have hx2 := HR1.out nq
      generalize hw2 : (w.alloc (.cells #[.int .i64 0, .bool false] 51)).drewN nq = w2 at *
      clear hw2
      have HS2 := Lib.hid (HH.out.below HB2.out)
      have e2 : w2.cell? ⟨xb, 2, none⟩ = some (.int .i64 (d.una : Int)) := HS2.out.cell 2
      have e4 : w2.cell? ⟨xb, 4, none⟩ = some (.int .i64 (d.edge : Int)) := HS2.out.cell 4
      have ef : ∀ j, w2.frozen? ⟨xb, j, none⟩ = false := fun j => HS2.out.fz j
      have rf := frozen_of hx2
      have r0 : w2.cell? ⟨w.heap.size, 0, none⟩ = some (.int .i64 0) := (cell_of_row _ _ 0 _ _ (0, 0) hx2)
      have r1 : w2.cell? ⟨w.heap.size, 1, none⟩ = some (.bool false) := (cell_of_row _ _ 1 _ _ (0, 0) hx2)
      have HNT : Hid (¬ y.T xb w.heap.size) := Lib.hid (fun e => by have := (HH.out.in_ e).2; omega)
      by_cases k1 : d.may a win = true
      · have hma := hmm.1 k1
        have HX2 := Lib.hid hx2
        obtain ⟨aN, rfl⟩ := Int.eq_ofNat_of_zero_le (show 0 ≤ a by omega)
        obtain ⟨wN, rfl⟩ := Int.eq_ofNat_of_zero_le hma.2.1
        have q1 : ¬ ((aN : Int) < (d.una : Int)) := by omega
        have q2 : ¬ ((mo : Int) < (aN : Int)) := by omega
        have q3 : ¬ ((wN : Int) < 0) := by omega
        have q4 : ¬ ((65535 : Int) < (wN : Int)) := by omega
        have hwe : IntKind.i64.wrap ((aN : Int) + (wN : Int)) = (aN : Int) + (wN : Int) := by rw [IntKind.wrap_i64]; omega
        have HFI : Hid (∀ w7 gn, gn = min aN d.fin - d.una → LeftR base w xb y (d.ack aN wN) w7 y → RAckP base w xb y d (aN : Int) (wN : Int) (.returned (.agg #[.int .i64 (gn : Int), .bool true])) w7) := Lib.hid (fun w7 gn hg hl => by
          refine ⟨?_, ?_⟩
          · unfold Dq.gone
            rw [if_pos k1, k1, hg]
            rfl
          · unfold Dq.acks
            rw [if_pos k1]
            exact hl)
        have HUB : Hid (d.una ≤ aN ∧ aN ≤ d.fin + 1 ∧ d.una ≤ d.fin ∧ d.fin ≤ 1000000000) := Lib.hid (by omega)
        have hub := HUB.out
        clear hmm hma k1 hx2 hd3 d5 HLA HB1 HR1 HNO
        by_cases hed : d.edge < aN + wN
        · have hed1 : (d.edge : Int) < (aN : Int) + (wN : Int) := by omega
          have HL4 := Lib.hid (rack_1y HS2.out hed)
          clear hed
          go_upto_region 8 with (fail)
          generalize w2.setCell ⟨xb, 4, none⟩ (.int .i64 ((aN : Int) + (wN : Int))) = w4 at *
          clear r0 r1 rf e2 e4 ef
          have HLA4 := Lib.hid (last_any HL4.out.s (show d.fin ≤ 1073741824 by omega))
          have e42 : w4.cell? ⟨xb, 2, none⟩ = some (.int .i64 (d.una : Int)) := HL4.out.s.cell 2
          have e46 : w4.cell? ⟨xb, 6, none⟩ = some (.bool d.done) := HL4.out.s.cell 6
          have ef4 : ∀ j, w4.frozen? ⟨xb, j, none⟩ = false := fun j => HL4.out.s.fz j
          have hf4 : ({ d with edge := max d.edge (aN + wN) } : Dq).fin = d.fin := rfl
          rw [hf4] at HLA4
          unfold ptr at HLA4
          clear hf4
          go_wp2_with fail
          refine (HLA4.out).mono ?_
          rintro e w4 ⟨rfl, rfl⟩
          by_cases hfa : d.fin < aN
          · exact absurd hfa (by omega)
          · have hfa1 : ¬ ((d.fin : Int) < (aN : Int)) := by omega
            have HL56 := Lib.hid (HL4.out.then_ (rack_2n HL4.out.s (a := aN) hfa))
            have hwg : IntKind.i64.wrap ((aN : Int) - (d.una : Int)) = ((aN - d.una : Nat) : Int) := by rw [IntKind.wrap_i64]; omega
            have HMN : Hid (min aN d.fin = aN) := Lib.hid (by omega)
            have HL6 : Hid (LeftR base w4 xb y (d.ack aN wN) (w4.setCell ⟨xb, 2, none⟩ (.int .i64 (aN : Int))) y) := by
              have h := rack_3 (d := d) (a := aN) (win := wN) HL56.out.s (by omega)
              rw [HMN.out] at h
              exact Lib.hid h
            have HGN : Hid (aN - d.una = min aN d.fin - d.una) := Lib.hid (by rw [HMN.out])
            clear HLA4
            go_upto_region 13 with (fail)
            generalize w4.setCell ⟨xb, 2, none⟩ (.int .i64 (aN : Int)) = w6 at *
            have HL := Lib.hid ((HL56.out.then_ HL6.out).ahead HB2.out)
            have hx6 : w6.heap[w.heap.size]? = some (.cells #[.int .i64 0, .bool false] 51 (0, 0)) := ((HL56.out.then_ HL6.out).ch.block _ (Array.getElem?_eq_some_iff.1 HX2.out).1 HNT.out).trans HX2.out
            have rf6 := frozen_of hx6
            have r60 : w6.cell? ⟨w.heap.size, 0, none⟩ = some (.int .i64 0) := (cell_of_row _ _ 0 _ _ (0, 0) hx6)
            have r61 : w6.cell? ⟨w.heap.size, 1, none⟩ = some (.bool false) := (cell_of_row _ _ 1 _ _ (0, 0) hx6)
            obtain ⟨gn, hgn⟩ : ∃ gn, gn = aN - d.una := ⟨_, rfl⟩
            rw [← hgn] at hwg HGN
            rw [← hgn]
            have HST := Lib.hid (store2t hx6 (.int .i64 (gn : Int)) (.bool true))
            clear hgn hx6
            go_wp2_with fail
            exact bodyPost_ret (results_c0 rfl _ _ w.heap.size _ _ rfl HST.out.1 Try.underlying51 rfl szAcked) rfl (HFI.out _ gn HGN.out (HL.out.res HST.out.2 (Nat.le_refl _) HNT.out))
        · have hed1 : ¬ ((d.edge : Int) < (aN : Int) + (wN : Int)) := by omega
          have HL4 := Lib.hid (rack_1n HS2.out hed)
          clear hed
          go_upto_region 8 with (fail)
          clear r0 r1 rf e2 e4 ef
          have HLA4 := Lib.hid (last_any HL4.out.s (show d.fin ≤ 1073741824 by omega))
          have e42 : w2.cell? ⟨xb, 2, none⟩ = some (.int .i64 (d.una : Int)) := HL4.out.s.cell 2
          have e46 : w2.cell? ⟨xb, 6, none⟩ = some (.bool d.done) := HL4.out.s.cell 6
          have ef4 : ∀ j, w2.frozen? ⟨xb, j, none⟩ = false := fun j => HL4.out.s.fz j
          have hf4 : ({ d with edge := max d.edge (aN + wN) } : Dq).fin = d.fin := rfl
          rw [hf4] at HLA4
          unfold ptr at HLA4
          clear hf4
          go_wp2_with fail
          refine (HLA4.out).mono ?_
          rintro e w2 ⟨rfl, rfl⟩
          by_cases hfa : d.fin < aN
          · exact absurd hfa (by omega)
          · have hfa1 : ¬ ((d.fin : Int) < (aN : Int)) := by omega
            have HL56 := Lib.hid (HL4.out.then_ (rack_2n HL4.out.s (a := aN) hfa))
            have hwg : IntKind.i64.wrap ((aN : Int) - (d.una : Int)) = ((aN - d.una : Nat) : Int) := by rw [IntKind.wrap_i64]; omega
            have HMN : Hid (min aN d.fin = aN) := Lib.hid (by omega)
            have HL6 : Hid (LeftR base w2 xb y (d.ack aN wN) (w2.setCell ⟨xb, 2, none⟩ (.int .i64 (aN : Int))) y) := by
              have h := rack_3 (d := d) (a := aN) (win := wN) HL56.out.s (by omega)
              rw [HMN.out] at h
              exact Lib.hid h
            have HGN : Hid (aN - d.una = min aN d.fin - d.una) := Lib.hid (by rw [HMN.out])
            clear HLA4
            go_upto_region 13 with (fail)
            generalize w2.setCell ⟨xb, 2, none⟩ (.int .i64 (aN : Int)) = w6 at *
            have HL := Lib.hid ((HL56.out.then_ HL6.out).ahead HB2.out)
            have hx6 : w6.heap[w.heap.size]? = some (.cells #[.int .i64 0, .bool false] 51 (0, 0)) := ((HL56.out.then_ HL6.out).ch.block _ (Array.getElem?_eq_some_iff.1 HX2.out).1 HNT.out).trans HX2.out
            have rf6 := frozen_of hx6
            have r60 : w6.cell? ⟨w.heap.size, 0, none⟩ = some (.int .i64 0) := (cell_of_row _ _ 0 _ _ (0, 0) hx6)
            have r61 : w6.cell? ⟨w.heap.size, 1, none⟩ = some (.bool false) := (cell_of_row _ _ 1 _ _ (0, 0) hx6)
            obtain ⟨gn, hgn⟩ : ∃ gn, gn = aN - d.una := ⟨_, rfl⟩
            rw [← hgn] at hwg HGN
            rw [← hgn]
            have HST := Lib.hid (store2t hx6 (.int .i64 (gn : Int)) (.bool true))
            clear hgn hx6
            go_wp2_with fail
            exact bodyPost_ret (results_c0 rfl _ _ w.heap.size _ _ rfl HST.out.1 Try.underlying51 rfl szAcked) rfl (HFI.out _ gn HGN.out (HL.out.res HST.out.2 (Nat.le_refl _) HNT.out))
      · have HF := Lib.hid (fun (w9 : World) => HNO.out w9 (by cases h : d.may a win; rfl; exact absurd h k1))
        have hmn : ¬ (((d.una : Int) ≤ a ∧ a ≤ (mo : Int)) ∧ 0 ≤ win ∧ win ≤ 65535) := fun h => k1 (hmm.2 h)
        have hst := store2t hx2 (.int .i64 0) (.bool false)
        have HST := Lib.hid (And.intro hst.1 (((Ch.of_below (fun k => k = w.heap.size) HB2.out).then_ hst.2).below (fun x hx e => by omega)))
        clear hmm k1 hst hx2 hd3 d5 HLA HB1 HR1
        by_cases q1 : a < (d.una : Int)
        · clear hmn
          go_wp2_with fail
          exact bodyPost_ret (results_c0 rfl _ _ w.heap.size _ _ rfl HST.out.1 Try.underlying51 rfl szAcked) rfl (HF.out _ HST.out.2)
        · by_cases q2 : (mo : Int) < a
          · clear hmn
            go_wp2_with fail
            exact bodyPost_ret (results_c0 rfl _ _ w.heap.size _ _ rfl HST.out.1 Try.underlying51 rfl szAcked) rfl (HF.out _ HST.out.2)
          · by_cases q3 : win < 0
            · clear hmn
              go_wp2_with fail
              exact bodyPost_ret (results_c0 rfl _ _ w.heap.size _ _ rfl HST.out.1 Try.underlying51 rfl szAcked) rfl (HF.out _ HST.out.2)
            · have q4 : (65535 : Int) < win := by omega
              clear hmn
              go_wp2_with fail
              exact bodyPost_ret (results_c0 rfl _ _ w.heap.size _ _ rfl HST.out.1 Try.underlying51 rfl szAcked) rfl (HF.out _ HST.out.2)
end
end Go.Proofs.Ytgcblajhdebigaa

/- The contract of segment.Right. Condition: the segment stands. -/
import Derived.Test.YtbbpemndkphgeaaDoorSegC
namespace Go.Proofs.YtbbpemndkphgeaaDoor
set_option linter.unusedVariables false
set_option linter.unusedSimpArgs false
open Go.RowKit

section
variable {ops : Array Oper} {rest : List Oper} {o : Oper} {a : Act} {w : World} {Q : Exit → Act → World → Prop}
/-- A new slice of two whole numbers; of three. -/
theorem wpList_ints2 (hgd : Region.wanted o (yielded ops a.tmps) = true) (x y : Operand) (ho : o.op = .buildSlice 72 2 #[(0, x), (1, y)]) (u v : Int) (hx : a.eval x = .int .i64 u) (hy : a.eval y = .int .i64 v) (g : Nat) (hg : w.heap.size = g)
    (h : ∀ w', w'.rangeAt g 0 (iv [u, v]) → Below w.heap.size w w' → wpList Tryd.prog ops Q rest (a.put o.dst (.slice (some ⟨g, 0, none⟩) 2 2)) w') : wpList Tryd.prog ops Q (o :: rest) a w := by
  subst hg
  refine wpList_want hgd fun _ hK => ?_
  have hrun : (Instr.buildSlice 72 2 #[(0, .int .i64 u), (1, .int .i64 v)]).run Tryd.prog w = .ok (.slice (some ⟨w.heap.size, 0, none⟩) 2 2) (w.alloc (.cells #[.int .i64 u, .int .i64 v] 3)) := by kernel_rfl
  have hr : (execOp a.eval o).run Tryd.prog w = .ok (.value (.slice (some ⟨w.heap.size, 0, none⟩) 2 2)) (w.alloc (.cells #[.int .i64 u, .int .i64 v] 3)) := by
    simp [execOp, ho, hx, hy, hrun]
  unfold Oper.wp
  rw [hr, Oper.upon_value]
  exact hK _ _ (h _ (Own.new w (iv [u, v]) 3).range (below_a w _))
theorem wpList_ints3 (hgd : Region.wanted o (yielded ops a.tmps) = true) (x y z : Operand) (ho : o.op = .buildSlice 72 3 #[(0, x), (1, y), (2, z)]) (u v t : Int) (hx : a.eval x = .int .i64 u) (hy : a.eval y = .int .i64 v) (hz : a.eval z = .int .i64 t) (g : Nat) (hg : w.heap.size = g)
    (h : ∀ w', w'.rangeAt g 0 (iv [u, v, t]) → Below w.heap.size w w' → wpList Tryd.prog ops Q rest (a.put o.dst (.slice (some ⟨g, 0, none⟩) 3 3)) w') : wpList Tryd.prog ops Q (o :: rest) a w := by
  subst hg
  refine wpList_want hgd fun _ hK => ?_
  have hrun : (Instr.buildSlice 72 3 #[(0, .int .i64 u), (1, .int .i64 v), (2, .int .i64 t)]).run Tryd.prog w = .ok (.slice (some ⟨w.heap.size, 0, none⟩) 3 3) (w.alloc (.cells #[.int .i64 u, .int .i64 v, .int .i64 t] 3)) := by kernel_rfl
  have hr : (execOp a.eval o).run Tryd.prog w = .ok (.value (.slice (some ⟨w.heap.size, 0, none⟩) 3 3)) (w.alloc (.cells #[.int .i64 u, .int .i64 v, .int .i64 t] 3)) := by
    simp [execOp, ho, hx, hy, hz, hrun]
  unfold Oper.wp
  rw [hr, Oper.upon_value]
  exact hK _ _ (h _ (Own.new w (iv [u, v, t]) 3).range (below_a w _))
end
/-- A segment's cells. -/
structure Cels (W : World) (g : Nat) (s : Seg) : Prop where
  c0 : W.cell? ⟨g, 0, none⟩ = some (.int .i64 s.src)
  c1 : W.cell? ⟨g, 1, none⟩ = some (.int .i64 s.dst)
  c2 : W.cell? ⟨g, 2, none⟩ = some (.int .i64 s.sport)
  c3 : W.cell? ⟨g, 3, none⟩ = some (.int .i64 s.dport)
  c4 : W.cell? ⟨g, 4, none⟩ = some (.int .u32 (s.seq : Int))
  c5 : W.cell? ⟨g, 5, none⟩ = some (.int .u32 (s.ack : Int))
  c6 : W.cell? ⟨g, 6, none⟩ = some (.bool s.syn)
  c7 : W.cell? ⟨g, 7, none⟩ = some (.bool s.acks)
  c8 : W.cell? ⟨g, 8, none⟩ = some (.bool s.fin)
  c9 : W.cell? ⟨g, 9, none⟩ = some (.bool s.rst)
  c10 : W.cell? ⟨g, 10, none⟩ = some (.int .i64 s.win)
  c11 : W.cell? ⟨g, 11, none⟩ = some (.slice s.oA s.on s.oc)
  c12 : W.cell? ⟨g, 12, none⟩ = some (.slice s.dA s.dn s.dc)
theorem Own.cels {W : World} {g : Nat} {s : Seg} (h : Own W g s.vals) : Cels W g s := by
  constructor
  all_goals first
    | exact (h 0 (by rw [s.vals_length]; omega)).1
    | exact (h 1 (by rw [s.vals_length]; omega)).1
    | exact (h 2 (by rw [s.vals_length]; omega)).1
    | exact (h 3 (by rw [s.vals_length]; omega)).1
    | exact (h 4 (by rw [s.vals_length]; omega)).1
    | exact (h 5 (by rw [s.vals_length]; omega)).1
    | exact (h 6 (by rw [s.vals_length]; omega)).1
    | exact (h 7 (by rw [s.vals_length]; omega)).1
    | exact (h 8 (by rw [s.vals_length]; omega)).1
    | exact (h 9 (by rw [s.vals_length]; omega)).1
    | exact (h 10 (by rw [s.vals_length]; omega)).1
    | exact (h 11 (by rw [s.vals_length]; omega)).1
    | exact (h 12 (by rw [s.vals_length]; omega)).1

set_option maxRecDepth 8000 in
set_option maxHeartbeats 1600000 in
theorem SRight_any (s : Seg) (w : World) (h : SG w s) :
    Calls Tryd.prog 12 #[.agg s.vals.toArray] w fun e w' => e = .returned (.bool (rightS s)) ∧ Below w.heap.size w w' := by
  have HW1 := Lib.hid (fun W g hr => within_any 3 [s.src, s.dst] g 2 W hr rfl (by omega))
  have HW2 := Lib.hid (fun W g hr => within_any 65535 [s.sport, s.dport, s.win] g 3 W hr rfl (by omega))
  have hr0 : rightS s = (inB 3 [s.src, s.dst] && inB 65535 [s.sport, s.dport, s.win] && decide (s.on ≤ 4) && decide (s.dn ≤ 8) && s.os.all rightB) := rfl
  have HOP := Lib.hid h.opts
  clear h
  generalize inB 3 [s.src, s.dst] = x1 at *
  generalize inB 65535 [s.sport, s.dport, s.win] = x2 at *
  cases x1 with
  | false =>
    have HR : Hid (rightS s = false) := Lib.hid (by rw [hr0]; rfl)
    clear hr0
    go_enter Tryd.func12, Tryd.ntmps12
    go_wp2_with (first
      | ((with_reducible refine wpList_here ?_); refine wpList_boxV (o := ⟨some 1, _, _, _, _, _⟩) rfl 26 (.tmp 0) rfl s.vals rfl _ rfl ?_; intro w1 z1 b1 s1; have k0 := z1.cels.c0; have k1 := z1.cels.c1)
      | ((with_reducible refine wpList_here ?_); refine wpList_ints2 (o := ⟨some 7, _, _, _, _, _⟩) rfl (.tmp 4) (.tmp 6) rfl s.src s.dst rfl rfl _ s1 ?_; intro w2 z2 b2))
    refine (HW1.out _ _ z2).mono ?_
    rintro e w3 ⟨rfl, rfl⟩
    go_wp2_with fail
    go_ret
    exact ⟨by rw [HR.out]; rfl, below_trans b1 b2⟩
  | true =>
    cases x2 with
    | false =>
      have HR : Hid (rightS s = false) := Lib.hid (by rw [hr0]; rfl)
      clear hr0
      go_enter Tryd.func12, Tryd.ntmps12
      go_wp2_with (first
        | ((with_reducible refine wpList_here ?_); refine wpList_boxV (o := ⟨some 1, _, _, _, _, _⟩) rfl 26 (.tmp 0) rfl s.vals rfl _ rfl ?_; intro w1 z1 b1 s1; have k0 := z1.cels.c0; have k1 := z1.cels.c1)
        | ((with_reducible refine wpList_here ?_); refine wpList_ints2 (o := ⟨some 7, _, _, _, _, _⟩) rfl (.tmp 4) (.tmp 6) rfl s.src s.dst rfl rfl _ s1 ?_; intro w2 z2 b2))
      refine (HW1.out _ _ z2).mono ?_
      rintro e w3 ⟨rfl, rfl⟩
      have z3 := z1.below b2
      have b3 := below_trans b1 b2
      have k2 := z3.cels.c2
      have k3 := z3.cels.c3
      have k10 := z3.cels.c10
      clear z1 b1 b2 s1 k0 k1 z2
      go_wp2_with (first
        | ((with_reducible refine wpList_here ?_); refine wpList_ints3 (o := ⟨some 16, _, _, _, _, _⟩) rfl (.tmp 11) (.tmp 13) (.tmp 15) rfl s.sport s.dport s.win rfl rfl rfl _ rfl ?_; intro w4 z4 b4))
      refine (HW2.out _ _ z4).mono ?_
      rintro e w5 ⟨rfl, rfl⟩
      go_wp2_with fail
      go_ret
      exact ⟨by rw [HR.out]; rfl, below_trans b3 b4⟩
    | true =>
      rw [Bool.true_and, Bool.true_and] at hr0
      by_cases h4 : s.on ≤ 4
      · by_cases h8 : s.dn ≤ 8
        · have HR : Hid (rightS s = s.os.all rightB) := Lib.hid (by rw [hr0, decide_eq_true h4, decide_eq_true h8]; rfl)
          have i4 : (s.on : Int) ≤ 4 := by omega
          have i8 : (s.dn : Int) ≤ 8 := by omega
          have HOR := Lib.hid (fun W hW => optsRight_any s.oA s.on s.oc s.os W hW)
          clear hr0 h4 h8
          go_enter Tryd.func12, Tryd.ntmps12
          go_wp2_with (first
            | ((with_reducible refine wpList_here ?_); refine wpList_boxV (o := ⟨some 1, _, _, _, _, _⟩) rfl 26 (.tmp 0) rfl s.vals rfl _ rfl ?_; intro w1 z1 b1 s1; have k0 := z1.cels.c0; have k1 := z1.cels.c1)
            | ((with_reducible refine wpList_here ?_); refine wpList_ints2 (o := ⟨some 7, _, _, _, _, _⟩) rfl (.tmp 4) (.tmp 6) rfl s.src s.dst rfl rfl _ s1 ?_; intro w2 z2 b2))
          refine (HW1.out _ _ z2).mono ?_
          rintro e w3 ⟨rfl, rfl⟩
          have z3 := z1.below b2
          have b3 := below_trans b1 b2
          have k2 := z3.cels.c2
          have k3 := z3.cels.c3
          have k10 := z3.cels.c10
          clear z1 b1 b2 s1 k0 k1 z2
          go_wp2_with (first
            | ((with_reducible refine wpList_here ?_); refine wpList_ints3 (o := ⟨some 16, _, _, _, _, _⟩) rfl (.tmp 11) (.tmp 13) (.tmp 15) rfl s.sport s.dport s.win rfl rfl rfl _ rfl ?_; intro w4 z4 b4))
          refine (HW2.out _ _ z4).mono ?_
          rintro e w5 ⟨rfl, rfl⟩
          have z5 := z3.below b4
          have b5 := below_trans b3 b4
          have k11 := z5.cels.c11
          have k12 := z5.cels.c12
          clear z3 b3 b4 z4 k2 k3 k10
          go_wp2_with fail
          refine (HOR.out _ (HOP.out.below b5)).mono ?_
          rintro e w6 ⟨rfl, b6⟩
          have b7 := below_trans b5 b6
          go_wp2_with fail
          go_ret
          exact ⟨by rw [HR.out]; rfl, b7⟩
        · have HR : Hid (rightS s = false) := Lib.hid (by rw [hr0, decide_eq_false h8, Bool.and_false]; rfl)
          have i4 : (s.on : Int) ≤ 4 := by omega
          have i8 : decide ((s.dn : Int) ≤ 8) = false := decide_eq_false (by omega)
          clear hr0 h4 h8
          go_enter Tryd.func12, Tryd.ntmps12
          go_wp2_with (first
            | ((with_reducible refine wpList_here ?_); refine wpList_boxV (o := ⟨some 1, _, _, _, _, _⟩) rfl 26 (.tmp 0) rfl s.vals rfl _ rfl ?_; intro w1 z1 b1 s1; have k0 := z1.cels.c0; have k1 := z1.cels.c1)
            | ((with_reducible refine wpList_here ?_); refine wpList_ints2 (o := ⟨some 7, _, _, _, _, _⟩) rfl (.tmp 4) (.tmp 6) rfl s.src s.dst rfl rfl _ s1 ?_; intro w2 z2 b2))
          refine (HW1.out _ _ z2).mono ?_
          rintro e w3 ⟨rfl, rfl⟩
          have z3 := z1.below b2
          have b3 := below_trans b1 b2
          have k2 := z3.cels.c2
          have k3 := z3.cels.c3
          have k10 := z3.cels.c10
          clear z1 b1 b2 s1 k0 k1 z2
          go_wp2_with (first
            | ((with_reducible refine wpList_here ?_); refine wpList_ints3 (o := ⟨some 16, _, _, _, _, _⟩) rfl (.tmp 11) (.tmp 13) (.tmp 15) rfl s.sport s.dport s.win rfl rfl rfl _ rfl ?_; intro w4 z4 b4))
          refine (HW2.out _ _ z4).mono ?_
          rintro e w5 ⟨rfl, rfl⟩
          have z5 := z3.below b4
          have b5 := below_trans b3 b4
          have k11 := z5.cels.c11
          have k12 := z5.cels.c12
          clear z3 b3 b4 z4 k2 k3 k10
          go_wp2_with fail
          go_ret
          exact ⟨by rw [HR.out]; rfl, b5⟩
      · have HR : Hid (rightS s = false) := Lib.hid (by rw [hr0, decide_eq_false h4]; rfl)
        have i4 : decide ((s.on : Int) ≤ 4) = false := decide_eq_false (by omega)
        clear hr0 h4
        go_enter Tryd.func12, Tryd.ntmps12
        go_wp2_with (first
          | ((with_reducible refine wpList_here ?_); refine wpList_boxV (o := ⟨some 1, _, _, _, _, _⟩) rfl 26 (.tmp 0) rfl s.vals rfl _ rfl ?_; intro w1 z1 b1 s1; have k0 := z1.cels.c0; have k1 := z1.cels.c1)
          | ((with_reducible refine wpList_here ?_); refine wpList_ints2 (o := ⟨some 7, _, _, _, _, _⟩) rfl (.tmp 4) (.tmp 6) rfl s.src s.dst rfl rfl _ s1 ?_; intro w2 z2 b2))
        refine (HW1.out _ _ z2).mono ?_
        rintro e w3 ⟨rfl, rfl⟩
        have z3 := z1.below b2
        have b3 := below_trans b1 b2
        have k2 := z3.cels.c2
        have k3 := z3.cels.c3
        have k10 := z3.cels.c10
        clear z1 b1 b2 s1 k0 k1 z2
        go_wp2_with (first
          | ((with_reducible refine wpList_here ?_); refine wpList_ints3 (o := ⟨some 16, _, _, _, _, _⟩) rfl (.tmp 11) (.tmp 13) (.tmp 15) rfl s.sport s.dport s.win rfl rfl rfl _ rfl ?_; intro w4 z4 b4))
        refine (HW2.out _ _ z4).mono ?_
        rintro e w5 ⟨rfl, rfl⟩
        have z5 := z3.below b4
        have b5 := below_trans b3 b4
        have k11 := z5.cels.c11
        have k12 := z5.cels.c12
        clear z3 b3 b4 z4 k2 k3 k10
        go_wp2_with fail
        go_ret
        exact ⟨by rw [HR.out]; rfl, b5⟩
end Go.Proofs.YtbbpemndkphgeaaDoor

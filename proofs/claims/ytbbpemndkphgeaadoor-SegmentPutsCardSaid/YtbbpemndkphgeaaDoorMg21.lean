/- The contract of the document's own Same of segments. Condition: both segments stand. -/
import Derived.Test.YtbbpemndkphgeaaDoorMg20
import Derived.Test.YtbbpemndkphgeaaDoorMg15
namespace Go.Proofs.YtbbpemndkphgeaaDoor
set_option linter.unusedVariables false
set_option linter.unusedSimpArgs false
open Go.RowKit

theorem sameB_no {w w' : World} {a b : Seg} (ha : SG w a) (hb : SG w' b) (h : ¬ SameS a b) : sameB a b = false := by
  cases hc : sameB a b with
  | false => rfl
  | true => exact absurd ((sameB_iff ha hb).1 hc) h

set_option maxRecDepth 8000 in
set_option maxHeartbeats 6400000 in
theorem RSegSame_any (a b : Seg) (w : World) (ha : SG w a) (hb : SG w b) :
    Calls Tryd.prog 16 #[.agg a.vals.toArray, .agg b.vals.toArray] w fun e w' => e = .returned (.bool (sameB a b)) ∧ Below w.heap.size w w' := by
  have hq := ha.seq
  have hq' := ha.ack
  have hr := hb.seq
  have hr' := hb.ack
  have n1 := ha.opts.max
  have n2 := ha.opts.cap
  have n3 := hb.opts.max
  have n4 := hb.opts.cap
  have n5 := ha.data.max
  have n6 := ha.data.cap
  have n7 := hb.data.max
  have n8 := hb.data.cap
  have HSA := Lib.hid ha
  have HSB := Lib.hid hb
  have HNO := Lib.hid (fun hx => sameB_no ha hb hx)
  clear ha hb
  cases e0 : (a.src != b.src) with
  | true =>
    have HS : Hid (sameB a b = false) := Lib.hid (HNO.out fun hx => by
      have h1 := hx.1
      have h4 := bne_iff_ne.1 e0
      exact h4 (by rw [h1]))
    go_enter Tryd.func16, Tryd.ntmps16
    go_upto_region 1 with (first
      | ((with_reducible refine wpList_here ?_); refine wpList_boxV (o := ⟨some 2, _, _, _, _, _⟩) rfl 26 (.tmp 0) rfl a.vals rfl _ rfl ?_; intro w1 z1 b1 s1)
      | ((with_reducible refine wpList_here ?_); refine wpList_boxV (o := ⟨some 3, _, _, _, _, _⟩) rfl 26 (.tmp 1) rfl b.vals rfl _ s1 ?_; intro w2 z2 b2 s2; have y2 := z1.below b2; obtain ⟨k0, k1, k2, k3, k4, k5, k6, k7, k8, k9, k10, k11, k12⟩ := y2.cels; obtain ⟨m0, m1, m2, m3, m4, m5, m6, m7, m8, m9, m10, m11, m12⟩ := z2.cels))
    clear y2 z2 z1 s1 s2 HSA HSB HNO k1 m1 k2 m2 k3 m3 k4 m4 k5 m5 k6 m6 k7 m7 k8 m8 k9 m9 k10 m10 k11 m11 k12 m12
    go_wp2
    go_ret
    exact ⟨by rw [HS.out]; rfl, below_trans b1 b2⟩
  | false =>
    cases e1 : (a.dst != b.dst) with
    | true =>
      have HS : Hid (sameB a b = false) := Lib.hid (HNO.out fun hx => by
        have h1 := hx.2.1
        have h4 := bne_iff_ne.1 e1
        exact h4 (by rw [h1]))
      go_enter Tryd.func16, Tryd.ntmps16
      go_upto_region 1 with (first
        | ((with_reducible refine wpList_here ?_); refine wpList_boxV (o := ⟨some 2, _, _, _, _, _⟩) rfl 26 (.tmp 0) rfl a.vals rfl _ rfl ?_; intro w1 z1 b1 s1)
        | ((with_reducible refine wpList_here ?_); refine wpList_boxV (o := ⟨some 3, _, _, _, _, _⟩) rfl 26 (.tmp 1) rfl b.vals rfl _ s1 ?_; intro w2 z2 b2 s2; have y2 := z1.below b2; obtain ⟨k0, k1, k2, k3, k4, k5, k6, k7, k8, k9, k10, k11, k12⟩ := y2.cels; obtain ⟨m0, m1, m2, m3, m4, m5, m6, m7, m8, m9, m10, m11, m12⟩ := z2.cels))
      clear y2 z2 z1 s1 s2 HSA HSB HNO k2 m2 k3 m3 k4 m4 k5 m5 k6 m6 k7 m7 k8 m8 k9 m9 k10 m10 k11 m11 k12 m12
      go_wp2
      go_ret
      exact ⟨by rw [HS.out]; rfl, below_trans b1 b2⟩
    | false =>
      cases e2 : (a.sport != b.sport) with
      | true =>
        have HS : Hid (sameB a b = false) := Lib.hid (HNO.out fun hx => by
          have h1 := hx.2.2.1
          have h4 := bne_iff_ne.1 e2
          exact h4 (by rw [h1]))
        go_enter Tryd.func16, Tryd.ntmps16
        go_upto_region 1 with (first
          | ((with_reducible refine wpList_here ?_); refine wpList_boxV (o := ⟨some 2, _, _, _, _, _⟩) rfl 26 (.tmp 0) rfl a.vals rfl _ rfl ?_; intro w1 z1 b1 s1)
          | ((with_reducible refine wpList_here ?_); refine wpList_boxV (o := ⟨some 3, _, _, _, _, _⟩) rfl 26 (.tmp 1) rfl b.vals rfl _ s1 ?_; intro w2 z2 b2 s2; have y2 := z1.below b2; obtain ⟨k0, k1, k2, k3, k4, k5, k6, k7, k8, k9, k10, k11, k12⟩ := y2.cels; obtain ⟨m0, m1, m2, m3, m4, m5, m6, m7, m8, m9, m10, m11, m12⟩ := z2.cels))
        clear y2 z2 z1 s1 s2 HSA HSB HNO k3 m3 k4 m4 k5 m5 k6 m6 k7 m7 k8 m8 k9 m9 k10 m10 k11 m11 k12 m12
        go_wp2
        go_ret
        exact ⟨by rw [HS.out]; rfl, below_trans b1 b2⟩
      | false =>
        cases e3 : (a.dport != b.dport) with
        | true =>
          have HS : Hid (sameB a b = false) := Lib.hid (HNO.out fun hx => by
            have h1 := hx.2.2.2.1
            have h4 := bne_iff_ne.1 e3
            exact h4 (by rw [h1]))
          go_enter Tryd.func16, Tryd.ntmps16
          go_upto_region 1 with (first
            | ((with_reducible refine wpList_here ?_); refine wpList_boxV (o := ⟨some 2, _, _, _, _, _⟩) rfl 26 (.tmp 0) rfl a.vals rfl _ rfl ?_; intro w1 z1 b1 s1)
            | ((with_reducible refine wpList_here ?_); refine wpList_boxV (o := ⟨some 3, _, _, _, _, _⟩) rfl 26 (.tmp 1) rfl b.vals rfl _ s1 ?_; intro w2 z2 b2 s2; have y2 := z1.below b2; obtain ⟨k0, k1, k2, k3, k4, k5, k6, k7, k8, k9, k10, k11, k12⟩ := y2.cels; obtain ⟨m0, m1, m2, m3, m4, m5, m6, m7, m8, m9, m10, m11, m12⟩ := z2.cels))
          clear y2 z2 z1 s1 s2 HSA HSB HNO k4 m4 k5 m5 k6 m6 k7 m7 k8 m8 k9 m9 k10 m10 k11 m11 k12 m12
          go_wp2
          go_ret
          exact ⟨by rw [HS.out]; rfl, below_trans b1 b2⟩
        | false =>
          cases e4 : ((a.seq : Int) != (b.seq : Int)) with
          | true =>
            have HS : Hid (sameB a b = false) := Lib.hid (HNO.out fun hx => by
              have h1 := hx.2.2.2.2.1
              have h4 := bne_iff_ne.1 e4
              exact h4 (by rw [h1]))
            go_enter Tryd.func16, Tryd.ntmps16
            go_upto_region 1 with (first
              | ((with_reducible refine wpList_here ?_); refine wpList_boxV (o := ⟨some 2, _, _, _, _, _⟩) rfl 26 (.tmp 0) rfl a.vals rfl _ rfl ?_; intro w1 z1 b1 s1)
              | ((with_reducible refine wpList_here ?_); refine wpList_boxV (o := ⟨some 3, _, _, _, _, _⟩) rfl 26 (.tmp 1) rfl b.vals rfl _ s1 ?_; intro w2 z2 b2 s2; have y2 := z1.below b2; obtain ⟨k0, k1, k2, k3, k4, k5, k6, k7, k8, k9, k10, k11, k12⟩ := y2.cels; obtain ⟨m0, m1, m2, m3, m4, m5, m6, m7, m8, m9, m10, m11, m12⟩ := z2.cels))
            clear y2 z2 z1 s1 s2 HSA HSB HNO k5 m5 k6 m6 k7 m7 k8 m8 k9 m9 k10 m10 k11 m11 k12 m12
            go_wp2
            go_ret
            exact ⟨by rw [HS.out]; rfl, below_trans b1 b2⟩
          | false =>
            cases e5 : ((a.ack : Int) != (b.ack : Int)) with
            | true =>
              have HS : Hid (sameB a b = false) := Lib.hid (HNO.out fun hx => by
                have h1 := hx.2.2.2.2.2.1
                have h4 := bne_iff_ne.1 e5
                exact h4 (by rw [h1]))
              go_enter Tryd.func16, Tryd.ntmps16
              go_upto_region 1 with (first
                | ((with_reducible refine wpList_here ?_); refine wpList_boxV (o := ⟨some 2, _, _, _, _, _⟩) rfl 26 (.tmp 0) rfl a.vals rfl _ rfl ?_; intro w1 z1 b1 s1)
                | ((with_reducible refine wpList_here ?_); refine wpList_boxV (o := ⟨some 3, _, _, _, _, _⟩) rfl 26 (.tmp 1) rfl b.vals rfl _ s1 ?_; intro w2 z2 b2 s2; have y2 := z1.below b2; obtain ⟨k0, k1, k2, k3, k4, k5, k6, k7, k8, k9, k10, k11, k12⟩ := y2.cels; obtain ⟨m0, m1, m2, m3, m4, m5, m6, m7, m8, m9, m10, m11, m12⟩ := z2.cels))
              clear y2 z2 z1 s1 s2 HSA HSB HNO k6 m6 k7 m7 k8 m8 k9 m9 k10 m10 k11 m11 k12 m12
              go_wp2
              go_ret
              exact ⟨by rw [HS.out]; rfl, below_trans b1 b2⟩
            | false =>
              cases e6 : (a.win != b.win) with
              | true =>
                have HS : Hid (sameB a b = false) := Lib.hid (HNO.out fun hx => by
                  have h1 := hx.2.2.2.2.2.2.2.2.2.2.1
                  have h4 := bne_iff_ne.1 e6
                  exact h4 (by rw [h1]))
                go_enter Tryd.func16, Tryd.ntmps16
                go_upto_region 1 with (first
                  | ((with_reducible refine wpList_here ?_); refine wpList_boxV (o := ⟨some 2, _, _, _, _, _⟩) rfl 26 (.tmp 0) rfl a.vals rfl _ rfl ?_; intro w1 z1 b1 s1)
                  | ((with_reducible refine wpList_here ?_); refine wpList_boxV (o := ⟨some 3, _, _, _, _, _⟩) rfl 26 (.tmp 1) rfl b.vals rfl _ s1 ?_; intro w2 z2 b2 s2; have y2 := z1.below b2; obtain ⟨k0, k1, k2, k3, k4, k5, k6, k7, k8, k9, k10, k11, k12⟩ := y2.cels; obtain ⟨m0, m1, m2, m3, m4, m5, m6, m7, m8, m9, m10, m11, m12⟩ := z2.cels))
                clear y2 z2 z1 s1 s2 HSA HSB HNO k6 m6 k7 m7 k8 m8 k9 m9 k11 m11 k12 m12
                go_wp2
                go_ret
                exact ⟨by rw [HS.out]; rfl, below_trans b1 b2⟩
              | false =>
                cases e7 : (a.syn != b.syn) with
                | true =>
                  have HS : Hid (sameB a b = false) := Lib.hid (HNO.out fun hx => by
                    have h1 := hx.2.2.2.2.2.2.1
                    have h4 := bne_iff_ne.1 e7
                    exact h4 (by rw [h1]))
                  have hv : (a.syn = true ∧ b.syn = false) ∨ (a.syn = false ∧ b.syn = true) := by
                    revert e7
                    cases a.syn <;> cases b.syn <;> simp
                  clear e7
                  rcases hv with ⟨x0, y0⟩ | ⟨x0, y0⟩
                  · go_enter Tryd.func16, Tryd.ntmps16
                    go_upto_region 1 with (first
                      | ((with_reducible refine wpList_here ?_); refine wpList_boxV (o := ⟨some 2, _, _, _, _, _⟩) rfl 26 (.tmp 0) rfl a.vals rfl _ rfl ?_; intro w1 z1 b1 s1)
                      | ((with_reducible refine wpList_here ?_); refine wpList_boxV (o := ⟨some 3, _, _, _, _, _⟩) rfl 26 (.tmp 1) rfl b.vals rfl _ s1 ?_; intro w2 z2 b2 s2; have y2 := z1.below b2; obtain ⟨k0, k1, k2, k3, k4, k5, k6, k7, k8, k9, k10, k11, k12⟩ := y2.cels; obtain ⟨m0, m1, m2, m3, m4, m5, m6, m7, m8, m9, m10, m11, m12⟩ := z2.cels))
                    clear y2 z2 z1 s1 s2 HSA HSB HNO k7 m7 k8 m8 k9 m9 k11 m11 k12 m12
                    rw [x0] at k6
                    rw [y0] at m6
                    go_wp2
                    go_ret
                    exact ⟨by rw [HS.out]; rfl, below_trans b1 b2⟩
                  · go_enter Tryd.func16, Tryd.ntmps16
                    go_upto_region 1 with (first
                      | ((with_reducible refine wpList_here ?_); refine wpList_boxV (o := ⟨some 2, _, _, _, _, _⟩) rfl 26 (.tmp 0) rfl a.vals rfl _ rfl ?_; intro w1 z1 b1 s1)
                      | ((with_reducible refine wpList_here ?_); refine wpList_boxV (o := ⟨some 3, _, _, _, _, _⟩) rfl 26 (.tmp 1) rfl b.vals rfl _ s1 ?_; intro w2 z2 b2 s2; have y2 := z1.below b2; obtain ⟨k0, k1, k2, k3, k4, k5, k6, k7, k8, k9, k10, k11, k12⟩ := y2.cels; obtain ⟨m0, m1, m2, m3, m4, m5, m6, m7, m8, m9, m10, m11, m12⟩ := z2.cels))
                    clear y2 z2 z1 s1 s2 HSA HSB HNO k7 m7 k8 m8 k9 m9 k11 m11 k12 m12
                    rw [x0] at k6
                    rw [y0] at m6
                    go_wp2
                    go_ret
                    exact ⟨by rw [HS.out]; rfl, below_trans b1 b2⟩
                | false =>
                  have i7 : a.syn = b.syn := by simpa using e7
                  clear e7
                  cases e8 : (a.acks != b.acks) with
                  | true =>
                    have HS : Hid (sameB a b = false) := Lib.hid (HNO.out fun hx => by
                      have h1 := hx.2.2.2.2.2.2.2.1
                      have h4 := bne_iff_ne.1 e8
                      exact h4 (by rw [h1]))
                    have hv : (a.acks = true ∧ b.acks = false) ∨ (a.acks = false ∧ b.acks = true) := by
                      revert e8
                      cases a.acks <;> cases b.acks <;> simp
                    clear e8
                    rcases hv with ⟨x0, y0⟩ | ⟨x0, y0⟩
                    · go_enter Tryd.func16, Tryd.ntmps16
                      go_upto_region 1 with (first
                        | ((with_reducible refine wpList_here ?_); refine wpList_boxV (o := ⟨some 2, _, _, _, _, _⟩) rfl 26 (.tmp 0) rfl a.vals rfl _ rfl ?_; intro w1 z1 b1 s1)
                        | ((with_reducible refine wpList_here ?_); refine wpList_boxV (o := ⟨some 3, _, _, _, _, _⟩) rfl 26 (.tmp 1) rfl b.vals rfl _ s1 ?_; intro w2 z2 b2 s2; have y2 := z1.below b2; obtain ⟨k0, k1, k2, k3, k4, k5, k6, k7, k8, k9, k10, k11, k12⟩ := y2.cels; obtain ⟨m0, m1, m2, m3, m4, m5, m6, m7, m8, m9, m10, m11, m12⟩ := z2.cels))
                      clear y2 z2 z1 s1 s2 HSA HSB HNO k8 m8 k9 m9 k11 m11 k12 m12
                      rw [i7] at k6
                      rw [x0] at k7
                      rw [y0] at m7
                      go_wp2
                      go_ret
                      exact ⟨by rw [HS.out]; rfl, below_trans b1 b2⟩
                    · go_enter Tryd.func16, Tryd.ntmps16
                      go_upto_region 1 with (first
                        | ((with_reducible refine wpList_here ?_); refine wpList_boxV (o := ⟨some 2, _, _, _, _, _⟩) rfl 26 (.tmp 0) rfl a.vals rfl _ rfl ?_; intro w1 z1 b1 s1)
                        | ((with_reducible refine wpList_here ?_); refine wpList_boxV (o := ⟨some 3, _, _, _, _, _⟩) rfl 26 (.tmp 1) rfl b.vals rfl _ s1 ?_; intro w2 z2 b2 s2; have y2 := z1.below b2; obtain ⟨k0, k1, k2, k3, k4, k5, k6, k7, k8, k9, k10, k11, k12⟩ := y2.cels; obtain ⟨m0, m1, m2, m3, m4, m5, m6, m7, m8, m9, m10, m11, m12⟩ := z2.cels))
                      clear y2 z2 z1 s1 s2 HSA HSB HNO k8 m8 k9 m9 k11 m11 k12 m12
                      rw [i7] at k6
                      rw [x0] at k7
                      rw [y0] at m7
                      go_wp2
                      go_ret
                      exact ⟨by rw [HS.out]; rfl, below_trans b1 b2⟩
                  | false =>
                    have i8 : a.acks = b.acks := by simpa using e8
                    clear e8
                    cases e9 : (a.fin != b.fin) with
                    | true =>
                      have HS : Hid (sameB a b = false) := Lib.hid (HNO.out fun hx => by
                        have h1 := hx.2.2.2.2.2.2.2.2.1
                        have h4 := bne_iff_ne.1 e9
                        exact h4 (by rw [h1]))
                      have hv : (a.fin = true ∧ b.fin = false) ∨ (a.fin = false ∧ b.fin = true) := by
                        revert e9
                        cases a.fin <;> cases b.fin <;> simp
                      clear e9
                      rcases hv with ⟨x0, y0⟩ | ⟨x0, y0⟩
                      · go_enter Tryd.func16, Tryd.ntmps16
                        go_upto_region 1 with (first
                          | ((with_reducible refine wpList_here ?_); refine wpList_boxV (o := ⟨some 2, _, _, _, _, _⟩) rfl 26 (.tmp 0) rfl a.vals rfl _ rfl ?_; intro w1 z1 b1 s1)
                          | ((with_reducible refine wpList_here ?_); refine wpList_boxV (o := ⟨some 3, _, _, _, _, _⟩) rfl 26 (.tmp 1) rfl b.vals rfl _ s1 ?_; intro w2 z2 b2 s2; have y2 := z1.below b2; obtain ⟨k0, k1, k2, k3, k4, k5, k6, k7, k8, k9, k10, k11, k12⟩ := y2.cels; obtain ⟨m0, m1, m2, m3, m4, m5, m6, m7, m8, m9, m10, m11, m12⟩ := z2.cels))
                        clear y2 z2 z1 s1 s2 HSA HSB HNO k9 m9 k11 m11 k12 m12
                        rw [i7] at k6
                        rw [i8] at k7
                        rw [x0] at k8
                        rw [y0] at m8
                        go_wp2
                        go_ret
                        exact ⟨by rw [HS.out]; rfl, below_trans b1 b2⟩
                      · go_enter Tryd.func16, Tryd.ntmps16
                        go_upto_region 1 with (first
                          | ((with_reducible refine wpList_here ?_); refine wpList_boxV (o := ⟨some 2, _, _, _, _, _⟩) rfl 26 (.tmp 0) rfl a.vals rfl _ rfl ?_; intro w1 z1 b1 s1)
                          | ((with_reducible refine wpList_here ?_); refine wpList_boxV (o := ⟨some 3, _, _, _, _, _⟩) rfl 26 (.tmp 1) rfl b.vals rfl _ s1 ?_; intro w2 z2 b2 s2; have y2 := z1.below b2; obtain ⟨k0, k1, k2, k3, k4, k5, k6, k7, k8, k9, k10, k11, k12⟩ := y2.cels; obtain ⟨m0, m1, m2, m3, m4, m5, m6, m7, m8, m9, m10, m11, m12⟩ := z2.cels))
                        clear y2 z2 z1 s1 s2 HSA HSB HNO k9 m9 k11 m11 k12 m12
                        rw [i7] at k6
                        rw [i8] at k7
                        rw [x0] at k8
                        rw [y0] at m8
                        go_wp2
                        go_ret
                        exact ⟨by rw [HS.out]; rfl, below_trans b1 b2⟩
                    | false =>
                      have i9 : a.fin = b.fin := by simpa using e9
                      clear e9
                      cases e10 : (a.rst != b.rst) with
                      | true =>
                        have HS : Hid (sameB a b = false) := Lib.hid (HNO.out fun hx => by
                          have h1 := hx.2.2.2.2.2.2.2.2.2.1
                          have h4 := bne_iff_ne.1 e10
                          exact h4 (by rw [h1]))
                        have hv : (a.rst = true ∧ b.rst = false) ∨ (a.rst = false ∧ b.rst = true) := by
                          revert e10
                          cases a.rst <;> cases b.rst <;> simp
                        clear e10
                        rcases hv with ⟨x0, y0⟩ | ⟨x0, y0⟩
                        · go_enter Tryd.func16, Tryd.ntmps16
                          go_upto_region 1 with (first
                            | ((with_reducible refine wpList_here ?_); refine wpList_boxV (o := ⟨some 2, _, _, _, _, _⟩) rfl 26 (.tmp 0) rfl a.vals rfl _ rfl ?_; intro w1 z1 b1 s1)
                            | ((with_reducible refine wpList_here ?_); refine wpList_boxV (o := ⟨some 3, _, _, _, _, _⟩) rfl 26 (.tmp 1) rfl b.vals rfl _ s1 ?_; intro w2 z2 b2 s2; have y2 := z1.below b2; obtain ⟨k0, k1, k2, k3, k4, k5, k6, k7, k8, k9, k10, k11, k12⟩ := y2.cels; obtain ⟨m0, m1, m2, m3, m4, m5, m6, m7, m8, m9, m10, m11, m12⟩ := z2.cels))
                          clear y2 z2 z1 s1 s2 HSA HSB HNO k11 m11 k12 m12
                          rw [i7] at k6
                          rw [i8] at k7
                          rw [i9] at k8
                          rw [x0] at k9
                          rw [y0] at m9
                          go_wp2
                          go_ret
                          exact ⟨by rw [HS.out]; rfl, below_trans b1 b2⟩
                        · go_enter Tryd.func16, Tryd.ntmps16
                          go_upto_region 1 with (first
                            | ((with_reducible refine wpList_here ?_); refine wpList_boxV (o := ⟨some 2, _, _, _, _, _⟩) rfl 26 (.tmp 0) rfl a.vals rfl _ rfl ?_; intro w1 z1 b1 s1)
                            | ((with_reducible refine wpList_here ?_); refine wpList_boxV (o := ⟨some 3, _, _, _, _, _⟩) rfl 26 (.tmp 1) rfl b.vals rfl _ s1 ?_; intro w2 z2 b2 s2; have y2 := z1.below b2; obtain ⟨k0, k1, k2, k3, k4, k5, k6, k7, k8, k9, k10, k11, k12⟩ := y2.cels; obtain ⟨m0, m1, m2, m3, m4, m5, m6, m7, m8, m9, m10, m11, m12⟩ := z2.cels))
                          clear y2 z2 z1 s1 s2 HSA HSB HNO k11 m11 k12 m12
                          rw [i7] at k6
                          rw [i8] at k7
                          rw [i9] at k8
                          rw [x0] at k9
                          rw [y0] at m9
                          go_wp2
                          go_ret
                          exact ⟨by rw [HS.out]; rfl, below_trans b1 b2⟩
                      | false =>
                        have i10 : a.rst = b.rst := by simpa using e10
                        clear e10
                        cases e11 : ((a.on : Int) != (b.on : Int)) with
                        | true =>
                          have HS : Hid (sameB a b = false) := Lib.hid (HNO.out fun hx => by
                            have h1 := hx.2.2.2.2.2.2.2.2.2.2.2.1
                            have h2 := HSA.out.opts.len
                            have h3 := HSB.out.opts.len
                            rw [h1] at h2
                            have h4 := bne_iff_ne.1 e11
                            omega)
                          go_enter Tryd.func16, Tryd.ntmps16
                          go_upto_region 1 with (first
                            | ((with_reducible refine wpList_here ?_); refine wpList_boxV (o := ⟨some 2, _, _, _, _, _⟩) rfl 26 (.tmp 0) rfl a.vals rfl _ rfl ?_; intro w1 z1 b1 s1)
                            | ((with_reducible refine wpList_here ?_); refine wpList_boxV (o := ⟨some 3, _, _, _, _, _⟩) rfl 26 (.tmp 1) rfl b.vals rfl _ s1 ?_; intro w2 z2 b2 s2; have y2 := z1.below b2; obtain ⟨k0, k1, k2, k3, k4, k5, k6, k7, k8, k9, k10, k11, k12⟩ := y2.cels; obtain ⟨m0, m1, m2, m3, m4, m5, m6, m7, m8, m9, m10, m11, m12⟩ := z2.cels))
                          clear y2 z2 z1 s1 s2 HSA HSB HNO k12 m12
                          rw [i7] at k6
                          rw [i8] at k7
                          rw [i9] at k8
                          rw [i10] at k9
                          go_wp2
                          go_ret
                          exact ⟨by rw [HS.out]; rfl, below_trans b1 b2⟩
                        | false =>
                          have i0 : a.src = b.src := by simpa using e0
                          have i1 : a.dst = b.dst := by simpa using e1
                          have i2 : a.sport = b.sport := by simpa using e2
                          have i3 : a.dport = b.dport := by simpa using e3
                          have i4 : (a.seq : Int) = (b.seq : Int) := by simpa using e4
                          have i5 : (a.ack : Int) = (b.ack : Int) := by simpa using e5
                          have i6 : a.win = b.win := by simpa using e6
                          have i11 : (a.on : Int) = (b.on : Int) := by simpa using e11
                          have HS : Hid (sameB a b = (eqOs a.os b.os && (a.ds == b.ds))) := Lib.hid (by
                            have h9 : a.on = b.on := by omega
                            have h4 : a.seq = b.seq := by omega
                            have h5 : a.ack = b.ack := by omega
                            cases hd : (a.ds == b.ds) with
                            | false =>
                              rw [Bool.and_false]
                              exact HNO.out fun hx => by
                                have h1 := hx.2.2.2.2.2.2.2.2.2.2.2.2
                                rw [beq_eq_false_iff_ne] at hd
                                exact hd h1
                            | true =>
                              rw [Bool.and_true]
                              have h10 : a.ds = b.ds := by simpa using hd
                              cases ho : eqOs a.os b.os with
                              | false =>
                                exact HNO.out fun hx => by
                                  have h1 := hx.2.2.2.2.2.2.2.2.2.2.2.1
                                  rw [(eqOs_iff _ _).2 h1] at ho
                                  cases ho
                              | true =>
                                exact (sameB_iff HSA.out HSB.out).2 ⟨i0, i1, i2, i3, h4, h5, i7, i8, i9, i10, i6, (eqOs_iff _ _).1 ho, h10⟩)
                          have h9 : a.on = b.on := by omega
                          have HOA := Lib.hid HSA.out.opts
                          have HOB := Lib.hid HSB.out.opts
                          rw [← h9] at HOB
                          clear HNO i0 i1 i2 i3 i4 i5 i6 i11
                          go_enter Tryd.func16, Tryd.ntmps16
                          go_upto_region 1 with (first
                            | ((with_reducible refine wpList_here ?_); refine wpList_boxV (o := ⟨some 2, _, _, _, _, _⟩) rfl 26 (.tmp 0) rfl a.vals rfl _ rfl ?_; intro w1 z1 b1 s1)
                            | ((with_reducible refine wpList_here ?_); refine wpList_boxV (o := ⟨some 3, _, _, _, _, _⟩) rfl 26 (.tmp 1) rfl b.vals rfl _ s1 ?_; intro w2 z2 b2 s2; have y2 := z1.below b2; obtain ⟨k0, k1, k2, k3, k4, k5, k6, k7, k8, k9, k10, k11, k12⟩ := y2.cels; obtain ⟨m0, m1, m2, m3, m4, m5, m6, m7, m8, m9, m10, m11, m12⟩ := z2.cels))
                          have b3 := below_trans b1 b2
                          clear z1 b1 s1 b2 s2
                          rw [i7] at k6
                          rw [i8] at k7
                          rw [i9] at k8
                          rw [i10] at k9
                          go_wp2
                          clear k0 k1 k2 k3 k4 k5 k6 k7 k8 k9 k10 k11 k12 i7 i8 i9 i10 m0 m1 m2 m3 m4 m5 m6 m7 m8 m9 m10 m11 m12
                          go_loopw [5] (fun i wr => ∃ j : Nat, j ≤ a.on ∧ i = .int .i64 j ∧ (∀ k, k < j → eqO (a.os.getD k (zK 0)) (b.os.getD k (zK 0)) = true) ∧ Own wr w.heap.size a.vals ∧ Own wr (w.heap.size + 1) b.vals ∧ Below w.heap.size w wr) (fun i _ => a.on - (intOf i).toNat)
                          case atStart => exact ⟨0, Nat.zero_le _, rfl, fun k hk => absurd hk (by omega), y2, z2, b3⟩
                          case round =>
                            obtain ⟨j, hj, rfl, heq, ho1, ho2, hb⟩ := hrel
                            have HE := Lib.hid heq
                            clear heq y2 z2 b3
                            have k11 := ho1.cels.c11
                            by_cases hlt : j < a.on
                            · have m11 := ho2.cels.c11
                              obtain ⟨p1, q1, e1, hc0⟩ := HOA.out.at_ hlt
                              obtain ⟨p2, q2, e2, hd0⟩ := HOB.out.at_ hlt
                              rw [e1] at k11
                              rw [e2] at m11
                              have hc := range_below hc0 hb
                              have hd := range_below hd0 hb
                              have HBAD := Lib.hid (fun hx => eqOs_bad (os := a.os) (ps := b.os) (j := j) hx)
                              have HOK : Hid (eqO (a.os.getD j (zK 0)) (b.os.getD j (zK 0)) = true → ∀ k, k < j + 1 → eqO (a.os.getD k (zK 0)) (b.os.getD k (zK 0)) = true) := Lib.hid (fun hx k hk => by
                                rcases Nat.lt_or_ge k j with h1 | h1
                                · exact HE.out k h1
                                · obtain rfl : k = j := by omega
                                  exact hx)
                              have HO1 := Lib.hid ho1
                              have HO2 := Lib.hid ho2
                              have hlt2 : j < b.on := by omega
                              clear hc0 hd0 e1 e2 ho1 ho2
                              generalize a.os.getD j (zK 0) = x at *
                              generalize b.os.getD j (zK 0) = y at *
                              have HC := Lib.hid hc
                              have HD := Lib.hid hd
                              have KM := Lib.hid m11
                              clear hc hd m11
                              go_wp2_with fail
                              have s0 : wr.drew.cell? ⟨w.heap.size, 11, none⟩ = some (.slice (some ⟨p1, q1, none⟩) a.on a.oc) ∧ wr.drew.cell? ⟨w.heap.size + 1, 11, none⟩ = some (.slice (some ⟨p2, q2, none⟩) b.on b.oc) ∧ wr.drew.rangeAt p1 (q1 + j * 14) x.vals ∧ wr.drew.rangeAt p2 (q2 + j * 14) y.vals := ⟨k11, KM.out, HC.out, HD.out⟩
                              refine wp_region_noPanic ?_
                              refine wp_region_held_drew (S := fun W => W.cell? ⟨w.heap.size, 11, none⟩ = some (.slice (some ⟨p1, q1, none⟩) a.on a.oc) ∧ W.cell? ⟨w.heap.size + 1, 11, none⟩ = some (.slice (some ⟨p2, q2, none⟩) b.on b.oc) ∧ W.rangeAt p1 (q1 + j * 14) x.vals ∧ W.rangeAt p2 (q2 + j * 14) y.vals) (by kernel_rfl) s0 (fun _ => ?_)
                              refine held_take (i := 0) (v := .pointer (some ⟨w.heap.size, 11, none⟩)) (some 95) rfl rfl (by kernel_rfl) (by kernel_rfl) (by kernel_rfl) (fun _ _ _ h => h) (Or.inl ⟨by rfl, fun W hW => by go_simp⟩) s0 ?_
                              simp only [Act.put, List.setIfInBounds_toArray, List.set_cons_zero, List.set_cons_succ]
                              refine held_take (i := 1) (v := .slice (some ⟨p1, q1, none⟩) a.on a.oc) (some 96) rfl rfl (by kernel_rfl) (by kernel_rfl) (by kernel_rfl) (fun _ _ _ h => h) (Or.inl ⟨by rfl, fun W hW => by have hc := hW.1; go_simp⟩) s0 ?_
                              simp only [Act.put, List.setIfInBounds_toArray, List.set_cons_zero, List.set_cons_succ]
                              refine held_take (i := 2) (v := .int .i64 (j : Int)) (some 97) rfl rfl (by kernel_rfl) (by kernel_rfl) (by kernel_rfl) (fun _ _ _ h => h) (Or.inl ⟨by rfl, fun W hW => by go_simp⟩) s0 ?_
                              simp only [Act.put, List.setIfInBounds_toArray, List.set_cons_zero, List.set_cons_succ]
                              refine held_take (i := 3) (v := .pointer (some ⟨p1, q1 + j * 14, none⟩)) (some 98) rfl rfl (by kernel_rfl) (by kernel_rfl) (by kernel_rfl) (fun _ _ _ h => h) (Or.inl ⟨by rfl, fun W hW => by go_simp⟩) s0 ?_
                              simp only [Act.put, List.setIfInBounds_toArray, List.set_cons_zero, List.set_cons_succ]
                              refine held_take (i := 4) (v := .agg x.vals.toArray) (some 99) rfl rfl (by kernel_rfl) (by kernel_rfl) (by kernel_rfl) (fun _ _ _ h => h) (yieldsIf_load_mid (by rfl) 52 (.tmp 98) rfl (p1) (q1 + j * 14) rfl x.vals _ (fun W hW => hW.2.2.1) Tryd.underlying52 rfl infoOpt) s0 ?_
                              simp only [Act.put, List.setIfInBounds_toArray, List.set_cons_zero, List.set_cons_succ]
                              refine held_take (i := 5) (v := .pointer (some ⟨w.heap.size + 1, 11, none⟩)) (some 100) rfl rfl (by kernel_rfl) (by kernel_rfl) (by kernel_rfl) (fun _ _ _ h => h) (Or.inl ⟨by rfl, fun W hW => by go_simp⟩) s0 ?_
                              simp only [Act.put, List.setIfInBounds_toArray, List.set_cons_zero, List.set_cons_succ]
                              refine held_take (i := 6) (v := .slice (some ⟨p2, q2, none⟩) b.on b.oc) (some 101) rfl rfl (by kernel_rfl) (by kernel_rfl) (by kernel_rfl) (fun _ _ _ h => h) (Or.inl ⟨by rfl, fun W hW => by have hc := hW.2.1; go_simp⟩) s0 ?_
                              simp only [Act.put, List.setIfInBounds_toArray, List.set_cons_zero, List.set_cons_succ]
                              refine held_take (i := 7) (v := .int .i64 (j : Int)) (some 102) rfl rfl (by kernel_rfl) (by kernel_rfl) (by kernel_rfl) (fun _ _ _ h => h) (Or.inl ⟨by rfl, fun W hW => by go_simp⟩) s0 ?_
                              simp only [Act.put, List.setIfInBounds_toArray, List.set_cons_zero, List.set_cons_succ]
                              refine held_take (i := 8) (v := .pointer (some ⟨p2, q2 + j * 14, none⟩)) (some 103) rfl rfl (by kernel_rfl) (by kernel_rfl) (by kernel_rfl) (fun _ _ _ h => h) (Or.inl ⟨by rfl, fun W hW => by go_simp⟩) s0 ?_
                              simp only [Act.put, List.setIfInBounds_toArray, List.set_cons_zero, List.set_cons_succ]
                              refine held_take (i := 9) (v := .agg y.vals.toArray) (some 104) rfl rfl (by kernel_rfl) (by kernel_rfl) (by kernel_rfl) (fun _ _ _ h => h) (yieldsIf_load_mid (by rfl) 52 (.tmp 103) rfl (p2) (q2 + j * 14) rfl y.vals _ (fun W hW => hW.2.2.2) Tryd.underlying52 rfl infoOpt) s0 ?_
                              simp only [Act.put, List.setIfInBounds_toArray, List.set_cons_zero, List.set_cons_succ]
                              refine held_take (i := 10) (v := .bool (!eqO x y)) (some 105) rfl rfl (by kernel_rfl) (by kernel_rfl) (by kernel_rfl) (fun _ _ _ h => h) (Or.inl ⟨by rfl, fun W hW => exec_neqO (.tmp 99) (.tmp 104) _ rfl x y rfl rfl⟩) s0 ?_
                              simp only [Act.put, List.setIfInBounds_toArray, List.set_cons_zero, List.set_cons_succ]
                              refine wpAnyH_done (by kernel_rfl) ?_ _
                              refine NoPanic.normal ?_
                              clear s0
                              cases hq : eqO x y with
                              | false =>
                                have HX := Lib.hid (HBAD.out hq)
                                clear hq
                                go_wp2_with fail
                                go_ret
                                exact ⟨by rw [HS.out, HX.out]; rfl, hb.drew⟩
                              | true =>
                                have HX := Lib.hid (HOK.out hq)
                                clear hq
                                go_wp2_with fail
                                go_roundw
                                case rel => exact ⟨j + 1, by omega, by go_num, HX.out, HO1.out, HO2.out, hb.drew⟩
                                case measure => simp [intOf]; omega
                            · obtain rfl : j = a.on := by omega
                              have HX := Lib.hid (eqOs_all HOA.out.len HOB.out.len HE.out)
                              have k12 := ho1.cels.c12
                              have m12 := ho2.cels.c12
                              have r1 := HSA.out.data.below hb
                              have r2 := HSB.out.data.below hb
                              clear ho1 ho2
                              go_wp2_with fail
                              refine (Same_any _ _ _ _ _ _ _ _ _ r1 r2).mono ?_
                              rintro e w4 ⟨rfl, q4, rfl⟩
                              go_wp2_with fail
                              go_ret
                              exact ⟨by rw [HS.out, HX.out]; rfl, below_drewN hb q4⟩
end Go.Proofs.YtbbpemndkphgeaaDoor

/- The document's Lose. Conditions: its sender stands; numbers of at most 2^40. -/
import Derived.Test.YtgcblajhdebigaaDsS
namespace Go.Proofs.Ytgcblajhdebigaa
set_option linter.unusedVariables false
set_option linter.unusedSimpArgs false
open Go.RowKit Go.Lib

section
variable {base : Nat} {w w' : World} {xb : Nat} {y : Ry} {d d' : Dq}
theorem Rf.relL (h : Rf base w xb y d) {L : Nat → Bool} (hL : ∀ k, d.una ≤ k → k < d.fin → d.L k = L k) : Rf base w xb y { d with L := L } :=
  ⟨h.blk, h.all, h.lost, fun k h1 h2 => (h.rel k h1 h2).trans (hL k h1 h2), h.lo⟩
/-- How many are lost newly, of those below k. -/
def newly (d : Dq) (f t k : Nat) : Nat := kept d.L f (min t k - f)
theorem newly_step {d : Dq} {f t k : Nat} : newly d f t (k + 1) = newly d f t k + if f ≤ k ∧ k < t then (if d.L k then 0 else 1) else 0 := by
  unfold newly
  by_cases h : f ≤ k ∧ k < t
  · rw [if_pos h, show min t (k + 1) - f = (min t k - f) + 1 from by omega, show kept d.L f (min t k - f + 1) = kept d.L f (min t k - f) + if d.L (f + (min t k - f)) then 0 else 1 from rfl, show f + (min t k - f) = k from by omega]
  · rw [if_neg h, show min t (k + 1) - f = min t k - f from by omega]
    rfl
theorem lose_at (d : Dq) (f t j : Nat) : (d.lose f t).L j = (d.L j || decide (f ≤ j ∧ j < t)) := rfl
theorem lose_start {f t : Nat} (h : d.una ≤ f) (H : Rf base w xb y d) : Rf base w xb y (d.lose f (min t d.una)) ∧ newly d f t d.una = 0 := by
  refine ⟨H.relL (fun k _ _ => ?_), ?_⟩
  · rw [decide_eq_false (by omega), Bool.or_false]
  · unfold newly
    rw [show min t d.una - f = 0 from by omega]
    rfl
theorem lose_end {f t : Nat} (h : t ≤ d.next ∨ f = t) (H : Rf base w xb y (d.lose f (min t d.next))) : Rf base w xb y (d.lose f t) ∧ newly d f t d.next = kept d.L f (t - f) := by
  refine ⟨H.relL (fun k _ _ => ?_), ?_⟩
  · show (d.L k || decide (f ≤ k ∧ k < min t d.next)) = (d.L k || decide (f ≤ k ∧ k < t))
    rcases h with h | h
    · rw [show min t d.next = t from by omega]
    · rw [decide_eq_false (by omega), decide_eq_false (by omega)]
  · unfold newly
    rw [show min t d.next - f = t - f from by omega]
theorem lose_same {f t k : Nat} (H : Rf base w xb y (d.lose f (min t k))) (h : ¬ (f ≤ k ∧ k < t) ∨ d.L k = true) : Rf base w xb y (d.lose f (min t (k + 1))) :=
  H.relL (fun j _ _ => by
    show (d.L j || decide (f ≤ j ∧ j < min t k)) = (d.L j || decide (f ≤ j ∧ j < min t (k + 1)))
    by_cases hj : j = k
    · subst hj
      rcases h with h | h
      · rw [decide_eq_false (by omega), decide_eq_false (by omega)]
      · rw [h]; rfl
    · by_cases hh : f ≤ j ∧ j < min t k
      · rw [decide_eq_true hh, decide_eq_true (by omega)]
      · rw [decide_eq_false hh, decide_eq_false (by omega)])
theorem lose_new {f t k : Nat} (H : Rf base w xb y (d.lose f (min t k))) (h : f ≤ k ∧ k < t) (hk : 1 ≤ k ∧ k < d.fin) (hu : 1 ≤ d.una) {g cap : Nat} (hv : y.lv = .slice (some ⟨g, 0, none⟩) d.all.length cap) (ho : (w.setCell ⟨g, k - 1, none⟩ (.bool true)).ownsRow base 4 1 y.lv d.all.length (bo (y.lb.set (k - 1) true))) :
    LeftR base w xb y (d.lose f (min t (k + 1))) (w.setCell ⟨g, k - 1, none⟩ (.bool true)) { y with lb := y.lb.set (k - 1) true } := by
  have hl : y.lb.length = d.all.length := H.lens
  refine H.setb hv ho rfl rfl (fun j h1 h2 => ?_)
  have h1' : d.una ≤ j := h1
  have h2' : j < d.all.length + 1 := h2
  have hkf : k < d.all.length + 1 := hk.2
  show _ = (d.L j || decide (f ≤ j ∧ j < min t (k + 1)))
  rw [rel_set (by omega)]
  by_cases hj : j = k
  · subst hj
    rw [if_pos rfl, decide_eq_true (by omega), Bool.or_true]
  · rw [if_neg (by omega), H.rel j h1 h2]
    show (d.L j || decide (f ≤ j ∧ j < min t k)) = _
    by_cases hh : f ≤ j ∧ j < min t k
    · rw [decide_eq_true hh, decide_eq_true (by omega)]
    · rw [decide_eq_false hh, decide_eq_false (by omega)]

def RLoseP (base : Nat) (w : World) (xb : Nat) (y : Ry) (d : Dq) (f t : Nat) (e : Ending) (w' : World) : Prop := ∃ y', e = .returned (.int .i64 (kept d.L f (t - f) : Int)) ∧ LeftR base w xb y (d.lose f t) w' y'
set_option maxRecDepth 8000 in
set_option maxHeartbeats 6400000 in
theorem lose_any (H : Rf base w xb y d) (hok : d.ok) (hc : d.fin ≤ 1073741824) {x g : Int} (hx : -1099511627776 ≤ x ∧ x ≤ 4294967296) (hg : -1099511627776 ≤ g ∧ g ≤ 1099511627776) {f t : Nat} (hf : d.lf x = f) (ht : d.lt x g = t) : Calls Try.prog 18 #[ptr xb, .int .i64 x, .int .i64 g] w (RLoseP base w xb y d f t) := by
  have c2 : w.cell? ⟨xb, 2, none⟩ = some (.int .i64 (d.una : Int)) := H.cell 2
  obtain ⟨l1, l2, l3⟩ := hok.lt x g
  rw [hf, ht] at l2 l3
  rw [hf] at l1
  have hun := hok.un
  have hne := hok.ne
  have hu1 := hok.u1
  have HIN : Hid (∀ k : Nat, d.una ≤ k → k < d.next → (f ≤ k ∧ k < t ↔ x ≤ (k : Int) ∧ (k : Int) - x < g)) := Lib.hid (fun k h1 h2 => by
    rw [← hf, ← ht]
    unfold Dq.lf Dq.lt
    omega)
  have HU := Lib.hid (And.intro hu1 (And.intro hun hne))
  have HST := Lib.hid (lose_start l1 (t := t) H)
  have HEN := Lib.hid (fun (w1 : World) (y1 : Ry) => lose_end (base := base) (w := w1) (xb := xb) (y := y1) (d := d) (f := f) (t := t) l3)
  have hH := Lib.hid H
  have HC := Lib.hid hc
  clear hf ht l1 l2 l3 H hok hc
  unfold ptr at *
  go_enter Try.func18, Try.ntmps18
  go_wp2_with fail
  go_loopw [7, 8] (fun s7 ix wr => ∃ (k : Nat) (y1 : Ry), s7 = .int .i64 (newly d f t k : Int) ∧ ix = .int .i64 (k : Int) ∧ d.una ≤ k ∧ k ≤ d.next ∧ newly d f t k ≤ k ∧ LeftR base w xb y (d.lose f (min t k)) wr y1) (fun _ ix _ => d.next - (intOf ix).toNat)
  case atStart => exact ⟨d.una, y, by rw [HST.out.2]; rfl, rfl, Nat.le_refl _, hun, by rw [HST.out.2]; omega, LeftR.refl HST.out.1⟩
  case round =>
    obtain ⟨k, y1, rfl, rfl, hk1, hk2, hkn, L1⟩ := hrel
    have HL1 := Lib.hid L1
    have c13 : wr.cell? ⟨xb, 3, none⟩ = some (.int .i64 (d.next : Int)) := L1.s.cell 3
    have c11 : wr.cell? ⟨xb, 1, none⟩ = some y1.lv := L1.s.cell 1
    clear L1 c2
    by_cases hlt : k < d.next
    · obtain ⟨gb, cap, hv, hb, hnc, hcm, x0, xf, xs⟩ := own_bool HL1.out.s.lost (j := k - 1) (by show k - 1 < d.all.length; unfold Dq.fin at hne; omega)
      have hnc' : d.all.length ≤ cap := hnc
      have hv' : y1.lv = .slice (some ⟨gb, 0, none⟩) d.all.length cap := hv
      rw [hv'] at c11
      have hrel : y1.lb.getD (k - 1) false = d.L k := by
        have h := HL1.out.s.rel k hk1 (by show k < d.fin; omega)
        rw [h]
        show (d.L k || decide (f ≤ k ∧ k < min t k)) = _
        rw [decide_eq_false (by omega), Bool.or_false]
      rw [hrel] at x0
      have hwk : IntKind.i64.wrap ((k : Int) - 1) = ((k - 1 : Nat) : Int) := by have := HC.out; rw [IntKind.wrap_i64]; omega
      have hwx : IntKind.i64.wrap ((k : Int) - x) = (k : Int) - x := by have := HC.out; rw [IntKind.wrap_i64]; omega
      have hkl : k - 1 < d.all.length := by unfold Dq.fin at hne; omega
      have hin := HIN.out k hk1 hlt
      have HNS : Hid (newly d f t (k + 1) = newly d f t k + if f ≤ k ∧ k < t then (if d.L k then 0 else 1) else 0) := Lib.hid newly_step
      have HSM : Hid (¬ (f ≤ k ∧ k < t) ∨ d.L k = true → LeftR base w xb y (d.lose f (min t (k + 1))) wr y1) := Lib.hid (fun h => ⟨lose_same HL1.out.s h, HL1.out.ch, HL1.out.new⟩)
      have HNW : Hid (f ≤ k ∧ k < t → ∃ y2, LeftR base w xb y (d.lose f (min t (k + 1))) (wr.setCell ⟨gb, k - 1, none⟩ (.bool true)) y2) := Lib.hid (fun h => ⟨_, HL1.out.then_ (lose_new HL1.out.s h ⟨by omega, by omega⟩ hu1 hv' (xs true))⟩)
      have HK := Lib.hid (And.intro hk1 (And.intro hlt (And.intro hkn hk2)))
      have xfk := xf (k - 1)
      have hwn : IntKind.i64.wrap ((newly d f t k : Int) + 1) = (newly d f t k : Int) + 1 := by have := HC.out; rw [IntKind.wrap_i64]; omega
      have hltI : (k : Int) < (d.next : Int) := by omega
      have hkb : k < 1073741824 := by have := HC.out; omega
      clear hrel hb hnc hcm hv hv' xs xf hk1 hk2 hkn HIN hlt
      generalize hln : d.all.length = n at *
      generalize hkm : k - 1 = km at *
      generalize hnk : newly d f t k = nk at *
      have HNK := Lib.hid hnk
      have HKM := Lib.hid hkm
      clear hln hkm hnk
      by_cases h1 : x ≤ (k : Int)
      · by_cases h2 : (k : Int) - x < g
        · have hInR := hin.2 ⟨h1, h2⟩
          have HIR := Lib.hid hInR
          clear hin hInR
          by_cases h3 : x < 0
          · have h3d : decide (x < 0) = true := decide_eq_true h3
            cases hL : d.L k with
            | true =>
              rw [hL] at x0
              have HL := Lib.hid hL
              clear hL
              go_wp2_with fail
              go_roundw
              case rel => exact ⟨k + 1, y1, by rw [HNS.out, if_pos HIR.out, HL.out]; simp, by go_num, by have := HK.out; omega, by have := HK.out; omega, by rw [HNS.out, if_pos HIR.out, HL.out]; have := HK.out; simp; omega, HSM.out (.inr HL.out)⟩
              case measure => simp [intOf]; omega
            | false =>
              rw [hL] at x0
              have HL := Lib.hid hL
              obtain ⟨y2, hl2⟩ := HNW.out HIR.out
              have HL2 := Lib.hid hl2
              clear hL hl2
              go_wp2_with fail
              go_roundw
              case rel => exact ⟨k + 1, y2, by rw [HNS.out, if_pos HIR.out, HL.out]; go_num, by go_num, by have := HK.out; omega, by have := HK.out; omega, by rw [HNS.out, if_pos HIR.out, HL.out]; have := HK.out; simp; omega, HL2.out⟩
              case measure => simp [intOf]; omega
          · have h3n : (0 : Int) ≤ x := by omega
            have h3d : decide (x < 0) = false := decide_eq_false h3
            cases hL : d.L k with
            | true =>
              rw [hL] at x0
              have HL := Lib.hid hL
              clear hL
              go_wp2_with fail
              go_roundw
              case rel => exact ⟨k + 1, y1, by rw [HNS.out, if_pos HIR.out, HL.out]; simp, by go_num, by have := HK.out; omega, by have := HK.out; omega, by rw [HNS.out, if_pos HIR.out, HL.out]; have := HK.out; simp; omega, HSM.out (.inr HL.out)⟩
              case measure => simp [intOf]; omega
            | false =>
              rw [hL] at x0
              have HL := Lib.hid hL
              obtain ⟨y2, hl2⟩ := HNW.out HIR.out
              have HL2 := Lib.hid hl2
              clear hL hl2
              go_wp2_with fail
              go_roundw
              case rel => exact ⟨k + 1, y2, by rw [HNS.out, if_pos HIR.out, HL.out]; go_num, by go_num, by have := HK.out; omega, by have := HK.out; omega, by rw [HNS.out, if_pos HIR.out, HL.out]; have := HK.out; simp; omega, HL2.out⟩
              case measure => simp [intOf]; omega
        · have h2n : ¬ ((k : Int) - x < g) := h2
          have h2d : decide ((k : Int) - x < g) = false := decide_eq_false h2
          have hNR : ¬ (f ≤ k ∧ k < t) := fun h => h2 (hin.1 h).2
          have HNR := Lib.hid hNR
          clear hin hNR
          by_cases h3 : x < 0
          · have h3d : decide (x < 0) = true := decide_eq_true h3
            have h3n : ¬ ((0 : Int) ≤ x) := by omega
            go_wp2_with fail
            go_roundw
            case rel => exact ⟨k + 1, y1, by rw [HNS.out, if_neg HNR.out]; simp, by go_num, by have := HK.out; omega, by have := HK.out; omega, by rw [HNS.out, if_neg HNR.out]; have := HK.out; omega, HSM.out (.inl HNR.out)⟩
            case measure => simp [intOf]; omega
          · have h3n : (0 : Int) ≤ x := by omega
            have h3d : decide (x < 0) = false := decide_eq_false h3
            go_wp2_with fail
            go_roundw
            case rel => exact ⟨k + 1, y1, by rw [HNS.out, if_neg HNR.out]; simp, by go_num, by have := HK.out; omega, by have := HK.out; omega, by rw [HNS.out, if_neg HNR.out]; have := HK.out; omega, HSM.out (.inl HNR.out)⟩
            case measure => simp [intOf]; omega
      · have h1n : ¬ (x ≤ (k : Int)) := h1
        have hNR : ¬ (f ≤ k ∧ k < t) := fun h => h1 (hin.1 h).1
        have HNR := Lib.hid hNR
        clear hin hNR
        go_wp2_with fail
        go_roundw
        case rel => exact ⟨k + 1, y1, by rw [HNS.out, if_neg HNR.out]; simp, by go_num, by have := HK.out; omega, by have := HK.out; omega, by rw [HNS.out, if_neg HNR.out]; have := HK.out; omega, HSM.out (.inl HNR.out)⟩
        case measure => simp [intOf]; omega
    · obtain rfl : k = d.next := by omega
      have HE := Lib.hid (HEN.out wr y1 HL1.out.s)
      have HX : Hid (LeftR base w xb y (d.lose f t) wr y1) := Lib.hid ⟨HE.out.1, HL1.out.ch, HL1.out.new⟩
      have hlt' : ¬ ((d.next : Int) < (d.next : Int)) := by omega
      clear c11
      go_wp2_with fail
      go_ret
      exact ⟨y1, by rw [← HE.out.2]; rfl, HX.out⟩
end
end Go.Proofs.Ytgcblajhdebigaa

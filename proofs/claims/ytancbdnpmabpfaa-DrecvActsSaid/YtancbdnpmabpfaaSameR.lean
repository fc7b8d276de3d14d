/- The contract of the document's own comparison of bytes. Condition: both slices hold bytes. -/
import Derived.Test.YtancbdnpmabpfaaBase
namespace Go.Proofs.Ytancbdnpmabpfaa
set_option linter.unusedVariables false
set_option linter.unusedSimpArgs false
open Go.RowKit

theorem ne_at {l r : List UInt8} {k : Nat} (h : (l.getD k 0) ≠ (r.getD k 0)) : (l == r) = false := by
  rw [beq_eq_false_iff_ne]
  rintro rfl
  exact h rfl
theorem eq_all {l r : List UInt8} (hl : l.length = r.length) (h : ∀ k, k < l.length → l.getD k 0 = r.getD k 0) : (l == r) = true := by
  rw [beq_iff_eq]
  apply List.ext_getElem hl
  intro i h1 h2
  have := h i h1
  simpa [h1, h2] using this

set_option maxHeartbeats 400000 in
theorem Same_any (A B : Option Addr) (n c m d : Nat) (l r : List UInt8) (w : World) (h : RB w A n c l) (h' : RB w B m d r) :
    Calls Try.prog 19 #[.slice A n c, .slice B m d] w fun e w' => e = .returned (.bool (l == r)) ∧ ∃ q, w' = w.drewN q := by
  have hl := Lib.hid h.len
  have hr := Lib.hid h'.len
  have hn := h.max
  have hn' := h.cap
  have hm := h'.max
  have hm' := h'.cap
  by_cases hnm : n = m
  · subst hnm
    go_enter Try.func19, Try.ntmps19
    go_wp2
    go_loopw [5] (fun i wr => ∃ k : Nat, k ≤ n ∧ i = .int .i64 k ∧ (∀ j, j < k → l.getD j 0 = r.getD j 0) ∧ ∃ q, wr = w.drewN q) (fun i _ => n - (intOf i).toNat)
    case atStart => exact ⟨0, Nat.zero_le _, rfl, fun j hj => absurd hj (by omega), 0, rfl⟩
    case round =>
      obtain ⟨k, hk, rfl, heq, q, rfl⟩ := hrel
      have HE := Lib.hid heq
      clear heq
      by_cases hlt : k < n
      · obtain ⟨b, o, rfl, hc⟩ := h.at_ hlt
        obtain ⟨b', o', rfl, hc'⟩ := h'.at_ hlt
        clear h h'
        have hx := (l.getD k 0).toNat_lt
        have hy := (r.getD k 0).toNat_lt
        by_cases hxy : l.getD k 0 = r.getD k 0
        · have HX := Lib.hid hxy
          have hne : (((l.getD k 0).toNat : Int) != ((r.getD k 0).toNat : Int)) = false := by rw [hxy]; simp
          clear hxy
          generalize (l.getD k 0).toNat = x at *
          generalize (r.getD k 0).toNat = y at *
          go_wp2
          go_quiet (fail)
          go_wp2
          go_roundw
          case rel =>
            refine ⟨k + 1, by omega, by go_num, fun j hj => ?_, _, rfl⟩
            rcases Nat.lt_or_ge j k with hj' | hj'
            · exact HE.out j hj'
            · obtain rfl : j = k := by omega
              exact HX.out
          case measure => simp [intOf]; omega
        · have HX := Lib.hid (ne_at hxy)
          have hne : (((l.getD k 0).toNat : Int) != ((r.getD k 0).toNat : Int)) = true := by
            rw [bne_iff_ne]
            intro e
            exact hxy (UInt8.toNat_inj.1 (by omega))
          clear hxy
          generalize (l.getD k 0).toNat = x at *
          generalize (r.getD k 0).toNat = y at *
          go_wp2
          go_quiet (fail)
          go_wp2
          go_ret
          exact ⟨by rw [HX.out]; rfl, _, World.drewN_drewN ..⟩
      · have HX := Lib.hid (eq_all (l := l) (r := r) (by rw [hl.out, hr.out]) (fun j hj => HE.out j (by rw [hl.out] at hj; omega)))
        go_wp2
        go_ret
        exact ⟨by rw [HX.out]; rfl, _, rfl⟩
  · have HX : Hid ((l == r) = false) := by
      show (l == r) = false
      rw [beq_eq_false_iff_ne]
      rintro rfl
      exact hnm (hl.out.symm.trans hr.out)
    have hne : ((n : Int) != (m : Int)) = true := by rw [bne_iff_ne]; omega
    go_enter Try.func19, Try.ntmps19
    go_wp2
    go_ret
    exact ⟨by rw [HX.out]; rfl, 0, rfl⟩

theorem Same_yes (A B : Option Addr) (n c m d : Nat) (l : List UInt8) (w : World) (h : RB w A n c l) (h' : RB w B m d l) :
    Calls Try.prog 19 #[.slice A n c, .slice B m d] w (Yes w) :=
  (Same_any A B n c m d l l w h h').mono fun e w' ⟨he, q, hq⟩ => by
    subst hq
    exact ⟨by rw [he]; simp, below_drewN (Below.refl _ _) q⟩
end Go.Proofs.Ytancbdnpmabpfaa

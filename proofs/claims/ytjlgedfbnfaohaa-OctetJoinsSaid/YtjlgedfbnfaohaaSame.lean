/- Contracts of the comparisons of bytes. Condition: both slices hold bytes. -/
import Derived.Test.YtjlgedfbnfaohaaOne
import Derived.Laws.BytesArg
import Derived.Laws.IdiomStrings
namespace Go.Proofs.Ytjlgedfbnfaohaa
set_option linter.unusedVariables false
open Go.RowKit

theorem ne_at {l r : List UInt8} {k : Nat} (h : (l.getD k 0) ≠ (r.getD k 0)) : (l == r) = false := by
  rw [beq_eq_false_iff_ne]
  rintro rfl
  exact h rfl
theorem eq_all {l r : List UInt8} (hl : l.length = r.length) (h : ∀ k, k < l.length → l.getD k 0 = r.getD k 0) : (l == r) = true := by
  rw [beq_iff_eq]
  apply List.ext_getElem hl
  intro i h1 h2
  have := h i h1
  simpa [h1, h2] using this

set_option maxHeartbeats 400000 in
theorem Same_any (A B : Option Addr) (n c m d : Nat) (l r : List UInt8) (w : World) (h : RB w A n c l) (h' : RB w B m d r) :
    Calls Try.prog 11 #[.slice A n c, .slice B m d] w fun e w' => e = .returned (.bool (l == r)) ∧ ∃ q, w' = w.drewN q := by
  have hl := Lib.hid h.len
  have hr := Lib.hid h'.len
  have hn := h.max
  have hn' := h.cap
  have hm := h'.max
  have hm' := h'.cap
  by_cases hnm : n = m
  · subst hnm
    go_enter Try.func11, Try.ntmps11
    go_wp2
    go_loopw [5] (fun i wr => ∃ k : Nat, k ≤ n ∧ i = .int .i64 k ∧ (∀ j, j < k → l.getD j 0 = r.getD j 0) ∧ ∃ q, wr = w.drewN q) (fun i _ => n - (intOf i).toNat)
    case atStart => exact ⟨0, Nat.zero_le _, rfl, fun j hj => absurd hj (by omega), 0, rfl⟩
    case round =>
      obtain ⟨k, hk, rfl, heq, q, rfl⟩ := hrel
      have HE := Lib.hid heq
      clear heq
      by_cases hlt : k < n
      · obtain ⟨b, o, rfl, hc⟩ := h.at_ hlt
        obtain ⟨b', o', rfl, hc'⟩ := h'.at_ hlt
        clear h h'
        have hx := (l.getD k 0).toNat_lt
        have hy := (r.getD k 0).toNat_lt
        by_cases hxy : l.getD k 0 = r.getD k 0
        · have HX := Lib.hid hxy
          have hne : (((l.getD k 0).toNat : Int) != ((r.getD k 0).toNat : Int)) = false := by rw [hxy]; simp
          clear hxy
          generalize (l.getD k 0).toNat = x at *
          generalize (r.getD k 0).toNat = y at *
          go_wp2
          go_quiet (fail)
          go_wp2
          go_roundw
          case rel =>
            refine ⟨k + 1, by omega, by go_num, fun j hj => ?_, _, rfl⟩
            rcases Nat.lt_or_ge j k with hj' | hj'
            · exact HE.out j hj'
            · obtain rfl : j = k := by omega
              exact HX.out
          case measure => simp [intOf]; omega
        · have HX := Lib.hid (ne_at hxy)
          have hne : (((l.getD k 0).toNat : Int) != ((r.getD k 0).toNat : Int)) = true := by
            rw [bne_iff_ne]
            intro e
            exact hxy (UInt8.toNat_inj.1 (by omega))
          clear hxy
          generalize (l.getD k 0).toNat = x at *
          generalize (r.getD k 0).toNat = y at *
          go_wp2
          go_quiet (fail)
          go_wp2
          go_ret
          exact ⟨by rw [HX.out]; rfl, _, World.drewN_drewN ..⟩
      · have HX := Lib.hid (eq_all (l := l) (r := r) (by rw [hl.out, hr.out]) (fun j hj => HE.out j (by rw [hl.out] at hj; omega)))
        go_wp2
        go_ret
        exact ⟨by rw [HX.out]; rfl, _, rfl⟩
  · have HX : Hid ((l == r) = false) := by
      show (l == r) = false
      rw [beq_eq_false_iff_ne]
      rintro rfl
      exact hnm (hl.out.symm.trans hr.out)
    have hne : ((n : Int) != (m : Int)) = true := by rw [bne_iff_ne]; omega
    go_enter Try.func11, Try.ntmps11
    go_wp2
    go_ret
    exact ⟨by rw [HX.out]; rfl, 0, rfl⟩
/-- What 'string(b)' gives. -/
theorem RB.text {P : Program} {w : World} {A : Option Addr} {n c : Nat} {l : List UInt8} (h : RB w A n c l) (src e dst : TypeId) (hs : P.underlying src = some (.slice e)) (he : P.underlying e = some (.int .u8)) (hd : P.underlying dst = some .string) :
    (convert src dst (.slice A n c)).run P w = .ok (.string ⟨l.toArray⟩) w := by
  obtain ⟨rfl, h2, h3, h4⟩ := h
  rcases Nat.eq_zero_or_pos l.length with h0 | h0
  · obtain rfl : l = [] := List.eq_nil_of_length_eq_zero h0
    cases A with
    | none => exact run_convert_bytes_nil (P := P) w src e hs he _ _ dst hd
    | some a => exact run_convert_bytes_back (P := P) w src dst e a c [] hs he hd (fun j hj => absurd hj (by simp))
  · obtain ⟨b, o, rfl, hc⟩ := h4 h0
    refine run_convert_bytes_back (P := P) w src dst e _ c l hs he hd (fun j hj => ?_)
    rw [Addr.add_lit, hc j hj]
    simp [hj]

theorem Equal_any (A B : Option Addr) (n c m d : Nat) (l r : List UInt8) (w : World) (h : RB w A n c l) (h' : RB w B m d r) :
    Calls Try.prog 20 #[.slice A n c, .slice B m d] w fun e w' => e = .returned (.bool (l == r)) ∧ w = w' := by
  have h1 := h.text (P := Try.prog) 22 5 9 Try.underlying22 Try.underlying5 Try.underlying9
  have h2 := h'.text (P := Try.prog) 22 5 9 Try.underlying22 Try.underlying5 Try.underlying9
  go_enter Try.func20, Try.ntmps20
  go_wp2
  go_ret
  exact ⟨by rfl, rfl⟩
end Go.Proofs.Ytjlgedfbnfaohaa

/- The walks of the laws SumOf, SumGood, SumChanged: for every argument each returns true, and writes nothing that was there. -/
import Derived.Test.YtopjlmigpphmoaaSameR
import Derived.Test.YtopjlmigpphmoaaSumR
import Derived.Test.YtopjlmigpphmoaaSumP
namespace Go.Proofs.Ytopjlmigpphmoaa
set_option linter.unusedVariables false
open Go.RowKit

theorem wakes_any (w : World) : Calls Try.prog 8 #[] w fun e w' => e = .returned (.bool true) ∧ Below w.heap.size w w' := by
  have hr := RB.lit w [0, 1, 242, 3, 244, 245, 246, 247] 5 (by unfold maxLen; simp)
  have he : of [0, 1, 242, 3, 244, 245, 246, 247] = 8717 := by decide
  have HO : Hid (∀ t, Calls Try.prog 10 _ _ _) := fun t => Of_one (g := (w.heap.size + 1)) (t := t) (by simp) hr (by simp)
  rw [he] at HO
  go_enter Try.func8, Try.ntmps8
  go_wp2_with fail
  refine (HO.out _).mono ?_
  rintro e w' ⟨rfl, rfl⟩
  go_wp2
  go_ret
  exact ⟨rfl, (below_a w _).alloc (by simp) _⟩

set_option maxRecDepth 100000 in
set_option maxHeartbeats 1600000 in
theorem OfLaw_any (A : Option Addr) (n c : Nat) (ps : List (List UInt8)) (w : World) (h : Parts w A n c ps) :
    Calls Try.prog 3 #[.slice A n c] w (Held w) := by
  have hmx := h.max
  have hcp := h.cap
  have hpl := Lib.hid h.len
  by_cases hn : 50 < n
  · go_enter Try.func3, Try.ntmps3
    go_wp2_with (go_at_call 8; refine (wakes_any _).mono ?_; rintro e w1 ⟨rfl, hb1⟩)
    go_ret
    exact ⟨rfl, hb1⟩
  · go_enter Try.func3, Try.ntmps3
    go_wp2_with fail
    refine (wakes_any _).mono ?_
    rintro e w1 ⟨rfl, hb1⟩
    have h1 := h.below hb1
    clear h
    go_wp2_with fail
    go_loopw [3, 14] (fun v i wr => ∃ j : Nat, j ≤ n ∧ i = .int .i64 j ∧ tl ps j ≤ 200 * j ∧ wr.ownsRow w1.heap.size 5 1 v (tl ps j) (bv (fl ps j)) ∧ Below w1.heap.size w1 wr) (fun _ i _ => n - (intOf i).toNat)
    case atStart => exact ⟨0, Nat.zero_le _, rfl, Nat.le_refl _, World.ownsRow_nil _ _ _ _, Below.refl _ _⟩
    case round =>
      obtain ⟨j, hj, rfl, hT, hown, hb⟩ := hrel
      by_cases hlt : j < n
      · have hS := tl_step ps j (by rw [hpl.out]; exact hlt)
        have hF := fl_step ps j (by rw [hpl.out]; exact hlt)
        obtain ⟨b, o, B, m, d, rfl, hc, hr⟩ := (h1.below hb).at_ hlt
        rw [hr.len] at hS
        have HS := Lib.hid hS
        have HF := Lib.hid hF
        clear hS hF h1
        by_cases hm : 200 < m
        · go_wp2_with fail
          go_ret
          exact ⟨rfl, below_trans hb1 hb⟩
        · generalize tl ps j = x at *
          go_wp2_with (at_builtin; refine wpList_app_more rfl (.tmp 23) (.tmp 27) 24 5 rfl Try.underlying24 infoByte _ x (fl ps j) rfl hown hb B m d (ps.getD j []) rfl hr (by omega) ?_; intro A' c' w2 _ hown' hs2)
          rw [← HF.out, ← HS.out] at hown'
          clear hown hb hr
          go_wp2
          go_roundw
          case rel => exact ⟨j + 1, by omega, by go_num, by rw [HS.out]; omega, by rw [HS.out] at hown' ⊢; exact hown', hs2⟩
          case measure => simp [intOf]; omega
      · obtain rfl : j = n := by omega
        obtain ⟨B, d, rfl, hr, _⟩ := RB.of_own hown
        have h2 := h1.below hb
        have hb2 := below_trans hb1 hb
        have hm1 := hr.max
        have hm2 := hr.cap
        have hT2 : tl ps j ≤ 1099511627776 := by omega
        generalize hm0 : tl ps j = m at *
        have HM := Lib.hid hm0
        clear hown h1 hb hb1 hm0
        go_wp2_with (at_builtin; refine wpList_app_lit rfl (.tmp 30) (.tmp 31) 24 5 rfl Try.underlying24 infoByte rfl B m d (fl ps j) rfl hr (by omega) ?_; intro A1 c1 w2 r2 _ s2)
        refine (SPut_any A1 m c1 (m + m % 2 + 2) (fl ps j) w2 r2 (by omega) rfl).mono ?_
        rintro e w3 ⟨A3, c3, rfl, p3, _, s3⟩
        have r3 := r2.below s3
        have h3 := (h2.below s2).below s3
        have q3 := (hr.below s2).below s3
        have hb3 := below_trans (below_trans hb2 s2) s3
        clear r2 h2 hr hb2 s2 s3
        go_wp2_with fail
        refine (Of_any A j c ps w3 h3 (by rw [HM.out]; exact hT2)).mono ?_
        rintro e w' ⟨rfl, rfl⟩
        go_wp2_with fail
        refine (ROf_any B m d (fl ps j) w3 q3 (by omega)).mono ?_
        rintro e w' ⟨rfl, rfl⟩
        generalize hof : of (fl ps j) = s at *
        clear hof
        go_wp2_with fail
        refine (RPut_any B m d (m + m % 2 + 2) (fl ps j) w3 q3 (by omega) rfl).mono ?_
        rintro e w4 ⟨A4, c4, rfl, p4, _, s4⟩
        have p3' := p3.below s4
        have r4 := r3.below s4
        have q4 := q3.below s4
        have hb4 := below_trans hb3 s4
        clear p3 r3 q3 hb3 s4 h3
        generalize m + m % 2 + 2 = mm at *
        go_wp2_with fail
        refine (Same_yes _ _ _ _ _ _ _ w4 p3' p4).mono ?_
        rintro e w5 ⟨rfl, s5⟩
        have r5 := r4.below s5
        have q5 := q4.below s5
        have hb5 := below_trans hb4 s5
        clear p3' p4 r4 q4 hb4 s5
        go_wp2_with fail
        refine (Same_yes _ _ _ _ _ _ _ w5 r5 q5).mono ?_
        rintro e w6 ⟨rfl, s6⟩
        have hb6 := below_trans hb5 s6
        clear r5 q5 hb5 s6
        go_wp2
        go_ret
        exact ⟨rfl, hb6⟩
end Go.Proofs.Ytopjlmigpphmoaa

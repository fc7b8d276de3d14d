/- The walk of the law HmacJoins. Condition: the table holds FIPS 180-4's constants. -/
import Derived.Test.YtjjpflnnklealaaDoorHmW
namespace Go.Proofs.YtjjpflnnklealaaDoor
set_option linter.unusedVariables false
open Go.RowKit

set_option maxRecDepth 8000 in
set_option maxHeartbeats 1600000 in
theorem HJoins_any (B : Option Addr) (m d : Nat) (k : List UInt8) (A : Option Addr) (n c : Nat) (ps : List (List UInt8)) (w : World) (hk : RB w B m d k) (h : Parts w A n c ps) (hT : Tab w) :
    Calls Tryd.prog 5 #[.slice B m d, .slice A n c] w (Held w) := by
  have hmx := h.max
  have hcp := h.cap
  have hmd := hk.max
  have hcd := hk.cap
  have hpl := Lib.hid h.len
  by_cases hm : 300 < m
  · go_enter Tryd.func5, Tryd.ntmps5
    go_wp2_with (go_at_call 7; refine (hwakes_any _ hT).mono ?_; rintro e w1 ⟨rfl, hb1⟩)
    go_ret
    exact ⟨rfl, hb1⟩
  by_cases hn : 20 < n
  · go_enter Tryd.func5, Tryd.ntmps5
    go_wp2_with (go_at_call 7; refine (hwakes_any _ hT).mono ?_; rintro e w1 ⟨rfl, hb1⟩)
    go_ret
    exact ⟨rfl, hb1⟩
  · go_enter Tryd.func5, Tryd.ntmps5
    go_wp2_with fail
    refine (hwakes_any _ hT).mono ?_
    rintro e w1 ⟨rfl, hb1⟩
    have h1 := h.below hb1
    have k1 := hk.below hb1
    have t1 := hT.below hb1
    clear h hT hk
    go_wp2_with fail
    go_loopw [5, 19] (fun v i wr => ∃ j : Nat, j ≤ n ∧ i = .int .i64 j ∧ tl ps j ≤ 100 * j ∧ wr.ownsRow w1.heap.size 5 1 v (tl ps j) (bv (fl ps j)) ∧ Below w1.heap.size w1 wr) (fun _ i _ => n - (intOf i).toNat)
    case atStart => exact ⟨0, Nat.zero_le _, rfl, Nat.le_refl _, World.ownsRow_nil _ _ _ _, Below.refl _ _⟩
    case round =>
      obtain ⟨j, hj, rfl, hTl, hown, hb⟩ := hrel
      by_cases hlt : j < n
      · have hS := tl_step ps j (by rw [hpl.out]; exact hlt)
        have hF := fl_step ps j (by rw [hpl.out]; exact hlt)
        obtain ⟨b, o, C, q, f, rfl, hc, hr⟩ := (h1.below hb).at_ hlt
        rw [hr.len] at hS
        have HS := Lib.hid hS
        have HF := Lib.hid hF
        clear hS hF h1 k1 t1
        by_cases hq : 100 < q
        · go_wp2_with fail
          go_ret
          exact ⟨rfl, below_trans hb1 hb⟩
        · generalize tl ps j = x at *
          go_wp2_with (at_builtin; refine wpList_app_more rfl (.tmp 28) (.tmp 32) 22 5 rfl Tryd.underlying22 infoByte _ x (fl ps j) rfl hown hb C q f (ps.getD j []) rfl hr (by omega) ?_; intro A' c' w2 _ hown' hs2)
          rw [← HF.out] at hown'
          clear hown hb hr
          go_wp2_with fail
          go_roundw
          case rel => exact ⟨j + 1, by omega, by go_num, by rw [HS.out]; omega, by rw [HS.out]; exact hown', hs2⟩
          case measure => simp [intOf]; omega
      · obtain rfl : j = n := by omega
        obtain ⟨A2, c2, rfl, r2, _⟩ := RB.of_own hown
        have hp := h1.below hb
        have k2 := k1.below hb
        have t2 := t1.below hb
        have hl : tl ps j ≤ 2000 := by omega
        have hbb := below_trans hb1 hb
        have HD := Lib.hid fun W => hm_same W k (fl ps j)
        clear hown h1 t1 k1 hb hb1
        have HC1 := Lib.hid (hmac_any B m d k A j c ps wr k2 hp (by omega) (by omega) (by omega) t2)
        generalize fl ps j = x at *
        generalize tl ps j = q at *
        clear hp
        go_wp2_with fail
        refine HC1.out.mono ?_
        rintro e w3 ⟨rfl, b3⟩
        have HC2 : Hid (∀ t, Calls Tryd.prog 8 _ _ _) := fun t => hmac_one (g := w3.heap.size) (t := t) rfl (k2.below b3) (r2.below b3) (by omega) (by omega) (t2.below b3)
        clear HC1 r2 t2 k2
        have heq := HD.out
        go_wp2_with fail
        refine (HC2.out _).mono ?_
        rintro e w4 ⟨rfl, b4⟩
        have b5 := below_trans (below_trans hbb b3) b4
        clear b3 b4 hbb
        go_wp2_with fail
        go_ret
        exact ⟨rfl, b5⟩
end Go.Proofs.YtjjpflnnklealaaDoor

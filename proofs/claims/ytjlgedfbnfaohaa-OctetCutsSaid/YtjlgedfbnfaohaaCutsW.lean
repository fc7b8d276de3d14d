/- The walk of the law OctetCuts: for every slice that holds bytes and every count it returns true, and writes nothing that was there. -/
import Derived.Test.YtjlgedfbnfaohaaStep
namespace Go.Proofs.Ytjlgedfbnfaohaa
set_option linter.unusedVariables false
open Go.RowKit

theorem Cut_int (A : Option Addr) (n c j : Nat) (m : Int) (l : List UInt8) (w : World) (h : RB w A n c l) (hm : m = (j : Int)) (hj : j ≤ n) (ht : n ≤ 549755813888) :
    Calls Try.prog 15 #[.slice A n c, .int .i64 m] w (CutMade w j (l.take j) (n - j) (l.drop j)) := by
  subst hm
  exact Cut_ok A n c j l w h hj ht
theorem Cut_all (A : Option Addr) (n c : Nat) (l : List UInt8) (w : World) (h : RB w A n c l) (ht : n ≤ 549755813888) :
    Calls Try.prog 15 #[.slice A n c, .int .i64 (n : Int)] w (CutMade w n l 0 []) := by
  have h1 := Cut_ok A n c n l w h (Nat.le_refl _) ht
  rw [List.take_of_length_le (by rw [h.len]; exact Nat.le_refl _), List.drop_eq_nil_of_le (by rw [h.len]; exact Nat.le_refl _), Nat.sub_self] at h1
  exact h1
/-- Both parts joined again. -/
theorem Join_parts {A B : Option Addr} {n c d j : Nat} {l : List UInt8} {w : World} {t : TypeId} (h : RB w A j c (l.take j)) (h' : RB w B (n - j) d (l.drop j)) (hj : j ≤ n) (hm : n ≤ 1099511627776) :
    Calls Try.prog 16 #[.slice (some ⟨w.heap.size, 0, none⟩) 2 2] (w.alloc (.cells #[.slice A j c, .slice B (n - j) d] t)) (MadeRB (w.alloc (.cells #[.slice A j c, .slice B (n - j) d] t)) n l) := by
  have h1 := Join_two (t := t) h h' (by omega)
  rw [List.take_append_drop, show j + (n - j) = n from by omega] at h1
  exact h1

set_option maxRecDepth 100000 in
set_option maxHeartbeats 1600000 in
theorem Cuts_any (A : Option Addr) (n c a : Nat) (l : List UInt8) (w : World) (h : RB w A n c l) (ha : a < 65536) :
    Calls Try.prog 7 #[.slice A n c, .int .u16 (a : Int)] w (Held w) := by
  have hmx := h.max
  have hcp := h.cap
  by_cases hn : 500 < n
  · go_enter Try.func7, Try.ntmps7
    go_wp2_with (go_at_call 8; refine (wakes_any _).mono ?_; rintro e w1 ⟨rfl, hb1⟩)
    go_ret
    exact ⟨rfl, hb1⟩
  · have ht : n ≤ 549755813888 := by omega
    have ht2 : n ≤ 1099511627776 := by omega
    have hjn : a % (n + 1) ≤ n := by have := Nat.mod_lt a (show 0 < n + 1 by omega); omega
    go_enter Try.func7, Try.ntmps7
    go_wp2_with fail
    refine (wakes_any _).mono ?_
    rintro e w1 ⟨rfl, hb1⟩
    have h1 := h.below hb1
    go_wp2_with fail
    refine (Cut_int A n c (a % (n + 1)) _ l w1 h1 (by rfl) hjn ht).mono ?_
    generalize a % (n + 1) = j at *
    rintro e w2 ⟨A1, c1, A2, c2, rfl, p2, q2, hs2⟩
    have h2 := h1.below hs2
    have hb2 := below_trans hb1 hs2
    clear h1 hb1 hs2
    go_wp2_with fail
    refine (Cut_all A n c l w2 h2 ht).mono ?_
    rintro e w3 ⟨A3, c3, A4, c4, rfl, p3, q3, hs3⟩
    have h3 := h2.below hs3
    have hb3 := below_trans hb2 hs3
    have pp := p2.below hs3
    have qq := q2.below hs3
    clear h2 hb2 hs3 p2 q2
    go_wp2_with fail
    refine (Join_parts pp qq hjn ht2).mono ?_
    rintro e w4 ⟨A5, c5, rfl, r4, hs4⟩
    have hs4' := below_trans (below_a w3 _) hs4
    have h4 := h3.below hs4'
    have p4 := p3.below hs4'
    have hb4 := below_trans hb3 hs4'
    clear h3 hb3 hs4 hs4' pp qq p3 q3
    go_wp2_with fail
    refine (Same_yes _ _ _ _ _ _ _ w4 r4 h4).mono ?_
    rintro e w5 ⟨rfl, hs5⟩
    have h5 := h4.below hs5
    have p5 := p4.below hs5
    have hb5 := below_trans hb4 hs5
    clear h4 hb4 hs5 p4 r4
    go_wp2_with fail
    refine (Same_yes _ _ _ _ _ _ _ w5 p5 h5).mono ?_
    rintro e w6 ⟨rfl, hs6⟩
    have hb6 := below_trans hb5 hs6
    clear h5 hb5 hs6 p5
    go_wp2
    go_ret
    exact ⟨rfl, hb6⟩
end Go.Proofs.Ytjlgedfbnfaohaa

/- The walk of the law ShaEmpty. Condition: the table holds FIPS 180-4's constants. -/
import Derived.Test.YtnfdjcjojadjhaaDoorShaW
namespace Go.Proofs.YtnfdjcjojadjhaaDoor
set_option linter.unusedVariables false
open Go.RowKit

/-- The digest of two pieces in a new list. -/
theorem sha_two {A B : Option Addr} {n c m d : Nat} {l r : List UInt8} {w : World} {t : TypeId} {g : Nat} (hg : g = w.heap.size) (h : RB w A n c l) (h' : RB w B m d r) (hn : n + m ≤ 274877906944) (hT : Tab w) :
    Calls Tryd.prog 7 #[.slice (some ⟨g, 0, none⟩) 2 2] (w.alloc (.cells #[.slice A n c, .slice B m d] t)) (Dig (l ++ r) (w.alloc (.cells #[.slice A n c, .slice B m d] t))) := by
  subst hg
  have e1 : fl [l, r] 2 = l ++ r := by simp [fl]
  have e2 : tl [l, r] 2 = n + m := by rw [tl, e1, List.length_append, h.len, h'.len]
  have hp : Parts (w.alloc (.cells #[.slice A n c, .slice B m d] t)) (some ⟨w.heap.size, 0, none⟩) 2 2 [l, r] := by
    refine ⟨rfl, by omega, by unfold maxLen; omega, fun _ => ⟨_, 0, rfl, fun j hj => ?_⟩⟩
    rw [Nat.zero_add, cell_of_row _ w.heap.size j _ t (0, 0) (heap_alloc_new w _)]
    match j, hj with
    | 0, _ => exact ⟨A, n, c, rfl, h.alloc _⟩
    | 1, _ => exact ⟨B, m, d, rfl, h'.alloc _⟩
  have := sha_any (some ⟨w.heap.size, 0, none⟩) 2 2 [l, r] _ hp (by rw [e2]; exact hn) (hT.below (below_a w _))
  rw [e1] at this
  exact this

/-- The digest of four pieces in a new list. -/
theorem sha_four {A B C D : Option Addr} {n c m d k f o q : Nat} {l r s u : List UInt8} {w : World} {t : TypeId} {g : Nat} (hg : g = w.heap.size) (h : RB w A n c l) (h' : RB w B m d r) (h'' : RB w C k f s) (h3 : RB w D o q u) (hn : n + m + k + o ≤ 274877906944) (hT : Tab w) :
    Calls Tryd.prog 7 #[.slice (some ⟨g, 0, none⟩) 4 4] (w.alloc (.cells #[.slice A n c, .slice B m d, .slice C k f, .slice D o q] t)) (Dig (l ++ (r ++ (s ++ u))) (w.alloc (.cells #[.slice A n c, .slice B m d, .slice C k f, .slice D o q] t))) := by
  subst hg
  have e1 : fl [l, r, s, u] 4 = l ++ (r ++ (s ++ u)) := by simp [fl]
  have e2 : tl [l, r, s, u] 4 = n + m + k + o := by rw [tl, e1]; simp only [List.length_append, h.len, h'.len, h''.len, h3.len]; omega
  have hp : Parts (w.alloc (.cells #[.slice A n c, .slice B m d, .slice C k f, .slice D o q] t)) (some ⟨w.heap.size, 0, none⟩) 4 4 [l, r, s, u] := by
    refine ⟨rfl, by omega, by unfold maxLen; omega, fun _ => ⟨_, 0, rfl, fun j hj => ?_⟩⟩
    rw [Nat.zero_add, cell_of_row _ w.heap.size j _ t (0, 0) (heap_alloc_new w _)]
    match j, hj with
    | 0, _ => exact ⟨A, n, c, rfl, h.alloc _⟩
    | 1, _ => exact ⟨B, m, d, rfl, h'.alloc _⟩
    | 2, _ => exact ⟨C, k, f, rfl, h''.alloc _⟩
    | 3, _ => exact ⟨D, o, q, rfl, h3.alloc _⟩
  have := sha_any (some ⟨w.heap.size, 0, none⟩) 4 4 [l, r, s, u] _ hp (by rw [e2]; exact hn) (hT.below (below_a w _))
  rw [e1] at this
  exact this

set_option maxRecDepth 8000 in
set_option maxHeartbeats 1600000 in
theorem EmptyLaw_any (A B : Option Addr) (n c m d t : Nat) (l r : List UInt8) (w : World) (h : RB w A n c l) (h' : RB w B m d r) (ht : t ≤ 255) (hT : Tab w) :
    Calls Tryd.prog 5 #[.slice A n c, .slice B m d, .int .u8 (t : Int)] w (Held w) := by
  by_cases hn : 300 < n
  · go_enter Tryd.func5, Tryd.ntmps5
    go_wp2_with (go_at_call 6; refine (wakes_any _ hT).mono ?_; rintro e w1 ⟨rfl, hb1⟩)
    go_ret
    exact ⟨rfl, hb1⟩
  by_cases hm : 300 < m
  · go_enter Tryd.func5, Tryd.ntmps5
    go_wp2_with (go_at_call 6; refine (wakes_any _ hT).mono ?_; rintro e w1 ⟨rfl, hb1⟩)
    go_ret
    exact ⟨rfl, hb1⟩
  have hi : (t : Int) % 2 = ((t % 2 : Nat) : Int) := by omega
  have hk : (t : Int) / 2 % 2 = ((t / 2 % 2 : Nat) : Int) := by omega
  have hi2 : t % 2 = 0 ∨ t % 2 = 1 := by omega
  have hk2 : t / 2 % 2 = 0 ∨ t / 2 % 2 = 1 := by omega
  rcases hi2 with e1 | e1 <;> rcases hk2 with e2 | e2 <;> rw [e1] at hi <;> rw [e2] at hk
  · go_enter Tryd.func5, Tryd.ntmps5
    go_wp2_with fail
    refine (wakes_any _ hT).mono ?_
    rintro e w1 ⟨rfl, hb1⟩
    have h1 := h.below hb1
    have h2 := h'.below hb1
    have t1 := hT.below hb1
    have b2 := below_a2 w1 (.cells #[] 5) (.cells #[] 5)
    have h3 := h1.below b2
    have h4 := h2.below b2
    have t2 := t1.below b2
    have HD := fun W => dig_same W (l ++ r)
    have hb2 := below_trans hb1 b2
    clear h h' hT t1 h1 h2 hb1 b2
    go_wp2_with fail
    refine (sha_four (l := l) (r := []) (s := r) (u := []) (by simp) h3 (RB.zero _ _ (Nat.zero_le _)) h4 (RB.zero _ _ (Nat.zero_le _)) (by omega) t2).mono ?_
    rintro e w3 ⟨rfl, b3⟩
    have b4 := (below_a ((w1.alloc (.cells #[] 5)).alloc (.cells #[] 5)) _).trans (b3.mono (by simp))
    have h5 := h3.below b4
    have h6 := h4.below b4
    have t3 := t2.below b4
    have hb3 := below_trans hb2 b4
    simp only [List.append_nil, List.nil_append] at b3 ⊢
    clear h3 h4 t2 b3 b4 hb2
    go_wp2_with fail
    refine (sha_two rfl h5 h6 (by omega) t3).mono ?_
    rintro e w4 ⟨rfl, b5⟩
    have b6 := hb3.trans (((below_a w3 _).trans (b5.mono (by simp))).mono hb3.size)
    clear h5 h6 t3 b5 hb3
    go_wp2_with fail
    go_ret
    exact ⟨rfl, b6⟩
  · go_enter Tryd.func5, Tryd.ntmps5
    go_wp2_with fail
    refine (wakes_any _ hT).mono ?_
    rintro e w1 ⟨rfl, hb1⟩
    have h1 := h.below hb1
    have h2 := h'.below hb1
    have t1 := hT.below hb1
    have b2 := below_a2 w1 (.cells #[] 5) (.cells #[] 5)
    have h3 := h1.below b2
    have h4 := h2.below b2
    have t2 := t1.below b2
    have HD := fun W => dig_same W (l ++ r)
    have hb2 := below_trans hb1 b2
    clear h h' hT t1 h1 h2 hb1 b2
    go_wp2_with fail
    refine (sha_four (l := l) (r := []) (s := []) (u := r) (by simp) h3 (RB.zero _ _ (Nat.zero_le _)) (RB.zero _ _ (Nat.zero_le _)) h4 (by omega) t2).mono ?_
    rintro e w3 ⟨rfl, b3⟩
    have b4 := (below_a ((w1.alloc (.cells #[] 5)).alloc (.cells #[] 5)) _).trans (b3.mono (by simp))
    have h5 := h3.below b4
    have h6 := h4.below b4
    have t3 := t2.below b4
    have hb3 := below_trans hb2 b4
    simp only [List.append_nil, List.nil_append] at b3 ⊢
    clear h3 h4 t2 b3 b4 hb2
    go_wp2_with fail
    refine (sha_two rfl h5 h6 (by omega) t3).mono ?_
    rintro e w4 ⟨rfl, b5⟩
    have b6 := hb3.trans (((below_a w3 _).trans (b5.mono (by simp))).mono hb3.size)
    clear h5 h6 t3 b5 hb3
    go_wp2_with fail
    go_ret
    exact ⟨rfl, b6⟩
  · go_enter Tryd.func5, Tryd.ntmps5
    go_wp2_with fail
    refine (wakes_any _ hT).mono ?_
    rintro e w1 ⟨rfl, hb1⟩
    have h1 := h.below hb1
    have h2 := h'.below hb1
    have t1 := hT.below hb1
    have b2 := below_a2 w1 (.cells #[] 5) (.cells #[] 5)
    have h3 := h1.below b2
    have h4 := h2.below b2
    have t2 := t1.below b2
    have HD := fun W => dig_same W (l ++ r)
    have hb2 := below_trans hb1 b2
    clear h h' hT t1 h1 h2 hb1 b2
    go_wp2_with fail
    refine (sha_four (l := []) (r := l) (s := r) (u := []) (by simp) (RB.zero _ _ (Nat.zero_le _)) h3 h4 (RB.zero _ _ (Nat.zero_le _)) (by omega) t2).mono ?_
    rintro e w3 ⟨rfl, b3⟩
    have b4 := (below_a ((w1.alloc (.cells #[] 5)).alloc (.cells #[] 5)) _).trans (b3.mono (by simp))
    have h5 := h3.below b4
    have h6 := h4.below b4
    have t3 := t2.below b4
    have hb3 := below_trans hb2 b4
    simp only [List.append_nil, List.nil_append] at b3 ⊢
    clear h3 h4 t2 b3 b4 hb2
    go_wp2_with fail
    refine (sha_two rfl h5 h6 (by omega) t3).mono ?_
    rintro e w4 ⟨rfl, b5⟩
    have b6 := hb3.trans (((below_a w3 _).trans (b5.mono (by simp))).mono hb3.size)
    clear h5 h6 t3 b5 hb3
    go_wp2_with fail
    go_ret
    exact ⟨rfl, b6⟩
  · go_enter Tryd.func5, Tryd.ntmps5
    go_wp2_with fail
    refine (wakes_any _ hT).mono ?_
    rintro e w1 ⟨rfl, hb1⟩
    have h1 := h.below hb1
    have h2 := h'.below hb1
    have t1 := hT.below hb1
    have b2 := below_a2 w1 (.cells #[] 5) (.cells #[] 5)
    have h3 := h1.below b2
    have h4 := h2.below b2
    have t2 := t1.below b2
    have HD := fun W => dig_same W (l ++ r)
    have hb2 := below_trans hb1 b2
    clear h h' hT t1 h1 h2 hb1 b2
    go_wp2_with fail
    refine (sha_four (l := []) (r := l) (s := []) (u := r) (by simp) (RB.zero _ _ (Nat.zero_le _)) h3 (RB.zero _ _ (Nat.zero_le _)) h4 (by omega) t2).mono ?_
    rintro e w3 ⟨rfl, b3⟩
    have b4 := (below_a ((w1.alloc (.cells #[] 5)).alloc (.cells #[] 5)) _).trans (b3.mono (by simp))
    have h5 := h3.below b4
    have h6 := h4.below b4
    have t3 := t2.below b4
    have hb3 := below_trans hb2 b4
    simp only [List.append_nil, List.nil_append] at b3 ⊢
    clear h3 h4 t2 b3 b4 hb2
    go_wp2_with fail
    refine (sha_two rfl h5 h6 (by omega) t3).mono ?_
    rintro e w4 ⟨rfl, b5⟩
    have b6 := hb3.trans (((below_a w3 _).trans (b5.mono (by simp))).mono hb3.size)
    clear h5 h6 t3 b5 hb3
    go_wp2_with fail
    go_ret
    exact ⟨rfl, b6⟩
end Go.Proofs.YtnfdjcjojadjhaaDoor

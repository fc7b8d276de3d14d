/- octet.Put once more, what it answers lying in memory of the call's own. Conditions: the slice holds bytes, at most 2^39 of them; the number is one of 64 bits. -/
import Derived.Test.YtbbpemndkphgeaaDoorPut
namespace Go.Proofs.YtbbpemndkphgeaaDoor
set_option linter.unusedVariables false
set_option linter.unusedSimpArgs false
open Go.RowKit

theorem Join_two_own {A B : Option Addr} {n c m d : Nat} {l r : List UInt8} {w : World} {t : TypeId} {g : Nat} (hg : g = w.heap.size) (h : RB w A n c l) (h' : RB w B m d r) (hm : n + m ≤ 1099511627776) :
    Calls Tryd.prog 21 #[.slice (some ⟨g, 0, none⟩) 2 2] (w.alloc (.cells #[.slice A n c, .slice B m d] t)) (OwnMade (w.alloc (.cells #[.slice A n c, .slice B m d] t)) (n + m) (l ++ r)) := by
  subst hg
  have e1 : fl [l, r] 2 = l ++ r := by simp [fl]
  have e2 : tl [l, r] 2 = n + m := by rw [tl, e1, List.length_append, h.len, h'.len]
  refine (Join_any _ 2 2 [l, r] _ ⟨rfl, Nat.le_refl _, by unfold maxLen; omega, fun _ => ⟨_, 0, rfl, fun j hj => ?_⟩⟩ (by rw [e2]; exact hm)).mono ?_
  · rw [Nat.zero_add, cell_of_row _ w.heap.size j _ t (0, 0) (heap_alloc_new w _)]
    match j, hj with
    | 0, _ => exact ⟨A, n, c, rfl, h.alloc _⟩
    | 1, _ => exact ⟨B, m, d, rfl, h'.alloc _⟩
  · rintro e w' ⟨v, rfl, hown, hb⟩
    rw [e1, e2] at hown
    obtain ⟨A2, c2, rfl, h2, _⟩ := RB.of_own hown
    exact ⟨A2, c2, rfl, h2, hown, hb⟩

set_option maxHeartbeats 800000 in
theorem Put_own (A : Option Addr) (n c a : Nat) (k : Int) (l : List UInt8) (w : World) (h : RB w A n c l) (ha : a < 18446744073709551616) (ht : n ≤ 549755813888) :
    Calls Tryd.prog 39 #[.slice A n c, .int .u64 (a : Int), .int .i64 k] w (OwnMade w (n + wn k) (l ++ be a (wn k))) := by
  have hlo := wn_lo k
  have hhi := wn_hi k
  have hD := Digits.start a w 87
  go_enter Tryd.func39, Tryd.ntmps39
  go_wp2_with fail
  go_loopw [9] (fun i wr => ∃ m : Nat, m ≤ 8 ∧ i = .int .i64 m ∧ Digits a w.heap.size m wr ∧ Below w.heap.size w wr) (fun i _ => 8 - (intOf i).toNat)
  case atStart => exact ⟨0, Nat.zero_le _, rfl, hD, below_a _ _⟩
  case round =>
    obtain ⟨m, hm, rfl, hd, hb⟩ := hrel
    by_cases hlt : m < 8
    · have hc7 := hd.1 (7 - m) (by omega)
      have hf7 := hd.2 (7 - m) (by omega)
      have hd' := hd.step hlt
      clear h hD
      go_wp2_with fail
      go_roundw
      case rel => exact ⟨m + 1, by omega, by go_num, hd', hb.setCell (Nat.le_refl _) _⟩
      case measure => simp [intOf]; omega
    · obtain rfl : m = 8 := by omega
      have hcut := cutArray (wn k) w.heap.size hlo hhi
      have hr2 : RB wr (some ⟨w.heap.size, 8 - wn k, none⟩) (wn k) (wn k) (be a (wn k)) :=
        ⟨be_length a _, Nat.le_refl _, by unfold maxLen; omega, fun _ => ⟨_, _, rfl, fun j hj => by rw [hd.1 _ (by omega), dig_end a _ j hhi hj]⟩⟩
      have hr1 := h.below hb
      clear h hD hd
      go_wp2_with (first
        | (go_at_call 58; refine (width_any _ _).mono ?_; rintro e w' ⟨rfl, rfl⟩)
        | (go_at_call 21; refine (Join_two_own rfl hr1 hr2 (by omega)).mono ?_; rintro e w2 ⟨A2, c2, rfl, hr3, ho3, hb2⟩))
      go_ret
      exact ⟨_, _, rfl, hr3, own_mono ho3 (by have := hb.size; simp; omega), hb.trans ((below_trans (below_a _ _) hb2).mono hb.size)⟩

/-- What the call owns stays where other blocks are written. -/
theorem own_far {w w' : World} {base n : Nat} {e : TypeId} {size : Nat} {v : Value} {xs : List Value} {row : Option Nat} (h : w.ownsRow base e size v n xs) (hg : w.grownBy w' row) (hne : ∀ g, v.ownBlock = some g → row ≠ some g) : w'.ownsRow base e size v n xs := by
  refine ⟨h.1, ?_⟩
  rcases h.2 with hn | ⟨g, cap, cur, rfl, h1, h2, rest⟩
  · exact .inl hn
  · refine .inr ⟨g, cap, cur, rfl, h1, ?_, rest⟩
    rw [hg.block g (Array.getElem?_eq_some_iff.1 h2).1 (fun e => hne g rfl e.symm)]
    exact h2
/-- Rows of unlike elements lie in unlike blocks. -/
theorem own_apart {w : World} {base base' n m : Nat} {e e' : TypeId} {size size' : Nat} {v u : Value} {xs ys : List Value} (h : w.ownsRow base e size v n xs) (h' : w.ownsRow base' e' size' u m ys) (hne : e ≠ e') : ∀ g, v.ownBlock = some g → u.ownBlock ≠ some g := by
  intro g hg hu
  rcases h.2 with ⟨rfl, _⟩ | ⟨k, cap, cur, rfl, h1, h2, rest⟩
  · cases hg
  rcases h'.2 with ⟨rfl, _⟩ | ⟨k', cap', cur', rfl, h1', h2', rest'⟩
  · cases hu
  have e1 : k = g := by injection hg
  have e2 : k' = g := by injection hu
  subst e1 e2
  rw [h2] at h2'
  injection h2' with h3
  injection h3 with h4 h5
  exact hne h5
end Go.Proofs.YtbbpemndkphgeaaDoor

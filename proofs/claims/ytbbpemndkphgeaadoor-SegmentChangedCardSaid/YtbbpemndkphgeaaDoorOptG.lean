/- The contract of option.fields: the fields that an option's kind has. Condition: the address leads to an option. -/
import Derived.Test.YtbbpemndkphgeaaDoorOptI
import Derived.Deep.Cut
namespace Go.Proofs.YtbbpemndkphgeaaDoor
set_option linter.unusedVariables false
set_option linter.unusedSimpArgs false
open Go.RowKit

/-- The slice '.slice A n c' holds the fields l of the option in block g. -/
def FL (w : World) (A : Option Addr) (n c g : Nat) (l : List (Nat × Nat)) : Prop :=
  l.length = n ∧ n ≤ c ∧ c ≤ maxLen ∧ (0 < n → ∃ b o, A = some ⟨b, o, none⟩ ∧ b ≠ g ∧ ∀ j, j < n → w.rangeAt b (o + j * 2) (fv g (l.getD j (0, 0))))
section
variable {w w' : World} {A : Option Addr} {n c g : Nat} {l : List (Nat × Nat)}
theorem FL.len (h : FL w A n c g l) : l.length = n := h.1
theorem FL.cap (h : FL w A n c g l) : n ≤ c := h.2.1
theorem FL.max (h : FL w A n c g l) : c ≤ 9223372036854775807 := by have := h.2.2.1; unfold maxLen at this; omega
theorem FL.at_ (h : FL w A n c g l) {j : Nat} (hj : j < n) : ∃ b o, A = some ⟨b, o, none⟩ ∧ w.rangeAt b (o + j * 2) (fv g (l.getD j (0, 0))) := by
  obtain ⟨b, o, e, _, hc⟩ := h.2.2.2 (by omega)
  exact ⟨b, o, e, hc j hj⟩
theorem FL.far {row : Option Nat} (h : FL w A n c g l) (hg : w.grownBy w' row) (hne : row = none ∨ row = some g) : FL w' A n c g l :=
  ⟨h.1, h.2.1, h.2.2.1, fun hn => by
    obtain ⟨b, o, e, hb, hc⟩ := h.2.2.2 hn
    refine ⟨b, o, e, hb, fun j hj i v hv => ?_⟩
    have := hc j hj i v hv
    refine (hg.cell_far _ (World.block_lt_of_cell? w _ this) ?_).trans this
    rcases hne with rfl | rfl
    · simp
    · simpa using hb⟩
theorem FL.below (h : FL w A n c g l) (hb : Below w.heap.size w w') : FL w' A n c g l := h.far (v_g_below hb none) (.inl rfl)
theorem FL.put (h : FL w A n c g l) (hb : w.grownBy w' (some g)) : FL w' A n c g l := h.far hb (.inr rfl)
theorem FL.nil_ (w : World) (g : Nat) : FL w none 0 0 g [] := ⟨rfl, Nat.le_refl _, Nat.zero_le _, fun h => absurd h (by omega)⟩
end

/-- What fields leaves. -/
def FieldsMade (W : World) (g : Nat) (l : List (Nat × Nat)) (e : Ending) (w' : World) : Prop :=
  ∃ A c, e = .returned (.slice A l.length c) ∧ FL w' A l.length c g l ∧ Below W.heap.size W w'

theorem mid_lit (g : Nat) (u : Nat → Value) : mid g u = { tmps := #[.pointer (some ⟨g, 0, none⟩), undef, .slice none 0 0, u 3, u 4, u 5, u 6, u 7, u 8, u 9, u 10, u 11, u 12, u 13, u 14, u 15, u 16, u 17, u 18, u 19, u 20, u 21, u 22, u 23, u 24, u 25, u 26, u 27, u 28, u 29, u 30, u 31, u 32, u 33, u 34, u 35, u 36, u 37, u 38, u 39, u 40, u 41, u 42, u 43, u 44, u 45, u 46, u 47, u 48, u 49, u 50, u 51, u 52, u 53, u 54, u 55, u 56, u 57, u 58, u 59, u 60, u 61, u 62, u 63, u 64, u 65, u 66, u 67, u 68, u 69, u 70, u 71, u 72, u 73, u 74, u 75, u 76, u 77, u 78, u 79, u 80, u 81, u 82, u 83, u 84, u 85, u 86, u 87, u 88, u 89, u 90, u 91, u 92, u 93, u 94, u 95, u 96, u 97, u 98, u 99, u 100, u 101, u 102, u 103, u 104, u 105, u 106, u 107, u 108, u 109, u 110, u 111, u 112, u 113, u 114, u 115, undef, undef, undef, undef, undef, undef, undef, undef, undef, undef, undef, undef, undef, undef, undef, undef, undef, undef], defers := [] } := by kernel_rfl
theorem fields_region' {id : Nat} {ops : Array Oper} {a : Act} {Q : Exit → Act → World → Prop} (g : Nat) (w : World) (ho : ops = fops) (ha : a = mid g fun _ => undef) (hm : Tryd.prog.follows .mixedOrders = true)
    (h : ∀ (u : Nat → Value) (b : Nat) (w' : World), Below w.heap.size w w' → (∀ t ∈ sliceT, SL w w' g (u t.2.1) (tabN (kindOf t.2.1))) → u 3 = .pointer (some ⟨b, 0, none⟩) → w'.rangeAt b 0 (rowOf u) → Q .normal (mid g u) w') :
    (Code.region id ops true).wp Tryd.prog Q a w := by
  subst ho ha
  exact fields_region w hm h
/-- A slice of a kind's fields is the slice of fields. -/
theorem flat_at (g : Nat) : ∀ (l : List (Nat × Nat)) (j : Nat) (i : Nat), j < l.length → i < 2 → (l.flatMap (fv g))[j * 2 + i]? = (fv g (l.getD j (0, 0)))[i]?
  | [], j, i, hj, _ => absurd hj (by simp)
  | f :: r, 0, i, _, hi => by
    rw [List.flatMap_cons, List.getElem?_append_left (by simp [fv]; omega)]
    simp
  | f :: r, j + 1, i, hj, hi => by
    have := flat_at g r j i (by simpa using hj) hi
    rw [List.flatMap_cons, List.getElem?_append_right (by simp [fv]; omega), show (j + 1) * 2 + i - (fv g f).length = j * 2 + i from by simp [fv]; omega, this]
    simp
theorem SL.fl {w0 w : World} {g : Nat} {v : Value} {l : List (Nat × Nat)} (h : SL w0 w g v l) (hg : g < w0.heap.size) (hl : l.length ≤ 6) : ∃ b, v = .slice (some ⟨b, 0, none⟩) l.length l.length ∧ FL w (some ⟨b, 0, none⟩) l.length l.length g l := by
  obtain ⟨b, h1, h2, h3⟩ := h
  refine ⟨b, h1, rfl, Nat.le_refl _, by unfold maxLen; omega, fun _ => ⟨b, 0, rfl, by omega, fun j hj i v hv => ?_⟩⟩
  have hi : i < 2 := (List.getElem?_eq_some_iff.1 hv).1
  have h4 := h3 (j * 2 + i) v (by rw [flat_at g l j i hj hi]; exact hv)
  rw [show 0 + j * 2 + i = 0 + (j * 2 + i) from by omega]
  exact h4

theorem slice_of {w0 w : World} {g : Nat} {u : Nat → Value} (h : ∀ t ∈ sliceT, SL w0 w g (u t.2.1) (tabN (kindOf t.2.1))) {d : Nat} (hd : d ∈ places) : SL w0 w g (u d) (tabN (kindOf d)) := by
  obtain ⟨t, ht, rfl⟩ := List.mem_map.1 hd
  exact h t ht

set_option maxRecDepth 100000 in
set_option maxHeartbeats 3200000 in
theorem fields_any (g : Nat) (o : Opt) (w : World) (h : Own w g o.vals) :
    Calls Tryd.prog 53 #[.pointer (some ⟨g, 0, none⟩)] w (FieldsMade w g (tab o.kind)) := by
  have hl := h.lt (Nat.zero_lt_succ _)
  go_enter Tryd.func53, Tryd.ntmps53
  go_wp2_with fail
  refine fields_region' g w (by kernel_rfl) (by kernel_rfl) (by kernel_rfl) fun u b w1 hb hs h3 hr => ?_
  rw [mid_lit, h3]
  clear h3
  have hk := ((h.below hb) 0 (Nat.zero_lt_succ _)).1
  rw [show o.vals[0]? = some (.int .i64 o.kind) from rfl] at hk
  generalize o.kind = k at *
  have hg := Lib.hid hl
  have HS := Lib.hid hs
  have HR := Lib.hid hr
  have HB := Lib.hid hb
  clear h hs hr hl hb
  rcases kind_or k with hc | hc | hc | hc | hc | hc | hc | hc | hc | hc | hc | hc | hc | hc
  · go_wp2
    go_ret
    rw [tab_neg hc]
    exact ⟨none, 0, rfl, FL.nil_ _ _, HB.out⟩
  · have hc' : ¬ k < 0 := by omega
    go_wp2
    go_ret
    rw [tab_far hc]
    exact ⟨none, 0, rfl, FL.nil_ _ _, HB.out⟩
  · subst hc
    have hcell := HR.out 0 _ rfl
    rw [Nat.zero_add] at hcell
    go_wp2
    go_ret
    exact ⟨none, 0, rfl, FL.nil_ _ _, HB.out⟩
  · subst hc
    have hcell : w1.cell? ⟨b, 1, none⟩ = some (u 9) := by have := HR.out 1 _ rfl; rw [Nat.zero_add] at this; exact this
    obtain ⟨c, hv, hfl⟩ := (slice_of HS.out (d := 9) (by decide)).fl hg.out (fine_tabN _).2.1
    have hv' : u 9 = .slice (some ⟨c, 0, none⟩) (tabN 1).length (tabN 1).length := hv
    have HF := Lib.hid hfl
    have e : (tabN 1).length = 1 := rfl
    rw [hv', e] at hcell
    clear hfl hv hv' e
    go_wp2
    go_ret
    exact ⟨_, _, rfl, HF.out, HB.out⟩
  · subst hc
    have hcell : w1.cell? ⟨b, 2, none⟩ = some (u 30) := by have := HR.out 2 _ rfl; rw [Nat.zero_add] at this; exact this
    obtain ⟨c, hv, hfl⟩ := (slice_of HS.out (d := 30) (by decide)).fl hg.out (fine_tabN _).2.1
    have hv' : u 30 = .slice (some ⟨c, 0, none⟩) (tabN 2).length (tabN 2).length := hv
    have HF := Lib.hid hfl
    have e : (tabN 2).length = 4 := rfl
    rw [hv', e] at hcell
    clear hfl hv hv' e
    go_wp2
    go_ret
    exact ⟨_, _, rfl, HF.out, HB.out⟩
  · subst hc
    have hcell : w1.cell? ⟨b, 3, none⟩ = some (u 41) := by have := HR.out 3 _ rfl; rw [Nat.zero_add] at this; exact this
    obtain ⟨c, hv, hfl⟩ := (slice_of HS.out (d := 41) (by decide)).fl hg.out (fine_tabN _).2.1
    have hv' : u 41 = .slice (some ⟨c, 0, none⟩) (tabN 3).length (tabN 3).length := hv
    have HF := Lib.hid hfl
    have e : (tabN 3).length = 2 := rfl
    rw [hv', e] at hcell
    clear hfl hv hv' e
    go_wp2
    go_ret
    exact ⟨_, _, rfl, HF.out, HB.out⟩
  · subst hc
    have hcell : w1.cell? ⟨b, 4, none⟩ = some (u 47) := by have := HR.out 4 _ rfl; rw [Nat.zero_add] at this; exact this
    obtain ⟨c, hv, hfl⟩ := (slice_of HS.out (d := 47) (by decide)).fl hg.out (fine_tabN _).2.1
    have hv' : u 47 = .slice (some ⟨c, 0, none⟩) (tabN 4).length (tabN 4).length := hv
    have HF := Lib.hid hfl
    have e : (tabN 4).length = 1 := rfl
    rw [hv', e] at hcell
    clear hfl hv hv' e
    go_wp2
    go_ret
    exact ⟨_, _, rfl, HF.out, HB.out⟩
  · subst hc
    have hcell : w1.cell? ⟨b, 5, none⟩ = some (u 78) := by have := HR.out 5 _ rfl; rw [Nat.zero_add] at this; exact this
    obtain ⟨c, hv, hfl⟩ := (slice_of HS.out (d := 78) (by decide)).fl hg.out (fine_tabN _).2.1
    have hv' : u 78 = .slice (some ⟨c, 0, none⟩) (tabN 5).length (tabN 5).length := hv
    have HF := Lib.hid hfl
    have e : (tabN 5).length = 6 := rfl
    rw [hv', e] at hcell
    clear hfl hv hv' e
    go_wp2
    go_ret
    exact ⟨_, _, rfl, HF.out, HB.out⟩
  · subst hc
    have hcell : w1.cell? ⟨b, 6, none⟩ = some (u 84) := by have := HR.out 6 _ rfl; rw [Nat.zero_add] at this; exact this
    obtain ⟨c, hv, hfl⟩ := (slice_of HS.out (d := 84) (by decide)).fl hg.out (fine_tabN _).2.1
    have hv' : u 84 = .slice (some ⟨c, 0, none⟩) (tabN 6).length (tabN 6).length := hv
    have HF := Lib.hid hfl
    have e : (tabN 6).length = 1 := rfl
    rw [hv', e] at hcell
    clear hfl hv hv' e
    go_wp2
    go_ret
    exact ⟨_, _, rfl, HF.out, HB.out⟩
  · subst hc
    have hcell : w1.cell? ⟨b, 7, none⟩ = some (u 90) := by have := HR.out 7 _ rfl; rw [Nat.zero_add] at this; exact this
    obtain ⟨c, hv, hfl⟩ := (slice_of HS.out (d := 90) (by decide)).fl hg.out (fine_tabN _).2.1
    have hv' : u 90 = .slice (some ⟨c, 0, none⟩) (tabN 7).length (tabN 7).length := hv
    have HF := Lib.hid hfl
    have e : (tabN 7).length = 1 := rfl
    rw [hv', e] at hcell
    clear hfl hv hv' e
    go_wp2
    go_ret
    exact ⟨_, _, rfl, HF.out, HB.out⟩
  · subst hc
    have hcell : w1.cell? ⟨b, 8, none⟩ = some (u 96) := by have := HR.out 8 _ rfl; rw [Nat.zero_add] at this; exact this
    obtain ⟨c, hv, hfl⟩ := (slice_of HS.out (d := 96) (by decide)).fl hg.out (fine_tabN _).2.1
    have hv' : u 96 = .slice (some ⟨c, 0, none⟩) (tabN 8).length (tabN 8).length := hv
    have HF := Lib.hid hfl
    have e : (tabN 8).length = 1 := rfl
    rw [hv', e] at hcell
    clear hfl hv hv' e
    go_wp2
    go_ret
    exact ⟨_, _, rfl, HF.out, HB.out⟩
  · subst hc
    have hcell : w1.cell? ⟨b, 9, none⟩ = some (u 102) := by have := HR.out 9 _ rfl; rw [Nat.zero_add] at this; exact this
    obtain ⟨c, hv, hfl⟩ := (slice_of HS.out (d := 102) (by decide)).fl hg.out (fine_tabN _).2.1
    have hv' : u 102 = .slice (some ⟨c, 0, none⟩) (tabN 9).length (tabN 9).length := hv
    have HF := Lib.hid hfl
    have e : (tabN 9).length = 1 := rfl
    rw [hv', e] at hcell
    clear hfl hv hv' e
    go_wp2
    go_ret
    exact ⟨_, _, rfl, HF.out, HB.out⟩
  · subst hc
    have hcell : w1.cell? ⟨b, 10, none⟩ = some (u 108) := by have := HR.out 10 _ rfl; rw [Nat.zero_add] at this; exact this
    obtain ⟨c, hv, hfl⟩ := (slice_of HS.out (d := 108) (by decide)).fl hg.out (fine_tabN _).2.1
    have hv' : u 108 = .slice (some ⟨c, 0, none⟩) (tabN 10).length (tabN 10).length := hv
    have HF := Lib.hid hfl
    have e : (tabN 10).length = 1 := rfl
    rw [hv', e] at hcell
    clear hfl hv hv' e
    go_wp2
    go_ret
    exact ⟨_, _, rfl, HF.out, HB.out⟩
  · subst hc
    have hcell : w1.cell? ⟨b, 11, none⟩ = some (u 114) := by have := HR.out 11 _ rfl; rw [Nat.zero_add] at this; exact this
    obtain ⟨c, hv, hfl⟩ := (slice_of HS.out (d := 114) (by decide)).fl hg.out (fine_tabN _).2.1
    have hv' : u 114 = .slice (some ⟨c, 0, none⟩) (tabN 11).length (tabN 11).length := hv
    have HF := Lib.hid hfl
    have e : (tabN 11).length = 1 := rfl
    rw [hv', e] at hcell
    clear hfl hv hv' e
    go_wp2
    go_ret
    exact ⟨_, _, rfl, HF.out, HB.out⟩
end Go.Proofs.YtbbpemndkphgeaaDoor

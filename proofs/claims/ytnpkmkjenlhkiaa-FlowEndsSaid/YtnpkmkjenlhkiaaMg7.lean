/- Whether a deadline is reached; which states let what be done; how a flow ends, lingers, and what its Fin, and the other one's, leads to. Conditions: a flow's cells stand, ticks between 0 and 2^60, waits between 0 and 16.
append onto a row of the call's own, of elements of any size, from a slice that may be nil, empty or not. Conditions: the element's size and zero are known; at most 2^40 elements, of at most 128 bytes each. -/
import Derived.Test.YtnpkmkjenlhkiaaMg6
import Derived.Test.YtnpkmkjenlhkiaaMg4
import Derived.Test.YtnpkmkjenlhkiaaMg1
import Derived.Deep.Onto
namespace Go.Proofs.Ytnpkmkjenlhkiaa
set_option linter.unusedVariables false
set_option linter.unusedSimpArgs false
set_option maxRecDepth 20000
open Go.RowKit Go.Lib

set_option maxHeartbeats 1600000 in
theorem reached_any (f d t : Int) (w : World) (hf : 0 ≤ f ∧ f ≤ 1152921504606846976) (ht : 0 ≤ t ∧ t ≤ 1152921504606846976) : Calls Try.prog 45 #[dl f d, .int .i64 t] w fun e w' => e = .returned (.bool (decide (0 < d ∧ f + d ≤ t))) ∧ Below w.heap.size w w' := by
  have HI := Lib.hid (fun W => is_any f d W)
  have HT := Lib.hid (fun W => ticks_any f t W hf ht)
  unfold dl at *
  by_cases h : 0 < d
  · rw [decide_eq_true h] at HI
    have e1 : decide (0 < d ∧ f + d ≤ t) = decide (d ≤ tks f t) := by
      unfold tks
      split
      · rw [decide_eq_false (by omega), decide_eq_false (by omega)]
      · by_cases h2 : f + d ≤ t
        · rw [decide_eq_true (by omega), decide_eq_true (by omega)]
        · rw [decide_eq_false (by omega), decide_eq_false (by omega)]
    rw [e1]
    clear e1 h hf ht
    generalize tks f t = x at *
    go_enter Try.func45, Try.ntmps45
    go_wp2_with fail
    generalize hgz : w.heap.size = g at *
    have s0 : (w.alloc (.cells #[.int .i64 f, .int .i64 d] 76)).drew.cell? ⟨g, 0, none⟩ = some (.int .i64 f) ∧ (w.alloc (.cells #[.int .i64 f, .int .i64 d] 76)).drew.cell? ⟨g, 1, none⟩ = some (.int .i64 d) := by
      subst hgz
      exact ⟨by show World.cell? (w.alloc _) _ = _; rw [cell_of_row _ w.heap.size 0 _ _ (0, 0) (heap_alloc_new w _)]; rfl, by show World.cell? (w.alloc _) _ = _; rw [cell_of_row _ w.heap.size 1 _ _ (0, 0) (heap_alloc_new w _)]; rfl⟩
    have hg1 : g < (w.alloc (.cells #[.int .i64 f, .int .i64 d] 76)).drew.heap.size := by
      subst hgz
      show w.heap.size < (w.alloc _).heap.size
      simp
    have HB : Hid (Below g w (w.alloc (.cells #[.int .i64 f, .int .i64 d] 76)).drew) := Lib.hid (hgz ▸ (below_a w _).drew)
    have hgs : g ≤ (w.alloc (.cells #[.int .i64 f, .int .i64 d] 76)).drew.heap.size := by omega
    generalize hwd : (w.alloc (.cells #[.int .i64 f, .int .i64 d] 76)).drew = wd at *
    refine wp_region_noPanic ?_
    refine wp_region_held_drew (S := fun W => W.cell? ⟨g, 0, none⟩ = some (.int .i64 f) ∧ W.cell? ⟨g, 1, none⟩ = some (.int .i64 d)) (by kernel_rfl) (by rw [hwd]; exact s0) (fun _ => ?_)
    rw [hwd]
    clear hwd
    refine held_take (i := 0) (v := .agg #[.int .i64 f, .int .i64 d]) (some 5) rfl rfl (by kernel_rfl) (by kernel_rfl) (by kernel_rfl) (fun _ _ _ h => h) (Or.inl ⟨by rfl, fun W hW => by have hc := hW.1; have hd := hW.2; go_simp⟩) s0 ?_
    simp only [Act.put, List.setIfInBounds_toArray, List.set_cons_zero, List.set_cons_succ]
    refine wpAnyH_ready (rs := [1]) (by kernel_rfl) (by simp) ?_
    refine AllReadyH.cons rfl (fun K hK => ?_) AllReadyH.nil
    go_simp
    refine (HI.out _).mono ?_
    rintro e w1 ⟨rfl, b1⟩
    have s1 : w1.cell? ⟨g, 0, none⟩ = some (.int .i64 f) ∧ w1.cell? ⟨g, 1, none⟩ = some (.int .i64 d) := ⟨(b1.cell hg1).trans s0.1, (b1.cell hg1).trans s0.2⟩
    have HB1 := Lib.hid (HB.out.trans (b1.mono hgs))
    clear b1
    dsimp only
    refine hK.out _ _ s1 (fun _ => ?_)
    clear hK
    try simp only [Act.put, List.setIfInBounds_toArray, List.set_cons_zero, List.set_cons_succ]
    refine held_take (i := 2) (v := .bool true) (some 7) rfl rfl (by kernel_rfl) (by kernel_rfl) (by kernel_rfl) (fun _ _ _ h => h) (Or.inl ⟨by rfl, fun W hW => by go_simp⟩) s1 ?_
    simp only [Act.put, List.setIfInBounds_toArray, List.set_cons_zero, List.set_cons_succ]
    refine held_take (i := 3) (v := .pointer (some ⟨g, 0, none⟩)) (some 8) rfl rfl (by kernel_rfl) (by kernel_rfl) (by kernel_rfl) (fun _ _ _ h => h) (Or.inl ⟨by rfl, fun W hW => by go_simp⟩) s1 ?_
    simp only [Act.put, List.setIfInBounds_toArray, List.set_cons_zero, List.set_cons_succ]
    refine held_take (i := 5) (v := .int .i64 t) (some 10) rfl rfl (by kernel_rfl) (by kernel_rfl) (by kernel_rfl) (fun _ _ _ h => h) (Or.inl ⟨by rfl, fun W hW => by go_simp⟩) s1 ?_
    simp only [Act.put, List.setIfInBounds_toArray, List.set_cons_zero, List.set_cons_succ]
    refine held_take (i := 7) (v := .pointer (some ⟨g, 1, none⟩)) (some 12) rfl rfl (by kernel_rfl) (by kernel_rfl) (by kernel_rfl) (fun _ _ _ h => h) (Or.inl ⟨by rfl, fun W hW => by go_simp⟩) s1 ?_
    simp only [Act.put, List.setIfInBounds_toArray, List.set_cons_zero, List.set_cons_succ]
    refine held_take (i := 4) (v := .int .i64 f) (some 9) rfl rfl (by kernel_rfl) (by kernel_rfl) (by kernel_rfl) (fun _ _ _ h => h) (Or.inl ⟨by rfl, fun W hW => by have hc := hW.1; go_simp⟩) s1 ?_
    simp only [Act.put, List.setIfInBounds_toArray, List.set_cons_zero, List.set_cons_succ]
    refine held_take (i := 8) (v := .int .i64 d) (some 13) rfl rfl (by kernel_rfl) (by kernel_rfl) (by kernel_rfl) (fun _ _ _ h => h) (Or.inl ⟨by rfl, fun W hW => by have hc := hW.2; go_simp⟩) s1 ?_
    simp only [Act.put, List.setIfInBounds_toArray, List.set_cons_zero, List.set_cons_succ]
    refine wpAnyH_ready (rs := [6]) (by kernel_rfl) (by simp) ?_
    refine AllReadyH.cons rfl (fun K hK => ?_) AllReadyH.nil
    go_simp
    refine (HT.out _).mono ?_
    rintro e w2 ⟨rfl, rfl⟩
    dsimp only
    refine hK.out _ _ s1 (fun _ => ?_)
    clear hK
    try simp only [Act.put, List.setIfInBounds_toArray, List.set_cons_zero, List.set_cons_succ]
    refine held_take (i := 9) (v := .bool (decide (d ≤ x))) (some 14) rfl rfl (by kernel_rfl) (by kernel_rfl) (by kernel_rfl) (fun _ _ _ h => h) (Or.inl ⟨by rfl, fun W hW => by go_simp⟩) s1 ?_
    simp only [Act.put, List.setIfInBounds_toArray, List.set_cons_zero, List.set_cons_succ]
    refine held_take (i := 10) (v := .bool (decide (d ≤ x))) (some 15) rfl rfl (by kernel_rfl) (by kernel_rfl) (by kernel_rfl) (fun _ _ _ h => h) (Or.inl ⟨by rfl, fun W hW => by go_simp⟩) s1 ?_
    simp only [Act.put, List.setIfInBounds_toArray, List.set_cons_zero, List.set_cons_succ]
    refine held_take (i := 11) (v := .bool (decide (d ≤ x))) (some 4) rfl rfl (by kernel_rfl) (by kernel_rfl) (by kernel_rfl) (fun _ _ _ h => h) (Or.inl ⟨by rfl, fun W hW => by go_simp⟩) s1 ?_
    simp only [Act.put, List.setIfInBounds_toArray, List.set_cons_zero, List.set_cons_succ]
    refine wpAnyH_done (by kernel_rfl) ?_ _
    refine NoPanic.normal ?_
    go_wp2_with fail
    go_ret
    exact ⟨rfl, by rw [hgz]; exact HB1.out⟩
  · rw [decide_eq_false h] at HI
    rw [decide_eq_false (by omega)]
    clear h hf ht
    go_enter Try.func45, Try.ntmps45
    go_wp2_with fail
    generalize hgz : w.heap.size = g at *
    have s0 : (w.alloc (.cells #[.int .i64 f, .int .i64 d] 76)).drew.cell? ⟨g, 0, none⟩ = some (.int .i64 f) ∧ (w.alloc (.cells #[.int .i64 f, .int .i64 d] 76)).drew.cell? ⟨g, 1, none⟩ = some (.int .i64 d) := by
      subst hgz
      exact ⟨by show World.cell? (w.alloc _) _ = _; rw [cell_of_row _ w.heap.size 0 _ _ (0, 0) (heap_alloc_new w _)]; rfl, by show World.cell? (w.alloc _) _ = _; rw [cell_of_row _ w.heap.size 1 _ _ (0, 0) (heap_alloc_new w _)]; rfl⟩
    have hg1 : g < (w.alloc (.cells #[.int .i64 f, .int .i64 d] 76)).drew.heap.size := by
      subst hgz
      show w.heap.size < (w.alloc _).heap.size
      simp
    have HB : Hid (Below g w (w.alloc (.cells #[.int .i64 f, .int .i64 d] 76)).drew) := Lib.hid (hgz ▸ (below_a w _).drew)
    have hgs : g ≤ (w.alloc (.cells #[.int .i64 f, .int .i64 d] 76)).drew.heap.size := by omega
    generalize hwd : (w.alloc (.cells #[.int .i64 f, .int .i64 d] 76)).drew = wd at *
    refine wp_region_noPanic ?_
    refine wp_region_held_drew (S := fun W => W.cell? ⟨g, 0, none⟩ = some (.int .i64 f) ∧ W.cell? ⟨g, 1, none⟩ = some (.int .i64 d)) (by kernel_rfl) (by rw [hwd]; exact s0) (fun _ => ?_)
    rw [hwd]
    clear hwd
    refine held_take (i := 0) (v := .agg #[.int .i64 f, .int .i64 d]) (some 5) rfl rfl (by kernel_rfl) (by kernel_rfl) (by kernel_rfl) (fun _ _ _ h => h) (Or.inl ⟨by rfl, fun W hW => by have hc := hW.1; have hd := hW.2; go_simp⟩) s0 ?_
    simp only [Act.put, List.setIfInBounds_toArray, List.set_cons_zero, List.set_cons_succ]
    refine wpAnyH_ready (rs := [1]) (by kernel_rfl) (by simp) ?_
    refine AllReadyH.cons rfl (fun K hK => ?_) AllReadyH.nil
    go_simp
    refine (HI.out _).mono ?_
    rintro e w1 ⟨rfl, b1⟩
    have s1 : w1.cell? ⟨g, 0, none⟩ = some (.int .i64 f) ∧ w1.cell? ⟨g, 1, none⟩ = some (.int .i64 d) := ⟨(b1.cell hg1).trans s0.1, (b1.cell hg1).trans s0.2⟩
    have HB1 := Lib.hid (HB.out.trans (b1.mono hgs))
    clear b1
    dsimp only
    refine hK.out _ _ s1 (fun _ => ?_)
    clear hK
    try simp only [Act.put, List.setIfInBounds_toArray, List.set_cons_zero, List.set_cons_succ]
    refine held_take (i := 2) (v := .bool false) (some 7) rfl rfl (by kernel_rfl) (by kernel_rfl) (by kernel_rfl) (fun _ _ _ h => h) (Or.inl ⟨by rfl, fun W hW => by go_simp⟩) s1 ?_
    simp only [Act.put, List.setIfInBounds_toArray, List.set_cons_zero, List.set_cons_succ]
    refine held_take (i := 3) (v := undef) (some 8) rfl rfl (by kernel_rfl) (by kernel_rfl) (by kernel_rfl) (fun _ _ _ h => h) (Or.inr ⟨by rfl, by rfl⟩) s1 ?_
    simp only [Act.put, List.setIfInBounds_toArray, List.set_cons_zero, List.set_cons_succ]
    refine held_take (i := 5) (v := undef) (some 10) rfl rfl (by kernel_rfl) (by kernel_rfl) (by kernel_rfl) (fun _ _ _ h => h) (Or.inr ⟨by rfl, by rfl⟩) s1 ?_
    simp only [Act.put, List.setIfInBounds_toArray, List.set_cons_zero, List.set_cons_succ]
    refine held_take (i := 7) (v := undef) (some 12) rfl rfl (by kernel_rfl) (by kernel_rfl) (by kernel_rfl) (fun _ _ _ h => h) (Or.inr ⟨by rfl, by rfl⟩) s1 ?_
    simp only [Act.put, List.setIfInBounds_toArray, List.set_cons_zero, List.set_cons_succ]
    refine held_take (i := 4) (v := undef) (some 9) rfl rfl (by kernel_rfl) (by kernel_rfl) (by kernel_rfl) (fun _ _ _ h => h) (Or.inr ⟨by rfl, by rfl⟩) s1 ?_
    simp only [Act.put, List.setIfInBounds_toArray, List.set_cons_zero, List.set_cons_succ]
    refine held_take (i := 8) (v := undef) (some 13) rfl rfl (by kernel_rfl) (by kernel_rfl) (by kernel_rfl) (fun _ _ _ h => h) (Or.inr ⟨by rfl, by rfl⟩) s1 ?_
    simp only [Act.put, List.setIfInBounds_toArray, List.set_cons_zero, List.set_cons_succ]
    refine held_take (i := 6) (v := undef) (some 11) rfl rfl (by kernel_rfl) (by kernel_rfl) (by kernel_rfl) (fun _ _ _ h => h) (Or.inr ⟨by rfl, by rfl⟩) s1 ?_
    simp only [Act.put, List.setIfInBounds_toArray, List.set_cons_zero, List.set_cons_succ]
    refine held_take (i := 9) (v := undef) (some 14) rfl rfl (by kernel_rfl) (by kernel_rfl) (by kernel_rfl) (fun _ _ _ h => h) (Or.inr ⟨by rfl, by rfl⟩) s1 ?_
    simp only [Act.put, List.setIfInBounds_toArray, List.set_cons_zero, List.set_cons_succ]
    refine held_take (i := 10) (v := .bool false) (some 15) rfl rfl (by kernel_rfl) (by kernel_rfl) (by kernel_rfl) (fun _ _ _ h => h) (Or.inl ⟨by rfl, fun W hW => by go_simp⟩) s1 ?_
    simp only [Act.put, List.setIfInBounds_toArray, List.set_cons_zero, List.set_cons_succ]
    refine held_take (i := 11) (v := .bool false) (some 4) rfl rfl (by kernel_rfl) (by kernel_rfl) (by kernel_rfl) (fun _ _ _ h => h) (Or.inl ⟨by rfl, fun W hW => by go_simp⟩) s1 ?_
    simp only [Act.put, List.setIfInBounds_toArray, List.set_cons_zero, List.set_cons_succ]
    refine wpAnyH_done (by kernel_rfl) ?_ _
    refine NoPanic.normal ?_
    go_wp2_with fail
    go_ret
    exact ⟨rfl, by rw [hgz]; exact HB1.out⟩

section
variable {w : World} {b : Nat} {c : Fc}
set_option maxHeartbeats 1600000 in
theorem State_any (h : Fa w b c) : Calls Try.prog 13 #[ptr b] w fun e w' => e = .returned (.int .i64 (c.st : Int)) ∧ w' = w := by
  have c5 := h.c5
  clear h
  unfold ptr
  go_enter Try.func13, Try.ntmps13
  go_wp2_with fail
  go_ret
  exact ⟨rfl, rfl⟩

set_option maxHeartbeats 1600000 in
theorem At_any (h : Fa w b c) (hf : 0 ≤ c.df ∧ c.df ≤ 1152921504606846976) (hd : 0 ≤ c.dw ∧ c.dw ≤ 16) : Calls Try.prog 12 #[ptr b] w fun e w' => e = .returned (due c.df c.dw) ∧ Below w.heap.size w w' := by
  have HA := Lib.hid (at_any c.df c.dw w hf hd)
  have c8 := h.c8
  have c9 := h.c9
  clear h hf hd
  generalize c.df = f at *
  generalize c.dw = d at *
  unfold ptr dl due at *
  by_cases h : 0 < d
  · simp only [if_pos h] at *
    clear h
    go_enter Try.func12, Try.ntmps12
    go_wp2_with fail
    refine HA.out.mono ?_
    rintro e w1 ⟨rfl, b1⟩
    go_wp2_with fail
    go_ret2
    exact ⟨rfl, b1⟩
  · simp only [if_neg h] at *
    clear h
    go_enter Try.func12, Try.ntmps12
    go_wp2_with fail
    refine HA.out.mono ?_
    rintro e w1 ⟨rfl, b1⟩
    go_wp2_with fail
    go_ret2
    exact ⟨rfl, b1⟩

set_option maxHeartbeats 1600000 in
theorem within_any (h : Fa w b c) (lo hi : Int) : Calls Try.prog 36 #[ptr b, .int .i64 lo, .int .i64 hi] w fun e w' => e = .returned (.bool (decide (lo ≤ c.st ∧ (c.st : Int) ≤ hi))) ∧ w' = w := by
  have c5 := h.c5
  clear h
  generalize (c.st : Int) = s at *
  unfold ptr
  by_cases h1 : lo ≤ s
  · by_cases h2 : s ≤ hi
    · rw [decide_eq_true ⟨h1, h2⟩]
      go_enter Try.func36, Try.ntmps36
      go_wp2_with fail
      go_ret
      exact ⟨rfl, rfl⟩
    · rw [decide_eq_false (by omega)]
      have h2' : decide (s ≤ hi) = false := decide_eq_false h2
      go_enter Try.func36, Try.ntmps36
      go_wp2_with fail
      go_ret
      exact ⟨rfl, rfl⟩
  · rw [decide_eq_false (by omega)]
    have h1' : decide (lo ≤ s) = false := decide_eq_false h1
    go_enter Try.func36, Try.ntmps36
    go_wp2_with fail
    go_ret
    exact ⟨rfl, rfl⟩

set_option maxHeartbeats 1600000 in
theorem fended_any (h : Fa w b c) : Calls Try.prog 35 #[ptr b] w fun e w' => e = .returned (.bool (decide (c.st = 10 ∨ c.st = 11))) ∧ w' = w := by
  have c5 := h.c5
  clear h
  generalize hs : c.st = s at *
  unfold ptr
  by_cases h1 : s = 10
  · subst h1
    go_enter Try.func35, Try.ntmps35
    go_wp2_with fail
    go_ret
    exact ⟨rfl, rfl⟩
  · have n1 : ((s : Int) == 10) = false := by rw [beq_eq_false_iff_ne]; omega
    by_cases h2 : s = 11
    · subst h2
      go_enter Try.func35, Try.ntmps35
      go_wp2_with fail
      go_ret
      exact ⟨rfl, rfl⟩
    · have n2 : ((s : Int) == 11) = false := by rw [beq_eq_false_iff_ne]; omega
      rw [decide_eq_false (by omega)]
      go_enter Try.func35, Try.ntmps35
      go_wp2_with fail
      go_ret
      exact ⟨rfl, rfl⟩

set_option maxHeartbeats 1600000 in
theorem sends_any (h : Fa w b c) : Calls Try.prog 48 #[ptr b] w fun e w' => e = .returned (.bool (decide (c.st = 3 ∨ c.st = 6))) ∧ w' = w := by
  have c5 := h.c5
  clear h
  generalize hs : c.st = s at *
  unfold ptr
  by_cases h1 : s = 3
  · subst h1
    go_enter Try.func48, Try.ntmps48
    go_wp2_with fail
    go_ret
    exact ⟨rfl, rfl⟩
  · have n1 : ((s : Int) == 3) = false := by rw [beq_eq_false_iff_ne]; omega
    by_cases h2 : s = 6
    · subst h2
      go_enter Try.func48, Try.ntmps48
      go_wp2_with fail
      go_ret
      exact ⟨rfl, rfl⟩
    · have n2 : ((s : Int) == 6) = false := by rw [beq_eq_false_iff_ne]; omega
      rw [decide_eq_false (by omega)]
      go_enter Try.func48, Try.ntmps48
      go_wp2_with fail
      go_ret
      exact ⟨rfl, rfl⟩

set_option maxHeartbeats 1600000 in
theorem takes_any (h : Fa w b c) : Calls Try.prog 64 #[ptr b] w fun e w' => e = .returned (.bool (decide (c.st = 3 ∨ c.st = 4 ∨ c.st = 5))) ∧ w' = w := by
  have c5 := h.c5
  clear h
  generalize hs : c.st = s at *
  unfold ptr
  by_cases h1 : s = 3
  · subst h1
    go_enter Try.func64, Try.ntmps64
    go_wp2_with fail
    go_ret
    exact ⟨rfl, rfl⟩
  · have n1 : ((s : Int) == 3) = false := by rw [beq_eq_false_iff_ne]; omega
    by_cases h2 : s = 4
    · subst h2
      go_enter Try.func64, Try.ntmps64
      go_wp2_with fail
      go_ret
      exact ⟨rfl, rfl⟩
    · have n2 : ((s : Int) == 4) = false := by rw [beq_eq_false_iff_ne]; omega
      by_cases h3 : s = 5
      · subst h3
        go_enter Try.func64, Try.ntmps64
        go_wp2_with fail
        go_ret
        exact ⟨rfl, rfl⟩
      · have n3 : ((s : Int) == 5) = false := by rw [beq_eq_false_iff_ne]; omega
        rw [decide_eq_false (by omega)]
        go_enter Try.func64, Try.ntmps64
        go_wp2_with fail
        go_ret
        exact ⟨rfl, rfl⟩

def Fc.at_ (c : Fc) (s : Nat) : Fc := { c with st := s }
def Fc.lin (c : Fc) (t : Int) : Fc := { c with st := 9, df := t, dw := 8 }
def Fc.fin_ (c : Fc) (s : Nat) : Fc := { c with st := s, df := 0, dw := 0 }
/-- What it leads to that a Fin is acknowledged; that the other one's came. -/
def Fc.fina (c : Fc) (t : Int) : Fc := if c.st = 4 then c.at_ 5 else if c.st = 7 then c.lin t else if c.st = 8 then c.fin_ 10 else c
def Fc.finc (c : Fc) (t : Int) : Fc := if c.st = 3 then c.at_ 6 else if c.st = 4 then c.at_ 7 else if c.st = 5 then c.lin t else c

set_option maxHeartbeats 1600000 in
theorem linger_any (h : Fa w b c) (t : Int) : Calls Try.prog 75 #[ptr b, .int .i64 t] w (Did w b (c.lin t)) := by
  have H := Lib.hid h
  have c5 := h.c5
  have c8 := h.c8
  have c9 := h.c9
  have f5 := h.fz 5
  have f8 := h.fz 8
  have f9 := h.fz 9
  clear h
  unfold ptr
  go_enter Try.func75, Try.ntmps75
  go_wp2_with fail
  go_end0
  exact ⟨rfl, ((H.out.set 5 _ (c.at_ 9) rfl).set 8 _ { c.at_ 9 with df := t } rfl).set 9 _ _ rfl, ((ch_set w b 5 _).set 8 _).set 9 _⟩

set_option maxHeartbeats 1600000 in
theorem end_any (h : Fa w b c) (s : Nat) : Calls Try.prog 38 #[ptr b, .int .i64 (s : Int)] w (Did w b (c.fin_ s)) := by
  have H := Lib.hid h
  have c5 := h.c5
  have c8 := h.c8
  have c9 := h.c9
  have f5 := h.fz 5
  have f8 := h.fz 8
  have f9 := h.fz 9
  clear h
  unfold ptr
  go_enter Try.func38, Try.ntmps38
  go_wp2_with fail
  go_end0
  exact ⟨rfl, ((H.out.set 5 _ (c.at_ s) rfl).set 8 _ { c.at_ s with df := 0 } rfl).set 9 _ _ rfl, ((ch_set w b 5 _).set 8 _).set 9 _⟩

theorem Did.same (h : Fa w b c) : Did w b c (.returned (.tuple #[])) w := ⟨rfl, h, Ch.refl _ _⟩

set_option maxHeartbeats 1600000 in
theorem finAcked_any (h : Fa w b c) (t : Int) : Calls Try.prog 61 #[ptr b, .int .i64 t] w (Did w b (c.fina t)) := by
  have H := Lib.hid h
  have HL := Lib.hid (linger_any h t)
  have HE := Lib.hid (end_any h 10)
  have c5 := h.c5
  have f5 := h.fz 5
  clear h
  unfold Fc.fina
  generalize hs : c.st = s at *
  unfold ptr at *
  by_cases h1 : s = 4
  · subst h1
    rw [if_pos rfl]
    go_enter Try.func61, Try.ntmps61
    go_wp2_with fail
    go_end0
    exact ⟨rfl, H.out.set 5 _ _ rfl, ch_set w b 5 _⟩
  · rw [if_neg h1]
    have n1 : ((s : Int) == 4) = false := by rw [beq_eq_false_iff_ne]; omega
    by_cases h2 : s = 7
    · subst h2
      rw [if_pos rfl]
      go_enter Try.func61, Try.ntmps61
      go_wp2_with fail
      refine HL.out.mono ?_
      rintro e w1 ⟨rfl, d1, d2⟩
      go_wp2_with fail
      go_end0
      exact ⟨rfl, d1, d2⟩
    · rw [if_neg h2]
      have n2 : ((s : Int) == 7) = false := by rw [beq_eq_false_iff_ne]; omega
      by_cases h3 : s = 8
      · subst h3
        rw [if_pos rfl]
        go_enter Try.func61, Try.ntmps61
        go_wp2_with fail
        refine HE.out.mono ?_
        rintro e w1 ⟨rfl, d1, d2⟩
        go_wp2_with fail
        go_end0
        exact ⟨rfl, d1, d2⟩
      · rw [if_neg h3]
        have n3 : ((s : Int) == 8) = false := by rw [beq_eq_false_iff_ne]; omega
        go_enter Try.func61, Try.ntmps61
        go_wp2_with fail
        go_end0
        exact Did.same H.out

set_option maxHeartbeats 1600000 in
theorem finCame_any (h : Fa w b c) (t : Int) : Calls Try.prog 65 #[ptr b, .int .i64 t] w (Did w b (c.finc t)) := by
  have H := Lib.hid h
  have HL := Lib.hid (linger_any h t)
  have c5 := h.c5
  have f5 := h.fz 5
  clear h
  unfold Fc.finc
  generalize hs : c.st = s at *
  unfold ptr at *
  by_cases h1 : s = 3
  · subst h1
    rw [if_pos rfl]
    go_enter Try.func65, Try.ntmps65
    go_wp2_with fail
    go_end0
    exact ⟨rfl, H.out.set 5 _ _ rfl, ch_set w b 5 _⟩
  · rw [if_neg h1]
    have n1 : ((s : Int) == 3) = false := by rw [beq_eq_false_iff_ne]; omega
    by_cases h2 : s = 4
    · subst h2
      rw [if_pos rfl]
      go_enter Try.func65, Try.ntmps65
      go_wp2_with fail
      go_end0
      exact ⟨rfl, H.out.set 5 _ _ rfl, ch_set w b 5 _⟩
    · rw [if_neg h2]
      have n2 : ((s : Int) == 4) = false := by rw [beq_eq_false_iff_ne]; omega
      by_cases h3 : s = 5
      · subst h3
        rw [if_pos rfl]
        go_enter Try.func65, Try.ntmps65
        go_wp2_with fail
        refine HL.out.mono ?_
        rintro e w1 ⟨rfl, d1, d2⟩
        go_wp2_with fail
        go_end0
        exact ⟨rfl, d1, d2⟩
      · rw [if_neg h3]
        have n3 : ((s : Int) == 5) = false := by rw [beq_eq_false_iff_ne]; omega
        go_enter Try.func65, Try.ntmps65
        go_wp2_with fail
        go_end0
        exact Did.same H.out
end
end Go.Proofs.Ytnpkmkjenlhkiaa

namespace Go.Proofs.Ytnpkmkjenlhkiaa
set_option linter.unusedVariables false
set_option linter.unusedSimpArgs false
set_option maxRecDepth 20000
open Go.RowKit

/-- The slice '.slice A m c' holds the cells ys, so many each element. -/
def Src (w : World) (A : Option Addr) (m c size : Nat) (ys : List Value) : Prop :=
  ys.length = m * size ∧ m ≤ c ∧ c ≤ 9223372036854775807 ∧ (∀ u ∈ ys, u.oneCell' = true) ∧ (0 < m → ∃ b o, A = some ⟨b, o, none⟩ ∧ w.rangeAt b o ys)
section
variable {w w' : World} {A : Option Addr} {m c size : Nat} {ys : List Value}
theorem Src.below (h : Src w A m c size ys) (b : Below w.heap.size w w') : Src w' A m c size ys :=
  ⟨h.1, h.2.1, h.2.2.1, h.2.2.2.1, fun hm => by
    obtain ⟨g, o, e, hr⟩ := h.2.2.2.2 hm
    exact ⟨g, o, e, range_below hr b⟩⟩
theorem Src.of_own {base : Nat} {e : TypeId} {n : Nat} {A : Option Addr} {k : Nat} (h : w.ownsRow base e size (.slice A k c) n ys) (h1 : ∀ u ∈ ys, u.oneCell' = true) : Src w A n c size ys ∧ k = n := by
  rcases h.2 with ⟨e1, rfl⟩ | ⟨g, cap, cur, e1, hb, hg, hnc, hm, hs, ht⟩
  · injection e1 with e1 e2 e3
    subst e1 e2 e3
    exact ⟨⟨h.1, Nat.le_refl _, Nat.zero_le _, h1, fun h => absurd h (by omega)⟩, rfl⟩
  · injection e1 with e1 e2 e3
    subst e1 e2 e3
    refine ⟨⟨h.1, hnc, by unfold maxLen at hm; omega, h1, fun _ => ⟨g, 0, rfl, fun j u hu => ?_⟩⟩, rfl⟩
    have hj := (List.getElem?_eq_some_iff.1 hu).1
    rw [Nat.zero_add, World.ownsRow.cellAt h j (by rw [← h.1]; exact hj)]
    exact hu
theorem ch_ownrow {base : Nat} {e : TypeId} {v : Value} {n : Nat} {xs : List Value} (h : w.ownsRow base e size v n xs) {g : Nat} (hg : v.ownBlock = some g) : ∃ cs, w.heap[g]? = some (.cells cs e (0, 0)) := by
  rcases h.2 with ⟨rfl, _⟩ | ⟨g', cap, cur, rfl, _, hg', _⟩
  · cases hg
  · injection hg with hg
    subst hg
    exact ⟨cur, hg'⟩
end

section
variable {P : Program} (w : World)
/-- The run of append. -/
theorem app_gen (t ty e : TypeId) (z : Value) (size by_ : Nat) (ht : P.underlying t = some (.slice e)) (hi : (P.info? e).map (fun i => (i.zero, i.size, i.bytes)) = some (some z, size, by_)) (hzs : z.cells.size = size) (hsz : 0 < size) (hby : by_ ≤ 128)
    (base : Nat) (v : Value) (n : Nat) (xs : List Value) (hown : w.ownsRow base e size v n xs)
    (A : Option Addr) (m c : Nat) (ys : List Value) (hy : Src w A m c size ys) (hs : n + m ≤ 1099511627776) (hb : base ≤ w.heap.size) :
    ∃ v' w', (Builtin.append_ #[t, t] ty #[v, .slice A m c]).run P w = .ok v' w' ∧ w'.ownsRow base e size v' (n + m) (xs ++ ys) ∧ w.grownBy w' v.ownBlock ∧ (v'.ownBlock = v.ownBlock ∨ v'.ownBlock = some w.heap.size) := by
  obtain ⟨i, hi, hz, h1, h2⟩ := info_parts hi
  rcases A with _ | ad
  · have hm : m = 0 := by
      rcases Nat.eq_zero_or_pos m with h0 | h0
      · exact h0
      · obtain ⟨_, _, e, _⟩ := hy.2.2.2.2 h0
        cases e
    subst hm
    obtain rfl : ys = [] := List.eq_nil_of_length_eq_zero (by rw [hy.1]; omega)
    refine ⟨v, w, ?_, by simpa using hown, v_g_refl _ _, .inl rfl⟩
    rcases hown.2 with ⟨rfl, rfl⟩ | ⟨g, cap, cur, rfl, _, _, hnc, _⟩
    · simp [Builtin.append_, run_underlying ht, sizeOf, typeInfo, hi, Builtin.lenOf, Builtin.firstCells]
    · simp [Builtin.append_, run_underlying ht, sizeOf, typeInfo, hi, Builtin.lenOf, Builtin.firstCells, hnc, storeCells]
  · obtain ⟨v', w', hrun, g2, g3, _, g5⟩ := run_append_own_at (P := P) w base t ty e i z size by_ ht hi hz h1 h2 hzs hsz v n xs hown ad m c ys
      hy.1 (fun j u hu => by
        have hj := (List.getElem?_eq_some_iff.1 hu).1
        rw [hy.1] at hj
        obtain ⟨b, p, e, hc⟩ := hy.2.2.2.2 (by rcases Nat.eq_zero_or_pos m with h0 | h0; (subst h0; omega); exact h0)
        injection e with e
        subst e
        rw [Addr.add_lit]
        exact hc j u hu) hy.2.2.2.1 (by unfold maxLen; omega) (by
          have : (n + m) * by_ ≤ 1099511627776 * 128 := Nat.mul_le_mul hs hby
          omega) hb
    exact ⟨v', w', hrun, g2, g3, g5⟩
end
/-- .. in a walk. -/
theorem wpList_appG {P : Program} {ops : Array Oper} {rest : List Oper} {o : Oper} {a : Act} {w : World} {Q : Exit → Act → World → Prop} (hgd : o.guard = none) (s x : Operand) (t e : TypeId)
    (ho : o.op = .call { callee := .builtin .append, args := #[s, x], argTypes := #[t, t] }) (z : Value) (size by_ : Nat)
    (ht : P.underlying t = some (.slice e)) (hi : (P.info? e).map (fun i => (i.zero, i.size, i.bytes)) = some (some z, size, by_)) (hzs : z.cells.size = size) (hsz : 0 < size) (hby : by_ ≤ 128)
    (base : Nat) (v : Value) (n : Nat) (xs : List Value) (hs : a.eval s = v) (hown : w.ownsRow base e size v n xs)
    (A : Option Addr) (m c : Nat) (ys : List Value) (hx : a.eval x = .slice A m c) (hy : Src w A m c size ys) (hn : n + m ≤ 1099511627776) (hb : base ≤ w.heap.size)
    (h : ∀ v' w', w'.ownsRow base e size v' (n + m) (xs ++ ys) → w.grownBy w' v.ownBlock → (v'.ownBlock = v.ownBlock ∨ v'.ownBlock = some w.heap.size) → wpList P ops Q rest (a.put o.dst v') w') : wpList P ops Q (o :: rest) a w := by
  obtain ⟨v', w', hrun, h1, h2, h3⟩ := app_gen (P := P) w t o.type e z size by_ ht hi hzs hsz hby base v n xs hown A m c ys hy hn hb
  exact Lib.wpList_append_run w hgd s x t t ho _ _ hs hx v' w' hrun (h v' w' h1 h2 h3)
/-- .. as a step of a region that draws. -/
theorem step_appG {P : Program} {ops : Array Oper} {o : Oper} {a : Act} {w : World} {K : Act → World → Prop} {Q : Exit → Act → World → Prop} {E : Prop} (hgd : o.guard = none) (s x : Operand) (t e : TypeId)
    (ho : o.op = .call { callee := .builtin .append, args := #[s, x], argTypes := #[t, t] }) (z : Value) (size by_ : Nat)
    (ht : P.underlying t = some (.slice e)) (hi : (P.info? e).map (fun i => (i.zero, i.size, i.bytes)) = some (some z, size, by_)) (hzs : z.cells.size = size) (hsz : 0 < size) (hby : by_ ≤ 128)
    (base : Nat) (v : Value) (n : Nat) (xs : List Value) (hs : a.eval s = v) (hown : w.ownsRow base e size v n xs)
    (A : Option Addr) (m c : Nat) (ys : List Value) (hx : a.eval x = .slice A m c) (hy : Src w A m c size ys) (hn : n + m ≤ 1099511627776) (hb : base ≤ w.heap.size)
    (h : ∀ v' w', w'.ownsRow base e size v' (n + m) (xs ++ ys) → w.grownBy w' v.ownBlock → (v'.ownBlock = v.ownBlock ∨ v'.ownBlock = some w.heap.size) → K (a.put o.dst v') w') :
    if Region.wanted o (yielded ops a.tmps) = true then Oper.wp P o a w K Q else E := by
  have hw : Region.wanted o (yielded ops a.tmps) = true := by simp [Region.wanted, hgd]
  rw [if_pos hw]
  obtain ⟨v', w', hrun, h1, h2, h3⟩ := app_gen (P := P) w t o.type e z size by_ ht hi hzs hsz hby base v n xs hown A m c ys hy hn hb
  exact Lib.wp_append_run w s x t t ho _ _ hs hx v' w' hrun (h v' w' h1 h2 h3)
/-- Another step: a literal of one element. -/
theorem step_litG {P : Program} {ops : Array Oper} {op : Oper} {a : Act} {w : World} {K : Act → World → Prop} {Q : Exit → Act → World → Prop} {E : Prop} (hgd : Region.wanted op (yielded ops a.tmps) = true) (x : Operand) (t e : TypeId) (vs : List Value) (ho : op.op = .buildSlice t 1 #[(0, x)])
    (hrun : (Instr.buildSlice t 1 #[(0, .agg vs.toArray)]).run P w = .ok (.slice (some ⟨w.heap.size, 0, none⟩) 1 1) (w.alloc (.cells vs.toArray e))) (hx : a.eval x = .agg vs.toArray) (g : Nat) (hg : w.heap.size = g)
    (h : ∀ w', Own w' g vs → Below w.heap.size w w' → w'.heap.size = g + 1 → K (a.put op.dst (.slice (some ⟨g, 0, none⟩) 1 1)) w') : if Region.wanted op (yielded ops a.tmps) = true then Oper.wp P op a w K Q else E := by
  subst hg
  rw [if_pos hgd]
  unfold Oper.wp
  have hr : (execOp a.eval op).run P w = .ok (.value (.slice (some ⟨w.heap.size, 0, none⟩) 1 1)) (w.alloc (.cells vs.toArray e)) := by simp [execOp, ho, hx, hrun]
  rw [hr, Oper.upon_value]
  exact h _ (Own.new w vs _) (below_a w _) (by simp)
theorem wpList_litG {P : Program} {ops : Array Oper} {rest : List Oper} {op : Oper} {a : Act} {w : World} {Q : Exit → Act → World → Prop} (hgd : Region.wanted op (yielded ops a.tmps) = true) (x : Operand) (t e : TypeId) (vs : List Value) (ho : op.op = .buildSlice t 1 #[(0, x)])
    (hrun : (Instr.buildSlice t 1 #[(0, .agg vs.toArray)]).run P w = .ok (.slice (some ⟨w.heap.size, 0, none⟩) 1 1) (w.alloc (.cells vs.toArray e))) (hx : a.eval x = .agg vs.toArray) (g : Nat) (hg : w.heap.size = g)
    (h : ∀ w', Own w' g vs → Below w.heap.size w w' → w'.heap.size = g + 1 → wpList P ops Q rest (a.put op.dst (.slice (some ⟨g, 0, none⟩) 1 1)) w') : wpList P ops Q (op :: rest) a w := by
  subst hg
  refine wpList_want hgd fun K hK => ?_
  unfold Oper.wp
  have hr : (execOp a.eval op).run P w = .ok (.value (.slice (some ⟨w.heap.size, 0, none⟩) 1 1)) (w.alloc (.cells vs.toArray e)) := by simp [execOp, ho, hx, hrun]
  rw [hr, Oper.upon_value]
  exact hK _ _ (h _ (Own.new w vs _) (below_a w _) (by simp))
end Go.Proofs.Ytnpkmkjenlhkiaa

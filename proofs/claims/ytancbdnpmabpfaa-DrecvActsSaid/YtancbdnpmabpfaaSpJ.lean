/- Which run has a number; a set's Has, Next, Many, Runs. Conditions: the set stands; whole numbers of 64 bits. -/
import Derived.Test.YtancbdnpmabpfaaSpI
namespace Go.Proofs.Ytancbdnpmabpfaa
set_option linter.unusedVariables false
set_option linter.unusedSimpArgs false
open Go.RowKit Go.Lib

/-- Which run has n. -/
def AbR (l : List Rn) (n : Int) (r : Rn) (b : Bool) : Prop := (b = true ∧ r ∈ l ∧ r.1 ≤ n ∧ n < r.1 + r.2) ∨ (b = false ∧ ¬ Has l n)
def AbP (w : World) (l : List Rn) (n : Int) (e : Ending) (w' : World) : Prop := ∃ (r : Rn) (b : Bool), e = .returned (.tuple #[rg r, .bool b]) ∧ AbR l n r b ∧ Below w.heap.size w w'

set_option maxRecDepth 8000 in
set_option maxHeartbeats 4000000 in
theorem about_any {w : World} {sb : Nat} {v : Value} {l : List Rn} (H : St w sb v l) {x : Int} (hx : isI x) :
    Calls Try.prog 40 #[ptr sb, .int .i64 x] w (AbP w l x) := by
  have hB0 : Below w.heap.size w ((w.alloc (.cells #[.int .i64 x] 3)).alloc (.cells #[.int .i64 0, .int .i64 0] 61)) := (below_a w _).alloc (by simp) _
  have hb1 : ((w.alloc (.cells #[.int .i64 x] 3)).alloc (.cells #[.int .i64 0, .int .i64 0] 61)).heap[w.heap.size]? = some (.cells #[.int .i64 x] 3 (0, 0)) :=
    (Below.heap_alloc _ _ _ (by simp)).trans (heap_alloc_new w _)
  have hb2 : ((w.alloc (.cells #[.int .i64 x] 3)).alloc (.cells #[.int .i64 0, .int .i64 0] 61)).heap[w.heap.size + 1]? = some (.cells #[.int .i64 0, .int .i64 0] 61 (0, 0)) := by
    have := heap_alloc_new (w.alloc (.cells #[.int .i64 x] 3)) (.cells #[.int .i64 0, .int .i64 0] 61)
    rwa [World.size_alloc] at this
  have HS2 := Lib.hid (H.below hB0)
  have HB0 := Lib.hid hB0
  clear hB0 H
  unfold ptr
  go_enter Try.func40, Try.ntmps40
  go_upto_region 3 with (fail)
  generalize (w.alloc (.cells #[.int .i64 x] 3)).alloc (.cells #[.int .i64 0, .int .i64 0] 61) = w2 at *
  have HX : Hid (∀ V, Below w2.heap.size w2 V → V.cell? ⟨w.heap.size, 0, none⟩ = some (.int .i64 x) ∧ V.heap[w.heap.size + 1]? = some (.cells #[.int .i64 0, .int .i64 0] 61 (0, 0))) := Lib.hid (fun V hb => ⟨keepc hb (by rw [cell_of_row _ _ _ _ _ _ hb1]; rfl), (hb.block _ (Array.getElem?_eq_some_iff.1 hb2).1).trans hb2⟩)
  have e1 : ∀ args w, (callFunc 57 args).run Try.prog w = .ok (.enter 57 args) w := enters_of Try.func57 (by kernel_rfl) rfl
  have F1 := Lib.hid (search_any HS2.out 57 #[ptr w.heap.size] e1 (fun r => decide (x < r.1 + r.2)) (fun W hb r hr => clB W w.heap.size x r hr (HX.out W hb).1) (mono_endlt HS2.out.tid x))
  clear e1 hb1 hb2
  unfold ptr at F1
  go_wp2_with fail
  refine (F1.out).mono ?_
  rintro e w4 ⟨k, rfl, p1, p2, p3, b4⟩
  have HS4 := Lib.hid (HS2.out.below b4)
  have B4 := Lib.hid (HB0.out.trans (b4.mono HB0.out.size))
  obtain ⟨x0, hh2⟩ := HX.out w4 b4
  obtain ⟨A, c, hv, hc1, hc2⟩ := HS4.out.row.slice
  have hrow := HS4.out.row
  have c4 := HS4.out.c0
  have hll := HS4.out.len
  have htid := HS4.out.tid
  subst hv
  have HP2 := Lib.hid p2
  have HP3 := Lib.hid p3
  have hno : (k = l.length ∨ x < (l.getD k (0, 0)).1) → ¬ Has l x := fun hor => by
    rintro ⟨r, hr, h1, h2⟩
    obtain ⟨i, hi, e⟩ := List.getElem_of_mem hr
    have hd : l.getD i (0, 0) = r := by rw [List.getD_eq_getElem?_getD, List.getElem?_eq_getElem hi]; exact e
    rcases Nat.lt_or_ge i k with hik | hik
    · have := p2 i hik
      rw [hd] at this
      simp at this
      omega
    · rcases hor with rfl | hor
      · omega
      · rcases Nat.lt_or_ge k i with h3 | h3
        · have := tid_rise htid k i h3 hi
          rw [hd] at this
          omega
        · obtain rfl : i = k := by omega
          rw [hd] at hor
          omega
  have HNO := Lib.hid hno
  clear p2 p3 b4 F1 HX HS2 HB0 hno htid
  have pf := frozen_of hh2
  have p0 : w4.cell? ⟨w.heap.size + 1, 0, none⟩ = some (.int .i64 0) := (cell_of_row _ _ 0 _ _ (0, 0) hh2)
  have p9 : w4.cell? ⟨w.heap.size + 1, 1, none⟩ = some (.int .i64 0) := (cell_of_row _ _ 1 _ _ (0, 0) hh2)
  have HH := Lib.hid hh2
  clear hh2
  have HD : Hid (∀ (nq : Nat) (a b : Int), Below w.heap.size w ((((w4.drewN nq).setCell ⟨w.heap.size + 1, 0, none⟩ (.int .i64 a)).setCell ⟨w.heap.size + 1, 1, none⟩ (.int .i64 b))) ∧ (((w4.drewN nq).setCell ⟨w.heap.size + 1, 0, none⟩ (.int .i64 a)).setCell ⟨w.heap.size + 1, 1, none⟩ (.int .i64 b)).rangeAt (w.heap.size + 1) 0 [.int .i64 a, .int .i64 b]) := Lib.hid (fun nq a b => by
    have hd : (w4.drewN nq).heap[w.heap.size + 1]? = _ := HH.out
    have st := store2 hd (.int .i64 a) (.int .i64 b)
    exact ⟨((Ch.of_below (fun k => k = w.heap.size + 1) B4.out).drewN nq |>.then_ st.2).below (fun x hx e => by omega), st.1⟩)
  by_cases hk : k = l.length
  · have HN := Lib.hid (HNO.out (.inl hk))
    clear hrow HP2 HP3 HNO
    subst hk
    generalize l.length = n at *
    have hd : decide ((n : Int) = (n : Int)) = true := by simp
    go_upto_region 4 with (fail)
    go_quiet (fail)
    go_wp2_with fail
    exact bodyPost_ret (results_c1 rfl _ _ (w.heap.size + 1) _ _ rfl (HD.out nq 0 0).2 Try.underlying61 rfl sz2) rfl ⟨(0, 0), false, rfl, .inr ⟨rfl, HN.out⟩, (HD.out nq 0 0).1⟩
  · have hkl : k < l.length := by omega
    obtain ⟨g, o, rfl, y0, y1, _⟩ := hrow.cells hkl
    have hmem := getD_mem hkl
    have hlast := HP3.out k (Nat.le_refl _) hkl
    have HN0 : Hid (x < (l.getD k (0, 0)).1 → ¬ Has l x) := Lib.hid (fun h => HNO.out (.inr h))
    clear hrow HP2 HP3 HNO
    generalize l.getD k (0, 0) = r at *
    obtain ⟨ra, rb⟩ := r
    dsimp only at *
    simp only [decide_eq_true_eq] at hlast
    generalize hln : l.length = n at *
    have hd0 : decide ((k : Int) = (n : Int)) = false := by simp; omega
    have hd1 : ¬ ((k : Int) = (n : Int)) := by omega
    by_cases hf : x < ra
    · have HN := Lib.hid (HN0.out hf)
      have hd2 : decide (x < ra) = true := decide_eq_true hf
      clear HN0
      go_upto_region 4 with (fail)
      go_quiet (fail)
      go_wp2_with fail
      exact bodyPost_ret (results_c1 rfl _ _ (w.heap.size + 1) _ _ rfl (HD.out nq 0 0).2 Try.underlying61 rfl sz2) rfl ⟨(0, 0), false, rfl, .inr ⟨rfl, HN.out⟩, (HD.out nq 0 0).1⟩
    · have hd2 : decide (x < ra) = false := decide_eq_false hf
      have HM : Hid (AbR l x (ra, rb) true) := Lib.hid (.inl ⟨rfl, hmem, by show ra ≤ x; omega, hlast⟩)
      clear HN0
      go_upto_region 4 with (fail)
      go_quiet (fail)
      go_wp2_with fail
      exact bodyPost_ret (results_c1 rfl _ _ (w.heap.size + 1) _ _ rfl (HD.out nq ra rb).2 Try.underlying61 rfl sz2) rfl ⟨(ra, rb), true, rfl, HM.out, (HD.out nq ra rb).1⟩
end Go.Proofs.Ytancbdnpmabpfaa

/- A path manager: New. Conditions: a whole number of 64 bits. -/
import Derived.Test.YtlcegchdkigibaaGreatDoorMg20
import Derived.Test.YtlcegchdkigibaaGreatDoorMg21
namespace Go.Proofs.YtlcegchdkigibaaGreatDoor.LP
set_option linter.unusedVariables false
set_option linter.unusedSimpArgs false
open Go.RowKit Go.Lib

/-- At first: these two, which have a flow. -/
def Pm.none (m : Nat) : Pm := ⟨fun _ => false, fun _ => false, fun _ _ => false, m⟩
def most (x : Int) : Nat := (min (max x 1) 8).toNat
theorem most_eq (x : Int) : min (max x 1) 8 = (most x : Int) := by unfold most; omega
theorem most_bd (x : Int) : 1 ≤ most x ∧ most x ≤ 8 := by unfold most; omega
def Pm.new (i j m : Nat) : Pm := (((Pm.none m).setO i true).setT j true).setF i j true

theorem new_bad {x y : Int} (h : (mb x && mb y) = false) (z : Int) (w : World) : Calls Tryz.prog 115 #[.int .i64 x, .int .i64 y, .int .i64 z] w fun e w' => e = .returned (.tuple #[.pointer none, .int .i64 1]) ∧ w' = w := by
  have HX := Lib.hid (mayBe_any x w)
  have HY := Lib.hid (mayBe_any y w)
  generalize mb x = a at *
  generalize mb y = b at *
  cases a
  · clear h HY
    go_enter Tryz.func115, Tryz.ntmps115
    go_wp2_with fail
    refine (HX.out).mono ?_
    rintro e w1 ⟨rfl, rfl⟩
    go_wp2_with fail
    go_ret2
    exact ⟨rfl, rfl⟩
  · obtain rfl : b = false := by simpa using h
    clear h
    go_enter Tryz.func115, Tryz.ntmps115
    go_wp2_with fail
    refine (HX.out).mono ?_
    rintro e w1 ⟨rfl, rfl⟩
    go_wp2_with fail
    refine (HY.out).mono ?_
    rintro e w1 ⟨rfl, rfl⟩
    go_wp2_with fail
    go_ret2
    exact ⟨rfl, rfl⟩

set_option maxHeartbeats 3200000 in
theorem new_good {i j : Nat} (hi : i < 4) (hj : j < 4) (x : Int) (w : World) : Calls Tryz.prog 115 #[.int .i64 (i : Int), .int .i64 (j : Int), .int .i64 x] w fun e w' => ∃ pb, e = .returned (.tuple #[ptr pb, .int .i64 0]) ∧ St w' pb (Pm.new i j (most x)) ∧ Below w.heap.size w w' ∧ w.heap.size ≤ pb := by
  have HX := Lib.hid (mayBe_any (i : Int) w)
  have HY := Lib.hid (mayBe_any (j : Int) w)
  rw [mb_of hi] at HX
  rw [mb_of hj] at HY
  have S0 : Hid (St (w.alloc (.cells (Pm.none (most x)).cs 193)) w.heap.size (Pm.none (most x))) := Lib.hid (heap_alloc_new w _)
  have HB := Lib.hid (below_a w (.cells (Pm.none (most x)).cs 193))
  have HI := Lib.hid (And.intro hi hj)
  have hmx := most_eq x
  have HNB : Hid (∀ m, (Pm.none m).cs = #[.bool false, .bool false, .bool false, .bool false, .bool false, .bool false, .bool false, .bool false, .bool false, .bool false, .bool false, .bool false, .bool false, .bool false, .bool false, .bool false, .bool false, .bool false, .bool false, .bool false, .bool false, .bool false, .bool false, .bool false, .int .i64 (m : Int)]) := Lib.hid (fun m => rfl)
  unfold Pm.new
  generalize hm : most x = m at *
  clear hm
  unfold ptr
  go_enter Tryz.func115, Tryz.ntmps115
  go_wp2_with fail
  refine (HX.out).mono ?_
  rintro e w1 ⟨rfl, rfl⟩
  go_wp2_with fail
  refine (HY.out).mono ?_
  rintro e w1 ⟨rfl, rfl⟩
  go_wp2_with fail
  rw [HNB.out] at S0 HB
  have HG : Hid (w1.heap.size ≤ w1.heap.size) := Lib.hid (Nat.le_refl _)
  clear hmx HNB HX HY
  obtain ⟨g, hg⟩ : ∃ g, g = w1.heap.size := ⟨_, rfl⟩
  have HG : Hid (w1.heap.size ≤ g) := Lib.hid (by omega)
  rw [← hg] at S0 ⊢
  clear hg
  generalize w1.alloc (.cells #[.bool false, .bool false, .bool false, .bool false, .bool false, .bool false, .bool false, .bool false, .bool false, .bool false, .bool false, .bool false, .bool false, .bool false, .bool false, .bool false, .bool false, .bool false, .bool false, .bool false, .bool false, .bool false, .bool false, .bool false, .int .i64 (m : Int)] 193) = W0 at *
  have c0 := (S0.out.drewN 1).o hi
  have f0 := (S0.out.drewN 1).fz i
  have S0 : Hid (St W0.drew g (Pm.none m)) := Lib.hid S0.out
  have c0 : W0.drew.cell? ⟨g, i, none⟩ = _ := c0
  have f0 : W0.drew.frozen? ⟨g, i, none⟩ = false := f0
  have HB : Hid (Below w1.heap.size w1 W0.drew) := Lib.hid (HB.out.drew)
  have hiI : ¬ (4 : Int) ≤ (i : Int) := by omega
  have hjI : ¬ (4 : Int) ≤ (j : Int) := by omega
  refine wp_region_noPanic ?_
  refine wp_region_held_drew (S := fun W => True) (by kernel_rfl) trivial (fun _ => ?_)
  generalize W0.drew = V0 at *
  refine held_take (i := 0) (v := .pointer (some ⟨g, 0, none⟩)) (some 22) rfl rfl (by kernel_rfl) (by kernel_rfl) (by kernel_rfl) (fun _ _ _ h => h) (Or.inl ⟨by rfl, fun W hW => by go_simp⟩) trivial ?_
  simp only [Act.put, List.setIfInBounds_toArray, List.set_cons_zero, List.set_cons_succ]
  refine held_take (i := 1) (v := .int .i64 (i : Int)) (some 23) rfl rfl (by kernel_rfl) (by kernel_rfl) (by kernel_rfl) (fun _ _ _ h => h) (Or.inl ⟨by rfl, fun W hW => by go_simp⟩) trivial ?_
  simp only [Act.put, List.setIfInBounds_toArray, List.set_cons_zero, List.set_cons_succ]
  refine held_take (i := 2) (v := .pointer (some ⟨g, 0, none⟩)) (some 24) rfl rfl (by kernel_rfl) (by kernel_rfl) (by kernel_rfl) (fun _ _ _ h => h) (Or.inl ⟨by rfl, fun W hW => by go_simp⟩) trivial ?_
  simp only [Act.put, List.setIfInBounds_toArray, List.set_cons_zero, List.set_cons_succ]
  refine held_take (i := 3) (v := .int .i64 (j : Int)) (some 25) rfl rfl (by kernel_rfl) (by kernel_rfl) (by kernel_rfl) (fun _ _ _ h => h) (Or.inl ⟨by rfl, fun W hW => by go_simp⟩) trivial ?_
  simp only [Act.put, List.setIfInBounds_toArray, List.set_cons_zero, List.set_cons_succ]
  refine held_take (i := 4) (v := .pointer (some ⟨g, 0, none⟩)) (some 26) rfl rfl (by kernel_rfl) (by kernel_rfl) (by kernel_rfl) (fun _ _ _ h => h) (Or.inl ⟨by rfl, fun W hW => by go_simp⟩) trivial ?_
  simp only [Act.put, List.setIfInBounds_toArray, List.set_cons_zero, List.set_cons_succ]
  refine held_take (i := 5) (v := .int .i64 (i : Int)) (some 27) rfl rfl (by kernel_rfl) (by kernel_rfl) (by kernel_rfl) (fun _ _ _ h => h) (Or.inl ⟨by rfl, fun W hW => by go_simp⟩) trivial ?_
  simp only [Act.put, List.setIfInBounds_toArray, List.set_cons_zero, List.set_cons_succ]
  refine held_take (i := 6) (v := .int .i64 (j : Int)) (some 28) rfl rfl (by kernel_rfl) (by kernel_rfl) (by kernel_rfl) (fun _ _ _ h => h) (Or.inl ⟨by rfl, fun W hW => by go_simp⟩) trivial ?_
  simp only [Act.put, List.setIfInBounds_toArray, List.set_cons_zero, List.set_cons_succ]
  refine held_take (i := 7) (v := .pointer (some ⟨g, 0, none⟩)) (some 29) rfl rfl (by kernel_rfl) (by kernel_rfl) (by kernel_rfl) (fun _ _ _ h => h) (Or.inl ⟨by rfl, fun W hW => by go_simp⟩) trivial ?_
  simp only [Act.put, List.setIfInBounds_toArray, List.set_cons_zero, List.set_cons_succ]
  refine held_take (i := 11) (v := .pointer (some ⟨g, 0, none⟩)) (some 32) rfl rfl (by kernel_rfl) (by kernel_rfl) (by kernel_rfl) (fun _ _ _ h => h) (Or.inl ⟨by rfl, fun W hW => by go_simp⟩) trivial ?_
  simp only [Act.put, List.setIfInBounds_toArray, List.set_cons_zero, List.set_cons_succ]
  refine held_take (i := 15) (v := .pointer (some ⟨g, 0, none⟩)) (some 35) rfl rfl (by kernel_rfl) (by kernel_rfl) (by kernel_rfl) (fun _ _ _ h => h) (Or.inl ⟨by rfl, fun W hW => by go_simp⟩) trivial ?_
  simp only [Act.put, List.setIfInBounds_toArray, List.set_cons_zero, List.set_cons_succ]
  refine held_take (i := 8) (v := .pointer (some ⟨g, 0, none⟩)) (some 30) rfl rfl (by kernel_rfl) (by kernel_rfl) (by kernel_rfl) (fun _ _ _ h => h) (Or.inl ⟨by rfl, fun W hW => by go_simp⟩) trivial ?_
  simp only [Act.put, List.setIfInBounds_toArray, List.set_cons_zero, List.set_cons_succ]
  refine held_take (i := 12) (v := .pointer (some ⟨g, 4, none⟩)) (some 33) rfl rfl (by kernel_rfl) (by kernel_rfl) (by kernel_rfl) (fun _ _ _ h => h) (Or.inl ⟨by rfl, fun W hW => by go_simp⟩) trivial ?_
  simp only [Act.put, List.setIfInBounds_toArray, List.set_cons_zero, List.set_cons_succ]
  refine held_take (i := 16) (v := .pointer (some ⟨g, 8, none⟩)) (some 36) rfl rfl (by kernel_rfl) (by kernel_rfl) (by kernel_rfl) (fun _ _ _ h => h) (Or.inl ⟨by rfl, fun W hW => by go_simp⟩) trivial ?_
  simp only [Act.put, List.setIfInBounds_toArray, List.set_cons_zero, List.set_cons_succ]
  refine held_take (i := 9) (v := .pointer (some ⟨g, i, none⟩)) (some 31) rfl rfl (by kernel_rfl) (by kernel_rfl) (by kernel_rfl) (fun _ _ _ h => h) (Or.inl ⟨by rfl, fun W hW => by go_simp⟩) trivial ?_
  simp only [Act.put, List.setIfInBounds_toArray, List.set_cons_zero, List.set_cons_succ]
  refine held_take (i := 17) (v := .pointer (some ⟨g, 8 + i * 4, none⟩)) (some 37) rfl rfl (by kernel_rfl) (by kernel_rfl) (by kernel_rfl) (fun _ _ _ h => h) (Or.inl ⟨by rfl, fun W hW => by go_simp⟩) trivial ?_
  simp only [Act.put, List.setIfInBounds_toArray, List.set_cons_zero, List.set_cons_succ]
  refine wpAnyH_ready (rs := [10]) (by kernel_rfl) (by simp) ?_
  refine AllReadyH.cons rfl (fun K hK => ?_) AllReadyH.nil
  go_simp
  have S1 := Lib.hid (S0.out.setO hi true)
  have B1 : Hid (Ch w1 (V0.setCell ⟨g, i, none⟩ (.bool true)) (fun k => k = g)) := Lib.hid ((Ch.of_below (fun k => k = g) HB.out).then_ ch_set)
  generalize V0.setCell ⟨g, i, none⟩ (.bool true) = W1 at *
  have c1 := S1.out.t hj
  have f1 := S1.out.fz (4 + j)
  clear c0 f0
  refine hK.out _ _ trivial (fun _ => ?_)
  clear hK
  try simp only [Act.put, List.setIfInBounds_toArray, List.set_cons_zero, List.set_cons_succ]
  refine held_take (i := 13) (v := .pointer (some ⟨g, 4 + j, none⟩)) (some 34) rfl rfl (by kernel_rfl) (by kernel_rfl) (by kernel_rfl) (fun _ _ _ h => h) (Or.inl ⟨by rfl, fun W hW => by go_simp⟩) trivial ?_
  simp only [Act.put, List.setIfInBounds_toArray, List.set_cons_zero, List.set_cons_succ]
  refine wpAnyH_ready (rs := [14]) (by kernel_rfl) (by simp) ?_
  refine AllReadyH.cons rfl (fun K hK => ?_) AllReadyH.nil
  go_simp
  have S2 := Lib.hid (S1.out.setT hj true)
  have B2 : Hid (Ch w1 (W1.setCell ⟨g, 4 + j, none⟩ (.bool true)) (fun k => k = g)) := Lib.hid (B1.out.then_ ch_set)
  generalize W1.setCell ⟨g, 4 + j, none⟩ (.bool true) = W2 at *
  have c2 := S2.out.f hi hj
  have f2 := S2.out.fz (8 + i * 4 + j)
  clear c1 f1
  refine hK.out _ _ trivial (fun _ => ?_)
  clear hK
  try simp only [Act.put, List.setIfInBounds_toArray, List.set_cons_zero, List.set_cons_succ]
  refine held_take (i := 18) (v := .pointer (some ⟨g, 8 + i * 4 + j, none⟩)) (some 38) rfl rfl (by kernel_rfl) (by kernel_rfl) (by kernel_rfl) (fun _ _ _ h => h) (Or.inl ⟨by rfl, fun W hW => by go_simp⟩) trivial ?_
  simp only [Act.put, List.setIfInBounds_toArray, List.set_cons_zero, List.set_cons_succ]
  refine wpAnyH_ready (rs := [19]) (by kernel_rfl) (by simp) ?_
  refine AllReadyH.cons rfl (fun K hK => ?_) AllReadyH.nil
  go_simp
  have S3 := Lib.hid (S2.out.setF hi hj true)
  have B3 : Hid (Ch w1 (W2.setCell ⟨g, 8 + i * 4 + j, none⟩ (.bool true)) (fun k => k = g)) := Lib.hid (B2.out.then_ ch_set)
  generalize W2.setCell ⟨g, 8 + i * 4 + j, none⟩ (.bool true) = W3 at *
  clear c2 f2
  refine hK.out _ _ trivial (fun _ => ?_)
  clear hK
  try simp only [Act.put, List.setIfInBounds_toArray, List.set_cons_zero, List.set_cons_succ]
  refine wpAnyH_done (by kernel_rfl) ?_ _
  refine NoPanic.normal ?_
  go_wp2_with fail
  go_ret2
  exact ⟨g, rfl, S3.out, B3.out.below (fun k hk e => by have := HG.out; omega), HG.out⟩
end Go.Proofs.YtlcegchdkigibaaGreatDoor.LP

/- The example of the chapter holds (wakes); a wheel that is not there has nothing. No condition. -/
import Derived.Test.YtkmhgcdjmfafhaaWhO
namespace Go.Proofs.Ytkmhgcdjmfafhaa
set_option linter.unusedVariables false
set_option linter.unusedSimpArgs false
open Go.RowKit

/-- In order, with the same members: the same list. -/
theorem ordL_ext : ∀ {a b : List (Int × Int)}, OrdL a → OrdL b → (∀ p, p ∈ a ↔ p ∈ b) → a = b
  | [], [], _, _, _ => rfl
  | [], y :: b, _, _, h => absurd ((h y).2 (List.mem_cons_self ..)) (by simp)
  | x :: a, [], _, _, h => absurd ((h x).1 (List.mem_cons_self ..)) (by simp)
  | x :: a, y :: b, ha, hb, h => by
    unfold OrdL at ha hb
    rw [List.pairwise_cons] at ha hb
    have hxy : x = y := by
      rcases List.mem_cons.1 ((h x).1 (List.mem_cons_self ..)) with e | e
      · exact e
      · rcases List.mem_cons.1 ((h y).2 (List.mem_cons_self ..)) with e2 | e2
        · exact e2.symm
        · have h1 := hb.1 x e
          have h2 := ha.1 y e2
          omega
    subst hxy
    rw [ordL_ext ha.2 hb.2 fun p => ?_]
    have nx : ∀ {l : List (Int × Int)}, (∀ c ∈ l, x.2 < c.2 ∨ x.2 = c.2 ∧ x.1 < c.1) → x ∉ l := fun hl hx => by
      have := hl x hx
      omega
    constructor
    · intro hp
      rcases List.mem_cons.1 ((h p).1 (List.mem_cons_of_mem _ hp)) with e | e
      · subst e
        exact absurd hp (nx ha.1)
      · exact e
    · intro hp
      rcases List.mem_cons.1 ((h p).2 (List.mem_cons_of_mem _ hp)) with e | e
      · subst e
        exact absurd hp (nx hb.1)
      · exact e

/-- What a law leaves that holds. -/
def Held (W : World) (e : Ending) (w' : World) : Prop := e = .returned (.bool true) ∧ RowKit.Below W.heap.size W w'

theorem Fr.start {w w' : World} {lab' : Nat → Nat} (h : Fr (fun _ => 0) w lab' w') : RowKit.Below w.heap.size w w' := h.1.below fun _ _ e => e rfl

/-- The cells of a row of what was due. -/
theorem Duv.at_ {w : World} {base : Nat} {v : Value} {out : List (Int × Int)} (h : Duv w base v out) (hne : out ≠ []) : ∃ g c, v = .slice (some ⟨g, 0, none⟩) out.length c ∧ out.length ≤ c ∧ base ≤ g ∧ ∀ j, j < out.length * 2 → w.cell? ⟨g, j, none⟩ = (dv out)[j]? := by
  have h0 := h
  rcases h.2 with ⟨_, h2⟩ | ⟨g, cap, cur, rfl, hb, _, hn, _⟩
  · exact absurd (List.eq_nil_of_length_eq_zero h2) hne
  · exact ⟨g, cap, rfl, hn, hb, fun j hj => World.ownsRow.cellAt h0 j hj⟩
theorem Duv.slice {w : World} {base : Nat} {v : Value} {out : List (Int × Int)} (h : Duv w base v out) : ∃ A c, v = .slice A out.length c ∧ out.length ≤ c := by
  rcases h.2 with ⟨rfl, h2⟩ | ⟨g, cap, cur, rfl, hb, _, hn, _⟩
  · exact ⟨none, 0, by rw [h2], by omega⟩
  · exact ⟨_, cap, rfl, hn⟩

set_option maxHeartbeats 4000000 in
theorem wakes_any (w : World) : Calls Try.prog 8 #[] w (Held w) := by
  have HN := Lib.hid (new_any 0 (by unfold isI; omega) w)
  go_enter Try.func8, Try.ntmps8
  go_wp2_with fail
  refine (HN.out).mono ?_
  rintro e w1 ⟨lab1, wb, rfl, O1, F1⟩
  unfold ptr
  have hc0 : clamp 0 = 0 := rfl
  rw [hc0] at O1
  have H1 := Lib.hid O1
  have HF1 := Lib.hid F1
  clear O1 F1 HN hc0
  go_wp2_with fail
  refine (oarm_good H1.out (x := 1) (t := 5) (by unfold isI; omega) (by omega) (by simp) (by omega)).mono ?_
  rintro e w2 ⟨rfl, lab2, O2, F2⟩
  have H2 := Lib.hid O2
  have HF2 := Lib.hid (HF1.out.trans F2)
  clear O2 F2 H1 HF1
  go_wp2_with fail
  refine (oarm_good H2.out (x := 2) (t := 3) (by unfold isI; omega) (by omega) (by decide) (by omega)).mono ?_
  rintro e w3 ⟨rfl, lab3, O3, F3⟩
  have H3 := Lib.hid O3
  have HF3 := Lib.hid (HF2.out.trans F3)
  clear O3 F3 H2 HF2
  go_wp2_with fail
  refine (oadv_any H3.out (t := 4) (by unfold isI; omega) (by omega) (by decide) 4 (by omega) (by omega) (fun m _ => by omega)).mono ?_
  rintro e w4 ⟨v, lab4, out, rfl, O4, F4, D4, vl4, od4, mm4⟩
  have hout : out = [(2, 3)] := by
    refine ordL_ext od4 (by unfold OrdL; simp) fun p => ?_
    rw [mm4 p]
    simp [woL]
    constructor
    · rintro ⟨rfl | rfl, h⟩
      · simp at h
      · rfl
    · rintro rfl
      exact ⟨.inr rfl, by decide⟩
  subst hout
  obtain ⟨g, c, rfl, hc, _, hcell⟩ := D4.at_ (by simp)
  have d0 : w4.cell? ⟨g, 0, none⟩ = some (.int .i64 2) := hcell 0 (by decide)
  have d1 : w4.cell? ⟨g, 1, none⟩ = some (.int .i64 3) := hcell 1 (by decide)
  have H4 := Lib.hid O4
  have HF4 := Lib.hid (HF3.out.trans F4)
  clear O4 F4 H3 HF3 D4 vl4 od4 mm4 hcell
  go_wp2_with fail
  have hl := olen_any H4.out
  rw [show (((List.filter (fun p => decide (((4 : Nat) : Int) < p.2)) (woL (woL [] 1 ++ [(1, 5)]) 2 ++ [(2, 3)])).length : Nat) : Int) = 1 from by decide] at hl
  refine hl.mono ?_
  rintro e w5 ⟨rfl, rfl⟩
  go_wp2_with fail
  go_ret
  exact ⟨rfl, HF4.out.start⟩

theorem nnow_any (w : World) : Calls Try.prog 13 #[.pointer none] w fun e w' => e = .returned (.int .i64 0) ∧ w' = w := by
  go_enter Try.func13, Try.ntmps13
  go_wp2_with fail
  go_ret
  exact ⟨rfl, rfl⟩
theorem nlen_any (w : World) : Calls Try.prog 22 #[.pointer none] w fun e w' => e = .returned (.int .i64 0) ∧ w' = w := by
  go_enter Try.func22, Try.ntmps22
  go_wp2_with fail
  go_ret
  exact ⟨rfl, rfl⟩
theorem nat_any (x : Int) (w : World) : Calls Try.prog 23 #[.pointer none, .int .i64 x] w fun e w' => e = .returned (.tuple #[.int .i64 0, .bool false]) ∧ w' = w := by
  go_enter Try.func23, Try.ntmps23
  go_wp2_with fail
  go_ret2
  exact ⟨rfl, rfl⟩
theorem nnext_any (w : World) : Calls Try.prog 20 #[.pointer none] w fun e w' => e = .returned (.tuple #[.int .i64 0, .bool false]) ∧ w' = w := by
  go_enter Try.func20, Try.ntmps20
  go_wp2_with fail
  go_ret2
  exact ⟨rfl, rfl⟩
theorem narm_any (x t : Int) (w : World) : Calls Try.prog 12 #[.pointer none, .int .i64 x, .int .i64 t] w fun e w' => e = .returned (.int .i64 2) ∧ w' = w := by
  go_enter Try.func12, Try.ntmps12
  go_wp2_with fail
  go_ret
  exact ⟨rfl, rfl⟩
theorem ncancel_any (A : Option Addr) (n c : Nat) (w : World) : Calls Try.prog 15 #[.pointer none, .slice A n c] w fun e w' => e = .returned (.int .i64 0) ∧ w' = w := by
  go_enter Try.func15, Try.ntmps15
  go_wp2_with fail
  go_ret
  exact ⟨rfl, rfl⟩
theorem nadv_any (t : Int) (w : World) : Calls Try.prog 18 #[.pointer none, .int .i64 t] w fun e w' => e = .returned (.slice none 0 0) ∧ w' = w := by
  go_enter Try.func18, Try.ntmps18
  go_wp2_with fail
  go_ret
  exact ⟨rfl, rfl⟩

end Go.Proofs.Ytkmhgcdjmfafhaa

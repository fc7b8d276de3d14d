/- A path manager: the program's Tell, Untell and Told; whether a pair is joined, or known. Conditions: the manager stands. -/
import Derived.Test.YtpkhalneclmoeaaPaA
namespace Go.Proofs.Ytpkhalneclmoeaa
set_option linter.unusedVariables false
set_option linter.unusedSimpArgs false
open Go.RowKit Go.Lib

def Pm.tellE (p : Pm) (x : Int) : Int := if mb x = true then (if p.ow x.toNat = true then 8 else 0) else 1
def Pm.tellS (p : Pm) (x : Int) : Pm := if mb x = true then p.setO x.toNat true else p
def Pm.untE (p : Pm) (x : Int) : Int := if mb x = true then (if p.ow x.toNat = true then 0 else 6) else 1
def Pm.untS (p : Pm) (x : Int) : Pm := if mb x = true then p.setO x.toNat false else p
def Pm.toldS (p : Pm) (x : Int) : Pm := if mb x = true then p.setT x.toNat true else p
theorem upd_same {f : Nat → Bool} {i : Nat} {v : Bool} (h : f i = v) : upd f i v = f := by
  funext k
  unfold upd
  split
  · rename_i e
    rw [e, h]
  · rfl
theorem upd2_same {f : Nat → Nat → Bool} {i j : Nat} {v : Bool} (h : f i j = v) : upd2 f i j v = f := by
  funext k m
  unfold upd2
  split
  · rename_i e
    rw [e.1, e.2, h]
  · rfl
theorem Pm.setO_same {p : Pm} {i : Nat} {v : Bool} (h : p.ow i = v) : p.setO i v = p := by unfold Pm.setO; rw [upd_same h]
theorem Pm.setT_same {p : Pm} {i : Nat} {v : Bool} (h : p.ot i = v) : p.setT i v = p := by unfold Pm.setT; rw [upd_same h]
theorem Pm.setF_same {p : Pm} {i j : Nat} {v : Bool} (h : p.fl i j = v) : p.setF i j v = p := by unfold Pm.setF; rw [upd2_same h]

section
variable {p : Pm} {i j : Nat}
theorem tellE_yes (hi : i < 4) : p.tellE (i : Int) = if p.ow i = true then 8 else 0 := by unfold Pm.tellE; rw [if_pos (mb_of hi)]; rfl
theorem tellS_yes (hi : i < 4) : p.tellS (i : Int) = p.setO i true := by unfold Pm.tellS; rw [if_pos (mb_of hi)]; rfl
theorem untE_yes (hi : i < 4) : p.untE (i : Int) = if p.ow i = true then 0 else 6 := by unfold Pm.untE; rw [if_pos (mb_of hi)]; rfl
theorem untS_yes (hi : i < 4) : p.untS (i : Int) = p.setO i false := by unfold Pm.untS; rw [if_pos (mb_of hi)]; rfl
theorem toldS_yes (hi : i < 4) : p.toldS (i : Int) = p.setT i true := by unfold Pm.toldS; rw [if_pos (mb_of hi)]; rfl
variable {x : Int}
theorem tellE_no (h : mb x = false) : p.tellE x = 1 := by unfold Pm.tellE; rw [h]; rfl
theorem tellS_no (h : mb x = false) : p.tellS x = p := by unfold Pm.tellS; rw [h]; rfl
theorem untE_no (h : mb x = false) : p.untE x = 1 := by unfold Pm.untE; rw [h]; rfl
theorem untS_no (h : mb x = false) : p.untS x = p := by unfold Pm.untS; rw [h]; rfl
theorem toldS_no (h : mb x = false) : p.toldS x = p := by unfold Pm.toldS; rw [h]; rfl
end

/-- What a call leaves that wrote the manager alone. -/
def Did (w : World) (pb : Nat) (v : Value) (p' : Pm) (e : Ending) (w' : World) : Prop := e = .returned v ∧ St w' pb p' ∧ Ch w w' (fun k => k = pb)

theorem tell_any {w : World} {pb : Nat} {p : Pm} (h : St w pb p) (x : Int) : Calls Try.prog 10 #[ptr pb, .int .i64 x] w (Did w pb (.int .i64 (p.tellE x)) (p.tellS x)) := by
  have HX := Lib.hid (mayBe_any x w)
  cases hm : mb x
  · rw [hm] at HX
    rw [tellE_no hm, tellS_no hm]
    have HS := Lib.hid h
    clear h hm
    unfold ptr
    go_enter Try.func10, Try.ntmps10
    go_wp2_with fail
    refine (HX.out).mono ?_
    rintro e w1 ⟨rfl, rfl⟩
    go_wp2_with fail
    go_ret
    exact ⟨rfl, HS.out, Ch.refl _ _⟩
  · rw [hm] at HX
    obtain ⟨i, rfl, hi⟩ := mb_nat hm
    rw [tellE_yes hi, tellS_yes hi]
    have c0 := h.o hi
    have f0 := h.fz i
    have HS := Lib.hid h
    have HS2 := Lib.hid (h.setO hi true)
    have HI := Lib.hid (@Pm.setO_same p i true)
    clear h hm
    unfold ptr
    cases hp : p.ow i
    · rw [hp] at c0
      clear hp HI
      rw [if_neg (show ¬ (false = true) from by decide)]
      go_enter Try.func10, Try.ntmps10
      go_wp2_with fail
      refine (HX.out).mono ?_
      rintro e w1 ⟨rfl, rfl⟩
      go_wp2_with fail
      go_ret
      exact ⟨rfl, HS2.out, ch_set⟩
    · rw [HI.out hp]
      rw [hp] at c0
      clear hp HI
      rw [if_pos rfl]
      go_enter Try.func10, Try.ntmps10
      go_wp2_with fail
      refine (HX.out).mono ?_
      rintro e w1 ⟨rfl, rfl⟩
      go_wp2_with fail
      go_ret
      exact ⟨rfl, HS.out, Ch.refl _ _⟩

theorem untell_any {w : World} {pb : Nat} {p : Pm} (h : St w pb p) (x : Int) : Calls Try.prog 12 #[ptr pb, .int .i64 x] w (Did w pb (.int .i64 (p.untE x)) (p.untS x)) := by
  have HX := Lib.hid (mayBe_any x w)
  cases hm : mb x
  · rw [hm] at HX
    rw [untE_no hm, untS_no hm]
    have HS := Lib.hid h
    clear h hm
    unfold ptr
    go_enter Try.func12, Try.ntmps12
    go_wp2_with fail
    refine (HX.out).mono ?_
    rintro e w1 ⟨rfl, rfl⟩
    go_wp2_with fail
    go_ret
    exact ⟨rfl, HS.out, Ch.refl _ _⟩
  · rw [hm] at HX
    obtain ⟨i, rfl, hi⟩ := mb_nat hm
    rw [untE_yes hi, untS_yes hi]
    have c0 := h.o hi
    have f0 := h.fz i
    have HS := Lib.hid h
    have HS2 := Lib.hid (h.setO hi false)
    have HI := Lib.hid (@Pm.setO_same p i false)
    clear h hm
    unfold ptr
    cases hp : p.ow i
    · rw [HI.out hp]
      rw [hp] at c0
      clear hp HI
      rw [if_neg (show ¬ (false = true) from by decide)]
      go_enter Try.func12, Try.ntmps12
      go_wp2_with fail
      refine (HX.out).mono ?_
      rintro e w1 ⟨rfl, rfl⟩
      go_wp2_with fail
      go_ret
      exact ⟨rfl, HS.out, Ch.refl _ _⟩
    · rw [hp] at c0
      clear hp HI
      rw [if_pos rfl]
      go_enter Try.func12, Try.ntmps12
      go_wp2_with fail
      refine (HX.out).mono ?_
      rintro e w1 ⟨rfl, rfl⟩
      go_wp2_with fail
      go_ret
      exact ⟨rfl, HS2.out, ch_set⟩

/-- What a call without results leaves. -/
def DidN (w : World) (pb : Nat) (p' : Pm) (e : Ending) (w' : World) : Prop := (∃ v, e = .returned v) ∧ St w' pb p' ∧ Ch w w' (fun k => k = pb)
theorem told_any {w : World} {pb : Nat} {p : Pm} (h : St w pb p) (x : Int) : Calls Try.prog 14 #[ptr pb, .int .i64 x] w (DidN w pb (p.toldS x)) := by
  have HX := Lib.hid (mayBe_any x w)
  cases hm : mb x
  · rw [hm] at HX
    rw [toldS_no hm]
    have HS := Lib.hid h
    clear h hm
    unfold ptr
    go_enter Try.func14, Try.ntmps14
    go_wp2_with fail
    refine (HX.out).mono ?_
    rintro e w1 ⟨rfl, rfl⟩
    go_wp2_with fail
    go_end0
    exact ⟨⟨_, rfl⟩, HS.out, Ch.refl _ _⟩
  · rw [hm] at HX
    obtain ⟨i, rfl, hi⟩ := mb_nat hm
    rw [toldS_yes hi]
    have c0 := h.t hi
    have f0 := h.fz (4 + i)
    have HS2 := Lib.hid (h.setT hi true)
    clear h hm
    unfold ptr
    go_enter Try.func14, Try.ntmps14
    go_wp2_with fail
    refine (HX.out).mono ?_
    rintro e w1 ⟨rfl, rfl⟩
    go_wp2_with fail
    go_end0
    exact ⟨⟨_, rfl⟩, HS2.out, ch_set⟩

theorem joined_any {w : World} {pb : Nat} {p : Pm} (h : St w pb p) {i j : Nat} (hi : i < 4) (hj : j < 4) : Calls Try.prog 36 #[ptr pb, pr (i : Int) (j : Int)] w fun e w' => e = .returned (.bool (p.fl i j)) ∧ Below w.heap.size w w' := by
  have hb := below_a w (.cells #[.int .i64 (i : Int), .int .i64 (j : Int)] 45)
  have HB := Lib.hid (fun n => below_dn hb n)
  have c0 := (h.below hb).f hi hj
  obtain ⟨y0, y1⟩ := cell2 w (.int .i64 (i : Int)) (.int .i64 (j : Int)) 45
  clear h hb
  generalize p.fl i j = v at *
  unfold ptr pr
  go_enter Try.func36, Try.ntmps36
  go_wp2_with fail
  go_quiet (fail)
  go_wp2_with fail
  go_ret
  exact ⟨rfl, HB.out _⟩

theorem knows_any {w : World} {pb : Nat} {p : Pm} (h : St w pb p) {i j : Nat} (hi : i < 4) (hj : j < 4) : Calls Try.prog 38 #[ptr pb, pr (i : Int) (j : Int)] w fun e w' => e = .returned (.bool (p.ow i && p.ot j)) ∧ Below w.heap.size w w' := by
  have hb := below_a w (.cells #[.int .i64 (i : Int), .int .i64 (j : Int)] 45)
  have HB := Lib.hid (fun n => below_dn hb n)
  have c0 := (h.below hb).o hi
  have c1 := (h.below hb).t hj
  obtain ⟨y0, y1⟩ := cell2 w (.int .i64 (i : Int)) (.int .i64 (j : Int)) 45
  clear h hb
  generalize p.ow i = u at *
  generalize p.ot j = v at *
  unfold ptr pr
  cases u
  all_goals
    go_enter Try.func38, Try.ntmps38
    go_wp2_with fail
    go_quiet (fail)
    go_wp2_with fail
    go_ret
    exact ⟨rfl, HB.out _⟩
end Go.Proofs.Ytpkhalneclmoeaa

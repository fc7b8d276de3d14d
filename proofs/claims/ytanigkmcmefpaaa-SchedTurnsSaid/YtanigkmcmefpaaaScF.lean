/- Which is picked: the program's Pick. Conditions: the slice is not longer than 2^40; whole numbers of 64 bits. -/
import Derived.Test.YtanigkmcmefpaaaScE
import Derived.Test.YtanigkmcmefpaaaVal
import Derived.Deep.Cut
namespace Go.Proofs.Ytanigkmcmefpaaa
set_option linter.unusedVariables false
set_option linter.unusedSimpArgs false
open Go.RowKit Go.Lib

theorem RI.litg (w : World) (x : Int) (t : TypeId) (g : Nat) (hg : w.heap.size = g) : RI .i64 (w.alloc (.cells #[.int .i64 x] t)) (some ⟨g, 0, none⟩) 1 1 [x] := by
  subst hg
  exact RI.lit1 w x t
section
variable {w : World} {A B : Option Addr} {n c m cb : Nat} {l : List Pa} {a : List Int}
set_option maxHeartbeats 1600000 in
theorem quick_any (h : Pas w A n c l) (hR : RI .i64 w B m cb a) (hm : 0 < m) (ha : ∀ i, i < m → ∃ x : Nat, a.getD i 0 = (x : Int) ∧ x < n) (last : Int) :
    Calls Try.prog 19 #[.slice B m cb, .int .i64 last, .slice A n c] w (MadeI w fun r => ∃ x : Nat, r = [(x : Int)] ∧ Lst (smo l) a (x : Int)) := by
  have hmf : ∀ (fn : Fn) (first cap : Array Value) (w : World), (Instr.makeFunc fn first cap).run Try.prog w = .ok (.func fn first cap) w := fun _ _ _ _ => rfl
  have HB := Lib.hid (below_a w (.cells #[.slice A n c] 22))
  have HLE := Lib.hid (least_any (h.below HB.out) (cell_new w (.slice A n c) 22) (hR.below HB.out) hm ha)
  clear h hR hm ha
  go_enter Try.func19, Try.ntmps19
  go_wp2_with fail
  refine (HLE.out).mono ?_
  rintro e w1 ⟨⟨x, rfl, hx⟩, hw1⟩
  subst hw1
  have HX := Lib.hid hx
  clear hx
  go_wp2_with fail
  go_ret
  exact ⟨_, 1, 1, [(x : Int)], rfl, RI.litg _ _ _ _ (by simp), ⟨x, rfl, HX.out⟩, HB.out.trans ((below_a _ _).mono HB.out.size)⟩

set_option maxHeartbeats 1600000 in
theorem turn_any (hR : RI .i64 w B m cb a) (hm : 0 < m) (last : Int) (L : Value) :
    Calls Try.prog 20 #[.slice B m cb, .int .i64 last, L] w (MadeI w fun r => ∃ i, Ixt a last i ∧ r = [a.getD i 0]) := by
  have hmf : ∀ (fn : Fn) (first cap : Array Value) (w : World), (Instr.makeFunc fn first cap).run Try.prog w = .ok (.func fn first cap) w := fun _ _ _ _ => rfl
  have HB := Lib.hid (below_a w (.cells #[.int .i64 last] 3))
  have HIX := Lib.hid (indexI_any (cell_new w (.int .i64 last) 3) (hR.below HB.out))
  have HLN := Lib.hid hR.len
  have hcap := hR.cap
  have hmaxb := hR.max
  have HM := Lib.hid hm
  have HR := Lib.hid (hR.below HB.out)
  clear hR hm
  go_enter Try.func20, Try.ntmps20
  go_wp2_with fail
  refine (HIX.out).mono ?_
  rintro e w1 ⟨⟨k, rfl, hk⟩, hw1⟩
  subst hw1
  obtain ⟨i, hi, hin, hix⟩ := hk.ixt HLN.out HM.out
  have HX := Lib.hid hix
  obtain ⟨ga, oa, rfl, ca⟩ := (HR.out).at_ hin
  clear hk hix
  generalize hv : a.getD i 0 = v at *
  have HV := Lib.hid hv
  clear hv
  go_wp2_with fail
  go_ret
  exact ⟨_, 1, 1, [v], rfl, RI.litg _ _ _ _ (by simp), ⟨i, HX.out, by rw [HV.out]⟩, HB.out.trans ((below_a _ _).mono HB.out.size)⟩

theorem each_any (hR : RI .i64 w B m cb a) (last : Int) (L : Value) :
    Calls Try.prog 21 #[.slice B m cb, .int .i64 last, L] w (MadeI w fun r => r = a) := by
  have HR := Lib.hid hR
  clear hR
  go_enter Try.func21, Try.ntmps21
  go_wp2_with fail
  go_ret
  exact ⟨_, m, cb, a, rfl, HR.out, rfl, Below.refl _ _⟩
end

def fn (f : Nat) : Value := .func (.func f) #[] #[]
/-- The three ways, each at its number. -/
def wys : List Value := [fn 19, fn 20, fn 21]
def wy0 : List Value := [.nilFunc, .nilFunc, .nilFunc]
theorem infoWy : (Try.prog.info? 40).map (·.size) = some 3 := by kernel_rfl
theorem zeroWy : (Try.prog.info? 40).map (·.zero) = some (some (.agg wy0.toArray)) := by kernel_rfl
theorem wys_one : ∀ u ∈ wys, u.oneCell' = true := by
  intro u hu
  unfold wys fn at hu
  simp only [List.mem_cons, List.not_mem_nil, or_false] at hu
  rcases hu with rfl | rfl | rfl <;> rfl
set_option maxHeartbeats 1600000 in
theorem ways_any (w : World) : Calls Try.prog 17 #[] w fun e w' => e = .returned (.agg wys.toArray) ∧ Below w.heap.size w w' := by
  obtain ⟨g, hg⟩ : ∃ g, w.heap.size = g := ⟨_, rfl⟩
  have HG := Lib.hid hg
  go_enter Try.func17, Try.ntmps17
  go_wp2_with (first
    | ((with_reducible refine wpList_here ?_); refine wpList_allocV rfl 40 rfl wy0 zeroWy g hg ?_; intro w1 z1 b1 s1)
    | ((with_reducible refine wpList_here ?_); refine wpList_storeV rfl 40 (.tmp 0) (.tmp 1) rfl _ _ wys rfl rfl z1 rfl wys_one infoWy ?_; intro w2 z2 g2 s2; have b2 := v_below_g b1 g2 b1.size (by omega); clear z1 b1 g2))
  refine bodyPost_ret (results_c0 rfl _ _ g wys _ rfl z2.range Try.underlying40 rfl infoWy) rfl ?_
  exact ⟨rfl, b2⟩

set_option maxHeartbeats 6400000 in
theorem Pick_any {w : World} {A : Option Addr} {n c : Nat} {l : List Pa} (h : Pas w A n c l) (h40 : n ≤ 1099511627776) (how last : Int) (bh : B64 how) :
    Calls Try.prog 11 #[.int .i64 how, .int .i64 last, .slice A n c] w (MadeI w (PickR how last l)) := by
  have HW := Lib.hid (ways_any w)
  have HL := Lib.hid h
  have H40 := Lib.hid h40
  have hn := h.len
  clear h h40
  go_enter Try.func11, Try.ntmps11
  go_wp2_with fail
  refine (HW.out).mono ?_
  rintro e w1 ⟨rfl, b1⟩
  have HB1 := Lib.hid b1
  have HL1 := Lib.hid (HL.out.below b1)
  have HA := Lib.hid (Able_any HL1.out H40.out)
  clear b1 HW
  go_wp2_with fail
  refine (HA.out).mono ?_
  rintro e w2 ⟨B, m, cb, rfl, hR, b2⟩
  have HB2 := Lib.hid (HB1.out.trans (b2.mono HB1.out.size))
  have HL2 := Lib.hid (HL1.out.below b2)
  have hlen := hR.len
  have hcap := hR.cap
  have hmaxb := hR.max
  have HR2 := Lib.hid hR
  have HAT := Lib.hid (fun i h => @ables_at l n i h)
  clear hR b2 HA HB1 HL1 HL
  obtain ⟨g, hg⟩ : ∃ g, w2.heap.size = g := ⟨_, rfl⟩
  have HG := Lib.hid hg
  go_upto_region 2 with (first
    | ((with_reducible refine wpList_here ?_); refine wpList_allocV rfl 40 rfl wy0 zeroWy g hg ?_; intro w3 z3 b3 s3)
    | ((with_reducible refine wpList_here ?_); refine wpList_storeV rfl 40 (.tmp 7) (.tmp 9) rfl _ _ wys rfl rfl z3 rfl wys_one infoWy ?_; intro w4 z4 g4 s4; have b4 := v_below_g b3 g4 b3.size (by omega); clear z3 b3 g4))
  have HB4 := Lib.hid (HB2.out.trans (b4.mono HB2.out.size))
  have HL4 := Lib.hid (HL2.out.below b4)
  have HR4 := Lib.hid (HR2.out.below b4)
  have HZ := Lib.hid z4
  clear z4 b4 s3 s4 hg HG HB2 HL2 HR2
  subst hn
  have HPN := Lib.hid (@pick_none how last l)
  have HPQ := Lib.hid (@pick_quick last l)
  have HPT := Lib.hid (@pick_turn last l)
  have HPA := Lib.hid (@pick_all last l)
  generalize ables l l.length = a at *
  by_cases hm : m = 0
  · subst hm
    by_cases h0 : how < 0
    · go_wp2_with fail
      go_ret
      exact ⟨none, 0, 0, [], rfl, RI.nil_ _ _, HPN.out (.inl h0), HB4.out⟩
    · by_cases h2 : 3 ≤ how
      · go_wp2_with fail
        go_ret
        exact ⟨none, 0, 0, [], rfl, RI.nil_ _ _, HPN.out (.inr (.inl (by omega))), HB4.out⟩
      · go_wp2_with fail
        go_ret
        exact ⟨none, 0, 0, [], rfl, RI.nil_ _ _, HPN.out (.inr (.inr (List.eq_nil_of_length_eq_zero hlen))), HB4.out⟩
  · have hne : a ≠ [] := fun e => hm (by rw [← hlen, e]; rfl)
    have HNE := Lib.hid hne
    have hmI : ¬ (m : Int) = 0 := by omega
    have hmb : ((m : Int) == 0) = false := by simpa using hmI
    have HM0 : Hid (0 < m) := Lib.hid (by omega)
    have HAX : Hid (∀ i, i < m → ∃ x : Nat, a.getD i 0 = (x : Int) ∧ x < l.length) := Lib.hid fun i hi => by
      obtain ⟨x, e, lx, -⟩ := HAT.out i (by omega)
      exact ⟨x, e, lx⟩
    clear hne hlen hm HAT
    by_cases h0 : how < 0
    · go_wp2_with fail
      go_ret
      exact ⟨none, 0, 0, [], rfl, RI.nil_ _ _, HPN.out (.inl h0), HB4.out⟩
    · by_cases h2 : 3 ≤ how
      · go_wp2_with fail
        go_ret
        exact ⟨none, 0, 0, [], rfl, RI.nil_ _ _, HPN.out (.inr (.inl (by omega))), HB4.out⟩
      · have hc : how = 0 ∨ how = 1 ∨ how = 2 := by omega
        have c0 : w4.cell? ⟨g, 0, none⟩ = some (.func (.func 19) #[] #[]) := (HZ.out 0 (by decide)).1
        have c1 : w4.cell? ⟨g, 1, none⟩ = some (.func (.func 20) #[] #[]) := (HZ.out 1 (by decide)).1
        have c2 : w4.cell? ⟨g, 2, none⟩ = some (.func (.func 21) #[] #[]) := (HZ.out 2 (by decide)).1
        clear h0 h2 bh
        rcases hc with rfl | rfl | rfl
        · have HQ := Lib.hid (quick_any HL4.out HR4.out HM0.out HAX.out last)
          go_wp2_with fail
          refine (HQ.out).mono ?_
          rintro e w5 ⟨A5, m5, c5, r5, rfl, R5, ⟨x, rfl, hx⟩, b5⟩
          have HR5 := Lib.hid R5
          have HP := Lib.hid (HPQ.out HNE.out hx)
          have HB5 := Lib.hid (HB4.out.trans (b5.mono HB4.out.size))
          clear R5 hx b5 c0 c1 c2 HQ
          go_wp2_with fail
          go_ret
          exact ⟨_, _, _, _, rfl, HR5.out, HP.out, HB5.out⟩
        · have HQ := Lib.hid (turn_any HR4.out HM0.out last (.slice A l.length c))
          go_wp2_with fail
          refine (HQ.out).mono ?_
          rintro e w5 ⟨A5, m5, c5, r5, rfl, R5, ⟨i, hx, rfl⟩, b5⟩
          have HR5 := Lib.hid R5
          have HP := Lib.hid (HPT.out HNE.out hx)
          have HB5 := Lib.hid (HB4.out.trans (b5.mono HB4.out.size))
          clear R5 hx b5 c0 c1 c2 HQ
          go_wp2_with fail
          go_ret
          exact ⟨_, _, _, _, rfl, HR5.out, HP.out, HB5.out⟩
        · have HQ := Lib.hid (each_any HR4.out last (.slice A l.length c))
          go_wp2_with fail
          refine (HQ.out).mono ?_
          rintro e w5 ⟨A5, m5, c5, r5, rfl, R5, rfl, b5⟩
          have HR5 := Lib.hid R5
          have HP := Lib.hid (HPA.out HNE.out)
          have HB5 := Lib.hid (HB4.out.trans (b5.mono HB4.out.size))
          clear R5 b5 c0 c1 c2 HQ
          go_wp2_with fail
          go_ret
          exact ⟨_, _, _, _, rfl, HR5.out, HP.out, HB5.out⟩
end Go.Proofs.Ytanigkmcmefpaaa

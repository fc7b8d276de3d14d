/- Which is picked: the program's ways. Conditions: the slice is not longer than 2^40; whole numbers of 64 bits. -/
import Derived.Test.YtanigkmcmefpaaaScD
namespace Go.Proofs.Ytanigkmcmefpaaa
set_option linter.unusedVariables false
set_option linter.unusedSimpArgs false
open Go.RowKit Go.Lib

def ptr (b : Nat) : Value := .pointer (some ⟨b, 0, none⟩)

/-- The time of one, by the closure. -/
theorem time_any {w : World} {A : Option Addr} {n c : Nat} {l : List Pa} (h : Pas w A n c l) {gb : Nat} (hc : w.cell? ⟨gb, 0, none⟩ = some (.slice A n c)) {x : Nat} (hx : x < n) :
    Calls Try.prog 23 #[.int .i64 (x : Int), .pointer (some ⟨gb, 0, none⟩)] w fun e w' => e = .returned (.int .i64 (smo l (x : Int))) ∧ w' = w := by
  have hcp := h.cap
  have hmx := h.max
  obtain ⟨g, o, rfl, hmem⟩ := h.mem (by omega)
  have x2 := (hmem x hx).2.2.1
  have HE : Hid (smo l (x : Int) = (l.getD x p0).sm) := Lib.hid rfl
  clear hmem h
  generalize (l.getD x p0).sm = s at *
  go_enter Try.func23, Try.ntmps23
  go_wp2_with fail
  go_ret
  exact ⟨by rw [HE.out]; rfl, rfl⟩
theorem behind_any {w : World} {gb : Nat} {last : Int} (hc : w.cell? ⟨gb, 0, none⟩ = some (.int .i64 last)) (x : Int) :
    Calls Try.prog 25 #[.int .i64 x, .pointer (some ⟨gb, 0, none⟩)] w fun e w' => e = .returned (.bool (decide (last < x))) ∧ w' = w := by
  go_enter Try.func25, Try.ntmps25
  go_wp2_with fail
  go_ret
  exact ⟨rfl, rfl⟩

theorem elemOfI : Try.prog.underlying 25 = some (.slice (Try.prog.elem 25)) := by kernel_rfl
theorem sizeOfI (W : World) : (sizeOf (Try.prog.elem 25)).run Try.prog W = .ok 1 W := by kernel_rfl
theorem RI.drop {w : World} {k : IntKind} {A : Option Addr} {n c : Nat} {l : List Int} (h : RI k w A n c l) {i : Nat} (hi : i ≤ n) : RI k w (if c = i then A else A.map (·.add i)) (n - i) (c - i) (l.drop i) := by
  obtain ⟨h1, h2, h3, h4⟩ := h
  refine ⟨by rw [List.length_drop]; omega, by omega, by unfold maxLen at h3 ⊢; omega, fun hn => ?_⟩
  obtain ⟨b, o, e, hc⟩ := h4 (by omega)
  rw [if_neg (by omega)]
  refine ⟨b, o + i, by rw [e]; simp [Addr.add_lit], fun j hj => ?_⟩
  rw [show o + i + j = o + (i + j) from by omega, hc (i + j) (by omega)]
  simp
/-- l[i:], whatever its address is. -/
theorem RI.from_ {w : World} {A : Option Addr} {n c i : Nat} {l : List Int} (h : RI .i64 w A n c l) (hi : i ≤ n) :
    ∃ A2, (∀ W : World, (Instr.slice 25 (.slice A n c) (some (.int .i64 (i : Int))) none none).run Try.prog W = .ok (.slice A2 (n - i) (c - i)) W) ∧ RI .i64 w A2 (n - i) (c - i) (l.drop i) := by
  have hcp := h.cap
  have hmx := h.max
  refine ⟨_, fun W => ?_, h.drop hi⟩
  rw [run_slice_l (P := Try.prog) W 25 A n c elemOfI .i64 (i : Int) (by omega) (by omega), sizeOfI]
  simp [Result.andThen, sliced]

/-- Gone through up to q: b is the place of the least one. -/
def LstU (f : Int → Int) (a : List Int) (q b : Nat) : Prop := b < q ∧ (∀ j, j < q → f (a.getD b 0) ≤ f (a.getD j 0)) ∧ ∀ j, j < b → f (a.getD b 0) < f (a.getD j 0)
theorem LstU.start {f : Int → Int} {a : List Int} : LstU f a 1 0 := ⟨by omega, fun j hj => by rw [show j = 0 from by omega]; exact Int.le_refl _, fun j hj => absurd hj (by omega)⟩
theorem LstU.take {f : Int → Int} {a : List Int} {q b : Nat} (h : LstU f a q b) (hb : f (a.getD q 0) < f (a.getD b 0)) : LstU f a (q + 1) q := by
  obtain ⟨h0, h1, h2⟩ := h
  refine ⟨by omega, fun j hj => ?_, fun j hj => Int.lt_of_lt_of_le hb (h1 j hj)⟩
  rcases Nat.lt_succ_iff_lt_or_eq.1 hj with h | rfl
  · exact Int.le_of_lt (Int.lt_of_lt_of_le hb (h1 j h))
  · exact Int.le_refl _
theorem LstU.keep {f : Int → Int} {a : List Int} {q b : Nat} (h : LstU f a q b) (hb : ¬ f (a.getD q 0) < f (a.getD b 0)) : LstU f a (q + 1) b := by
  obtain ⟨h0, h1, h2⟩ := h
  refine ⟨by omega, fun j hj => ?_, h2⟩
  rcases Nat.lt_succ_iff_lt_or_eq.1 hj with h | rfl
  · exact h1 j h
  · omega
theorem LstU.done {f : Int → Int} {a : List Int} {b : Nat} (h : LstU f a a.length b) : Lst f a (a.getD b 0) := ⟨b, h.1, rfl, h.2.1, h.2.2⟩

set_option maxHeartbeats 3200000 in
theorem least_any {w : World} {A B : Option Addr} {n c m cb : Nat} {l : List Pa} {a : List Int} (h : Pas w A n c l) {gb : Nat} (hc : w.cell? ⟨gb, 0, none⟩ = some (.slice A n c)) (hR : RI .i64 w B m cb a) (hm : 0 < m) (ha : ∀ i, i < m → ∃ x : Nat, a.getD i 0 = (x : Int) ∧ x < n) :
    Calls Try.prog 22 #[.slice B m cb, .func (.func 23) #[] #[.pointer (some ⟨gb, 0, none⟩)]] w fun e w' => (∃ x : Nat, e = .returned (.int .i64 (x : Int)) ∧ Lst (smo l) a (x : Int)) ∧ w' = w := by
  have HT := Lib.hid (fun x => @time_any w A n c l h gb hc x)
  have HA := Lib.hid ha
  have HR := Lib.hid hR
  have HLN := Lib.hid hR.len
  have hcap := hR.cap
  have hmaxb := hR.max
  have HM := Lib.hid hm
  obtain ⟨A2, hsl, hR2⟩ := hR.from_ (show 1 ≤ m from hm)
  have hsl2 : ∀ W : World, (Instr.slice 25 (.slice B m cb) (some (.int .i64 1)) none none).run Try.prog W = .ok (.slice A2 (m - 1) (cb - 1)) W := hsl
  have HR2 := Lib.hid hR2
  obtain ⟨m1, hm1⟩ : ∃ m1, m = m1 + 1 := ⟨m - 1, by omega⟩
  have HM1 := Lib.hid hm1
  have hc1 := hR2.cap
  have hc2 := hR2.max
  rw [show m - 1 = m1 from by omega] at hsl2 HR2 hc1
  obtain ⟨cb1, hcb1⟩ : ∃ cb1, cb1 = cb - 1 := ⟨_, rfl⟩
  rw [← hcb1] at hsl2 HR2 hc1 hc2
  clear hsl hR2 hcb1 hm1
  obtain ⟨ga, oa, rfl, ca⟩ := hR.at_ hm
  obtain ⟨x0, e0, lx0⟩ := ha 0 hm
  have HE0 := Lib.hid e0
  have HX0 := Lib.hid lx0
  rw [e0, Nat.add_zero] at ca
  clear e0 lx0 h hc hR ha
  have hmf : ∀ (fn : Fn) (first cap : Array Value) (w : World), (Instr.makeFunc fn first cap).run Try.prog w = .ok (.func fn first cap) w := fun _ _ _ _ => rfl
  go_enter Try.func22, Try.ntmps22
  go_wp2_with fail
  go_loopw [5, 14] (fun bx ix wr => ∃ (q b x : Nat), q ≤ m1 ∧ bx = .int .i64 (x : Int) ∧ a.getD b 0 = (x : Int) ∧ x < n ∧ ix = .int .i64 (q : Int) ∧ LstU (smo l) a (q + 1) b ∧ wr = w) (fun _ ix _ => m1 - (intOf ix).toNat)
  case atStart => exact ⟨0, 0, x0, Nat.zero_le _, rfl, HE0.out, HX0.out, rfl, LstU.start, rfl⟩
  case round =>
    obtain ⟨q, b, x, hq, rfl, hx, lx, rfl, hL, hwr⟩ := hrel
    subst hwr
    have HL := Lib.hid hL
    have HX := Lib.hid (And.intro hx lx)
    clear hL hx lx HE0 HX0 ca
    by_cases hqm : q < m1
    · have HQ := Lib.hid hqm
      obtain ⟨y, ey, ly⟩ := HA.out (q + 1) (by have := HM1.out; omega)
      have cy := (HR2.out).at_ hqm
      obtain ⟨g2, o2, rfl, cy⟩ := cy
      rw [show (a.drop 1).getD q 0 = a.getD (q + 1) 0 from by simp [Nat.add_comm], ey] at cy
      have HY := Lib.hid (And.intro ey ly)
      clear ey ly
      have HTY := Lib.hid (HT.out y HY.out.2)
      have HTX := Lib.hid (HT.out x HX.out.2)
      go_wp2_with fail
      refine (HTY.out).mono ?_
      rintro e w1 ⟨rfl, hw1⟩
      subst hw1
      clear HTY
      go_wp2_with fail
      refine (HTX.out).mono ?_
      rintro e w1 ⟨rfl, hw1⟩
      subst hw1
      clear HTX cy
      have HS : Hid (smo l (y : Int) = smo l (a.getD (q + 1) 0) ∧ smo l (x : Int) = smo l (a.getD b 0)) := Lib.hid ⟨by rw [HY.out.1], by rw [HX.out.1]⟩
      generalize smo l (y : Int) = sy at *
      generalize smo l (x : Int) = sx at *
      by_cases hlt : sy < sx
      · have HK := Lib.hid (HL.out.take (by rw [← HS.out.1, ← HS.out.2]; exact hlt))
        go_wp2_with fail
        go_roundw
        case rel => exact ⟨q + 1, q + 1, y, HQ.out, rfl, HY.out.1, HY.out.2, by go_num, HK.out, trivial⟩
        case measure => have := HQ.out; simp [intOf]; omega
      · have HK := Lib.hid (HL.out.keep (by rw [← HS.out.1, ← HS.out.2]; exact hlt))
        go_wp2_with fail
        go_roundw
        case rel => exact ⟨q + 1, b, x, HQ.out, rfl, HX.out.1, HX.out.2, by go_num, HK.out, trivial⟩
        case measure => have := HQ.out; simp [intOf]; omega
    · obtain rfl : q = m1 := by omega
      go_wp2_with fail
      go_ret
      refine ⟨⟨x, rfl, ?_⟩, rfl⟩
      have := HL.out
      rw [← HM1.out, ← HLN.out] at this
      have := this.done
      rwa [HX.out.1] at this

/-- The first one behind last, by its place, or -1. -/
theorem Fst.ixt {a : List Int} {last k : Int} {m : Nat} (h : Fst m (fun j => decide (last < a.getD j 0)) k) (hm : a.length = m) (h0 : 0 < m) : ∃ i : Nat, max k 0 = (i : Int) ∧ i < m ∧ Ixt a last i := by
  rcases h with ⟨rfl, h⟩ | ⟨i, rfl, hi, h1, h2⟩
  · refine ⟨0, by omega, h0, by omega, .inr ⟨rfl, fun j hj => ?_⟩⟩
    have := of_decide_eq_false (h j (by omega))
    omega
  · refine ⟨i, by omega, hi, by omega, .inl ⟨of_decide_eq_true h1, fun j hj => ?_⟩⟩
    have := of_decide_eq_false (h2 j hj)
    omega

set_option maxHeartbeats 3200000 in
theorem indexI_any {w : World} {B : Option Addr} {m cb : Nat} {a : List Int} {gb : Nat} {last : Int} (hc : w.cell? ⟨gb, 0, none⟩ = some (.int .i64 last)) (hR : RI .i64 w B m cb a) :
    Calls Try.prog 24 #[.slice B m cb, .func (.func 25) #[] #[.pointer (some ⟨gb, 0, none⟩)]] w fun e w' => (∃ k : Int, e = .returned (.int .i64 k) ∧ Fst m (fun j => decide (last < a.getD j 0)) k) ∧ w' = w := by
  have HT := Lib.hid (fun x => @behind_any w gb last hc x)
  have HR := Lib.hid hR
  have hcap := hR.cap
  have hmaxb := hR.max
  clear hc hR
  go_enter Try.func24, Try.ntmps24
  go_wp2_with fail
  go_loopw [8] (fun ix wr => ∃ q : Nat, q ≤ m ∧ ix = .int .i64 (q : Int) ∧ (∀ j, j < q → decide (last < a.getD j 0) = false) ∧ wr = w) (fun ix _ => m - (intOf ix).toNat)
  case atStart => exact ⟨0, Nat.zero_le _, rfl, fun j hj => absurd hj (by omega), rfl⟩
  case round =>
    obtain ⟨q, hq, rfl, hno, hwr⟩ := hrel
    subst hwr
    have HN := Lib.hid hno
    clear hno
    by_cases hqm : q < m
    · have HQ := Lib.hid hqm
      obtain ⟨g, o, rfl, cx⟩ := (HR.out).at_ hqm
      have HTX := Lib.hid (HT.out (a.getD q 0))
      have HE : Hid (∀ v, decide (last < a.getD q 0) = v → ∀ j, j < q + 1 → v = false → decide (last < a.getD j 0) = false) := Lib.hid fun v hv j hj hf => by
        rcases Nat.lt_succ_iff_lt_or_eq.1 hj with h | rfl
        · exact HN.out j h
        · rw [hv, hf]
      generalize hx : a.getD q 0 = x at *
      have HXE := Lib.hid hx
      clear hx
      go_wp2_with fail
      refine (HTX.out).mono ?_
      rintro e w1 ⟨rfl, hw1⟩
      subst hw1
      clear HTX cx
      cases hd : decide (last < x)
      · have HF := Lib.hid (fun j hj => HE.out false hd j hj rfl)
        clear hd
        go_wp2_with fail
        go_roundw
        case rel => exact ⟨q + 1, HQ.out, by go_num, HF.out, trivial⟩
        case measure => have := HQ.out; simp [intOf]; omega
      · have HD := Lib.hid hd
        clear hd
        go_wp2_with fail
        go_ret
        exact ⟨⟨_, rfl, .inr ⟨q, rfl, HQ.out, by show decide (last < a.getD q 0) = true; rw [HXE.out]; exact HD.out, HN.out⟩⟩, rfl⟩
    · obtain rfl : q = m := by omega
      go_wp2_with fail
      go_ret
      exact ⟨⟨_, rfl, .inl ⟨rfl, HN.out⟩⟩, rfl⟩
end Go.Proofs.Ytanigkmcmefpaaa

/- Which paths are able: the program's calls. Conditions: the slice is not longer than 2^40. -/
import Derived.Test.YtanigkmcmefpaaaChg
import Derived.Test.YtanigkmcmefpaaaScA
namespace Go.Proofs.Ytanigkmcmefpaaa
set_option linter.unusedVariables false
set_option linter.unusedSimpArgs false
open Go.RowKit Go.Lib

theorem infoInt : (Try.prog.info? 3).map (fun i => (i.zero, i.size, i.bytes)) = some (some (.int .i64 0), 1, 8) := by kernel_rfl
theorem RI.lit1 (w : World) (x : Int) (t : TypeId) : RI .i64 (w.alloc (.cells #[.int .i64 x] t)) (some ⟨w.heap.size, 0, none⟩) 1 1 [x] := RI.lit .i64 w [x] t (by show 1 ≤ 9223372036854775807; decide)
def pth (p : Pa) : Value := .agg #[.bool p.rd, .bool p.bk, .int .i64 p.sm, .int .i64 p.lf]
theorem keepc {a b : World} (h : Below a.heap.size a b) {p : Addr} {v : Value} (hc : a.cell? p = some v) : b.cell? p = some v := (World.cell?_of_block (h.block _ (World.block_lt_of_cell? _ _ hc))).trans hc
theorem cell4 (w : World) (x y z u : Value) (t : TypeId) : (w.alloc (.cells #[x, y, z, u] t)).cell? ⟨w.heap.size, 0, none⟩ = some x ∧ (w.alloc (.cells #[x, y, z, u] t)).cell? ⟨w.heap.size, 1, none⟩ = some y ∧ (w.alloc (.cells #[x, y, z, u] t)).cell? ⟨w.heap.size, 2, none⟩ = some z ∧ (w.alloc (.cells #[x, y, z, u] t)).cell? ⟨w.heap.size, 3, none⟩ = some u :=
  ⟨by rw [cell_of_row _ _ _ _ _ _ (heap_alloc_new w _)]; rfl, by rw [cell_of_row _ _ _ _ _ _ (heap_alloc_new w _)]; rfl, by rw [cell_of_row _ _ _ _ _ _ (heap_alloc_new w _)]; rfl, by rw [cell_of_row _ _ _ _ _ _ (heap_alloc_new w _)]; rfl⟩

theorem spares_any (p : Pa) (w : World) : Calls Try.prog 14 #[pth p] w fun e w' => e = .returned (.bool (spr p)) ∧ Below w.heap.size w w' := by
  obtain ⟨a, b, c, d⟩ := p
  unfold pth spr
  dsimp only
  have HB := Lib.hid (below_a w (.cells #[.bool a, .bool b, .int .i64 c, .int .i64 d] 33))
  cases a <;> cases b
  all_goals
    go_enter Try.func14, Try.ntmps14
    go_wp2_with fail
    go_ret
    exact ⟨rfl, HB.out⟩
theorem maySend_any (p : Pa) (w : World) : Calls Try.prog 15 #[pth p] w fun e w' => e = .returned (.bool (may p)) ∧ Below w.heap.size w w' := by
  obtain ⟨a, b, c, d⟩ := p
  unfold pth may
  dsimp only
  have HB := Lib.hid (below_a w (.cells #[.bool a, .bool b, .int .i64 c, .int .i64 d] 33))
  cases a
  all_goals
    go_enter Try.func15, Try.ntmps15
    go_wp2_with fail
    go_ret
    exact ⟨rfl, HB.out⟩

/-- k is the first place of l at which f holds, or -1. -/
def Fst (n : Nat) (f : Nat → Bool) (k : Int) : Prop := (k = -1 ∧ ∀ j, j < n → f j = false) ∨ ∃ i : Nat, k = (i : Int) ∧ i < n ∧ f i = true ∧ ∀ j, j < i → f j = false

set_option maxHeartbeats 1600000 in
theorem index_any {w : World} {A : Option Addr} {n c : Nat} {l : List Pa} (h : Pas w A n c l) :
    Calls Try.prog 18 #[.slice A n c, .func (.func 14) #[] #[]] w fun e w' => (∃ k : Int, e = .returned (.int .i64 k) ∧ Fst n (fun j => spr (l.getD j p0)) k) ∧ Below w.heap.size w w' := by
  have HL := Lib.hid h
  have HB := Lib.hid (Below.refl w.heap.size w)
  have HS := Lib.hid (fun p w => spares_any p w)
  have hcp := h.cap
  have hmx := h.max
  clear h
  go_enter Try.func18, Try.ntmps18
  go_wp2_with fail
  go_loopw [8] (fun ix wr => ∃ q : Nat, q ≤ n ∧ ix = .int .i64 (q : Int) ∧ (∀ j, j < q → spr (l.getD j p0) = false) ∧ Below w.heap.size w wr) (fun ix _ => n - (intOf ix).toNat)
  case atStart => exact ⟨0, Nat.zero_le _, rfl, fun j hj => absurd hj (by omega), HB.out⟩
  case round =>
    obtain ⟨q, hq, rfl, hno, B⟩ := hrel
    have HN := Lib.hid hno
    have HB1 := Lib.hid B
    clear hno B
    by_cases hqn : q < n
    · have HQ := Lib.hid hqn
      obtain ⟨gl, ol, rfl, hmem⟩ := (HL.out.below HB1.out).mem (by omega)
      obtain ⟨x0, x1, x2, x3⟩ := hmem q hqn
      have HSP := Lib.hid (HS.out (l.getD q p0) wr)
      clear hmem
      unfold pth at HSP
      go_wp2_with fail
      refine (HSP.out).mono ?_
      rintro e w3 ⟨rfl, b3⟩
      have HB3 := Lib.hid (HB1.out.trans (b3.mono HB1.out.size))
      clear b3 x0 x1 x2 x3
      cases hs : spr (l.getD q p0)
      · go_wp2_with fail
        go_roundw
        case rel => exact ⟨q + 1, by have := HQ.out; omega, by go_num, fun j hj => by
          rcases Nat.lt_succ_iff_lt_or_eq.1 hj with h | rfl
          · exact HN.out j h
          · exact hs, HB3.out⟩
        case measure => have := HQ.out; simp [intOf]; omega
      · go_wp2_with fail
        go_ret
        exact ⟨⟨_, rfl, .inr ⟨q, rfl, HQ.out, hs, HN.out⟩⟩, HB3.out⟩
    · obtain rfl : q = n := by omega
      go_wp2_with fail
      go_ret
      exact ⟨⟨_, rfl, .inl ⟨rfl, HN.out⟩⟩, HB1.out⟩
theorem spd_true {l : List Pa} {q : Nat} (hq : q < l.length) (h : spr (l.getD q p0) = true) : spd l = true := by
  unfold spd
  rw [List.any_eq_true]
  refine ⟨_, ?_, h⟩
  rw [List.getD_eq_getElem?_getD, List.getElem?_eq_getElem hq]
  exact List.getElem_mem _
theorem spd_false {l : List Pa} (h : ∀ j, j < l.length → spr (l.getD j p0) = false) : spd l = false := by
  unfold spd
  rw [List.any_eq_false]
  intro x hx
  obtain ⟨i, hi, rfl⟩ := List.mem_iff_getElem.1 hx
  have := h i hi
  rw [List.getD_eq_getElem?_getD, List.getElem?_eq_getElem hi] at this
  simpa using this
theorem Fst.spd {l : List Pa} {n : Nat} {k : Int} (hn : l.length = n) (h : Fst n (fun j => spr (l.getD j p0)) k) : decide (0 ≤ k) = spd l := by
  rcases h with ⟨rfl, h⟩ | ⟨i, rfl, hi, h1, h2⟩
  · rw [spd_false (by rw [hn]; exact h)]
    decide
  · rw [spd_true (by omega) h1]
    exact decide_eq_true (by omega)

theorem contains_any {w : World} {A : Option Addr} {n c : Nat} {l : List Pa} (h : Pas w A n c l) :
    Calls Try.prog 13 #[.slice A n c, .func (.func 14) #[] #[]] w fun e w' => e = .returned (.bool (spd l)) ∧ Below w.heap.size w w' := by
  have HI := Lib.hid (index_any h)
  have HN := Lib.hid h.len
  clear h
  go_enter Try.func13, Try.ntmps13
  go_wp2_with fail
  refine (HI.out).mono ?_
  rintro e w1 ⟨⟨k, rfl, hk⟩, b1⟩
  have HK := Lib.hid (hk.spd HN.out)
  have HB := Lib.hid b1
  clear hk b1
  go_wp2_with fail
  go_ret
  exact ⟨by rw [← HK.out]; rfl, HB.out⟩

set_option maxHeartbeats 3200000 in
theorem Able_any {w : World} {A : Option Addr} {n c : Nat} {l : List Pa} (h : Pas w A n c l) (h40 : n ≤ 1099511627776) :
    Calls Try.prog 9 #[.slice A n c] w fun e w' => ∃ A' m c', e = .returned (.slice A' m c') ∧ RI .i64 w' A' m c' (ables l n) ∧ Below w.heap.size w w' := by
  have HC := Lib.hid (contains_any h)
  have HL := Lib.hid h
  have HM := Lib.hid (fun p w => maySend_any p w)
  have H40 := Lib.hid h40
  have hcp := h.cap
  have hmx := h.max
  clear h h40
  go_enter Try.func9, Try.ntmps9
  go_wp2_with fail
  refine (HC.out).mono ?_
  rintro e w1 ⟨rfl, b1⟩
  have HB := Lib.hid b1
  clear b1 HC
  obtain ⟨sp, hsp⟩ : ∃ sp, sp = spd l := ⟨_, rfl⟩
  have HSP := Lib.hid hsp
  rw [← hsp]
  clear hsp
  go_wp2_with fail
  go_loopw [4, 11] (fun s4 ix wr => ∃ (q : Nat) (A' : Option Addr) (m c' : Nat), q ≤ n ∧ s4 = .slice A' m c' ∧ ix = .int .i64 (q : Int) ∧ RI .i64 wr A' m c' (ables l q) ∧ wr.ownsRow w.heap.size 3 1 (.slice A' m c') m (iv .i64 (ables l q)) ∧ Below w.heap.size w wr) (fun _ ix _ => n - (intOf ix).toNat)
  case atStart => exact ⟨0, none, 0, 0, Nat.zero_le _, rfl, rfl, RI.nil_ _ _, World.ownsRow_nil _ _ _ _, HB.out⟩
  case round =>
    obtain ⟨q, A1, m, c1, hq, rfl, rfl, hR, hO, B⟩ := hrel
    have HR := Lib.hid hR
    have HO := Lib.hid hO
    have HB1 := Lib.hid B
    have HML := Lib.hid (hR.len ▸ ables_len l q : m ≤ q)
    clear hR hO B HB
    by_cases hqn : q < n
    · have HQ := Lib.hid hqn
      obtain ⟨gl, ol, rfl, hmem⟩ := (HL.out.below HB1.out).mem (by omega)
      obtain ⟨x0, x1, x2, x3⟩ := hmem q hqn
      clear hmem
      have HE : Hid (abl l q = (may (l.getD q p0) && !((l.getD q p0).bk && sp))) := Lib.hid (by rw [HSP.out]; rfl)
      generalize l.getD q p0 = p at *
      obtain ⟨a, b, sm, lf⟩ := p
      dsimp only at x0 x1 x2 x3 HE
      have HMS := Lib.hid (fun w => HM.out ⟨a, b, sm, lf⟩ w)
      unfold pth at HMS
      dsimp only at HMS
      have HBA := Lib.hid (below_a wr (.cells #[.bool a, .bool b, .int .i64 sm, .int .i64 lf] 33))
      have HC4 := Lib.hid (cell4 wr (.bool a) (.bool b) (.int .i64 sm) (.int .i64 lf) 33).2.1
      go_wp2_with fail
      refine (HMS.out _).mono ?_
      rintro e w3 ⟨rfl, b3⟩
      have y1 := keepc b3 HC4.out
      have HB3 := Lib.hid (below_trans HBA.out b3)
      clear b3 x0 x1 x2 x3 HMS HC4 HBA
      generalize may ⟨a, b, sm, lf⟩ = ms at *
      obtain ⟨r, hr⟩ : ∃ r, r = (ms && !(b && sp)) := ⟨_, rfl⟩
      rw [← hr] at HE
      cases ms <;> cases b <;> cases sp
      · obtain rfl : r = false := hr
        go_wp2_with fail
        go_roundw
        case rel => exact ⟨q + 1, A1, m, c1, by have := HQ.out; omega, rfl, by go_num, by rw [ables_no HE.out]; exact HR.out.below HB3.out, by rw [ables_no HE.out]; exact own_below HO.out HB3.out, HB1.out.trans (HB3.out.mono HB1.out.size)⟩
        case measure => have := HQ.out; simp [intOf]; omega
      · obtain rfl : r = false := hr
        go_wp2_with fail
        go_roundw
        case rel => exact ⟨q + 1, A1, m, c1, by have := HQ.out; omega, rfl, by go_num, by rw [ables_no HE.out]; exact HR.out.below HB3.out, by rw [ables_no HE.out]; exact own_below HO.out HB3.out, HB1.out.trans (HB3.out.mono HB1.out.size)⟩
        case measure => have := HQ.out; simp [intOf]; omega
      · obtain rfl : r = false := hr
        go_wp2_with fail
        go_roundw
        case rel => exact ⟨q + 1, A1, m, c1, by have := HQ.out; omega, rfl, by go_num, by rw [ables_no HE.out]; exact HR.out.below HB3.out, by rw [ables_no HE.out]; exact own_below HO.out HB3.out, HB1.out.trans (HB3.out.mono HB1.out.size)⟩
        case measure => have := HQ.out; simp [intOf]; omega
      · obtain rfl : r = false := hr
        go_wp2_with fail
        go_roundw
        case rel => exact ⟨q + 1, A1, m, c1, by have := HQ.out; omega, rfl, by go_num, by rw [ables_no HE.out]; exact HR.out.below HB3.out, by rw [ables_no HE.out]; exact own_below HO.out HB3.out, HB1.out.trans (HB3.out.mono HB1.out.size)⟩
        case measure => have := HQ.out; simp [intOf]; omega
      · obtain rfl : r = true := hr
        have HO3 := Lib.hid (own_below HO.out HB3.out)
        have HB4 := Lib.hid (HB1.out.trans (HB3.out.mono HB1.out.size))
        clear HR HO HB1
        go_wp2_with (at_builtin; refine wpList_appi (W := w) rfl _ _ .i64 25 3 8 rfl Try.underlying25 infoInt (by decide) _ _ _ rfl (own_below HO3.out (below_a _ _)) (HB4.out.alloc HB4.out.size _) _ 1 1 [(q : Int)] rfl (RI.lit1 _ _ _) (by have := HML.out; have := H40.out; have := HQ.out; omega) ?_; intro A3 c3 w5 r5 o5 b5)
        go_roundw
        case rel => exact ⟨q + 1, A3, m + 1, c3, by have := HQ.out; omega, rfl, by go_num, by rw [ables_yes HE.out]; exact r5, by rw [ables_yes HE.out]; exact o5, b5⟩
        case measure => have := HQ.out; simp [intOf]; omega
      · obtain rfl : r = true := hr
        have HO3 := Lib.hid (own_below HO.out HB3.out)
        have HB4 := Lib.hid (HB1.out.trans (HB3.out.mono HB1.out.size))
        clear HR HO HB1
        go_wp2_with (at_builtin; refine wpList_appi (W := w) rfl _ _ .i64 25 3 8 rfl Try.underlying25 infoInt (by decide) _ _ _ rfl (own_below HO3.out (below_a _ _)) (HB4.out.alloc HB4.out.size _) _ 1 1 [(q : Int)] rfl (RI.lit1 _ _ _) (by have := HML.out; have := H40.out; have := HQ.out; omega) ?_; intro A3 c3 w5 r5 o5 b5)
        go_roundw
        case rel => exact ⟨q + 1, A3, m + 1, c3, by have := HQ.out; omega, rfl, by go_num, by rw [ables_yes HE.out]; exact r5, by rw [ables_yes HE.out]; exact o5, b5⟩
        case measure => have := HQ.out; simp [intOf]; omega
      · obtain rfl : r = true := hr
        have HO3 := Lib.hid (own_below HO.out HB3.out)
        have HB4 := Lib.hid (HB1.out.trans (HB3.out.mono HB1.out.size))
        clear HR HO HB1
        go_wp2_with (at_builtin; refine wpList_appi (W := w) rfl _ _ .i64 25 3 8 rfl Try.underlying25 infoInt (by decide) _ _ _ rfl (own_below HO3.out (below_a _ _)) (HB4.out.alloc HB4.out.size _) _ 1 1 [(q : Int)] rfl (RI.lit1 _ _ _) (by have := HML.out; have := H40.out; have := HQ.out; omega) ?_; intro A3 c3 w5 r5 o5 b5)
        go_roundw
        case rel => exact ⟨q + 1, A3, m + 1, c3, by have := HQ.out; omega, rfl, by go_num, by rw [ables_yes HE.out]; exact r5, by rw [ables_yes HE.out]; exact o5, b5⟩
        case measure => have := HQ.out; simp [intOf]; omega
      · obtain rfl : r = false := hr
        go_wp2_with fail
        go_roundw
        case rel => exact ⟨q + 1, A1, m, c1, by have := HQ.out; omega, rfl, by go_num, by rw [ables_no HE.out]; exact HR.out.below HB3.out, by rw [ables_no HE.out]; exact own_below HO.out HB3.out, HB1.out.trans (HB3.out.mono HB1.out.size)⟩
        case measure => have := HQ.out; simp [intOf]; omega
    · obtain rfl : q = n := by omega
      go_wp2_with fail
      go_ret
      exact ⟨A1, m, c1, rfl, HR.out, HB1.out⟩
end Go.Proofs.Ytanigkmcmefpaaa

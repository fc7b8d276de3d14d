/- The document's manager: its lists of addresses. Conditions: the slices hold so many numbers. -/
import Derived.Test.YtpkhalneclmoeaaPaK
namespace Go.Proofs.Ytpkhalneclmoeaa
set_option linter.unusedVariables false
set_option linter.unusedSimpArgs false
open Go.RowKit Go.Lib

theorem rmay_any (x : Int) (w : World) : Calls Try.prog 31 #[.int .i64 x] w fun e w' => e = .returned (.bool (mb x)) ∧ w' = w := by
  by_cases h : mb x = true
  · have h1 := of_decide_eq_true h
    have h2 : (0 : Int) ≤ x := h1.1
    have h3 : x ≤ 3 := by omega
    rw [h]
    clear h h1
    go_enter Try.func31, Try.ntmps31
    go_wp2_with fail
    go_ret
    exact ⟨rfl, rfl⟩
  · have h' : mb x = false := by simpa using h
    have h1 := of_decide_eq_false h'
    rw [h']
    clear h h'
    by_cases h2 : (0 : Int) ≤ x
    · have h3 : ¬ x ≤ 3 := by omega
      clear h1
      go_enter Try.func31, Try.ntmps31
      go_wp2_with fail
      go_ret
      exact ⟨rfl, rfl⟩
    · clear h1
      go_enter Try.func31, Try.ntmps31
      go_wp2_with fail
      go_ret
      exact ⟨rfl, rfl⟩

theorem take_has {l : List Int} {q : Nat} (hq : q < l.length) (x : Int) : x ∈ l.take (q + 1) ↔ x ∈ l.take q ∨ x = l.getD q 0 := by
  rw [List.take_add_one, List.getElem?_eq_getElem hq, List.mem_append, List.getD_eq_getElem?_getD, List.getElem?_eq_getElem hq]
  simp
set_option maxHeartbeats 1600000 in
theorem has_any {w : World} {A : Option Addr} {n c : Nat} {l : List Int} (h : RI .i64 w A n c l) (x : Int) : Calls Try.prog 32 #[.slice A n c, .int .i64 x] w fun e w' => e = .returned (.bool (decide (x ∈ l))) ∧ w' = w := by
  have HR := Lib.hid h
  have HLN := Lib.hid h.len
  have hcp := h.cap
  have hmx := h.max
  clear h
  go_enter Try.func32, Try.ntmps32
  go_wp2_with fail
  go_loopw [5] (fun ix wr => ∃ q : Nat, q ≤ n ∧ ix = .int .i64 (q : Int) ∧ x ∉ l.take q ∧ wr = w) (fun ix _ => n - (intOf ix).toNat)
  case atStart => exact ⟨0, Nat.zero_le _, rfl, by simp, rfl⟩
  case round =>
    obtain ⟨q, hq, rfl, hno, hwr⟩ := hrel
    subst hwr
    have HN := Lib.hid hno
    clear hno
    by_cases hqn : q < n
    · have HQ := Lib.hid hqn
      obtain ⟨g, o, rfl, cx⟩ := (HR.out).at_ hqn
      have HT := Lib.hid (take_has (q := q) (l := l) (by rw [HLN.out]; exact hqn) x)
      have HME : Hid (l.getD q 0 ∈ l) := Lib.hid (by
        rw [List.getD_eq_getElem?_getD, List.getElem?_eq_getElem (by rw [HLN.out]; exact hqn)]
        exact List.getElem_mem _)
      generalize l.getD q 0 = z at *
      by_cases e : z = x
      · subst e
        have he : (z == z) = true := by simp
        go_wp2_with fail
        go_ret
        exact ⟨by rw [decide_eq_true HME.out]; rfl, rfl⟩
      · have he : (z == x) = false := by simpa using e
        have HE := Lib.hid (fun h => e h : ¬ z = x)
        clear e
        go_wp2_with fail
        go_roundw
        case rel => exact ⟨q + 1, HQ.out, by go_num, fun hm => by
          rcases HT.out.1 hm with h1 | h1
          · exact HN.out h1
          · exact HE.out h1.symm, trivial⟩
        case measure => have := HQ.out; simp [intOf]; omega
    · obtain rfl : q = n := by omega
      go_wp2_with fail
      go_ret
      exact ⟨by rw [decide_eq_false (fun hm => HN.out (by rw [List.take_of_length_le (by rw [HLN.out]; exact Nat.le_refl _)]; exact hm))]; rfl, rfl⟩

theorem filt_step {l : List Int} {q : Nat} (hq : q < l.length) (x : Int) : (l.take (q + 1)).filter (fun z => !decide (z = x)) = (l.take q).filter (fun z => !decide (z = x)) ++ (if l.getD q 0 = x then [] else [l.getD q 0]) := by
  rw [List.take_add_one, List.filter_append, List.getElem?_eq_getElem hq, List.getD_eq_getElem?_getD, List.getElem?_eq_getElem hq]
  congr 1
  by_cases e : l[q] = x
  · simp [e]
  · simp [e]
set_option maxHeartbeats 1600000 in
theorem less_any {w : World} {A : Option Addr} {n c : Nat} {l : List Int} (h : RI .i64 w A n c l) (hn : n ≤ 1000000) (x : Int) : Calls Try.prog 33 #[.slice A n c, .int .i64 x] w fun e w' => ∃ A' m c', e = .returned (.slice A' m c') ∧ w'.ownsRow w.heap.size 3 1 (.slice A' m c') m (iv .i64 (l.filter fun z => !decide (z = x))) ∧ Below w.heap.size w w' := by
  have HR := Lib.hid h
  have HLN := Lib.hid h.len
  have H40 := Lib.hid hn
  have hcp := h.cap
  have hmx := h.max
  clear h hn
  go_enter Try.func33, Try.ntmps33
  go_wp2_with fail
  go_loopw [5, 6] (fun s5 ix wr => ∃ (q : Nat) (A' : Option Addr) (m c' : Nat), q ≤ n ∧ s5 = .slice A' m c' ∧ ix = .int .i64 (q : Int) ∧ wr.ownsRow w.heap.size 3 1 (.slice A' m c') m (iv .i64 ((l.take q).filter fun z => !decide (z = x))) ∧ Below w.heap.size w wr) (fun _ ix _ => n - (intOf ix).toNat)
  case atStart => exact ⟨0, none, 0, 0, Nat.zero_le _, rfl, rfl, World.ownsRow_nil _ _ _ _, Below.refl _ _⟩
  case round =>
    obtain ⟨q, A1, m, c1, hq, rfl, rfl, hO, B⟩ := hrel
    have HM : Hid (m ≤ 1000000) := Lib.hid (by
      have h1 := hO.1
      rw [iv_length] at h1
      have := List.length_filter_le (fun z => !decide (z = x)) (l.take q)
      rw [List.length_take] at this
      have := H40.out
      omega)
    have HO := Lib.hid hO
    have HB := Lib.hid B
    clear hO B
    by_cases hqn : q < n
    · have HQ := Lib.hid hqn
      obtain ⟨g, o, rfl, cx⟩ := (HR.out.below HB.out).at_ hqn
      have HF := Lib.hid (filt_step (q := q) (l := l) (by rw [HLN.out]; exact hqn) x)
      generalize l.getD q 0 = z at *
      by_cases e : z = x
      · have he : (z == x) = true := by simpa using e
        have HE := Lib.hid e
        clear e
        go_wp2_with fail
        go_roundw
        case rel => exact ⟨q + 1, A1, m, c1, HQ.out, rfl, by go_num, by rw [HF.out, if_pos HE.out, List.append_nil]; exact HO.out, HB.out⟩
        case measure => have := HQ.out; simp [intOf]; omega
      · have he : (z == x) = false := by simpa using e
        have HE := Lib.hid (fun h => e h : ¬ z = x)
        clear e
        go_wp2_with (at_builtin; refine wpList_appi (W := w) rfl _ _ .i64 53 3 8 rfl Try.underlying53 infoInt (by decide) _ _ _ rfl (own_below HO.out (below_a _ _)) (HB.out.alloc HB.out.size _) _ 1 1 [z] rfl (RI.lit1 _ _ _) (by have := HM.out; omega) ?_; intro A3 c3 w5 r5 o5 b5; clear r5)
        go_roundw
        case rel => exact ⟨q + 1, A3, m + 1, c3, HQ.out, rfl, by go_num, by rw [HF.out, if_neg HE.out]; exact o5, b5⟩
        case measure => have := HQ.out; simp [intOf]; omega
    · obtain rfl : q = n := by omega
      have HT : Hid (l.take q = l) := Lib.hid (List.take_of_length_le (by rw [HLN.out]; exact Nat.le_refl _))
      go_wp2_with fail
      go_ret
      exact ⟨A1, m, c1, rfl, by have := HO.out; rw [HT.out] at this; exact this, HB.out⟩

def mor (l : List Int) (x : Int) : Nat → Bool := fun k => decide ((k : Int) = x) || decide ((k : Int) ∈ l)
set_option maxHeartbeats 1600000 in
theorem more_any {w : World} {A : Option Addr} {n c : Nat} {l : List Int} (h : RI .i64 w A n c l) (x : Int) : Calls Try.prog 30 #[.slice A n c, .int .i64 x] w fun e w' => ∃ A' m c', e = .returned (.slice A' m c') ∧ w'.ownsRow w.heap.size 3 1 (.slice A' m c') m (iv .i64 (adr (mor l x) 4)) ∧ Below w.heap.size w w' := by
  have HR := Lib.hid h
  have hcp := h.cap
  have hmx := h.max
  clear h
  go_enter Try.func30, Try.ntmps30
  go_wp2_with fail
  go_loopw [5, 6] (fun s5 ix wr => ∃ (q : Nat) (A' : Option Addr) (m c' : Nat), q ≤ 4 ∧ s5 = .slice A' m c' ∧ ix = .int .i64 (q : Int) ∧ wr.ownsRow w.heap.size 3 1 (.slice A' m c') m (iv .i64 (adr (mor l x) q)) ∧ Below w.heap.size w wr) (fun _ ix _ => 4 - (intOf ix).toNat)
  case atStart => exact ⟨0, none, 0, 0, Nat.zero_le _, rfl, rfl, World.ownsRow_nil _ _ _ _, Below.refl _ _⟩
  case round =>
    obtain ⟨q, A1, m, c1, hq, rfl, rfl, hO, B⟩ := hrel
    have HM : Hid (m ≤ 4) := Lib.hid (by
      have h1 := hO.1
      rw [iv_length] at h1
      have := adr_len (mor l x) q
      omega)
    have HO := Lib.hid hO
    have HB := Lib.hid B
    clear hO B
    by_cases hqn : q < 4
    · have HQ := Lib.hid hqn
      have h3 : (q : Int) ≤ 3 := by omega
      have HH := Lib.hid (has_any (HR.out.below HB.out) (q : Int))
      have HE : Hid (mor l x q = (decide ((q : Int) = x) || decide ((q : Int) ∈ l))) := Lib.hid rfl
      have HY := Lib.hid (@adr_yes (mor l x) q)
      have HN := Lib.hid (@adr_no (mor l x) q)
      by_cases e : (q : Int) = x
      · have he : ((q : Int) == x) = true := by simpa using e
        have HYE := Lib.hid (HY.out (by rw [HE.out, decide_eq_true e]; rfl))
        clear e HE HY HN
        go_wp2_with (at_builtin; refine wpList_appi (W := w) rfl _ _ .i64 53 3 8 rfl Try.underlying53 infoInt (by decide) _ _ _ rfl (own_below HO.out (below_a _ _)) (HB.out.alloc HB.out.size _) _ 1 1 [(q : Int)] rfl (RI.lit1 _ _ _) (by have := HM.out; omega) ?_; intro A3 c3 w5 r5 o5 b5; clear r5)
        go_roundw
        case rel => exact ⟨q + 1, A3, m + 1, c3, HQ.out, rfl, by go_num, by rw [HYE.out]; exact o5, b5⟩
        case measure => have := HQ.out; simp [intOf]; omega
      · have he : ((q : Int) == x) = false := by simpa using e
        rw [decide_eq_false e] at HE
        clear e
        cases hm : decide ((q : Int) ∈ l)
        · rw [hm] at HE HH
          have HNE := Lib.hid (HN.out HE.out)
          clear hm HE HY HN
          go_wp2_with fail
          refine (HH.out).mono ?_
          rintro e w3 ⟨rfl, rfl⟩
          clear HH
          go_wp2_with fail
          go_roundw
          case rel => exact ⟨q + 1, A1, m, c1, HQ.out, rfl, by go_num, by rw [HNE.out]; exact HO.out, HB.out⟩
          case measure => have := HQ.out; simp [intOf]; omega
        · rw [hm] at HE HH
          have HYE := Lib.hid (HY.out HE.out)
          clear hm HE HY HN
          go_wp2_with fail
          refine (HH.out).mono ?_
          rintro e w3 ⟨rfl, rfl⟩
          clear HH
          go_wp2_with (at_builtin; refine wpList_appi (W := w) rfl _ _ .i64 53 3 8 rfl Try.underlying53 infoInt (by decide) _ _ _ rfl (own_below HO.out (below_a _ _)) (HB.out.alloc HB.out.size _) _ 1 1 [(q : Int)] rfl (RI.lit1 _ _ _) (by have := HM.out; omega) ?_; intro A3 c3 w5 r5 o5 b5; clear r5)
          go_roundw
          case rel => exact ⟨q + 1, A3, m + 1, c3, HQ.out, rfl, by go_num, by rw [HYE.out]; exact o5, b5⟩
          case measure => have := HQ.out; simp [intOf]; omega
    · obtain rfl : q = 4 := by omega
      go_wp2_with fail
      go_ret
      exact ⟨A1, m, c1, rfl, HO.out, HB.out⟩
end Go.Proofs.Ytpkhalneclmoeaa

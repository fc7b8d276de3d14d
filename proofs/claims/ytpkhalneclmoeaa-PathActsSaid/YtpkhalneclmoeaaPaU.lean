/- That two rows are alike: numbers, and pairs. Conditions: the slices hold so many. -/
import Derived.Test.YtpkhalneclmoeaaPaT
namespace Go.Proofs.Ytpkhalneclmoeaa
set_option linter.unusedVariables false
set_option linter.unusedSimpArgs false
open Go.RowKit Go.Lib

set_option maxHeartbeats 1600000 in
theorem Ints_any {w : World} {A A2 : Option Addr} {n n2 c c2 : Nat} {l : List Int} (h : RI .i64 w A n c l) (h2 : RI .i64 w A2 n2 c2 l) : Calls Try.prog 25 #[.slice A n c, .slice A2 n2 c2] w fun e w' => e = .returned (.bool true) ∧ Below w.heap.size w w' := by
  obtain rfl : n = n2 := h.len.symm.trans h2.len
  have HR := Lib.hid h
  have HR2 := Lib.hid h2
  have hcp := h.cap
  have hmx := h.max
  have hcp2 := h2.cap
  have hmx2 := h2.max
  clear h h2
  go_enter Try.func25, Try.ntmps25
  go_wp2_with fail
  go_loopw [5] (fun ix wr => ∃ q : Nat, q ≤ n ∧ ix = .int .i64 (q : Int) ∧ Below w.heap.size w wr) (fun ix _ => n - (intOf ix).toNat)
  case atStart => exact ⟨0, Nat.zero_le _, rfl, Below.refl _ _⟩
  case round =>
    obtain ⟨q, hq, rfl, hb⟩ := hrel
    have HB := Lib.hid hb
    clear hb
    by_cases hqn : q < n
    · have HQ := Lib.hid hqn
      obtain ⟨g, o, rfl, k0⟩ := (HR.out.below HB.out).at_ hqn
      obtain ⟨g2, o2, rfl, k1⟩ := (HR2.out.below HB.out).at_ hqn
      generalize l.getD q 0 = x at *
      have he : (x == x) = true := by simp
      go_wp2_with fail
      go_quiet (fail)
      go_wp2_with fail
      go_roundw
      case rel => exact ⟨q + 1, HQ.out, by go_num, below_dn HB.out _⟩
      case measure => have := HQ.out; simp [intOf]; omega
    · obtain rfl : q = n := by omega
      go_wp2_with fail
      go_ret
      exact ⟨rfl, HB.out⟩

theorem lx_step {l : List (Int × Int)} (h : l.Pairwise lx) {i j : Nat} (hij : i < j) (hj : j < l.length) : lx (l.getD i zp) (l.getD j zp) := by
  rw [List.getD_eq_getElem?_getD, List.getD_eq_getElem?_getD, List.getElem?_eq_getElem hj, List.getElem?_eq_getElem (by omega)]
  exact List.pairwise_iff_getElem.1 h i j (by omega) hj hij
theorem pgetD_in {l : List (Int × Int)} {i : Nat} (h : i < l.length) : l.getD i zp ∈ l := by
  rw [List.getD_eq_getElem?_getD, List.getElem?_eq_getElem h]
  exact List.getElem_mem _

set_option maxHeartbeats 6400000 in
theorem alike_any {w : World} {A A2 : Option Addr} {n n2 c c2 : Nat} {l m : List (Int × Int)} (h : PS w A n c l) (h2 : PS w A2 n2 c2 m) (hl : l.Pairwise lx) (hm : m.Nodup) (he : ∀ u, u ∈ l ↔ u ∈ m) : Calls Try.prog 16 #[.slice A n c, .slice A2 n2 c2] w fun e w' => e = .returned (.bool true) ∧ Below w.heap.size w w' := by
  have hln : l.length = m.length := same_len (hl.imp fun h => lx_ne h) hm he
  obtain rfl : n = n2 := by rw [← h.1, ← h2.1]; exact hln
  have HR := Lib.hid h
  have HR2 := Lib.hid h2
  have HL1 := Lib.hid h.1
  have HL2 := Lib.hid h2.1
  have HS := Lib.hid (fun i j (a : i < j) (b : j < n) => lx_step hl a (by rw [h.1]; exact b))
  have HI := Lib.hid (fun i (a : i < n) => (he _).1 (pgetD_in (l := l) (i := i) (by rw [h.1]; exact a)))
  have HT := Lib.hid (fun q (a : q < n) u => ptake_has (q := q) (l := m) (by rw [h2.1]; exact a) u)
  have hcp := h.2.1
  have hmx := h.2.2.1
  have hcp2 := h2.2.1
  have hmx2 := h2.2.2.1
  clear h h2 hl hm he hln
  go_enter Try.func16, Try.ntmps16
  go_wp2_with fail
  go_loopw [17] (fun ix wr => ∃ i : Nat, i ≤ n ∧ ix = .int .i64 (i : Int) ∧ Below w.heap.size w wr) (fun ix _ => n - (intOf ix).toNat)
  case atStart => exact ⟨0, Nat.zero_le _, rfl, Below.refl _ _⟩
  case round =>
    obtain ⟨i, hi, rfl, hb⟩ := hrel
    have HB := Lib.hid hb
    clear hb
    by_cases hin : i < n
    · have HN := Lib.hid hin
      obtain ⟨g, o, rfl, k0, k1⟩ := (HR.out.below HB.out).at_ hin
      have HIN := Lib.hid (HI.out i hin)
      have HPR := Lib.hid (fun j (a : j < i) => HS.out j i a hin)
      generalize l.getD i zp = x at *
      obtain ⟨x1, x2⟩ := x
      dsimp only at k0 k1
      have HB1 := Lib.hid (HB.out.trans ((below_a wr (.cells #[.int .i64 x1, .int .i64 x2] 45)).mono HB.out.size))
      have HC := Lib.hid (cell2 wr (.int .i64 x1) (.int .i64 x2) 45)
      go_upto_region 6 with (fail)
      clear k0 k1 HB
      generalize wr.alloc (.cells #[.int .i64 x1, .int .i64 x2] 45) = w1 at *
      generalize wr.heap.size = gx at *
      go_wp2_with fail
      clear hin
      go_loopw [7, 24] (fun s7 ix wz => ∃ k : Nat, k ≤ n ∧ s7 = .bool (decide ((x1, x2) ∈ m.take k)) ∧ ix = .int .i64 (k : Int) ∧ Below w.heap.size w wz ∧ (wz.cell? ⟨gx, 0, none⟩ = some (.int .i64 x1) ∧ wz.cell? ⟨gx, 1, none⟩ = some (.int .i64 x2))) (fun _ ix _ => n - (intOf ix).toNat)
      case atStart => exact ⟨0, Nat.zero_le _, by simp, rfl, HB1.out, HC.out⟩
      case round =>
        obtain ⟨k, hk, rfl, rfl, hb, hcx⟩ := hrel
        have HB2 := Lib.hid hb
        have HCX := Lib.hid hcx
        clear hb hcx HB1 HC
        by_cases hkn : k < n
        · have HK := Lib.hid hkn
          obtain ⟨g2, o2, rfl, k0, k1⟩ := (HR2.out.below HB2.out).at_ hkn
          have HTK := Lib.hid (HT.out k hkn (x1, x2))
          generalize m.getD k zp = y at *
          obtain ⟨y1, y2⟩ := y
          dsimp only at k0 k1
          have hyb := below_a wr (.cells #[.int .i64 y1, .int .i64 y2] 48)
          have HB3 := Lib.hid (HB2.out.trans (hyb.mono HB2.out.size))
          have hx0 := keepc hyb HCX.out.1
          have hx1 := keepc hyb HCX.out.2
          have HC3 := Lib.hid (And.intro hx0 hx1)
          obtain ⟨hy0, hy1⟩ := cell2 wr (.int .i64 y1) (.int .i64 y2) 48
          clear hyb
          cases hb8 : decide ((x1, x2) ∈ m.take k)
          · have HF := Lib.hid (of_decide_eq_false hb8)
            clear hb8
            by_cases e1 : x1 = y1
            · have he1 : (x1 == y1) = true := by simpa using e1
              by_cases e2 : x2 = y2
              · have he2 : (x2 == y2) = true := by simpa using e2
                have HD : Hid (decide ((x1, x2) ∈ m.take (k + 1)) = true) := Lib.hid (decide_eq_true (HTK.out.2 (.inr (by rw [e1, e2]))))
                clear e1 e2
                go_wp2_with fail
                go_roundw
                case rel => exact ⟨k + 1, HK.out, by rw [HD.out], by go_num, HB3.out, HC3.out⟩
                case measure => have := HK.out; simp [intOf]; omega
              · have he2 : (x2 == y2) = false := by simpa using e2
                have HD : Hid (decide ((x1, x2) ∈ m.take (k + 1)) = false) := Lib.hid (decide_eq_false (fun h => by
                  rcases HTK.out.1 h with h | h
                  · exact HF.out h
                  · exact e2 (congrArg Prod.snd h)))
                clear e1 e2
                go_wp2_with fail
                go_roundw
                case rel => exact ⟨k + 1, HK.out, by rw [HD.out], by go_num, HB3.out, HC3.out⟩
                case measure => have := HK.out; simp [intOf]; omega
            · have he1 : (x1 == y1) = false := by simpa using e1
              have HD : Hid (decide ((x1, x2) ∈ m.take (k + 1)) = false) := Lib.hid (decide_eq_false (fun h => by
                rcases HTK.out.1 h with h | h
                · exact HF.out h
                · exact e1 (congrArg Prod.fst h)))
              clear e1
              go_wp2_with fail
              go_roundw
              case rel => exact ⟨k + 1, HK.out, by rw [HD.out], by go_num, HB3.out, HC3.out⟩
              case measure => have := HK.out; simp [intOf]; omega
          · have HD : Hid (decide ((x1, x2) ∈ m.take (k + 1)) = true) := Lib.hid (decide_eq_true (HTK.out.2 (.inl (of_decide_eq_true hb8))))
            clear hb8
            go_wp2_with fail
            go_roundw
            case rel => exact ⟨k + 1, HK.out, by rw [HD.out], by go_num, HB3.out, HC3.out⟩
            case measure => have := HK.out; simp [intOf]; omega
        · obtain rfl : k = n := by omega
          have hdt : decide ((x1, x2) ∈ m.take k) = true := decide_eq_true (by rw [List.take_of_length_le (by rw [HL2.out]; exact Nat.le_refl _)]; exact HIN.out)
          rw [hdt]
          clear hdt
          obtain ⟨hx0, hx1⟩ := HCX.out
          by_cases h0 : i = 0
          · have hg0 : decide ((0 : Int) < (i : Int)) = false := decide_eq_false (by omega)
            have hg1 : ¬ (0 : Int) < (i : Int) := by omega
            have hg2 : decide (0 < i) = false := decide_eq_false (by omega)
            clear h0
            go_wp2_with fail
            go_quiet (fail)
            go_wp2_with fail
            go_roundw
            case rel => exact ⟨i + 1, HN.out, by go_num, below_dn HB2.out _⟩
            case measure => have := HN.out; simp [intOf]; omega
          · obtain ⟨j, hj⟩ : ∃ j, i = j + 1 := ⟨i - 1, by omega⟩
            have hw : IntKind.i64.wrap ((i : Int) - 1) = (j : Int) := by rw [IntKind.wrap_i64]; omega
            have hwj : IntKind.i64.wrap (j : Int) = (j : Int) := by rw [IntKind.wrap_i64]; omega
            have hjn : j < k := by have := HN.out; omega
            have hjc : j < c := by omega
            have hg0 : decide ((0 : Int) < (i : Int)) = true := decide_eq_true (by omega)
            have hg1 : (0 : Int) < (i : Int) := by omega
            have hg2 : decide (0 < i) = true := decide_eq_true (by omega)
            obtain ⟨g3, o3, e3, k0, k1⟩ := (HR.out.below HB2.out).at_ hjn
            injection e3 with e3
            injection e3 with e31 e32
            subst e31 e32
            have HP := Lib.hid (HPR.out j (by omega))
            generalize l.getD j zp = v at *
            obtain ⟨v1, v2⟩ := v
            dsimp only at k0 k1
            clear h0 hj
            rcases HP.out with hlt | ⟨heq, hlt⟩
            · dsimp only at hlt
              have t1 : decide (x1 < v1) = false := decide_eq_false (by omega)
              have t2 : (v1 == x1) = false := by simp; omega
              clear hlt
              go_wp2_with fail
              go_quiet (fail)
              have hik := HN.out
              go_wp2_with fail
              go_roundw
              case rel => exact ⟨i + 1, HN.out, by go_num, below_dn HB2.out _⟩
              case measure => have := HN.out; simp [intOf]; omega
            · dsimp only at hlt heq
              have t1 : decide (x1 < v1) = false := decide_eq_false (by omega)
              have t2 : (v1 == x1) = true := by simp; omega
              have t3 : decide (x2 ≤ v2) = false := decide_eq_false (by omega)
              clear hlt heq
              go_wp2_with fail
              go_quiet (fail)
              have hik := HN.out
              go_wp2_with fail
              go_roundw
              case rel => exact ⟨i + 1, HN.out, by go_num, below_dn HB2.out _⟩
              case measure => have := HN.out; simp [intOf]; omega
    · obtain rfl : i = n := by omega
      go_wp2_with fail
      go_ret
      exact ⟨rfl, HB.out⟩
end Go.Proofs.Ytpkhalneclmoeaa

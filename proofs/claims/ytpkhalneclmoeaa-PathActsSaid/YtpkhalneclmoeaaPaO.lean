/- The document's manager: its pairs. Conditions: it stands. -/
import Derived.Test.YtpkhalneclmoeaaPaN
namespace Go.Proofs.Ytpkhalneclmoeaa
set_option linter.unusedVariables false
set_option linter.unusedSimpArgs false
open Go.RowKit Go.Lib

theorem ptake_has {l : List (Int × Int)} {q : Nat} (hq : q < l.length) (x : Int × Int) : x ∈ l.take (q + 1) ↔ x ∈ l.take q ∨ x = l.getD q zp := by
  rw [List.take_add_one, List.getElem?_eq_getElem hq, List.mem_append, List.getD_eq_getElem?_getD, List.getElem?_eq_getElem hq]
  simp
set_option maxHeartbeats 1600000 in
theorem rflow_any {base : Nat} {w : World} {xb : Nat} {p : Pm} {L : List (Int × Int)} {y : Rx} (h : Rf base w xb p L y) (x z : Int) : Calls Try.prog 40 #[ptr xb, .int .i64 x, .int .i64 z] w fun e w' => e = .returned (.bool (decide ((x, z) ∈ L))) ∧ w' = w := by
  have HR := Lib.hid h.rl
  have c0 := h.c2
  have HLN := Lib.hid h.rl.1
  have hcp := h.rl.2.1
  have hmx := h.rl.2.2.1
  obtain ⟨oA, on, oc, tA, tn, tc, A, n, c⟩ := y
  dsimp only at *
  clear h
  unfold ptr
  go_enter Try.func40, Try.ntmps40
  go_wp2_with fail
  go_loopw [7] (fun ix wr => ∃ q : Nat, q ≤ n ∧ ix = .int .i64 (q : Int) ∧ (x, z) ∉ L.take q ∧ wr = w) (fun ix _ => n - (intOf ix).toNat)
  case atStart => exact ⟨0, Nat.zero_le _, rfl, by simp, rfl⟩
  case round =>
    obtain ⟨q, hq, rfl, hno, hwr⟩ := hrel
    subst hwr
    have HN := Lib.hid hno
    clear hno
    by_cases hqn : q < n
    · have HQ := Lib.hid hqn
      obtain ⟨g, o, rfl, k0, k1⟩ := (HR.out).at_ hqn
      have HT := Lib.hid (ptake_has (q := q) (l := L) (by rw [HLN.out]; exact hqn) (x, z))
      have HME : Hid (L.getD q zp ∈ L) := Lib.hid (by
        rw [List.getD_eq_getElem?_getD, List.getElem?_eq_getElem (by rw [HLN.out]; exact hqn)]
        exact List.getElem_mem _)
      generalize L.getD q zp = u at *
      obtain ⟨u1, u2⟩ := u
      dsimp only at k0 k1
      by_cases e1 : u1 = x
      · by_cases e2 : u2 = z
        · subst e1 e2
          go_wp2_with fail
          go_ret
          exact ⟨by rw [decide_eq_true HME.out]; rfl, rfl⟩
        · have HE := Lib.hid (fun h => e2 h : ¬ u2 = z)
          have he2 : (u2 == z) = false := by simpa using e2
          clear e2
          subst e1
          go_wp2_with fail
          go_roundw
          case rel => exact ⟨q + 1, HQ.out, by go_num, fun hm => by
            rcases HT.out.1 hm with h1 | h1
            · exact HN.out h1
            · exact HE.out (congrArg Prod.snd h1).symm, trivial⟩
          case measure => have := HQ.out; simp [intOf]; omega
      · have HE := Lib.hid (fun h => e1 h : ¬ u1 = x)
        have he1 : (u1 == x) = false := by simpa using e1
        clear e1
        go_wp2_with fail
        go_roundw
        case rel => exact ⟨q + 1, HQ.out, by go_num, fun hm => by
          rcases HT.out.1 hm with h1 | h1
          · exact HN.out h1
          · exact HE.out (congrArg Prod.fst h1).symm, trivial⟩
        case measure => have := HQ.out; simp [intOf]; omega
    · obtain rfl : q = n := by omega
      go_wp2_with fail
      go_ret
      exact ⟨by rw [decide_eq_false (fun hm => HN.out (by rw [List.take_of_length_le (by rw [HLN.out]; exact Nat.le_refl _)]; exact hm))]; rfl, rfl⟩
end Go.Proofs.Ytpkhalneclmoeaa

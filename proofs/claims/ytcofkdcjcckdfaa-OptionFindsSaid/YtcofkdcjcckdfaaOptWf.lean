/- The walk of the law OptionFinds. Condition: the slice holds options. -/
import Derived.Test.YtcofkdcjcckdfaaOptWk
namespace Go.Proofs.Ytcofkdcjcckdfaa
set_option linter.unusedVariables false
set_option linter.unusedSimpArgs false
open Go.RowKit

set_option maxRecDepth 8000 in
set_option maxHeartbeats 1600000 in
theorem Finds_any (A : Option Addr) (n c : Nat) (os : List Opt) (k : Int) (w : World) (h : OS w A n c os) (hk : isInt k) :
    Calls Try.prog 5 #[.slice A n c, .int .i64 k] w (Held w) := by
  have hmx := h.max
  have hcp := h.cap
  by_cases hn : 100 < n
  · go_enter Try.func5, Try.ntmps5
    go_wp2_with fail
    refine (wakes_any _).mono ?_
    rintro e w1 ⟨rfl, b1⟩
    go_wp2_with fail
    go_ret
    exact ⟨rfl, b1⟩
  have HLN := Lib.hid h.len
  go_enter Try.func5, Try.ntmps5
  go_wp2_with fail
  refine (wakes_any _).mono ?_
  rintro e w1 ⟨rfl, b1⟩
  have h1 := h.below b1
  clear h
  go_wp2_with fail
  refine (Find_any A n c os k w1 h1).mono ?_
  rintro e w2 ⟨rfl, b2⟩
  have h2 := h1.below b2
  have b3 := below_trans b1 b2
  clear h1 b1 b2
  have HY : Hid (∀ j, noneOf os k j → j < n → (os.getD j (zK 0)).kind = k → (fnd os k).isSome = true ∧ (fnd os k).getD (zK 0) = os.getD j (zK 0)) := Lib.hid (fun j a b c => by
    rw [fnd_at a (by rw [HLN.out]; exact b) c]
    exact ⟨rfl, rfl⟩)
  have HZ : Hid (noneOf os k n → (fnd os k).isSome = false ∧ (fnd os k).getD (zK 0) = zK 0) := Lib.hid (fun a => by
    rw [fnd_none (by rw [HLN.out]; exact a)]
    exact ⟨rfl, rfl⟩)
  generalize (fnd os k).isSome = I at *
  generalize (fnd os k).getD (zK 0) = X at *
  go_wp2_with (first
    | ((with_reducible refine wpList_here ?_); refine wpList_allocV (o := ⟨some 5, _, _, _, _, _⟩) rfl 31 rfl (zK 0).vals zeroOpt _ rfl ?_; intro w3 z3 d3 s3)
    | ((with_reducible refine wpList_here ?_); refine wpList_storeV rfl 31 (.tmp 5) (.tmp 18) rfl _ _ X.vals rfl rfl z3 rfl (vals_one X) infoOpt ?_; intro w4 z4 g4 s4))
  have d4 := v_below_g d3 g4 d3.size (Nat.le_refl _)
  have h4 := h2.below d4
  have b5 := below_trans b3 d4
  have hlt5 : w2.heap.size < w4.heap.size := by omega
  clear h2 b3 z3 d3 g4 s3 s4 d4
  go_loopw [22] (fun i wr => ∃ j : Nat, j ≤ n ∧ i = .int .i64 j ∧ noneOf os k j ∧ OS wr A n c os ∧ Own wr w2.heap.size X.vals ∧ Below w.heap.size w wr) (fun i _ => n - (intOf i).toNat)
  case atStart => exact ⟨0, Nat.zero_le _, rfl, fun i hi => absurd hi (by omega), h4, z4, b5⟩
  case round =>
    obtain ⟨j, hj, rfl, hno, hr, hz, hb⟩ := hrel
    have HNO := Lib.hid hno
    clear h4 z4 b5 hno
    by_cases hlt : j < n
    · obtain ⟨b, o, rfl, hc⟩ := hr.at_ hlt
      have HN2 := Lib.hid (fun e => noneOf_succ HNO.out (k := k) (j := j) e)
      have HF2 := Lib.hid (fun e => HY.out j HNO.out hlt e)
      generalize os.getD j (zK 0) = x at *
      clear HY HZ
      by_cases hkx : x.kind = k
      · obtain ⟨rfl, rfl⟩ := HF2.out hkx
        have hk1 : (X.kind == k) = true := by simpa using hkx
        have hsz := hz.lt (Nat.zero_lt_succ _)
        have HE := Lib.hid (eqO_same X)
        clear hkx HN2 HF2
        go_wp2_with (first
          | ((with_reducible refine wpList_here ?_); refine wpList_loadV (o := ⟨some 25, _, _, _, _, _⟩) rfl 31 (.tmp 24) rfl b _ X.vals rfl hc _ Try.underlying31 rfl infoOpt ?_)
          | ((with_reducible refine wpList_here ?_); refine wpList_allocV (o := ⟨some 8, _, _, _, _, _⟩) rfl 31 rfl (zK 0).vals zeroOpt _ rfl ?_; intro w5 z5 d5 s5)
          | ((with_reducible refine wpList_here ?_); refine wpList_storeV rfl 31 (.tmp 8) (.tmp 25) rfl _ _ X.vals rfl rfl z5 rfl (vals_one X) infoOpt ?_; intro w6 z6 g6 s6; have k6 : w6.cell? ⟨wr.heap.size, 0, none⟩ = some (.int .i64 X.kind) := (z6 0 (Nat.zero_lt_succ _)).1; have d6 := v_below_g d5 g6 d5.size (Nat.le_refl _); have y6 := hz.below d6)
          | ((with_reducible refine wpList_here ?_); refine wpList_loadV (o := ⟨some 32, _, _, _, _, _⟩) rfl 31 (.tmp 5) rfl _ _ X.vals rfl y6.range _ Try.underlying31 rfl infoOpt ?_)
          | ((with_reducible refine wpList_here ?_); refine wpList_loadV (o := ⟨some 33, _, _, _, _, _⟩) rfl 31 (.tmp 8) rfl _ _ X.vals rfl z6.range _ Try.underlying31 rfl infoOpt ?_)
          | ((with_reducible refine wpList_here ?_); refine wpList_eqO (o := ⟨some 34, _, _, _, _, _⟩) rfl (.tmp 32) (.tmp 33) _ rfl X X rfl rfl ?_; rw [HE.out]))
        go_ret
        exact ⟨rfl, below_trans hb d6⟩
      · have hk1 : (x.kind == k) = false := by simpa using hkx
        go_wp2_with (first
          | ((with_reducible refine wpList_here ?_); refine wpList_loadV (o := ⟨some 25, _, _, _, _, _⟩) rfl 31 (.tmp 24) rfl b _ x.vals rfl hc _ Try.underlying31 rfl infoOpt ?_)
          | ((with_reducible refine wpList_here ?_); refine wpList_allocV (o := ⟨some 8, _, _, _, _, _⟩) rfl 31 rfl (zK 0).vals zeroOpt _ rfl ?_; intro w5 z5 d5 s5)
          | ((with_reducible refine wpList_here ?_); refine wpList_storeV rfl 31 (.tmp 8) (.tmp 25) rfl _ _ x.vals rfl rfl z5 rfl (vals_one x) infoOpt ?_; intro w6 z6 g6 s6; have k6 : w6.cell? ⟨wr.heap.size, 0, none⟩ = some (.int .i64 x.kind) := (z6 0 (Nat.zero_lt_succ _)).1; have d6 := v_below_g d5 g6 d5.size (Nat.le_refl _)))
        go_roundw
        case rel => exact ⟨j + 1, by omega, by go_num, HN2.out hkx, hr.below d6, hz.below d6, below_trans hb d6⟩
        case measure => simp [intOf]; omega
    · obtain rfl : j = n := by omega
      obtain ⟨rfl, rfl⟩ := HZ.out HNO.out
      have HE := Lib.hid (eqO_same (zK 0))
      go_wp2_with (first
        | ((with_reducible refine wpList_here ?_); refine wpList_loadV (o := ⟨some 40, _, _, _, _, _⟩) rfl 31 (.tmp 5) rfl _ _ (zK 0).vals rfl hz.range _ Try.underlying31 rfl infoOpt ?_)
        | ((with_reducible refine wpList_here ?_); refine wpList_eqO (o := ⟨some 42, _, _, _, _, _⟩) rfl (.tmp 40) (.tmp 41) _ rfl (zK 0) (zK 0) rfl rfl ?_; rw [HE.out]))
      go_ret
      exact ⟨rfl, hb⟩
end Go.Proofs.Ytcofkdcjcckdfaa

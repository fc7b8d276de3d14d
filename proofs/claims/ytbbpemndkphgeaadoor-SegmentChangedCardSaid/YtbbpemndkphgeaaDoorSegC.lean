/- The contracts of within, optionsRight, Right, Long, Reply, and of the laws' own long. Condition: the segment stands. -/
import Derived.Test.YtbbpemndkphgeaaDoorSegA
import Derived.Test.YtbbpemndkphgeaaDoorOptT
namespace Go.Proofs.YtbbpemndkphgeaaDoor
set_option linter.unusedVariables false
set_option linter.unusedSimpArgs false
open Go.RowKit

/-- Whole numbers, as cells. -/
def iv (l : List Int) : List Value := l.map fun x => .int .i64 x
def inB (top : Int) (l : List Int) : Bool := l.all fun x => decide (0 ≤ x) && decide (x ≤ top)
theorem iv_at {l : List Int} {k : Nat} (h : k < l.length) : (iv l)[k]? = some (.int .i64 (l.getD k 0)) := by
  simp [iv, h]
theorem take_int {l : List Int} {k : Nat} (h : k < l.length) : l.take (k + 1) = l.take k ++ [l.getD k 0] := by
  rw [List.take_succ_eq_append_getElem h]
  simp [h]
theorem inB_bad {top : Int} {l : List Int} {k : Nat} (h : k < l.length) (hx : l.getD k 0 < 0 ∨ top < l.getD k 0) : inB top l = false := by
  cases hc : inB top l with
  | false => rfl
  | true =>
    have h1 := List.all_eq_true.1 hc (l.getD k 0) (by simp [List.getD_eq_getElem?_getD, List.getElem?_eq_getElem h])
    simp only [Bool.and_eq_true, decide_eq_true_eq] at h1
    omega
theorem inB_step {top : Int} {l : List Int} {k : Nat} (h : k < l.length) (h1 : inB top (l.take k) = true) (hx : 0 ≤ l.getD k 0) (hx' : l.getD k 0 ≤ top) : inB top (l.take (k + 1)) = true := by
  rw [take_int h]
  unfold inB at *
  rw [List.all_append, h1]
  simp only [List.all_cons, List.all_nil, Bool.and_true, Bool.true_and, Bool.and_eq_true, decide_eq_true_eq]
  exact ⟨hx, hx'⟩

set_option maxRecDepth 8000 in
set_option maxHeartbeats 1600000 in
theorem within_any (top : Int) (l : List Int) (g n : Nat) (w : World) (h : w.rangeAt g 0 (iv l)) (hl : l.length = n) (hn : n ≤ 8) :
    Calls Tryd.prog 25 #[.int .i64 top, .slice (some ⟨g, 0, none⟩) n n] w fun e w' => e = .returned (.bool (inB top l)) ∧ w = w' := by
  go_enter Tryd.func25, Tryd.ntmps25
  go_wp2_with fail
  go_loop [9] (fun i => ∃ k : Nat, k ≤ n ∧ i = .int .i64 k ∧ inB top (l.take k) = true) (fun i => n - (intOf i).toNat)
  case atStart => exact ⟨0, Nat.zero_le _, rfl, rfl⟩
  case round =>
    obtain ⟨k, hk, rfl, hin⟩ := hrel
    by_cases hlt : k < n
    · have hc := h k _ (iv_at (l := l) (by omega))
      rw [Nat.zero_add] at hc
      have HBAD := Lib.hid (fun hx => inB_bad (top := top) (l := l) (k := k) (by omega) hx)
      have HOK := Lib.hid (fun a b => inB_step (top := top) (l := l) (k := k) (by omega) hin a b)
      clear h hin
      generalize l.getD k 0 = x at *
      by_cases h1 : x < 0
      · go_wp2
        go_ret
        exact ⟨by rw [HBAD.out (Or.inl h1)]; rfl, rfl⟩
      · by_cases h2 : top < x
        · go_wp2
          go_ret
          exact ⟨by rw [HBAD.out (Or.inr h2)]; rfl, rfl⟩
        · go_wp2
          go_round
          case rel => exact ⟨k + 1, by omega, by go_num, HOK.out (by omega) (by omega)⟩
          case measure => simp [intOf]; omega
    · obtain rfl : k = n := by omega
      rw [List.take_of_length_le (by omega)] at hin
      have HIN := Lib.hid hin
      clear hin
      go_wp2
      go_ret
      exact ⟨by rw [HIN.out]; rfl, rfl⟩

set_option maxRecDepth 8000 in
set_option maxHeartbeats 1600000 in
theorem optsRight_any (A : Option Addr) (n c : Nat) (os : List Opt) (w : World) (h : OS w A n c os) :
    Calls Tryd.prog 26 #[.slice A n c] w fun e w' => e = .returned (.bool (os.all rightB)) ∧ Below w.heap.size w w' := by
  have hmx := h.max
  have hcp := h.cap
  have HLN := Lib.hid h.len
  go_enter Tryd.func26, Tryd.ntmps26
  go_wp2_with fail
  go_loopw [7] (fun i wr => ∃ j : Nat, j ≤ n ∧ i = .int .i64 j ∧ (os.take j).all rightB = true ∧ Below w.heap.size w wr) (fun i _ => n - (intOf i).toNat)
  case atStart => exact ⟨0, Nat.zero_le _, rfl, rfl, Below.refl _ _⟩
  case round =>
    obtain ⟨j, hj, rfl, hall, hb⟩ := hrel
    by_cases hlt : j < n
    · obtain ⟨b, a, rfl, hc0⟩ := h.at_ hlt
      have hc := range_below hc0 hb
      have hok := h.ok hlt
      have HT := Lib.hid (take_getD (os := os) (j := j) (by rw [HLN.out]; exact hlt))
      have HALL := Lib.hid hall
      clear h hc0 hall
      generalize os.getD j (zK 0) = x at *
      have HR := Lib.hid (fun W => Right_any x W hok)
      go_wp2_with (first
        | ((with_reducible refine wpList_here ?_); refine wpList_loadV (o := ⟨some 10, _, _, _, _, _⟩) rfl 52 (.tmp 9) rfl b _ x.vals rfl hc _ Tryd.underlying52 rfl infoOpt ?_)
        | ((with_reducible refine wpList_here ?_); refine wpList_allocV (o := ⟨some 4, _, _, _, _, _⟩) rfl 52 rfl (zK 0).vals zeroOpt _ rfl ?_; intro w1 z1 b1 s1)
        | ((with_reducible refine wpList_here ?_); refine wpList_storeV rfl 52 (.tmp 4) (.tmp 10) rfl _ _ x.vals rfl rfl z1 rfl (vals_one x) infoOpt ?_; intro w2 z2 g2 s2)
        | ((with_reducible refine wpList_here ?_); refine wpList_loadV (o := ⟨some 11, _, _, _, _, _⟩) rfl 52 (.tmp 4) rfl _ _ x.vals rfl z2.range _ Tryd.underlying52 rfl infoOpt ?_))
      have b2 := v_below_g (below_trans hb b1) g2 (by have := hb.size; omega) hb.size
      refine (HR.out _).mono ?_
      rintro e w3 ⟨rfl, b3⟩
      have b4 := below_trans b2 b3
      cases hx : rightB x with
      | false =>
        have HA : Hid (os.all rightB = false) := Lib.hid (by
          cases hc : os.all rightB with
          | false => rfl
          | true =>
            exfalso
            have h5 : (os.take (j + 1)).all rightB = true := List.all_eq_true.2 fun y hy => List.all_eq_true.1 hc y (List.mem_of_mem_take hy)
            rw [HT.out, List.all_append, Bool.and_eq_true] at h5
            have := h5.2
            simp [hx] at this)
        clear hx
        go_wp2_with fail
        go_ret
        exact ⟨by rw [HA.out]; rfl, b4⟩
      | true =>
        have HALL2 : Hid ((os.take (j + 1)).all rightB = true) := Lib.hid (by rw [HT.out, List.all_append, HALL.out]; simp [hx])
        clear hx
        go_wp2_with fail
        go_roundw
        case rel => exact ⟨j + 1, by omega, by go_num, HALL2.out, b4⟩
        case measure => simp [intOf]; omega
    · obtain rfl : j = n := by omega
      rw [List.take_of_length_le (by rw [HLN.out]; exact Nat.le_refl _)] at hall
      have HALL := Lib.hid hall
      clear hall
      go_wp2_with fail
      go_ret
      exact ⟨by rw [HALL.out]; rfl, hb⟩

/-- Is a segment right? -/
def rightS (s : Seg) : Bool := inB 3 [s.src, s.dst] && inB 65535 [s.sport, s.dport, s.win] && decide (s.on ≤ 4) && decide (s.dn ≤ 8) && s.os.all rightB

set_option maxRecDepth 8000 in
set_option maxHeartbeats 1600000 in
theorem Long_any (s : Seg) (w : World) (h : SG w s) (hd : s.dn ≤ 1099511627776) :
    Calls Tryd.prog 10 #[.agg s.vals.toArray] w fun e w' => e = .returned (.int .i64 ((s.dn + b2n s.syn + b2n s.fin : Nat) : Int)) ∧ Below w.heap.size w w' := by
  have hl := h.data.cap
  have hm := h.data.max
  clear h
  cases h1 : s.syn <;> cases h2 : s.fin
  · go_enter Tryd.func10, Tryd.ntmps10
    go_wp2_with (first
      | ((with_reducible refine wpList_here ?_); refine wpList_boxV (o := ⟨some 1, _, _, _, _, _⟩) rfl 26 (.tmp 0) rfl s.vals rfl _ rfl ?_; intro w1 z1 b1 s1; have k6 : w1.cell? ⟨w.heap.size, 6, none⟩ = some (.bool s.syn) := (z1 6 (by rw [s.vals_length]; omega)).1; have k8 : w1.cell? ⟨w.heap.size, 8, none⟩ = some (.bool s.fin) := (z1 8 (by rw [s.vals_length]; omega)).1; have k12 : w1.cell? ⟨w.heap.size, 12, none⟩ = some (.slice s.dA s.dn s.dc) := (z1 12 (by rw [s.vals_length]; omega)).1; rw [h1] at k6; rw [h2] at k8))
    have i0 := fun W => run_index_row W 49 4 2 #[.bool false, .bool false] 0 _ Tryd.underlying49 szBool aggBool (by omega) (by omega) rfl
    have i1 := fun W => run_index_row W 49 4 2 #[.bool false, .bool false] 1 _ Tryd.underlying49 szBool aggBool (by omega) (by omega) rfl
    go_loopw [3, 14] (fun x i wr => wr = w1 ∧ ((i = .int .i64 0 ∧ x = .int .i64 (s.dn : Int)) ∨ (i = .int .i64 1 ∧ x = .int .i64 ((s.dn + b2n false : Nat) : Int)) ∨ (i = .int .i64 2 ∧ x = .int .i64 ((s.dn + b2n false + b2n false : Nat) : Int)))) (fun _ i _ => 2 - (intOf i).toNat)
    case atStart => exact ⟨rfl, Or.inl ⟨rfl, rfl⟩⟩
    case round =>
      obtain ⟨rfl, ⟨rfl, rfl⟩ | ⟨rfl, rfl⟩ | ⟨rfl, rfl⟩⟩ := hrel
      · go_wp2
        go_roundw
        case rel => exact ⟨trivial, Or.inr (Or.inl ⟨rfl, rfl⟩)⟩
        case measure => simp [intOf]
      · simp only [b2n, if_true, Bool.false_eq_true, if_false, Nat.add_zero]
        go_wp2
        go_roundw
        case rel => exact ⟨trivial, Or.inr (Or.inr ⟨rfl, rfl⟩)⟩
        case measure => simp [intOf]
      · go_wp2
        go_ret
        exact ⟨rfl, b1⟩
  · go_enter Tryd.func10, Tryd.ntmps10
    go_wp2_with (first
      | ((with_reducible refine wpList_here ?_); refine wpList_boxV (o := ⟨some 1, _, _, _, _, _⟩) rfl 26 (.tmp 0) rfl s.vals rfl _ rfl ?_; intro w1 z1 b1 s1; have k6 : w1.cell? ⟨w.heap.size, 6, none⟩ = some (.bool s.syn) := (z1 6 (by rw [s.vals_length]; omega)).1; have k8 : w1.cell? ⟨w.heap.size, 8, none⟩ = some (.bool s.fin) := (z1 8 (by rw [s.vals_length]; omega)).1; have k12 : w1.cell? ⟨w.heap.size, 12, none⟩ = some (.slice s.dA s.dn s.dc) := (z1 12 (by rw [s.vals_length]; omega)).1; rw [h1] at k6; rw [h2] at k8))
    have i0 := fun W => run_index_row W 49 4 2 #[.bool false, .bool true] 0 _ Tryd.underlying49 szBool aggBool (by omega) (by omega) rfl
    have i1 := fun W => run_index_row W 49 4 2 #[.bool false, .bool true] 1 _ Tryd.underlying49 szBool aggBool (by omega) (by omega) rfl
    go_loopw [3, 14] (fun x i wr => wr = w1 ∧ ((i = .int .i64 0 ∧ x = .int .i64 (s.dn : Int)) ∨ (i = .int .i64 1 ∧ x = .int .i64 ((s.dn + b2n false : Nat) : Int)) ∨ (i = .int .i64 2 ∧ x = .int .i64 ((s.dn + b2n false + b2n true : Nat) : Int)))) (fun _ i _ => 2 - (intOf i).toNat)
    case atStart => exact ⟨rfl, Or.inl ⟨rfl, rfl⟩⟩
    case round =>
      obtain ⟨rfl, ⟨rfl, rfl⟩ | ⟨rfl, rfl⟩ | ⟨rfl, rfl⟩⟩ := hrel
      · go_wp2
        go_roundw
        case rel => exact ⟨trivial, Or.inr (Or.inl ⟨rfl, rfl⟩)⟩
        case measure => simp [intOf]
      · simp only [b2n, if_true, Bool.false_eq_true, if_false, Nat.add_zero]
        go_wp2
        go_roundw
        case rel => exact ⟨trivial, Or.inr (Or.inr ⟨rfl, rfl⟩)⟩
        case measure => simp [intOf]
      · go_wp2
        go_ret
        exact ⟨rfl, b1⟩
  · go_enter Tryd.func10, Tryd.ntmps10
    go_wp2_with (first
      | ((with_reducible refine wpList_here ?_); refine wpList_boxV (o := ⟨some 1, _, _, _, _, _⟩) rfl 26 (.tmp 0) rfl s.vals rfl _ rfl ?_; intro w1 z1 b1 s1; have k6 : w1.cell? ⟨w.heap.size, 6, none⟩ = some (.bool s.syn) := (z1 6 (by rw [s.vals_length]; omega)).1; have k8 : w1.cell? ⟨w.heap.size, 8, none⟩ = some (.bool s.fin) := (z1 8 (by rw [s.vals_length]; omega)).1; have k12 : w1.cell? ⟨w.heap.size, 12, none⟩ = some (.slice s.dA s.dn s.dc) := (z1 12 (by rw [s.vals_length]; omega)).1; rw [h1] at k6; rw [h2] at k8))
    have i0 := fun W => run_index_row W 49 4 2 #[.bool true, .bool false] 0 _ Tryd.underlying49 szBool aggBool (by omega) (by omega) rfl
    have i1 := fun W => run_index_row W 49 4 2 #[.bool true, .bool false] 1 _ Tryd.underlying49 szBool aggBool (by omega) (by omega) rfl
    go_loopw [3, 14] (fun x i wr => wr = w1 ∧ ((i = .int .i64 0 ∧ x = .int .i64 (s.dn : Int)) ∨ (i = .int .i64 1 ∧ x = .int .i64 ((s.dn + b2n true : Nat) : Int)) ∨ (i = .int .i64 2 ∧ x = .int .i64 ((s.dn + b2n true + b2n false : Nat) : Int)))) (fun _ i _ => 2 - (intOf i).toNat)
    case atStart => exact ⟨rfl, Or.inl ⟨rfl, rfl⟩⟩
    case round =>
      obtain ⟨rfl, ⟨rfl, rfl⟩ | ⟨rfl, rfl⟩ | ⟨rfl, rfl⟩⟩ := hrel
      · go_wp2
        go_roundw
        case rel => exact ⟨trivial, Or.inr (Or.inl ⟨rfl, rfl⟩)⟩
        case measure => simp [intOf]
      · simp only [b2n, if_true, Bool.false_eq_true, if_false, Nat.add_zero]
        go_wp2
        go_roundw
        case rel => exact ⟨trivial, Or.inr (Or.inr ⟨rfl, rfl⟩)⟩
        case measure => simp [intOf]
      · go_wp2
        go_ret
        exact ⟨rfl, b1⟩
  · go_enter Tryd.func10, Tryd.ntmps10
    go_wp2_with (first
      | ((with_reducible refine wpList_here ?_); refine wpList_boxV (o := ⟨some 1, _, _, _, _, _⟩) rfl 26 (.tmp 0) rfl s.vals rfl _ rfl ?_; intro w1 z1 b1 s1; have k6 : w1.cell? ⟨w.heap.size, 6, none⟩ = some (.bool s.syn) := (z1 6 (by rw [s.vals_length]; omega)).1; have k8 : w1.cell? ⟨w.heap.size, 8, none⟩ = some (.bool s.fin) := (z1 8 (by rw [s.vals_length]; omega)).1; have k12 : w1.cell? ⟨w.heap.size, 12, none⟩ = some (.slice s.dA s.dn s.dc) := (z1 12 (by rw [s.vals_length]; omega)).1; rw [h1] at k6; rw [h2] at k8))
    have i0 := fun W => run_index_row W 49 4 2 #[.bool true, .bool true] 0 _ Tryd.underlying49 szBool aggBool (by omega) (by omega) rfl
    have i1 := fun W => run_index_row W 49 4 2 #[.bool true, .bool true] 1 _ Tryd.underlying49 szBool aggBool (by omega) (by omega) rfl
    go_loopw [3, 14] (fun x i wr => wr = w1 ∧ ((i = .int .i64 0 ∧ x = .int .i64 (s.dn : Int)) ∨ (i = .int .i64 1 ∧ x = .int .i64 ((s.dn + b2n true : Nat) : Int)) ∨ (i = .int .i64 2 ∧ x = .int .i64 ((s.dn + b2n true + b2n true : Nat) : Int)))) (fun _ i _ => 2 - (intOf i).toNat)
    case atStart => exact ⟨rfl, Or.inl ⟨rfl, rfl⟩⟩
    case round =>
      obtain ⟨rfl, ⟨rfl, rfl⟩ | ⟨rfl, rfl⟩ | ⟨rfl, rfl⟩⟩ := hrel
      · go_wp2
        go_roundw
        case rel => exact ⟨trivial, Or.inr (Or.inl ⟨rfl, rfl⟩)⟩
        case measure => simp [intOf]
      · simp only [b2n, if_true, Bool.false_eq_true, if_false, Nat.add_zero]
        go_wp2
        go_roundw
        case rel => exact ⟨trivial, Or.inr (Or.inr ⟨rfl, rfl⟩)⟩
        case measure => simp [intOf]
      · go_wp2
        go_ret
        exact ⟨rfl, b1⟩

set_option maxRecDepth 8000 in
set_option maxHeartbeats 1600000 in
theorem Reply_any (s : Seg) (w : World) :
    Calls Tryd.prog 18 #[.agg s.vals.toArray] w fun e w' => e = .returned (.agg (aS s.dst s.src s.dport s.sport).vals.toArray) ∧ Below w.heap.size w w' := by
  go_enter Tryd.func18, Tryd.ntmps18
  go_wp2_with (first
    | ((with_reducible refine wpList_here ?_); refine wpList_boxV (o := ⟨some 1, _, _, _, _, _⟩) rfl 26 (.tmp 0) rfl s.vals rfl _ rfl ?_; intro w1 z1 b1 s1)
    | ((with_reducible refine wpList_here ?_); refine wpList_allocV (o := ⟨some 2, _, _, _, _, _⟩) rfl 26 rfl _ zeroSeg _ s1 ?_; intro w2 z2 b2 s2; have z3 := z1.below b2; have k0 : w2.cell? ⟨w.heap.size, 0, none⟩ = some (.int .i64 s.src) := (z3 0 (by rw [s.vals_length]; omega)).1; have k1 : w2.cell? ⟨w.heap.size, 1, none⟩ = some (.int .i64 s.dst) := (z3 1 (by rw [s.vals_length]; omega)).1; have k2 : w2.cell? ⟨w.heap.size, 2, none⟩ = some (.int .i64 s.sport) := (z3 2 (by rw [s.vals_length]; omega)).1; have k3 : w2.cell? ⟨w.heap.size, 3, none⟩ = some (.int .i64 s.dport) := (z3 3 (by rw [s.vals_length]; omega)).1)
    | ((with_reducible refine wpList_here ?_); refine wpList_storeV rfl 26 (.tmp 2) (.tmp 11) rfl _ _ (aS s.dst s.src s.dport s.sport).vals rfl rfl z2 rfl (sv_one _) infoSeg ?_; intro w4 z4 g4 s4))
  exact bodyPost_ret (results_c0 rfl _ _ (w.heap.size + 1) (aS s.dst s.src s.dport s.sport).vals _ rfl z4.range Tryd.underlying26 rfl infoSeg) rfl ⟨rfl, v_below_g (below_trans b1 b2) g4 (below_trans b1 b2).size (by omega)⟩

set_option maxRecDepth 8000 in
set_option maxHeartbeats 1600000 in
theorem long_law (s : Seg) (w : World) :
    Calls Tryd.prog 8 #[.agg s.vals.toArray] w fun e w' => e = .returned (.bool (decide (50 < s.on) || decide (200 < s.dn))) ∧ Below w.heap.size w w' := by
  by_cases h1 : 50 < s.on
  · have hd : decide ((50 : Int) < (s.on : Int)) = true := decide_eq_true (by omega)
    have HD : Hid (decide (50 < s.on) = true) := Lib.hid (decide_eq_true h1)
    go_enter Tryd.func8, Tryd.ntmps8
    go_wp2_with (first
      | ((with_reducible refine wpList_here ?_); refine wpList_boxV (o := ⟨some 1, _, _, _, _, _⟩) rfl 26 (.tmp 0) rfl s.vals rfl _ rfl ?_; intro w1 z1 b1 s1; have k11 : w1.cell? ⟨w.heap.size, 11, none⟩ = some (.slice s.oA s.on s.oc) := (z1 11 (by rw [s.vals_length]; omega)).1; have k12 : w1.cell? ⟨w.heap.size, 12, none⟩ = some (.slice s.dA s.dn s.dc) := (z1 12 (by rw [s.vals_length]; omega)).1))
    go_ret
    exact ⟨by rw [HD.out]; rfl, b1⟩
  · have hd : decide ((50 : Int) < (s.on : Int)) = false := decide_eq_false (by omega)
    have HD : Hid (decide (50 < s.on) = false) := Lib.hid (decide_eq_false h1)
    go_enter Tryd.func8, Tryd.ntmps8
    go_wp2_with (first
      | ((with_reducible refine wpList_here ?_); refine wpList_boxV (o := ⟨some 1, _, _, _, _, _⟩) rfl 26 (.tmp 0) rfl s.vals rfl _ rfl ?_; intro w1 z1 b1 s1; have k11 : w1.cell? ⟨w.heap.size, 11, none⟩ = some (.slice s.oA s.on s.oc) := (z1 11 (by rw [s.vals_length]; omega)).1; have k12 : w1.cell? ⟨w.heap.size, 12, none⟩ = some (.slice s.dA s.dn s.dc) := (z1 12 (by rw [s.vals_length]; omega)).1))
    go_ret
    exact ⟨by rw [HD.out, Bool.false_or]; simp [decide_eq_decide]; omega, b1⟩
end Go.Proofs.YtbbpemndkphgeaaDoor

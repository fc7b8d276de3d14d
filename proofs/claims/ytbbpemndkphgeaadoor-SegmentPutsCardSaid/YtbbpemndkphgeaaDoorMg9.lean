/- The contracts of within, optionsRight, Right, Long, Reply, and of the laws' own long. Condition: the segment stands.
The contract of segment.Right. Condition: the segment stands.
The plain functions of layer 2, on lists of bytes: the sum of bytes by twos, what goes beyond 16 bits added again, the bits turned over. Nothing of the program is imported. No condition. -/
import Derived.Test.YtbbpemndkphgeaaDoorMg2
import Derived.Test.YtbbpemndkphgeaaDoorMg8
import Derived.Test.YtbbpemndkphgeaaDoorMg1
namespace Go.Proofs.YtbbpemndkphgeaaDoor
set_option linter.unusedVariables false
set_option linter.unusedSimpArgs false
open Go.RowKit

/-- Whole numbers, as cells. -/
def iv (l : List Int) : List Value := l.map fun x => .int .i64 x
def inB (top : Int) (l : List Int) : Bool := l.all fun x => decide (0 ≤ x) && decide (x ≤ top)
theorem iv_at {l : List Int} {k : Nat} (h : k < l.length) : (iv l)[k]? = some (.int .i64 (l.getD k 0)) := by
  simp [iv, h]
theorem take_int {l : List Int} {k : Nat} (h : k < l.length) : l.take (k + 1) = l.take k ++ [l.getD k 0] := by
  rw [List.take_succ_eq_append_getElem h]
  simp [h]
theorem inB_bad {top : Int} {l : List Int} {k : Nat} (h : k < l.length) (hx : l.getD k 0 < 0 ∨ top < l.getD k 0) : inB top l = false := by
  cases hc : inB top l with
  | false => rfl
  | true =>
    have h1 := List.all_eq_true.1 hc (l.getD k 0) (by simp [List.getD_eq_getElem?_getD, List.getElem?_eq_getElem h])
    simp only [Bool.and_eq_true, decide_eq_true_eq] at h1
    omega
theorem inB_step {top : Int} {l : List Int} {k : Nat} (h : k < l.length) (h1 : inB top (l.take k) = true) (hx : 0 ≤ l.getD k 0) (hx' : l.getD k 0 ≤ top) : inB top (l.take (k + 1)) = true := by
  rw [take_int h]
  unfold inB at *
  rw [List.all_append, h1]
  simp only [List.all_cons, List.all_nil, Bool.and_true, Bool.true_and, Bool.and_eq_true, decide_eq_true_eq]
  exact ⟨hx, hx'⟩

set_option maxRecDepth 8000 in
set_option maxHeartbeats 1600000 in
theorem within_any (top : Int) (l : List Int) (g n : Nat) (w : World) (h : w.rangeAt g 0 (iv l)) (hl : l.length = n) (hn : n ≤ 8) :
    Calls Tryd.prog 25 #[.int .i64 top, .slice (some ⟨g, 0, none⟩) n n] w fun e w' => e = .returned (.bool (inB top l)) ∧ w = w' := by
  go_enter Tryd.func25, Tryd.ntmps25
  go_wp2_with fail
  go_loop [9] (fun i => ∃ k : Nat, k ≤ n ∧ i = .int .i64 k ∧ inB top (l.take k) = true) (fun i => n - (intOf i).toNat)
  case atStart => exact ⟨0, Nat.zero_le _, rfl, rfl⟩
  case round =>
    obtain ⟨k, hk, rfl, hin⟩ := hrel
    by_cases hlt : k < n
    · have hc := h k _ (iv_at (l := l) (by omega))
      rw [Nat.zero_add] at hc
      have HBAD := Lib.hid (fun hx => inB_bad (top := top) (l := l) (k := k) (by omega) hx)
      have HOK := Lib.hid (fun a b => inB_step (top := top) (l := l) (k := k) (by omega) hin a b)
      clear h hin
      generalize l.getD k 0 = x at *
      by_cases h1 : x < 0
      · go_wp2
        go_ret
        exact ⟨by rw [HBAD.out (Or.inl h1)]; rfl, rfl⟩
      · by_cases h2 : top < x
        · go_wp2
          go_ret
          exact ⟨by rw [HBAD.out (Or.inr h2)]; rfl, rfl⟩
        · go_wp2
          go_round
          case rel => exact ⟨k + 1, by omega, by go_num, HOK.out (by omega) (by omega)⟩
          case measure => simp [intOf]; omega
    · obtain rfl : k = n := by omega
      rw [List.take_of_length_le (by omega)] at hin
      have HIN := Lib.hid hin
      clear hin
      go_wp2
      go_ret
      exact ⟨by rw [HIN.out]; rfl, rfl⟩

set_option maxRecDepth 8000 in
set_option maxHeartbeats 1600000 in
theorem optsRight_any (A : Option Addr) (n c : Nat) (os : List Opt) (w : World) (h : OS w A n c os) :
    Calls Tryd.prog 26 #[.slice A n c] w fun e w' => e = .returned (.bool (os.all rightB)) ∧ Below w.heap.size w w' := by
  have hmx := h.max
  have hcp := h.cap
  have HLN := Lib.hid h.len
  go_enter Tryd.func26, Tryd.ntmps26
  go_wp2_with fail
  go_loopw [7] (fun i wr => ∃ j : Nat, j ≤ n ∧ i = .int .i64 j ∧ (os.take j).all rightB = true ∧ Below w.heap.size w wr) (fun i _ => n - (intOf i).toNat)
  case atStart => exact ⟨0, Nat.zero_le _, rfl, rfl, Below.refl _ _⟩
  case round =>
    obtain ⟨j, hj, rfl, hall, hb⟩ := hrel
    by_cases hlt : j < n
    · obtain ⟨b, a, rfl, hc0⟩ := h.at_ hlt
      have hc := range_below hc0 hb
      have hok := h.ok hlt
      have HT := Lib.hid (take_getD (os := os) (j := j) (by rw [HLN.out]; exact hlt))
      have HALL := Lib.hid hall
      clear h hc0 hall
      generalize os.getD j (zK 0) = x at *
      have HR := Lib.hid (fun W => Right_any x W hok)
      go_wp2_with (first
        | ((with_reducible refine wpList_here ?_); refine wpList_loadV (o := ⟨some 10, _, _, _, _, _⟩) rfl 52 (.tmp 9) rfl b _ x.vals rfl hc _ Tryd.underlying52 rfl infoOpt ?_)
        | ((with_reducible refine wpList_here ?_); refine wpList_allocV (o := ⟨some 4, _, _, _, _, _⟩) rfl 52 rfl (zK 0).vals zeroOpt _ rfl ?_; intro w1 z1 b1 s1)
        | ((with_reducible refine wpList_here ?_); refine wpList_storeV rfl 52 (.tmp 4) (.tmp 10) rfl _ _ x.vals rfl rfl z1 rfl (vals_one x) infoOpt ?_; intro w2 z2 g2 s2)
        | ((with_reducible refine wpList_here ?_); refine wpList_loadV (o := ⟨some 11, _, _, _, _, _⟩) rfl 52 (.tmp 4) rfl _ _ x.vals rfl z2.range _ Tryd.underlying52 rfl infoOpt ?_))
      have b2 := v_below_g (below_trans hb b1) g2 (by have := hb.size; omega) hb.size
      refine (HR.out _).mono ?_
      rintro e w3 ⟨rfl, b3⟩
      have b4 := below_trans b2 b3
      cases hx : rightB x with
      | false =>
        have HA : Hid (os.all rightB = false) := Lib.hid (by
          cases hc : os.all rightB with
          | false => rfl
          | true =>
            exfalso
            have h5 : (os.take (j + 1)).all rightB = true := List.all_eq_true.2 fun y hy => List.all_eq_true.1 hc y (List.mem_of_mem_take hy)
            rw [HT.out, List.all_append, Bool.and_eq_true] at h5
            have := h5.2
            simp [hx] at this)
        clear hx
        go_wp2_with fail
        go_ret
        exact ⟨by rw [HA.out]; rfl, b4⟩
      | true =>
        have HALL2 : Hid ((os.take (j + 1)).all rightB = true) := Lib.hid (by rw [HT.out, List.all_append, HALL.out]; simp [hx])
        clear hx
        go_wp2_with fail
        go_roundw
        case rel => exact ⟨j + 1, by omega, by go_num, HALL2.out, b4⟩
        case measure => simp [intOf]; omega
    · obtain rfl : j = n := by omega
      rw [List.take_of_length_le (by rw [HLN.out]; exact Nat.le_refl _)] at hall
      have HALL := Lib.hid hall
      clear hall
      go_wp2_with fail
      go_ret
      exact ⟨by rw [HALL.out]; rfl, hb⟩

/-- Is a segment right? -/
def rightS (s : Seg) : Bool := inB 3 [s.src, s.dst] && inB 65535 [s.sport, s.dport, s.win] && decide (s.on ≤ 4) && decide (s.dn ≤ 8) && s.os.all rightB

set_option maxRecDepth 8000 in
set_option maxHeartbeats 1600000 in
theorem Long_any (s : Seg) (w : World) (h : SG w s) (hd : s.dn ≤ 1099511627776) :
    Calls Tryd.prog 10 #[.agg s.vals.toArray] w fun e w' => e = .returned (.int .i64 ((s.dn + b2n s.syn + b2n s.fin : Nat) : Int)) ∧ Below w.heap.size w w' := by
  have hl := h.data.cap
  have hm := h.data.max
  clear h
  cases h1 : s.syn <;> cases h2 : s.fin
  · go_enter Tryd.func10, Tryd.ntmps10
    go_wp2_with (first
      | ((with_reducible refine wpList_here ?_); refine wpList_boxV (o := ⟨some 1, _, _, _, _, _⟩) rfl 26 (.tmp 0) rfl s.vals rfl _ rfl ?_; intro w1 z1 b1 s1; have k6 : w1.cell? ⟨w.heap.size, 6, none⟩ = some (.bool s.syn) := (z1 6 (by rw [s.vals_length]; omega)).1; have k8 : w1.cell? ⟨w.heap.size, 8, none⟩ = some (.bool s.fin) := (z1 8 (by rw [s.vals_length]; omega)).1; have k12 : w1.cell? ⟨w.heap.size, 12, none⟩ = some (.slice s.dA s.dn s.dc) := (z1 12 (by rw [s.vals_length]; omega)).1; rw [h1] at k6; rw [h2] at k8))
    have i0 := fun W => run_index_row W 49 4 2 #[.bool false, .bool false] 0 _ Tryd.underlying49 szBool aggBool (by omega) (by omega) rfl
    have i1 := fun W => run_index_row W 49 4 2 #[.bool false, .bool false] 1 _ Tryd.underlying49 szBool aggBool (by omega) (by omega) rfl
    go_loopw [3, 14] (fun x i wr => wr = w1 ∧ ((i = .int .i64 0 ∧ x = .int .i64 (s.dn : Int)) ∨ (i = .int .i64 1 ∧ x = .int .i64 ((s.dn + b2n false : Nat) : Int)) ∨ (i = .int .i64 2 ∧ x = .int .i64 ((s.dn + b2n false + b2n false : Nat) : Int)))) (fun _ i _ => 2 - (intOf i).toNat)
    case atStart => exact ⟨rfl, Or.inl ⟨rfl, rfl⟩⟩
    case round =>
      obtain ⟨rfl, ⟨rfl, rfl⟩ | ⟨rfl, rfl⟩ | ⟨rfl, rfl⟩⟩ := hrel
      · go_wp2
        go_roundw
        case rel => exact ⟨trivial, Or.inr (Or.inl ⟨rfl, rfl⟩)⟩
        case measure => simp [intOf]
      · simp only [b2n, if_true, Bool.false_eq_true, if_false, Nat.add_zero]
        go_wp2
        go_roundw
        case rel => exact ⟨trivial, Or.inr (Or.inr ⟨rfl, rfl⟩)⟩
        case measure => simp [intOf]
      · go_wp2
        go_ret
        exact ⟨rfl, b1⟩
  · go_enter Tryd.func10, Tryd.ntmps10
    go_wp2_with (first
      | ((with_reducible refine wpList_here ?_); refine wpList_boxV (o := ⟨some 1, _, _, _, _, _⟩) rfl 26 (.tmp 0) rfl s.vals rfl _ rfl ?_; intro w1 z1 b1 s1; have k6 : w1.cell? ⟨w.heap.size, 6, none⟩ = some (.bool s.syn) := (z1 6 (by rw [s.vals_length]; omega)).1; have k8 : w1.cell? ⟨w.heap.size, 8, none⟩ = some (.bool s.fin) := (z1 8 (by rw [s.vals_length]; omega)).1; have k12 : w1.cell? ⟨w.heap.size, 12, none⟩ = some (.slice s.dA s.dn s.dc) := (z1 12 (by rw [s.vals_length]; omega)).1; rw [h1] at k6; rw [h2] at k8))
    have i0 := fun W => run_index_row W 49 4 2 #[.bool false, .bool true] 0 _ Tryd.underlying49 szBool aggBool (by omega) (by omega) rfl
    have i1 := fun W => run_index_row W 49 4 2 #[.bool false, .bool true] 1 _ Tryd.underlying49 szBool aggBool (by omega) (by omega) rfl
    go_loopw [3, 14] (fun x i wr => wr = w1 ∧ ((i = .int .i64 0 ∧ x = .int .i64 (s.dn : Int)) ∨ (i = .int .i64 1 ∧ x = .int .i64 ((s.dn + b2n false : Nat) : Int)) ∨ (i = .int .i64 2 ∧ x = .int .i64 ((s.dn + b2n false + b2n true : Nat) : Int)))) (fun _ i _ => 2 - (intOf i).toNat)
    case atStart => exact ⟨rfl, Or.inl ⟨rfl, rfl⟩⟩
    case round =>
      obtain ⟨rfl, ⟨rfl, rfl⟩ | ⟨rfl, rfl⟩ | ⟨rfl, rfl⟩⟩ := hrel
      · go_wp2
        go_roundw
        case rel => exact ⟨trivial, Or.inr (Or.inl ⟨rfl, rfl⟩)⟩
        case measure => simp [intOf]
      · simp only [b2n, if_true, Bool.false_eq_true, if_false, Nat.add_zero]
        go_wp2
        go_roundw
        case rel => exact ⟨trivial, Or.inr (Or.inr ⟨rfl, rfl⟩)⟩
        case measure => simp [intOf]
      · go_wp2
        go_ret
        exact ⟨rfl, b1⟩
  · go_enter Tryd.func10, Tryd.ntmps10
    go_wp2_with (first
      | ((with_reducible refine wpList_here ?_); refine wpList_boxV (o := ⟨some 1, _, _, _, _, _⟩) rfl 26 (.tmp 0) rfl s.vals rfl _ rfl ?_; intro w1 z1 b1 s1; have k6 : w1.cell? ⟨w.heap.size, 6, none⟩ = some (.bool s.syn) := (z1 6 (by rw [s.vals_length]; omega)).1; have k8 : w1.cell? ⟨w.heap.size, 8, none⟩ = some (.bool s.fin) := (z1 8 (by rw [s.vals_length]; omega)).1; have k12 : w1.cell? ⟨w.heap.size, 12, none⟩ = some (.slice s.dA s.dn s.dc) := (z1 12 (by rw [s.vals_length]; omega)).1; rw [h1] at k6; rw [h2] at k8))
    have i0 := fun W => run_index_row W 49 4 2 #[.bool true, .bool false] 0 _ Tryd.underlying49 szBool aggBool (by omega) (by omega) rfl
    have i1 := fun W => run_index_row W 49 4 2 #[.bool true, .bool false] 1 _ Tryd.underlying49 szBool aggBool (by omega) (by omega) rfl
    go_loopw [3, 14] (fun x i wr => wr = w1 ∧ ((i = .int .i64 0 ∧ x = .int .i64 (s.dn : Int)) ∨ (i = .int .i64 1 ∧ x = .int .i64 ((s.dn + b2n true : Nat) : Int)) ∨ (i = .int .i64 2 ∧ x = .int .i64 ((s.dn + b2n true + b2n false : Nat) : Int)))) (fun _ i _ => 2 - (intOf i).toNat)
    case atStart => exact ⟨rfl, Or.inl ⟨rfl, rfl⟩⟩
    case round =>
      obtain ⟨rfl, ⟨rfl, rfl⟩ | ⟨rfl, rfl⟩ | ⟨rfl, rfl⟩⟩ := hrel
      · go_wp2
        go_roundw
        case rel => exact ⟨trivial, Or.inr (Or.inl ⟨rfl, rfl⟩)⟩
        case measure => simp [intOf]
      · simp only [b2n, if_true, Bool.false_eq_true, if_false, Nat.add_zero]
        go_wp2
        go_roundw
        case rel => exact ⟨trivial, Or.inr (Or.inr ⟨rfl, rfl⟩)⟩
        case measure => simp [intOf]
      · go_wp2
        go_ret
        exact ⟨rfl, b1⟩
  · go_enter Tryd.func10, Tryd.ntmps10
    go_wp2_with (first
      | ((with_reducible refine wpList_here ?_); refine wpList_boxV (o := ⟨some 1, _, _, _, _, _⟩) rfl 26 (.tmp 0) rfl s.vals rfl _ rfl ?_; intro w1 z1 b1 s1; have k6 : w1.cell? ⟨w.heap.size, 6, none⟩ = some (.bool s.syn) := (z1 6 (by rw [s.vals_length]; omega)).1; have k8 : w1.cell? ⟨w.heap.size, 8, none⟩ = some (.bool s.fin) := (z1 8 (by rw [s.vals_length]; omega)).1; have k12 : w1.cell? ⟨w.heap.size, 12, none⟩ = some (.slice s.dA s.dn s.dc) := (z1 12 (by rw [s.vals_length]; omega)).1; rw [h1] at k6; rw [h2] at k8))
    have i0 := fun W => run_index_row W 49 4 2 #[.bool true, .bool true] 0 _ Tryd.underlying49 szBool aggBool (by omega) (by omega) rfl
    have i1 := fun W => run_index_row W 49 4 2 #[.bool true, .bool true] 1 _ Tryd.underlying49 szBool aggBool (by omega) (by omega) rfl
    go_loopw [3, 14] (fun x i wr => wr = w1 ∧ ((i = .int .i64 0 ∧ x = .int .i64 (s.dn : Int)) ∨ (i = .int .i64 1 ∧ x = .int .i64 ((s.dn + b2n true : Nat) : Int)) ∨ (i = .int .i64 2 ∧ x = .int .i64 ((s.dn + b2n true + b2n true : Nat) : Int)))) (fun _ i _ => 2 - (intOf i).toNat)
    case atStart => exact ⟨rfl, Or.inl ⟨rfl, rfl⟩⟩
    case round =>
      obtain ⟨rfl, ⟨rfl, rfl⟩ | ⟨rfl, rfl⟩ | ⟨rfl, rfl⟩⟩ := hrel
      · go_wp2
        go_roundw
        case rel => exact ⟨trivial, Or.inr (Or.inl ⟨rfl, rfl⟩)⟩
        case measure => simp [intOf]
      · simp only [b2n, if_true, Bool.false_eq_true, if_false, Nat.add_zero]
        go_wp2
        go_roundw
        case rel => exact ⟨trivial, Or.inr (Or.inr ⟨rfl, rfl⟩)⟩
        case measure => simp [intOf]
      · go_wp2
        go_ret
        exact ⟨rfl, b1⟩

set_option maxRecDepth 8000 in
set_option maxHeartbeats 1600000 in
theorem Reply_any (s : Seg) (w : World) :
    Calls Tryd.prog 18 #[.agg s.vals.toArray] w fun e w' => e = .returned (.agg (aS s.dst s.src s.dport s.sport).vals.toArray) ∧ Below w.heap.size w w' := by
  go_enter Tryd.func18, Tryd.ntmps18
  go_wp2_with (first
    | ((with_reducible refine wpList_here ?_); refine wpList_boxV (o := ⟨some 1, _, _, _, _, _⟩) rfl 26 (.tmp 0) rfl s.vals rfl _ rfl ?_; intro w1 z1 b1 s1)
    | ((with_reducible refine wpList_here ?_); refine wpList_allocV (o := ⟨some 2, _, _, _, _, _⟩) rfl 26 rfl _ zeroSeg _ s1 ?_; intro w2 z2 b2 s2; have z3 := z1.below b2; have k0 : w2.cell? ⟨w.heap.size, 0, none⟩ = some (.int .i64 s.src) := (z3 0 (by rw [s.vals_length]; omega)).1; have k1 : w2.cell? ⟨w.heap.size, 1, none⟩ = some (.int .i64 s.dst) := (z3 1 (by rw [s.vals_length]; omega)).1; have k2 : w2.cell? ⟨w.heap.size, 2, none⟩ = some (.int .i64 s.sport) := (z3 2 (by rw [s.vals_length]; omega)).1; have k3 : w2.cell? ⟨w.heap.size, 3, none⟩ = some (.int .i64 s.dport) := (z3 3 (by rw [s.vals_length]; omega)).1)
    | ((with_reducible refine wpList_here ?_); refine wpList_storeV rfl 26 (.tmp 2) (.tmp 11) rfl _ _ (aS s.dst s.src s.dport s.sport).vals rfl rfl z2 rfl (sv_one _) infoSeg ?_; intro w4 z4 g4 s4))
  exact bodyPost_ret (results_c0 rfl _ _ (w.heap.size + 1) (aS s.dst s.src s.dport s.sport).vals _ rfl z4.range Tryd.underlying26 rfl infoSeg) rfl ⟨rfl, v_below_g (below_trans b1 b2) g4 (below_trans b1 b2).size (by omega)⟩

set_option maxRecDepth 8000 in
set_option maxHeartbeats 1600000 in
theorem long_law (s : Seg) (w : World) :
    Calls Tryd.prog 8 #[.agg s.vals.toArray] w fun e w' => e = .returned (.bool (decide (50 < s.on) || decide (200 < s.dn))) ∧ Below w.heap.size w w' := by
  by_cases h1 : 50 < s.on
  · have hd : decide ((50 : Int) < (s.on : Int)) = true := decide_eq_true (by omega)
    have HD : Hid (decide (50 < s.on) = true) := Lib.hid (decide_eq_true h1)
    go_enter Tryd.func8, Tryd.ntmps8
    go_wp2_with (first
      | ((with_reducible refine wpList_here ?_); refine wpList_boxV (o := ⟨some 1, _, _, _, _, _⟩) rfl 26 (.tmp 0) rfl s.vals rfl _ rfl ?_; intro w1 z1 b1 s1; have k11 : w1.cell? ⟨w.heap.size, 11, none⟩ = some (.slice s.oA s.on s.oc) := (z1 11 (by rw [s.vals_length]; omega)).1; have k12 : w1.cell? ⟨w.heap.size, 12, none⟩ = some (.slice s.dA s.dn s.dc) := (z1 12 (by rw [s.vals_length]; omega)).1))
    go_ret
    exact ⟨by rw [HD.out]; rfl, b1⟩
  · have hd : decide ((50 : Int) < (s.on : Int)) = false := decide_eq_false (by omega)
    have HD : Hid (decide (50 < s.on) = false) := Lib.hid (decide_eq_false h1)
    go_enter Tryd.func8, Tryd.ntmps8
    go_wp2_with (first
      | ((with_reducible refine wpList_here ?_); refine wpList_boxV (o := ⟨some 1, _, _, _, _, _⟩) rfl 26 (.tmp 0) rfl s.vals rfl _ rfl ?_; intro w1 z1 b1 s1; have k11 : w1.cell? ⟨w.heap.size, 11, none⟩ = some (.slice s.oA s.on s.oc) := (z1 11 (by rw [s.vals_length]; omega)).1; have k12 : w1.cell? ⟨w.heap.size, 12, none⟩ = some (.slice s.dA s.dn s.dc) := (z1 12 (by rw [s.vals_length]; omega)).1))
    go_ret
    exact ⟨by rw [HD.out, Bool.false_or]; simp [decide_eq_decide]; omega, b1⟩
end Go.Proofs.YtbbpemndkphgeaaDoor

namespace Go.Proofs.YtbbpemndkphgeaaDoor
set_option linter.unusedVariables false
set_option linter.unusedSimpArgs false
open Go.RowKit

section
variable {ops : Array Oper} {rest : List Oper} {o : Oper} {a : Act} {w : World} {Q : Exit → Act → World → Prop}
/-- A new slice of two whole numbers; of three. -/
theorem wpList_ints2 (hgd : Region.wanted o (yielded ops a.tmps) = true) (x y : Operand) (ho : o.op = .buildSlice 72 2 #[(0, x), (1, y)]) (u v : Int) (hx : a.eval x = .int .i64 u) (hy : a.eval y = .int .i64 v) (g : Nat) (hg : w.heap.size = g)
    (h : ∀ w', w'.rangeAt g 0 (iv [u, v]) → Below w.heap.size w w' → wpList Tryd.prog ops Q rest (a.put o.dst (.slice (some ⟨g, 0, none⟩) 2 2)) w') : wpList Tryd.prog ops Q (o :: rest) a w := by
  subst hg
  refine wpList_want hgd fun _ hK => ?_
  have hrun : (Instr.buildSlice 72 2 #[(0, .int .i64 u), (1, .int .i64 v)]).run Tryd.prog w = .ok (.slice (some ⟨w.heap.size, 0, none⟩) 2 2) (w.alloc (.cells #[.int .i64 u, .int .i64 v] 3)) := by kernel_rfl
  have hr : (execOp a.eval o).run Tryd.prog w = .ok (.value (.slice (some ⟨w.heap.size, 0, none⟩) 2 2)) (w.alloc (.cells #[.int .i64 u, .int .i64 v] 3)) := by
    simp [execOp, ho, hx, hy, hrun]
  unfold Oper.wp
  rw [hr, Oper.upon_value]
  exact hK _ _ (h _ (Own.new w (iv [u, v]) 3).range (below_a w _))
theorem wpList_ints3 (hgd : Region.wanted o (yielded ops a.tmps) = true) (x y z : Operand) (ho : o.op = .buildSlice 72 3 #[(0, x), (1, y), (2, z)]) (u v t : Int) (hx : a.eval x = .int .i64 u) (hy : a.eval y = .int .i64 v) (hz : a.eval z = .int .i64 t) (g : Nat) (hg : w.heap.size = g)
    (h : ∀ w', w'.rangeAt g 0 (iv [u, v, t]) → Below w.heap.size w w' → wpList Tryd.prog ops Q rest (a.put o.dst (.slice (some ⟨g, 0, none⟩) 3 3)) w') : wpList Tryd.prog ops Q (o :: rest) a w := by
  subst hg
  refine wpList_want hgd fun _ hK => ?_
  have hrun : (Instr.buildSlice 72 3 #[(0, .int .i64 u), (1, .int .i64 v), (2, .int .i64 t)]).run Tryd.prog w = .ok (.slice (some ⟨w.heap.size, 0, none⟩) 3 3) (w.alloc (.cells #[.int .i64 u, .int .i64 v, .int .i64 t] 3)) := by kernel_rfl
  have hr : (execOp a.eval o).run Tryd.prog w = .ok (.value (.slice (some ⟨w.heap.size, 0, none⟩) 3 3)) (w.alloc (.cells #[.int .i64 u, .int .i64 v, .int .i64 t] 3)) := by
    simp [execOp, ho, hx, hy, hz, hrun]
  unfold Oper.wp
  rw [hr, Oper.upon_value]
  exact hK _ _ (h _ (Own.new w (iv [u, v, t]) 3).range (below_a w _))
end
/-- A segment's cells. -/
structure Cels (W : World) (g : Nat) (s : Seg) : Prop where
  c0 : W.cell? ⟨g, 0, none⟩ = some (.int .i64 s.src)
  c1 : W.cell? ⟨g, 1, none⟩ = some (.int .i64 s.dst)
  c2 : W.cell? ⟨g, 2, none⟩ = some (.int .i64 s.sport)
  c3 : W.cell? ⟨g, 3, none⟩ = some (.int .i64 s.dport)
  c4 : W.cell? ⟨g, 4, none⟩ = some (.int .u32 (s.seq : Int))
  c5 : W.cell? ⟨g, 5, none⟩ = some (.int .u32 (s.ack : Int))
  c6 : W.cell? ⟨g, 6, none⟩ = some (.bool s.syn)
  c7 : W.cell? ⟨g, 7, none⟩ = some (.bool s.acks)
  c8 : W.cell? ⟨g, 8, none⟩ = some (.bool s.fin)
  c9 : W.cell? ⟨g, 9, none⟩ = some (.bool s.rst)
  c10 : W.cell? ⟨g, 10, none⟩ = some (.int .i64 s.win)
  c11 : W.cell? ⟨g, 11, none⟩ = some (.slice s.oA s.on s.oc)
  c12 : W.cell? ⟨g, 12, none⟩ = some (.slice s.dA s.dn s.dc)
theorem Own.cels {W : World} {g : Nat} {s : Seg} (h : Own W g s.vals) : Cels W g s := by
  constructor
  all_goals first
    | exact (h 0 (by rw [s.vals_length]; omega)).1
    | exact (h 1 (by rw [s.vals_length]; omega)).1
    | exact (h 2 (by rw [s.vals_length]; omega)).1
    | exact (h 3 (by rw [s.vals_length]; omega)).1
    | exact (h 4 (by rw [s.vals_length]; omega)).1
    | exact (h 5 (by rw [s.vals_length]; omega)).1
    | exact (h 6 (by rw [s.vals_length]; omega)).1
    | exact (h 7 (by rw [s.vals_length]; omega)).1
    | exact (h 8 (by rw [s.vals_length]; omega)).1
    | exact (h 9 (by rw [s.vals_length]; omega)).1
    | exact (h 10 (by rw [s.vals_length]; omega)).1
    | exact (h 11 (by rw [s.vals_length]; omega)).1
    | exact (h 12 (by rw [s.vals_length]; omega)).1

set_option maxRecDepth 8000 in
set_option maxHeartbeats 1600000 in
theorem SRight_any (s : Seg) (w : World) (h : SG w s) :
    Calls Tryd.prog 12 #[.agg s.vals.toArray] w fun e w' => e = .returned (.bool (rightS s)) ∧ Below w.heap.size w w' := by
  have HW1 := Lib.hid (fun W g hr => within_any 3 [s.src, s.dst] g 2 W hr rfl (by omega))
  have HW2 := Lib.hid (fun W g hr => within_any 65535 [s.sport, s.dport, s.win] g 3 W hr rfl (by omega))
  have hr0 : rightS s = (inB 3 [s.src, s.dst] && inB 65535 [s.sport, s.dport, s.win] && decide (s.on ≤ 4) && decide (s.dn ≤ 8) && s.os.all rightB) := rfl
  have HOP := Lib.hid h.opts
  clear h
  generalize inB 3 [s.src, s.dst] = x1 at *
  generalize inB 65535 [s.sport, s.dport, s.win] = x2 at *
  cases x1 with
  | false =>
    have HR : Hid (rightS s = false) := Lib.hid (by rw [hr0]; rfl)
    clear hr0
    go_enter Tryd.func12, Tryd.ntmps12
    go_wp2_with (first
      | ((with_reducible refine wpList_here ?_); refine wpList_boxV (o := ⟨some 1, _, _, _, _, _⟩) rfl 26 (.tmp 0) rfl s.vals rfl _ rfl ?_; intro w1 z1 b1 s1; have k0 := z1.cels.c0; have k1 := z1.cels.c1)
      | ((with_reducible refine wpList_here ?_); refine wpList_ints2 (o := ⟨some 7, _, _, _, _, _⟩) rfl (.tmp 4) (.tmp 6) rfl s.src s.dst rfl rfl _ s1 ?_; intro w2 z2 b2))
    refine (HW1.out _ _ z2).mono ?_
    rintro e w3 ⟨rfl, rfl⟩
    go_wp2_with fail
    go_ret
    exact ⟨by rw [HR.out]; rfl, below_trans b1 b2⟩
  | true =>
    cases x2 with
    | false =>
      have HR : Hid (rightS s = false) := Lib.hid (by rw [hr0]; rfl)
      clear hr0
      go_enter Tryd.func12, Tryd.ntmps12
      go_wp2_with (first
        | ((with_reducible refine wpList_here ?_); refine wpList_boxV (o := ⟨some 1, _, _, _, _, _⟩) rfl 26 (.tmp 0) rfl s.vals rfl _ rfl ?_; intro w1 z1 b1 s1; have k0 := z1.cels.c0; have k1 := z1.cels.c1)
        | ((with_reducible refine wpList_here ?_); refine wpList_ints2 (o := ⟨some 7, _, _, _, _, _⟩) rfl (.tmp 4) (.tmp 6) rfl s.src s.dst rfl rfl _ s1 ?_; intro w2 z2 b2))
      refine (HW1.out _ _ z2).mono ?_
      rintro e w3 ⟨rfl, rfl⟩
      have z3 := z1.below b2
      have b3 := below_trans b1 b2
      have k2 := z3.cels.c2
      have k3 := z3.cels.c3
      have k10 := z3.cels.c10
      clear z1 b1 b2 s1 k0 k1 z2
      go_wp2_with (first
        | ((with_reducible refine wpList_here ?_); refine wpList_ints3 (o := ⟨some 16, _, _, _, _, _⟩) rfl (.tmp 11) (.tmp 13) (.tmp 15) rfl s.sport s.dport s.win rfl rfl rfl _ rfl ?_; intro w4 z4 b4))
      refine (HW2.out _ _ z4).mono ?_
      rintro e w5 ⟨rfl, rfl⟩
      go_wp2_with fail
      go_ret
      exact ⟨by rw [HR.out]; rfl, below_trans b3 b4⟩
    | true =>
      rw [Bool.true_and, Bool.true_and] at hr0
      by_cases h4 : s.on ≤ 4
      · by_cases h8 : s.dn ≤ 8
        · have HR : Hid (rightS s = s.os.all rightB) := Lib.hid (by rw [hr0, decide_eq_true h4, decide_eq_true h8]; rfl)
          have i4 : (s.on : Int) ≤ 4 := by omega
          have i8 : (s.dn : Int) ≤ 8 := by omega
          have HOR := Lib.hid (fun W hW => optsRight_any s.oA s.on s.oc s.os W hW)
          clear hr0 h4 h8
          go_enter Tryd.func12, Tryd.ntmps12
          go_wp2_with (first
            | ((with_reducible refine wpList_here ?_); refine wpList_boxV (o := ⟨some 1, _, _, _, _, _⟩) rfl 26 (.tmp 0) rfl s.vals rfl _ rfl ?_; intro w1 z1 b1 s1; have k0 := z1.cels.c0; have k1 := z1.cels.c1)
            | ((with_reducible refine wpList_here ?_); refine wpList_ints2 (o := ⟨some 7, _, _, _, _, _⟩) rfl (.tmp 4) (.tmp 6) rfl s.src s.dst rfl rfl _ s1 ?_; intro w2 z2 b2))
          refine (HW1.out _ _ z2).mono ?_
          rintro e w3 ⟨rfl, rfl⟩
          have z3 := z1.below b2
          have b3 := below_trans b1 b2
          have k2 := z3.cels.c2
          have k3 := z3.cels.c3
          have k10 := z3.cels.c10
          clear z1 b1 b2 s1 k0 k1 z2
          go_wp2_with (first
            | ((with_reducible refine wpList_here ?_); refine wpList_ints3 (o := ⟨some 16, _, _, _, _, _⟩) rfl (.tmp 11) (.tmp 13) (.tmp 15) rfl s.sport s.dport s.win rfl rfl rfl _ rfl ?_; intro w4 z4 b4))
          refine (HW2.out _ _ z4).mono ?_
          rintro e w5 ⟨rfl, rfl⟩
          have z5 := z3.below b4
          have b5 := below_trans b3 b4
          have k11 := z5.cels.c11
          have k12 := z5.cels.c12
          clear z3 b3 b4 z4 k2 k3 k10
          go_wp2_with fail
          refine (HOR.out _ (HOP.out.below b5)).mono ?_
          rintro e w6 ⟨rfl, b6⟩
          have b7 := below_trans b5 b6
          go_wp2_with fail
          go_ret
          exact ⟨by rw [HR.out]; rfl, b7⟩
        · have HR : Hid (rightS s = false) := Lib.hid (by rw [hr0, decide_eq_false h8, Bool.and_false]; rfl)
          have i4 : (s.on : Int) ≤ 4 := by omega
          have i8 : decide ((s.dn : Int) ≤ 8) = false := decide_eq_false (by omega)
          clear hr0 h4 h8
          go_enter Tryd.func12, Tryd.ntmps12
          go_wp2_with (first
            | ((with_reducible refine wpList_here ?_); refine wpList_boxV (o := ⟨some 1, _, _, _, _, _⟩) rfl 26 (.tmp 0) rfl s.vals rfl _ rfl ?_; intro w1 z1 b1 s1; have k0 := z1.cels.c0; have k1 := z1.cels.c1)
            | ((with_reducible refine wpList_here ?_); refine wpList_ints2 (o := ⟨some 7, _, _, _, _, _⟩) rfl (.tmp 4) (.tmp 6) rfl s.src s.dst rfl rfl _ s1 ?_; intro w2 z2 b2))
          refine (HW1.out _ _ z2).mono ?_
          rintro e w3 ⟨rfl, rfl⟩
          have z3 := z1.below b2
          have b3 := below_trans b1 b2
          have k2 := z3.cels.c2
          have k3 := z3.cels.c3
          have k10 := z3.cels.c10
          clear z1 b1 b2 s1 k0 k1 z2
          go_wp2_with (first
            | ((with_reducible refine wpList_here ?_); refine wpList_ints3 (o := ⟨some 16, _, _, _, _, _⟩) rfl (.tmp 11) (.tmp 13) (.tmp 15) rfl s.sport s.dport s.win rfl rfl rfl _ rfl ?_; intro w4 z4 b4))
          refine (HW2.out _ _ z4).mono ?_
          rintro e w5 ⟨rfl, rfl⟩
          have z5 := z3.below b4
          have b5 := below_trans b3 b4
          have k11 := z5.cels.c11
          have k12 := z5.cels.c12
          clear z3 b3 b4 z4 k2 k3 k10
          go_wp2_with fail
          go_ret
          exact ⟨by rw [HR.out]; rfl, b5⟩
      · have HR : Hid (rightS s = false) := Lib.hid (by rw [hr0, decide_eq_false h4]; rfl)
        have i4 : decide ((s.on : Int) ≤ 4) = false := decide_eq_false (by omega)
        clear hr0 h4
        go_enter Tryd.func12, Tryd.ntmps12
        go_wp2_with (first
          | ((with_reducible refine wpList_here ?_); refine wpList_boxV (o := ⟨some 1, _, _, _, _, _⟩) rfl 26 (.tmp 0) rfl s.vals rfl _ rfl ?_; intro w1 z1 b1 s1; have k0 := z1.cels.c0; have k1 := z1.cels.c1)
          | ((with_reducible refine wpList_here ?_); refine wpList_ints2 (o := ⟨some 7, _, _, _, _, _⟩) rfl (.tmp 4) (.tmp 6) rfl s.src s.dst rfl rfl _ s1 ?_; intro w2 z2 b2))
        refine (HW1.out _ _ z2).mono ?_
        rintro e w3 ⟨rfl, rfl⟩
        have z3 := z1.below b2
        have b3 := below_trans b1 b2
        have k2 := z3.cels.c2
        have k3 := z3.cels.c3
        have k10 := z3.cels.c10
        clear z1 b1 b2 s1 k0 k1 z2
        go_wp2_with (first
          | ((with_reducible refine wpList_here ?_); refine wpList_ints3 (o := ⟨some 16, _, _, _, _, _⟩) rfl (.tmp 11) (.tmp 13) (.tmp 15) rfl s.sport s.dport s.win rfl rfl rfl _ rfl ?_; intro w4 z4 b4))
        refine (HW2.out _ _ z4).mono ?_
        rintro e w5 ⟨rfl, rfl⟩
        have z5 := z3.below b4
        have b5 := below_trans b3 b4
        have k11 := z5.cels.c11
        have k12 := z5.cels.c12
        clear z3 b3 b4 z4 k2 k3 k10
        go_wp2_with fail
        go_ret
        exact ⟨by rw [HR.out]; rfl, b5⟩
end Go.Proofs.YtbbpemndkphgeaaDoor

namespace Go.Proofs.YtbbpemndkphgeaaDoor
set_option linter.unusedSimpArgs false
set_option linter.unusedVariables false

/-- The sum of bytes, where the first one is the higher one (true) or the lower one of its number. -/
def sm : Bool → List UInt8 → Nat
  | _, [] => 0
  | true, a :: r => 256 * a.toNat + sm false r
  | false, a :: r => a.toNat + sm true r
/-- Does a byte behind so many have the higher place? -/
def ev (n : Nat) : Bool := n % 2 == 0
theorem ev_succ (n : Nat) : ev (n + 1) = !ev n := by
  unfold ev
  rcases Nat.mod_two_eq_zero_or_one n with h | h
  · rw [Nat.add_mod, h]; rfl
  · rw [Nat.add_mod, h]; rfl
theorem ev_zero : ev 0 = true := rfl
theorem sm_append (b : Bool) (l r : List UInt8) : sm b (l ++ r) = sm b l + sm (b == ev l.length) r := by
  induction l generalizing b with
  | nil => cases b <;> simp [sm, ev]
  | cons a t ih =>
    rw [List.cons_append, List.length_cons, ev_succ]
    cases b
    · rw [sm, sm, ih, Nat.add_assoc]
      cases ev t.length <;> rfl
    · rw [sm, sm, ih, Nat.add_assoc]
      cases ev t.length <;> rfl
theorem sm_up (l r : List UInt8) : sm true (l ++ r) = sm true l + sm (ev l.length) r := by
  rw [sm_append]
  cases ev l.length <;> rfl
theorem sm_snoc (l : List UInt8) (a : UInt8) : sm true (l ++ [a]) = sm true l + (if ev l.length then 256 * a.toNat else a.toNat) := by
  rw [sm_up]
  cases ev l.length <;> simp [sm]
theorem sm_le (b : Bool) (l : List UInt8) : sm b l ≤ 65280 * l.length := by
  induction l generalizing b with
  | nil => simp [sm]
  | cons a t ih =>
    have ha := a.toNat_lt
    cases b
    · have := ih true
      rw [sm, List.length_cons]
      omega
    · have := ih false
      rw [sm, List.length_cons]
      omega
theorem sm_zeros (b : Bool) (n : Nat) : sm b (List.replicate n 0) = 0 := by
  induction n generalizing b with
  | zero => simp [sm]
  | succ n ih => cases b <;> simp [List.replicate_succ, sm, ih]

/-- What goes beyond 16 bits is added again, till nothing does. -/
def fo (n : Nat) : Nat := if n = 0 then 0 else (n - 1) % 65535 + 1
theorem fo_step (n : Nat) (h : 65535 < n) : fo (n / 65536 + n % 65536) = fo n := by
  unfold fo
  rw [if_neg (by omega), if_neg (by omega)]
  omega
theorem fo_small (n : Nat) (h : n ≤ 65535) : fo n = n := by
  unfold fo
  split <;> omega
theorem fo_le (n : Nat) : fo n ≤ 65535 := by
  unfold fo
  split <;> omega
/-- The sum, its bits turned over. -/
def of (l : List UInt8) : Nat := 65535 - fo (sm true l)
theorem of_le (l : List UInt8) : of l ≤ 65535 := by unfold of; omega
theorem of_eq {l r : List UInt8} (h : sm true l = sm true r) : of l = of r := by unfold of; rw [h]

/-- A zero behind an odd number of bytes. -/
def pad (l : List UInt8) : List UInt8 := List.replicate (l.length % 2) 0
theorem pad_length (l : List UInt8) : (pad l).length = l.length % 2 := by simp [pad]
theorem sm_pad (l : List UInt8) : sm true (l ++ pad l) = sm true l := by
  rw [sm_up, pad, sm_zeros]; rfl
/-- Bytes and their sum. -/
def sput (l : List UInt8) : List UInt8 := l ++ pad l ++ be (of l) 2
theorem sput_length (l : List UInt8) : (sput l).length = l.length + l.length % 2 + 2 := by
  unfold sput
  rw [List.length_append, List.length_append, pad_length, be_length]
theorem be_two (n : Nat) : be n 2 = [UInt8.ofNat (n / 256), UInt8.ofNat n] := by
  simp [be, List.range, List.range.loop]
theorem sm_two (n : Nat) (h : n ≤ 65535) : sm true (be n 2) = n := by
  rw [be_two]
  simp only [sm, UInt8.toNat_ofNat']
  omega
theorem ev_even {n : Nat} (h : n % 2 = 0) : ev n = true := by simp [ev, h]
theorem sm_sput (l : List UInt8) : sm true (sput l) = sm true l + of l := by
  unfold sput
  rw [sm_up, sm_pad, ev_even (by rw [List.length_append, pad_length]; omega), sm_two _ (of_le l)]
theorem of_sput (l : List UInt8) : of (sput l) = 0 := by
  have h := sm_sput l
  unfold of at h ⊢
  rw [h]
  generalize sm true l = x
  unfold fo
  split <;> split <;> omega

/-- Bytes are as they are put: an even number, two at least, with the sum 0. -/
def sgood (l : List UInt8) : Bool := decide (2 ≤ l.length) && (decide (l.length % 2 = 0) && decide (of l = 0))
theorem sgood_sput (l : List UInt8) : sgood (sput l) = true := by
  unfold sgood
  have h := sput_length l
  rw [of_sput, Bool.and_eq_true, Bool.and_eq_true, decide_eq_true_eq, decide_eq_true_eq]
  exact ⟨by omega, by omega, rfl⟩

/-- One byte is changed. -/
theorem sm_set (b : Bool) (l : List UInt8) (i : Nat) (x : UInt8) (h : i < l.length) :
    (sm b (l.set i x) + 256 * (l.getD i 0).toNat = sm b l + 256 * x.toNat) ∨ (sm b (l.set i x) + (l.getD i 0).toNat = sm b l + x.toNat) := by
  induction l generalizing b i with
  | nil => simp at h
  | cons a t ih =>
    cases i with
    | zero => cases b <;> simp [sm] <;> omega
    | succ i =>
      have h' : i < t.length := by simpa using h
      have e : (a :: t).getD (i + 1) 0 = t.getD i 0 := by simp
      rw [List.set_cons_succ, e]
      cases b
      · rw [sm, sm]
        rcases ih true i h' with g | g <;> omega
      · rw [sm, sm]
        rcases ih false i h' with g | g <;> omega
theorem of_set (l : List UInt8) (i : Nat) (x : UInt8) (h : i < l.length) (h0 : of l = 0) (hx : x ≠ l.getD i 0) : of (l.set i x) ≠ 0 := by
  have hn : x.toNat ≠ (l.getD i 0).toNat := fun e => hx (UInt8.toNat_inj.1 e)
  have ha := x.toNat_lt
  have hb := (l.getD i 0).toNat_lt
  have hs := sm_set true l i x h
  unfold of fo at h0 ⊢
  generalize sm true (l.set i x) = p at *
  generalize sm true l = q at *
  generalize x.toNat = u at *
  generalize (l.getD i 0).toNat = v at *
  intro h1
  split at h0 <;> split at h1 <;> omega
theorem sgood_set (l : List UInt8) (i : Nat) (x : UInt8) (h : i < l.length) (h0 : of l = 0) (hx : x ≠ l.getD i 0) : sgood (l.set i x) = false := by
  unfold sgood
  have := of_set l i x h h0 hx
  simp [this]

/-- Numbers of 16 bits, each in two bytes. -/
def pairs (zs : List Nat) : List UInt8 := zs.flatMap fun z => be z 2
theorem pairs_length (zs : List Nat) : (pairs zs).length = 2 * zs.length := by
  unfold pairs
  induction zs with
  | nil => rfl
  | cons z t ih => rw [List.flatMap_cons, List.length_append, be_length, ih, List.length_cons]; omega
theorem pairs_snoc (zs : List Nat) (z : Nat) : pairs (zs ++ [z]) = pairs zs ++ be z 2 := by
  simp [pairs]
theorem sm_pairs (zs : List Nat) (h : ∀ z ∈ zs, z ≤ 65535) : sm true (pairs zs) = zs.sum := by
  induction zs with
  | nil => rfl
  | cons z t ih =>
    unfold pairs at ih ⊢
    rw [List.flatMap_cons, sm_up, be_length, show ev 2 = true from rfl, ih fun y hy => h y (List.mem_cons_of_mem _ hy), sm_two z (h z List.mem_cons_self), List.sum_cons]
theorem sum_set (zs : List Nat) (i v : Nat) (h : i < zs.length) : (zs.set i v).sum + zs.getD i 0 = zs.sum + v := by
  induction zs generalizing i with
  | nil => simp at h
  | cons z t ih =>
    cases i with
    | zero => simp; omega
    | succ i =>
      have := ih i (by simpa using h)
      simp at this ⊢
      omega
/-- Two numbers change places. -/
def swap (zs : List Nat) (a c : Nat) : List Nat := (zs.set a (zs.getD c 0)).set c (zs.getD a 0)
theorem swap_length (zs : List Nat) (a c : Nat) : (swap zs a c).length = zs.length := by simp [swap]
theorem swap_sum (zs : List Nat) (a c : Nat) (ha : a < zs.length) (hc : c < zs.length) : (swap zs a c).sum = zs.sum := by
  have h1 := sum_set zs a (zs.getD c 0) ha
  have h2 := sum_set (zs.set a (zs.getD c 0)) c (zs.getD a 0) (by simpa using hc)
  unfold swap
  by_cases e : a = c
  · subst e
    simp [ha] at h1 h2 ⊢
  · have : (zs.set a (zs.getD c 0)).getD c 0 = zs.getD c 0 := by simp [List.getElem?_set, e]
    rw [this] at h2
    omega
theorem swap_mem (zs : List Nat) (a c : Nat) (h : ∀ z ∈ zs, z ≤ 65535) (ha : a < zs.length) (hc : c < zs.length) : ∀ z ∈ swap zs a c, z ≤ 65535 := by
  have g : ∀ i, i < zs.length → zs.getD i 0 ≤ 65535 := fun i hi => h _ (by simp [hi])
  intro z hz
  unfold swap at hz
  rcases List.mem_or_eq_of_mem_set hz with hz | rfl
  · rcases List.mem_or_eq_of_mem_set hz with hz | rfl
    · exact h z hz
    · exact g c hc
  · exact g a ha
theorem of_swap (zs : List Nat) (a c : Nat) (h : ∀ z ∈ zs, z ≤ 65535) (ha : a < zs.length) (hc : c < zs.length) : of (pairs (swap zs a c)) = of (pairs zs) :=
  of_eq (by rw [sm_pairs _ (swap_mem zs a c h ha hc), sm_pairs _ h, swap_sum zs a c ha hc])

/-- Zeros behind, and all ones. -/
theorem of_zeros (l : List UInt8) (n : Nat) : of (l ++ List.replicate n 0) = of l :=
  of_eq (by rw [sm_up, sm_zeros]; rfl)
/-- Are all of them zeros? -/
def zeros (l : List UInt8) : Bool := l.all (· == 0)
theorem sm_pos (b : Bool) (l : List UInt8) (h : zeros l = false) : 0 < sm b l := by
  induction l generalizing b with
  | nil => simp [zeros] at h
  | cons a t ih =>
    by_cases e : a = 0
    · have := ih (!b) (by simpa [zeros, e] using h)
      cases b <;> simp [sm, e] <;> exact this
    · have : a.toNat ≠ 0 := fun h0 => e (UInt8.toNat_inj.1 (by simpa using h0))
      cases b <;> simp [sm] <;> omega
theorem of_ones (l : List UInt8) (he : l.length % 2 = 0) (h : zeros l = false) : of (l ++ [255, 255]) = of l := by
  have hp := sm_pos true l h
  have e : sm true (l ++ [255, 255]) = sm true l + 65535 := by
    rw [sm_up, ev_even he]; rfl
  unfold of
  rw [e]
  generalize sm true l = x at *
  unfold fo
  split <;> split <;> omega
theorem zeros_snoc (l : List UInt8) (a : UInt8) : zeros (l ++ [a]) = (zeros l && a == 0) := by simp [zeros]

end Go.Proofs.YtbbpemndkphgeaaDoor

/- The contract of the document's own Right of segments. Condition: the segment stands.
The contracts of headIn, of a head's segment, of filling and of optionsIn, for a right segment's bytes. Conditions: the slice holds bytes, the table of widths stands.
The laws' own example: a segment with nothing has 22 bytes. Condition: the table of widths stands.
Arguments that are options, or slices of options, as they are read as data. No condition.
A segment as an argument that is read as data. No condition. -/
import Derived.Test.YtbbpemndkphgeaaDoorMg9
import Derived.Test.YtbbpemndkphgeaaDoorMg15
import Derived.Test.YtbbpemndkphgeaaDoorMg10
import Derived.Test.YtbbpemndkphgeaaDoorMg13
import Derived.Test.YtbbpemndkphgeaaDoorMg7
import Derived.Test.YtbbpemndkphgeaaDoorMg2
import Derived.OpenShut
import Derived.Deep.Slices
import Derived.ChangeOld
import Derived.ProofKit
namespace Go.Proofs.YtbbpemndkphgeaaDoor
set_option linter.unusedVariables false
set_option linter.unusedSimpArgs false
open Go.RowKit

theorem right_all {s : Seg} (h : rightS s = true) : (0 ≤ s.src ∧ s.src ≤ 3) ∧ (0 ≤ s.dst ∧ s.dst ≤ 3) ∧ (0 ≤ s.sport ∧ s.sport ≤ 65535) ∧ (0 ≤ s.dport ∧ s.dport ≤ 65535) ∧ (0 ≤ s.win ∧ s.win ≤ 65535) ∧ s.on ≤ 4 ∧ s.dn ≤ 8 ∧ s.os.all rightB = true := by
  unfold rightS inB at h
  simp only [Bool.and_eq_true, decide_eq_true_eq, List.all_cons, List.all_nil, and_true] at h
  obtain ⟨⟨⟨⟨⟨h1, h2⟩, h3, h4, h5⟩, h6⟩, h7⟩, h8⟩ := h
  exact ⟨h1, h2, h3, h4, h5, h6, h7, h8⟩
theorem right_of {s : Seg} (h1 : 0 ≤ s.src ∧ s.src ≤ 3) (h2 : 0 ≤ s.dst ∧ s.dst ≤ 3) (h3 : 0 ≤ s.sport ∧ s.sport ≤ 65535) (h4 : 0 ≤ s.dport ∧ s.dport ≤ 65535) (h5 : 0 ≤ s.win ∧ s.win ≤ 65535) (h6 : s.on ≤ 4) (h7 : s.dn ≤ 8) : rightS s = s.os.all rightB := by
  unfold rightS inB
  simp [h1, h2, h3, h4, h5, h6, h7]
theorem right_no {s : Seg} (h : ¬ ((0 ≤ s.src ∧ s.src ≤ 3) ∧ (0 ≤ s.dst ∧ s.dst ≤ 3) ∧ (0 ≤ s.sport ∧ s.sport ≤ 65535) ∧ (0 ≤ s.dport ∧ s.dport ≤ 65535) ∧ (0 ≤ s.win ∧ s.win ≤ 65535) ∧ s.on ≤ 4 ∧ s.dn ≤ 8)) : rightS s = false := by
  cases hc : rightS s with
  | false => rfl
  | true =>
    obtain ⟨h1, h2, h3, h4, h5, h6, h7, _⟩ := right_all hc
    exact absurd ⟨h1, h2, h3, h4, h5, h6, h7⟩ h

set_option maxRecDepth 8000 in
set_option maxHeartbeats 6400000 in
theorem RSegRight_any (s : Seg) (w : World) (h : SG w s) :
    Calls Tryd.prog 11 #[.agg s.vals.toArray] w fun e w' => e = .returned (.bool (rightS s)) ∧ Below w.heap.size w w' := by
  have n1 := h.opts.max
  have n2 := h.opts.cap
  have n3 := h.data.max
  have n4 := h.data.cap
  have HOP := Lib.hid h.opts
  clear h
  by_cases c0 : s.src < 0
  · have HS : Hid (rightS s = false) := Lib.hid (right_no (by omega))
    go_enter Tryd.func11, Tryd.ntmps11
    go_upto_region 1 with (first
      | ((with_reducible refine wpList_here ?_); refine wpList_boxV (o := ⟨some 1, _, _, _, _, _⟩) rfl 26 (.tmp 0) rfl s.vals rfl _ rfl ?_; intro w1 z1 b1 s1; obtain ⟨k0, k1, k2, k3, k4, k5, k6, k7, k8, k9, k10, k11, k12⟩ := z1.cels))
    clear z1 s1 HOP
    go_wp2
    go_ret
    exact ⟨by rw [HS.out]; rfl, b1⟩
  have d0 : decide (s.src < 0) = false := decide_eq_false c0
  by_cases c1 : 3 < s.src
  · have HS : Hid (rightS s = false) := Lib.hid (right_no (by omega))
    go_enter Tryd.func11, Tryd.ntmps11
    go_upto_region 1 with (first
      | ((with_reducible refine wpList_here ?_); refine wpList_boxV (o := ⟨some 1, _, _, _, _, _⟩) rfl 26 (.tmp 0) rfl s.vals rfl _ rfl ?_; intro w1 z1 b1 s1; obtain ⟨k0, k1, k2, k3, k4, k5, k6, k7, k8, k9, k10, k11, k12⟩ := z1.cels))
    clear z1 s1 HOP
    go_wp2
    go_ret
    exact ⟨by rw [HS.out]; rfl, b1⟩
  have d1 : decide (3 < s.src) = false := decide_eq_false c1
  by_cases c2 : s.dst < 0
  · have HS : Hid (rightS s = false) := Lib.hid (right_no (by omega))
    go_enter Tryd.func11, Tryd.ntmps11
    go_upto_region 1 with (first
      | ((with_reducible refine wpList_here ?_); refine wpList_boxV (o := ⟨some 1, _, _, _, _, _⟩) rfl 26 (.tmp 0) rfl s.vals rfl _ rfl ?_; intro w1 z1 b1 s1; obtain ⟨k0, k1, k2, k3, k4, k5, k6, k7, k8, k9, k10, k11, k12⟩ := z1.cels))
    clear z1 s1 HOP
    go_wp2
    go_ret
    exact ⟨by rw [HS.out]; rfl, b1⟩
  have d2 : decide (s.dst < 0) = false := decide_eq_false c2
  by_cases c3 : 3 < s.dst
  · have HS : Hid (rightS s = false) := Lib.hid (right_no (by omega))
    go_enter Tryd.func11, Tryd.ntmps11
    go_upto_region 1 with (first
      | ((with_reducible refine wpList_here ?_); refine wpList_boxV (o := ⟨some 1, _, _, _, _, _⟩) rfl 26 (.tmp 0) rfl s.vals rfl _ rfl ?_; intro w1 z1 b1 s1; obtain ⟨k0, k1, k2, k3, k4, k5, k6, k7, k8, k9, k10, k11, k12⟩ := z1.cels))
    clear z1 s1 HOP
    go_wp2
    go_ret
    exact ⟨by rw [HS.out]; rfl, b1⟩
  have d3 : decide (3 < s.dst) = false := decide_eq_false c3
  by_cases c4 : s.sport < 0
  · have HS : Hid (rightS s = false) := Lib.hid (right_no (by omega))
    go_enter Tryd.func11, Tryd.ntmps11
    go_upto_region 1 with (first
      | ((with_reducible refine wpList_here ?_); refine wpList_boxV (o := ⟨some 1, _, _, _, _, _⟩) rfl 26 (.tmp 0) rfl s.vals rfl _ rfl ?_; intro w1 z1 b1 s1; obtain ⟨k0, k1, k2, k3, k4, k5, k6, k7, k8, k9, k10, k11, k12⟩ := z1.cels))
    clear z1 s1 HOP
    go_wp2
    go_ret
    exact ⟨by rw [HS.out]; rfl, b1⟩
  have d4 : decide (s.sport < 0) = false := decide_eq_false c4
  by_cases c5 : 65535 < s.sport
  · have HS : Hid (rightS s = false) := Lib.hid (right_no (by omega))
    go_enter Tryd.func11, Tryd.ntmps11
    go_upto_region 1 with (first
      | ((with_reducible refine wpList_here ?_); refine wpList_boxV (o := ⟨some 1, _, _, _, _, _⟩) rfl 26 (.tmp 0) rfl s.vals rfl _ rfl ?_; intro w1 z1 b1 s1; obtain ⟨k0, k1, k2, k3, k4, k5, k6, k7, k8, k9, k10, k11, k12⟩ := z1.cels))
    clear z1 s1 HOP
    go_wp2
    go_ret
    exact ⟨by rw [HS.out]; rfl, b1⟩
  have d5 : decide (65535 < s.sport) = false := decide_eq_false c5
  by_cases c6 : s.dport < 0
  · have HS : Hid (rightS s = false) := Lib.hid (right_no (by omega))
    go_enter Tryd.func11, Tryd.ntmps11
    go_upto_region 1 with (first
      | ((with_reducible refine wpList_here ?_); refine wpList_boxV (o := ⟨some 1, _, _, _, _, _⟩) rfl 26 (.tmp 0) rfl s.vals rfl _ rfl ?_; intro w1 z1 b1 s1; obtain ⟨k0, k1, k2, k3, k4, k5, k6, k7, k8, k9, k10, k11, k12⟩ := z1.cels))
    clear z1 s1 HOP
    go_wp2
    go_ret
    exact ⟨by rw [HS.out]; rfl, b1⟩
  have d6 : decide (s.dport < 0) = false := decide_eq_false c6
  by_cases c7 : 65535 < s.dport
  · have HS : Hid (rightS s = false) := Lib.hid (right_no (by omega))
    go_enter Tryd.func11, Tryd.ntmps11
    go_upto_region 1 with (first
      | ((with_reducible refine wpList_here ?_); refine wpList_boxV (o := ⟨some 1, _, _, _, _, _⟩) rfl 26 (.tmp 0) rfl s.vals rfl _ rfl ?_; intro w1 z1 b1 s1; obtain ⟨k0, k1, k2, k3, k4, k5, k6, k7, k8, k9, k10, k11, k12⟩ := z1.cels))
    clear z1 s1 HOP
    go_wp2
    go_ret
    exact ⟨by rw [HS.out]; rfl, b1⟩
  have d7 : decide (65535 < s.dport) = false := decide_eq_false c7
  by_cases c8 : s.win < 0
  · have HS : Hid (rightS s = false) := Lib.hid (right_no (by omega))
    go_enter Tryd.func11, Tryd.ntmps11
    go_upto_region 1 with (first
      | ((with_reducible refine wpList_here ?_); refine wpList_boxV (o := ⟨some 1, _, _, _, _, _⟩) rfl 26 (.tmp 0) rfl s.vals rfl _ rfl ?_; intro w1 z1 b1 s1; obtain ⟨k0, k1, k2, k3, k4, k5, k6, k7, k8, k9, k10, k11, k12⟩ := z1.cels))
    clear z1 s1 HOP
    go_wp2
    go_ret
    exact ⟨by rw [HS.out]; rfl, b1⟩
  have d8 : decide (s.win < 0) = false := decide_eq_false c8
  by_cases c9 : 65535 < s.win
  · have HS : Hid (rightS s = false) := Lib.hid (right_no (by omega))
    go_enter Tryd.func11, Tryd.ntmps11
    go_upto_region 1 with (first
      | ((with_reducible refine wpList_here ?_); refine wpList_boxV (o := ⟨some 1, _, _, _, _, _⟩) rfl 26 (.tmp 0) rfl s.vals rfl _ rfl ?_; intro w1 z1 b1 s1; obtain ⟨k0, k1, k2, k3, k4, k5, k6, k7, k8, k9, k10, k11, k12⟩ := z1.cels))
    clear z1 s1 HOP
    go_wp2
    go_ret
    exact ⟨by rw [HS.out]; rfl, b1⟩
  have d9 : decide (65535 < s.win) = false := decide_eq_false c9
  by_cases c10 : (4 : Int) < (s.on : Int)
  · have HS : Hid (rightS s = false) := Lib.hid (right_no (by omega))
    go_enter Tryd.func11, Tryd.ntmps11
    go_upto_region 1 with (first
      | ((with_reducible refine wpList_here ?_); refine wpList_boxV (o := ⟨some 1, _, _, _, _, _⟩) rfl 26 (.tmp 0) rfl s.vals rfl _ rfl ?_; intro w1 z1 b1 s1; obtain ⟨k0, k1, k2, k3, k4, k5, k6, k7, k8, k9, k10, k11, k12⟩ := z1.cels))
    clear z1 s1 HOP
    go_wp2
    go_ret
    exact ⟨by rw [HS.out]; rfl, b1⟩
  have d10 : decide ((4 : Int) < (s.on : Int)) = false := decide_eq_false c10
  by_cases c11 : (8 : Int) < (s.dn : Int)
  · have HS : Hid (rightS s = false) := Lib.hid (right_no (by omega))
    go_enter Tryd.func11, Tryd.ntmps11
    go_upto_region 1 with (first
      | ((with_reducible refine wpList_here ?_); refine wpList_boxV (o := ⟨some 1, _, _, _, _, _⟩) rfl 26 (.tmp 0) rfl s.vals rfl _ rfl ?_; intro w1 z1 b1 s1; obtain ⟨k0, k1, k2, k3, k4, k5, k6, k7, k8, k9, k10, k11, k12⟩ := z1.cels))
    clear z1 s1 HOP
    go_wp2
    go_ret
    exact ⟨by rw [HS.out]; rfl, b1⟩
  have d11 : decide ((8 : Int) < (s.dn : Int)) = false := decide_eq_false c11
  have HS := Lib.hid (right_of (s := s) (by omega) (by omega) (by omega) (by omega) (by omega) (by omega) (by omega))
  have HLN := Lib.hid HOP.out.len
  go_enter Tryd.func11, Tryd.ntmps11
  go_upto_region 1 with (first
    | ((with_reducible refine wpList_here ?_); refine wpList_boxV (o := ⟨some 1, _, _, _, _, _⟩) rfl 26 (.tmp 0) rfl s.vals rfl _ rfl ?_; intro w1 z1 b1 s1; obtain ⟨k0, k1, k2, k3, k4, k5, k6, k7, k8, k9, k10, k11, k12⟩ := z1.cels))
  clear s1
  go_wp2
  clear k0 k1 k2 k3 k4 k5 k6 k7 k8 k9 k10 k11 k12 c0 c1 c2 c3 c4 c5 c6 c7 c8 c9 c10 c11 d0 d1 d2 d3 d4 d5 d6 d7 d8 d9 d10 d11
  go_loopw [3] (fun i wr => ∃ j : Nat, j ≤ s.on ∧ i = .int .i64 j ∧ (s.os.take j).all rightB = true ∧ Own wr w.heap.size s.vals ∧ Below w.heap.size w wr) (fun i _ => s.on - (intOf i).toNat)
  case atStart => exact ⟨0, Nat.zero_le _, rfl, rfl, z1, b1⟩
  case round =>
    obtain ⟨j, hj, rfl, hall, hz, hb⟩ := hrel
    clear z1 b1
    have k11 := hz.cels.c11
    by_cases hlt : j < s.on
    · obtain ⟨b, a, e1, hc0⟩ := HOP.out.at_ hlt
      rw [e1] at k11
      have hc := range_below hc0 hb
      have hok := HOP.out.ok hlt
      have HT := Lib.hid (take_getD (os := s.os) (j := j) (by rw [HLN.out]; exact hlt))
      have HALL := Lib.hid hall
      clear hc0 hall e1
      generalize s.os.getD j (zK 0) = x at *
      have HR := Lib.hid (fun W => rRight_any x W hok)
      rw [← right_eq x hok] at HR
      go_wp2_with (first
        | ((with_reducible refine wpList_here ?_); refine wpList_loadV (o := ⟨some 73, _, _, _, _, _⟩) rfl 52 (.tmp 72) rfl b _ x.vals rfl hc _ Tryd.underlying52 rfl infoOpt ?_))
      refine (HR.out _).mono ?_
      rintro e w3 ⟨rfl, b3⟩
      have z3 := hz.below b3
      have b4 := below_trans hb b3
      cases hx : rightB x with
      | false =>
        have HA : Hid (s.os.all rightB = false) := Lib.hid (by
          cases hc : s.os.all rightB with
          | false => rfl
          | true =>
            exfalso
            have h5 : (s.os.take (j + 1)).all rightB = true := List.all_eq_true.2 fun y hy => List.all_eq_true.1 hc y (List.mem_of_mem_take hy)
            rw [HT.out, List.all_append, Bool.and_eq_true] at h5
            have := h5.2
            simp [hx] at this)
        clear hx
        go_wp2_with fail
        go_ret
        exact ⟨by rw [HS.out, HA.out]; rfl, b4⟩
      | true =>
        have HALL2 : Hid ((s.os.take (j + 1)).all rightB = true) := Lib.hid (by rw [HT.out, List.all_append, HALL.out]; simp [hx])
        clear hx
        go_wp2_with fail
        go_roundw
        case rel => exact ⟨j + 1, by omega, by go_num, HALL2.out, z3, b4⟩
        case measure => simp [intOf]; omega
    · obtain rfl : j = s.on := by omega
      rw [List.take_of_length_le (by rw [HLN.out]; exact Nat.le_refl _)] at hall
      have HALL := Lib.hid hall
      clear hall
      go_wp2_with fail
      go_ret
      exact ⟨by rw [HS.out, HALL.out]; rfl, hb⟩
end Go.Proofs.YtbbpemndkphgeaaDoor

namespace Go.Proofs.YtbbpemndkphgeaaDoor
set_option linter.unusedVariables false
set_option linter.unusedSimpArgs false
open Go.RowKit

/-- A row stored onto another one that holds no byte: all bytes stay. -/
theorem wpList_storeB {P : Program} {ops : Array Oper} {rest : List Oper} {o : Oper} {a : Act} {w : World} {Q : Exit → Act → World → Prop} (hgd : Region.wanted o (yielded ops a.tmps) = true) (ty : TypeId) (x y : Operand) (ho : o.op = .store ty x y) (b : Nat) (us vs : List Value) (hx : a.eval x = .pointer (some ⟨b, 0, none⟩)) (hy : a.eval y = .agg vs.toArray) (hA : Own w b us)
    (hl : vs.length = us.length) (h1 : ∀ u ∈ vs, u.oneCell' = true) (hno : ∀ u ∈ us, ∀ z, u ≠ .int .u8 z) (hi : (P.info? ty).map (·.size) = some vs.length)
    (h : ∀ w', Own w' b vs → w.grownBy w' (some b) → Bytes8 w w' → wpList P ops Q rest (a.put o.dst undef) w') : wpList P ops Q (o :: rest) a w := by
  refine wpList_want hgd fun _ hK => wp_store_mid ty x y ho b 0 vs.toArray hx hy (by rw [List.size_toArray, hl]; exact hA.there) (by simpa using hi) (all_oneCell_toArray h1) (hK _ _ (h _ (hA.put hl) (v_g_setCells b _ 0 w) fun p z hp => ?_))
  rw [World.cell?_setCells_out b vs 0 w p ?_]
  · exact hp
  · intro h1 h2
    rw [Nat.zero_add]
    refine Or.inr (Nat.le_of_not_lt fun h3 => ?_)
    obtain ⟨pb, po, ps⟩ := p
    simp only at h1 h2 h3
    subst h1 h2
    have h4 : po < us.length := by omega
    rw [(hA po h4).1, List.getElem?_eq_getElem h4] at hp
    injection hp with hp
    exact hno _ (List.getElem_mem h4) z hp
theorem hv_no8 (l : List Nat) : ∀ u ∈ hv l, ∀ z, u ≠ .int .u8 z := by
  intro u hu z e
  obtain ⟨x, _, rfl⟩ := List.mem_map.1 hu
  cases e
theorem sv_no8 (s : Seg) : ∀ u ∈ s.vals, ∀ z, u ≠ .int .u8 z := by
  intro u hu z e
  simp only [Seg.vals, List.mem_cons, List.not_mem_nil, or_false] at hu
  rcases hu with rfl | rfl | rfl | rfl | rfl | rfl | rfl | rfl | rfl | rfl | rfl | rfl | rfl <;> cases e
theorem bytes_set {w : World} {p : Addr} {u : Value} (v : Value) (h : w.cell? p = some u) (hu : ∀ z, u ≠ .int .u8 z) : Bytes8 w (w.setCell p v) := fun q z hq => by
  by_cases hpe : q = p
  · subst hpe
    rw [h] at hq
    injection hq with hq
    exact absurd hq (hu z)
  · rw [World.cell?_setCell_other w _ _ _ (fun e => hpe e.symm)]
    exact hq

/-- The first k numbers that bytes tell, and zeros behind them. -/
def hin (bs : List UInt8) (k : Nat) : List Nat := (List.range 10).map fun i => if i < k then num ((bs.drop (off i)).take (wd i)) else 0
theorem hin_length (bs : List UInt8) (k : Nat) : (hin bs k).length = 10 := by simp [hin]
theorem hin_zero (bs : List UInt8) : hin bs 0 = [0, 0, 0, 0, 0, 0, 0, 0, 0, 0] := rfl
theorem hin_step (bs : List UInt8) (k : Nat) : (hin bs k).set k (num ((bs.drop (off k)).take (wd k))) = hin bs (k + 1) := by
  apply List.ext_getElem?
  intro i
  unfold hin
  by_cases hi : i < 10
  · by_cases hk : k = i
    · subst hk
      rw [List.getElem?_set_self (by simp; exact hi)]
      simp [hi]
    · rw [List.getElem?_set_ne hk]
      simp only [List.getElem?_map]
      rw [List.getElem?_range hi]
      simp only [Option.map_some]
      congr 1
      by_cases h1 : i < k
      · rw [if_pos h1, if_pos (by omega)]
      · rw [if_neg h1, if_neg (by omega)]
  · rw [List.getElem?_eq_none (by simp; omega), List.getElem?_eq_none (by simp; omega)]
theorem num64 {l : List UInt8} (h : l.length ≤ 8) : num l < 18446744073709551616 := by
  have h1 := num_lt l
  have h2 : 256 ^ l.length ≤ 256 ^ 8 := Nat.pow_le_pow_right (by decide) h
  have h3 : (256 : Nat) ^ 8 = 18446744073709551616 := by decide
  omega
/-- The table as a row. -/
def wv : List Value := (List.range 10).map fun i => .int .i64 (wd i : Int)
theorem wv_at {k : Nat} (h : k < 10) : wv[k]? = some (.int .i64 (wd k : Int)) := by simp [wv, h]
theorem Tab.range {w : World} (h : Tab w) : w.rangeAt 0 0 wv := fun j v hv => by
  have hj : j < 10 := by have := (List.getElem?_eq_some_iff.1 hv).1; simpa [wv] using this
  rw [Nat.zero_add, h j hj, ← wv_at hj, hv]
theorem infoWide : (Tryd.prog.info? 69).map (·.size) = some wv.length := by kernel_rfl

set_option maxRecDepth 8000 in
set_option maxHeartbeats 3200000 in
theorem headIn_ok (A : Option Addr) (n c : Nat) (bs : List UInt8) (w : World) (h : RB w A n c bs) (hn : 19 ≤ n) (hn2 : n ≤ 1073741824) (hT : Tab w) :
    Calls Tryd.prog 28 #[.slice A n c] w fun e w' => ∃ A2 c2, e = .returned (.tuple #[.agg (hv (hin bs 10)).toArray, .slice A2 (n - 19) c2, .int .i64 0]) ∧ RB w' A2 (n - 19) c2 (bs.drop 19) ∧ Below w.heap.size w w' := by
  have HLB := Lib.hid h.len
  have hi10 : (Tryd.prog.info? 46).map (·.size) = some (hv (hin bs 10)).length := by rw [hv_length, hin_length]; exact infoHead
  have HI := Lib.hid hi10
  clear hi10
  go_enter Tryd.func28, Tryd.ntmps28
  go_wp2_with (first
    | ((with_reducible refine wpList_here ?_); refine wpList_allocV (o := ⟨some 2, _, _, _, _, _⟩) rfl 46 rfl _ zeroHead _ rfl ?_; intro w1 z1 b1 s1)
    | ((with_reducible refine wpList_here ?_); refine wpList_allocV (o := ⟨some 5, _, _, _, _, _⟩) rfl 46 rfl _ zeroHead _ s1 ?_; intro w2 z2 b2 s2; have T2 := (hT.below b1).below b2)
    | ((with_reducible refine wpList_here ?_); refine wpList_loadV (o := ⟨some 11, _, _, _, _, _⟩) rfl 69 (.global 0) rfl _ _ wv rfl T2.range _ Tryd.underlying69 rfl infoWide ?_))
  have y2 := z1.below b2
  have b3 := below_trans b1 b2
  have r3 := h.below b3
  clear z1 b1 s1 b2 T2 h
  go_loopw [0, 12] (fun v i wr => ∃ (k : Nat) (B : Option Addr) (d : Nat), k ≤ 10 ∧ i = .int .i64 k ∧ v = .slice B (n - off k) d ∧ RB wr B (n - off k) d (bs.drop (off k)) ∧ Own wr (w.heap.size + 1) (hv (hin bs k)) ∧ Own wr w.heap.size (hv [0, 0, 0, 0, 0, 0, 0, 0, 0, 0]) ∧ Below w.heap.size w wr) (fun _ i _ => 10 - (intOf i).toNat)
  case atStart => exact ⟨0, A, c, Nat.zero_le _, rfl, rfl, r3, z2, y2, b3⟩
  case round =>
    obtain ⟨k, B, d, hk, rfl, rfl, hr, hz, hy, hb⟩ := hrel
    clear y2 b3 r3 z2 s2
    by_cases hlt : k < 10
    · have hlt' : (k : Int) < 10 := by omega
      have hin' := fun W => run_index_row W 69 3 10 wv.toArray (k : Int) (.int .i64 (wd k : Int)) Tryd.underlying69 szInt aggInt (by omega) hlt' (by rw [List.getElem?_toArray]; exact wv_at hlt)
      have hoff := off_step hlt
      have hwn := wn_wd hlt
      have HTK : Hid (∀ W, RB W B (n - off k) d (bs.drop (off k)) → Calls Tryd.prog 47 #[.slice B (n - off k) d, .int .i64 (wd k : Int)] W (TakeMade W (num ((bs.drop (off k)).take (wd k))) (n - off (k + 1)) (bs.drop (off (k + 1))))) := Lib.hid (fun W hW => by
        have h1 := Take_ok B (n - off k) d (wd k : Int) (bs.drop (off k)) W hW (by rw [hwn]; omega) (by omega)
        rw [hwn, List.drop_drop, show off k + wd k = off (k + 1) from hoff.1.symm, show n - off k - wd k = n - off (k + 1) from by omega] at h1
        exact h1)
      have HST := Lib.hid (hin_step bs k)
      have hx : num ((bs.drop (off k)).take (wd k)) < 18446744073709551616 := num64 (by have h1 := List.length_take_le (wd k) (bs.drop (off k)); have h2 := hoff.2.2.1; omega)
      clear hwn
      generalize num ((bs.drop (off k)).take (wd k)) = x at *
      have hlen : k < (hv (hin bs k)).length := by rw [hv_length, hin_length]; exact hlt
      have HLEN := Lib.hid hlen
      clear hlen hoff
      generalize hw : wd k = ww at *
      clear hw
      go_wp2_with fail
      refine (HTK.out _ hr).mono ?_
      rintro e w4 ⟨B4, d4, rfl, r4, b4⟩
      have z4 := hz.below b4
      have y4 := hy.below b4
      have b5 := below_trans hb b4
      have hc4 : w4.cell? ⟨w.heap.size + 1, k, none⟩ = some (.int .u64 (((hin bs k).getD k 0 : Nat) : Int)) := by
        rw [(z4 k HLEN.out).1]
        exact hv_at (by rw [hin_length]; exact hlt)
      have hf4 := (z4 k HLEN.out).2
      have z5 := z4.set k HLEN.out (.int .u64 (x : Int))
      rw [hv_set, HST.out] at z5
      have Z5 := Lib.hid z5
      have y5 := y4.far (v_g_set w4 (w.heap.size + 1) k (.int .u64 (x : Int))) (by intro e; injection e with e; omega)
      have Y5 := Lib.hid y5
      have B5 := Lib.hid (b5.setCell (p := ⟨w.heap.size + 1, k, none⟩) (by simp) (.int .u64 (x : Int)))
      have R5 : Hid (RB (w4.setCell ⟨w.heap.size + 1, k, none⟩ (.int .u64 (x : Int))) B4 (n - off (k + 1)) d4 (bs.drop (off (k + 1)))) := Lib.hid (r4.bytes (fun p z hp => by
        by_cases hpe : p = ⟨w.heap.size + 1, k, none⟩
        · subst hpe
          rw [hc4] at hp
          cases hp
        · rw [World.cell?_setCell_other w4 _ _ _ (fun e => hpe e.symm)]
          exact hp))
      clear hr hz hy hb r4 b4 z4 y4 b5 z5 y5 hin' HST hx
      generalize (hin bs k).getD k 0 = q at *
      go_wp2_with fail
      go_roundw
      case rel => exact ⟨k + 1, B4, d4, by omega, by go_num, rfl, R5.out, Z5.out, Y5.out, B5.out⟩
      case measure => simp [intOf]; omega
    · obtain rfl : k = 10 := by omega
      go_wp2_with (first
        | ((with_reducible refine wpList_here ?_); refine wpList_loadV (o := ⟨some 32, _, _, _, _, _⟩) rfl 46 (.tmp 5) rfl _ _ (hv (hin bs 10)) rfl hz.range _ Tryd.underlying46 rfl HI.out ?_)
        | ((with_reducible refine wpList_here ?_); refine wpList_storeB rfl 46 (.tmp 2) (.tmp 32) rfl _ _ (hv (hin bs 10)) rfl rfl hy (by rw [hv_length, hv_length, hin_length]; rfl) (hv_one _) (hv_no8 _) HI.out ?_; intro w5 z5 g5 s5))
      have b5 := v_below_g hb g5 hb.size (Nat.le_refl _)
      have r5 := hr.bytes s5
      exact bodyPost_ret (results_c2 rfl _ _ w.heap.size (hv (hin bs 10)) (.slice B (n - 19) d) (.int .i64 0) _ rfl rfl rfl z5.range Tryd.underlying46 rfl HI.out) rfl ⟨B, d, rfl, r5, b5⟩
end Go.Proofs.YtbbpemndkphgeaaDoor

namespace Go.Proofs.YtbbpemndkphgeaaDoor
set_option linter.unusedVariables false
set_option linter.unusedSimpArgs false
open Go.RowKit

set_option maxRecDepth 8000 in
set_option maxHeartbeats 1600000 in
theorem swakes_any (w : World) (hT : Tab w) : Calls Tryd.prog 7 #[] w (Yes w) := by
  have HL : Hid ((sbs zS).length = 22) := Lib.hid (by rw [sbs_length (zS_ok w)]; rfl)
  have HP := Lib.hid (fun W hW => SegPut_any zS W (zS_ok W) hW)
  go_enter Tryd.func7, Tryd.ntmps7
  go_wp2_with fail
  refine (HP.out _ hT).mono ?_
  rintro e w1 ⟨p1, _, b1⟩
  rw [HL.out] at p1
  obtain ⟨A, c, rfl, _, _⟩ := p1 rfl
  go_wp2_with fail
  go_ret
  exact ⟨rfl, b1⟩
end Go.Proofs.YtbbpemndkphgeaaDoor

namespace Go.Proofs.YtbbpemndkphgeaaDoor
set_option linter.unusedVariables false
set_option linter.unusedSimpArgs false
open Go.RowKit Go.ChangeShapes Go.WideShapes Go.Deep

section
variable {H : Type} {enc : TypeId × Value → H} {w : World} {base : Nat} {spare : Nat → Bool} {held : Bool}
theorem isInt_of {x : Int} (h : (Lit.int .i64 x).wf = true) : isInt x := Go.bounds_i64 h
set_option maxRecDepth 8000 in
/-- The cells that are read as an option are an option's. -/
theorem opt_of_trod {fuel : Nat} {cs : List Value} {x : DataW H × List MemPlace} (hl : cs.length = 14) (h : DataW.trod enc Tryd.prog w base spare held fuel 52 cs = some x) : ∃ o : Opt, o.ok ∧ cs = o.vals := by
  obtain ⟨xs, n, _, _, _, hlen, hg⟩ := DataW.trod_struct Tryd.underlying52 h
  have get : ∀ (i : Nat), i < 14 → ∃ y, xs[i]? = some y := fun i hi => ⟨_, List.getElem?_eq_getElem (by rw [hlen]; exact hi)⟩
  match cs, hl with
  | [c0, c1, c2, c3, c4, c5, c6, c7, c8, c9, c10, c11, c12, c13], _ =>
    obtain ⟨y0, e0⟩ := get 0 (by omega)
    have g0 := hg 0 _ rfl
    rw [e0] at g0
    obtain ⟨a0, q0, _, f0⟩ := DataW.trod_int Tryd.underlying3 g0
    obtain rfl : c0 = .int .i64 a0 := by have q : [c0] = _ := q0; injection q
    obtain ⟨y1, e1⟩ := get 1 (by omega)
    have g1 := hg 1 _ rfl
    rw [e1] at g1
    obtain ⟨a1, q1, _, f1⟩ := DataW.trod_int Tryd.underlying44 g1
    obtain rfl : c1 = .int .u64 a1 := by have q : [c1] = _ := q1; injection q
    obtain ⟨y2, e2⟩ := get 2 (by omega)
    have g2 := hg 2 _ rfl
    rw [e2] at g2
    obtain ⟨a2, q2, _, f2⟩ := DataW.trod_int Tryd.underlying44 g2
    obtain rfl : c2 = .int .u64 a2 := by have q : [c2] = _ := q2; injection q
    obtain ⟨y3, e3⟩ := get 3 (by omega)
    have g3 := hg 3 _ rfl
    rw [e3] at g3
    obtain ⟨a3, q3, _, f3⟩ := DataW.trod_int Tryd.underlying22 g3
    obtain rfl : c3 = .int .u32 a3 := by have q : [c3] = _ := q3; injection q
    obtain ⟨y4, e4⟩ := get 4 (by omega)
    have g4 := hg 4 _ rfl
    rw [e4] at g4
    obtain ⟨a4, q4, _, f4⟩ := DataW.trod_int Tryd.underlying22 g4
    obtain rfl : c4 = .int .u32 a4 := by have q : [c4] = _ := q4; injection q
    obtain ⟨y5, e5⟩ := get 5 (by omega)
    have g5 := hg 5 _ rfl
    rw [e5] at g5
    obtain ⟨a5, q5, _, f5⟩ := DataW.trod_int Tryd.underlying3 g5
    obtain rfl : c5 = .int .i64 a5 := by have q : [c5] = _ := q5; injection q
    obtain ⟨y6, e6⟩ := get 6 (by omega)
    have g6 := hg 6 _ rfl
    rw [e6] at g6
    obtain ⟨a6, q6, _, f6⟩ := DataW.trod_int Tryd.underlying3 g6
    obtain rfl : c6 = .int .i64 a6 := by have q : [c6] = _ := q6; injection q
    obtain ⟨y7, e7⟩ := get 7 (by omega)
    have g7 := hg 7 _ rfl
    rw [e7] at g7
    obtain ⟨a7, q7, _⟩ := DataW.trod_bool Tryd.underlying4 g7
    obtain rfl : c7 = .bool a7 := by have q : [c7] = _ := q7; injection q
    obtain ⟨y8, e8⟩ := get 8 (by omega)
    have g8 := hg 8 _ rfl
    rw [e8] at g8
    obtain ⟨a8, q8, _⟩ := DataW.trod_bool Tryd.underlying4 g8
    obtain rfl : c8 = .bool a8 := by have q : [c8] = _ := q8; injection q
    obtain ⟨y9, e9⟩ := get 9 (by omega)
    have g9 := hg 9 _ rfl
    rw [e9] at g9
    obtain ⟨a9, q9, _, f9⟩ := DataW.trod_int Tryd.underlying3 g9
    obtain rfl : c9 = .int .i64 a9 := by have q : [c9] = _ := q9; injection q
    obtain ⟨y10, e10⟩ := get 10 (by omega)
    have g10 := hg 10 _ rfl
    rw [e10] at g10
    obtain ⟨a10, q10, _⟩ := DataW.trod_bool Tryd.underlying4 g10
    obtain rfl : c10 = .bool a10 := by have q : [c10] = _ := q10; injection q
    obtain ⟨y11, e11⟩ := get 11 (by omega)
    have g11 := hg 11 _ rfl
    rw [e11] at g11
    obtain ⟨a11, q11, _, f11⟩ := DataW.trod_int Tryd.underlying3 g11
    obtain rfl : c11 = .int .i64 a11 := by have q : [c11] = _ := q11; injection q
    obtain ⟨y12, e12⟩ := get 12 (by omega)
    have g12 := hg 12 _ rfl
    rw [e12] at g12
    obtain ⟨a12, q12, _, f12⟩ := DataW.trod_int Tryd.underlying3 g12
    obtain rfl : c12 = .int .i64 a12 := by have q : [c12] = _ := q12; injection q
    obtain ⟨y13, e13⟩ := get 13 (by omega)
    have g13 := hg 13 _ rfl
    rw [e13] at g13
    obtain ⟨a13, q13, _⟩ := DataW.trod_bool Tryd.underlying4 g13
    obtain rfl : c13 = .bool a13 := by have q : [c13] = _ := q13; injection q
    obtain ⟨k1, rfl⟩ := Int.eq_ofNat_of_zero_le (Go.bounds_u64 f1).1
    obtain ⟨k2, rfl⟩ := Int.eq_ofNat_of_zero_le (Go.bounds_u64 f2).1
    obtain ⟨k3, rfl⟩ := Int.eq_ofNat_of_zero_le (Go.bounds_u32 f3).1
    obtain ⟨k4, rfl⟩ := Int.eq_ofNat_of_zero_le (Go.bounds_u32 f4).1
    have h1 := (Go.bounds_u64 f1).2
    have h2 := (Go.bounds_u64 f2).2
    have h3 := (Go.bounds_u32 f3).2
    have h4 := (Go.bounds_u32 f4).2
    have m1 : k1 < 18446744073709551616 := by omega
    have m2 : k2 < 18446744073709551616 := by omega
    have m3 : k3 < 4294967296 := by omega
    have m4 : k4 < 4294967296 := by omega
    exact ⟨⟨a0, k1, k2, k3, k4, a5, a6, a7, a8, a9, a10, a11, a12, a13⟩, ⟨isInt_of f0, m1, m2, m3, m4, isInt_of f5, isInt_of f6, isInt_of f9, isInt_of f11, isInt_of f12⟩, rfl⟩
/-- A slice that is read holds options. -/
theorem opts_of_trod {fuel : Nat} {A : Option Addr} {n c : Nat} {x : DataW H × List MemPlace} (h : DataW.trod enc Tryd.prog w base (fun _ => true) held fuel 23 [.slice A n c] = some x) : ∃ os, OS w A n c os := by
  rcases open_slice Tryd.underlying23 h with ⟨hcs, _⟩ | ⟨a, len, cap, m, k, D, Pl, hcs, _, hl, hm, hmm, _, hi⟩
  · simp at hcs
    obtain ⟨rfl, rfl, rfl⟩ := hcs
    exact ⟨[], rfl, Nat.le_refl _, Nat.zero_le _, by simp, fun h => absurd h (by omega)⟩
  · simp at hcs
    obtain ⟨rfl, rfl, rfl⟩ := hcs
    have hm' : m = c := by simpa using hmm
    subst hm'
    have hC : Tryd.prog.cellsOf 52 = 14 := by kernel_rfl
    rw [hC] at hi
    have hx : ∀ i, ∃ o : Opt, i < n → o.ok ∧ ∀ j, j < 14 → w.cell? ((a.add (i * 14)).add j) = o.vals[j]? := fun i => by
      by_cases hin : i < n
      · obtain ⟨cs', hc, ht⟩ := hi i (by omega)
        obtain ⟨_, hcl, hat⟩ := World.cells?_some hc
        obtain ⟨o, ho, rfl⟩ := opt_of_trod hcl ht
        exact ⟨o, fun _ => ⟨ho, fun j hj => hat j hj⟩⟩
      · exact ⟨zK 0, fun h => absurd h hin⟩
    obtain ⟨f, hf⟩ := Classical.axiomOfChoice hx
    refine ⟨(List.range n).map f, by simp, hl, hm, fun o ho => ?_, fun hn => ?_⟩
    · obtain ⟨i, hi', rfl⟩ := List.mem_map.1 ho
      exact (hf i (List.mem_range.1 hi')).1
    · obtain ⟨b, o, s⟩ := a
      have h0 := (hf 0 hn).2 0 (by omega)
      have hs : s = none := by
        have := World.cell?_spot (h0.trans (List.getElem?_eq_getElem (by rw [Opt.vals_length]; omega)))
        simpa [Addr.add] using this
      subst hs
      refine ⟨b, o, rfl, fun j hj i v hv => ?_⟩
      have hi14 : i < 14 := (List.getElem?_eq_some_iff.1 hv).1
      have := (hf j hj).2 i hi14
      rw [Addr.add_lit, Addr.add_lit] at this
      rw [this]
      have e : ((List.range n).map f).getD j (zK 0) = f j := by simp [hj]
      rw [e] at hv
      exact hv
end
end Go.Proofs.YtbbpemndkphgeaaDoor

namespace Go.Proofs.YtbbpemndkphgeaaDoor
set_option linter.unusedVariables false
set_option linter.unusedSimpArgs false
open Go.RowKit Go.ChangeShapes Go.WideShapes Go.Deep

section
variable {H : Type} {enc : TypeId × Value → H} {w : World} {base : Nat} {held : Bool}
theorem opts_cell {fuel : Nat} {v : Value} {x : DataW H × List MemPlace} (h : DataW.trod enc Tryd.prog w base (fun _ => true) held fuel 23 [v] = some x) : ∃ A n c os, v = .slice A n c ∧ OS w A n c os := by
  have hv : ∃ A n c, v = .slice A n c := by
    rcases open_slice Tryd.underlying23 h with ⟨hcs, _⟩ | ⟨a, len, cap, m, k, D, Pl, hcs, _⟩
    · simp at hcs
      exact ⟨_, _, _, hcs⟩
    · simp at hcs
      exact ⟨_, _, _, hcs⟩
  obtain ⟨A, n, c, rfl⟩ := hv
  obtain ⟨os, ho⟩ := opts_of_trod h
  exact ⟨A, n, c, os, rfl, ho⟩
theorem bytes_cell {fuel : Nat} {v : Value} {x : DataW H × List MemPlace} (h : DataW.trod enc Tryd.prog w base (fun _ => true) held fuel 24 [v] = some x) : ∃ A n c l, v = .slice A n c ∧ RB w A n c l := by
  rcases open_ints Tryd.underlying24 Tryd.underlying5 (by kernel_rfl) h with ⟨hcs, _⟩ | ⟨x, l, c, zs, hcs, _, hl, hm, hz, _, hcell, hwz⟩
  · simp at hcs
    subst hcs
    obtain ⟨l, hr⟩ := RB.of_row (w := w) (a := none) (len := 0) (cap := 0) (zs := []) (.inl ⟨rfl, rfl, rfl, rfl⟩)
    exact ⟨_, _, _, l, rfl, hr⟩
  · simp at hcs
    subst hcs
    obtain ⟨l, hr⟩ := RB.of_row (w := w) (zs := zs) (.inr ⟨_, rfl, hl, hm, by simpa using hz, hcell, hwz⟩)
    exact ⟨_, _, _, l, rfl, hr⟩
set_option maxRecDepth 8000 in
/-- The cells that are read as a segment are a segment's. -/
theorem seg_of_trod {fuel : Nat} {cs : List Value} {x : DataW H × List MemPlace} (hl : cs.length = 13) (h : DataW.trod enc Tryd.prog w base (fun _ => true) held fuel 26 cs = some x) : ∃ s : Seg, SG w s ∧ cs = s.vals := by
  obtain ⟨xs, n, _, _, _, hlen, hg⟩ := DataW.trod_struct Tryd.underlying26 h
  have get : ∀ (i : Nat), i < 13 → ∃ y, xs[i]? = some y := fun i hi => ⟨_, List.getElem?_eq_getElem (by rw [hlen]; exact hi)⟩
  match cs, hl with
  | [c0, c1, c2, c3, c4, c5, c6, c7, c8, c9, c10, c11, c12], _ =>
    obtain ⟨y0, e0⟩ := get 0 (by omega)
    have g0 := hg 0 _ rfl
    rw [e0] at g0
    obtain ⟨a0, q0, _, f0⟩ := DataW.trod_int Tryd.underlying3 g0
    obtain rfl : c0 = .int .i64 a0 := by have q : [c0] = _ := q0; injection q
    obtain ⟨y1, e1⟩ := get 1 (by omega)
    have g1 := hg 1 _ rfl
    rw [e1] at g1
    obtain ⟨a1, q1, _, f1⟩ := DataW.trod_int Tryd.underlying3 g1
    obtain rfl : c1 = .int .i64 a1 := by have q : [c1] = _ := q1; injection q
    obtain ⟨y2, e2⟩ := get 2 (by omega)
    have g2 := hg 2 _ rfl
    rw [e2] at g2
    obtain ⟨a2, q2, _, f2⟩ := DataW.trod_int Tryd.underlying3 g2
    obtain rfl : c2 = .int .i64 a2 := by have q : [c2] = _ := q2; injection q
    obtain ⟨y3, e3⟩ := get 3 (by omega)
    have g3 := hg 3 _ rfl
    rw [e3] at g3
    obtain ⟨a3, q3, _, f3⟩ := DataW.trod_int Tryd.underlying3 g3
    obtain rfl : c3 = .int .i64 a3 := by have q : [c3] = _ := q3; injection q
    obtain ⟨y4, e4⟩ := get 4 (by omega)
    have g4 := hg 4 _ rfl
    rw [e4] at g4
    obtain ⟨a4, q4, _, f4⟩ := DataW.trod_int Tryd.underlying22 g4
    obtain rfl : c4 = .int .u32 a4 := by have q : [c4] = _ := q4; injection q
    obtain ⟨y5, e5⟩ := get 5 (by omega)
    have g5 := hg 5 _ rfl
    rw [e5] at g5
    obtain ⟨a5, q5, _, f5⟩ := DataW.trod_int Tryd.underlying22 g5
    obtain rfl : c5 = .int .u32 a5 := by have q : [c5] = _ := q5; injection q
    obtain ⟨y6, e6⟩ := get 6 (by omega)
    have g6 := hg 6 _ rfl
    rw [e6] at g6
    obtain ⟨a6, q6, _⟩ := DataW.trod_bool Tryd.underlying4 g6
    obtain rfl : c6 = .bool a6 := by have q : [c6] = _ := q6; injection q
    obtain ⟨y7, e7⟩ := get 7 (by omega)
    have g7 := hg 7 _ rfl
    rw [e7] at g7
    obtain ⟨a7, q7, _⟩ := DataW.trod_bool Tryd.underlying4 g7
    obtain rfl : c7 = .bool a7 := by have q : [c7] = _ := q7; injection q
    obtain ⟨y8, e8⟩ := get 8 (by omega)
    have g8 := hg 8 _ rfl
    rw [e8] at g8
    obtain ⟨a8, q8, _⟩ := DataW.trod_bool Tryd.underlying4 g8
    obtain rfl : c8 = .bool a8 := by have q : [c8] = _ := q8; injection q
    obtain ⟨y9, e9⟩ := get 9 (by omega)
    have g9 := hg 9 _ rfl
    rw [e9] at g9
    obtain ⟨a9, q9, _⟩ := DataW.trod_bool Tryd.underlying4 g9
    obtain rfl : c9 = .bool a9 := by have q : [c9] = _ := q9; injection q
    obtain ⟨y10, e10⟩ := get 10 (by omega)
    have g10 := hg 10 _ rfl
    rw [e10] at g10
    obtain ⟨a10, q10, _, f10⟩ := DataW.trod_int Tryd.underlying3 g10
    obtain rfl : c10 = .int .i64 a10 := by have q : [c10] = _ := q10; injection q
    obtain ⟨y11, e11⟩ := get 11 (by omega)
    have g11 := hg 11 _ rfl
    rw [e11] at g11
    obtain ⟨oA, on, oc, os, rfl, hos⟩ := opts_cell (v := c11) g11
    obtain ⟨y12, e12⟩ := get 12 (by omega)
    have g12 := hg 12 _ rfl
    rw [e12] at g12
    obtain ⟨dA, dn, dc, ds, rfl, hds⟩ := bytes_cell (v := c12) g12
    obtain ⟨k4, rfl⟩ := Int.eq_ofNat_of_zero_le (Go.bounds_u32 f4).1
    obtain ⟨k5, rfl⟩ := Int.eq_ofNat_of_zero_le (Go.bounds_u32 f5).1
    have h4 := (Go.bounds_u32 f4).2
    have h5 := (Go.bounds_u32 f5).2
    have m4 : k4 < 4294967296 := by omega
    have m5 : k5 < 4294967296 := by omega
    exact ⟨⟨a0, a1, a2, a3, k4, k5, a6, a7, a8, a9, a10, oA, on, oc, dA, dn, dc, os, ds⟩, ⟨isInt_of f0, isInt_of f1, isInt_of f2, isInt_of f3, m4, m5, isInt_of f10, hos, hds⟩, rfl⟩
end
end Go.Proofs.YtbbpemndkphgeaaDoor

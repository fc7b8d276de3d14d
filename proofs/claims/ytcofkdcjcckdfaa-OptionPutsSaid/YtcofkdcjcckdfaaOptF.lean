/- The contract of option.Find: of any options the first one of a kind is answered, or none. Condition: the slice holds options. -/
import Derived.Test.YtcofkdcjcckdfaaOptA
namespace Go.Proofs.Ytcofkdcjcckdfaa
set_option linter.unusedVariables false
set_option linter.unusedSimpArgs false
open Go.RowKit

/-- An array or struct that a call answers out of its own block, and one or two values beside it. -/
theorem results_c1 {P : Program} {fn : Func} {p q : Tmp} {ty : TypeId} (h : fn.results = #[.cell p ty, .tmp q]) (tmps : Array Value) (w : World) (g : Nat) (cs : List Value) (v : Value) (d : TypeDesc)
    (hp : tmps.getD p undef = .pointer (some ⟨g, 0, none⟩)) (hq : tmps.getD q undef = v) (hc : w.rangeAt g 0 cs) (hu : P.underlying ty = some d) (hd : d.isRow = true) (hi : (P.info? ty).map (·.size) = some cs.length) :
    (results fn tmps).run P w = .ok (.tuple #[.agg cs.toArray, v]) w := by
  have hp' : tmps[p]?.getD undef = .pointer (some ⟨g, 0, none⟩) := by simpa using hp
  have hq' : tmps[q]?.getD undef = v := by simpa using hq
  simp [results, h, hp', hq', asAddr, run_loadVar_mid w g 0 ty cs d hc hu hd hi]
theorem results_c2 {P : Program} {fn : Func} {p q r : Tmp} {ty : TypeId} (h : fn.results = #[.cell p ty, .tmp q, .tmp r]) (tmps : Array Value) (w : World) (g : Nat) (cs : List Value) (v u : Value) (d : TypeDesc)
    (hp : tmps.getD p undef = .pointer (some ⟨g, 0, none⟩)) (hq : tmps.getD q undef = v) (hr : tmps.getD r undef = u) (hc : w.rangeAt g 0 cs) (hu : P.underlying ty = some d) (hd : d.isRow = true) (hi : (P.info? ty).map (·.size) = some cs.length) :
    (results fn tmps).run P w = .ok (.tuple #[.agg cs.toArray, v, u]) w := by
  have hp' : tmps[p]?.getD undef = .pointer (some ⟨g, 0, none⟩) := by simpa using hp
  have hq' : tmps[q]?.getD undef = v := by simpa using hq
  have hr' : tmps[r]?.getD undef = u := by simpa using hr
  simp [results, h, hp', hq', hr', asAddr, run_loadVar_mid w g 0 ty cs d hc hu hd hi]

/-- The first one of a kind. -/
def fnd (os : List Opt) (k : Int) : Option Opt := os.find? fun o => o.kind == k
/-- None of the first j is of that kind. -/
def noneOf (os : List Opt) (k : Int) (j : Nat) : Prop := ∀ i, i < j → (os.getD i (zK 0)).kind ≠ k
theorem fnd_at {os : List Opt} {k : Int} {j : Nat} (h : noneOf os k j) (hj : j < os.length) (he : (os.getD j (zK 0)).kind = k) : fnd os k = some (os.getD j (zK 0)) := by
  unfold fnd
  rw [List.find?_eq_some_iff_getElem]
  refine ⟨by simpa using he, j, hj, by simp [List.getD_eq_getElem?_getD, List.getElem?_eq_getElem hj], fun i hi => ?_⟩
  have := h i hi
  simpa [List.getD_eq_getElem?_getD, List.getElem?_eq_getElem (show i < os.length by omega)] using this
theorem fnd_none {os : List Opt} {k : Int} (h : noneOf os k os.length) : fnd os k = none := by
  unfold fnd
  rw [List.find?_eq_none]
  intro o ho
  obtain ⟨i, hi, rfl⟩ := List.getElem_of_mem ho
  have := h i hi
  simpa [List.getD_eq_getElem?_getD, List.getElem?_eq_getElem hi] using this
theorem noneOf_succ {os : List Opt} {k : Int} {j : Nat} (h : noneOf os k j) (he : (os.getD j (zK 0)).kind ≠ k) : noneOf os k (j + 1) := fun i hi => by
  rcases Nat.lt_succ_iff_lt_or_eq.1 hi with h1 | rfl
  · exact h i h1
  · exact he

/-- What Find leaves. -/
def FindMade (W : World) (x : Opt) (is : Bool) (e : Ending) (w' : World) : Prop := e = .returned (.tuple #[.agg x.vals.toArray, .bool is]) ∧ Below W.heap.size W w'

set_option maxRecDepth 8000 in
set_option maxHeartbeats 1600000 in
theorem Find_any (A : Option Addr) (n c : Nat) (os : List Opt) (k : Int) (w : World) (h : OS w A n c os) :
    Calls Try.prog 16 #[.slice A n c, .int .i64 k] w (FindMade w ((fnd os k).getD (zK 0)) (fnd os k).isSome) := by
  have hmx := h.max
  have hcp := h.cap
  go_enter Try.func16, Try.ntmps16
  go_wp2_with (first
    | ((with_reducible refine wpList_here ?_); refine wpList_allocV rfl 31 rfl (zK 0).vals zeroOpt _ rfl ?_; intro w1 z1 b1 s1))
  have hg1 : w.heap.size < w1.heap.size := by omega
  go_loopw [10] (fun i wr => ∃ j : Nat, j ≤ n ∧ i = .int .i64 j ∧ noneOf os k j ∧ Own wr w.heap.size (zK 0).vals ∧ Below w.heap.size w wr) (fun i _ => n - (intOf i).toNat)
  case atStart => exact ⟨0, Nat.zero_le _, rfl, fun i hi => absurd hi (by omega), z1, b1⟩
  case round =>
    obtain ⟨j, hj, rfl, hn, z, hb⟩ := hrel
    clear z1 b1 s1 hg1
    by_cases hlt : j < n
    · obtain ⟨b, o, rfl, hc0⟩ := h.at_ hlt
      have hc := range_below hc0 hb
      have HL := Lib.hid h.len
      have hn2 := fun e => noneOf_succ hn (k := k) (j := j) e
      have hf2 := fun (e : (os.getD j (zK 0)).kind = k) => fnd_at hn (by rw [HL.out]; exact hlt) e
      generalize os.getD j (zK 0) = x at *
      have HN := Lib.hid hn2
      have HF := Lib.hid hf2
      clear hc0 h hn2 hf2 hn
      by_cases hk : x.kind = k
      · have hk1 : (x.kind == k) = true := by simpa using hk
        have HK := Lib.hid hk
        clear hk
        go_wp2_with (first
          | ((with_reducible refine wpList_here ?_); refine wpList_loadV rfl 31 (.tmp 12) rfl b _ x.vals rfl hc _ Try.underlying31 rfl infoOpt ?_)
          | ((with_reducible refine wpList_here ?_); refine wpList_allocV rfl 31 rfl (zK 0).vals zeroOpt _ rfl ?_; intro w1 z1 b1 s1)
          | ((with_reducible refine wpList_here ?_); refine wpList_storeV rfl 31 (.tmp 7) (.tmp 13) rfl _ _ x.vals rfl rfl z1 rfl (vals_one x) infoOpt ?_; intro w2 z2 g2 s2; have k2 : w2.cell? ⟨wr.heap.size, 0, none⟩ = some (.int .i64 x.kind) := (z2 0 (Nat.zero_lt_succ _)).1)
          | ((with_reducible refine wpList_here ?_); refine wpList_loadV rfl 31 (.tmp 7) rfl _ _ x.vals rfl z2.range _ Try.underlying31 rfl infoOpt ?_)
          | ((with_reducible refine wpList_here ?_); have z3 := (z.below b1).far g2 (by intro e; injection e with e; have := z.lt (Nat.zero_lt_succ _); omega); refine wpList_storeV rfl 31 (.tmp 4) (.tmp 18) rfl _ _ x.vals rfl rfl z3 rfl (vals_one x) infoOpt ?_; intro w4 z4 g4 s4))
        have hb2 := v_below_g (below_trans hb b1) g2 (by have := hb.size; omega) (by have := hb.size; omega)
        have hb4 := v_below_g hb2 g4 (by have := hb.size; omega) (Nat.le_refl _)
        refine bodyPost_ret (results_c1 rfl _ _ w.heap.size x.vals (.bool true) _ rfl rfl z4.range Try.underlying31 rfl infoOpt) rfl ⟨?_, hb4⟩
        rw [HF.out HK.out]
        rfl
      · have hk1 : (x.kind == k) = false := by simpa using hk
        go_wp2_with (first
          | ((with_reducible refine wpList_here ?_); refine wpList_loadV rfl 31 (.tmp 12) rfl b _ x.vals rfl hc _ Try.underlying31 rfl infoOpt ?_)
          | ((with_reducible refine wpList_here ?_); refine wpList_allocV rfl 31 rfl (zK 0).vals zeroOpt _ rfl ?_; intro w1 z1 b1 s1)
          | ((with_reducible refine wpList_here ?_); refine wpList_storeV rfl 31 (.tmp 7) (.tmp 13) rfl _ _ x.vals rfl rfl z1 rfl (vals_one x) infoOpt ?_; intro w2 z2 g2 s2; have k2 : w2.cell? ⟨wr.heap.size, 0, none⟩ = some (.int .i64 x.kind) := (z2 0 (Nat.zero_lt_succ _)).1))
        have hb2 := v_below_g (below_trans hb b1) g2 (by have := hb.size; omega) (by have := hb.size; omega)
        have z3 := (z.below b1).far g2 (by intro e; injection e with e; have := z.lt (Nat.zero_lt_succ _); omega)
        go_roundw
        case rel => exact ⟨j + 1, by omega, by go_num, HN.out hk, z3, hb2⟩
        case measure => simp [intOf]; omega
    · obtain rfl : j = n := by omega
      have HL := Lib.hid (show fnd os k = none from fnd_none (by rw [h.len]; exact hn))
      go_wp2_with (first
        | ((with_reducible refine wpList_here ?_); refine wpList_storeV rfl 31 (.tmp 4) (.tmp 20) rfl _ _ (zK 0).vals rfl rfl z rfl (vals_one _) infoOpt ?_; intro w4 z4 g4 s4))
      have hb4 := v_below_g hb g4 hb.size (Nat.le_refl _)
      refine bodyPost_ret (results_c1 rfl _ _ w.heap.size (zK 0).vals (.bool false) _ rfl rfl z4.range Try.underlying31 rfl infoOpt) rfl ⟨?_, hb4⟩
      rw [HL.out]
      rfl
end Go.Proofs.Ytcofkdcjcckdfaa

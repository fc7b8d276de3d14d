/- Words for the document's own way to read an option: parts of bytes, one number stored into an option; the contracts of truth, num and Size. No condition. -/
import Derived.Test.YtcofkdcjcckdfaaOptP
import Derived.Test.YtcofkdcjcckdfaaNumR
import Derived.Test.YtcofkdcjcckdfaaBytR
namespace Go.Proofs.Ytcofkdcjcckdfaa
set_option linter.unusedVariables false
set_option linter.unusedSimpArgs false
open Go.RowKit

/-- b[i:j], b[i:] and b[:j], whatever the addresses are. -/
theorem RB.mid_ {w : World} {A : Option Addr} {n c : Nat} {l : List UInt8} (h : RB w A n c l) (i j : Nat) (I J : Int) (hI : I = i) (hJ : J = j) (h1 : i ≤ j) (h2 : j ≤ n) :
    ∃ A2, (∀ W : World, (Instr.slice 24 (.slice A n c) (some (.int .i64 I)) (some (.int .i64 J)) none).run Try.prog W = .ok (.slice A2 (j - i) (c - i)) W) ∧ RB w A2 (j - i) (c - i) ((l.drop i).take (j - i)) := by
  subst hI hJ
  have hc := h.cap
  refine ⟨_, fun W => ?_, (h.drop (k := i) (by omega)).take (k := j - i) (by omega)⟩
  rw [run_slice_lh (P := Try.prog) W 24 A n c elemOf .i64 .i64 (i : Int) (j : Int) (by omega) (by omega) (by omega), sizeOfByte]
  simp [Result.andThen, sliced]
theorem RB.tail_ {w : World} {A : Option Addr} {n c : Nat} {l : List UInt8} (h : RB w A n c l) (i : Nat) (I : Int) (hI : I = i) (h1 : i ≤ n) :
    ∃ A2, (∀ W : World, (Instr.slice 24 (.slice A n c) (some (.int .i64 I)) none none).run Try.prog W = .ok (.slice A2 (n - i) (c - i)) W) ∧ RB w A2 (n - i) (c - i) (l.drop i) := by
  subst hI
  exact h.from_ h1
theorem RB.head_ {w : World} {A : Option Addr} {n c : Nat} {l : List UInt8} (h : RB w A n c l) (j : Nat) (h2 : j ≤ n) :
    (∀ W : World, (Instr.slice 24 (.slice A n c) none (some (.int .i64 (j : Int))) none).run Try.prog W = .ok (.slice A j c) W) ∧ RB w A j c (l.take j) := by
  have hc := h.cap
  refine ⟨fun W => ?_, h.take h2⟩
  rw [run_slice_h (P := Try.prog) W 24 A n c elemOf .i64 (j : Int) (by omega) (by omega), sizeOfByte]
  simp [Result.andThen, sliced]
  intro _
  cases A with
  | none => rfl
  | some a =>
    obtain ⟨b, o, s⟩ := a
    simp [Addr.add]
theorem RB.cell_at {w : World} {b o n c : Nat} {l : List UInt8} (h : RB w (some ⟨b, o, none⟩) n c l) {j : Nat} (hj : j < n) : w.cell? ⟨b, o + j, none⟩ = some (.int .u8 ((l.getD j 0).toNat : Int)) := by
  obtain ⟨b', o', e, hc⟩ := h.2.2.2 (by omega)
  injection e with e
  injection e with e1 e2
  subst e1 e2
  exact hc j hj
theorem num_take_one {l : List UInt8} {j : Nat} (h : j < l.length) : num ((l.drop j).take 1) = (l.getD j 0).toNat := by
  have e : (l.drop j).take 1 = [l[j]] := by rw [List.drop_eq_getElem_cons h]; rfl
  rw [e, List.getD_eq_getElem?_getD, List.getElem?_eq_getElem h]
  simp [num]
theorem num_few (l : List UInt8) (k : Nat) : num (l.take k) < 256 ^ k := Nat.lt_of_lt_of_le (num_lt _) (Nat.pow_le_pow_right (by decide) (List.length_take_le _ _))

/-- The value that n is in place s. -/
def pv (s n : Nat) : Value := if s ≤ 2 then .int .u64 (n : Int) else if s ≤ 4 then .int .u32 (n : Int) else if isB s then .bool ((n : Int) == 1) else .int .i64 (n : Int)
theorem put_pv (o : Opt) {s n : Nat} (hs : spot s) (hn : s ≤ 2 ∨ n < 4294967296) : (o.put s n).vals = o.vals.set s (pv s n) := by
  have hb := int_is_one n
  rcases spot_or hs with rfl | rfl | rfl | rfl | rfl | rfl | rfl | rfl | rfl | rfl | rfl | rfl | rfl
  · rfl
  · rfl
  · simp [Opt.put, Opt.vals, pv, Nat.mod_eq_of_lt (show n < 4294967296 by omega)]
  · simp [Opt.put, Opt.vals, pv, Nat.mod_eq_of_lt (show n < 4294967296 by omega)]
  · simp [Opt.put, Opt.vals, pv, isB, s64_small (show n < 9223372036854775808 by omega)]
  · simp [Opt.put, Opt.vals, pv, isB, s64_small (show n < 9223372036854775808 by omega)]
  · simp [Opt.put, Opt.vals, pv, isB, hb]
  · simp [Opt.put, Opt.vals, pv, isB, hb]
  · simp [Opt.put, Opt.vals, pv, isB, s64_small (show n < 9223372036854775808 by omega)]
  · simp [Opt.put, Opt.vals, pv, isB, hb]
  · simp [Opt.put, Opt.vals, pv, isB, s64_small (show n < 9223372036854775808 by omega)]
  · simp [Opt.put, Opt.vals, pv, isB, s64_small (show n < 9223372036854775808 by omega)]
  · simp [Opt.put, Opt.vals, pv, isB, hb]
theorem pv_one (s n : Nat) : (pv s n).oneCell' = true ∧ (pv s n).cells = #[pv s n] := by
  unfold pv
  split
  · exact ⟨rfl, rfl⟩
  · split
    · exact ⟨rfl, rfl⟩
    · split <;> exact ⟨rfl, rfl⟩
/-- One number stored into an option: all bytes stay. -/
theorem wpList_putO {P : Program} {ops : Array Oper} {rest : List Oper} {o : Oper} {a : Act} {w : World} {Q : Exit → Act → World → Prop} (hgd : Region.wanted o (yielded ops a.tmps) = true) (ty : TypeId) (x y : Operand) (ho : o.op = .store ty x y) (b s n : Nat) (u : Opt) (hx : a.eval x = .pointer (some ⟨b, s, none⟩)) (hy : a.eval y = pv s n) (hA : Own w b u.vals)
    (hs : spot s) (hn : s ≤ 2 ∨ n < 4294967296) (hi : (P.info? ty).map (·.size) = some 1)
    (h : ∀ w', Own w' b (u.put s n).vals → w.grownBy w' (some b) → Bytes8 w w' → wpList P ops Q rest (a.put o.dst undef) w') : wpList P ops Q (o :: rest) a w := by
  have hs14 : s < u.vals.length := by rw [u.vals_length]; unfold spot at hs; omega
  obtain ⟨p1, p2⟩ := pv_one s n
  have hc := (hA s hs14).1
  rw [List.getElem?_eq_getElem hs14] at hc
  refine wpList_want hgd fun _ hK => ?_
  have hrun : (execOp a.eval o).run P w = .ok .skip (w.setCell ⟨b, s, none⟩ (pv s n)) := by
    have h1 := run_storeCells_cells (P := P) b s [pv s n] 0 w (fun j hj => by
      obtain rfl : j = 0 := by simpa using hj
      simp only [Nat.add_zero]; rw [hc]; rfl) (fun j hj => by
      obtain rfl : j = 0 := by simpa using hj
      exact (hA s hs14).2) (fun v hv => by rw [List.mem_singleton.1 hv]; exact p1)
    cases hq : P.info? ty with
    | none => simp [hq] at hi
    | some i =>
      have hsz : i.size = 1 := by simpa [hq] using hi
      simp [execOp, ho, hx, hy, Instr.storeAt, Instr.sureAddr, storeVar, sizeOf, typeInfo, hq, hsz, p2, h1, World.setCells]
  unfold Oper.wp
  rw [hrun]
  simp only [Oper.upon]
  refine hK _ _ (h _ ?_ (v_g_set w b s _) fun p z hp => ?_)
  · rw [put_pv u hs hn]
    exact hA.set s hs14 _
  · rw [World.cell?_setCell_other w _ _ _ ?_]
    · exact hp
    · rintro rfl
      rw [hc, ← List.getElem?_eq_getElem hs14] at hp
      exact vals_no_byte u s z hp

set_option maxHeartbeats 400000 in
theorem truth_any (b : Bool) (w : World) : Calls Try.prog 27 #[.bool b] w fun e w' => e = .returned (.int .u8 (b2n b : Nat)) ∧ w = w' := by
  cases b
  all_goals
    go_enter Try.func27, Try.ntmps27
    go_wp2
    go_ret
    exact ⟨rfl, rfl⟩
set_option maxHeartbeats 400000 in
theorem num4_any (x : Int) (w : World) : Calls Try.prog 28 #[.int .i64 x, .int .i64 4] w (Made w 5 4 (be (u64 x) 4)) := by
  have H : Hid (∀ W, Calls Try.prog 26 #[.int .u64 (IntKind.u64.wrap x), .int .i64 4] W (Made W 5 4 (be (u64 x) 4))) := Lib.hid (fun W => by
    rw [wrap_u64]
    exact Bytes_any (u64 x) 4 W (u64_lt x))
  go_enter Try.func28, Try.ntmps28
  go_wp2_with fail
  refine (H.out _).mono ?_
  rintro e w1 ⟨v, rfl, o1, b1⟩
  go_wp2_with fail
  go_ret
  exact ⟨_, rfl, o1, b1⟩
/-- How many bytes a kind has. -/
def sz (k : Int) : Nat := if (tab k).length = 0 then 0 else 1 + long (tab k)
set_option maxHeartbeats 800000 in
theorem Size_any (k : Int) (w : World) : Calls Try.prog 17 #[.int .i64 k] w fun e w' => e = .returned (.int .i64 (sz k : Nat)) ∧ Below w.heap.size w w' := by
  rcases kind_or k with hc | hc | hc | hc | hc | hc | hc | hc | hc | hc | hc | hc | hc | hc
  · have HS : Hid (sz k = 0) := Lib.hid (by unfold sz; rw [tab_neg hc]; rfl)
    have h1 : k < 1 := by omega
    go_enter Try.func17, Try.ntmps17
    go_wp2
    go_ret
    rw [HS.out]
    exact ⟨rfl, below_a w _⟩
  · have HS : Hid (sz k = 0) := Lib.hid (by unfold sz; rw [tab_far hc]; rfl)
    have h1 : ¬ k < 1 := by omega
    have h2 : 11 < k := by omega
    have h3 : decide (k < 1) = false := decide_eq_false h1
    go_enter Try.func17, Try.ntmps17
    go_wp2
    go_ret
    rw [HS.out]
    exact ⟨rfl, below_a w _⟩
  all_goals
    subst hc
    go_enter Try.func17, Try.ntmps17
    go_wp2
    go_ret
    exact ⟨rfl, below_a w _⟩
end Go.Proofs.Ytcofkdcjcckdfaa

/- A sender in memory: its cells, its data's row, the set of what is lost; what a call leaves. Bytes taken off the front of a row of the call's own: slices.Delete; a copy of bytes: slices.Clone. Conditions: at most 2^40 bytes. -/
import Derived.Test.YtancbdnpmabpfaaSpE
import Derived.Test.YtancbdnpmabpfaaDsM
import Derived.Test.YtancbdnpmabpfaaUnt
import Derived.Lib.SliceRun
namespace Go.Proofs.Ytancbdnpmabpfaa
set_option linter.unusedVariables false
set_option linter.unusedSimpArgs false
open Go.RowKit Go.Lib

theorem rb_ch {w w' : World} {A : Option Addr} {n c : Nat} {l : List UInt8} {m : Nat → Prop} (h : RB w A n c l) (k : Ch w w' m) (hm : ∀ g o s, A = some ⟨g, o, s⟩ → 0 < n → ¬ m g) : RB w' A n c l :=
  ⟨h.1, h.2.1, h.2.2.1, fun hn => by
    obtain ⟨b, o, e, hc⟩ := h.2.2.2 hn
    exact ⟨b, o, e, fun j hj => k.cell (hc j hj) (hm b o none e hn)⟩⟩
theorem own_range {w : World} {base g n cap : Nat} {e : TypeId} {cur : Array Value} {xs : List Value} (hb : base ≤ g) (hg : w.heap[g]? = some (.cells cur e (0, 0))) (hn : n ≤ cap) (hm : cap ≤ maxLen) (hs : cur.size = cap) (hl : xs.length = n) (hr : w.rangeAt g 0 xs) :
    w.ownsRow base e 1 (.slice (some ⟨g, 0, none⟩) n cap) n xs := by
  refine ⟨by omega, .inr ⟨g, cap, cur, rfl, hb, hg, hn, hm, by omega, ?_⟩⟩
  apply List.ext_getElem?
  intro j
  rw [List.getElem?_take]
  split
  · rename_i hj
    have hj' : j < xs.length := by omega
    have h1 := hr j _ (List.getElem?_eq_getElem hj')
    rw [Nat.zero_add, cell_of_row w g j cur e (0, 0) hg] at h1
    rw [List.getElem?_eq_getElem hj', ← h1]
    have : j < cur.size := by omega
    simp [this]
  · rw [List.getElem?_eq_none (by omega)]
theorem own_rangeAt {w : World} {base g n cap : Nat} {e : TypeId} {xs : List Value} (h : w.ownsRow base e 1 (.slice (some ⟨g, 0, none⟩) n cap) n xs) : w.rangeAt g 0 xs := fun j v hv => by
  have := (List.getElem?_eq_some_iff.1 hv).1
  have h1 := h.1
  rw [Nat.zero_add, h.cellAt j (by omega), hv]

/-- What is left of a row of which the first ones are deleted. -/
def DelP (base : Nat) (w : World) (v : Value) (n k : Nat) (l : List UInt8) (e : Ending) (w' : World) : Prop :=
  ∃ v', e = .returned v' ∧ w'.ownsRow base 5 1 v' (n - k) (bv (l.drop k)) ∧ Ch w w' (fun g => v.ownBlock = some g) ∧ v'.ownBlock = v.ownBlock

theorem undByte : Try.prog.underlying 28 = some (.slice 5) := Try.underlying28
theorem step_appRun {P : Program} {ops : Array Oper} {o : Oper} {a : Act} {w : World} {K : Act → World → Prop} {Q : Exit → Act → World → Prop} {E : Prop} (hgd : o.guard = none) (s x : Operand) (t : TypeId)
    (ho : o.op = .call { callee := .builtin .append, args := #[s, x], argTypes := #[t, t] }) (v u : Value) (hs : a.eval s = v) (hx : a.eval x = u) {v' : Value} {w' : World} (hr : (Builtin.append_ #[t, t] o.type #[v, u]).run P w = .ok v' w') (hK : K (a.put o.dst v') w') :
    if Region.wanted o (yielded ops a.tmps) = true then Oper.wp P o a w K Q else E := by
  have hw : Region.wanted o (yielded ops a.tmps) = true := by simp [Region.wanted, hgd]
  rw [if_pos hw]
  exact Lib.wp_append_run w s x t t ho _ _ hs hx v' w' hr hK

set_option maxRecDepth 8000 in
set_option maxHeartbeats 3200000 in
theorem delete_any {w : World} {base : Nat} {v : Value} {n : Nat} {l : List UInt8} (h : w.ownsRow base 5 1 v n (bv l)) {k : Nat} (hk : k ≤ n) (hn : n ≤ 1099511627776) :
    Calls Try.prog 53 #[v, .int .i64 0, .int .i64 (k : Int)] w (DelP base w v n k l) := by
  by_cases k0 : k = 0
  · subst k0
    have HF : Hid (DelP base w v n 0 l (.returned v) w) := Lib.hid ⟨v, rfl, by simpa using h, Ch.refl _ _, rfl⟩
    obtain ⟨A, c, rfl, R, _⟩ := RB.of_own h
    have hc := R.cap
    have hm := R.max
    have hnc : (n : Int) ≤ (c : Int) := by omega
    clear R h hk
    go_enter Try.func53, Try.ntmps53
    go_wp2_with fail
    go_ret
    exact HF.out
  · have hll : (bv l).length = n := by have := h.1; omega
    have hbl : l.length = n := by rw [bv_length] at hll; exact hll
    obtain ⟨g, c, cur, rfl, hb, hg, hnc, hcm, hcs, -⟩ : ∃ g cap cur, v = .slice (some ⟨g, 0, none⟩) n cap ∧ base ≤ g ∧ w.heap[g]? = some (.cells cur 5 (0, 0)) ∧ n ≤ cap ∧ cap ≤ maxLen ∧ cur.size = cap * 1 ∧ True := by
      rcases h.2 with ⟨_, e⟩ | ⟨g, cap, cur, e1, e2, e3, e4, e5, e6, _⟩
      · omega
      · exact ⟨g, cap, cur, e1, e2, e3, e4, e5, e6, trivial⟩
    have hr0 := own_rangeAt h
    have hm : c ≤ 9223372036854775807 := by unfold maxLen at hcm; exact hcm
    obtain ⟨ii, hi, hzz⟩ := Option.map_eq_some_iff.1 infoByte
    simp only [Prod.mk.injEq] at hzz
    obtain ⟨hz, hi2, hi3⟩ := hzz
    have hdl : (bv (l.drop k)).length = n - k := by rw [bv_length, List.length_drop, hbl]
    obtain ⟨A2, hA2⟩ : ∃ A2 : Option Addr, A2 = if c = k then some ⟨g, 0, none⟩ else some ⟨g, k, none⟩ := ⟨_, rfl⟩
    have hsl : ∀ W, (Instr.slice 28 (.slice (some ⟨g, 0, none⟩) n c) (some (.int .i64 (k : Int))) none none).run Try.prog W = .ok (.slice A2 (n - k) (c - k)) W := fun W => by
      rw [run_slice_l (P := Try.prog) W 28 _ n c elemOf .i64 (k : Int) (by omega) (by omega), sizeOfByte, hA2]
      by_cases e : c = k
      · simp [Result.andThen, sliced, e]
      · simp [Result.andThen, sliced, e, Addr.add_lit]
    obtain ⟨W1, hW1⟩ : ∃ W1, W1 = w.drew.setCells g 0 (bv (l.drop k)) := ⟨_, rfl⟩
    have hth : ∀ j, j < (bv (l.drop k)).length → (w.drew.cell? ⟨g, 0 + 0 * ii.size + j, none⟩).isSome = true := fun j hj => by
      have : w.drew.cell? ⟨g, 0 + 0 * ii.size + j, none⟩ = w.cell? ⟨g, j, none⟩ := by rw [Nat.zero_mul, Nat.zero_add]; rfl
      rw [this, cell_of_row w g j cur _ (0, 0) hg]
      have : j < cur.size := by omega
      simp [this]
    obtain ⟨a2, ha2⟩ : ∃ a2, A2 = some a2 := by rw [hA2]; split <;> exact ⟨_, rfl⟩
    have happ : ∀ ty, (Builtin.append_ #[28, 28] ty #[.slice (some ⟨g, 0, none⟩) 0 c, .slice A2 (n - k) (c - k)]).run Try.prog w.drew = .ok (.slice (some ⟨g, 0, none⟩) (n - k) c) W1 := fun ty => by
      rw [ha2, run_append_room_cells (P := Try.prog) w.drew 28 ty 5 ii undByte hi g 0 0 c a2 (n - k) (c - k) (bv (l.drop k)) (by rw [hdl, hi2, Nat.mul_one]) (fun j u hj => by
        have hjn := (List.getElem?_eq_some_iff.1 hj).1
        rw [hdl] at hjn
        have e : a2 = ⟨g, k, none⟩ := by
          rw [hA2, if_neg (by omega)] at ha2
          injection ha2 with e
          exact e.symm
        rw [e, Addr.add_lit]
        have h2 : (bv l)[k + j]? = some u := by
          have e2 : bv (l.drop k) = (bv l).drop k := by unfold bv; rw [List.map_drop]
          rw [e2, List.getElem?_drop] at hj
          exact hj
        have := hr0 (k + j) u h2
        rw [Nat.zero_add] at this
        exact this) (bv_one _) (by omega) hth (fun j hj => by simp [World.frozen?, show w.drew.heap[g]? = some (.cells cur 5 (0, 0)) from hg]), hW1]
      simp
    have hB1 : ∃ cs1, W1.heap[g]? = some (.cells cs1 5 (0, 0)) ∧ cs1.size = c := by
      obtain ⟨cs1, q1, q2⟩ := heap_setCells (bv (l.drop k)) 0 w.drew cur hg
      exact ⟨cs1, by rw [hW1]; exact q1, by omega⟩
    have hR1 : W1.rangeAt g 0 (bv (l.drop k)) := by
      rw [hW1]
      exact World.rangeAt_setCells_same _ _ _ _ (there_of (w := w.drew) hg (by rw [hdl]; omega))
    have hC1 : Ch w W1 (fun x => (Value.slice (some ⟨g, 0, none⟩) n c).ownBlock = some x) := by
      rw [hW1]
      exact Ch.setCells (m := fun x => (Value.slice (some ⟨g, 0, none⟩) n c).ownBlock = some x) (fun _ => rfl) _ _ (Ch.refl w _).drew
    obtain ⟨cs1, hg1, hs1⟩ := hB1
    have hclr : ∀ ty, (Builtin.clear_ #[28] ty #[.slice (some ⟨g, n - k, none⟩) k (c - (n - k))]).run Try.prog W1 = .ok (.tuple #[]) (W1.setCells g (n - k) (List.replicate k (.int .u8 0))) := fun ty =>
      Lib.run_clear_slice W1 _ 5 ty (.int .u8 0) undByte (fun W => by simp [zeroValue, typeInfo, hi, hz]) rfl rfl g (n - k) k _ (by omega) (fun j hj => by
        rw [cell_of_row W1 g (n - k + j) cs1 _ (0, 0) hg1]
        have : n - k + j < cs1.size := by omega
        simp [this]) (fun j hj => frozen_of hg1 _)
    obtain ⟨W2, hW2⟩ : ∃ W2, W2 = W1.setCells g (n - k) (List.replicate k (.int .u8 0)) := ⟨_, rfl⟩
    rw [← hW2] at hclr
    have HF : Hid (DelP base w (.slice (some ⟨g, 0, none⟩) n c) n k l (.returned (.slice (some ⟨g, 0, none⟩) (n - k) c)) W2) := by
      obtain ⟨cs2, q1, q2⟩ := heap_setCells (List.replicate k (Value.int .u8 0)) (n - k) W1 cs1 hg1
      refine Lib.hid ⟨_, rfl, own_range hb (by rw [hW2]; exact q1) (by omega) hcm (by omega) hdl ?_, ?_, rfl⟩
      · rw [hW2]
        exact World.rangeAt_setCells_apart hR1 _ _ _ (.inr (.inl (by rw [hdl]; omega)))
      · rw [hW2]
        exact Ch.setCells (m := fun x => (Value.slice (some ⟨g, 0, none⟩) n c).ownBlock = some x) (fun _ => rfl) _ _ hC1
    have hk0 : ¬ ((0 : Int) = (k : Int)) := by omega
    have hkn : (k : Int) ≤ (n : Int) := by omega
    have hnc' : (n : Int) ≤ (c : Int) := by omega
    obtain ⟨r, hr⟩ : ∃ r, r = n - k := ⟨_, rfl⟩
    rw [← hr] at happ hclr HF hsl
    have hrn : (r : Int) ≤ (n : Int) := by omega
    have hnr : n - r = k := by omega
    have hsl2 : ∀ W, (Instr.slice 28 (.slice (some ⟨g, 0, none⟩) r c) (some (.int .i64 (r : Int))) (some (.int .i64 (n : Int))) none).run Try.prog W = .ok (.slice (some ⟨g, r, none⟩) k (c - r)) W := fun W => by
      rw [run_slice_lh (P := Try.prog) W 28 _ r c elemOf .i64 .i64 (r : Int) (n : Int) (by omega) (by omega) (by omega), sizeOfByte]
      have : ¬ c = r := by omega
      simp [Result.andThen, sliced, this, Addr.add_lit, hnr]
    have hsl0 : ∀ W, (Instr.slice 28 (.slice (some ⟨g, 0, none⟩) n c) none (some (.int .i64 0)) none).run Try.prog W = .ok (.slice (some ⟨g, 0, none⟩) 0 c) W := fun W => by
      rw [run_slice_h (P := Try.prog) W 28 _ n c elemOf .i64 (0 : Int) (by omega) (by omega)]
      try rw [sizeOfByte]
      simp [Result.andThen, sliced]
      try (intro _; rfl)
    clear hW1 hW2 hR1 hC1 hg1 hs1 hth hr0 hg hcs hcm hb hll hbl hdl hA2 ha2 hi hz hi2 hi3 h hr k0
    go_enter Try.func53, Try.ntmps53
    go_wp2_with fail
    go_region_held3 (fun _ => True) (trivial) (refine step_appRun rfl _ _ _ rfl _ _ rfl rfl (happ _) ?_)
    go_wp2_with (at_builtin; refine wpList_clear2 _ rfl _ _ rfl _ rfl (hclr _) ?_)
    go_ret
    exact HF.out
end Go.Proofs.Ytancbdnpmabpfaa

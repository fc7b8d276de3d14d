/- The contract of a key filled. Conditions: the key holds at most 2^38 bytes; the table holds FIPS 180-4's constants. -/
import Derived.Test.YtdgllpcljjhhdaaDoorHmA
import Derived.Test.YtdgllpcljjhhdaaDoorShaQ
namespace Go.Proofs.YtdgllpcljjhhdaaDoor
set_option linter.unusedVariables false
open Go.RowKit

theorem sizeByte : (Tryd.prog.info? 5).map (·.size) = some 1 := by kernel_rfl
section
variable {P : Program} (w : World)
/-- copy onto an array of zeros that has room for all. -/
theorem copy_run (dT ty e : TypeId) (hu : P.underlying dT = some (.slice e)) (hs : (P.info? e).map (·.size) = some 1) (b : Nat) (h0 : Arb w b 64 (fun _ => 0))
    (A : Option Addr) (n c : Nat) (l : List UInt8) (h : RB w A n c l) (hn : n ≤ 64) :
    ∃ w', (Builtin.copy_ #[dT, dT] ty #[.slice (some ⟨b, 0, none⟩) 64 64, .slice A n c]).run P w = .ok (goInt n) w' ∧ Arb w' b 64 (fun j => l.getD j 0) ∧ w.grownBy w' (some b) := by
  have hl := h.len
  rcases Nat.eq_zero_or_pos n with hz | hz
  · subst hz
    obtain rfl : l = [] := List.eq_nil_of_length_eq_zero hl
    exact ⟨w, run_copy_none (P := P) w dT dT ty e _ _ _ _ _ _ hu hs (Nat.zero_min 64), h0.congr (fun j _ => by simp), g_refl w _⟩
  · obtain ⟨b', o', rfl, hc⟩ := h.2.2.2 hz
    have hrun := run_copy_cells (P := P) w dT dT ty e b 0 64 64 ⟨b', o', none⟩ n c (bv l) hu hs (by rw [bv_length, hl]; exact (Nat.min_eq_left hn).symm)
      (fun j v hv => by
        obtain ⟨hj, rfl⟩ := bv_get l j v hv
        rw [Addr.add_lit]
        exact hc j (by omega))
      (fun j hj => by rw [bv_length] at hj; rw [Nat.zero_add, (h0 j (by omega)).1]; rfl)
      (fun j hj => by rw [bv_length] at hj; rw [Nat.zero_add]; exact (h0 j (by omega)).2) (bv_one l)
    rw [bv_length, hl] at hrun
    refine ⟨_, hrun, fun j hj => ⟨?_, by rw [World.frozen?_setCells]; exact (h0 j hj).2⟩, g_setCells b (bv l) 0 w⟩
    by_cases hlt : j < l.length
    · have hb : j < (bv l).length := by rw [bv_length]; exact hlt
      have := World.cell?_setCells_in b (bv l) 0 w (fun i hi => by rw [bv_length] at hi; rw [Nat.zero_add, (h0 i (by omega)).1]; rfl) j hb
      rw [Nat.zero_add] at this
      rw [this, ← List.getElem?_eq_getElem hb]
      exact bv_at l j hlt
    · rw [World.cell?_setCells_out b (bv l) 0 w ⟨b, j, none⟩ (fun _ _ => Or.inr (by rw [bv_length]; simp; omega)), (h0 j hj).1]
      simp [List.getD_eq_getElem?_getD, List.getElem?_eq_none (show l.length ≤ j by omega)]
theorem wpList_copy_any {ops : Array Oper} {rest : List Oper} {o : Oper} {a : Act} {Q : Exit → Act → World → Prop} (hgd : o.guard = none) (d s : Operand) (dT e : TypeId)
    (ho : o.op = .call { callee := .builtin .copy, args := #[d, s], argTypes := #[dT, dT] }) (hu : P.underlying dT = some (.slice e)) (hs : (P.info? e).map (·.size) = some 1) (b : Nat) (h0 : Arb w b 64 (fun _ => 0))
    (A : Option Addr) (n c : Nat) (l : List UInt8) (h : RB w A n c l) (hn : n ≤ 64) (hd : a.eval d = .slice (some ⟨b, 0, none⟩) 64 64) (hx : a.eval s = .slice A n c)
    (hK : ∀ w', Arb w' b 64 (fun j => l.getD j 0) → w.grownBy w' (some b) → wpList P ops Q rest (a.put o.dst (goInt n)) w') : wpList P ops Q (o :: rest) a w := by
  obtain ⟨w', hrun, h1, h2⟩ := copy_run (P := P) w dT o.type e hu hs b h0 A n c l h hn
  refine wpList_plain hgd fun K hK' => ?_
  unfold Oper.wp execOp
  simp only [ho, resolve, invoke, builtin, Sem.run_bind, Sem.run_pure, Result.andThen_ok, List.map_toArray, List.map_cons, List.map_nil, hd, hx, hrun]
  exact hK' _ _ (hK w' h1 h2)
end
/-- The filled key's bytes. -/
theorem kf_at (k l : List UInt8) (h : ks k = l) (j : Nat) (hj : j < 64) : l.getD j 0 = (kf k).getD j 0 := by
  have hl := ks_length k
  rw [h] at hl
  unfold kf
  rw [h]
  simp only [List.getD_eq_getElem?_getD]
  by_cases hlt : j < l.length
  · rw [List.getElem?_append_left hlt]
  · rw [List.getElem?_append_right (by omega), List.getElem?_eq_none (show l.length ≤ j by omega), List.getElem?_replicate]
    split <;> rfl

set_option maxRecDepth 8000 in
set_option maxHeartbeats 1600000 in
theorem filled_any (A : Option Addr) (n c : Nat) (l : List UInt8) (w : World) (h : RB w A n c l) (hn : n ≤ 274877906944) (hT : Tab w) :
    Calls Tryd.prog 29 #[.slice A n c] w fun e w' => e = .returned (.agg (bv (kf l)).toArray) ∧ Below w.heap.size w w' := by
  have hmx := h.max
  have hcp := h.cap
  have HKL := Lib.hid (kf_length l)
  have HL := Lib.hid h.len
  by_cases hlong : 64 < n
  · have HK := Lib.hid (kf_at l (dg l) (by unfold ks; rw [if_pos (by rw [HL.out]; exact hlong)]))
    have HDL := Lib.hid (dg_length l)
    go_enter Tryd.func29, Tryd.ntmps29
    go_wp2_with (first
      | ((with_reducible refine wpList_here ?_); refine wpList_zerosA rfl 61 rfl 64 zeroBlock _ rfl ?_; intro w1 z1 b1 s1; have h1 := h.below b1; have t1 := hT.below b1; clear h hT)
      | (go_at_call 11; refine (sha_one s1.symm h1 hn t1).mono ?_; rintro e w2 ⟨rfl, b2⟩
         have b3 := (below_a w1 _).trans (b2.mono (by simp))
         have z3 := z1.below b3
         have b4 := below_trans b1 b3
         have q2 : w.heap.size < w2.heap.size := by have := b3.size; omega
         clear h1 t1 z1 b2)
      | ((with_reducible refine wpList_here ?_); refine wpList_zerosA rfl 31 rfl 32 zero32 _ rfl ?_; intro w5 d5 b5 s5; have z5 := z3.below b5; have b6 := below_trans b4 b5; clear z3)
      | ((with_reducible refine wpList_here ?_); refine wpList_storeA rfl 31 (.tmp 3) (.tmp 10) rfl _ 32 _ (dg l) rfl rfl d5 HDL.out info32 ?_; intro w7 d7 g7 s7
         have z7 := z5.far g7 (by simp; omega)
         have q7 : w.heap.size < w7.heap.size := by omega
         have b7 := below_g b6 g7 b6.size b4.size
         clear d5 z5 g7)
      | ((with_reducible refine wpList_here ?_); refine wpList_zerosA rfl 61 rfl 64 zeroBlock (w2.heap.size + 1) (by omega) ?_; intro w8 z8 b8 s8; have z9 := z7.below b8; have r8 := (d7.rb HDL.out (by omega)).below b8; have b9 := below_trans b7 b8; clear z7 d7)
      | ((with_reducible refine wpList_here ?_); refine wpList_copy_any _ rfl (.tmp 12) (.tmp 13) 33 5 rfl Tryd.underlying33 sizeByte (w2.heap.size + 1) z8 _ 32 32 (dg l) r8 (by omega) rfl rfl ?_; intro w3 z3 g3; have z4 := z3.congr HK.out)
      | ((with_reducible refine wpList_here ?_); refine wpList_loadA rfl 61 (.tmp 4) rfl _ 64 (kf l) rfl z4 HKL.out (.array 64 5) Tryd.underlying61 rfl infoBlock ?_)
      | ((with_reducible refine wpList_here ?_); refine wpList_storeA rfl 61 (.tmp 2) (.tmp 15) rfl _ 64 _ (kf l) rfl rfl (z9.far g3 (by simp; omega)) HKL.out infoBlock ?_; intro w5 z5 g5 s5))
    refine bodyPost_ret (results_A rfl _ _ w.heap.size 64 (kf l) (.array 64 5) rfl z5 HKL.out Tryd.underlying61 rfl infoBlock) rfl ⟨rfl, below_g (below_g b9 g3 b9.size (by omega)) g5 (Nat.le_trans b9.size g3.size) (Nat.le_refl _)⟩
  · have HK := Lib.hid (kf_at l l (by unfold ks; rw [if_neg (by rw [HL.out]; exact hlong)]))
    go_enter Tryd.func29, Tryd.ntmps29
    go_wp2_with (first
      | ((with_reducible refine wpList_here ?_); refine wpList_zerosA rfl 61 rfl 64 zeroBlock _ rfl ?_; intro w1 z1 b1 s1; have h1 := h.below b1; clear h hT)
      | ((with_reducible refine wpList_here ?_); refine wpList_zerosA rfl 61 rfl 64 zeroBlock (w.heap.size + 1) s1 ?_; intro w2 z2 b2 s2; have h2 := h1.below b2; have z1' := z1.below b2)
      | ((with_reducible refine wpList_here ?_); refine wpList_copy_any _ rfl (.tmp 12) (.tmp 13) 33 5 rfl Tryd.underlying33 sizeByte (w.heap.size + 1) z2 A n c l h2 (by omega) rfl rfl ?_; intro w3 z3 g3; have z4 := z3.congr HK.out)
      | ((with_reducible refine wpList_here ?_); refine wpList_loadA rfl 61 (.tmp 4) rfl _ 64 (kf l) rfl z4 HKL.out (.array 64 5) Tryd.underlying61 rfl infoBlock ?_)
      | ((with_reducible refine wpList_here ?_); refine wpList_storeA rfl 61 (.tmp 2) (.tmp 15) rfl _ 64 _ (kf l) rfl rfl (z1'.far g3 (by simp)) HKL.out infoBlock ?_; intro w5 z5 g5 s5))
    have b3 := below_trans b1 b2
    refine bodyPost_ret (results_A rfl _ _ w.heap.size 64 (kf l) (.array 64 5) rfl z5 HKL.out Tryd.underlying61 rfl infoBlock) rfl ⟨rfl, below_g (below_g b3 g3 b3.size (by omega)) g5 (Nat.le_trans b3.size g3.size) (Nat.le_refl _)⟩
end Go.Proofs.YtdgllpcljjhhdaaDoor

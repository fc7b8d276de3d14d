/- The contract of a piece copied. Condition: the piece stands, its data are at most 2^48 bytes. -/
import Derived.Test.YtnpkmkjenlhkiaaOqB
namespace Go.Proofs.Ytnpkmkjenlhkiaa
set_option linter.unusedVariables false
set_option linter.unusedSimpArgs false
open Go.RowKit

theorem sizeSl : (Try.prog.info? 30).map (·.size) = some 1 := by kernel_rfl
theorem sizeByte : (Try.prog.info? 5).map (·.size) = some 1 := by kernel_rfl
/-- What a call leaves that answers a piece that says k, with data of its own. -/
def CopP (w : World) (k : Ky) (e : Ending) (w' : World) : Prop := ∃ q : Pc, e = .returned (.agg q.vals.toArray) ∧ q.key = k ∧ PO w.heap.size w' q ∧ Below w.heap.size w w'

set_option maxRecDepth 8000 in
set_option maxHeartbeats 1600000 in
theorem copied_any (p : Pc) (w : World) (h : PG w p) (hd : p.dn ≤ 281474976710656) :
    Calls Try.prog 71 #[.agg p.vals.toArray] w (CopP w p.key) := by
  have hcp := h.data.cap
  have hmx := h.data.max
  have H := Lib.hid h
  have HL := Lib.hid h.data.len
  clear h
  by_cases hn : p.dn = 0
  · have hgt : decide ((0 : Int) < (p.dn : Int)) = false := decide_eq_false (by omega)
    go_enter Try.func71, Try.ntmps71
    go_wp2_with (first
      | ((with_reducible refine wpList_here ?_); refine wpList_boxV (o := ⟨some 1, _, _, _, _, _⟩) rfl 52 (.tmp 0) rfl p.vals rfl _ rfl ?_; intro w1 z1 b1 s1)
      | ((with_reducible refine wpList_here ?_); refine wpList_allocV (o := ⟨some 2, _, _, _, _, _⟩) rfl 52 rfl zP.vals zeroPc _ s1 ?_; intro w2 z2 b2 s2; have z3 := z1.below b2; have k3 : w2.cell? ⟨w.heap.size, 3, none⟩ = some (.slice p.dA p.dn p.dc) := (z3 3 (by rw [p.vals_length]; omega)).1; have b3 := below_trans b1 b2)
      | ((with_reducible refine wpList_here ?_); refine wpList_setV rfl 30 (.tmp 17) (.tmp 16) rfl _ 3 p.vals (.slice none 0 0) rfl rfl z3 (by rw [p.vals_length]; omega) rfl sizeSl ?_; intro w4 z4 g4 s4; have z5 : Own w4 w.heap.size ({ p with dA := none, dn := 0, dc := 0, ds := [] } : Pc).vals := z4; have z6 := z2.far g4 (by intro e; injection e with e; omega))
      | ((with_reducible refine wpList_here ?_); refine wpList_loadV (o := ⟨some 18, _, _, _, _, _⟩) rfl 52 (.tmp 1) rfl _ _ _ rfl z5.range _ Try.underlying52 rfl infoPc ?_)
      | ((with_reducible refine wpList_here ?_); refine wpList_storeV rfl 52 (.tmp 2) (.tmp 18) rfl _ _ _ rfl rfl z6 rfl (pc_one _) infoPc ?_; intro w7 z7 g7 s7))
    have b4 := v_below_g b3 g4 b3.size (Nat.le_refl _)
    have b7 := v_below_g b4 g7 b4.size (by omega)
    have hl0 : p.ds = [] := List.eq_nil_of_length_eq_zero (by rw [HL.out]; exact hn)
    exact bodyPost_ret (results_c0 rfl _ _ (w.heap.size + 1) _ _ rfl z7.range Try.underlying52 rfl infoPc) rfl ⟨_, rfl, by unfold Pc.key; rw [hl0], ⟨H.out.seq, H.out.dsn, World.ownsRow_nil _ _ _ _⟩, b7⟩
  · have hgt : (0 : Int) < (p.dn : Int) := by omega
    have hpos : 0 < p.dn := by omega
    go_enter Try.func71, Try.ntmps71
    go_wp2_with (first
      | ((with_reducible refine wpList_here ?_); refine wpList_boxV (o := ⟨some 1, _, _, _, _, _⟩) rfl 52 (.tmp 0) rfl p.vals rfl _ rfl ?_; intro w1 z1 b1 s1)
      | ((with_reducible refine wpList_here ?_); refine wpList_allocV (o := ⟨some 2, _, _, _, _, _⟩) rfl 52 rfl zP.vals zeroPc _ s1 ?_; intro w2 z2 b2 s2; have z3 := z1.below b2; have k3 : w2.cell? ⟨w.heap.size, 3, none⟩ = some (.slice p.dA p.dn p.dc) := (z3 3 (by rw [p.vals_length]; omega)).1; have b3 := below_trans b1 b2; have r3 := H.out.data.below b3)
      | (at_make; refine wpList_makeB rfl (.tmp 10) (.tmp 10) 30 5 rfl Try.underlying30 infoByte p.dn rfl rfl hd _ s2 ?_; intro xs w4 o4 b4; have z4 := z3.below b4; have y4 := z2.below b4; have r4 := r3.below b4; have b5 := below_trans b3 b4; have k5 : w4.cell? ⟨w.heap.size, 3, none⟩ = some (.slice p.dA p.dn p.dc) := (z4 3 (by rw [p.vals_length]; omega)).1; have s4 := b4.size; clear k3 z3 z2 r3 z1)
      | ((with_reducible refine wpList_here ?_); refine wpList_copyB rfl (.tmp 12) (.tmp 14) 30 5 rfl Try.underlying30 sizeByte _ _ p.dn xs o4 p.dA p.dc p.ds r4 hpos rfl rfl ?_; intro w6 o6 g6 s6; have z6 := z4.far g6 (by intro e; injection e with e; omega); have y6 := y4.far g6 (by intro e; injection e with e; omega); have b6 := v_below_g b5 g6 b5.size (by omega); clear z4 y4 r4 o4 k5)
      | ((with_reducible refine wpList_here ?_); refine wpList_setV rfl 30 (.tmp 17) (.tmp 16) rfl _ 3 p.vals (.slice (some ⟨w.heap.size + 1 + 1, 0, none⟩) p.dn p.dn) rfl rfl z6 (by rw [p.vals_length]; omega) rfl sizeSl ?_; intro w7 z7 g7 s7; have z8 : Own w7 w.heap.size ({ p with dA := some ⟨w.heap.size + 1 + 1, 0, none⟩, dc := p.dn } : Pc).vals := z7; have y8 := y6.far g7 (by intro e; injection e with e; omega); have o8 := o6.kept g7 (Or.inr (fun e => by have h1 : w.heap.size + 1 + 1 = w.heap.size := Option.some.inj e; omega)); have b8 := v_below_g b6 g7 b6.size (Nat.le_refl _); clear z7 y6 o6)
      | ((with_reducible refine wpList_here ?_); refine wpList_loadV (o := ⟨some 18, _, _, _, _, _⟩) rfl 52 (.tmp 1) rfl _ _ _ rfl z8.range _ Try.underlying52 rfl infoPc ?_)
      | ((with_reducible refine wpList_here ?_); refine wpList_storeV rfl 52 (.tmp 2) (.tmp 18) rfl _ _ _ rfl rfl y8 rfl (pc_one _) infoPc ?_; intro w9 z9 g9 s9; have o9 := o8.kept g9 (Or.inr (fun e => by have h1 : w.heap.size + 1 + 1 = w.heap.size + 1 := Option.some.inj e; omega))))
    have b9 := v_below_g b8 g9 b8.size (by omega)
    exact bodyPost_ret (results_c0 rfl _ _ (w.heap.size + 1) _ _ rfl z9.range Try.underlying52 rfl infoPc) rfl ⟨_, rfl, rfl, ⟨H.out.seq, H.out.dsn, own_mono o9 (by omega)⟩, b9⟩
end Go.Proofs.Ytnpkmkjenlhkiaa

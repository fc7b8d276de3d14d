/- The document's wheel: its Arm. Condition: the list has at most 2^40 members, the tick is below 2^61. -/
import Derived.Test.YtkmhgcdjmfafhaaWiA
namespace Go.Proofs.Ytkmhgcdjmfafhaa
set_option linter.unusedVariables false
set_option linter.unusedSimpArgs false
open Go.RowKit

section
variable {w w' : World} {xb n : Nat} {v : Value} {l : List (Int × Int)}
def Blk (w : World) (xb : Nat) (v : Value) (n : Nat) : Prop := w.heap[xb]? = some (.cells #[.int .i64 (n : Int), v] 37 (0, 0))
theorem Blk.c1 (h : Blk w xb v n) : w.cell? ⟨xb, 1, none⟩ = some v := by rw [cell_of_row w xb 1 _ _ (0, 0) h]; rfl
theorem Blk.fz (h : Blk w xb v n) (j : Nat) : w.frozen? ⟨xb, j, none⟩ = false := by simp [World.frozen?, show w.heap[xb]? = _ from h]
theorem Blk.set (h : Blk w xb v n) {v' : Value} {l' : List (Int × Int)} (hr : w.ownsRow 0 47 2 v' l'.length (dv l')) (hf : v'.ownBlock ≠ some xb) : Rf (w.setCell ⟨xb, 1, none⟩ v') xb v' n l' := by
  refine ⟨?_, ?_, hf⟩
  · have : w.heap[xb]? = _ := h
    simp [World.setCell, Array.getElem?_modify, this]
  · refine ⟨hr.1, ?_⟩
    rcases hr.2 with hn | ⟨g, cap, cur, hv, hb, hg, rest⟩
    · exact .inl hn
    · exact .inr ⟨g, cap, cur, hv, hb, (Below.heap_setCell w ⟨xb, 1, none⟩ v' g (fun e => hf (by rw [hv]; exact congrArg some e))).trans hg, rest⟩
end

set_option maxHeartbeats 1600000 in
theorem rarm_bad {w : World} {xb n : Nat} {v : Value} {l : List (Int × Int)} (R : Rf w xb v n l) {x t : Int} (ht : isI t) (hn : n + 20000 ≤ 4611686018427387904) (hb : ¬((n : Int) < t ∧ t ≤ (n : Int) + 4096)) :
    Calls Try.prog 14 #[ptr xb, .int .i64 x, .int .i64 t] w fun e w' => e = .returned (.int .i64 1) ∧ w' = w := by
  have c0 := R.c0
  clear R
  unfold isI at ht
  unfold ptr
  by_cases h1 : t ≤ (n : Int)
  · go_enter Try.func14, Try.ntmps14
    go_wp2_with fail
    go_ret
    exact ⟨rfl, rfl⟩
  · have h2 : (n : Int) + 4096 < t := by omega
    clear hb
    go_enter Try.func14, Try.ntmps14
    go_wp2_with fail
    go_ret
    exact ⟨rfl, rfl⟩

set_option maxHeartbeats 800000 in
theorem rarm_good {w : World} {xb n : Nat} {v : Value} {l : List (Int × Int)} (R : Rf w xb v n l) {x t : Int} (hx : isI x) (hn : n + 20000 ≤ 4611686018427387904) (hU : l.length ≤ 1099511627775) (ht1 : (n : Int) < t) (ht2 : t ≤ (n : Int) + 4096) :
    Calls Try.prog 14 #[ptr xb, .int .i64 x, .int .i64 t] w fun e w' => e = .returned (.int .i64 0) ∧ ∃ v', Rf w' xb v' n (woL l x ++ [(x, t)]) ∧ Ch w w' (fun k => k = xb) ∧ ∀ g, v'.ownBlock = some g → w.heap.size ≤ g := by
  have c0 := R.c0
  have hlt := R.lt
  have HC := Lib.hid (rcancel_any R hx (by omega))
  have hg1 : ¬ t ≤ (n : Int) := by omega
  have hg2 : ¬ (n : Int) + 4096 < t := by omega
  have hwl : (woL l x).length ≤ 1099511627776 := Nat.le_trans (List.length_filter_le _ _) (by omega)
  clear R
  unfold ptr at *
  go_enter Try.func14, Try.ntmps14
  go_wp2_with fail
  refine (HC.out).mono ?_
  rintro e w1 ⟨b, v1, rfl, _, R1, ch1, fr1⟩
  have k1 := R1.c1
  obtain ⟨d0, d1⟩ := d_cells w1 (.int .i64 x) (.int .i64 t) 47
  have O4 := Lib.hid (R1.row.alloc (.cells #[.int .i64 x, .int .i64 t] 47))
  have hs1 := ch1.size
  have HB := Lib.hid (show Blk (w1.alloc (.cells #[.int .i64 x, .int .i64 t] 47)) xb v1 n from (Below.heap_alloc w1 _ xb R1.lt).trans R1.blk)
  have HF := Lib.hid R1.far
  have HFR := Lib.hid fr1
  have HCH := Lib.hid (ch1.alloc (.cells #[.int .i64 x, .int .i64 t] 47))
  have hsz : (w1.alloc (.cells #[.int .i64 x, .int .i64 t] 47)).heap.size = w1.heap.size + 1 := World.size_alloc _ _
  have HSZ := Lib.hid hsz
  have hd0 := Lib.hid d0
  have hd1 := Lib.hid d1
  have hl1 := R1.lt
  clear R1 fr1 ch1 d0 d1 hsz HC
  go_wp2_with (first | (at_builtin; refine wpList_app2 rfl _ _ 35 47 rfl Try.underlying35 infoRDue 0 _ _ _ rfl O4.out (Nat.zero_le _) _ _ _ rfl hd0.out hd1.out hwl ?_; intro v4 w4 own4 gr4 at4; obtain ⟨A4, c4, rfl, hc4, hm4⟩ := own_slice own4; have b4 : Blk w4 xb v1 n := (gr4.block xb (by rw [HSZ.out]; omega) (fun e => HF.out e.symm)).trans HB.out; have k4 := b4.c1; have f4 := b4.fz 1; have HB4 := Lib.hid b4; have HO4 := Lib.hid own4; have HG4 := Lib.hid gr4; have HA4 := Lib.hid at4; clear b4 own4 gr4 at4))
  go_ret
  refine ⟨rfl, _, HB4.out.set (l' := woL l x ++ [(x, t)]) (by rw [List.length_append]; exact HO4.out) (fun e => ?_), (HCH.out.grown HG4.out fun k hk hkl => absurd (HFR.out k hk) (by omega)).setCell (p := ⟨xb, 1, none⟩) (fun _ => rfl) _, fun g hg => ?_⟩
  · rcases HA4.out with h | h
    · exact HF.out (h.symm.trans e)
    · rw [h] at e
      injection e with e
      have := HSZ.out
      omega
  · rcases HA4.out with h | h
    · exact HFR.out g (h.symm.trans hg)
    · rw [h] at hg
      injection hg with hg
      have := HSZ.out
      omega

end Go.Proofs.Ytkmhgcdjmfafhaa

/- slices.Index and slices.Delete of a row of one leg; what a sender does that is told of no data as lost. Condition: the row is the connection's own. -/
import Derived.Test.YtiehngeeamhlmaaGreatDoorCnSM
import Derived.Deep.OwnRows
import Derived.Lib.Overlaps
import Derived.LaidEqlPtr
namespace Go.Proofs.YtiehngeeamhlmaaGreatDoor
set_option linter.unusedVariables false
set_option linter.unusedSimpArgs false
set_option maxRecDepth 20000
open Go.RowKit Go.Lib

theorem elemLeg : Tryz.prog.underlying 95 = some (.slice (Tryz.prog.elem 95)) := by kernel_rfl
theorem sizeLeg (W : World) : (sizeOf (Tryz.prog.elem 95)).run Tryz.prog W = .ok 1 W := by kernel_rfl
theorem step_appRun {P : Program} {ops : Array Oper} {o : Oper} {a : Act} {w : World} {K : Act → World → Prop} {Q : Exit → Act → World → Prop} {E : Prop} (hgd : o.guard = none) (s x : Operand) (t : TypeId)
    (ho : o.op = .call { callee := .builtin .append, args := #[s, x], argTypes := #[t, t] }) (v u : Value) (hs : a.eval s = v) (hx : a.eval x = u) {v' : Value} {w' : World} (hr : (Builtin.append_ #[t, t] o.type #[v, u]).run P w = .ok v' w') (hK : K (a.put o.dst v') w') :
    if Region.wanted o (yielded ops a.tmps) = true then Oper.wp P o a w K Q else E := by
  have hw : Region.wanted o (yielded ops a.tmps) = true := by simp [Region.wanted, hgd]
  rw [if_pos hw]
  exact Lib.wp_append_run w s x t t ho _ _ hs hx v' w' hr hK
theorem wpList_clearL {P : Program} {w : World} {ops : Array Oper} {rest : List Oper} {o : Oper} {a : Act} {Q : Exit → Act → World → Prop} (hgd : o.guard = none) (d : Operand) (t : TypeId)
    (ho : o.op = .call { callee := .builtin .clear, args := #[d], argTypes := #[t] }) (v : Value) (hd : a.eval d = v) {v' : Value} {w' : World}
    (hr : (Builtin.clear_ #[t] o.type #[v]).run P w = .ok v' w') (h : wpList P ops Q rest (a.put o.dst v') w') : wpList P ops Q (o :: rest) a w :=
  wpList_plain hgd fun _ hK => by
    unfold Oper.wp execOp
    simp only [ho, resolve, invoke, builtin, Sem.run_bind, Sem.run_pure, Result.andThen_ok, List.map_toArray, List.map_cons, List.map_nil, hd, hr]
    exact hK _ _ h
set_option maxHeartbeats 1600000 in
theorem indexLeg_any {w : World} {g c lb : Nat} (h : w.cell? ⟨g, 0, none⟩ = some (.pointer (some ⟨lb, 0, none⟩))) (hc : 1 ≤ c) (hm : c ≤ 9223372036854775807) :
    Calls Tryz.prog 231 #[.slice (some ⟨g, 0, none⟩) 1 c, .pointer (some ⟨lb, 0, none⟩)] w fun e w' => e = .returned (.int .i64 0) ∧ w' = w := by
  have hj : ∃ j, Tryz.prog.info? 117 = some j := Option.isSome_iff_exists.1 (by kernel_rfl)
  obtain ⟨j, hj⟩ := hj
  have he : ∀ W, (binOp .eql 102 (.pointer (some ⟨lb, 0, none⟩)) (.pointer (some ⟨lb, 0, none⟩))).run Tryz.prog W = .ok (.bool true) W := fun W => run_eql_ptr_same W _ Tryz.underlying102 hj
  clear hj
  go_enter Tryz.func231, Tryz.ntmps231
  go_wp2_with fail
  go_loop [8] (fun i => i = .int .i64 0) (fun _ => 0)
  case atStart => rfl
  case round =>
    subst hrel
    go_wp2_with fail
    go_ret
    exact ⟨rfl, rfl⟩
set_option maxHeartbeats 3200000 in
theorem deleteLeg_any {w : World} {base g c : Nat} {u : Value} (h : w.ownsRow base 102 1 (.slice (some ⟨g, 0, none⟩) 1 c) 1 [u]) :
    Calls Tryz.prog 232 #[.slice (some ⟨g, 0, none⟩) 1 c, .int .i64 0, .int .i64 1] w fun e w' => e = .returned (.slice (some ⟨g, 0, none⟩) 0 c) ∧ Ch w w' (fun k => k = g) := by
  obtain ⟨cur, hg, hnc, hcm, hcs⟩ : ∃ cur, w.heap[g]? = some (.cells cur 102 (0, 0)) ∧ 1 ≤ c ∧ c ≤ maxLen ∧ cur.size = c * 1 := by
    rcases h.2 with ⟨e, _⟩ | ⟨g', cap, cur, e1, e2, e3, e4, e5, e6, _⟩
    · cases e
    · injection e1 with e1 _ e7
      injection e1 with e1
      injection e1 with e1
      subst e1 e7
      exact ⟨cur, e3, e4, e5, e6⟩
  have hm : c ≤ 9223372036854775807 := by unfold maxLen at hcm; exact hcm
  have hfz : ∀ j, w.drew.frozen? ⟨g, j, none⟩ = false := fun j => by simp [World.frozen?, show w.drew.heap[g]? = some (.cells cur 102 (0, 0)) from hg]
  obtain ⟨ii, hi, hzz⟩ := Option.map_eq_some_iff.1 infoLeg
  simp only [Prod.mk.injEq] at hzz
  obtain ⟨hz, hi2, hi3⟩ := hzz
  obtain ⟨A2, hA2⟩ : ∃ A2 : Option Addr, A2 = if c = 1 then some ⟨g, 0, none⟩ else some ⟨g, 1, none⟩ := ⟨_, rfl⟩
  have hsl : ∀ W, (Instr.slice 95 (.slice (some ⟨g, 0, none⟩) 1 c) (some (.int .i64 1)) none none).run Tryz.prog W = .ok (.slice A2 0 (c - 1)) W := fun W => by
    rw [run_slice_l (P := Tryz.prog) W 95 _ 1 c elemLeg .i64 (1 : Int) (by omega) (by omega), sizeLeg, hA2]
    by_cases e : c = 1
    · simp [Result.andThen, sliced, e]
    · simp [Result.andThen, sliced, e, Addr.add_lit]
  obtain ⟨a2, ha2⟩ : ∃ a2, A2 = some a2 := by rw [hA2]; split <;> exact ⟨_, rfl⟩
  have happ : ∀ ty, (Builtin.append_ #[95, 95] ty #[.slice (some ⟨g, 0, none⟩) 0 c, .slice A2 0 (c - 1)]).run Tryz.prog w.drew = .ok (.slice (some ⟨g, 0, none⟩) 0 c) w.drew := fun ty => by
    rw [ha2, run_append_room_cells (P := Tryz.prog) w.drew 95 ty 102 ii undLegs hi g 0 0 c a2 0 (c - 1) [] (by simp) (fun j u hj => by simp at hj) (fun u hu => by cases hu) (by omega) (fun j hj => by simp at hj) (fun j hj => by simp at hj)]
    simp [World.setCells]
  have hclr : ∀ ty, (Builtin.clear_ #[95] ty #[.slice (some ⟨g, 0, none⟩) 1 c]).run Tryz.prog w.drew = .ok (.tuple #[]) (w.drew.setCells g 0 (List.replicate 1 (.pointer none))) := fun ty =>
    Lib.run_clear_slice w.drew _ 102 ty (.pointer none) undLegs (fun W => by simp [zeroValue, typeInfo, hi, hz]) rfl rfl g 0 1 _ (by omega) (fun j hj => by
      rw [cell_of_row w.drew g (0 + j) cur _ (0, 0) hg]
      have : j < cur.size := by omega
      simp [this]) (fun j hj => hfz _)
  have HF : Hid (Ch w (w.drew.setCells g 0 (List.replicate 1 (.pointer none))) (fun k => k = g)) := Lib.hid ((Ch.refl w (fun k => k = g)).drew.then_ (grown_ch (v_g_setCells g _ 0 w.drew)))
  have hsl0 : ∀ W, (Instr.slice 95 (.slice (some ⟨g, 0, none⟩) 1 c) none (some (.int .i64 0)) none).run Tryz.prog W = .ok (.slice (some ⟨g, 0, none⟩) 0 c) W := fun W => by
    rw [run_slice_h (P := Tryz.prog) W 95 _ 1 c elemLeg .i64 (0 : Int) (by omega) (by omega)]
    try rw [sizeLeg]
    simp [Result.andThen, sliced]
    try (intro _; rfl)
  have hsl2 : ∀ W, (Instr.slice 95 (.slice (some ⟨g, 0, none⟩) 0 c) (some (.int .i64 0)) (some (.int .i64 1)) none).run Tryz.prog W = .ok (.slice (some ⟨g, 0, none⟩) 1 c) W := fun W => by
    rw [run_slice_lh (P := Tryz.prog) W 95 _ 0 c elemLeg .i64 .i64 (0 : Int) (1 : Int) (by omega) (by omega) (by omega), sizeLeg]
    have : ¬ c = 0 := by omega
    simp [Result.andThen, sliced, this, Addr.add_lit]
  have hnc' : (1 : Int) ≤ (c : Int) := by omega
  clear hg hcs hcm hfz hi hz hi2 hi3 hA2 ha2 h
  go_enter Tryz.func232, Tryz.ntmps232
  go_wp2_with fail
  go_region_held3 (fun _ => True) (trivial) (refine step_appRun rfl _ _ _ rfl _ _ rfl rfl (happ _) ?_)
  go_wp2_with (at_builtin; refine wpList_clearL rfl _ _ rfl _ rfl (hclr _) ?_)
  go_ret
  exact ⟨rfl, HF.out⟩
end Go.Proofs.YtiehngeeamhlmaaGreatDoor

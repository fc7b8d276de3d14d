/- Out of the row's condition: the package's variable holds the moves. Condition: the listed variable reads as the program's text lays it. -/
import Derived.Test.YtiehngeeamhlmaaGreatDoorRows
import Derived.Test.YtiehngeeamhlmaaGreatDoorClAM
import Derived.Lib.LaidTab
import Derived.OpenShut
import Derived.LaidMore
import Derived.LaidByTextLater
namespace Go.Proofs.YtiehngeeamhlmaaGreatDoor.LC
set_option linter.unusedVariables false
set_option linter.unusedSimpArgs false

section
variable {H : Type} {enc : TypeId × Value → H} {P : Program} {w : World} {base : Nat} {sp : Nat → Bool} {held : Bool}
/-- A move, as data. -/
def Mv.data (m : Mv) : DataW H := .agg [.agg [.lit (.int .i64 m.a), .lit (.int .i64 m.e)], .lit (.int .i64 m.t)]
theorem pair_cells {fs : Array Field} {t ti : TypeId} {fuel : Nat} {cs : List Value} {x y : Int} {p : List MemPlace} (ht : P.underlying t = some (.struct fs)) (hi : P.underlying ti = some (.int .i64)) (hc : P.cellsOf ti = 1) (hC : P.cellsOf t = 2)
    (hf : [fs[0]?, fs[1]?, fs[2]?].map (fun o => o.map fun f => (f.type, f.offset)) = [some (ti, 0), some (ti, 1), none])
    (h : DataW.trod enc P w base sp held fuel t cs = some (.agg [.lit (.int .i64 x), .lit (.int .i64 y)], p)) : cs = [.int .i64 x, .int .i64 y] := by
  obtain ⟨xs, n, _, hx, hlc, hlen, hg⟩ := DataW.trod_struct ht h
  rw [hC] at hlc
  have hxs : xs.map (·.1) = [.lit (.int .i64 x), .lit (.int .i64 y)] := by
    have := congrArg Prod.fst hx
    simpa using this.symm
  obtain ⟨x0, x1, rfl⟩ : ∃ x0 x1, xs = [x0, x1] := by
    have hl2 : xs.length = 2 := by simpa using congrArg List.length hxs
    match xs, hl2 with
    | [x0, x1], _ => exact ⟨x0, x1, rfl⟩
  simp only [List.map_cons, List.map_nil, List.cons.injEq, and_true] at hxs
  obtain ⟨e0, e1⟩ := hxs
  simp only [List.map_cons, List.map_nil, List.cons.injEq, and_true, Option.map_eq_some_iff, Option.map_eq_none_iff, Prod.mk.injEq] at hf
  obtain ⟨⟨f0, q0, t0, o0⟩, ⟨f1, q1, t1, o1⟩, q2⟩ := hf
  match cs, hlc with
  | [c0, c1], _ =>
    have g0 := hg 0 _ q0
    have g1 := hg 1 _ q1
    rw [t0, o0, hc] at g0
    rw [t1, o1, hc] at g1
    obtain ⟨a0, r0, s0, _⟩ := DataW.trod_int hi g0
    obtain ⟨a1, r1, s1, _⟩ := DataW.trod_int hi g1
    rw [s0] at e0
    rw [s1] at e1
    injection e0 with e0
    injection e0 with _ e0
    injection e1 with e1
    injection e1 with _ e1
    subst e0 e1
    obtain rfl : c0 = .int .i64 a0 := by have q : [c0] = _ := r0; injection q
    obtain rfl : c1 = .int .i64 a1 := by have q : [c1] = _ := r1; injection q
    rfl
theorem move_cells {fs gs : Array Field} {t tc ti : TypeId} {fuel : Nat} {cs : List Value} {m : Mv} {p : List MemPlace} (ht : P.underlying t = some (.struct gs)) (htc : P.underlying tc = some (.struct fs)) (hi : P.underlying ti = some (.int .i64)) (hc : P.cellsOf ti = 1) (hC : P.cellsOf tc = 2) (hM : P.cellsOf t = 3)
    (hf : [fs[0]?, fs[1]?, fs[2]?].map (fun o => o.map fun f => (f.type, f.offset)) = [some (ti, 0), some (ti, 1), none]) (hg0 : [gs[0]?, gs[1]?, gs[2]?].map (fun o => o.map fun f => (f.type, f.offset)) = [some (tc, 0), some (ti, 2), none])
    (h : DataW.trod enc P w base sp held fuel t cs = some (m.data, p)) : cs = m.vals := by
  obtain ⟨xs, n, _, hx, hlc, hlen, hg⟩ := DataW.trod_struct ht h
  rw [hM] at hlc
  have hxs : xs.map (·.1) = [.agg [.lit (.int .i64 m.a), .lit (.int .i64 m.e)], .lit (.int .i64 m.t)] := by
    have := congrArg Prod.fst hx
    simpa [Mv.data] using this.symm
  obtain ⟨x0, x1, rfl⟩ : ∃ x0 x1, xs = [x0, x1] := by
    have hl2 : xs.length = 2 := by simpa using congrArg List.length hxs
    match xs, hl2 with
    | [x0, x1], _ => exact ⟨x0, x1, rfl⟩
  obtain ⟨x0, y0⟩ := x0
  simp only [List.map_cons, List.map_nil, List.cons.injEq, and_true] at hxs
  obtain ⟨rfl, e1⟩ := hxs
  simp only [List.map_cons, List.map_nil, List.cons.injEq, and_true, Option.map_eq_some_iff, Option.map_eq_none_iff, Prod.mk.injEq] at hg0
  obtain ⟨⟨f0, q0, t0, o0⟩, ⟨f1, q1, t1, o1⟩, q2⟩ := hg0
  match cs, hlc with
  | [c0, c1, c2], _ =>
    have g0 := hg 0 _ q0
    have g1 := hg 1 _ q1
    rw [t0, o0, hC] at g0
    rw [t1, o1, hc] at g1
    have k0 := pair_cells htc hi hc hC hf g0
    obtain ⟨a1, r1, s1, _⟩ := DataW.trod_int hi g1
    rw [s1] at e1
    injection e1 with e1
    injection e1 with _ e1
    subst e1
    have k0' : [c0, c1] = _ := k0
    have r1' : [c2] = _ := r1
    injection k0' with k1 k2
    injection k2 with k2
    injection r1' with r1'
    subst k1 k2 r1'
    show [_, _, _] = [_, _, _]
    congr
theorem moves_cells {fs gs : Array Field} {t e tc ti : TypeId} {k : Nat} {fuel : Nat} {cs : List Value} {l : List Mv} {p : List MemPlace} (ha : P.underlying t = some (.array k e)) (ht : P.underlying e = some (.struct gs)) (htc : P.underlying tc = some (.struct fs)) (hi : P.underlying ti = some (.int .i64)) (hc : P.cellsOf ti = 1) (hC : P.cellsOf tc = 2) (hM : P.cellsOf e = 3)
    (hf : [fs[0]?, fs[1]?, fs[2]?].map (fun o => o.map fun f => (f.type, f.offset)) = [some (ti, 0), some (ti, 1), none]) (hg0 : [gs[0]?, gs[1]?, gs[2]?].map (fun o => o.map fun f => (f.type, f.offset)) = [some (tc, 0), some (ti, 2), none])
    (h : DataW.trod enc P w base sp held fuel t cs = some (.agg (l.map Mv.data), p)) (i : Nat) (hik : i < k) (m : Mv) (hm : l[i]? = some m) : (cs.drop (i * 3)).take 3 = m.vals := by
  obtain ⟨xs, n, _, hx, hlc, hlen, hg⟩ := DataW.trod_array ha h
  have hxs : xs.map (·.1) = l.map Mv.data := by
    have := congrArg Prod.fst hx
    simpa using this.symm
  have g := hg i hik
  rw [hM] at g
  obtain ⟨b, hb⟩ : ∃ b, xs[i]? = some b := ⟨_, List.getElem?_eq_getElem (by omega)⟩
  have h1 : (xs.map (·.1))[i]? = some m.data := by rw [hxs]; simp [hm]
  rw [List.getElem?_map, hb] at h1
  obtain ⟨b0, b1⟩ := b
  have h2 : b0 = m.data := by simpa using h1
  subst h2
  rw [hb] at g
  exact move_cells ht htc hi hc hC hM hf hg0 g
end

theorem gTab : Tryz.prog.globalNamed "ferrybridge/close.moves" = some 0 := by kernel_rfl
theorem gTabType : (Tryz.prog.globals[0]?).map (·.type) = some 137 := by kernel_rfl
theorem laid_ms : (Rows.laid_ferrybridge_close_moves : DataW Unit) = .agg (ms.map Mv.data) := rfl
theorem tab_of {W : World} (h : laidMetH Tryz.prog [("ferrybridge/close.moves", Rows.laid_ferrybridge_close_moves)] W) : Tab W := by
  rw [MakeChecks.laidMetH_plain _ _ _ (by kernel_rfl)] at h
  obtain ⟨ps, ⟨g', t', cs, fuel, p, q, hg', ht', hvar, hd, _, _⟩, _⟩ := h
  obtain rfl := Option.some.inj (gTab.symm.trans hg')
  obtain rfl := Option.some.inj (gTabType.symm.trans ht')
  rw [laid_ms] at hd
  have hrow := moves_cells Tryz.underlying137 Tryz.underlying136 Tryz.underlying134 Tryz.underlying3 (by kernel_rfl) (by kernel_rfl) (by kernel_rfl) rfl rfl hd
  intro j v hv
  have hj : j < 54 := by
    have := (List.getElem?_eq_some_iff.1 hv).1
    rwa [mvs_len] at this
  rw [Nat.zero_add, World.var?_cell gTab hvar j, ← Array.getElem?_toList]
  have hi : j / 3 < 18 := by omega
  have hm : ms[j / 3]? = some (ms.getD (j / 3) mz) := by
    rw [List.getD_eq_getElem?_getD, List.getElem?_eq_getElem (show j / 3 < ms.length from hi)]
    rfl
  have h1 := hrow (j / 3) hi _ hm
  rw [← mvs_at (j / 3) hi] at h1
  have h2 := congrArg (·[j % 3]?) h1
  simp only [List.getElem?_take, List.getElem?_drop, if_pos (show j % 3 < 3 by omega)] at h2
  rw [show j / 3 * 3 + j % 3 = j by omega] at h2
  rw [h2]
  exact hv
end Go.Proofs.YtiehngeeamhlmaaGreatDoor.LC

/- What the laws of layer 1 share: the example that each asks first holds, and a slice of bytes that came in holds some bytes. No condition. -/
import Derived.Test.YtjlgedfbnfaohaaPut
import Derived.OpenShut
namespace Go.Proofs.Ytjlgedfbnfaohaa
set_option linter.unusedVariables false
open Go.RowKit

theorem wakes_any (w : World) : Calls Try.prog 8 #[] w fun e w' => e = .returned (.bool true) ∧ Below w.heap.size w w' := by
  have hput : Calls Try.prog 9 #[.slice none 0 0, .int .u64 300, .int .i64 2] w (MadeRB w 2 [1, 44]) :=
    Put_any none 0 0 300 2 [] w (RB.nil_ w) (by decide) (by decide)
  go_enter Try.func8, Try.ntmps8
  go_wp2_with fail
  refine hput.mono ?_
  rintro e w1 ⟨A, c, rfl, hr, hb⟩
  clear hput
  go_wp2_with fail
  refine (Same_any _ _ _ _ _ _ _ _ _ (hr.alloc _) (RB.lit w1 [1, 44] _ (by unfold maxLen; simp))).mono ?_
  rintro e w2 ⟨rfl, q, rfl⟩
  go_wp2
  go_ret
  exact ⟨rfl, below_drewN (hb.trans ((below_a w1 _).mono hb.size)) q⟩

/-- A slice of bytes that came in: it holds some bytes. -/
theorem RB.of_row {w : World} {a : Option Addr} {len cap : Nat} {zs : List Int}
    (h : (a = none ∧ len = 0 ∧ cap = 0 ∧ zs = []) ∨ ∃ x, a = some x ∧ len ≤ cap ∧ cap ≤ maxLen ∧ zs.length = cap ∧ (∀ i, i < zs.length → w.cell? (x.add i) = some (.int .u8 (zs.getD i 0))) ∧ ∀ n ∈ zs, (Lit.int .u8 n).wf = true) :
    ∃ l, RB w a len cap l := by
  rcases h with ⟨rfl, rfl, rfl, rfl⟩ | ⟨x, rfl, h1, h2, h3, h4, h5⟩
  · exact ⟨[], RB.nil_ w⟩
  · refine ⟨(zs.take len).map fun z => UInt8.ofNat z.toNat, by rw [List.length_map, List.length_take]; omega, h1, h2, fun hn => ?_⟩
    obtain ⟨b, o, s⟩ := x
    have hc0 := h4 0 (by omega)
    have hs : s = none := by simpa [Addr.add] using World.cell?_spot hc0
    subst hs
    refine ⟨b, o, rfl, fun j hj => ?_⟩
    have hj' : j < zs.length := by omega
    have hc := h4 j hj'
    rw [Addr.add_lit] at hc
    rw [hc]
    have hw := h5 (zs.getD j 0) (by simp [hj'])
    have hb : 0 ≤ zs.getD j 0 ∧ zs.getD j 0 ≤ 255 := by
      simp only [List.getD_eq_getElem?_getD] at hw ⊢
      exact bounds_u8 hw
    congr 2
    simp only [List.getD_eq_getElem?_getD, List.getElem?_map, List.getElem?_take, hj, if_true, List.getElem?_eq_getElem hj', Option.map_some, Option.getD_some] at hb ⊢
    rw [UInt8.toNat_ofNat']
    omega
end Go.Proofs.Ytjlgedfbnfaohaa

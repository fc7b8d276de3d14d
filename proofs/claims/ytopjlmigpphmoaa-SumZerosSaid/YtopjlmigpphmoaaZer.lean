/- append of so many zeros onto a slice of bytes that the call owns, as one step of a walk. Condition: what comes out is at most 2^40 bytes long. -/
import Derived.Test.YtopjlmigpphmoaaApp
import Derived.Lib.AppendZerosOnto
namespace Go.Proofs.Ytopjlmigpphmoaa
set_option linter.unusedVariables false
open Go.RowKit

theorem bv_zeros (k : Nat) : (Builtin.zeroCells (Value.int .u8 0).cells k).toList = bv (List.replicate k 0) := by
  apply List.ext_getElem?
  intro j
  by_cases hj : j < k
  · simp [Builtin.zeroCells, Value.cells, bv, hj, Nat.mod_one]
  · simp [Builtin.zeroCells, Value.cells, bv, hj]

section
variable {P : Program} (w : World)

theorem app_zeros (t tn ty e : TypeId) (kn : IntKind) (ht : P.underlying t = some (.slice e)) (htn : P.underlying tn = some (.int kn)) (hi : (P.info? e).map (fun i => (i.zero, i.size, i.bytes)) = some (some (.int .u8 0), 1, 1))
    (base : Nat) (v : Value) (n : Nat) (l : List UInt8) (hown : w.ownsRow base e 1 v n (bv l)) (k : Nat) (hs : n + k ≤ 1099511627776) (hb : base ≤ w.heap.size) :
    ∃ v' w', (Builtin.append_ #[t, tn] ty #[v, .int kn (k : Int)]).run P w = .ok v' w' ∧ w'.ownsRow base e 1 v' (n + k) (bv (l ++ List.replicate k 0)) ∧ w.grownBy w' v.ownBlock := by
  obtain ⟨i, hi, hz, h1, h2⟩ := info_parts hi
  have hlen : (bv l).length = n := by have := hown.1; omega
  have hz1 : (Value.int IntKind.u8 0).cells.size = 1 := rfl
  have hlr : (bv (l ++ List.replicate k 0)).length = (n + k) * 1 := by rw [bv_append, List.length_append, hlen, bv_length, List.length_replicate, Nat.mul_one]
  have hw : IntKind.i64.wrap (k : Int) = k := by rw [IntKind.wrap_i64]; omega
  have hneg : ¬ ((k : Int) < 0) := by omega
  rcases hown.2 with ⟨rfl, rfl⟩ | ⟨g, cap, cur, rfl, hbg, hg, hnc, hcm, hcs, htake⟩
  · obtain rfl : l = [] := List.eq_nil_of_length_eq_zero (by rw [bv_length] at hlen; exact hlen)
    rcases Nat.eq_zero_or_pos k with rfl | hk
    · refine ⟨.slice none 0 0, w, ?_, by simpa using hown, World.grownBy.refl w _⟩
      have hw0 : IntKind.i64.wrap 0 = 0 := by rw [IntKind.wrap_i64]; rfl
      simp [Builtin.append_, run_underlying ht, run_underlying htn, sizeOf, typeInfo, hi, asInt, asIntOf, hw0, h1, h2]
    · have hr := Lib.run_append_nil_zeros (P := P) w t tn ty e i _ kn kn ht htn hi hz k hk (by omega) (by omega) (by rw [h2]; omega)
      have hge := grownCap_ge w k 0 e
      have hcm := grownCap_le_maxLen w k 0 e (by unfold maxLen; omega)
      rw [Nat.zero_add]
      refine ⟨_, _, hr, ⟨by simpa using hlr, .inr ⟨w.heap.size, _, _, rfl, hb, heap_alloc_new w.drew _, hge, hcm, ?_, ?_⟩⟩, ⟨rfl, rfl, rfl, by simp, fun j hj _ => heap_alloc_old w.drew _ hj⟩⟩
      · simp only [Array.size_append, size_zeroCells, hz1]
        omega
      · rw [Array.toList_append, bv_zeros, List.nil_append]
        exact List.take_left' (by simp [bv_length])
  · rcases Nat.eq_zero_or_pos k with rfl | hk
    · have hw0 : IntKind.i64.wrap 0 = 0 := by rw [IntKind.wrap_i64]; rfl
      refine ⟨.slice (some ⟨g, 0, none⟩) n cap, w, ?_, by simpa using hown, World.grownBy.refl w _⟩
      simp [Builtin.append_, run_underlying ht, run_underlying htn, sizeOf, typeInfo, hi, asInt, asIntOf, hw0, h1, h2, hnc, storeCells]
    by_cases hroom : n + k ≤ cap
    · have hfit : n + 0 + (bv (List.replicate k 0)).length ≤ cur.size := by rw [bv_length, List.length_replicate, hcs]; omega
      have hst := run_storeCells_at P g n e (bv (List.replicate k 0)) 0 cur w hg hfit (bv_one _)
      simp only [Nat.add_zero] at hst
      generalize hcc : (List.take n cur.toList ++ bv (List.replicate k 0) ++ List.drop (n + (bv (List.replicate k 0)).length) cur.toList).toArray = cc at hst
      refine ⟨.slice (some ⟨g, 0, none⟩) (n + k) cap, w.setRow g cc, ?_, ⟨hlr, .inr ⟨g, cap, cc, rfl, hbg, setRow_heap w g cur cc e _ hg, hroom, hcm, ?_, ?_⟩⟩, ⟨rfl, rfl, rfl, by simp, fun j _ hj => setRow_other w g j cc (fun e => hj (by simp [Value.ownBlock, e]))⟩⟩
      · have hk0 : ¬ (k = 0) := by omega
        have hz' : zeroValue e = Sem.pure (.int .u8 0) ∨ True := .inr trivial
        simp [Builtin.append_, run_underlying ht, run_underlying htn, sizeOf, typeInfo, zeroValue, hi, hz, asInt, asIntOf, hw, h1, h2, hroom, hneg, hk0, show ¬ (281474976710656 < (k : Int)) from by omega, Addr.add_lit, bv_zeros, hst]
      · rw [bv_length, List.length_replicate] at hfit
        rw [← hcc]
        simp only [List.size_toArray, List.length_append, List.length_take, List.length_drop, Array.length_toList, bv_length, List.length_replicate]
        omega
      · rw [← hcc, bv_append, ← htake, Nat.mul_one, Nat.mul_one]
        have e1 : (List.take n cur.toList ++ bv (List.replicate k 0)).length = n + k := by
          rw [List.length_append, List.length_take, Array.length_toList, bv_length, List.length_replicate]
          omega
        rw [← e1]
        exact List.take_left
    · have holds : ∀ j u, (bv l)[j]? = some u → w.cell? ((⟨g, 0, none⟩ : Addr).add j) = some u := hown.cells (g := g) rfl
      have hold : (Builtin.firstCells i.size n (.slice (some ⟨g, 0, none⟩) n cap)).run P w.drew = .ok (bv l).toArray w.drew := by
        rw [h1]
        exact run_firstCells_some (P := P) w.drew 1 n ⟨g, 0, none⟩ n cap (bv l) (by rw [hlen, Nat.mul_one]) holds
      have hr := Lib.run_append_grow_zeros (P := P) w t tn ty e i _ kn kn ht htn hi hz (some ⟨g, 0, none⟩) n cap (bv l) hold k hk (by omega) (by omega) (by omega) (by rw [h2]; omega) (by rw [h2]; exact growslice_fits (by omega) (by omega))
      have hge := grownCap_ge w (n + k) cap e
      have hcm := grownCap_le_maxLen w (n + k) cap e (by unfold maxLen; omega)
      refine ⟨_, _, hr, ⟨hlr, .inr ⟨w.heap.size, _, _, rfl, hb, heap_alloc_new w.drew _, hge, hcm, ?_, ?_⟩⟩, ⟨rfl, rfl, rfl, by simp, fun j hj _ => heap_alloc_old w.drew _ hj⟩⟩
      · simp only [Array.size_append, List.size_toArray, size_zeroCells, hz1, hlen]
        omega
      · rw [Array.toList_append, Array.toList_append, bv_zeros, bv_append]
        exact List.take_left' (by rw [List.length_append, bv_length, bv_length, List.length_replicate]; rw [bv_length] at hlen; omega)

/-- The same as one step of a walk, onto what the call owns. -/
theorem wpList_app_zeros {W w : World} {ops : Array Oper} {rest : List Oper} {o : Oper} {a : Act} {Q : Exit → Act → World → Prop} (hgd : o.guard = none) (s x : Operand) (t tn e : TypeId) (kn : IntKind)
    (ho : o.op = .call { callee := .builtin .append, args := #[s, x], argTypes := #[t, tn] })
    (ht : P.underlying t = some (.slice e)) (htn : P.underlying tn = some (.int kn)) (hi : (P.info? e).map (fun i => (i.zero, i.size, i.bytes)) = some (some (.int .u8 0), 1, 1))
    (v : Value) (n : Nat) (l : List UInt8) (hs : a.eval s = v) (hown : w.ownsRow W.heap.size e 1 v n (bv l)) (hb : Below W.heap.size W w)
    (k : Nat) (hx : a.eval x = .int kn (k : Int)) (h40 : n + k ≤ 1099511627776)
    (h : ∀ A' c' w', RB w' A' (n + k) c' (l ++ List.replicate k 0) → w'.ownsRow W.heap.size e 1 (.slice A' (n + k) c') (n + k) (bv (l ++ List.replicate k 0)) → Below W.heap.size W w' → wpList P ops Q rest (a.put o.dst (.slice A' (n + k) c')) w') :
    wpList P ops Q (o :: rest) a w := by
  obtain ⟨v', w', hrun, h1, h2⟩ := app_zeros (P := P) w t tn o.type e kn ht htn hi W.heap.size v n l hown k h40 hb.size
  have hb' := below_grown hb hown h2
  obtain ⟨A', c', rfl, hr', _⟩ := RB.of_own h1
  exact Lib.wpList_append_run w hgd s x t tn ho _ _ hs hx _ w' hrun (h A' c' w' hr' h1 hb')
end
end Go.Proofs.Ytopjlmigpphmoaa

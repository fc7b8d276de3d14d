/- Arrays of bytes in a walk: boxed, zeroed, loaded, stored, answered. No condition. -/
import Derived.Test.YtgkonmjchdpohaaDoorHmM
import Derived.Test.YtgkonmjchdpohaaDoorShaE
namespace Go.Proofs.YtgkonmjchdpohaaDoor
set_option linter.unusedVariables false
set_option linter.unusedSimpArgs false
open Go.RowKit


section
variable {w w' : World} {b n : Nat} {l : List UInt8}
/-- Bytes in a new block. -/
theorem Arb.new (w : World) (k : List UInt8) (t : TypeId) : Arb (w.alloc (.cells (bv k).toArray t)) w.heap.size k.length (fun j => k.getD j 0) := fun j hj => by
  refine ⟨?_, World.frozen?_alloc_at _ t _ j rfl⟩
  rw [cell_of_row _ w.heap.size j _ t (0, 0) (heap_alloc_new w _), List.getElem?_toArray]
  exact bv_at k j hj
theorem getD_range (l : List UInt8) : (List.range l.length).map (fun j => l.getD j 0) = l := by
  apply List.ext_getElem
  · simp
  · intro i h1 h2
    simp [h2]
theorem Arb.list (h : Arb w b n (fun j => l.getD j 0)) (hl : l.length = n) : w.rangeAt b 0 (bv l) := by
  have := h.range
  rw [← hl, getD_range] at this
  exact this
theorem Arb.rb (h : Arb w b n (fun j => l.getD j 0)) (hl : l.length = n) (hn : n ≤ 1099511627776) : RB w (some ⟨b, 0, none⟩) n n l :=
  ⟨hl, Nat.le_refl _, by unfold maxLen; omega, fun _ => ⟨b, 0, rfl, fun j hj => by rw [Nat.zero_add]; exact (h j hj).1⟩⟩
theorem Arb.of_range {f : Nat → UInt8} (h0 : Arb w b n f) (hl : l.length = n) : Arb (w.setCells b 0 (bv l)) b n (fun j => l.getD j 0) := fun j hj => by
  have h1 := World.rangeAt_setCells_same w b 0 (bv l) (by rw [bv_length, hl]; exact h0.there) j _ (bv_at l j (by omega))
  rw [Nat.zero_add] at h1
  exact ⟨h1, by rw [World.frozen?_setCells]; exact (h0 j hj).2⟩
theorem size_setCells (b : Nat) : ∀ (vs : List Value) (o : Nat) (w : World), (w.setCells b o vs).heap.size = w.heap.size
  | [], _, _ => rfl
  | v :: r, o, w => by rw [World.setCells, size_setCells b r (o + 1)]; simp [World.setCell]
end

section
variable {P : Program} {ops : Array Oper} {rest : List Oper} {o : Oper} {a : Act} {w : World} {Q : Exit → Act → World → Prop}
/-- A new variable that holds bytes as an array. -/
theorem wpList_boxA (hg : o.guard = none) (t : TypeId) (x : Operand) (ho : o.op = .box t x)
    (l : List UInt8) (n : Nat) (hl : l.length = n) (hx : a.eval x = .agg (bv l).toArray)
    (h : ∀ w', Arb w' w.heap.size n (fun j => l.getD j 0) → Below w.heap.size w w' → w'.heap.size = w.heap.size + 1 → wpList P ops Q rest (a.put o.dst (.pointer (some ⟨w.heap.size, 0, none⟩))) w') : wpList P ops Q (o :: rest) a w := by
  subst hl
  refine wpList_plain hg fun K hK => ?_
  unfold Oper.wp execOp
  simp only [ho, hx, Sem.run_bind, Instr.box, newVar, newRow, run_newObj_alloc, Sem.run_pure, Result.andThen_ok]
  exact hK _ _ (h _ (Arb.new w l t) (below_a w _) (by simp))
/-- A new variable that holds so many zeros. -/
theorem wpList_zerosA (hgd : o.guard = none) (t : TypeId) (ho : o.op = .alloc t)
    (n : Nat) (hz : (P.info? t).map (·.zero) = some (some (.agg (List.replicate n (Value.int .u8 0)).toArray))) (g : Nat) (hg : w.heap.size = g)
    (h : ∀ w', Arb w' g n (fun _ => 0) → Below w.heap.size w w' → w'.heap.size = g + 1 → wpList P ops Q rest (a.put o.dst (.pointer (some ⟨g, 0, none⟩))) w') : wpList P ops Q (o :: rest) a w := by
  subst hg
  refine wpList_plain hgd fun K hK => ?_
  cases hi : P.info? t with
  | none => simp [hi] at hz
  | some i =>
    have hz' : i.zero = some (.agg (List.replicate n (Value.int .u8 0)).toArray) := by simpa [hi] using hz
    have hrun : (execOp a.eval o).run P w = .ok (.value (.pointer (some ⟨w.heap.size, 0, none⟩))) (w.alloc (.cells (List.replicate n (Value.int .u8 0)).toArray t)) := by
      simp [execOp, ho, Instr.alloc, newVar, newRow, zeroValue, typeInfo, hi, hz', Value.cells, Result.andThen]
    unfold Oper.wp
    rw [hrun, Oper.upon_value]
    exact hK _ _ (h _ (Arb.zero w n t) (below_a w _) (by simp))
/-- A whole array of bytes, loaded. -/
theorem wpList_loadA (hgd : o.guard = none) (ty : TypeId) (x : Operand) (ho : o.op = .load ty x)
    (b n : Nat) (l : List UInt8) (hx : a.eval x = .pointer (some ⟨b, 0, none⟩)) (hA : Arb w b n (fun j => l.getD j 0)) (hl : l.length = n) (d : TypeDesc)
    (hu : P.underlying ty = some d) (hd : d.isRow = true) (hi : (P.info? ty).map (·.size) = some n)
    (h : wpList P ops Q rest (a.put o.dst (.agg (bv l).toArray)) w) : wpList P ops Q (o :: rest) a w :=
  wpList_load_mid hgd ty x ho b 0 hx (bv l) d (hA.list hl) hu hd (by rw [bv_length, hl]; exact hi) h
/-- .. and stored. -/
theorem wpList_storeA (hgd : o.guard = none) (ty : TypeId) (x y : Operand) (ho : o.op = .store ty x y)
    (b n : Nat) (f : Nat → UInt8) (l : List UInt8) (hx : a.eval x = .pointer (some ⟨b, 0, none⟩)) (hy : a.eval y = .agg (bv l).toArray) (hA : Arb w b n f) (hl : l.length = n)
    (hi : (P.info? ty).map (·.size) = some n)
    (h : ∀ w', Arb w' b n (fun j => l.getD j 0) → w.grownBy w' (some b) → w'.heap.size = w.heap.size → wpList P ops Q rest (a.put o.dst undef) w') : wpList P ops Q (o :: rest) a w := by
  refine wpList_store_mid hgd ty x y ho b 0 (bv l).toArray hx hy ?_ ?_ (all_oneCell_toArray (bv_one l)) (h _ (hA.of_range hl) (g_setCells b _ 0 w) (size_setCells b _ 0 w))
  · show w.there b 0 (bv l).length
    rw [bv_length, hl]; exact hA.there
  · show _ = some (bv l).length
    rw [bv_length, hl]; exact hi
end
/-- An array of bytes that a call answers out of its own block. -/
theorem results_A {P : Program} {fn : Func} {p : Tmp} {ty : TypeId} (h : fn.results = #[.cell p ty]) (tmps : Array Value) (w : World) (g n : Nat) (l : List UInt8) (d : TypeDesc)
    (hp : tmps.getD p undef = .pointer (some ⟨g, 0, none⟩)) (hA : Arb w g n (fun j => l.getD j 0)) (hl : l.length = n) (hu : P.underlying ty = some d) (hd : d.isRow = true) (hi : (P.info? ty).map (·.size) = some n) :
    (results fn tmps).run P w = .ok (.agg (bv l).toArray) w :=
  results_cell_mid h tmps w g (bv l) d hp (hA.list hl) hu hd (by rw [bv_length, hl]; exact hi)
theorem zero32 : (Tryd.prog.info? 69).map (·.zero) = some (some (.agg (List.replicate 32 (Value.int .u8 0)).toArray)) := by kernel_rfl

end Go.Proofs.YtgkonmjchdpohaaDoor

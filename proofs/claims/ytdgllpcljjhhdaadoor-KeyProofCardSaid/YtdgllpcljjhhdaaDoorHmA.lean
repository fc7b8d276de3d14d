/- The contract of a key to whose bytes a number is added. Condition: the key has 64 bytes. -/
import Derived.Test.YtdgllpcljjhhdaaDoorHmM
import Derived.Test.YtdgllpcljjhhdaaDoorShaE
namespace Go.Proofs.YtdgllpcljjhhdaaDoor
set_option linter.unusedVariables false
open Go.RowKit

theorem infoBlock : (Tryd.prog.info? 61).map (·.size) = some 64 := by kernel_rfl

/-- The key's bytes, to the first i of which n is added. -/
def xok (n : UInt8) (k : List UInt8) (i : Nat) : Nat → UInt8 := fun j => if j < i then k.getD j 0 ^^^ n else k.getD j 0
theorem xok_zero (n : UInt8) (k : List UInt8) : xok n k 0 = fun j => k.getD j 0 := by funext j; simp [xok]
theorem xok_at (n : UInt8) (k : List UInt8) (i : Nat) : xok n k i i = k.getD i 0 := by simp [xok]
theorem xok_step (n : UInt8) (k : List UInt8) (i : Nat) : putb (xok n k i) i (k.getD i 0 ^^^ n) = xok n k (i + 1) := by
  funext j
  unfold putb xok
  by_cases h : j = i
  · subst h; simp
  · by_cases h2 : j < i
    · simp [h, h2, Nat.lt_succ_of_lt h2]
    · simp [h, h2, show ¬ j < i + 1 by omega]
theorem xok_all (n : UInt8) (k : List UInt8) (h : k.length = 64) : (List.range 64).map (xok n k 64) = xo n k := by
  apply List.ext_getElem
  · simp [xo, h]
  · intro i h1 h2
    have hi : i < 64 := by simpa using h1
    simp [xok, xo, hi, h]
section
variable {w w' : World} {b n : Nat} {l : List UInt8}
/-- Bytes in a new block. -/
theorem Arb.new (w : World) (k : List UInt8) (t : TypeId) : Arb (w.alloc (.cells (bv k).toArray t)) w.heap.size k.length (fun j => k.getD j 0) := fun j hj => by
  refine ⟨?_, World.frozen?_alloc_at _ t _ j rfl⟩
  rw [cell_of_row _ w.heap.size j _ t (0, 0) (heap_alloc_new w _), List.getElem?_toArray]
  exact bv_at k j hj
theorem getD_range (l : List UInt8) : (List.range l.length).map (fun j => l.getD j 0) = l := by
  apply List.ext_getElem
  · simp
  · intro i h1 h2
    simp [h2]
theorem Arb.list (h : Arb w b n (fun j => l.getD j 0)) (hl : l.length = n) : w.rangeAt b 0 (bv l) := by
  have := h.range
  rw [← hl, getD_range] at this
  exact this
theorem Arb.rb (h : Arb w b n (fun j => l.getD j 0)) (hl : l.length = n) (hn : n ≤ 1099511627776) : RB w (some ⟨b, 0, none⟩) n n l :=
  ⟨hl, Nat.le_refl _, by unfold maxLen; omega, fun _ => ⟨b, 0, rfl, fun j hj => by rw [Nat.zero_add]; exact (h j hj).1⟩⟩
theorem Arb.of_range {f : Nat → UInt8} (h0 : Arb w b n f) (hl : l.length = n) : Arb (w.setCells b 0 (bv l)) b n (fun j => l.getD j 0) := fun j hj => by
  have h1 := World.rangeAt_setCells_same w b 0 (bv l) (by rw [bv_length, hl]; exact h0.there) j _ (bv_at l j (by omega))
  rw [Nat.zero_add] at h1
  exact ⟨h1, by rw [World.frozen?_setCells]; exact (h0 j hj).2⟩
theorem size_setCells (b : Nat) : ∀ (vs : List Value) (o : Nat) (w : World), (w.setCells b o vs).heap.size = w.heap.size
  | [], _, _ => rfl
  | v :: r, o, w => by rw [World.setCells, size_setCells b r (o + 1)]; simp [World.setCell]
end

section
variable {P : Program} {ops : Array Oper} {rest : List Oper} {o : Oper} {a : Act} {w : World} {Q : Exit → Act → World → Prop}
/-- A new variable that holds bytes as an array. -/
theorem wpList_boxA (hg : o.guard = none) (t : TypeId) (x : Operand) (ho : o.op = .box t x)
    (l : List UInt8) (n : Nat) (hl : l.length = n) (hx : a.eval x = .agg (bv l).toArray)
    (h : ∀ w', Arb w' w.heap.size n (fun j => l.getD j 0) → Below w.heap.size w w' → w'.heap.size = w.heap.size + 1 → wpList P ops Q rest (a.put o.dst (.pointer (some ⟨w.heap.size, 0, none⟩))) w') : wpList P ops Q (o :: rest) a w := by
  subst hl
  refine wpList_plain hg fun K hK => ?_
  unfold Oper.wp execOp
  simp only [ho, hx, Sem.run_bind, Instr.box, newVar, newRow, run_newObj_alloc, Sem.run_pure, Result.andThen_ok]
  exact hK _ _ (h _ (Arb.new w l t) (below_a w _) (by simp))
/-- A new variable that holds so many zeros. -/
theorem wpList_zerosA (hgd : o.guard = none) (t : TypeId) (ho : o.op = .alloc t)
    (n : Nat) (hz : (P.info? t).map (·.zero) = some (some (.agg (List.replicate n (Value.int .u8 0)).toArray))) (g : Nat) (hg : w.heap.size = g)
    (h : ∀ w', Arb w' g n (fun _ => 0) → Below w.heap.size w w' → w'.heap.size = g + 1 → wpList P ops Q rest (a.put o.dst (.pointer (some ⟨g, 0, none⟩))) w') : wpList P ops Q (o :: rest) a w := by
  subst hg
  refine wpList_plain hgd fun K hK => ?_
  cases hi : P.info? t with
  | none => simp [hi] at hz
  | some i =>
    have hz' : i.zero = some (.agg (List.replicate n (Value.int .u8 0)).toArray) := by simpa [hi] using hz
    have hrun : (execOp a.eval o).run P w = .ok (.value (.pointer (some ⟨w.heap.size, 0, none⟩))) (w.alloc (.cells (List.replicate n (Value.int .u8 0)).toArray t)) := by
      simp [execOp, ho, Instr.alloc, newVar, newRow, zeroValue, typeInfo, hi, hz', Value.cells, Result.andThen]
    unfold Oper.wp
    rw [hrun, Oper.upon_value]
    exact hK _ _ (h _ (Arb.zero w n t) (below_a w _) (by simp))
/-- A whole array of bytes, loaded. -/
theorem wpList_loadA (hgd : o.guard = none) (ty : TypeId) (x : Operand) (ho : o.op = .load ty x)
    (b n : Nat) (l : List UInt8) (hx : a.eval x = .pointer (some ⟨b, 0, none⟩)) (hA : Arb w b n (fun j => l.getD j 0)) (hl : l.length = n) (d : TypeDesc)
    (hu : P.underlying ty = some d) (hd : d.isRow = true) (hi : (P.info? ty).map (·.size) = some n)
    (h : wpList P ops Q rest (a.put o.dst (.agg (bv l).toArray)) w) : wpList P ops Q (o :: rest) a w :=
  wpList_load_mid hgd ty x ho b 0 hx (bv l) d (hA.list hl) hu hd (by rw [bv_length, hl]; exact hi) h
/-- .. and stored. -/
theorem wpList_storeA (hgd : o.guard = none) (ty : TypeId) (x y : Operand) (ho : o.op = .store ty x y)
    (b n : Nat) (f : Nat → UInt8) (l : List UInt8) (hx : a.eval x = .pointer (some ⟨b, 0, none⟩)) (hy : a.eval y = .agg (bv l).toArray) (hA : Arb w b n f) (hl : l.length = n)
    (hi : (P.info? ty).map (·.size) = some n)
    (h : ∀ w', Arb w' b n (fun j => l.getD j 0) → w.grownBy w' (some b) → w'.heap.size = w.heap.size → wpList P ops Q rest (a.put o.dst undef) w') : wpList P ops Q (o :: rest) a w := by
  refine wpList_store_mid hgd ty x y ho b 0 (bv l).toArray hx hy ?_ ?_ (all_oneCell_toArray (bv_one l)) (h _ (hA.of_range hl) (g_setCells b _ 0 w) (size_setCells b _ 0 w))
  · show w.there b 0 (bv l).length
    rw [bv_length, hl]; exact hA.there
  · show _ = some (bv l).length
    rw [bv_length, hl]; exact hi
end
/-- An array of bytes that a call answers out of its own block. -/
theorem results_A {P : Program} {fn : Func} {p : Tmp} {ty : TypeId} (h : fn.results = #[.cell p ty]) (tmps : Array Value) (w : World) (g n : Nat) (l : List UInt8) (d : TypeDesc)
    (hp : tmps.getD p undef = .pointer (some ⟨g, 0, none⟩)) (hA : Arb w g n (fun j => l.getD j 0)) (hl : l.length = n) (hu : P.underlying ty = some d) (hd : d.isRow = true) (hi : (P.info? ty).map (·.size) = some n) :
    (results fn tmps).run P w = .ok (.agg (bv l).toArray) w :=
  results_cell_mid h tmps w g (bv l) d hp (hA.list hl) hu hd (by rw [bv_length, hl]; exact hi)
theorem zero32 : (Tryd.prog.info? 31).map (·.zero) = some (some (.agg (List.replicate 32 (Value.int .u8 0)).toArray)) := by kernel_rfl
theorem zeroBlock : (Tryd.prog.info? 61).map (·.zero) = some (some (.agg (List.replicate 64 (Value.int .u8 0)).toArray)) := by kernel_rfl

set_option maxRecDepth 8000 in
set_option maxHeartbeats 800000 in
theorem added_any (k : List UInt8) (hk : k.length = 64) (n : UInt8) (w : World) :
    Calls Tryd.prog 31 #[.agg (bv k).toArray, .int .u8 (n.toNat : Int)] w fun e w' => e = .returned (.agg (bv (xo n k)).toArray) ∧ Below w.heap.size w w' := by
  have HX := Lib.hid (xok_all n k hk)
  have HXL : Hid ((xo n k).length = 64) := Lib.hid (by rw [xo_length, hk])
  go_enter Tryd.func31, Tryd.ntmps31
  go_wp2_with (first
    | ((with_reducible refine wpList_here ?_); refine wpList_boxA rfl 61 (.tmp 0) rfl k 64 hk rfl ?_; intro w1 z1 zb hsz)
    | ((with_reducible refine wpList_here ?_); refine wpList_zerosA rfl 61 rfl 64 zeroBlock (w.heap.size + 1) hsz ?_; intro w2 z2 zb2 hsz2))
  have z3 := z1.below zb2
  have zb3 := below_trans zb zb2
  clear z1 zb zb2
  go_loopw [6] (fun i wr => ∃ j : Nat, j ≤ 64 ∧ i = .int .i64 j ∧ Arb wr w.heap.size 64 (xok n k j) ∧ Arb wr (w.heap.size + 1) 64 (fun _ => 0) ∧ Below w.heap.size w wr) (fun i _ => 64 - (intOf i).toNat)
  case atStart => exact ⟨0, Nat.zero_le _, rfl, by rw [xok_zero]; exact z3, z2, zb3⟩
  case round =>
    obtain ⟨j, hj, rfl, ha, hz, hb⟩ := hrel
    clear z2 z3 zb3
    by_cases hlt : j < 64
    · have hlt' : (j : Int) < 64 := by omega
      obtain ⟨c1, f1⟩ := ha j hlt
      have HS := Lib.hid (xok_step n k j)
      rw [xok_at] at c1
      generalize k.getD j 0 = x at *
      go_wp2_with fail
      rw [b_xor]
      go_roundw
      case rel => exact ⟨j + 1, by omega, by go_num, by rw [← HS.out]; exact ha.set j _, hz.far (g_set _ _ _ _) (by simp), hb.setCell (Nat.le_refl _) _⟩
      case measure => simp [intOf]; omega
    · obtain rfl : j = 64 := by omega
      have ha2 : Arb wr w.heap.size 64 (fun j => (xo n k).getD j 0) := ha.congr (fun j hj => by rw [← HX.out]; simp [hj])
      go_wp2_with (first
        | ((with_reducible refine wpList_here ?_); refine wpList_loadA rfl 61 (.tmp 2) rfl _ 64 (xo n k) rfl ha2 HXL.out (.array 64 5) Tryd.underlying61 rfl infoBlock ?_)
        | ((with_reducible refine wpList_here ?_); refine wpList_storeA rfl 61 (.tmp 4) (.tmp 16) rfl _ 64 _ (xo n k) rfl rfl hz HXL.out infoBlock ?_; intro w5 z5 g5 _))
      refine bodyPost_ret (results_A rfl _ _ (w.heap.size + 1) 64 (xo n k) (.array 64 5) rfl z5 HXL.out Tryd.underlying61 rfl infoBlock) rfl ⟨rfl, below_g hb g5 hb.size (Nat.le_succ _)⟩
end Go.Proofs.YtdgllpcljjhhdaaDoor

/- The contracts of what ends a text, and of the digest's bytes. Conditions: a text of at most 2^38 bytes; the receiver is a block of eight words.
Arrays of bytes in a walk: boxed, zeroed, loaded, stored, answered. No condition.
The contracts of octet.Cut. Condition: the slice holds bytes, at most 2^39 of them.
The contracts of octet.Take. Condition: the slices hold bytes, at most 2^39 of them.
Contracts of key.front and key.put. Conditions: the digest has 32 bytes, four or eight of them are taken; the list holds at most a thousand numbers of 64 bits.
Layer 5's mathematics: a key's token, and what proves two keys. No program, no condition.
The contract of the digest: of any pieces it is the digest of all their bytes. Conditions: the pieces hold bytes, at most 2^38 of them; the table holds FIPS 180-4's constants. -/
import Derived.Test.YthfblaiocdgkbaaDoorMg4
import Derived.Test.YthfblaiocdgkbaaDoorMg3
import Derived.Deep.RegionWith
import Derived.Laws.BitsAllLaws
import Derived.Test.YthfblaiocdgkbaaDoorMg1
namespace Go.Proofs.YthfblaiocdgkbaaDoor
set_option linter.unusedVariables false
set_option linter.unusedSimpArgs false
open Go.RowKit

theorem ends_eq (n : Nat) (h : n ≤ 274877906944) : ends n = (List.replicate ((119 - n % 64) % 64 + 1) (0 : UInt8)).set 0 128 ++ be (8 * n) 8 := by
  unfold ends
  rw [Nat.mod_eq_of_lt (show 8 * n < 18446744073709551616 by omega), List.replicate_succ]
  rfl
theorem made_bv (n : Nat) : (madeCells (Value.int .u8 0).cells (n * 1)).toList = bv (List.replicate n 0) := by
  rw [Nat.mul_one]
  simp [madeCells, bv, Value.cells, Nat.mod_one, List.map_const']

set_option maxHeartbeats 400000 in
theorem ending_any (n : Nat) (w : World) (hn : n ≤ 274877906944) :
    Calls Tryd.prog 36 #[.int .i64 (n : Int)] w (MadeRB w ((119 - n % 64) % 64 + 1 + 8) (ends n)) := by
  obtain ⟨i0, hi, hz0, hz1, hz2⟩ := info_parts infoByte
  have hz : (119 - (n : Int) % 64) % 64 = (((119 - n % 64) % 64 : Nat) : Int) := by omega
  have hlt := Nat.mod_lt (119 - n % 64) (show 0 < 64 by omega)
  have HE := Lib.hid (ends_eq n hn)
  generalize (119 - n % 64) % 64 = z at *
  have HI := Lib.hid hi
  have H0 := Lib.hid hz0
  have H1 := Lib.hid hz1
  have H2 := Lib.hid hz2
  clear hi hz0 hz1 hz2
  have h8 : 8 * (n : Int) = ((8 * n : Nat) : Int) := by omega
  have hm : 8 * n < 18446744073709551616 := by omega
  generalize 8 * n = m at *
  go_enter Tryd.func36, Tryd.ntmps36
  go_wp2_with (first
    | (go_at_call 39; refine (Put_any (some ⟨w.heap.size, 0, none⟩) (z + 1) (z + 1) m 8 _ _ hr hm (by omega)).mono ?_; rintro e w3 ⟨A3, c3, rfl, hr3, hb3⟩)
    | (at_make; refine wpList_make_full w rfl (.tmp 10) (.tmp 10) 71 rfl w.heap.size 5 i0 _ 1 Tryd.underlying71 HI.out H0.out H1.out .i64 .i64 _ _ (z + 1) rfl rfl (by omega) (by omega) (by rw [H2.out]; omega) (by unfold maxLen; omega) (Nat.le_refl _) ?_
       intro w1 hown hg
       rw [made_bv] at hown
       obtain ⟨g, cap, hv, _, _, _, hc, hf⟩ := own_at hown (j := 0) (by omega)
       injection hv with e1 _ e3
       injection e1 with e1
       injection e1 with e1
       subst e1 e3
       have ho := own_set (j := 0) (x := 128) hown (by omega) (by omega)
       have hb2 : Below w.heap.size w (w1.setCell ⟨w.heap.size, 0, none⟩ (.int .u8 128)) := ((Below.refl _ _).grown hg (Nat.le_refl _) (fun k hk => by cases hk)).setCell (Nat.le_refl _) _
       obtain ⟨A2, c2, hv2, hr, _⟩ := RB.of_own ho
       injection hv2 with e1 _ e3
       subst e1 e3
       clear hown hg ho))
  go_ret
  have e : (z + 1 + wn 8) = z + 1 + 8 := rfl
  rw [HE.out]
  exact ⟨A3, c3, rfl, hr3, hb2.trans (hb3.mono hb2.size)⟩

theorem info32 : (Tryd.prog.info? 69).map (·.size) = some 32 := by kernel_rfl
theorem byte_of (x : UInt32) (m : Nat) : ((x.toNat : Int) / 2 ^ m) % 256 = ((UInt8.ofNat (x.toNat / 2 ^ m % 256)).toNat : Int) := by
  rw [UInt8.toNat_ofNat']
  have e : (x.toNat : Int) / 2 ^ m = ((x.toNat / 2 ^ m : Nat) : Int) := by
    rw [Int.natCast_ediv, Int.natCast_pow]; rfl
  rw [e]
  omega
/-- The digest's first k bytes. -/
def dgs (f : Nat → UInt32) (k : Nat) : Nat → UInt8 := fun i => if i < k then UInt8.ofNat ((f (i / 4)).toNat / 2 ^ (24 - 8 * (i % 4)) % 256) else 0
theorem dgs_zero (f : Nat → UInt32) : dgs f 0 = fun _ => 0 := by funext i; simp [dgs]
theorem dgs_step (f : Nat → UInt32) (k : Nat) : putb (dgs f k) k (UInt8.ofNat ((f (k / 4)).toNat / 2 ^ (24 - 8 * (k % 4)) % 256)) = dgs f (k + 1) := by
  funext i
  unfold putb dgs
  by_cases h : i = k
  · subst h; simp
  · by_cases h2 : i < k
    · simp [h, h2, Nat.lt_succ_of_lt h2]
    · simp [h, h2, show ¬ i < k + 1 by omega]
def dgl (f : Nat → UInt32) : List UInt8 := (List.range 32).map fun i => UInt8.ofNat ((f (i / 4)).toNat / 2 ^ (24 - 8 * (i % 4)) % 256)

set_option maxRecDepth 8000 in
set_option maxHeartbeats 800000 in
theorem digest_any (b : Nat) (f : Nat → UInt32) (w : World) (h : Arr w b 8 f) :
    Calls Tryd.prog 38 #[.pointer (some ⟨b, 0, none⟩)] w fun e w' => e = .returned (.agg (bv (dgl f)).toArray) ∧ Below w.heap.size w w' := by
  have z1 := Arb.zero w 32 69
  have z2 := Arb.zero (w.alloc (.cells (List.replicate 32 (Value.int .u8 0)).toArray 69)) 32 69
  rw [show (w.alloc (.cells (List.replicate 32 (Value.int .u8 0)).toArray 69)).heap.size = w.heap.size + 1 from by simp] at z2
  have z3 := z1.below (below_a _ (.cells (List.replicate 32 (Value.int .u8 0)).toArray 69))
  have zb := below_a2 w (.cells (List.replicate 32 (Value.int .u8 0)).toArray 69) (.cells (List.replicate 32 (Value.int .u8 0)).toArray 69)
  go_enter Tryd.func38, Tryd.ntmps38
  go_wp2_with fail
  go_loopw [5] (fun i wr => ∃ k : Nat, k ≤ 32 ∧ i = .int .i64 k ∧ Arb wr (w.heap.size + 1) 32 (dgs f k) ∧ Arb wr w.heap.size 32 (fun _ => 0) ∧ Below w.heap.size w wr) (fun i _ => 32 - (intOf i).toNat)
  case atStart => exact ⟨0, Nat.zero_le _, rfl, by rw [dgs_zero]; exact z2, z3, zb⟩
  case round =>
    obtain ⟨k, hk, rfl, ha, hz, hb⟩ := hrel
    clear z1 z2 z3 zb
    by_cases hlt : k < 32
    · have hlt' : (k : Int) < 32 := by omega
      have hq : (k : Int) / 4 = ((k / 4 : Nat) : Int) := by omega
      have hq1 : k / 4 < 8 := by omega
      have hq2 : ((k / 4 : Nat) : Int) < 8 := by omega
      have hs : 24 - 8 * ((k : Int) % 4) = ((24 - 8 * (k % 4) : Nat) : Int) := by omega
      have hs2 : 24 - 8 * (k % 4) ≤ 32 := by omega
      obtain ⟨c1, _⟩ := (h.below hb) (k / 4) hq1
      obtain ⟨c2, f2⟩ := ha k hlt
      have HS := Lib.hid (dgs_step f k)
      generalize k / 4 = q at *
      generalize 24 - 8 * (k % 4) = m at *
      generalize f q = x at *
      have HB := Lib.hid (byte_of x m)
      generalize UInt8.ofNat (x.toNat / 2 ^ m % 256) = y at *
      go_wp2_with fail
      rw [HB.out]
      go_roundw
      case rel => exact ⟨k + 1, by omega, by go_num, by rw [← HS.out]; exact ha.set k y, hz.far (g_set _ _ _ _) (by simp), hb.setCell (by simp) _⟩
      case measure => simp [intOf]; omega
    · obtain rfl : k = 32 := by omega
      have hA := Lib.hid ha.range
      have hT := Lib.hid hz.there
      have hD : Hid ((List.range 32).map (dgs f 32) = dgl f) := Lib.hid (by
        unfold dgl
        apply List.map_congr_left
        intro i hi
        have : i < 32 := by simpa using hi
        simp [dgs, this])
      rw [hD.out] at hA
      have hl : (bv (dgl f)).length = 32 := by simp [bv, dgl]
      have hi : (Tryd.prog.info? 69).map (·.size) = some (bv (dgl f)).length := by rw [hl]; exact info32
      have hT2 : wr.there w.heap.size 0 (bv (dgl f)).toArray.size := by show wr.there w.heap.size 0 (bv (dgl f)).length; rw [hl]; exact hT.out
      have HI := Lib.hid hi
      have HT := Lib.hid hT2
      clear hi hT2 hT hD
      go_wp2_with (first
        | ((with_reducible refine wpList_here ?_); refine wpList_load_mid rfl 69 (.tmp 3) rfl _ 0 rfl (bv (dgl f)) (.array 32 5) hA.out Tryd.underlying69 rfl HI.out ?_)
        | ((with_reducible refine wpList_here ?_); refine wpList_store_mid rfl 69 (.tmp 2) (.tmp 23) rfl _ 0 (bv (dgl f)).toArray rfl rfl HT.out HI.out (all_oneCell_toArray (bv_one _)) ?_))
      refine bodyPost_ret (results_cell_mid rfl _ _ w.heap.size (bv (dgl f)) (.array 32 5) rfl (World.rangeAt_setCells_same _ _ _ _ (show wr.there _ 0 (bv (dgl f)).length from HT.out)) Tryd.underlying69 rfl HI.out) rfl ⟨rfl, below_setCells _ (Nat.le_refl _) _ _ _ hb⟩
end Go.Proofs.YthfblaiocdgkbaaDoor

namespace Go.Proofs.YthfblaiocdgkbaaDoor
set_option linter.unusedVariables false
set_option linter.unusedSimpArgs false
open Go.RowKit


section
variable {w w' : World} {b n : Nat} {l : List UInt8}
/-- Bytes in a new block. -/
theorem Arb.new (w : World) (k : List UInt8) (t : TypeId) : Arb (w.alloc (.cells (bv k).toArray t)) w.heap.size k.length (fun j => k.getD j 0) := fun j hj => by
  refine ⟨?_, World.frozen?_alloc_at _ t _ j rfl⟩
  rw [cell_of_row _ w.heap.size j _ t (0, 0) (heap_alloc_new w _), List.getElem?_toArray]
  exact bv_at k j hj
theorem getD_range (l : List UInt8) : (List.range l.length).map (fun j => l.getD j 0) = l := by
  apply List.ext_getElem
  · simp
  · intro i h1 h2
    simp [h2]
theorem Arb.list (h : Arb w b n (fun j => l.getD j 0)) (hl : l.length = n) : w.rangeAt b 0 (bv l) := by
  have := h.range
  rw [← hl, getD_range] at this
  exact this
theorem Arb.rb (h : Arb w b n (fun j => l.getD j 0)) (hl : l.length = n) (hn : n ≤ 1099511627776) : RB w (some ⟨b, 0, none⟩) n n l :=
  ⟨hl, Nat.le_refl _, by unfold maxLen; omega, fun _ => ⟨b, 0, rfl, fun j hj => by rw [Nat.zero_add]; exact (h j hj).1⟩⟩
theorem Arb.of_range {f : Nat → UInt8} (h0 : Arb w b n f) (hl : l.length = n) : Arb (w.setCells b 0 (bv l)) b n (fun j => l.getD j 0) := fun j hj => by
  have h1 := World.rangeAt_setCells_same w b 0 (bv l) (by rw [bv_length, hl]; exact h0.there) j _ (bv_at l j (by omega))
  rw [Nat.zero_add] at h1
  exact ⟨h1, by rw [World.frozen?_setCells]; exact (h0 j hj).2⟩
theorem size_setCells (b : Nat) : ∀ (vs : List Value) (o : Nat) (w : World), (w.setCells b o vs).heap.size = w.heap.size
  | [], _, _ => rfl
  | v :: r, o, w => by rw [World.setCells, size_setCells b r (o + 1)]; simp [World.setCell]
end

section
variable {P : Program} {ops : Array Oper} {rest : List Oper} {o : Oper} {a : Act} {w : World} {Q : Exit → Act → World → Prop}
/-- A new variable that holds bytes as an array. -/
theorem wpList_boxA (hg : o.guard = none) (t : TypeId) (x : Operand) (ho : o.op = .box t x)
    (l : List UInt8) (n : Nat) (hl : l.length = n) (hx : a.eval x = .agg (bv l).toArray)
    (h : ∀ w', Arb w' w.heap.size n (fun j => l.getD j 0) → Below w.heap.size w w' → w'.heap.size = w.heap.size + 1 → wpList P ops Q rest (a.put o.dst (.pointer (some ⟨w.heap.size, 0, none⟩))) w') : wpList P ops Q (o :: rest) a w := by
  subst hl
  refine wpList_plain hg fun K hK => ?_
  unfold Oper.wp execOp
  simp only [ho, hx, Sem.run_bind, Instr.box, newVar, newRow, run_newObj_alloc, Sem.run_pure, Result.andThen_ok]
  exact hK _ _ (h _ (Arb.new w l t) (below_a w _) (by simp))
/-- A new variable that holds so many zeros. -/
theorem wpList_zerosA (hgd : o.guard = none) (t : TypeId) (ho : o.op = .alloc t)
    (n : Nat) (hz : (P.info? t).map (·.zero) = some (some (.agg (List.replicate n (Value.int .u8 0)).toArray))) (g : Nat) (hg : w.heap.size = g)
    (h : ∀ w', Arb w' g n (fun _ => 0) → Below w.heap.size w w' → w'.heap.size = g + 1 → wpList P ops Q rest (a.put o.dst (.pointer (some ⟨g, 0, none⟩))) w') : wpList P ops Q (o :: rest) a w := by
  subst hg
  refine wpList_plain hgd fun K hK => ?_
  cases hi : P.info? t with
  | none => simp [hi] at hz
  | some i =>
    have hz' : i.zero = some (.agg (List.replicate n (Value.int .u8 0)).toArray) := by simpa [hi] using hz
    have hrun : (execOp a.eval o).run P w = .ok (.value (.pointer (some ⟨w.heap.size, 0, none⟩))) (w.alloc (.cells (List.replicate n (Value.int .u8 0)).toArray t)) := by
      simp [execOp, ho, Instr.alloc, newVar, newRow, zeroValue, typeInfo, hi, hz', Value.cells, Result.andThen]
    unfold Oper.wp
    rw [hrun, Oper.upon_value]
    exact hK _ _ (h _ (Arb.zero w n t) (below_a w _) (by simp))
/-- A whole array of bytes, loaded. -/
theorem wpList_loadA (hgd : o.guard = none) (ty : TypeId) (x : Operand) (ho : o.op = .load ty x)
    (b n : Nat) (l : List UInt8) (hx : a.eval x = .pointer (some ⟨b, 0, none⟩)) (hA : Arb w b n (fun j => l.getD j 0)) (hl : l.length = n) (d : TypeDesc)
    (hu : P.underlying ty = some d) (hd : d.isRow = true) (hi : (P.info? ty).map (·.size) = some n)
    (h : wpList P ops Q rest (a.put o.dst (.agg (bv l).toArray)) w) : wpList P ops Q (o :: rest) a w :=
  wpList_load_mid hgd ty x ho b 0 hx (bv l) d (hA.list hl) hu hd (by rw [bv_length, hl]; exact hi) h
/-- .. and stored. -/
theorem wpList_storeA (hgd : o.guard = none) (ty : TypeId) (x y : Operand) (ho : o.op = .store ty x y)
    (b n : Nat) (f : Nat → UInt8) (l : List UInt8) (hx : a.eval x = .pointer (some ⟨b, 0, none⟩)) (hy : a.eval y = .agg (bv l).toArray) (hA : Arb w b n f) (hl : l.length = n)
    (hi : (P.info? ty).map (·.size) = some n)
    (h : ∀ w', Arb w' b n (fun j => l.getD j 0) → w.grownBy w' (some b) → w'.heap.size = w.heap.size → wpList P ops Q rest (a.put o.dst undef) w') : wpList P ops Q (o :: rest) a w := by
  refine wpList_store_mid hgd ty x y ho b 0 (bv l).toArray hx hy ?_ ?_ (all_oneCell_toArray (bv_one l)) (h _ (hA.of_range hl) (g_setCells b _ 0 w) (size_setCells b _ 0 w))
  · show w.there b 0 (bv l).length
    rw [bv_length, hl]; exact hA.there
  · show _ = some (bv l).length
    rw [bv_length, hl]; exact hi
end
/-- An array of bytes that a call answers out of its own block. -/
theorem results_A {P : Program} {fn : Func} {p : Tmp} {ty : TypeId} (h : fn.results = #[.cell p ty]) (tmps : Array Value) (w : World) (g n : Nat) (l : List UInt8) (d : TypeDesc)
    (hp : tmps.getD p undef = .pointer (some ⟨g, 0, none⟩)) (hA : Arb w g n (fun j => l.getD j 0)) (hl : l.length = n) (hu : P.underlying ty = some d) (hd : d.isRow = true) (hi : (P.info? ty).map (·.size) = some n) :
    (results fn tmps).run P w = .ok (.agg (bv l).toArray) w :=
  results_cell_mid h tmps w g (bv l) d hp (hA.list hl) hu hd (by rw [bv_length, hl]; exact hi)
theorem zero32 : (Tryd.prog.info? 69).map (·.zero) = some (some (.agg (List.replicate 32 (Value.int .u8 0)).toArray)) := by kernel_rfl

end Go.Proofs.YthfblaiocdgkbaaDoor

namespace Go.Proofs.YthfblaiocdgkbaaDoor
set_option linter.unusedVariables false
set_option linter.unusedSimpArgs false
open Go.RowKit

/-- What octet.Cut leaves where it cuts. -/
def CutMade (W : World) (n1 : Nat) (l1 : List UInt8) (n2 : Nat) (l2 : List UInt8) (e : Ending) (w' : World) : Prop :=
  ∃ A1 c1 A2 c2, e = .returned (.tuple #[.slice A1 n1 c1, .slice A2 n2 c2, .int .i64 0]) ∧ RB w' A1 n1 c1 l1 ∧ RB w' A2 n2 c2 l2 ∧ Below W.heap.size W w'

set_option maxHeartbeats 800000 in
theorem Cut_ok (A : Option Addr) (n c k : Nat) (l : List UInt8) (w : World) (h : RB w A n c l) (hk : k ≤ n) (ht : n ≤ 549755813888) :
    Calls Tryd.prog 45 #[.slice A n c, .int .i64 (k : Int)] w (CutMade w k (l.take k) (n - k) (l.drop k)) := by
  have hn := h.max
  have hn' := h.cap
  have hk1 : k ≤ 1099511627776 := by omega
  have hk2 : n - k ≤ 1099511627776 := by omega
  obtain ⟨A2, hrun, h2⟩ := h.from_ hk
  have h1 := h.take hk
  go_enter Tryd.func45, Tryd.ntmps45
  go_wp2
  clear h
  go_region_with (first
    | (go_at_call 35; refine (Join_one (B := A) (m := k) (d := c) (l := l.take k) ?_ (h1.below ?_) hk1).mono ?_; (first | exact cell_new _ _ _ | exact cell_new2 _ _ _ _ | exact cell_old2 _ _ _ _); (first | exact below_d (below_a _ _) | exact below_d (below_a2 _ _ _)); rintro e w1 ⟨B1, c1, rfl, hr1, hb1⟩; (first | have hbw1 := below_trans (below_d (below_a w _)) hb1 | have hbw1 := below_trans (below_d (below_a2 w _ _)) hb1); first | have hc2 := cell_later hb1 (cell_new2 _ _ (.slice A2 (n - k) (c - k)) _) | have hc2 := cell_later hb1 (cell_old2 _ _ (.slice A2 (n - k) (c - k)) _) | have hc2 := True.intro)
    | (go_at_call 35; refine (Join_one (B := A2) (m := n - k) (d := c - k) (l := l.drop k) ?_ (h2.below ?_) hk2).mono ?_; (first | exact cell_new _ _ _ | exact hc2); (first | exact hbw1 | exact below_trans hbw1 (below_a _ _)); rintro e w2 ⟨B2, c2, rfl, hr2, hb2⟩; first | (have hr3 := hr1.below hb2; have hbw2 := below_trans hbw1 hb2) | (have hr3 := (hr1.alloc _).below hb2; have hbw2 := below_trans (below_trans hbw1 (below_a _ _)) hb2)))
  all_goals
    go_wp2
    go_ret3
    exact ⟨_, _, _, _, rfl, hr3, hr2, hbw2⟩
/-- What a call of three results leaves that is refused. -/
theorem Cut_below (A : Option Addr) (n c : Nat) (k : Int) (w : World) (hk : k < 0) :
    Calls Tryd.prog 45 #[.slice A n c, .int .i64 k] w fun e w' => e = .returned (.tuple #[.slice none 0 0, .slice none 0 0, .int .i64 1]) ∧ w = w' := by
  go_enter Tryd.func45, Tryd.ntmps45
  go_wp2
  go_ret3
  exact ⟨rfl, rfl⟩

theorem Cut_above (A : Option Addr) (n c : Nat) (k : Int) (w : World) (hk : (n : Int) < k) :
    Calls Tryd.prog 45 #[.slice A n c, .int .i64 k] w fun e w' => e = .returned (.tuple #[.slice none 0 0, .slice none 0 0, .int .i64 3]) ∧ w = w' := by
  have h0 : ¬ k < 0 := by omega
  go_enter Tryd.func45, Tryd.ntmps45
  go_wp2
  go_ret3
  exact ⟨rfl, rfl⟩
end Go.Proofs.YthfblaiocdgkbaaDoor

namespace Go.Proofs.YthfblaiocdgkbaaDoor
set_option linter.unusedVariables false
set_option linter.unusedSimpArgs false
open Go.RowKit

theorem or_byte (x y : Nat) (hx : x ≤ 72057594037927935) (hy : y < 2 ^ 8) : bits .or .u64 ((x : Int) * 256) (y : Int) = ((256 * x + y : Nat) : Int) := by
  have h := u64_or_nat (x * 256) y (by omega) (by omega)
  rw [Int.natCast_mul] at h
  refine h.trans ?_
  have e : x * 256 ||| y = 256 * x + y := by
    rw [show x * 256 = 2 ^ 8 * x from by rw [Nat.mul_comm]]
    exact (Nat.two_pow_add_eq_or_of_lt hy x).symm
  rw [e]

/-- What octet.Take leaves where it takes. -/
def TakeMade (W : World) (x : Nat) (n2 : Nat) (l2 : List UInt8) (e : Ending) (w' : World) : Prop :=
  ∃ A2 c2, e = .returned (.tuple #[.int .u64 (x : Int), .slice A2 n2 c2, .int .i64 0]) ∧ RB w' A2 n2 c2 l2 ∧ Below W.heap.size W w'

set_option maxHeartbeats 800000 in
theorem Take_ok (A : Option Addr) (n c : Nat) (k : Int) (l : List UInt8) (w : World) (h : RB w A n c l) (hk : wn k ≤ n) (ht : n ≤ 549755813888) :
    Calls Tryd.prog 34 #[.slice A n c, .int .i64 k] w (TakeMade w (num (l.take (wn k))) (n - wn k) (l.drop (wn k))) := by
  have hlo := wn_lo k
  have hhi := wn_hi k
  go_enter Tryd.func34, Tryd.ntmps34
  go_wp2_with (first
    | (go_at_call 46; refine (width_any _ _).mono ?_; rintro e w' ⟨rfl, rfl⟩)
    | (go_at_call 45; refine (Cut_ok _ _ _ _ _ _ h hk ht).mono ?_; rintro e w1 ⟨A1, c1, A2, c2, rfl, hr1, hr2, hb1⟩))
  have hl := Lib.hid hr1.len
  have hm := hr1.max
  clear h
  generalize wn k = K at *
  generalize l.take K = d at *
  go_loop [10, 26] (fun x i => ∃ j : Nat, j ≤ K ∧ i = .int .i64 j ∧ x = .int .u64 (num (d.take j) : Nat)) (fun _ i => K - (intOf i).toNat)
  case atStart => exact ⟨0, Nat.zero_le _, rfl, rfl⟩
  case round =>
    obtain ⟨j, hj, rfl, rfl⟩ := hrel
    by_cases hlt : j < K
    · have hb := num_take_seven d j (by omega)
      have hx := (d.getD j 0).toNat_lt
      have HS := Lib.hid (num_step d j (by rw [hl.out]; exact hlt))
      obtain ⟨b, o, rfl, hc⟩ := hr1.at_ hlt
      clear hr1 hr2
      generalize num (d.take j) = x at *
      generalize (d.getD j 0).toNat = y at *
      go_wp2
      go_round
      case rel => exact ⟨j + 1, by omega, by go_num, by rw [HS.out, or_byte x y hb hx]⟩
      case measure => simp [intOf]; omega
    · obtain rfl : j = K := by omega
      have HD := Lib.hid (show d.take j = d from List.take_of_length_le (by rw [hl.out]; exact Nat.le_refl _))
      rw [HD.out]
      go_wp2
      go_ret3
      exact ⟨_, _, rfl, hr2, hb1⟩
theorem Take_few (A : Option Addr) (n c : Nat) (k : Int) (w : World) (hk : n < wn k) :
    Calls Tryd.prog 34 #[.slice A n c, .int .i64 k] w fun e w' => e = .returned (.tuple #[.int .u64 0, .slice none 0 0, .int .i64 3]) ∧ w = w' := by
  go_enter Tryd.func34, Tryd.ntmps34
  go_wp2_with (first
    | (go_at_call 46; refine (width_any _ _).mono ?_; rintro e w' ⟨rfl, rfl⟩)
    | (go_at_call 45; refine (Cut_above _ _ _ _ _ (by omega)).mono ?_; rintro e w1 ⟨rfl, rfl⟩))
  go_ret3
  exact ⟨rfl, rfl⟩

/-- Take, of a number's bytes and what is behind them. -/
theorem Take_at (A : Option Addr) (n c : Nat) (k : Int) (d l : List UInt8) (w : World) (hd : d.length = wn k) (h : RB w A (wn k + n) c (d ++ l)) (ht : n ≤ 1073741824) :
    Calls Tryd.prog 34 #[.slice A (wn k + n) c, .int .i64 k] w (TakeMade w (num d) n l) := by
  have hhi := wn_hi k
  have h1 := Take_ok A (wn k + n) c k (d ++ l) w h (by omega) (by omega)
  rw [List.take_left' hd, List.drop_left' hd, show wn k + n - wn k = n from by omega] at h1
  exact h1
end Go.Proofs.YthfblaiocdgkbaaDoor

namespace Go.Proofs.YthfblaiocdgkbaaDoor
set_option linter.unusedVariables false
set_option linter.unusedSimpArgs false
open Go.RowKit

set_option maxRecDepth 8000 in
theorem front_any (D : List UInt8) (hD : D.length = 32) (K : Int) (k : Nat) (hk : (K = 4 ∧ k = 4) ∨ (K = 8 ∧ k = 8)) (w : World) :
    Calls Tryd.prog 23 #[.agg (bv D).toArray, .int .i64 K] w fun e w' => e = .returned (.int .u64 (num (D.take k) : Nat)) ∧ Below w.heap.size w w' := by
  have HL := Lib.hid hD
  have w4 : wn 4 = 4 := rfl
  have w8 : wn 8 = 8 := rfl
  have HT4 := Lib.hid (show (D.take 4).take (wn 4) = D.take 4 from by rw [w4, List.take_take]; rfl)
  have HT8 := Lib.hid (show (D.take 8).take (wn 8) = D.take 8 from by rw [w8, List.take_take]; rfl)
  have hn4 := num_lt (D.take 4)
  have hn8 := num_lt (D.take 8)
  clear hn4 hn8
  rcases hk with ⟨rfl, rfl⟩ | ⟨rfl, rfl⟩
  · go_enter Tryd.func23, Tryd.ntmps23
    go_wp2_with (first
      | ((with_reducible refine wpList_here ?_); refine wpList_boxA rfl 69 (.tmp 0) rfl D 32 HL.out rfl ?_; intro w1 z1 b1 s1; have r1 := (z1.rb HL.out (by omega)).take (k := 4) (by omega); clear z1)
      | (go_at_call 34; refine (Take_ok _ 4 32 4 (D.take 4) _ r1 (by rw [w4]; exact Nat.le_refl _) (by omega)).mono ?_; rw [HT4.out]; rintro e w2 ⟨A2, c2, rfl, r2, b2⟩))
    go_ret
    exact ⟨rfl, below_trans b1 b2⟩
  · go_enter Tryd.func23, Tryd.ntmps23
    go_wp2_with (first
      | ((with_reducible refine wpList_here ?_); refine wpList_boxA rfl 69 (.tmp 0) rfl D 32 HL.out rfl ?_; intro w1 z1 b1 s1; have r1 := (z1.rb HL.out (by omega)).take (k := 8) (by omega); clear z1)
      | (go_at_call 34; refine (Take_ok _ 8 32 8 (D.take 8) _ r1 (by rw [w8]; exact Nat.le_refl _) (by omega)).mono ?_; rw [HT8.out]; rintro e w2 ⟨A2, c2, rfl, r2, b2⟩))
    go_ret
    exact ⟨rfl, below_trans b1 b2⟩

/-- The first j of some numbers, in k bytes each, one behind the other. -/
def ub (us : List Nat) (k j : Nat) : List UInt8 := (us.take j).flatMap fun u => be u k
theorem ub_step (us : List Nat) (k j : Nat) (h : j < us.length) : ub us k (j + 1) = ub us k j ++ be (us.getD j 0) k := by
  unfold ub
  rw [List.take_succ_eq_append_getElem h, List.flatMap_append]
  simp [h]
theorem ub_length (us : List Nat) (k : Nat) : ∀ j, j ≤ us.length → (ub us k j).length = j * k := by
  intro j
  induction j with
  | zero => intro _; simp [ub]
  | succ j ih => intro h; rw [ub_step us k j (by omega), List.length_append, ih (by omega), be_length, Nat.succ_mul]

/-- Numbers that are none below 0, as a row of numbers has them. -/
def un (us : List Nat) : List Int := us.map Int.ofNat
theorem un_at (us : List Nat) (j : Nat) : (un us).getD j 0 = ((us.getD j 0 : Nat) : Int) := by
  simp only [un, List.getD_eq_getElem?_getD, List.getElem?_map]
  cases us[j]? <;> rfl
theorem un_length (us : List Nat) : (un us).length = us.length := by simp [un]

set_option maxHeartbeats 800000 in
theorem put_any (K : Int) (A : Option Addr) (n c : Nat) (us : List Nat) (w : World) (h : RI .u64 w A n c (un us)) (hu : ∀ j, us.getD j 0 < 18446744073709551616) (hn : n ≤ 1000) :
    Calls Tryd.prog 25 #[.int .i64 K, .slice A n c] w (MadeRB w (n * wn K) (ub us (wn K) n)) := by
  have hl : us.length = n := by rw [← un_length]; exact h.len
  have HL := Lib.hid hl
  have hhi := wn_hi K
  have hmx := h.max
  have hcp := h.cap
  clear hl
  go_enter Tryd.func25, Tryd.ntmps25
  go_wp2_with fail
  go_loopw [5, 10] (fun v i wr => ∃ j : Nat, j ≤ n ∧ i = .int .i64 j ∧ (∃ A1 c1, v = .slice A1 (j * wn K) c1 ∧ RB wr A1 (j * wn K) c1 (ub us (wn K) j)) ∧ Below w.heap.size w wr) (fun _ i _ => n - (intOf i).toNat)
  case atStart => exact ⟨0, Nat.zero_le _, rfl, ⟨none, 0, by rw [Nat.zero_mul], by rw [Nat.zero_mul]; exact RB.nil_ w⟩, Below.refl _ _⟩
  case round =>
    obtain ⟨j, hj, rfl, ⟨A1, c1, rfl, r1⟩, hb⟩ := hrel
    by_cases hlt : j < n
    · obtain ⟨b, o, rfl, hc0⟩ := h.at_ hlt
      have hc := (hb.cell (World.block_lt_of_cell? w _ hc0)).trans hc0
      rw [un_at] at hc
      have HS := Lib.hid (ub_step us (wn K) j (by rw [HL.out]; exact hlt))
      have HM := Lib.hid (Nat.succ_mul j (wn K))
      have ha := hu j
      have hjk : j * wn K ≤ 8000 := Nat.le_trans (Nat.mul_le_mul (show j ≤ 1000 by omega) hhi) (by decide)
      clear h hc0 hu
      generalize us.getD j 0 = a at *
      generalize j * wn K = q at *
      generalize ub us (wn K) j = x at *
      go_wp2_with (go_at_call 39; refine (Put_any A1 q c1 a K x wr r1 ha (by omega)).mono ?_; rintro e w2 ⟨A2, c2, rfl, r2, b2⟩)
      have hb2 := below_trans hb b2
      clear hb b2 r1 hc
      go_roundw
      case rel => exact ⟨j + 1, by omega, by go_num, ⟨A2, c2, by rw [show (j + 1) * wn K = q + wn K from HM.out], by rw [show (j + 1) * wn K = q + wn K from HM.out, HS.out]; exact r2⟩, hb2⟩
      case measure => simp [intOf]; omega
    · obtain rfl : j = n := by omega
      go_wp2_with fail
      go_ret
      exact ⟨A1, c1, rfl, r1, hb⟩
theorem ub_one (a k : Nat) : ub [a] k 1 = be a k := by simp [ub]
theorem ub_two (a b k : Nat) : ub [a, b] k 2 = be a k ++ be b k := by simp [ub]
/-- put, of one number, of two, in a new list. -/
theorem put_one {a k : Nat} {K : Int} {w : World} {t : TypeId} {g : Nat} (hg : g = w.heap.size) (ha : a < 18446744073709551616) (hk : wn K = k) :
    Calls Tryd.prog 25 #[.int .i64 K, .slice (some ⟨g, 0, none⟩) 1 1] (w.alloc (.cells #[.int .u64 (a : Int)] t)) (MadeRB w k (be a k)) := by
  subst hg hk
  have := put_any K _ 1 1 [a] _ (RI.lit .u64 w [(a : Int)] t (by unfold maxLen; simp)) (by intro j; match j with | 0 => exact ha | j + 1 => simp) (by omega)
  rw [ub_one, Nat.one_mul] at this
  exact this.mono fun e w' ⟨A, c, he, hr, hb⟩ => ⟨A, c, he, hr, below_trans (below_a w _) hb⟩
theorem put_two {a b k : Nat} {K : Int} {w : World} {t : TypeId} {g : Nat} (hg : g = w.heap.size) (ha : a < 18446744073709551616) (hb : b < 18446744073709551616) (hk : wn K = k) :
    Calls Tryd.prog 25 #[.int .i64 K, .slice (some ⟨g, 0, none⟩) 2 2] (w.alloc (.cells #[.int .u64 (a : Int), .int .u64 (b : Int)] t)) (MadeRB w (2 * k) (be a k ++ be b k)) := by
  subst hg hk
  have := put_any K _ 2 2 [a, b] _ (RI.lit .u64 w [(a : Int), (b : Int)] t (by unfold maxLen; simp)) (by intro j; match j with | 0 => exact ha | 1 => exact hb | j + 2 => simp) (by omega)
  rw [ub_two] at this
  exact this.mono fun e w' ⟨A, c, he, hr, hb⟩ => ⟨A, c, he, hr, below_trans (below_a w _) hb⟩
end Go.Proofs.YthfblaiocdgkbaaDoor

namespace Go.Proofs.YthfblaiocdgkbaaDoor
set_option linter.unusedVariables false
set_option linter.unusedSimpArgs false

/-- The first four bytes of a key's digest; the first eight of what proves two keys. -/
def kt (k : Nat) : Nat := num ((dg (be k 8)).take 4)
def kp (own other nonce back : Nat) : Nat := num ((hm (be own 8 ++ be other 8) (be nonce 4 ++ be back 4)).take 8)
theorem kt_lt (k : Nat) : kt k < 4294967296 := by
  have h := num_lt ((dg (be k 8)).take 4)
  rw [List.length_take, dg_length] at h
  exact h
theorem kp_lt (own other nonce back : Nat) : kp own other nonce back < 18446744073709551616 := by
  have h := num_lt ((hm (be own 8 ++ be other 8) (be nonce 4 ++ be back 4)).take 8)
  rw [List.length_take, hm_length] at h
  exact h
set_option maxRecDepth 100000 in
theorem kt_zero : kt 0 = 2941612277 := by
  unfold kt
  have e : (dg [0, 0, 0, 0, 0, 0, 0, 0]).take 4 = [175, 85, 112, 245] := by decide +kernel
  have e0 : be 0 8 = [0, 0, 0, 0, 0, 0, 0, 0] := by decide +kernel
  rw [e0, e]
  decide +kernel
end Go.Proofs.YthfblaiocdgkbaaDoor

namespace Go.Proofs.YthfblaiocdgkbaaDoor
set_option linter.unusedVariables false
set_option linter.unusedSimpArgs false
open Go.RowKit

theorem ends_length (n : Nat) : (ends n).length = (119 - n % 64) % 64 + 1 + 8 := by
  unfold ends
  simp [be_length]
theorem full_length (l : List UInt8) : (full l).length = l.length + ((119 - l.length % 64) % 64 + 1 + 8) := by
  rw [full, List.length_append, ends_length]
theorem full_blocks (l : List UInt8) : (full l).length = 64 * ((full l).length / 64) := by
  rw [full_length]
  omega

/-- A block of the text. -/
theorem cut64 {w : World} {A : Option Addr} {n c k : Nat} {l : List UInt8} (h : RB w A n c l) (hk : k + 64 ≤ n) :
    ∃ A2, (∀ W : World, (Instr.slice 71 (.slice A n c) (some (.int .i64 (k : Int))) (some (.int .i64 ((k : Int) + 64))) none).run Tryd.prog W = .ok (.slice A2 64 (c - k)) W) ∧ RB w A2 64 (c - k) ((l.drop k).take 64) := by
  have hc := h.cap
  have h2 := (h.drop (k := k) (by omega)).take (k := 64) (by omega)
  refine ⟨_, fun W => ?_, h2⟩
  rw [run_slice_lh (P := Tryd.prog) W 71 A n c elemOf .i64 .i64 (k : Int) ((k : Int) + 64) (by omega) (by omega) (by omega), sizeOfByte]
  have e : ((k : Int) + 64).toNat = k + 64 := by omega
  simp [Result.andThen, sliced, e]

/-- What the digest answers. -/
def Dig (l : List UInt8) (W : World) (e : Ending) (w' : World) : Prop := e = .returned (.agg (bv (dg l)).toArray) ∧ Below W.heap.size W w'

/-- The words at the beginning, in their new block. -/
theorem Arr.first (w : World) (t : TypeId) : Arr (w.alloc (.cells #[.int .u32 1779033703, .int .u32 3144134277, .int .u32 1013904242, .int .u32 2773480762, .int .u32 1359893119, .int .u32 2600822924, .int .u32 528734635, .int .u32 1541459225] t)) w.heap.size 8 (fun i => hh.getD i 0) :=
  Arr.new w [.int .u32 1779033703, .int .u32 3144134277, .int .u32 1013904242, .int .u32 2773480762, .int .u32 1359893119, .int .u32 2600822924, .int .u32 528734635, .int .u32 1541459225] t 8 _ fun j hj =>
    match j, hj with
    | 0, _ => rfl
    | 1, _ => rfl
    | 2, _ => rfl
    | 3, _ => rfl
    | 4, _ => rfl
    | 5, _ => rfl
    | 6, _ => rfl
    | 7, _ => rfl

set_option maxRecDepth 8000 in
set_option maxHeartbeats 1600000 in
theorem sha_any (A : Option Addr) (n c : Nat) (ps : List (List UInt8)) (w : World) (h : Parts w A n c ps) (ht : tl ps n ≤ 274877906944) (hT : Tab w) :
    Calls Tryd.prog 24 #[.slice A n c] w (Dig (fl ps n) w) := by
  have zb := below_a w (.cells #[.int .u8 0, .int .u8 0, .int .u8 0, .int .u8 0, .int .u8 0, .int .u8 0, .int .u8 0, .int .u8 0, .int .u8 0, .int .u8 0, .int .u8 0, .int .u8 0, .int .u8 0, .int .u8 0, .int .u8 0, .int .u8 0, .int .u8 0, .int .u8 0, .int .u8 0, .int .u8 0, .int .u8 0, .int .u8 0, .int .u8 0, .int .u8 0, .int .u8 0, .int .u8 0, .int .u8 0, .int .u8 0, .int .u8 0, .int .u8 0, .int .u8 0, .int .u8 0] 69)
  have z1 : Arb (w.alloc (.cells #[.int .u8 0, .int .u8 0, .int .u8 0, .int .u8 0, .int .u8 0, .int .u8 0, .int .u8 0, .int .u8 0, .int .u8 0, .int .u8 0, .int .u8 0, .int .u8 0, .int .u8 0, .int .u8 0, .int .u8 0, .int .u8 0, .int .u8 0, .int .u8 0, .int .u8 0, .int .u8 0, .int .u8 0, .int .u8 0, .int .u8 0, .int .u8 0, .int .u8 0, .int .u8 0, .int .u8 0, .int .u8 0, .int .u8 0, .int .u8 0, .int .u8 0, .int .u8 0] 69)) w.heap.size 32 (fun _ => 0) := Arb.zero w 32 69
  have h1 := h.below zb
  have t1 := hT.below zb
  have hsz : (w.alloc (.cells #[.int .u8 0, .int .u8 0, .int .u8 0, .int .u8 0, .int .u8 0, .int .u8 0, .int .u8 0, .int .u8 0, .int .u8 0, .int .u8 0, .int .u8 0, .int .u8 0, .int .u8 0, .int .u8 0, .int .u8 0, .int .u8 0, .int .u8 0, .int .u8 0, .int .u8 0, .int .u8 0, .int .u8 0, .int .u8 0, .int .u8 0, .int .u8 0, .int .u8 0, .int .u8 0, .int .u8 0, .int .u8 0, .int .u8 0, .int .u8 0, .int .u8 0, .int .u8 0] 69)).heap.size = w.heap.size + 1 := by simp
  have hg0 := hT.lt
  clear h hT
  have HLEN : Hid ((fl ps n).length = tl ps n) := Lib.hid rfl
  go_enter Tryd.func24, Tryd.ntmps24
  go_wp2_with fail
  generalize hw0 : World.alloc _ _ = w0 at *
  have HW := Lib.hid hw0
  clear hw0
  refine (Join_any A n c ps w0 h1 (by omega)).mono ?_
  rintro e w1 ⟨v1, rfl, own1, b1⟩
  obtain ⟨A1, c1, rfl, r1, _⟩ := RB.of_own own1
  have z2 := z1.below b1
  have t2 := t1.below b1
  have zb2 := below_trans zb b1
  clear own1 z1 t1 h1 zb
  generalize fl ps n = l at *
  generalize tl ps n = m at *
  have HF : Hid (l ++ ends m = full l) := Lib.hid (by unfold full; rw [HLEN.out])
  have hN : Hid (m + ((119 - m % 64) % 64 + 1 + 8) = 64 * ((full l).length / 64)) := Lib.hid (by rw [← full_blocks, full_length, HLEN.out])
  have hm9 : (119 - m % 64) % 64 + 1 + 8 ≤ 72 := by omega
  go_wp2_with (first
    | (go_at_call 36; refine (ending_any m w1 ht).mono ?_; rintro e w2 ⟨A2, c2, rfl, r2, b2⟩
       have r1' := r1.below b2
       have z3 := z2.below b2
       have t3 := t2.below b2
       have zb3 := below_trans zb2 b2
       clear r1 z2 t2 zb2)
    | (go_at_call 35; refine (Join_two rfl r1' r2 (by omega)).mono ?_; rintro e w3 ⟨A3, c3, rfl, r3, b3⟩
       have b4 := below_trans (below_a w2 _) b3
       have z4 := z3.below b4
       have t4 := t3.below b4
       have zb4 := below_trans zb3 b4
       rw [HF.out, hN.out] at r3
       rw [hN.out]
       clear r1' r2 b2 b3 b4 z3 t3 zb3))
  have a0 : Arr (w3.alloc (.cells #[.int .u32 1779033703, .int .u32 3144134277, .int .u32 1013904242, .int .u32 2773480762, .int .u32 1359893119, .int .u32 2600822924, .int .u32 528734635, .int .u32 1541459225] 87)) w3.heap.size 8 (fun i => (blocks (full l) 0).getD i 0) := Arr.first w3 _
  have b0 := below_a w3 (.cells #[.int .u32 1779033703, .int .u32 3144134277, .int .u32 1013904242, .int .u32 2773480762, .int .u32 1359893119, .int .u32 2600822924, .int .u32 528734635, .int .u32 1541459225] 87)
  have hsz3 := zb4.size
  have HDG : Hid (dg l = dgl (fun i => (blocks (full l) ((full l).length / 64)).getD i 0)) := Lib.hid rfl
  generalize (full l).length / 64 = B at *
  generalize full l = x at *
  clear hm9 HF hN HLEN b1 hsz HW
  have hc3 := r3.max
  have hcap := r3.cap
  go_loopw [5] (fun i wr => ∃ k : Nat, k ≤ B ∧ i = .int .i64 ((64 * k : Nat) : Int) ∧ Arr wr w3.heap.size 8 (fun i => (blocks x k).getD i 0) ∧ Below w3.heap.size w3 wr) (fun i _ => 64 * B - (intOf i).toNat)
  case atStart => exact ⟨0, Nat.zero_le _, rfl, a0, b0⟩
  case round =>
    obtain ⟨k, hk, rfl, ha, hb⟩ := hrel
    clear a0 b0
    by_cases hlt : k < B
    · have hlt' : 64 * k < 64 * B := by omega
      obtain ⟨A4, hcut, r4⟩ := cut64 (r3.below hb) (k := 64 * k) (by omega)
      have HS : Hid (∀ i, i < 8 → (blocks x (k + 1)).getD i 0 = st ((x.drop (64 * k)).take 64) (fun i => (blocks x k).getD i 0) 64 i + (blocks x k).getD i 0) := Lib.hid (by
        intro i hi
        rw [blocks_step]
        exact comp_at _ _ _ (fun _ _ => rfl) i hi)
      have HI : Hid (((64 * k : Nat) : Int) + 64 = ((64 * (k + 1) : Nat) : Int)) := Lib.hid (by omega)
      have t5 := t4.below hb
      have hne : w3.heap.size ≠ 0 := by have := t4.lt; omega
      have hmx : 64 * k + 64 ≤ 64 * B := by omega
      generalize (x.drop (64 * k)).take 64 = y at *
      generalize 64 * k = q at *
      clear r3
      go_wp2_with (go_at_call 37; refine (take_any w3.heap.size _ A4 _ y wr ha r4 t5 hne).mono ?_; rintro e w5 ⟨rfl, a5, g5⟩)
      have a6 := a5.congr (fun i hi => (HS.out i hi).symm)
      have b6 := below_g hb g5 hb.size (Nat.le_refl _)
      clear a5 g5 ha hb t5 hcut r4 HS
      go_wp2_with fail
      go_roundw
      case rel => exact ⟨k + 1, by omega, by rw [HI.out], a6, b6⟩
      case measure => have := HI.out; simp [intOf]; omega
    · obtain rfl : k = B := by omega
      have z5 := z4.below hb
      have hi : (Tryd.prog.info? 69).map (·.size) = some (bv (dg l)).length := by rw [bv_length, dg_length]; exact info32
      have HI := Lib.hid hi
      clear hi r3 t4 z4
      go_wp2_with (first
        | (go_at_call 38; refine (digest_any w3.heap.size _ wr ha).mono ?_; rintro e w5 ⟨rfl, b5⟩
           have z6 := Lib.hid (z5.below b5).there
           have b6 := (below_trans zb4 hb).trans (b5.mono (Nat.le_trans hsz3 hb.size))
           clear z5 b5
           rw [← HDG.out])
        | ((with_reducible refine wpList_here ?_); refine wpList_store_mid rfl 69 (.tmp 2) (.tmp 27) rfl w.heap.size 0 (bv (dg l)).toArray rfl rfl (show w5.there w.heap.size 0 (bv (dg l)).length from by rw [bv_length, dg_length]; exact z6.out) HI.out (all_oneCell_toArray (bv_one _)) ?_))
      refine bodyPost_ret (results_cell_mid rfl _ _ w.heap.size (bv (dg l)) (.array 32 5) rfl (World.rangeAt_setCells_same _ _ _ _ (show w5.there w.heap.size 0 (bv (dg l)).length from by rw [bv_length, dg_length]; exact z6.out)) Tryd.underlying69 rfl HI.out) rfl ⟨rfl, below_setCells _ (Nat.le_refl _) _ _ _ b6⟩
end Go.Proofs.YthfblaiocdgkbaaDoor

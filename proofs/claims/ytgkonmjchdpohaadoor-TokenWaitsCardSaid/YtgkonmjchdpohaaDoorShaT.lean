/- The contract of a block's share. Conditions: the receiver is a block of eight words, not the table's; a block of 64 bytes; the table holds FIPS 180-4's constants. -/
import Derived.Test.YtgkonmjchdpohaaDoorShaR
import Derived.Test.YtgkonmjchdpohaaDoorShaS
namespace Go.Proofs.YtgkonmjchdpohaaDoor
set_option linter.unusedVariables false
set_option linter.unusedSimpArgs false
open Go.RowKit

/-- The table of constants, as the package's variable holds it. -/
def Tab (w : World) : Prop := ∀ i, i < 64 → w.cell? ⟨0, i, none⟩ = some (c32 (kn i))
theorem Tab.lt {w : World} (h : Tab w) : 0 < w.heap.size := World.block_lt_of_cell? w _ (h 0 (by omega))
theorem Tab.far {w w' : World} {row : Option Nat} (h : Tab w) (hg : w.grownBy w' row) (hne : some 0 ≠ row) : Tab w' := fun i hi => (hg.cell_far _ h.lt hne).trans (h i hi)
theorem Tab.below {w w' : World} (h : Tab w) (hb : Below w.heap.size w w') : Tab w' := h.far (g_below hb none) (by simp)
theorem info8 : (Tryd.prog.info? 87).map (·.size) = some 8 := by kernel_rfl

theorem sizeOfWord (W : World) : (sizeOf 38).run Tryd.prog W = .ok 1 W := by kernel_rfl
theorem isAggWord (W : World) : (isAgg 38).run Tryd.prog W = .ok false W := by kernel_rfl
/-- An element of an array that is a value. -/
theorem run_index_words (W : World) (t : TypeId) (n : Nat) (cs : Array Value) (k : Nat) (v : Value) (ht : Tryd.prog.underlying t = some (.array n 38)) (hk : k < n) (hv : cs[k]? = some v) :
    (Instr.index t (.agg cs) (.int .i64 (k : Int))).run Tryd.prog W = .ok v W := by
  have hk' : (k : Int) < (n : Int) := by omega
  simp [Instr.index, run_underlying ht, asIntOf, hk', sizeOfWord, part, isAggWord, hv, show ¬ n ≤ k by omega]

theorem wpList_here {P : Program} {ops : Array Oper} {rest : List Oper} {op : Oper} {a : Act} {w : World} {Q : Exit → Act → World → Prop} (h : wpList P ops Q (op :: rest) a w) : wpList P ops Q (op :: rest) a w := h

set_option maxRecDepth 8000 in
set_option maxHeartbeats 400000 in
theorem take_any (b : Nat) (f : Nat → UInt32) (A : Option Addr) (c : Nat) (l : List UInt8) (w : World) (ha : Arr w b 8 f) (hr : RB w A 64 c l) (ht : Tab w) (hb : b ≠ 0) :
    Calls Tryd.prog 37 #[.pointer (some ⟨b, 0, none⟩), .slice A 64 c] w fun e w' => e = .returned (.tuple #[]) ∧ Arr w' b 8 (fun i => st l f 64 i + f i) ∧ w.grownBy w' (some b) := by
  go_enter Tryd.func37, Tryd.ntmps37
  have z0 : Arr (w.alloc (.cells #[.int .u32 0, .int .u32 0, .int .u32 0, .int .u32 0, .int .u32 0, .int .u32 0, .int .u32 0, .int .u32 0] 87)) w.heap.size 8 (fun _ => 0) := Arr.zero w 8 87
  have z1 := z0.whole f
  have hst := Lib.hid z0.there
  have bel0 : Below w.heap.size w ((w.alloc (.cells #[.int .u32 0, .int .u32 0, .int .u32 0, .int .u32 0, .int .u32 0, .int .u32 0, .int .u32 0, .int .u32 0] 87)).setCells w.heap.size 0 (cells 8 f)) := below_setCells _ (Nat.le_refl _) _ _ _ ((Below.refl _ _).alloc (Nat.le_refl _) _)
  have hbl := ha.lt (by omega)
  have hr1 := hr.below bel0
  have ha1 := ha.below bel0
  have ht1 := ht.below bel0
  have g1 := g_below bel0 none
  have hS := Lib.hid (schedule_any A c l ((w.alloc (.cells #[.int .u32 0, .int .u32 0, .int .u32 0, .int .u32 0, .int .u32 0, .int .u32 0, .int .u32 0, .int .u32 0] 87)).setCells w.heap.size 0 (cells 8 f)) hr1)
  have hL := Lib.hid ha.range
  clear z0 hr bel0 hr1
  go_wp2_with (first
    | (go_at_call 48; refine hS.out.mono ?_; rintro e w1 ⟨rfl, bel1⟩)
    | ((with_reducible refine wpList_here ?_); refine wpList_load_mid rfl 87 (.tmp 10) rfl _ 0 rfl (cells 8 f) (.array 8 38) hL.out Tryd.underlying87 rfl info8 ?_)
    | ((with_reducible refine wpList_here ?_); refine wpList_store_mid rfl 87 (.tmp 4) (.tmp 11) rfl w.heap.size 0 (cells 8 f).toArray rfl rfl hst.out info8 (all_oneCell_toArray (cells_one 8 _)) ?_; rw [List.toList_toArray]; generalize (w.alloc (.cells #[.int .u32 0, .int .u32 0, .int .u32 0, .int .u32 0, .int .u32 0, .int .u32 0, .int .u32 0, .int .u32 0] 87)).setCells w.heap.size 0 (cells 8 f) = w0 at *))
  have h1 := ha1.below bel1
  have h2 := z1.below bel1
  have h3 := ht1.below bel1
  have h4 := (g1.trans (g_below bel1 none))
  clear z1 g1 bel1 ha1 ht1 hS hL hst
  go_loopw [14] (fun i wr => ∃ k : Nat, k ≤ 64 ∧ i = .int .i64 k ∧ Arr wr b 8 (st l f k) ∧ Arr wr w.heap.size 8 f ∧ Tab wr ∧ w.grownBy wr (some b)) (fun i _ => 64 - (intOf i).toNat)
  case atStart => exact ⟨0, Nat.zero_le _, rfl, h1, h2, h3, h4.but _⟩
  case round =>
    obtain ⟨k, hk, rfl, q1, q2, q3, q4⟩ := hrel
    clear h1 h2 h3 h4
    by_cases hlt : k < 64
    · have hlt' : (k : Int) < 64 := by omega
      have hcg := cells_get 64 (ww l) k hlt
      have htk := q3 k hlt
      have hin := fun W => run_index_words W 100 64 _ k _ Tryd.underlying100 hlt hcg
      clear hcg
      have HS : Hid (st l f (k + 1) = rnd (st l f k) k (ww l k + kn k)) := Lib.hid rfl
      generalize ww l k = x at *
      generalize kn k = y at *
      go_wp2_with fail
      rw [w_add]
      refine (round_any b k (x + y) (st l f k) wr q1 hlt).mono ?_
      rintro e w2 ⟨rfl, r1, r2⟩
      rw [← HS.out] at r1
      have r3 := q2.far r2 (by simp; omega)
      have r4 := q3.far r2 (by simp; omega)
      have r5 := q4.trans r2
      clear q1 q2 q3 q4 r2 htk hin HS
      go_wp2_with fail
      go_roundw
      case rel => exact ⟨k + 1, by omega, by go_num, r1, r3, r4, r5⟩
      case measure => simp [intOf]; omega
    · obtain rfl : k = 64 := by omega
      have hL := Lib.hid q2.range
      go_wp2_with (((with_reducible refine wpList_here ?_); refine wpList_load_mid rfl 87 (.tmp 4) rfl _ 0 rfl (cells 8 f) (.array 8 38) hL.out Tryd.underlying87 rfl info8 ?_))
      generalize eS : st l f 64 = S at *
      have ES := Lib.hid eS
      clear eS
      go_loopw [28] (fun i wr => ∃ k : Nat, k ≤ 8 ∧ i = .int .i64 k ∧ Arr wr b 8 (ad S f k) ∧ w.grownBy wr (some b)) (fun i _ => 8 - (intOf i).toNat)
      case atStart => exact ⟨0, Nat.zero_le _, rfl, by rw [ad_zero]; exact q1, q4⟩
      case round =>
        obtain ⟨k, hk, rfl, q1, q4⟩ := hrel
        by_cases hlt : k < 8
        · have hlt' : (k : Int) < 8 := by omega
          have hin := fun W => run_index_words W 87 8 _ k _ Tryd.underlying87 hlt (cells_get 8 f k hlt)
          obtain ⟨k1, k2⟩ := q1 k hlt
          have hk3 : ad S f k k = S k := by simp [ad]
          rw [hk3] at k1
          have HS := Lib.hid (ad_step S f k)
          clear hk3
          generalize e1 : S k = x at *
          generalize e2 : f k = y at *
          clear e1 e2
          have hA := (q1.set k (x + y)).drew
          rw [HS.out] at hA
          have hG := (q4.trans (g_set wr b k (c32 (x + y)))).trans (g_drew _ _)
          clear q1 q4 HS
          go_wp2_with fail
          go_region_with (first | fail)
          all_goals
            rw [w_addw]
            generalize x + y = z at *
            go_wp2_with fail
            go_roundw
            case rel => exact ⟨k + 1, by omega, by go_num, hA, hG⟩
            case measure => simp [intOf]; omega
        · obtain rfl : k = 8 := by omega
          have hA := q1.congr (g := fun i => S i + f i) (fun j hj => by simp [ad, hj])
          go_wp2_with fail
          go_end0
          have e := ES.out
          subst e
          exact ⟨rfl, hA, q4⟩
end Go.Proofs.YtgkonmjchdpohaaDoor

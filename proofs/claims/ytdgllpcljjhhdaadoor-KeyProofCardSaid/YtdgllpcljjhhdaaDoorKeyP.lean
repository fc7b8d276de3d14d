/- The walk of the law KeyProof. Condition: the table holds FIPS 180-4's constants. -/
import Derived.Test.YtdgllpcljjhhdaaDoorKeyW
import Derived.Test.YtdgllpcljjhhdaaDoorHel
namespace Go.Proofs.YtdgllpcljjhhdaaDoor
set_option linter.unusedVariables false
open Go.RowKit

/-- Two numbers of 64 bits, two of 32, each pair in a block of its own. -/
def Prs (w : World) (g h : Nat) (a b c d : Nat) : Prop :=
  w.cell? ⟨g, 0, none⟩ = some (.int .u64 (a : Int)) ∧ w.cell? ⟨g, 1, none⟩ = some (.int .u64 (b : Int)) ∧ w.cell? ⟨h, 0, none⟩ = some (.int .u32 (c : Int)) ∧ w.cell? ⟨h, 1, none⟩ = some (.int .u32 (d : Int))
theorem Prs.below {w w' : World} {g h a b c d : Nat} (p : Prs w g h a b c d) (hb : Below w.heap.size w w') : Prs w' g h a b c d :=
  ⟨(hb.cell (World.block_lt_of_cell? _ _ p.1)).trans p.1, (hb.cell (World.block_lt_of_cell? _ _ p.2.1)).trans p.2.1, (hb.cell (World.block_lt_of_cell? _ _ p.2.2.1)).trans p.2.2.1, (hb.cell (World.block_lt_of_cell? _ _ p.2.2.2)).trans p.2.2.2⟩

set_option maxHeartbeats 1600000 in
theorem KProof_any (a b c d : Nat) (w : World) (ha : a < 18446744073709551616) (hb : b < 18446744073709551616) (hc : c < 4294967296) (hd : d < 4294967296) (hT : Tab w) :
    Calls Tryd.prog 4 #[.agg #[.int .u64 (a : Int), .int .u64 (b : Int)], .agg #[.int .u32 (c : Int), .int .u32 (d : Int)]] w (Held w) := by
  have hp : Prs ((w.alloc (.cells #[.int .u64 (a : Int), .int .u64 (b : Int)] 27)).alloc (.cells #[.int .u32 (c : Int), .int .u32 (d : Int)] 28)) w.heap.size (w.heap.size + 1) a b c d := by
    refine ⟨?_, ?_, ?_, ?_⟩
    · rw [World.cell?_alloc_lt _ _ _ (by simp), cell_of_row _ w.heap.size 0 _ _ (0, 0) (heap_alloc_new w _)]; rfl
    · rw [World.cell?_alloc_lt _ _ _ (by simp), cell_of_row _ w.heap.size 1 _ _ (0, 0) (heap_alloc_new w _)]; rfl
    · have h := cell_of_row ((w.alloc (.cells #[.int .u64 (a : Int), .int .u64 (b : Int)] 27)).alloc (.cells #[.int .u32 (c : Int), .int .u32 (d : Int)] 28)) _ 0 _ _ (0, 0) (heap_alloc_new _ _)
      rw [World.size_alloc] at h
      exact h
    · have h := cell_of_row ((w.alloc (.cells #[.int .u64 (a : Int), .int .u64 (b : Int)] 27)).alloc (.cells #[.int .u32 (c : Int), .int .u32 (d : Int)] 28)) _ 1 _ _ (0, 0) (heap_alloc_new _ _)
      rw [World.size_alloc] at h
      exact h
  have hbl := below_a2 w (.cells #[.int .u64 (a : Int), .int .u64 (b : Int)] 27) (.cells #[.int .u32 (c : Int), .int .u32 (d : Int)] 28)
  have hTb := hT.below hbl
  go_enter Tryd.func4, Tryd.ntmps4
  go_wp2_with fail
  generalize World.alloc _ _ = w1 at *
  refine (kwakes_any _ hTb).mono ?_
  rintro e w2 ⟨rfl, b2⟩
  have p2 := hp.below b2
  have t2 := hTb.below b2
  have b3 := hbl.trans (b2.mono hbl.size)
  clear hp hTb hbl b2 hT
  obtain ⟨q1, q2, q3, q4⟩ := p2
  go_wp2_with fail
  have e1 := proof_any a b c d w2 ha hb hc hd t2
  have HB1 := Lib.hid (fun W h => proof_any b a d c W hb ha hd hc h)
  have HR1 := Lib.hid (fun W => rproof_any a b c d W ha hb hc hd)
  have HR2 := Lib.hid (fun W => rproof_any b a d c W hb ha hd hc)
  have l1 := kp_lt a b c d
  have l2 := kp_lt b a d c
  generalize kp a b c d = x at *
  generalize kp b a d c = y at *
  refine e1.mono ?_
  rintro e w3 ⟨rfl, b4⟩
  have p3 := Prs.below ⟨q1, q2, q3, q4⟩ b4
  have t3 := t2.below b4
  have b5 := below_trans b3 b4
  clear q1 q2 q3 q4 e1 b3 b4 t2
  obtain ⟨q1, q2, q3, q4⟩ := p3
  go_wp2_with fail
  refine (HB1.out _ t3).mono ?_
  rintro e w4 ⟨rfl, b6⟩
  have p4 := Prs.below ⟨q1, q2, q3, q4⟩ b6
  have b7 := below_trans b5 b6
  clear q1 q2 q3 q4 b5 b6 t3 HB1
  obtain ⟨q1, q2, q3, q4⟩ := p4
  go_wp2_with fail
  refine (HR1.out _).mono ?_
  rintro e w5 ⟨rfl, b8⟩
  have p5 := Prs.below ⟨q1, q2, q3, q4⟩ b8
  have b9 := below_trans b7 b8
  clear q1 q2 q3 q4 b7 b8 HR1
  obtain ⟨q1, q2, q3, q4⟩ := p5
  go_wp2_with fail
  refine (HR2.out _).mono ?_
  rintro e w6 ⟨rfl, b10⟩
  have b11 := below_trans b9 b10
  clear q1 q2 q3 q4 b9 b10 HR2
  go_wp2_with fail
  go_ret
  exact ⟨rfl, b11⟩
end Go.Proofs.YtdgllpcljjhhdaaDoor

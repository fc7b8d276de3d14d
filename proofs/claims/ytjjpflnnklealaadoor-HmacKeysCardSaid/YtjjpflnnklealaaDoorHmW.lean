/- What the laws over the digest with a key lean on: its calls with one, two, three pieces in a new list; that the example holds. Condition: the table holds FIPS 180-4's constants. -/
import Derived.Test.YtjjpflnnklealaaDoorHmO
import Derived.Test.YtjjpflnnklealaaDoorSameR
namespace Go.Proofs.YtjjpflnnklealaaDoor
set_option linter.unusedVariables false
open Go.RowKit

/-- What the digest with a key leaves. -/
def Hd (k l : List UInt8) (W : World) (e : Ending) (w' : World) : Prop := e = .returned (.agg (bv (hm k l)).toArray) ∧ Below W.heap.size W w'
/-- Two digests of the same key and bytes are the same. -/
theorem hm_same (W : World) (k l : List UInt8) : (binOp .eql 24 (.agg (bv (hm k l)).toArray) (.agg (bv (hm k l)).toArray)).run Tryd.prog W = .ok (.bool true) W := dig_same W _
theorem hmac_one {B : Option Addr} {m d : Nat} {k : List UInt8} {A : Option Addr} {n c : Nat} {l : List UInt8} {w : World} {t : TypeId} {g : Nat} (hg : g = w.heap.size) (hk : RB w B m d k) (h : RB w A n c l) (hml : m ≤ 137438953472) (hn : n ≤ 137438953472) (hT : Tab w) :
    Calls Tryd.prog 8 #[.slice B m d, .slice (some ⟨g, 0, none⟩) 1 1] (w.alloc (.cells #[.slice A n c] t)) fun e w' => e = .returned (.agg (bv (hm k l)).toArray) ∧ Below w.heap.size w w' := by
  subst hg
  have hb := below_a w (.cells #[.slice A n c] t)
  have hp : Parts (w.alloc (.cells #[.slice A n c] t)) (some ⟨w.heap.size, 0, none⟩) 1 1 [l] := Parts.one (cell_new w _ t) (h.below hb)
  have := hmac_any B m d k (some ⟨w.heap.size, 0, none⟩) 1 1 [l] _ (hk.below hb) hp hml (by rw [tl_one l n h.len]; exact hn) (by omega) (hT.below hb)
  rw [fl_one] at this
  refine this.mono ?_
  rintro e w' ⟨rfl, b⟩
  exact ⟨rfl, below_trans hb b⟩
theorem hmac_two {B : Option Addr} {m d : Nat} {k : List UInt8} {A C : Option Addr} {n c o f : Nat} {l r : List UInt8} {w : World} {t : TypeId} {g : Nat} (hg : g = w.heap.size) (hk : RB w B m d k) (h : RB w A n c l) (h' : RB w C o f r) (hml : m ≤ 137438953472) (hn : n + o ≤ 137438953472) (hT : Tab w) :
    Calls Tryd.prog 8 #[.slice B m d, .slice (some ⟨g, 0, none⟩) 2 2] (w.alloc (.cells #[.slice A n c, .slice C o f] t)) fun e w' => e = .returned (.agg (bv (hm k (l ++ r))).toArray) ∧ Below w.heap.size w w' := by
  subst hg
  have hb := below_a w (.cells #[.slice A n c, .slice C o f] t)
  have e1 : fl [l, r] 2 = l ++ r := by simp [fl]
  have e2 : tl [l, r] 2 = n + o := by rw [tl, e1, List.length_append, h.len, h'.len]
  have hp : Parts (w.alloc (.cells #[.slice A n c, .slice C o f] t)) (some ⟨w.heap.size, 0, none⟩) 2 2 [l, r] := by
    refine ⟨rfl, Nat.le_refl _, by unfold maxLen; omega, fun _ => ⟨_, 0, rfl, fun j hj => ?_⟩⟩
    rw [Nat.zero_add, cell_of_row _ w.heap.size j _ t (0, 0) (heap_alloc_new w _)]
    match j, hj with
    | 0, _ => exact ⟨A, n, c, rfl, h.below hb⟩
    | 1, _ => exact ⟨C, o, f, rfl, h'.below hb⟩
  have := hmac_any B m d k (some ⟨w.heap.size, 0, none⟩) 2 2 [l, r] _ (hk.below hb) hp hml (by rw [e2]; exact hn) (by omega) (hT.below hb)
  rw [e1] at this
  refine this.mono ?_
  rintro e w' ⟨rfl, b⟩
  exact ⟨rfl, below_trans hb b⟩
/-- Nothing, a piece, nothing. -/
theorem hmac_three {B : Option Addr} {m d : Nat} {k : List UInt8} {A C D : Option Addr} {n c f q : Nat} {l : List UInt8} {w : World} {t : TypeId} {g : Nat} (hg : g = w.heap.size) (hk : RB w B m d k) (h0 : RB w C 0 f []) (h : RB w A n c l) (h' : RB w D 0 q []) (hml : m ≤ 137438953472) (hn : n ≤ 137438953472) (hT : Tab w) :
    Calls Tryd.prog 8 #[.slice B m d, .slice (some ⟨g, 0, none⟩) 3 3] (w.alloc (.cells #[.slice C 0 f, .slice A n c, .slice D 0 q] t)) fun e w' => e = .returned (.agg (bv (hm k l)).toArray) ∧ Below w.heap.size w w' := by
  subst hg
  have hb := below_a w (.cells #[.slice C 0 f, .slice A n c, .slice D 0 q] t)
  have e1 : fl [[], l, []] 3 = l := by simp [fl]
  have e2 : tl [[], l, []] 3 = n := by rw [tl, e1, h.len]
  have hp : Parts (w.alloc (.cells #[.slice C 0 f, .slice A n c, .slice D 0 q] t)) (some ⟨w.heap.size, 0, none⟩) 3 3 [[], l, []] := by
    refine ⟨rfl, Nat.le_refl _, by unfold maxLen; omega, fun _ => ⟨_, 0, rfl, fun j hj => ?_⟩⟩
    rw [Nat.zero_add, cell_of_row _ w.heap.size j _ t (0, 0) (heap_alloc_new w _)]
    match j, hj with
    | 0, _ => exact ⟨C, 0, f, rfl, h0.below hb⟩
    | 1, _ => exact ⟨A, n, c, rfl, h.below hb⟩
    | 2, _ => exact ⟨D, 0, q, rfl, h'.below hb⟩
  have := hmac_any B m d k (some ⟨w.heap.size, 0, none⟩) 3 3 [[], l, []] _ (hk.below hb) hp hml (by rw [e2]; exact hn) (by omega) (hT.below hb)
  rw [e1] at this
  refine this.mono ?_
  rintro e w' ⟨rfl, b⟩
  exact ⟨rfl, below_trans hb b⟩

/-- The same, behind a draw. -/
theorem hmac_three_d {B : Option Addr} {m d : Nat} {k : List UInt8} {A C D : Option Addr} {n c f q : Nat} {l : List UInt8} {w : World} {t : TypeId} {g : Nat} (hg : g = w.heap.size) (hk : RB w B m d k) (h0 : RB w C 0 f []) (h : RB w A n c l) (h' : RB w D 0 q []) (hml : m ≤ 137438953472) (hn : n ≤ 137438953472) (hT : Tab w) :
    Calls Tryd.prog 8 #[.slice B m d, .slice (some ⟨g, 0, none⟩) 3 3] (w.alloc (.cells #[.slice C 0 f, .slice A n c, .slice D 0 q] t)).drew fun e w' => e = .returned (.agg (bv (hm k l)).toArray) ∧ Below w.heap.size w w' := by
  subst hg
  have hb := (below_a w (.cells #[.slice C 0 f, .slice A n c, .slice D 0 q] t)).drew
  have e1 : fl [[], l, []] 3 = l := by simp [fl]
  have e2 : tl [[], l, []] 3 = n := by rw [tl, e1, h.len]
  have hp : Parts (w.alloc (.cells #[.slice C 0 f, .slice A n c, .slice D 0 q] t)).drew (some ⟨w.heap.size, 0, none⟩) 3 3 [[], l, []] := by
    refine ⟨rfl, Nat.le_refl _, by unfold maxLen; omega, fun _ => ⟨_, 0, rfl, fun j hj => ?_⟩⟩
    rw [Nat.zero_add, show (w.alloc (.cells #[.slice C 0 f, .slice A n c, .slice D 0 q] t)).drew.cell? ⟨w.heap.size, j, none⟩ = (w.alloc (.cells #[.slice C 0 f, .slice A n c, .slice D 0 q] t)).cell? ⟨w.heap.size, j, none⟩ from rfl, cell_of_row _ w.heap.size j _ t (0, 0) (heap_alloc_new w _)]
    match j, hj with
    | 0, _ => exact ⟨C, 0, f, rfl, h0.below hb⟩
    | 1, _ => exact ⟨A, n, c, rfl, h.below hb⟩
    | 2, _ => exact ⟨D, 0, q, rfl, h'.below hb⟩
  have := hmac_any B m d k (some ⟨w.heap.size, 0, none⟩) 3 3 [[], l, []] _ (hk.below hb) hp hml (by rw [e2]; exact hn) (by omega) (hT.below hb)
  rw [e1] at this
  refine this.mono ?_
  rintro e w' ⟨rfl, b⟩
  exact ⟨rfl, below_trans hb b⟩

/-- A constant text's bytes, in a block whose number is said. -/
theorem text_at (w : World) (C : Array Value) (n c g : Nat) (hg : w.heap.size = g) :
    (convert 22 22 (.slice (some ⟨g, 0, none⟩) n c)).run Tryd.prog (w.alloc (.cells C 5)) = .ok (.slice (some ⟨g, 0, none⟩) n c) (w.alloc (.cells C 5 (C.size, C.size + 1))) := by
  subst hg
  exact Lib.run_convert_bytes_const (P := Tryd.prog) w 22 5 C n c Tryd.underlying22 Tryd.underlying5

set_option maxRecDepth 8000 in
set_option maxHeartbeats 800000 in
theorem hwakes_any (w : World) (hT : Tab w) : Calls Tryd.prog 7 #[] w fun e w' => e = .returned (.bool true) ∧ Below w.heap.size w w' := by
  have kc := text_at
  go_enter Tryd.func7, Tryd.ntmps7
  go_wp2_with fail
  clear kc
  generalize hw1 : World.alloc w _ = w1
  generalize hw2 : World.alloc w1 _ = w2
  generalize hw3 : World.alloc w2 _ = w3
  have r1 : RB w1 (some ⟨w.heap.size, 0, none⟩) 4 4 [74, 101, 102, 101] := by rw [← hw1]; exact RB.litf w [74, 101, 102, 101] 5 (4, 5) (by unfold maxLen; simp)
  have b1 : Below w.heap.size w w1 := by rw [← hw1]; exact below_a w _
  have s1 : w1.heap.size = w.heap.size + 1 := by rw [← hw1]; simp
  have r2 : RB w2 (some ⟨w.heap.size + 1, 0, none⟩) 16 16 [119, 104, 97, 116, 32, 100, 111, 32, 121, 97, 32, 119, 97, 110, 116, 32] := by rw [← hw2, ← s1]; exact RB.litf w1 [119, 104, 97, 116, 32, 100, 111, 32, 121, 97, 32, 119, 97, 110, 116, 32] 5 (16, 17) (by unfold maxLen; simp)
  have b2 : Below w1.heap.size w1 w2 := by rw [← hw2]; exact below_a w1 _
  have s2 : w2.heap.size = w.heap.size + 1 + 1 := by rw [← hw2, ← s1]; simp
  have r3 : RB w3 (some ⟨w.heap.size + 1 + 1, 0, none⟩) 12 12 [102, 111, 114, 32, 110, 111, 116, 104, 105, 110, 103, 63] := by rw [← hw3, ← s2]; exact RB.litf w2 [102, 111, 114, 32, 110, 111, 116, 104, 105, 110, 103, 63] 5 (12, 13) (by unfold maxLen; simp)
  have b3 : Below w2.heap.size w2 w3 := by rw [← hw3]; exact below_a w2 _
  have s3 : w3.heap.size = w.heap.size + 1 + 1 + 1 := by rw [← hw3, ← s2]; simp
  clear hw1 hw2 hw3
  have r2' := r2.below b3
  have r1' := (r1.below b2).below b3
  have b4 := below_trans (below_trans b1 b2) b3
  have t4 := hT.below b4
  clear r1 r2 b1 b2 b3 s1 s2 hT
  refine (hmac_two s3.symm r1' r2' r3 (by omega) (by omega) t4).mono ?_
  rintro e w4 ⟨rfl, b5⟩
  have b6 := below_trans b4 b5
  clear r1' r2' r3 b4 b5 t4 s3
  have hd := hm_jefe
  have hl := hm_length [74, 101, 102, 101] ([119, 104, 97, 116, 32, 100, 111, 32, 121, 97, 32, 119, 97, 110, 116, 32] ++ [102, 111, 114, 32, 110, 111, 116, 104, 105, 110, 103, 63])
  generalize hm [74, 101, 102, 101] ([119, 104, 97, 116, 32, 100, 111, 32, 121, 97, 32, 119, 97, 110, 116, 32] ++ [102, 111, 114, 32, 110, 111, 116, 104, 105, 110, 103, 63]) = D at *
  have HL := Lib.hid hl
  have HD := Lib.hid hd
  clear hl hd
  go_wp2_with (first
    | ((with_reducible refine wpList_here ?_); refine wpList_zerosA rfl 24 rfl 32 zero32 _ rfl ?_; intro w5 d5 b7 s5)
    | ((with_reducible refine wpList_here ?_); refine wpList_storeA rfl 24 (.tmp 1) (.tmp 9) rfl w4.heap.size 32 _ D rfl rfl d5 HL.out info32 ?_; intro w6 d6 g6 s6
       have b8 := below_g (below_trans b6 b7) g6 (Nat.le_trans b6.size b7.size) b6.size
       clear d5 g6 b6 b7))
  have e6 : w6.heap.size = w4.heap.size + 1 := by omega
  have q2 : RB (w6.alloc (.cells #[.int .u8 91, .int .u8 220, .int .u8 193, .int .u8 70] 5)) (some ⟨w4.heap.size + 1, 0, none⟩) 4 4 [91, 220, 193, 70] := by rw [← e6]; exact RB.lit w6 [91, 220, 193, 70] 5 (by unfold maxLen; simp)
  have q1 := (((d6.rb HL.out (by omega)).take (k := 4) (by omega)).below (below_a w6 (.cells #[.int .u8 91, .int .u8 220, .int .u8 193, .int .u8 70] 5)))
  rw [HD.out] at q1
  refine (Same_yes _ _ 4 32 4 4 [91, 220, 193, 70] _ q1 q2).mono ?_
  rintro e w7 ⟨rfl, b9⟩
  have b10 := b8.trans (((below_a w6 _).trans (b9.mono (by simp))).mono b8.size)
  clear q1 q2 b9
  go_wp2_with fail
  go_ret
  exact ⟨rfl, b10⟩
end Go.Proofs.YtjjpflnnklealaaDoor

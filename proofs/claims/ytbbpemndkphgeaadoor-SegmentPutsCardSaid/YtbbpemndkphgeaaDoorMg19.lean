/- The contracts of the document's own flag, Head and Bytes of segments. Conditions: the segment stands, and is right.
The comparison of two heads. Condition: each has ten numbers.
The contracts of bytes.Equal and octet.Same. Condition: both slices hold bytes. -/
import Derived.Test.YtbbpemndkphgeaaDoorMg16
import Derived.Test.YtbbpemndkphgeaaDoorMg10
import Derived.Test.YtbbpemndkphgeaaDoorMg18
import Derived.Test.YtbbpemndkphgeaaDoorMg11
import Derived.Test.YtbbpemndkphgeaaDoorMg2
import Derived.Test.YtbbpemndkphgeaaDoorMg1
import Derived.Laws.BytesArg
import Derived.Laws.IdiomStrings
namespace Go.Proofs.YtbbpemndkphgeaaDoor
set_option linter.unusedVariables false
set_option linter.unusedSimpArgs false
open Go.RowKit

/-- So much, if something is so. -/
def flagN (b : Bool) (n : Nat) : Nat := if b then n else 0
theorem flagN_le (b : Bool) (n : Nat) : flagN b n ≤ n := by unfold flagN; split <;> omega
theorem flag_any (b : Bool) (n : Nat) (w : World) : Calls Tryd.prog 51 #[.bool b, .int .u8 (n : Int)] w fun e w' => e = .returned (.int .u8 (flagN b n : Nat)) ∧ w = w' := by
  cases b
  all_goals
    go_enter Tryd.func51, Tryd.ntmps51
    go_wp2
    go_ret
    exact ⟨rfl, rfl⟩
theorem flag_sum (a b c d : Bool) : flagN a 1 + flagN b 2 + flagN c 4 + flagN d 8 = flN a b c d := by cases a <;> cases b <;> cases c <;> cases d <;> rfl

/-- What stands while a segment's bytes are put one behind the other: the segment, and the bytes so far, in memory of the call's own. -/
structure Gst (w0 : World) (B g : Nat) (s : Seg) (w : World) (v : Value) (n : Nat) (l : List UInt8) : Prop where
  seg : Own w g s.vals
  own : w.ownsRow B 5 1 v n (bv l)
  below : Below w0.heap.size w0 w
  base : B ≤ w.heap.size
  lt : g < B
  old : w0.heap.size ≤ B
section
variable {w0 w w1 w2 : World} {B g n m : Nat} {s : Seg} {v v' : Value} {l r : List UInt8}
theorem Gst.keep (h : Gst w0 B g s w v n l) (hb : Below w.heap.size w w1) : Gst w0 B g s w1 v n l :=
  ⟨h.seg.below hb, own_below h.own hb, below_trans h.below hb, Nat.le_trans h.base hb.size, h.lt, h.old⟩
theorem Gst.app (h : Gst w0 B g s w v n l) (ho : w2.ownsRow B 5 1 v' (n + m) (bv (l ++ r))) (hg : w.grownBy w2 v.ownBlock) : Gst w0 B g s w2 v' (n + m) (l ++ r) :=
  ⟨h.seg.far hg (fun e => by have h1 := (h.own.lt g e.symm).1; have h2 := h.lt; omega), ho, h.below.grown hg (Nat.le_trans h.old h.base) fun k hk => Nat.le_trans h.old (h.own.lt k hk).1, Nat.le_trans h.base hg.size, h.lt, h.old⟩
end
/-- The first six bytes. -/
theorem Gst.start (w0 w1 : World) (g : Nat) (s : Seg) (l : List UInt8) (hl : l.length ≤ 100) (h : Own w1 g s.vals) (hb : Below w0.heap.size w0 w1) (hg : g < w1.heap.size) :
    Gst w0 w1.heap.size g s (w1.alloc (.cells (bv l).toArray 5)) (.slice (some ⟨w1.heap.size, 0, none⟩) l.length l.length) l.length l := by
  have ha := below_a w1 (.cells (bv l).toArray 5)
  refine ⟨h.below ha, ?_, below_trans hb ha, by simp, hg, hb.size⟩
  have := World.ownsRow_lit (base := w1.heap.size) (e := 5) (size := 1) w1 (bv l).toArray l.length (Nat.le_refl _) (by unfold maxLen; omega) (by simp [bv_length])
  simpa using this
section
variable {ops : Array Oper} {rest : List Oper} {o : Oper} {a : Act} {w : World} {Q : Exit → Act → World → Prop}
/-- A new slice of six bytes. -/
theorem wpList_bytes6 (hgd : Region.wanted o (yielded ops a.tmps) = true) (x0 x1 x2 x3 x4 x5 : Operand) (ho : o.op = .buildSlice 24 6 #[(0, x0), (1, x1), (2, x2), (3, x3), (4, x4), (5, x5)]) (v0 v1 v2 v3 v4 v5 : Int)
    (h0 : a.eval x0 = .int .u8 v0) (h1 : a.eval x1 = .int .u8 v1) (h2 : a.eval x2 = .int .u8 v2) (h3 : a.eval x3 = .int .u8 v3) (h4 : a.eval x4 = .int .u8 v4) (h5 : a.eval x5 = .int .u8 v5)
    (l : List UInt8) (hl : [.int .u8 v0, .int .u8 v1, .int .u8 v2, .int .u8 v3, .int .u8 v4, .int .u8 v5] = bv l) (g : Nat) (hg : w.heap.size = g)
    (h : ∀ w', w' = w.alloc (.cells (bv l).toArray 5) → wpList Tryd.prog ops Q rest (a.put o.dst (.slice (some ⟨g, 0, none⟩) 6 6)) w') : wpList Tryd.prog ops Q (o :: rest) a w := by
  subst hg
  refine wpList_want hgd fun _ hK => ?_
  have hrun : (Instr.buildSlice 24 6 #[(0, .int .u8 v0), (1, .int .u8 v1), (2, .int .u8 v2), (3, .int .u8 v3), (4, .int .u8 v4), (5, .int .u8 v5)]).run Tryd.prog w = .ok (.slice (some ⟨w.heap.size, 0, none⟩) 6 6) (w.alloc (.cells #[.int .u8 v0, .int .u8 v1, .int .u8 v2, .int .u8 v3, .int .u8 v4, .int .u8 v5] 5)) := by kernel_rfl
  have hr : (execOp a.eval o).run Tryd.prog w = .ok (.value (.slice (some ⟨w.heap.size, 0, none⟩) 6 6)) (w.alloc (.cells (bv l).toArray 5)) := by
    rw [← hl]
    simp [execOp, ho, h0, h1, h2, h3, h4, h5, hrun]
  unfold Oper.wp
  rw [hr, Oper.upon_value]
  exact hK _ _ (h _ rfl)
end

theorem byte_of {x : Int} {n : Nat} (h : x = ((n % 256 : Nat) : Int)) : x = ((UInt8.ofNat n).toNat : Int) := by
  rw [UInt8.toNat_ofNat']
  exact h
theorem u64_pos {x : Int} (h : 0 ≤ x) (h' : x ≤ 65535) : (u64 x : Int) = x := by
  rw [u64_int]
  omega
/-- The first six bytes; and the five behind the two long numbers. -/
def six (s : Seg) : List UInt8 := [UInt8.ofNat (u64 s.src), UInt8.ofNat (u64 s.dst), UInt8.ofNat (u64 s.sport / 256), UInt8.ofNat (u64 s.sport), UInt8.ofNat (u64 s.dport / 256), UInt8.ofNat (u64 s.dport)]
def five (s : Seg) : List UInt8 := [UInt8.ofNat (flN s.syn s.acks s.fin s.rst), UInt8.ofNat (u64 s.win / 256), UInt8.ofNat (u64 s.win), UInt8.ofNat s.on, UInt8.ofNat s.dn]
theorem six_vals {s : Seg} (h1 : 0 ≤ s.src ∧ s.src ≤ 3) (h2 : 0 ≤ s.dst ∧ s.dst ≤ 3) (h3 : 0 ≤ s.sport ∧ s.sport ≤ 65535) (h4 : 0 ≤ s.dport ∧ s.dport ≤ 65535) :
    ([.int .u8 s.src, .int .u8 s.dst, .int .u8 (s.sport / 256), .int .u8 (s.sport % 256), .int .u8 (s.dport / 256), .int .u8 (s.dport % 256)] : List Value) = bv (six s) := by
  have e1 := u64_pos h1.1 (by omega)
  have e2 := u64_pos h2.1 (by omega)
  have e3 := u64_pos h3.1 h3.2
  have e4 := u64_pos h4.1 h4.2
  unfold six bv
  simp only [List.map_cons, List.map_nil]
  congr 1
  · congr 1
    exact byte_of (by omega)
  congr 1
  · congr 1
    exact byte_of (by omega)
  congr 1
  · congr 1
    exact byte_of (by omega)
  congr 1
  · congr 1
    exact byte_of (by omega)
  congr 1
  · congr 1
    exact byte_of (by omega)
  congr 1
  congr 1
  exact byte_of (by omega)
theorem five_vals {s : Seg} {f1 f2 f3 f4 : Nat} (g1 : f1 ≤ 1) (g2 : f2 ≤ 2) (g3 : f3 ≤ 4) (g4 : f4 ≤ 8) (hf : f1 + f2 + f3 + f4 = flN s.syn s.acks s.fin s.rst) (h5 : 0 ≤ s.win ∧ s.win ≤ 65535) (h6 : s.on ≤ 4) (h7 : s.dn ≤ 8) :
    ([.int .u8 (IntKind.u8.wrap (IntKind.u8.wrap (IntKind.u8.wrap ((f1 : Int) + (f2 : Int)) + (f3 : Int)) + (f4 : Int))), .int .u8 (IntKind.u8.wrap (IntKind.i64.wrap (s.win.tdiv 256))), .int .u8 (IntKind.u8.wrap (s.win.tmod 256)), .int .u8 (IntKind.u8.wrap (s.on : Int)), .int .u8 (IntKind.u8.wrap (s.dn : Int))] : List Value) = bv (five s) := by
  have e5 := u64_pos h5.1 h5.2
  have e6 := flN_lt s.syn s.acks s.fin s.rst
  have d1 : s.win.tdiv 256 = s.win / 256 := Int.tdiv_eq_ediv_of_nonneg h5.1
  have d2 : s.win.tmod 256 = s.win % 256 := Int.tmod_eq_emod_of_nonneg h5.1
  rw [d1, d2, IntWalk.i64_in (s.win / 256) (by omega), IntWalk.u8_in ((f1 : Int) + (f2 : Int)) (by omega), IntWalk.u8_in ((f1 : Int) + (f2 : Int) + (f3 : Int)) (by omega), IntWalk.u8_in ((f1 : Int) + (f2 : Int) + (f3 : Int) + (f4 : Int)) (by omega), IntWalk.u8_in (s.win / 256) (by omega), IntWalk.u8_in (s.win % 256) (by omega), IntWalk.u8_in (s.on : Int) (by omega), IntWalk.u8_in (s.dn : Int) (by omega)]
  unfold five bv
  simp only [List.map_cons, List.map_nil]
  congr 1
  · congr 1
    exact byte_of (by omega)
  congr 1
  · congr 1
    exact byte_of (by omega)
  congr 1
  · congr 1
    exact byte_of (by omega)
  congr 1
  · congr 1
    exact byte_of (by omega)
  congr 1
  congr 1
  exact byte_of (by omega)
theorem sby_parts (s : Seg) : sby s = ((((six s ++ be s.seq 4) ++ be s.ack 4) ++ five s) ++ obs s.os) ++ s.ds := by
  unfold sby hby six five
  simp [Seg.head, wd, List.range, List.range.loop, byte_one, be_two]

set_option maxRecDepth 8000 in
set_option maxHeartbeats 3200000 in
theorem Head_any (s : Seg) (w : World) (h : SG w s) (hr : rightS s = true) :
    Calls Tryd.prog 34 #[.agg s.vals.toArray] w (OwnMade w (19 + (obs s.os).length + s.dn) (sby s)) := by
  obtain ⟨h1, h2, h3, h4, h5, h6, h7, _⟩ := right_all hr
  have HOB := Lib.hid (sby_parts s)
  have HL6 := Lib.hid (six_vals h1 h2 h3 h4)
  have hq := h.seq
  have ha := h.ack
  have HSG := Lib.hid h
  have HA0 : Hid (∀ W, Calls Tryd.prog 50 #[.int .u64 (s.seq : Int), .int .i64 4] W (Made W 5 4 (be s.seq 4))) := Lib.hid (fun W => Bytes_any s.seq 4 W (by omega))
  have HA1 : Hid (∀ W, Calls Tryd.prog 50 #[.int .u64 (s.ack : Int), .int .i64 4] W (Made W 5 4 (be s.ack 4))) := Lib.hid (fun W => Bytes_any s.ack 4 W (by omega))
  have F1 : Hid (∀ W, Calls Tryd.prog 51 #[.bool s.syn, .int .u8 1] W fun e w' => e = .returned (.int .u8 (flagN s.syn 1 : Nat)) ∧ W = w') := Lib.hid (fun W => flag_any s.syn 1 W)
  have F2 : Hid (∀ W, Calls Tryd.prog 51 #[.bool s.acks, .int .u8 2] W fun e w' => e = .returned (.int .u8 (flagN s.acks 2 : Nat)) ∧ W = w') := Lib.hid (fun W => flag_any s.acks 2 W)
  have F3 : Hid (∀ W, Calls Tryd.prog 51 #[.bool s.fin, .int .u8 4] W fun e w' => e = .returned (.int .u8 (flagN s.fin 4 : Nat)) ∧ W = w') := Lib.hid (fun W => flag_any s.fin 4 W)
  have F4 : Hid (∀ W, Calls Tryd.prog 51 #[.bool s.rst, .int .u8 8] W fun e w' => e = .returned (.int .u8 (flagN s.rst 8 : Nat)) ∧ W = w') := Lib.hid (fun W => flag_any s.rst 8 W)
  have g1 := flagN_le s.syn 1
  have g2 := flagN_le s.acks 2
  have g3 := flagN_le s.fin 4
  have g4 := flagN_le s.rst 8
  have HL5 := Lib.hid (five_vals g1 g2 g3 g4 (flag_sum s.syn s.acks s.fin s.rst) h5 h6 h7)
  generalize flagN s.syn 1 = f1 at *
  generalize flagN s.acks 2 = f2 at *
  generalize flagN s.fin 4 = f3 at *
  generalize flagN s.rst 8 = f4 at *
  clear h hr
  go_enter Tryd.func34, Tryd.ntmps34
  go_wp2_with (first
    | ((with_reducible refine wpList_here ?_); refine wpList_boxV (o := ⟨some 1, _, _, _, _, _⟩) rfl 26 (.tmp 0) rfl s.vals rfl _ rfl ?_; intro w1 z1 b1 s1; obtain ⟨k0, k1, k2, k3, k4, k5, k6, k7, k8, k9, k10, k11, k12⟩ := z1.cels)
    | ((with_reducible refine wpList_here ?_); refine wpList_bytes6 (o := ⟨some 27, _, _, _, _, _⟩) rfl (.tmp 7) (.tmp 10) (.tmp 14) (.tmp 18) (.tmp 22) (.tmp 26) rfl s.src s.dst (s.sport / 256) (s.sport % 256) (s.dport / 256) (s.dport % 256) rfl rfl rfl rfl rfl rfl (six s) HL6.out _ s1 ?_; intro w9 e9; have hS0 : Gst w (w.heap.size + 1) w.heap.size s w9 (.slice (some ⟨w.heap.size + 1, 0, none⟩) 6 6) 6 (six s) := (by rw [e9, ← s1]; exact Gst.start w w1 w.heap.size s (six s) (by simp [six]) z1 b1 (by omega)); clear z1 b1 s1 e9 k0 k1 k2 k3 k4 k5 k6 k7 k8 k9 k10 k11 k12; have k4 := hS0.seg.cels.c4))
  refine (HA0.out _).mono ?_
  rintro e wa0 ⟨va0, rfl, oa0, ba0⟩
  obtain ⟨Aa0, ca0, rfl, ra0, _⟩ := RB.of_own oa0
  have hT0 := hS0.keep ba0
  clear oa0 ba0 hS0 k4
  go_wp2_with (first
    | (at_builtin; refine wpList_app _ rfl (.tmp 28) (.tmp 32) 24 5 rfl Tryd.underlying24 infoByte (w.heap.size + 1) _ 6 _ rfl hT0.own _ 4 _ _ rfl ra0 (by omega) hT0.base ?_; intro v10 w10 ho1 hg1 _; have hS1 := hT0.app ho1 hg1; clear ho1 hg1 hT0 ra0; have k5 := hS1.seg.cels.c5))
  refine (HA1.out _).mono ?_
  rintro e wa1 ⟨va1, rfl, oa1, ba1⟩
  obtain ⟨Aa1, ca1, rfl, ra1, _⟩ := RB.of_own oa1
  have hT1 := hS1.keep ba1
  clear oa1 ba1 hS1 k5
  go_wp2_with (first
    | (at_builtin; refine wpList_app _ rfl (.tmp 34) (.tmp 38) 24 5 rfl Tryd.underlying24 infoByte (w.heap.size + 1) _ 10 _ rfl hT1.own _ 4 _ _ rfl ra1 (by omega) hT1.base ?_; intro v11 w11 ho2 hg2 _; have hS2 := hT1.app ho2 hg2; clear ho2 hg2 hT1 ra1))
  have hS14 : Gst w (w.heap.size + 1) w.heap.size s w11 v11 14 ((six s ++ be s.seq 4) ++ be s.ack 4) := hS2
  obtain ⟨_, _, _, _, _, _, k6, k7, k8, k9, k10, k11, k12⟩ := hS14.seg.cels
  have hD5 := Lib.hid (hS14.keep (w1 := (w11.alloc (.cells #[.int .u8 (IntKind.u8.wrap (IntKind.u8.wrap (IntKind.u8.wrap ((f1 : Int) + (f2 : Int)) + (f3 : Int)) + (f4 : Int))), .int .u8 (IntKind.u8.wrap (IntKind.i64.wrap (s.win.tdiv 256))), .int .u8 (IntKind.u8.wrap (s.win.tmod 256)), .int .u8 (IntKind.u8.wrap (s.on : Int)), .int .u8 (IntKind.u8.wrap (s.dn : Int))] 5)).drew) (below_a _ _).drew)
  have hRB : Hid (RB ((w11.alloc (.cells #[.int .u8 (IntKind.u8.wrap (IntKind.u8.wrap (IntKind.u8.wrap ((f1 : Int) + (f2 : Int)) + (f3 : Int)) + (f4 : Int))), .int .u8 (IntKind.u8.wrap (IntKind.i64.wrap (s.win.tdiv 256))), .int .u8 (IntKind.u8.wrap (s.win.tmod 256)), .int .u8 (IntKind.u8.wrap (s.on : Int)), .int .u8 (IntKind.u8.wrap (s.dn : Int))] 5)).drew) (some ⟨w11.heap.size, 0, none⟩) 5 5 (five s)) := Lib.hid (by
    rw [show (#[.int .u8 (IntKind.u8.wrap (IntKind.u8.wrap (IntKind.u8.wrap ((f1 : Int) + (f2 : Int)) + (f3 : Int)) + (f4 : Int))), .int .u8 (IntKind.u8.wrap (IntKind.i64.wrap (s.win.tdiv 256))), .int .u8 (IntKind.u8.wrap (s.win.tmod 256)), .int .u8 (IntKind.u8.wrap (s.on : Int)), .int .u8 (IntKind.u8.wrap (s.dn : Int))] : Array Value) = (bv (five s)).toArray from congrArg List.toArray HL5.out]
    exact (RB.lit w11 (five s) 5 (by unfold maxLen; simp [five])).drew)
  clear hS2
  go_region_held3 (fun W => W.cell? ⟨w.heap.size, 6, none⟩ = some (.bool s.syn) ∧ W.cell? ⟨w.heap.size, 7, none⟩ = some (.bool s.acks) ∧ W.cell? ⟨w.heap.size, 8, none⟩ = some (.bool s.fin) ∧ W.cell? ⟨w.heap.size, 9, none⟩ = some (.bool s.rst) ∧ W.cell? ⟨w.heap.size, 10, none⟩ = some (.int .i64 s.win) ∧ W.cell? ⟨w.heap.size, 11, none⟩ = some (.slice s.oA s.on s.oc) ∧ W.cell? ⟨w.heap.size, 12, none⟩ = some (.slice s.dA s.dn s.dc))
    (first
      | exact ⟨k6, k7, k8, k9, k10, k11, k12⟩
      | exact ⟨hD5.out.seg.cels.c6, hD5.out.seg.cels.c7, hD5.out.seg.cels.c8, hD5.out.seg.cels.c9, hD5.out.seg.cels.c10, hD5.out.seg.cels.c11, hD5.out.seg.cels.c12⟩
      | exact ⟨hS3.seg.cels.c6, hS3.seg.cels.c7, hS3.seg.cels.c8, hS3.seg.cels.c9, hS3.seg.cels.c10, hS3.seg.cels.c11, hS3.seg.cels.c12⟩
      | go_keep)
    (first
      | (go_at_call 51; refine (F1.out _).mono ?_; rintro e w' ⟨rfl, rfl⟩)
      | (go_at_call 51; refine (F2.out _).mono ?_; rintro e w' ⟨rfl, rfl⟩)
      | (go_at_call 51; refine (F3.out _).mono ?_; rintro e w' ⟨rfl, rfl⟩)
      | (go_at_call 51; refine (F4.out _).mono ?_; rintro e w' ⟨rfl, rfl⟩)
      | ((refine step_app _ (by rfl) (.tmp 40) (.tmp 72) 24 5 (by rfl) Tryd.underlying24 infoByte (w.heap.size + 1) _ 14 _ (by rfl) hD5.out.own _ 5 5 _ (by rfl) hRB.out (by omega) hD5.out.base ?_; intro v12 w12 ho3 hg3 _; have hS3 := hD5.out.app ho3 hg3)))
  have hS4 : Gst w (w.heap.size + 1) w.heap.size s w12 v12 (19 + (obs (s.os.take 0)).length) ((((six s ++ be s.seq 4) ++ be s.ack 4) ++ five s) ++ obs (s.os.take 0)) := (by
    rw [List.take_zero]
    show Gst _ _ _ _ _ _ 19 (_ ++ [])
    rw [List.append_nil]
    exact hS3)
  generalize IntKind.u8.wrap (IntKind.u8.wrap (IntKind.u8.wrap ((f1 : Int) + (f2 : Int)) + (f3 : Int)) + (f4 : Int)) = q3
  generalize IntKind.u8.wrap (IntKind.u8.wrap ((f1 : Int) + (f2 : Int)) + (f3 : Int)) = q2
  generalize IntKind.u8.wrap ((f1 : Int) + (f2 : Int)) = q1
  generalize IntKind.u8.wrap (IntKind.i64.wrap (s.win.tdiv 256)) = q5
  generalize IntKind.i64.wrap (s.win.tdiv 256) = q4
  generalize IntKind.u8.wrap (s.win.tmod 256) = q7
  generalize s.win.tmod 256 = q6
  generalize IntKind.u8.wrap (s.on : Int) = q8
  generalize IntKind.u8.wrap (s.dn : Int) = q9
  clear hS3 hS14 hD5 hRB HL5 k6 k7 k8 k9 k10 k11 k12 ho3 hg3
  generalize ((six s ++ be s.seq 4) ++ be s.ack 4) ++ five s = pre at *
  have HLN := Lib.hid HSG.out.opts.len
  have HTK : Hid (∀ j, j < s.on → obs (s.os.take (j + 1)) = obs (s.os.take j) ++ ob (s.os.getD j (zK 0))) := Lib.hid (fun j hj => by
    rw [take_getD (by rw [HLN.out]; exact hj), obs_append]
    simp [obs])
  have HLE : Hid (∀ j, (obs (s.os.take j)).length ≤ 49 * s.on) := Lib.hid (fun j => by
    have h1 := obs_le (s.os.take j)
    have h2 := List.length_take_le j s.os
    have h3 := List.length_take (i := j) (l := s.os)
    have h4 := HLN.out
    have h5 : (s.os.take j).length ≤ s.os.length := by rw [h3]; omega
    omega)
  go_wp2_with fail
  go_loopw [3, 4] (fun v i wr => ∃ j : Nat, j ≤ s.on ∧ i = .int .i64 j ∧ Gst w (w.heap.size + 1) w.heap.size s wr v (19 + (obs (s.os.take j)).length) (pre ++ obs (s.os.take j))) (fun _ i _ => s.on - (intOf i).toNat)
  case atStart => exact ⟨0, Nat.zero_le _, rfl, hS4⟩
  case round =>
    obtain ⟨j, hj, rfl, hG⟩ := hrel
    clear hS4
    have hle := HLE.out j
    by_cases hlt : j < s.on
    · have hle2 := HLE.out (j + 1)
      have HT := Lib.hid (HTK.out j hlt)
      rw [HT.out, List.length_append] at hle2
      have k11 := hG.seg.cels.c11
      obtain ⟨b, a, e1, hc0⟩ := HSG.out.opts.at_ hlt
      rw [e1] at k11
      have hc := range_below hc0 hG.below
      have hok := HSG.out.opts.ok hlt
      clear hc0 e1
      generalize s.os.getD j (zK 0) = x at *
      have HR := Lib.hid (fun W => rbytes_any x W hok)
      have HOL : Hid ((obs (s.os.take (j + 1))).length = (obs (s.os.take j)).length + (ob x).length) := Lib.hid (by rw [HT.out, List.length_append])
      generalize obs (s.os.take j) = t at *
      generalize ob x = y at *
      go_wp2_with (first
        | ((with_reducible refine wpList_here ?_); refine wpList_loadV (o := ⟨some 86, _, _, _, _, _⟩) rfl 52 (.tmp 85) rfl b _ x.vals rfl hc _ Tryd.underlying52 rfl infoOpt ?_))
      refine (HR.out _).mono ?_
      rintro e w13 ⟨A13, c13, rfl, r13, _, b13⟩
      have hG2 := hG.keep b13
      clear hG b13 hc k11
      go_wp2_with (first
        | (at_builtin; refine wpList_app _ rfl (.tmp 81) (.tmp 87) 24 5 rfl Tryd.underlying24 infoByte (w.heap.size + 1) _ (19 + t.length) _ rfl hG2.own _ y.length _ _ rfl r13 (by omega) hG2.base ?_; intro v14 w14 ho4 hg4 _; have hG3 := hG2.app ho4 hg4; clear ho4 hg4 hG2 r13))
      go_roundw
      case rel =>
        refine ⟨j + 1, by omega, by go_num, ?_⟩
        rw [HT.out, List.length_append, ← Nat.add_assoc, ← List.append_assoc]
        exact hG3
      case measure => simp [intOf]; omega
    · obtain rfl : j = s.on := by omega
      rw [List.take_of_length_le (by rw [HLN.out]; exact Nat.le_refl _)] at hG hle
      have k12 := hG.seg.cels.c12
      have k11 := hG.seg.cels.c11
      have hd := HSG.out.data.below hG.below
      clear HTK HLE
      go_wp2_with (first
        | (at_builtin; refine wpList_app _ rfl (.tmp 89) (.tmp 91) 24 5 rfl Tryd.underlying24 infoByte (w.heap.size + 1) _ (19 + (obs s.os).length) _ rfl hG.own _ s.dn _ _ rfl hd (by omega) hG.base ?_; intro v14 w14 ho4 hg4 _; have hG3 := hG.app ho4 hg4; clear ho4 hg4 hG hd))
      have b0 := hG3.below
      have ow := own_mono hG3.own hG3.old
      obtain ⟨Af, cf, rfl, rf, _⟩ := RB.of_own ow
      go_ret
      rw [HOB.out]
      exact ⟨Af, cf, rfl, rf, ow, b0⟩

set_option maxRecDepth 8000 in
set_option maxHeartbeats 1600000 in
theorem RBytes_any (s : Seg) (w : World) (h : SG w s) (hr : rightS s = true) :
    Calls Tryd.prog 15 #[.agg s.vals.toArray] w (OwnMade w (sbs s).length (sbs s)) := by
  have HH := Lib.hid (fun W hW => Head_any s W hW hr)
  have HM := Lib.hid (sbs_length h)
  have hle := obs_le s.os
  rw [h.opts.len] at hle
  obtain ⟨_, _, _, _, _, h6, h7, _⟩ := right_all hr
  generalize hn : 19 + (obs s.os).length + s.dn = n at *
  have hn2 : n ≤ 1000 := by omega
  clear hn hle
  go_enter Tryd.func15, Tryd.ntmps15
  go_wp2_with (first
    | ((with_reducible refine wpList_here ?_); refine wpList_boxV (o := ⟨some 1, _, _, _, _, _⟩) rfl 26 (.tmp 0) rfl s.vals rfl _ rfl ?_; intro w1 z1 b1 s1)
    | ((with_reducible refine wpList_here ?_); refine wpList_loadV (o := ⟨some 3, _, _, _, _, _⟩) rfl 26 (.tmp 1) rfl _ _ s.vals rfl z1.range _ Tryd.underlying26 rfl infoSeg ?_))
  refine (HH.out _ (h.below b1)).mono ?_
  rintro e w2 ⟨A2, c2, rfl, r2, _, b2⟩
  have b3 := below_trans b1 b2
  go_wp2_with fail
  refine (RPut_any A2 n c2 (sbs s).length (sby s) _ r2 (by omega) HM.out).mono ?_
  rintro e w3 ⟨A3, c3, rfl, r3, o3, b4⟩
  go_wp2_with fail
  go_ret
  exact ⟨A3, c3, rfl, r3, own_mono o3 b3.size, below_trans b3 b4⟩
end Go.Proofs.YtbbpemndkphgeaaDoor

namespace Go.Proofs.YtbbpemndkphgeaaDoor
set_option linter.unusedVariables false
set_option linter.unusedSimpArgs false
open Go.RowKit

theorem stoodHead : Tryd.prog.stoodInHeld 46 = false := by kernel_rfl
theorem eqGuardHead : Tryd.prog.eqGuardType Tryd.prog.depth 46 = false := by kernel_rfl
theorem cellU64 (cs : Array Value) (i : Nat) (v : Value) (W : World) (h : cs[i]? = some v) : (_root_.Go.part 44 cs i).run Tryd.prog W = .ok v W := by
  simp [_root_.Go.part, aggU64, h]
theorem eqU64 (x y : Nat) (W : World) : (Op.equalIn 9999 44 (.int .u64 (x : Int)) (.int .u64 (y : Int))).run Tryd.prog W = .ok (x == y) W := by
  rw [run_equalIn_int W 9998 44 .u64 .u64 _ _ Tryd.underlying44]
  congr 1
  rw [Bool.eq_iff_iff, beq_iff_eq, beq_iff_eq]
  omega

theorem forIn_hv (x y : List Nat) (W : World) : ∀ l : List Nat, (∀ i ∈ l, i < x.length ∧ i < y.length) →
    (forIn l ((none, ()) : Option Bool × Unit) fun i _ => do
      let u ← _root_.Go.part 44 (hv x).toArray (i * 1)
      let v ← _root_.Go.part 44 (hv y).toArray (i * 1)
      let r ← Op.equalIn 9999 44 u v
      if (!r) = true then pure (ForInStep.done (some false, ())) else pure (ForInStep.yield (none, ()))).run Tryd.prog W = .ok (if l.all (fun i => x.getD i 0 == y.getD i 0) then (none, ()) else (some false, ())) W
  | [], _ => by simp
  | i :: l, h => by
    have ih := forIn_hv x y W l fun j hj => h j (List.mem_cons_of_mem _ hj)
    have h1 := (h i (List.mem_cons_self ..)).1
    have h2 := (h i (List.mem_cons_self ..)).2
    have px := cellU64 (hv x).toArray (i * 1) _ W (by rw [Nat.mul_one, List.getElem?_toArray]; exact hv_at h1)
    have py := cellU64 (hv y).toArray (i * 1) _ W (by rw [Nat.mul_one, List.getElem?_toArray]; exact hv_at h2)
    simp only [List.forIn_cons, Sem.run_bind, px, py, eqU64, Result.andThen_ok, List.all_cons]
    by_cases hb : (x.getD i 0 == y.getD i 0) = true
    · simp only [hb, Bool.not_true, Bool.false_eq_true, if_false, Sem.run_pure, Result.andThen_ok, Bool.true_and]
      exact ih
    · have hf : (x.getD i 0 == y.getD i 0) = false := by simpa using hb
      simp only [hf, Bool.not_false, if_true, Sem.run_pure, Result.andThen_ok, Bool.false_and, Bool.false_eq_true, if_false]

set_option maxRecDepth 8000 in
set_option maxHeartbeats 3200000 in
theorem run_eqlH (x y : List Nat) (hx : x.length = 10) (hy : y.length = 10) (W : World) :
    (binOp .eql 46 (.agg (hv x).toArray) (.agg (hv y).toArray)).run Tryd.prog W = .ok (.bool (x == y)) W := by
  have hall : ((List.range' 0 10).all fun i => x.getD i 0 == y.getD i 0) = (x == y) := by
    match x, hx, y, hy with
    | [a0, a1, a2, a3, a4, a5, a6, a7, a8, a9], _, [b0, b1, b2, b3, b4, b5, b6, b7, b8, b9], _ =>
      simp [List.range']
  rw [run_eql_struct, show (10000 : Nat) = 9999 + 1 from rfl, Op.equalIn]
  simp only [Sem.run_bind, run_underlying Tryd.underlying46, Result.andThen_ok, szU64, Std.Legacy.Range.forIn_eq_forIn_range', Std.Legacy.Range.size, Nat.sub_zero, Nat.add_sub_cancel, Nat.div_one]
  rw [forIn_hv x y W _ (fun i hi => by have := List.mem_range'_1.1 hi; omega), hall]
  cases (x == y) <;> simp
/-- Two heads compared. -/
theorem exec_eqH {W : World} {op : Oper} {a : Act} (x y : Operand) (t : TypeId) (ho : op.op = .binOp .eql 46 x y t) (p q : List Nat) (hp : p.length = 10) (hq : q.length = 10) (hx : a.eval x = .agg (hv p).toArray) (hy : a.eval y = .agg (hv q).toArray) : (execOp a.eval op).run Tryd.prog W = .ok (.value (.bool (p == q))) W := by
  unfold execOp
  simp only [ho, hx, hy, Sem.run_bind, run_eqGuard_agg _ _ _ _ _ _ _ eqGuardHead, Result.andThen_ok, run_eqlH p q hp hq, Sem.run_pure]
/-- Two options told apart. -/
theorem exec_neqO {W : World} {op : Oper} {a : Act} (x y : Operand) (t : TypeId) (ho : op.op = .binOp .neq 52 x y t) (p q : Opt) (hx : a.eval x = .agg p.vals.toArray) (hy : a.eval y = .agg q.vals.toArray) : (execOp a.eval op).run Tryd.prog W = .ok (.value (.bool (!eqO p q))) W := by
  unfold execOp
  simp only [ho, hx, hy, Sem.run_bind, run_eqGuard_agg _ _ _ _ _ _ _ eqGuardOpt, Result.andThen_ok, run_neqO, Sem.run_pure]
end Go.Proofs.YtbbpemndkphgeaaDoor

namespace Go.Proofs.YtbbpemndkphgeaaDoor
set_option linter.unusedSimpArgs false
set_option linter.unusedVariables false
open Go.RowKit

/-- What 'string(b)' gives. -/
theorem RB.text {P : Program} {w : World} {A : Option Addr} {n c : Nat} {l : List UInt8} (h : RB w A n c l) (src e dst : TypeId) (hs : P.underlying src = some (.slice e)) (he : P.underlying e = some (.int .u8)) (hd : P.underlying dst = some .string) :
    (convert src dst (.slice A n c)).run P w = .ok (.string ⟨l.toArray⟩) w := by
  obtain ⟨rfl, h2, h3, h4⟩ := h
  rcases Nat.eq_zero_or_pos l.length with h0 | h0
  · obtain rfl : l = [] := List.eq_nil_of_length_eq_zero h0
    cases A with
    | none => exact run_convert_bytes_nil (P := P) w src e hs he _ _ dst hd
    | some a => exact run_convert_bytes_back (P := P) w src dst e a c [] hs he hd (fun j hj => absurd hj (by simp))
  · obtain ⟨b, o, rfl, hc⟩ := h4 h0
    refine run_convert_bytes_back (P := P) w src dst e _ c l hs he hd (fun j hj => ?_)
    rw [Addr.add_lit, hc j hj]
    simp [hj]

theorem Equal_any (A B : Option Addr) (n c m d : Nat) (l r : List UInt8) (w : World) (h : RB w A n c l) (h' : RB w B m d r) :
    Calls Tryd.prog 52 #[.slice A n c, .slice B m d] w fun e w' => e = .returned (.bool (l == r)) ∧ w = w' := by
  have h1 := h.text (P := Tryd.prog) 24 5 9 Tryd.underlying24 Tryd.underlying5 Tryd.underlying9
  have h2 := h'.text (P := Tryd.prog) 24 5 9 Tryd.underlying24 Tryd.underlying5 Tryd.underlying9
  go_enter Tryd.func52, Tryd.ntmps52
  go_wp2
  go_ret
  exact ⟨by rfl, rfl⟩

theorem same_any (A B : Option Addr) (n c m d : Nat) (l r : List UInt8) (w : World) (h : RB w A n c l) (h' : RB w B m d r) :
    Calls Tryd.prog 36 #[.slice A n c, .slice B m d] w fun e w' => e = .returned (.bool (l == r)) ∧ w = w' := by
  go_enter Tryd.func36, Tryd.ntmps36
  go_wp2_with (go_at_call 52; refine (Equal_any _ _ _ _ _ _ _ _ _ h h').mono ?_; rintro e w1 ⟨rfl, rfl⟩)
  go_ret
  exact ⟨rfl, rfl⟩

theorem same_yes (A B : Option Addr) (n c m d : Nat) (l : List UInt8) (w : World) (h : RB w A n c l) (h' : RB w B m d l) :
    Calls Tryd.prog 36 #[.slice A n c, .slice B m d] w (Yes w) :=
  (same_any A B n c m d l l w h h').mono fun e w' ⟨he, hq⟩ => by
    subst hq
    exact ⟨by rw [he]; simp, Below.refl _ _⟩
end Go.Proofs.YtbbpemndkphgeaaDoor

/- Words of our own for segments: a segment's cells and what lies behind its slices; the numbers ahead of a segment's bytes; a result that is one variable's whole row. No condition. -/
import Derived.Test.YtbbpemndkphgeaaDoorRes
import Derived.Test.YtbbpemndkphgeaaDoorOptM
namespace Go.Proofs.YtbbpemndkphgeaaDoor
set_option linter.unusedVariables false
set_option linter.unusedSimpArgs false
open Go.RowKit

/-- A segment: its fields, its two slices as values, and what these hold. -/
structure Seg where
  src : Int
  dst : Int
  sport : Int
  dport : Int
  seq : Nat
  ack : Nat
  syn : Bool
  acks : Bool
  fin : Bool
  rst : Bool
  win : Int
  oA : Option Addr
  on : Nat
  oc : Nat
  dA : Option Addr
  dn : Nat
  dc : Nat
  os : List Opt
  ds : List UInt8

/-- Its cells. -/
def Seg.vals (s : Seg) : List Value := [.int .i64 s.src, .int .i64 s.dst, .int .i64 s.sport, .int .i64 s.dport, .int .u32 (s.seq : Int), .int .u32 (s.ack : Int), .bool s.syn, .bool s.acks, .bool s.fin, .bool s.rst, .int .i64 s.win, .slice s.oA s.on s.oc, .slice s.dA s.dn s.dc]
theorem Seg.vals_length (s : Seg) : s.vals.length = 13 := rfl
/-- A segment that stands in w. -/
structure SG (w : World) (s : Seg) : Prop where
  src : isInt s.src
  dst : isInt s.dst
  sport : isInt s.sport
  dport : isInt s.dport
  seq : s.seq < 4294967296
  ack : s.ack < 4294967296
  win : isInt s.win
  opts : OS w s.oA s.on s.oc s.os
  data : RB w s.dA s.dn s.dc s.ds
theorem SG.below {w w' : World} {s : Seg} (h : SG w s) (hb : Below w.heap.size w w') : SG w' s := ⟨h.src, h.dst, h.sport, h.dport, h.seq, h.ack, h.win, h.opts.below hb, h.data.below hb⟩
theorem sv_one (s : Seg) : ∀ u ∈ s.vals, u.oneCell' = true := by
  intro u hu
  simp only [Seg.vals, List.mem_cons, List.not_mem_nil, or_false] at hu
  rcases hu with rfl | rfl | rfl | rfl | rfl | rfl | rfl | rfl | rfl | rfl | rfl | rfl | rfl <;> rfl
/-- A segment with nothing, but addresses and ports. -/
def aS (a b c d : Int) : Seg := ⟨a, b, c, d, 0, 0, false, false, false, false, 0, none, 0, 0, none, 0, 0, [], []⟩
def zS : Seg := aS 0 0 0 0
theorem OS.nil_ (w : World) : OS w none 0 0 [] := ⟨rfl, Nat.le_refl _, Nat.zero_le _, by simp, fun h => absurd h (by omega)⟩
theorem aS_ok (w : World) {a b c d : Int} (ha : isInt a) (hb : isInt b) (hc : isInt c) (hd : isInt d) : SG w (aS a b c d) :=
  ⟨ha, hb, hc, hd, Nat.zero_lt_succ _, Nat.zero_lt_succ _, show isInt 0 by unfold isInt; decide, OS.nil_ w, RB.nil_ w⟩
theorem zS_ok (w : World) : SG w zS := aS_ok w (by unfold isInt; decide) (by unfold isInt; decide) (by unfold isInt; decide) (by unfold isInt; decide)
theorem infoSeg : (Tryd.prog.info? 26).map (·.size) = some 13 := by kernel_rfl
theorem zeroSeg : (Tryd.prog.info? 26).map (·.zero) = some (some (.agg zS.vals.toArray)) := by kernel_rfl

/-- Are two segments the same? -/
def SameS (a b : Seg) : Prop := a.src = b.src ∧ a.dst = b.dst ∧ a.sport = b.sport ∧ a.dport = b.dport ∧ a.seq = b.seq ∧ a.ack = b.ack ∧ a.syn = b.syn ∧ a.acks = b.acks ∧ a.fin = b.fin ∧ a.rst = b.rst ∧ a.win = b.win ∧ a.os = b.os ∧ a.ds = b.ds
theorem SameS.refl (a : Seg) : SameS a a := ⟨rfl, rfl, rfl, rfl, rfl, rfl, rfl, rfl, rfl, rfl, rfl, rfl, rfl⟩

/-- Flags as bits. -/
def flN (a b c d : Bool) : Nat := b2n a + 2 * b2n b + 4 * b2n c + 8 * b2n d
theorem flN_lt (a b c d : Bool) : flN a b c d < 16 := by cases a <;> cases b <;> cases c <;> cases d <;> decide
theorem flN_inj {a b c d a' b' c' d' : Bool} (h : flN a b c d = flN a' b' c' d') : a = a' ∧ b = b' ∧ c = c' ∧ d = d' := by
  revert h
  cases a <;> cases b <;> cases c <;> cases d <;> cases a' <;> cases b' <;> cases c' <;> cases d' <;> decide
/-- The numbers ahead of a segment's bytes, as values. -/
def hv (l : List Nat) : List Value := l.map fun (n : Nat) => .int .u64 (n : Int)
theorem hv_length (l : List Nat) : (hv l).length = l.length := by simp [hv]
theorem hv_at {l : List Nat} {k : Nat} (h : k < l.length) : (hv l)[k]? = some (.int .u64 ((l.getD k 0 : Nat) : Int)) := by
  simp [hv, h]
theorem hv_one (l : List Nat) : ∀ u ∈ hv l, u.oneCell' = true := by
  intro u hu
  obtain ⟨x, _, rfl⟩ := List.mem_map.1 hu
  rfl
theorem hv_set (l : List Nat) (k x : Nat) : (hv l).set k (.int .u64 (x : Int)) = hv (l.set k x) := by
  unfold hv
  rw [List.map_set]
/-- A segment's numbers. -/
def Seg.head (s : Seg) : List Nat := [u64 s.src, u64 s.dst, u64 s.sport, u64 s.dport, s.seq, s.ack, flN s.syn s.acks s.fin s.rst, u64 s.win, s.on, s.dn]
/-- How many bytes each has, and all ahead of it. -/
def wd (k : Nat) : Nat := [1, 1, 2, 2, 4, 4, 1, 2, 1, 1].getD k 0
def off (k : Nat) : Nat := [0, 1, 2, 4, 6, 10, 14, 15, 17, 18, 19].getD k 0
theorem off_step {k : Nat} (h : k < 10) : off (k + 1) = off k + wd k ∧ 1 ≤ wd k ∧ wd k ≤ 4 ∧ off (k + 1) ≤ 19 := by
  rcases (by omega : k = 0 ∨ k = 1 ∨ k = 2 ∨ k = 3 ∨ k = 4 ∨ k = 5 ∨ k = 6 ∨ k = 7 ∨ k = 8 ∨ k = 9) with rfl | rfl | rfl | rfl | rfl | rfl | rfl | rfl | rfl | rfl <;> decide
theorem wn_wd {k : Nat} (h : k < 10) : wn (wd k : Int) = wd k := by
  rcases (by omega : k = 0 ∨ k = 1 ∨ k = 2 ∨ k = 3 ∨ k = 4 ∨ k = 5 ∨ k = 6 ∨ k = 7 ∨ k = 8 ∨ k = 9) with rfl | rfl | rfl | rfl | rfl | rfl | rfl | rfl | rfl | rfl <;> decide
/-- The bytes of the first k numbers. -/
def hby (h : List Nat) (k : Nat) : List UInt8 := (List.range k).flatMap fun i => be (h.getD i 0) (wd i)
theorem hby_zero (h : List Nat) : hby h 0 = [] := rfl
theorem hby_step (h : List Nat) (k : Nat) : hby h (k + 1) = hby h k ++ be (h.getD k 0) (wd k) := by
  unfold hby
  rw [List.range_succ, List.flatMap_append]
  simp
theorem hby_length (h : List Nat) : ∀ k, k ≤ 10 → (hby h k).length = off k
  | 0, _ => rfl
  | k + 1, hk => by
    rw [hby_step, List.length_append, hby_length h k (by omega), be_length, (off_step (by omega)).1]

/-- An element of an array that is a value. -/
theorem run_index_row (W : World) (t e : TypeId) (n : Nat) (cs : Array Value) (k : Int) (v : Value) (ht : Tryd.prog.underlying t = some (.array n e)) (hs : ∀ W : World, (sizeOf e).run Tryd.prog W = .ok 1 W) (ha : ∀ W : World, (isAgg e).run Tryd.prog W = .ok false W)
    (h0 : 0 ≤ k) (hk : k < n) (hv : cs[k.toNat]? = some v) : (Instr.index t (.agg cs) (.int .i64 k)).run Tryd.prog W = .ok v W := by
  simp [Instr.index, run_underlying ht, asIntOf, h0, hk, hs, part, ha, hv, show ¬ (n : Int) ≤ k by omega]
theorem szBool (W : World) : (sizeOf 4).run Tryd.prog W = .ok 1 W := by kernel_rfl
theorem aggBool (W : World) : (isAgg 4).run Tryd.prog W = .ok false W := by kernel_rfl
theorem szU64 (W : World) : (sizeOf 44).run Tryd.prog W = .ok 1 W := by kernel_rfl
theorem aggU64 (W : World) : (isAgg 44).run Tryd.prog W = .ok false W := by kernel_rfl
theorem szInt (W : World) : (sizeOf 3).run Tryd.prog W = .ok 1 W := by kernel_rfl
theorem aggInt (W : World) : (isAgg 3).run Tryd.prog W = .ok false W := by kernel_rfl

/-- A row that a call answers out of its own block. -/
theorem results_c0 {P : Program} {fn : Func} {p : Tmp} {ty : TypeId} (h : fn.results = #[.cell p ty]) (tmps : Array Value) (w : World) (g : Nat) (cs : List Value) (d : TypeDesc)
    (hp : tmps.getD p undef = .pointer (some ⟨g, 0, none⟩)) (hc : w.rangeAt g 0 cs) (hu : P.underlying ty = some d) (hd : d.isRow = true) (hi : (P.info? ty).map (·.size) = some cs.length) :
    (results fn tmps).run P w = .ok (.agg cs.toArray) w := by
  have hp' : tmps[p]?.getD undef = .pointer (some ⟨g, 0, none⟩) := by simpa using hp
  simp [results, h, hp', asAddr, run_loadVar_mid w g 0 ty cs d hc hu hd hi]
end Go.Proofs.YtbbpemndkphgeaaDoor

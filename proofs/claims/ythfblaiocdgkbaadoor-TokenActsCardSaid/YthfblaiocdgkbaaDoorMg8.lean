/- What the laws on tables lean on: Take at a key or two in a new list; the tokens of some keys; a table that is not there; the example. Condition: the table of constants holds.
append of numbers onto a slice that the call owns, as a step of a region that draws its order; rows of words of 32 bits. Condition: what comes out is at most 2^40 numbers long.
The contracts of the document's own digest, first part: rotations, the constants. Condition: a rotation by 1 to 31.
The contracts of the document's own digest, second part: the words of a block. Condition: a block of 64 bytes. -/
import Derived.Test.YthfblaiocdgkbaaDoorMg7
import Derived.Test.YthfblaiocdgkbaaDoorMg1
import Derived.Test.YthfblaiocdgkbaaDoorMg2
import Derived.Deep.RegionLaw
import Derived.Deep.AppendLies
import Derived.Test.YthfblaiocdgkbaaDoorMg4
import Derived.Deep.RegionHeld3
namespace Go.Proofs.YthfblaiocdgkbaaDoor
set_option linter.unusedVariables false
set_option linter.unusedSimpArgs false
open Go.RowKit

/-- A table of the law's own: all of it is new since W. -/
structure Ts (W w : World) (tb mb c : Nat) (l : Ents) : Prop where
  t : Tb w tb mb c l
  tab : Tab w
  bel : RowKit.Below W.heap.size W w
  new : W.heap.size ≤ mb
  far : 0 < W.heap.size

section
variable {W w w' : World} {tb mb c : Nat} {l l' : Ents}
theorem Ts.below (h : Ts W w tb mb c l) (b : RowKit.Below w.heap.size w w') : Ts W w' tb mb c l :=
  ⟨h.t.below b, h.tab.below b, h.bel.trans (b.mono h.bel.size), h.new, h.far⟩
theorem Ts.turn (h : Ts W w tb mb c l) (t : Tb w' tb mb c l') (k : Ch w w' (fun g => g = mb)) : Ts W w' tb mb c l' :=
  ⟨t, h.tab.far (row := some mb) ⟨k.os, k.tape, k.output, k.size, fun j hj hne => k.block j hj fun e => hne (by rw [e])⟩ (fun e => by
    injection e with e
    have := h.far
    have := h.new
    omega), h.bel.trans ⟨k.os, k.tape, k.output, k.size, fun j hj => k.block j (Nat.lt_of_lt_of_le hj h.bel.size) fun e => by have := h.new; omega⟩, h.new, h.far⟩
theorem Ts.alloc (h : Ts W w tb mb c l) (o : Obj) : Ts W (w.alloc o) tb mb c l := h.below (below_a w o)
theorem Ts.new_ {W w w' : World} (hT : Tab W) (b0 : RowKit.Below W.heap.size W w) (t : Tb w' tb mb c l) (b : RowKit.Below w.heap.size w w') (hm : w.heap.size ≤ mb) : Ts W w' tb mb c l :=
  ⟨t, (hT.below b0).below b, b0.trans (b.mono b0.size), Nat.le_trans b0.size hm, hT.lt⟩
end

section
variable {w : World} {tb mb c : Nat} {l : Ents} {owner : Int} {k j : Nat}
theorem take1_hit (h : Tb w tb mb c l) (hT : Tab w) (hf : l.length < c) (hk : k < 18446744073709551616) (hn : kt k ∉ keys l) :
    Calls Tryd.prog 11 #[ptr tb, .int .i64 owner, .slice (some ⟨w.heap.size, 0, none⟩) 1 1] (w.alloc (.cells #[.int .u64 (k : Int)] 28)) fun e w' => e = .returned (.tuple #[.int .u64 (k : Int), .int .i64 0, .int .i64 0]) ∧ Tb w' tb mb c (l ++ [(kt k, ⟨true, owner, 0⟩)]) ∧ Ch w w' (fun g => g = mb) := by
  have hb := below_a w (.cells #[.int .u64 (k : Int)] 28)
  have hr : RI .u64 (w.alloc (.cells #[.int .u64 (k : Int)] 28)) (some ⟨w.heap.size, 0, none⟩) 1 1 [(k : Int)] := RI.lit .u64 w [(k : Int)] 28 (by simp [maxLen])
  refine (ttake_hit (owner := owner) (h.below hb) (hT.below hb) hf hr (fun z hz => by simp at hz; omega) (by omega) (j := 0) (by omega) (fun i hi => absurd hi (by omega)) (by simpa using hn)).mono fun e w' ⟨h1, h2, h3⟩ => ⟨?_, ?_, (Ch.of_below _ hb).then_ h3⟩
  · rw [h1]; rfl
  · simpa using h2
theorem take1_none (h : Tb w tb mb c l) (hT : Tab w) (hf : l.length < c) (hk : k < 18446744073709551616) (hn : kt k ∈ keys l) :
    Calls Tryd.prog 11 #[ptr tb, .int .i64 owner, .slice (some ⟨w.heap.size, 0, none⟩) 1 1] (w.alloc (.cells #[.int .u64 (k : Int)] 28)) fun e w' => e = .returned (.tuple #[.int .u64 0, .int .i64 1, .int .i64 6]) ∧ RowKit.Below w.heap.size w w' := by
  have hb := below_a w (.cells #[.int .u64 (k : Int)] 28)
  have hr : RI .u64 (w.alloc (.cells #[.int .u64 (k : Int)] 28)) (some ⟨w.heap.size, 0, none⟩) 1 1 [(k : Int)] := RI.lit .u64 w [(k : Int)] 28 (by simp [maxLen])
  refine (ttake_none (owner := owner) (h.below hb) (hT.below hb) hf hr (fun z hz => by simp at hz; omega) (by omega) (fun i hi => by
    have : i = 0 := by omega
    subst this
    simpa using hn)).mono fun e w' ⟨h1, h2⟩ => ⟨h1, below_trans hb h2⟩
theorem take1_full (h : Tb w tb mb c l) (hf : l.length = c) {A : Option Addr} {n cc : Nat} {o : Obj} :
    Calls Tryd.prog 11 #[ptr tb, .int .i64 owner, .slice A n cc] (w.alloc o) fun e w' => e = .returned (.tuple #[.int .u64 0, .int .i64 0, .int .i64 15]) ∧ RowKit.Below w.heap.size w w' :=
  (ttake_full (h.alloc o) hf).mono fun e w' ⟨h1, h2⟩ => ⟨h1, below_trans (below_a w o) h2⟩
theorem take2_first (h : Tb w tb mb c l) (hT : Tab w) (hf : l.length < c) (hk : k < 18446744073709551616) (hj : j < 18446744073709551616) (hn : kt k ∉ keys l) :
    Calls Tryd.prog 11 #[ptr tb, .int .i64 owner, .slice (some ⟨w.heap.size, 0, none⟩) 2 2] (w.alloc (.cells #[.int .u64 (k : Int), .int .u64 (j : Int)] 28)) fun e w' => e = .returned (.tuple #[.int .u64 (k : Int), .int .i64 0, .int .i64 0]) ∧ Tb w' tb mb c (l ++ [(kt k, ⟨true, owner, 0⟩)]) ∧ Ch w w' (fun g => g = mb) := by
  have hb := below_a w (.cells #[.int .u64 (k : Int), .int .u64 (j : Int)] 28)
  have hr : RI .u64 (w.alloc (.cells #[.int .u64 (k : Int), .int .u64 (j : Int)] 28)) (some ⟨w.heap.size, 0, none⟩) 2 2 [(k : Int), (j : Int)] := RI.lit .u64 w [(k : Int), (j : Int)] 28 (by simp [maxLen])
  refine (ttake_hit (owner := owner) (h.below hb) (hT.below hb) hf hr (fun z hz => by simp at hz; omega) (by omega) (j := 0) (by omega) (fun i hi => absurd hi (by omega)) (by simpa using hn)).mono fun e w' ⟨h1, h2, h3⟩ => ⟨?_, ?_, (Ch.of_below _ hb).then_ h3⟩
  · rw [h1]; rfl
  · simpa using h2
theorem take2_next (h : Tb w tb mb c l) (hT : Tab w) (hf : l.length < c) (hk : k < 18446744073709551616) (hj : j < 18446744073709551616) (hi : kt k ∈ keys l) (hn : kt j ∉ keys l) :
    Calls Tryd.prog 11 #[ptr tb, .int .i64 owner, .slice (some ⟨w.heap.size, 0, none⟩) 2 2] (w.alloc (.cells #[.int .u64 (k : Int), .int .u64 (j : Int)] 28)) fun e w' => e = .returned (.tuple #[.int .u64 (j : Int), .int .i64 1, .int .i64 0]) ∧ Tb w' tb mb c (l ++ [(kt j, ⟨true, owner, 0⟩)]) ∧ Ch w w' (fun g => g = mb) := by
  have hb := below_a w (.cells #[.int .u64 (k : Int), .int .u64 (j : Int)] 28)
  have hr : RI .u64 (w.alloc (.cells #[.int .u64 (k : Int), .int .u64 (j : Int)] 28)) (some ⟨w.heap.size, 0, none⟩) 2 2 [(k : Int), (j : Int)] := RI.lit .u64 w [(k : Int), (j : Int)] 28 (by simp [maxLen])
  refine (ttake_hit (owner := owner) (h.below hb) (hT.below hb) hf hr (fun z hz => by simp at hz; omega) (by omega) (j := 1) (by omega) (fun i hi' => by
    have : i = 0 := by omega
    subst this
    simpa using hi) (by simpa using hn)).mono fun e w' ⟨h1, h2, h3⟩ => ⟨?_, ?_, (Ch.of_below _ hb).then_ h3⟩
  · rw [h1]; rfl
  · simpa using h2
end

set_option maxRecDepth 100000 in
theorem kt5 : kt 5 = 1575898582 := by
  unfold kt
  have e : (dg [0, 0, 0, 0, 0, 0, 0, 5]).take 4 = [93, 238, 77, 214] := by decide +kernel
  have e0 : be 5 8 = [0, 0, 0, 0, 0, 0, 0, 5] := by decide +kernel
  rw [e0, e]
  decide +kernel
set_option maxRecDepth 100000 in
theorem kt6 : kt 6 = 346838908 := by
  unfold kt
  have e : (dg [0, 0, 0, 0, 0, 0, 0, 6]).take 4 = [20, 172, 87, 124] := by decide +kernel
  have e0 : be 6 8 = [0, 0, 0, 0, 0, 0, 0, 6] := by decide +kernel
  rw [e0, e]
  decide +kernel

set_option maxRecDepth 20000 in
set_option maxHeartbeats 1600000 in
theorem wakes_any (w : World) (hT : Tab w) : Calls Tryd.prog 8 #[] w (Held w) := by
  have HT := Lib.hid hT
  have HN := Lib.hid (tnew_any 4 (by unfold isI; omega) w)
  have e4 : cp 4 = 4 := rfl
  rw [e4] at HN
  clear hT e4
  go_enter Tryd.func8, Tryd.ntmps8
  go_wp2_with fail
  refine (HN.out).mono ?_
  rintro e w1 ⟨tb, mb, rfl, T1, b1, _, hm1⟩
  have S1 := Lib.hid (Ts.new_ HT.out (Below.refl _ _) T1 b1 hm1)
  clear T1 b1 hm1 HN
  unfold ptr
  go_wp2_with fail
  refine (take1_hit (k := 5) S1.out.t S1.out.tab (by simp) (by omega) (by simp [keys])).mono ?_
  rintro e w2 ⟨rfl, T2, c2⟩
  have S2 := Lib.hid (S1.out.turn T2 c2)
  clear T2 c2 S1
  go_wp2_with fail
  refine (take2_next (k := 5) (j := 6) S2.out.t S2.out.tab (by simp) (by omega) (by omega) (by simp [keys]) (by simp [keys, kt5, kt6])).mono ?_
  rintro e w3 ⟨rfl, T3, c3⟩
  have S3 := Lib.hid (S2.out.turn T3 c3)
  clear T3 c3 S2
  go_wp2_with fail
  go_ret
  exact ⟨rfl, S3.out.bel⟩

theorem ntake_any (owner : Int) (A : Option Addr) (n c : Nat) (w : World) : Calls Tryd.prog 11 #[.pointer none, .int .i64 owner, .slice A n c] w fun e w' => e = .returned (.tuple #[.int .u64 0, .int .i64 0, .int .i64 2]) ∧ w' = w := by
  go_enter Tryd.func11, Tryd.ntmps11
  go_wp2_with fail
  go_ret3
  exact ⟨rfl, rfl⟩
theorem nfind_any (k : Int) (w : World) : Calls Tryd.prog 19 #[.pointer none, .int .u32 k] w fun e w' => e = .returned (.tuple #[.int .i64 0, .bool false]) ∧ w' = w := by
  go_enter Tryd.func19, Tryd.ntmps19
  go_wp2_with fail
  go_ret2
  exact ⟨rfl, rfl⟩
theorem nfree_any (k t : Int) (w : World) : Calls Tryd.prog 14 #[.pointer none, .int .u32 k, .int .i64 t] w fun e w' => e = .returned (.int .i64 2) ∧ w' = w := by
  go_enter Tryd.func14, Tryd.ntmps14
  go_wp2_with fail
  go_ret
  exact ⟨rfl, rfl⟩
theorem ntick_any (t : Int) (w : World) : Calls Tryd.prog 16 #[.pointer none, .int .i64 t] w fun e w' => e = .returned (.int .i64 0) ∧ w' = w := by
  go_enter Tryd.func16, Tryd.ntmps16
  go_wp2_with fail
  go_ret
  exact ⟨rfl, rfl⟩
theorem nall_any (w : World) : Calls Tryd.prog 18 #[.pointer none] w fun e w' => e = .returned (.slice none 0 0) ∧ w' = w := by
  go_enter Tryd.func18, Tryd.ntmps18
  go_wp2_with fail
  go_ret
  exact ⟨rfl, rfl⟩

set_option maxRecDepth 20000 in
set_option maxHeartbeats 1600000 in
theorem Nil_any (k : Nat) (t : Int) (w : World) (hk : k < 18446744073709551616) (ht : -9223372036854775808 ≤ t ∧ t ≤ 9223372036854775807) (hT : Tab w) : Calls Tryd.prog 6 #[.int .u64 (k : Int), .int .i64 t] w (Held w) := by
  have HW := Lib.hid (wakes_any w hT)
  have H1 := Lib.hid ntake_any
  have H2 := Lib.hid nfind_any
  have H3 := Lib.hid nfree_any
  have H4 := Lib.hid ntick_any
  have H5 := Lib.hid nall_any
  clear hT ht hk
  go_enter Tryd.func6, Tryd.ntmps6
  go_wp2_with fail
  refine (HW.out).mono ?_
  rintro e w0 ⟨rfl, b0⟩
  have HB := Lib.hid b0
  clear b0 HW
  go_wp2_with fail
  refine (H1.out _ _ _ _ _).mono ?_
  rintro e w1 ⟨rfl, rfl⟩
  go_wp2_with fail
  refine (H2.out _ _).mono ?_
  rintro e w1 ⟨rfl, rfl⟩
  go_wp2_with fail
  refine (H3.out _ _ _).mono ?_
  rintro e w1 ⟨rfl, rfl⟩
  go_wp2_with fail
  refine (H4.out _ _).mono ?_
  rintro e w1 ⟨rfl, rfl⟩
  go_wp2_with fail
  refine (H5.out _).mono ?_
  rintro e w1 ⟨rfl, rfl⟩
  go_wp2_with fail
  go_ret
  exact ⟨rfl, HB.out.trans ((below_a w0 _).mono HB.out.size)⟩
end Go.Proofs.YthfblaiocdgkbaaDoor

namespace Go.Proofs.YthfblaiocdgkbaaDoor
set_option linter.unusedVariables false
set_option linter.unusedSimpArgs false
open Go.RowKit

theorem step_appi {P : Program} (w : World) (k : IntKind) {ops : Array Oper} {o : Oper} {a : Act} {K : Act → World → Prop} {Q : Exit → Act → World → Prop} {E : Prop} (hgd : o.guard = none) (s x : Operand) (t e : TypeId) (by_ : Nat)
    (ho : o.op = .call { callee := .builtin .append, args := #[s, x], argTypes := #[t, t] })
    (ht : P.underlying t = some (.slice e)) (hi : (P.info? e).map (fun i => (i.zero, i.size, i.bytes)) = some (some (.int k 0), 1, by_)) (h8 : by_ ≤ 8)
    (base : Nat) (v : Value) (n : Nat) (l : List Int) (hs : a.eval s = v) (hown : w.ownsRow base e 1 v n (iv k l))
    (A : Option Addr) (m c : Nat) (r : List Int) (hx : a.eval x = .slice A m c) (hr : RI k w A m c r) (h40 : n + m ≤ 1099511627776) (hb : base ≤ w.heap.size)
    (h : ∀ v' w', w'.ownsRow base e 1 v' (n + m) (iv k (l ++ r)) → w.grownBy w' v.ownBlock → (v'.ownBlock = v.ownBlock ∨ v'.ownBlock = some w.heap.size) → K (a.put o.dst v') w') :
    if Region.wanted o (yielded ops a.tmps) = true then Oper.wp P o a w K Q else E := by
  have hw : Region.wanted o (yielded ops a.tmps) = true := by simp [Region.wanted, hgd]
  rw [if_pos hw]
  obtain ⟨v', w', hrun, h1, h2, h3⟩ := appi_run (P := P) w k t o.type e by_ ht hi h8 base v n l hown A m c r hr h40 hb
  exact Lib.wp_append_run w s x t t ho _ _ hs hx v' w' hrun (h v' w' h1 h2 h3)

theorem RI.drew {k : IntKind} {w : World} {A : Option Addr} {n c : Nat} {zs : List Int} (h : RI k w A n c zs) : RI k w.drew A n c zs := h
/-- Words, as numbers. -/
def us (l : List UInt32) : List Int := l.map fun (x : UInt32) => (x.toNat : Int)
theorem us_length (l : List UInt32) : (us l).length = l.length := by simp [us]
theorem us_append (l r : List UInt32) : us (l ++ r) = us l ++ us r := by simp [us]
theorem us_at (l : List UInt32) (j : Nat) : (us l).getD j 0 = ((l.getD j 0).toNat : Int) := by
  unfold us
  by_cases h : j < l.length
  · simp [List.getD_eq_getElem?_getD, h]
  · simp [List.getD_eq_getElem?_getD, List.getElem?_eq_none (show l.length ≤ j by omega)]
/-- A row of words, read. -/
theorem RI.word {w : World} {b o n c : Nat} {l : List UInt32} (h : RI .u32 w (some ⟨b, o, none⟩) n c (us l)) {j : Nat} (hj : j < n) : w.cell? ⟨b, o + j, none⟩ = some (c32 (l.getD j 0)) := by
  rw [h.cell hj, us_at]
theorem RI.lit1 (w : World) (x : UInt32) (t : TypeId) : RI .u32 (w.alloc (.cells #[c32 x] t)) (some ⟨w.heap.size, 0, none⟩) 1 1 (us [x]) := RI.lit .u32 w (us [x]) t (by unfold maxLen; simp [us])
theorem RI.lit8 (w : World) (a b c d e f g h : Int) (t : TypeId) : RI .u32 (w.alloc (.cells #[.int .u32 a, .int .u32 b, .int .u32 c, .int .u32 d, .int .u32 e, .int .u32 f, .int .u32 g, .int .u32 h] t)) (some ⟨w.heap.size, 0, none⟩) 8 8 [a, b, c, d, e, f, g, h] :=
  RI.lit .u32 w [a, b, c, d, e, f, g, h] t (by unfold maxLen; simp)
theorem w_by (y : UInt8) : IntKind.u32.wrap (y.toNat : Int) = ((by4 y).toNat : Int) := by
  have := y.toNat_lt
  unfold by4
  rw [IntKind.wrap_u32', UInt32.toNat_ofNat']
  omega
theorem w_shlw (x : UInt32) (k : Nat) (z : Int) (hz : z = 2 ^ k) (hk : k < 32) : IntKind.u32.wrap ((x.toNat : Int) * z) = ((x <<< UInt32.ofNat k).toNat : Int) := by
  subst hz
  exact (IntKind.wrap_u32' _).trans (w_shl x k hk)
/-- A word out of four bytes, in its new block. -/
theorem RI.four (w : World) (a b c d : UInt8) (t : TypeId) :
    RI .u32 (w.alloc (.cells #[.int .u32 (bits .or .u32 (bits .or .u32 (bits .or .u32 (IntKind.u32.wrap (IntKind.u32.wrap (a.toNat : Int) * 16777216)) (IntKind.u32.wrap (IntKind.u32.wrap (b.toNat : Int) * 65536))) (IntKind.u32.wrap (IntKind.u32.wrap (c.toNat : Int) * 256))) (IntKind.u32.wrap (d.toNat : Int)))] t)) (some ⟨w.heap.size, 0, none⟩) 1 1
      (us [by4 a <<< 24 ||| by4 b <<< 16 ||| by4 c <<< 8 ||| by4 d]) := by
  rw [w_by, w_by, w_by, w_by, w_shlw (by4 a) 24 _ (by decide) (by omega), w_shlw (by4 b) 16 _ (by decide) (by omega), w_shlw (by4 c) 8 _ (by decide) (by omega), w_or, w_or, w_or]
  exact RI.lit1 w _ t
/-- A sum of four words, in its new block. -/
theorem RI.sum4 (w : World) (a b c d : UInt32) (t : TypeId) :
    RI .u32 (w.alloc (.cells #[.int .u32 (IntKind.u32.wrap (IntKind.u32.wrap (IntKind.u32.wrap ((a.toNat : Int) + (b.toNat : Int)) + (c.toNat : Int)) + (d.toNat : Int)))] t)) (some ⟨w.heap.size, 0, none⟩) 1 1 (us [a + b + c + d]) := by
  rw [w_addw, w_addw, w_addw]
  exact RI.lit1 w _ t
theorem RI.sum2 (w : World) (a b : UInt32) (t : TypeId) :
    RI .u32 (w.alloc (.cells #[.int .u32 (IntKind.u32.wrap ((a.toNat : Int) + (b.toNat : Int)))] t)) (some ⟨w.heap.size, 0, none⟩) 1 1 (us [a + b]) := by
  rw [w_addw]
  exact RI.lit1 w _ t
/-- A slice of eight words of the call's own, as an array. -/
theorem arr_own {w : World} {base : Nat} {e : TypeId} {v : Value} {l : List UInt32} {n : Nat} (h : w.ownsRow base e 1 v n (iv .u32 (us l))) (hn : 0 < n) :
    ∃ g cap, v = .slice (some ⟨g, 0, none⟩) n cap ∧ base ≤ g ∧ cap ≤ 9223372036854775807 ∧ n ≤ cap ∧ Arr w g n (fun i => l.getD i 0) := by
  obtain ⟨g, cap, hv, hg, hc, hnc, hcell⟩ := owni_at h hn
  exact ⟨g, cap, hv, hg, hc, hnc, fun j hj => by have := hcell j hj; rw [us_at] at this; exact this⟩
end Go.Proofs.YthfblaiocdgkbaaDoor

namespace Go.Proofs.YthfblaiocdgkbaaDoor
set_option linter.unusedVariables false
set_option linter.unusedSimpArgs false
open Go.RowKit

theorem infoU32 : (Tryd.prog.info? 38).map (fun i => (i.zero, i.size, i.bytes)) = some (some (.int .u32 0), 1, 4) := by kernel_rfl

theorem rotr_any (x : UInt32) (k : Nat) (h1 : 1 ≤ k) (h2 : k ≤ 31) (w : World) :
    Calls Tryd.prog 62 #[c32 x, .int .u32 (k : Int)] w fun e w' => e = .returned (c32 (rr k x)) ∧ w' = w := by
  have hb : (32 - (k : Int)) % 4294967296 = ((32 - k : Nat) : Int) := by omega
  have hb' : IntKind.u32.wrap (32 - (k : Int)) = ((32 - k : Nat) : Int) := by rw [IntKind.wrap_u32']; omega
  have HL := Lib.hid (w_shl x (32 - k) (by omega))
  have HR := Lib.hid (w_shr x k (by omega))
  have HE : Hid (rr k x = (x >>> UInt32.ofNat k) ||| (x <<< UInt32.ofNat (32 - k))) := Lib.hid rfl
  have h3 : (32 - k) ≤ 32 := by omega
  have h4 : k ≤ 32 := by omega
  go_enter Tryd.func62, Tryd.ntmps62
  generalize 32 - k = m at *
  go_wp2_with fail
  go_ret
  exact ⟨by rw [HL.out, HR.out, w_or, ← HE.out]; rfl, rfl⟩

/-- What a call leaves that answers n words in memory of its own. -/
def MadeW (W : World) (n : Nat) (l : List UInt32) (e : Ending) (w' : World) : Prop := ∃ A c, e = .returned (.slice A n c) ∧ RI .u32 w' A n c (us l) ∧ Below W.heap.size W w'

theorem us_kk : us kk = [1116352408, 1899447441, 3049323471, 3921009573, 961987163, 1508970993, 2453635748, 2870763221] ++ [3624381080, 310598401, 607225278, 1426881987, 1925078388, 2162078206, 2614888103, 3248222580] ++ [3835390401, 4022224774, 264347078, 604807628, 770255983, 1249150122, 1555081692, 1996064986] ++ [2554220882, 2821834349, 2952996808, 3210313671, 3336571891, 3584528711, 113926993, 338241895] ++ [666307205, 773529912, 1294757372, 1396182291, 1695183700, 1986661051, 2177026350, 2456956037] ++ [2730485921, 2820302411, 3259730800, 3345764771, 3516065817, 3600352804, 4094571909, 275423344] ++ [430227734, 506948616, 659060556, 883997877, 958139571, 1322822218, 1537002063, 1747873779] ++ [1955562222, 2024104815, 2227730452, 2361852424, 2428436474, 2756734187, 3204031479, 3329325298] := by decide +kernel

set_option maxRecDepth 8000 in
set_option maxHeartbeats 1600000 in
theorem Words_any (w : World) : Calls Tryd.prog 61 #[] w (MadeW w 64 kk) := by
  have HU := Lib.hid us_kk
  have hown : w.ownsRow w.heap.size 38 1 (.slice none 0 0) 0 (iv .u32 []) := World.ownsRow_nil _ _ _ _
  have hb := Below.refl w.heap.size w
  go_enter Tryd.func61, Tryd.ntmps61
  go_wp2_with (at_builtin; refine wpList_appi (W := w) rfl _ _ .u32 95 38 4 rfl Tryd.underlying95 infoU32 (by decide) _ _ _ rfl (hown.alloc _) (hb.alloc hb.size _) _ 8 8 _ rfl (RI.lit8 _ _ _ _ _ _ _ _ _ _) (by omega) ?_; clear hown hb; intro A1 c1 w1 hr hown hb)
  go_ret
  rw [List.nil_append, ← HU.out] at hr
  exact ⟨A1, c1, rfl, hr, hb⟩
end Go.Proofs.YthfblaiocdgkbaaDoor

namespace Go.Proofs.YthfblaiocdgkbaaDoor
set_option linter.unusedVariables false
set_option linter.unusedSimpArgs false
open Go.RowKit

theorem rotr_lit (x : UInt32) (k : Nat) (z : Int) (hz : z = (k : Int)) (h1 : 1 ≤ k) (h2 : k ≤ 31) (w : World) :
    Calls Tryd.prog 62 #[c32 x, .int .u32 z] w fun e w' => e = .returned (c32 (rr k x)) ∧ w' = w := by
  subst hz
  exact rotr_any x k h1 h2 w

set_option maxRecDepth 8000 in
set_option maxHeartbeats 1600000 in
theorem rsched_any (A : Option Addr) (c : Nat) (l : List UInt8) (w : World) (h : RB w A 64 c l) :
    Calls Tryd.prog 60 #[.slice A 64 c] w (MadeW w 64 (wl l 64)) := by
  have hn := h.max
  have hn' := h.cap
  go_enter Tryd.func60, Tryd.ntmps60
  go_wp2_with fail
  go_loopw [3, 4] (fun v i wr => ∃ t : Nat, t ≤ 64 ∧ i = .int .i64 t ∧ wr.ownsRow w.heap.size 38 1 v t (iv .u32 (us (wl l t))) ∧ Below w.heap.size w wr) (fun _ i _ => 64 - (intOf i).toNat)
  case atStart => exact ⟨0, Nat.zero_le _, rfl, World.ownsRow_nil _ _ _ _, Below.refl _ _⟩
  case round =>
    obtain ⟨t, ht, rfl, hown, hb⟩ := hrel
    by_cases hlt : t < 64
    · by_cases h16 : t < 16
      · have hr := h.below hb
        have hE : Hid (us (wl l (t + 1)) = us (wl l t) ++ us [be4 l t]) := Lib.hid (by rw [wl_step, us_append, wnext, if_pos h16])
        have hB : Hid (be4 l t = by4 (l.getD (4 * t) 0) <<< 24 ||| by4 (l.getD (4 * t + 1) 0) <<< 16 ||| by4 (l.getD (4 * t + 2) 0) <<< 8 ||| by4 (l.getD (4 * t + 3) 0)) := Lib.hid rfl
        obtain ⟨b, o, rfl, c0⟩ := hr.at_ (j := 4 * t) (by omega)
        obtain ⟨b1, o1, e1, c1⟩ := hr.at_ (j := 4 * t + 1) (by omega)
        obtain ⟨b2, o2, e2, c2⟩ := hr.at_ (j := 4 * t + 2) (by omega)
        obtain ⟨b3, o3, e3, c3⟩ := hr.at_ (j := 4 * t + 3) (by omega)
        injection e1 with e1
        injection e1 with e1 e1'
        injection e2 with e2
        injection e2 with e2 e2'
        injection e3 with e3
        injection e3 with e3 e3'
        subst e1 e1' e2 e2' e3 e3'
        have W0 : IntKind.i64.wrap (4 * (t : Int)) = ((4 * t : Nat) : Int) := by rw [IntWalk.i64_in _ (by omega)]; omega
        have W1 : IntKind.i64.wrap (((4 * t : Nat) : Int) + 1) = ((4 * t + 1 : Nat) : Int) := by rw [IntWalk.i64_in _ (by omega)]; omega
        have W2 : IntKind.i64.wrap (((4 * t : Nat) : Int) + 2) = ((4 * t + 2 : Nat) : Int) := by rw [IntWalk.i64_in _ (by omega)]; omega
        have W3 : IntKind.i64.wrap (((4 * t : Nat) : Int) + 3) = ((4 * t + 3 : Nat) : Int) := by rw [IntWalk.i64_in _ (by omega)]; omega
        have q0 : ((4 * t : Nat) : Int) < 64 := by omega
        have q1 : ((4 * t + 1 : Nat) : Int) < 64 := by omega
        have q2 : ((4 * t + 2 : Nat) : Int) < 64 := by omega
        have q3 : ((4 * t + 3 : Nat) : Int) < 64 := by omega
        have lb := World.block_lt_of_cell? wr _ c0
        have lb' : b < w.heap.size := by
          obtain ⟨b4, o4, e4, c4⟩ := h.at_ (j := 0) (by omega)
          injection e4 with e4
          injection e4 with e4 e4'
          subst e4
          exact World.block_lt_of_cell? w _ c4
        have nb : u3.ownBlock ≠ some b := fun e => by have := (hown.lt _ e).1; omega
        have d0 := (l.getD (4 * t) 0).toNat_lt
        have d1 := (l.getD (4 * t + 1) 0).toNat_lt
        have d2 := (l.getD (4 * t + 2) 0).toNat_lt
        have d3 := (l.getD (4 * t + 3) 0).toNat_lt
        clear hr h
        generalize l.getD (4 * t) 0 = y0 at *
        generalize l.getD (4 * t + 1) 0 = y1 at *
        generalize l.getD (4 * t + 2) 0 = y2 at *
        generalize l.getD (4 * t + 3) 0 = y3 at *
        generalize 4 * t + 1 = p1 at *
        generalize 4 * t + 2 = p2 at *
        generalize 4 * t + 3 = p3 at *
        generalize 4 * t = p0 at *
        go_wp2_with fail
        have hs := hb.size
        go_region_held3 (fun w' => w'.cell? ⟨b, o + p0, none⟩ = some (c8 y0) ∧ w'.cell? ⟨b, o + p1, none⟩ = some (c8 y1) ∧ w'.cell? ⟨b, o + p2, none⟩ = some (c8 y2) ∧ w'.cell? ⟨b, o + p3, none⟩ = some (c8 y3))
          (first
            | go_keep
            | (go_split_ands; refine ⟨?_, ?_, ?_, ?_⟩ <;> (rw [hgrow.cell_far _ (by simp; omega) (Ne.symm nb)]; assumption)))
          ((refine step_appi _ .u32 (by rfl) _ _ _ _ 4 (by rfl) Tryd.underlying95 infoU32 (by decide) w.heap.size _ _ _ (by rfl) ((hown.alloc _).drew) _ 1 1 _ (by rfl) (RI.four wr y0 y1 y2 y3 38).drew ?_ ?_ ?_; (first | omega | skip); (first | (simp; omega) | skip); intro v' w6 hown' hgrow hat))
        rw [← hB.out, ← hE.out] at hown'
        have hb2 := ((hb.alloc hb.size _).drew).grown hgrow (by simp; omega) (fun k hk => (hown.lt k hk).1)
        clear hown hgrow hat hb nb c0 c1 c2 c3
        go_wp2_with fail
        go_roundw
        case rel => exact ⟨t + 1, by omega, by go_num, hown', hb2⟩
        case measure => simp [intOf]; omega
      · have hE : Hid (us (wl l (t + 1)) = us (wl l t) ++ us [sg1 ((wl l t).getD (t - 2) 0) + (wl l t).getD (t - 7) 0 + sg0 ((wl l t).getD (t - 15) 0) + (wl l t).getD (t - 16) 0]) := Lib.hid (by rw [wl_step, us_append, wnext, if_neg h16])
        obtain ⟨g, cap, rfl, hg, hcap, hnc, hcell⟩ := owni_at hown (by omega)
        have c2 := (hcell (t - 2) (by omega)).1
        have c7 := (hcell (t - 7) (by omega)).1
        have c15 := (hcell (t - 15) (by omega)).1
        have c16 := (hcell (t - 16) (by omega)).1
        rw [us_at] at c2 c7 c15 c16
        have e2 : (t : Int) - 2 = ((t - 2 : Nat) : Int) := by omega
        have e15 : (t : Int) - 15 = ((t - 15 : Nat) : Int) := by omega
        have W7 : IntKind.i64.wrap ((t : Int) - 7) = ((t - 7 : Nat) : Int) := by rw [IntWalk.i64_in _ (by omega)]; omega
        have W16 : IntKind.i64.wrap ((t : Int) - 16) = ((t - 16 : Nat) : Int) := by rw [IntWalk.i64_in _ (by omega)]; omega
        have q2 : ((t - 2 : Nat) : Int) < (t : Int) := by omega
        have q7 : ((t - 7 : Nat) : Int) < (t : Int) := by omega
        have q15 : ((t - 15 : Nat) : Int) < (t : Int) := by omega
        have q16 : ((t - 16 : Nat) : Int) < (t : Int) := by omega
        have h16' : 16 ≤ t := by omega
        generalize t - 2 = p2 at *
        generalize t - 7 = p7 at *
        generalize t - 15 = p15 at *
        generalize t - 16 = p16 at *
        generalize (wl l t).getD p2 0 = x2 at *
        generalize (wl l t).getD p7 0 = x7 at *
        generalize (wl l t).getD p15 0 = x15 at *
        generalize (wl l t).getD p16 0 = x16 at *
        have R7 := Lib.hid (rotr_lit x15 7 7 rfl (by omega) (by omega))
        have R18 := Lib.hid (rotr_lit x15 18 18 rfl (by omega) (by omega))
        have R17 := Lib.hid (rotr_lit x2 17 17 rfl (by omega) (by omega))
        have R19 := Lib.hid (rotr_lit x2 19 19 rfl (by omega) (by omega))
        have W2 : IntKind.i64.wrap ((t : Int) - 2) = (p2 : Int) := by rw [IntWalk.i64_in _ (by omega)]; exact e2
        have W15 : IntKind.i64.wrap ((t : Int) - 15) = (p15 : Int) := by rw [IntWalk.i64_in _ (by omega)]; exact e15
        clear hcell e2 e15
        go_wp2_with fail
        go_quiet (first | (go_at_call_of 62 (Value.int IntKind.u32 7); exact Calls.quiet_of_same (R7.out _)) | (go_at_call_of 62 (Value.int IntKind.u32 18); exact Calls.quiet_of_same (R18.out _)))
        have HF : Hid (bits BinOp.xor IntKind.u32 (bits BinOp.xor IntKind.u32 ((rr 7 x15).toNat : Int) ((rr 18 x15).toNat : Int)) ((x15.toNat : Int) / 8) = ((sg0 x15).toNat : Int)) := Lib.hid (by
          rw [w_xor]
          exact (congrArg (fun z => bits BinOp.xor IntKind.u32 ((rr 7 x15 ^^^ rr 18 x15).toNat : Int) z) (show _ = ((x15 >>> 3).toNat : Int) from w_shr x15 3 (by omega))).trans (w_xor _ _))
        rw [HF.out]
        have hown1 : (wr.drewN nq).ownsRow w.heap.size 38 1 (.slice (some ⟨g, 0, none⟩) t cap) t (iv .u32 (us (wl l t))) := hown
        have hb1 := below_drewN hb nq
        have d2 : (wr.drewN nq).cell? ⟨g, p2, none⟩ = some (c32 x2) := c2
        have d7 : (wr.drewN nq).cell? ⟨g, p7, none⟩ = some (c32 x7) := c7
        have d16 : (wr.drewN nq).cell? ⟨g, p16, none⟩ = some (c32 x16) := c16
        clear hown hb c2 c7 c15 c16 R7 R18 HF W15 q15
        generalize sg0 x15 = s0 at *
        generalize wr.drewN nq = w1 at *
        go_wp2_with fail
        go_quiet (first | (go_at_call_of 62 (Value.int IntKind.u32 17); exact Calls.quiet_of_same (R17.out _)) | (go_at_call_of 62 (Value.int IntKind.u32 19); exact Calls.quiet_of_same (R19.out _)))
        have HN : Hid (bits BinOp.xor IntKind.u32 (bits BinOp.xor IntKind.u32 ((rr 17 x2).toNat : Int) ((rr 19 x2).toNat : Int)) ((x2.toNat : Int) / 1024) = ((sg1 x2).toNat : Int)) := Lib.hid (by
          rw [w_xor]
          exact (congrArg (fun z => bits BinOp.xor IntKind.u32 ((rr 17 x2 ^^^ rr 19 x2).toNat : Int) z) (show _ = ((x2 >>> 10).toNat : Int) from w_shr x2 10 (by omega))).trans (w_xor _ _))
        rw [HN.out]
        have hown : (w1.drewN nq).ownsRow w.heap.size 38 1 (.slice (some ⟨g, 0, none⟩) t cap) t (iv .u32 (us (wl l t))) := hown1
        have hb := below_drewN hb1 nq
        have c7 : (w1.drewN nq).cell? ⟨g, p7, none⟩ = some (c32 x7) := d7
        have c16 : (w1.drewN nq).cell? ⟨g, p16, none⟩ = some (c32 x16) := d16
        clear hown1 hb1 d2 d7 d16 R17 R19 HN W2 q2
        generalize sg1 x2 = s1 at *
        generalize w1.drewN nq = w2 at *
        have hs := hb.size
        go_wp2_with fail
        go_region_law ((refine step_appi _ .u32 (by rfl) _ _ _ _ 4 (by rfl) Tryd.underlying95 infoU32 (by decide) w.heap.size _ _ _ (by rfl) ((hown.alloc _).drew) _ 1 1 _ (by rfl) (RI.sum4 w2 s1 x7 s0 x16 38).drew ?_ ?_ ?_; (first | omega | skip); (first | (simp; omega) | skip); intro v' w6 hown' hgrow hat))
        all_goals
          rw [← hE.out] at hown'
          have hb2 := ((hb.alloc hb.size _).drew).grown hgrow (by simp; omega) (fun k hk => (hown.lt k hk).1)
          clear hown hgrow hat hb c7 c16 W7 W16 q7 q16
          go_wp2_with fail
          go_roundw
          case rel => exact ⟨t + 1, by omega, by go_num, hown', hb2⟩
          case measure => simp [intOf]; omega
    · obtain rfl : t = 64 := by omega
      obtain ⟨A2, c2, rfl, r2, _⟩ := RI.of_own hown
      go_wp2_with fail
      go_ret
      exact ⟨A2, c2, rfl, r2, hb⟩
end Go.Proofs.YthfblaiocdgkbaaDoor

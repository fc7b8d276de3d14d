/- What the laws on tables lean on: Take at a key or two in a new list; the tokens of some keys; a table that is not there; the example. Condition: the table of constants holds. -/
import Derived.Test.YtgkonmjchdpohaaDoorTkA
namespace Go.Proofs.YtgkonmjchdpohaaDoor
set_option linter.unusedVariables false
set_option linter.unusedSimpArgs false
open Go.RowKit

/-- A table of the law's own: all of it is new since W. -/
structure Ts (W w : World) (tb mb c : Nat) (l : Ents) : Prop where
  t : Tb w tb mb c l
  tab : Tab w
  bel : RowKit.Below W.heap.size W w
  new : W.heap.size ≤ mb
  far : 0 < W.heap.size

section
variable {W w w' : World} {tb mb c : Nat} {l l' : Ents}
theorem Ts.below (h : Ts W w tb mb c l) (b : RowKit.Below w.heap.size w w') : Ts W w' tb mb c l :=
  ⟨h.t.below b, h.tab.below b, h.bel.trans (b.mono h.bel.size), h.new, h.far⟩
theorem Ts.turn (h : Ts W w tb mb c l) (t : Tb w' tb mb c l') (k : Ch w w' (fun g => g = mb)) : Ts W w' tb mb c l' :=
  ⟨t, h.tab.far (row := some mb) ⟨k.os, k.tape, k.output, k.size, fun j hj hne => k.block j hj fun e => hne (by rw [e])⟩ (fun e => by
    injection e with e
    have := h.far
    have := h.new
    omega), h.bel.trans ⟨k.os, k.tape, k.output, k.size, fun j hj => k.block j (Nat.lt_of_lt_of_le hj h.bel.size) fun e => by have := h.new; omega⟩, h.new, h.far⟩
theorem Ts.alloc (h : Ts W w tb mb c l) (o : Obj) : Ts W (w.alloc o) tb mb c l := h.below (below_a w o)
theorem Ts.new_ {W w w' : World} (hT : Tab W) (b0 : RowKit.Below W.heap.size W w) (t : Tb w' tb mb c l) (b : RowKit.Below w.heap.size w w') (hm : w.heap.size ≤ mb) : Ts W w' tb mb c l :=
  ⟨t, (hT.below b0).below b, b0.trans (b.mono b0.size), Nat.le_trans b0.size hm, hT.lt⟩
end

section
variable {w : World} {tb mb c : Nat} {l : Ents} {owner : Int} {k j : Nat}
theorem take1_hit (h : Tb w tb mb c l) (hT : Tab w) (hf : l.length < c) (hk : k < 18446744073709551616) (hn : kt k ∉ keys l) :
    Calls Tryd.prog 11 #[ptr tb, .int .i64 owner, .slice (some ⟨w.heap.size, 0, none⟩) 1 1] (w.alloc (.cells #[.int .u64 (k : Int)] 28)) fun e w' => e = .returned (.tuple #[.int .u64 (k : Int), .int .i64 0, .int .i64 0]) ∧ Tb w' tb mb c (l ++ [(kt k, ⟨true, owner, 0⟩)]) ∧ Ch w w' (fun g => g = mb) := by
  have hb := below_a w (.cells #[.int .u64 (k : Int)] 28)
  have hr : RI .u64 (w.alloc (.cells #[.int .u64 (k : Int)] 28)) (some ⟨w.heap.size, 0, none⟩) 1 1 [(k : Int)] := RI.lit .u64 w [(k : Int)] 28 (by simp [maxLen])
  refine (ttake_hit (owner := owner) (h.below hb) (hT.below hb) hf hr (fun z hz => by simp at hz; omega) (by omega) (j := 0) (by omega) (fun i hi => absurd hi (by omega)) (by simpa using hn)).mono fun e w' ⟨h1, h2, h3⟩ => ⟨?_, ?_, (Ch.of_below _ hb).then_ h3⟩
  · rw [h1]; rfl
  · simpa using h2
theorem take1_none (h : Tb w tb mb c l) (hT : Tab w) (hf : l.length < c) (hk : k < 18446744073709551616) (hn : kt k ∈ keys l) :
    Calls Tryd.prog 11 #[ptr tb, .int .i64 owner, .slice (some ⟨w.heap.size, 0, none⟩) 1 1] (w.alloc (.cells #[.int .u64 (k : Int)] 28)) fun e w' => e = .returned (.tuple #[.int .u64 0, .int .i64 1, .int .i64 6]) ∧ RowKit.Below w.heap.size w w' := by
  have hb := below_a w (.cells #[.int .u64 (k : Int)] 28)
  have hr : RI .u64 (w.alloc (.cells #[.int .u64 (k : Int)] 28)) (some ⟨w.heap.size, 0, none⟩) 1 1 [(k : Int)] := RI.lit .u64 w [(k : Int)] 28 (by simp [maxLen])
  refine (ttake_none (owner := owner) (h.below hb) (hT.below hb) hf hr (fun z hz => by simp at hz; omega) (by omega) (fun i hi => by
    have : i = 0 := by omega
    subst this
    simpa using hn)).mono fun e w' ⟨h1, h2⟩ => ⟨h1, below_trans hb h2⟩
theorem take1_full (h : Tb w tb mb c l) (hf : l.length = c) {A : Option Addr} {n cc : Nat} {o : Obj} :
    Calls Tryd.prog 11 #[ptr tb, .int .i64 owner, .slice A n cc] (w.alloc o) fun e w' => e = .returned (.tuple #[.int .u64 0, .int .i64 0, .int .i64 15]) ∧ RowKit.Below w.heap.size w w' :=
  (ttake_full (h.alloc o) hf).mono fun e w' ⟨h1, h2⟩ => ⟨h1, below_trans (below_a w o) h2⟩
theorem take2_first (h : Tb w tb mb c l) (hT : Tab w) (hf : l.length < c) (hk : k < 18446744073709551616) (hj : j < 18446744073709551616) (hn : kt k ∉ keys l) :
    Calls Tryd.prog 11 #[ptr tb, .int .i64 owner, .slice (some ⟨w.heap.size, 0, none⟩) 2 2] (w.alloc (.cells #[.int .u64 (k : Int), .int .u64 (j : Int)] 28)) fun e w' => e = .returned (.tuple #[.int .u64 (k : Int), .int .i64 0, .int .i64 0]) ∧ Tb w' tb mb c (l ++ [(kt k, ⟨true, owner, 0⟩)]) ∧ Ch w w' (fun g => g = mb) := by
  have hb := below_a w (.cells #[.int .u64 (k : Int), .int .u64 (j : Int)] 28)
  have hr : RI .u64 (w.alloc (.cells #[.int .u64 (k : Int), .int .u64 (j : Int)] 28)) (some ⟨w.heap.size, 0, none⟩) 2 2 [(k : Int), (j : Int)] := RI.lit .u64 w [(k : Int), (j : Int)] 28 (by simp [maxLen])
  refine (ttake_hit (owner := owner) (h.below hb) (hT.below hb) hf hr (fun z hz => by simp at hz; omega) (by omega) (j := 0) (by omega) (fun i hi => absurd hi (by omega)) (by simpa using hn)).mono fun e w' ⟨h1, h2, h3⟩ => ⟨?_, ?_, (Ch.of_below _ hb).then_ h3⟩
  · rw [h1]; rfl
  · simpa using h2
theorem take2_next (h : Tb w tb mb c l) (hT : Tab w) (hf : l.length < c) (hk : k < 18446744073709551616) (hj : j < 18446744073709551616) (hi : kt k ∈ keys l) (hn : kt j ∉ keys l) :
    Calls Tryd.prog 11 #[ptr tb, .int .i64 owner, .slice (some ⟨w.heap.size, 0, none⟩) 2 2] (w.alloc (.cells #[.int .u64 (k : Int), .int .u64 (j : Int)] 28)) fun e w' => e = .returned (.tuple #[.int .u64 (j : Int), .int .i64 1, .int .i64 0]) ∧ Tb w' tb mb c (l ++ [(kt j, ⟨true, owner, 0⟩)]) ∧ Ch w w' (fun g => g = mb) := by
  have hb := below_a w (.cells #[.int .u64 (k : Int), .int .u64 (j : Int)] 28)
  have hr : RI .u64 (w.alloc (.cells #[.int .u64 (k : Int), .int .u64 (j : Int)] 28)) (some ⟨w.heap.size, 0, none⟩) 2 2 [(k : Int), (j : Int)] := RI.lit .u64 w [(k : Int), (j : Int)] 28 (by simp [maxLen])
  refine (ttake_hit (owner := owner) (h.below hb) (hT.below hb) hf hr (fun z hz => by simp at hz; omega) (by omega) (j := 1) (by omega) (fun i hi' => by
    have : i = 0 := by omega
    subst this
    simpa using hi) (by simpa using hn)).mono fun e w' ⟨h1, h2, h3⟩ => ⟨?_, ?_, (Ch.of_below _ hb).then_ h3⟩
  · rw [h1]; rfl
  · simpa using h2
end

set_option maxRecDepth 100000 in
theorem kt5 : kt 5 = 1575898582 := by
  unfold kt
  have e : (dg [0, 0, 0, 0, 0, 0, 0, 5]).take 4 = [93, 238, 77, 214] := by decide +kernel
  have e0 : be 5 8 = [0, 0, 0, 0, 0, 0, 0, 5] := by decide +kernel
  rw [e0, e]
  decide +kernel
set_option maxRecDepth 100000 in
theorem kt6 : kt 6 = 346838908 := by
  unfold kt
  have e : (dg [0, 0, 0, 0, 0, 0, 0, 6]).take 4 = [20, 172, 87, 124] := by decide +kernel
  have e0 : be 6 8 = [0, 0, 0, 0, 0, 0, 0, 6] := by decide +kernel
  rw [e0, e]
  decide +kernel

set_option maxRecDepth 20000 in
set_option maxHeartbeats 1600000 in
theorem wakes_any (w : World) (hT : Tab w) : Calls Tryd.prog 8 #[] w (Held w) := by
  have HT := Lib.hid hT
  have HN := Lib.hid (tnew_any 4 (by unfold isI; omega) w)
  have e4 : cp 4 = 4 := rfl
  rw [e4] at HN
  clear hT e4
  go_enter Tryd.func8, Tryd.ntmps8
  go_wp2_with fail
  refine (HN.out).mono ?_
  rintro e w1 ⟨tb, mb, rfl, T1, b1, _, hm1⟩
  have S1 := Lib.hid (Ts.new_ HT.out (Below.refl _ _) T1 b1 hm1)
  clear T1 b1 hm1 HN
  unfold ptr
  go_wp2_with fail
  refine (take1_hit (k := 5) S1.out.t S1.out.tab (by simp) (by omega) (by simp [keys])).mono ?_
  rintro e w2 ⟨rfl, T2, c2⟩
  have S2 := Lib.hid (S1.out.turn T2 c2)
  clear T2 c2 S1
  go_wp2_with fail
  refine (take2_next (k := 5) (j := 6) S2.out.t S2.out.tab (by simp) (by omega) (by omega) (by simp [keys]) (by simp [keys, kt5, kt6])).mono ?_
  rintro e w3 ⟨rfl, T3, c3⟩
  have S3 := Lib.hid (S2.out.turn T3 c3)
  clear T3 c3 S2
  go_wp2_with fail
  go_ret
  exact ⟨rfl, S3.out.bel⟩

theorem ntake_any (owner : Int) (A : Option Addr) (n c : Nat) (w : World) : Calls Tryd.prog 11 #[.pointer none, .int .i64 owner, .slice A n c] w fun e w' => e = .returned (.tuple #[.int .u64 0, .int .i64 0, .int .i64 2]) ∧ w' = w := by
  go_enter Tryd.func11, Tryd.ntmps11
  go_wp2_with fail
  go_ret3
  exact ⟨rfl, rfl⟩
theorem nfind_any (k : Int) (w : World) : Calls Tryd.prog 19 #[.pointer none, .int .u32 k] w fun e w' => e = .returned (.tuple #[.int .i64 0, .bool false]) ∧ w' = w := by
  go_enter Tryd.func19, Tryd.ntmps19
  go_wp2_with fail
  go_ret2
  exact ⟨rfl, rfl⟩
theorem nfree_any (k t : Int) (w : World) : Calls Tryd.prog 14 #[.pointer none, .int .u32 k, .int .i64 t] w fun e w' => e = .returned (.int .i64 2) ∧ w' = w := by
  go_enter Tryd.func14, Tryd.ntmps14
  go_wp2_with fail
  go_ret
  exact ⟨rfl, rfl⟩
theorem ntick_any (t : Int) (w : World) : Calls Tryd.prog 16 #[.pointer none, .int .i64 t] w fun e w' => e = .returned (.int .i64 0) ∧ w' = w := by
  go_enter Tryd.func16, Tryd.ntmps16
  go_wp2_with fail
  go_ret
  exact ⟨rfl, rfl⟩
theorem nall_any (w : World) : Calls Tryd.prog 18 #[.pointer none] w fun e w' => e = .returned (.slice none 0 0) ∧ w' = w := by
  go_enter Tryd.func18, Tryd.ntmps18
  go_wp2_with fail
  go_ret
  exact ⟨rfl, rfl⟩

set_option maxRecDepth 20000 in
set_option maxHeartbeats 1600000 in
theorem Nil_any (k : Nat) (t : Int) (w : World) (hk : k < 18446744073709551616) (ht : -9223372036854775808 ≤ t ∧ t ≤ 9223372036854775807) (hT : Tab w) : Calls Tryd.prog 6 #[.int .u64 (k : Int), .int .i64 t] w (Held w) := by
  have HW := Lib.hid (wakes_any w hT)
  have H1 := Lib.hid ntake_any
  have H2 := Lib.hid nfind_any
  have H3 := Lib.hid nfree_any
  have H4 := Lib.hid ntick_any
  have H5 := Lib.hid nall_any
  clear hT ht hk
  go_enter Tryd.func6, Tryd.ntmps6
  go_wp2_with fail
  refine (HW.out).mono ?_
  rintro e w0 ⟨rfl, b0⟩
  have HB := Lib.hid b0
  clear b0 HW
  go_wp2_with fail
  refine (H1.out _ _ _ _ _).mono ?_
  rintro e w1 ⟨rfl, rfl⟩
  go_wp2_with fail
  refine (H2.out _ _).mono ?_
  rintro e w1 ⟨rfl, rfl⟩
  go_wp2_with fail
  refine (H3.out _ _ _).mono ?_
  rintro e w1 ⟨rfl, rfl⟩
  go_wp2_with fail
  refine (H4.out _ _).mono ?_
  rintro e w1 ⟨rfl, rfl⟩
  go_wp2_with fail
  refine (H5.out _).mono ?_
  rintro e w1 ⟨rfl, rfl⟩
  go_wp2_with fail
  go_ret
  exact ⟨rfl, HB.out.trans ((below_a w0 _).mono HB.out.size)⟩
end Go.Proofs.YtgkonmjchdpohaaDoor

/- The earliest tick of a ring, and of all rings: the contracts of first and of the nest's earliest. Condition: the rings stand, each timer at its place. -/
import Derived.Test.YtkmhgcdjmfafhaaWhF
namespace Go.Proofs.Ytkmhgcdjmfafhaa
set_option linter.unusedVariables false
set_option linter.unusedSimpArgs false
open Go.RowKit

theorem Rings.below {w w' : World} {lab : Nat → Nat} {nb : Nat → Nat} {V : Nat → Nat → Value} {L : Lists} {hd : Nat → Int} {tk : Nat → Nat} (R : Rings w lab nb V L hd tk) (h : RowKit.Below w.heap.size w w') : Rings w' lab nb V L hd tk :=
  R.keep h.size fun k hk => h.block k (R.lt k (by omega))

theorem Pl.stretch {L : Lists} {tk : Nat → Nat} {n : Nat} (h : Pl L tk n) {r i b : Nat} (hr : r < 3) (hi : i < 16) (hb : b ∈ L r i) : i = tk b / wide r % 16 ∧ n / wide r + 1 ≤ tk b / wide r ∧ tk b / wide r ≤ n / wide r + 16 := by
  obtain ⟨a1, a2, a3, a4⟩ := h r i b hr hi hb
  refine ⟨a2, ?_⟩
  rw [hmR2] at a1
  rcases (by omega : r = 0 ∨ r = 1 ∨ r = 2) with rfl | rfl | rfl
  · rw [wide0]
    split at a1
    · split at a1
      · omega
      · omega
    · omega
  · rw [wide1]
    split at a1
    · split at a1
      · omega
      · omega
    · omega
  · rw [wide2]
    split at a1
    · split at a1
      · omega
      · omega
    · omega

/-- The earliest tick of ring r. -/
def First (r : Nat) (L : Lists) (tk : Nat → Nat) (t : Int) (ok : Bool) : Prop :=
  (ok = true → ∃ i b, i < 16 ∧ b ∈ L r i ∧ t = tk b ∧ ∀ i' b', i' < 16 → b' ∈ L r i' → tk b ≤ tk b') ∧ (ok = false → t = 0 ∧ ∀ i, i < 16 → L r i = [])

set_option maxHeartbeats 4000000 in
theorem first_any {lab : Nat → Nat} {nb : Nat → Nat} {V : Nat → Nat → Value} {L : Lists} {hd : Nat → Int} {tk : Nat → Nat} {w : World} (R : Rings w lab nb V L hd tk) {r : Nat} (hr : r < 3) (n : Nat) (hn : n + 5000 ≤ 4611686018427387904) (hP : Pl L tk n)
    (U : List Nat) (hU : ∀ b, InL L b → b ∈ U) (hUl : U.length ≤ 1099511627776) :
    Calls Try.prog 34 #[ptr (nb r), .int .i64 (n : Int)] w fun e w' => (∃ t ok, e = .returned (.tuple #[.int .i64 t, .bool ok]) ∧ First r L tk t ok) ∧ RowKit.Below w.heap.size w w' := by
  have hwd : wide r ≤ 256 := by unfold wide; split <;> (try split) <;> omega
  have hwp := wide_pos r
  have h0 := R.wide_cell hr
  have HP := Lib.hid hP
  clear hP
  generalize hwe : wide r = wd at *
  have HW := Lib.hid hwe
  clear hwe
  have HR := Lib.hid R
  unfold ptr
  go_enter Try.func34, Try.ntmps34
  go_wp2_with fail
  go_loopw [8] (fun ix wr => ∃ k : Nat, k ≤ 16 ∧ ix = .int .i64 k ∧ RowKit.Below w.heap.size w wr ∧ ∀ q, q < k → L r ((n / wd + q + 1) % 16) = []) (fun ix _ => 16 - (intOf ix).toNat)
  case atStart => exact ⟨0, by omega, rfl, RowKit.Below.refl _ _, fun q hq => absurd hq (by omega)⟩
  case round =>
    obtain ⟨k, hk, rfl, hb, he⟩ := hrel
    have HE := Lib.hid he
    have HB := Lib.hid hb
    clear he
    have RR := R.below hb
    by_cases hlt : k < 16
    · have hj : (n / wd + k + 1) % 16 < 16 := Nat.mod_lt _ (by decide)
      have hp : (((k : Int) + 1) * (wd : Int)) = (((k + 1) * wd : Nat) : Int) := by rw [Int.natCast_mul]; rfl
      have hpl : (k + 1) * wd ≤ 16 * 256 := Nat.mul_le_mul (by omega) hwd
      have hO := fun m => of_any (nb r) wd (n + (k + 1) * wd) (wr.drewN m) (by rw [← HW.out]; exact RR.wide_cell hr) hwp (by omega)
      rw [Nat.add_mul_div_right _ _ hwp, Int.natCast_add, ← Nat.add_assoc] at hO
      generalize (k + 1) * wd = p at *
      generalize hjj : (n / wd + k + 1) % 16 = j at *
      have HJ := Lib.hid hjj
      clear hjj
      have HO := Lib.hid hO
      clear hO
      obtain ⟨c1, f1⟩ := RR.list_cell hr hj
      obtain ⟨row, rlab⟩ := RR.row r j hr hj
      obtain ⟨A, c, hv, _, hc, _⟩ := slice_of_own row
      rw [hv] at c1 row rlab
      have r0 := RR.wide_cell hr
      rw [HW.out] at r0
      have hll : (L r j).length ≤ 1099511627776 := Nat.le_trans (nodup_len _ U (RR.nodup hr hj) fun x hx => hU x ⟨_, _, hr, hj, hx⟩) hUl
      by_cases hz : (L r j).length = 0
      · rw [hz] at c1
        unfold ptr at *
        clear row rlab hv
        go_wp2_with (first | (go_at_call 31; refine (HO.out 0).mono ?_; rintro e w1 ⟨rfl, m, rfl⟩))
        go_roundw
        case rel => exact ⟨k + 1, by omega, by go_num, HB.out.trans ⟨rfl, rfl, rfl, Nat.le_refl _, fun _ _ => rfl⟩, fun q hq => by
          by_cases e : q = k
          · subst e
            rw [HJ.out]
            exact List.eq_nil_of_length_eq_zero hz
          · exact HE.out q (by omega)⟩
        case measure => simp [intOf]; omega
      · have hpos : 0 < (L r j).length := by omega
        have hTT : ∀ b ∈ L r j, Tim wr hd tk b ∧ (Value.slice A (L r j).length c).ownBlock ≠ some b := fun b hb => by
          obtain ⟨q, hq, e⟩ := List.getElem_of_mem hb
          obtain ⟨t1, t2⟩ := RR.tim r j hr hj q b (by rw [List.getElem?_eq_getElem hq, e])
          exact ⟨⟨q, t2⟩, fun e => by have := rlab b e; omega⟩
        have HL := Lib.hid (fun m : Nat => lear_any (hd := hd) (tk := tk) (wr.drewN m) A c (L r j) hll hpos row (fun b hb => ⟨(hTT b hb).1.keep rfl, (hTT b hb).2⟩))
        clear row rlab hv hTT
        generalize hl : (L r j).length = l at *
        have hposz : (0 : Int) < (l : Int) := by omega
        unfold ptr at *
        go_wp2_with (first
          | (go_at_call 31; refine (HO.out 0).mono ?_; rintro e w1 ⟨rfl, m, rfl⟩)
          | (go_at_call 38; refine (HL.out _).mono ?_; rintro e w2 ⟨⟨b, hbx, rfl, hmin⟩, hb2⟩))
        go_ret2
        refine ⟨⟨_, _, rfl, fun _ => ⟨j, b, hj, hbx, rfl, fun i' b' hi' hb' => ?_⟩, fun h => by cases h⟩, HB.out.trans ?_⟩
        · obtain ⟨a1, a2, a3⟩ := (HP.out).stretch hr hi' hb'
          obtain ⟨e1, e2, e3⟩ := (HP.out).stretch hr hj hbx
          rw [HW.out] at a1 a2 a3 e1 e2 e3
          have hJ := HJ.out
          by_cases e : tk b' / wd = n / wd + k + 1
          · have : i' = j := by rw [a1, e, hJ]
            subst this
            exact hmin b' hb'
          · by_cases h : tk b' / wd < n / wd + k + 1
            · exfalso
              have h9 := HE.out (tk b' / wd - n / wd - 1) (by omega)
              rw [show n / wd + (tk b' / wd - n / wd - 1) + 1 = tk b' / wd by omega, ← a1] at h9
              rw [h9] at hb'
              cases hb'
            · have h1 : tk b / wd = n / wd + k + 1 := by omega
              have h2 : tk b / wd < tk b' / wd := by omega
              exact Nat.le_of_lt (Nat.lt_of_not_le fun hle => by have := Nat.div_le_div_right (c := wd) hle; omega)
        · have h := hb2.mono (B' := w.heap.size) HB.out.size
          exact ⟨h.os, h.tape, h.output, h.size, h.block⟩
    · obtain rfl : k = 16 := by omega
      go_wp2_with fail
      go_ret2
      refine ⟨⟨_, _, rfl, fun h => (by cases h), fun _ => ⟨rfl, fun i hi => ?_⟩⟩, HB.out⟩
      have h9 := HE.out ((i + 16 * (n / wd + 1) - (n / wd + 1)) % 16) (by omega)
      rw [show (n / wd + (i + 16 * (n / wd + 1) - (n / wd + 1)) % 16 + 1) % 16 = i by omega] at h9
      exact h9

/-- The earliest tick of the rings up to r. -/
def FirstTo (r : Nat) (L : Lists) (tk : Nat → Nat) (t : Int) (ok : Bool) : Prop :=
  (ok = true → ∃ r1 i b, r1 ≤ r ∧ i < 16 ∧ b ∈ L r1 i ∧ t = tk b ∧ ∀ r2 i' b', r2 ≤ r → i' < 16 → b' ∈ L r2 i' → tk b ≤ tk b') ∧ (ok = false → t = 0 ∧ ∀ r1 i, r1 ≤ r → i < 16 → L r1 i = [])

theorem FirstTo.leaf {L : Lists} {tk : Nat → Nat} {t : Int} {ok : Bool} (h : First 0 L tk t ok) : FirstTo 0 L tk t ok :=
  ⟨fun e => by
    obtain ⟨i, b, h1, h2, h3, h4⟩ := h.1 e
    exact ⟨0, i, b, Nat.le_refl _, h1, h2, h3, fun r2 i' b' hr hi hb => by obtain rfl := Nat.le_zero.1 hr; exact h4 i' b' hi hb⟩,
   fun e => ⟨(h.2 e).1, fun r1 i hr hi => by obtain rfl := Nat.le_zero.1 hr; exact (h.2 e).2 i hi⟩⟩

theorem FirstTo.inner {L : Lists} {tk : Nat → Nat} {n : Nat} (hP : Pl L tk n) {r : Nat} (hr : r < 2) {t : Int} (h : FirstTo r L tk t true) : FirstTo (r + 1) L tk t true :=
  ⟨fun _ => by
    obtain ⟨r1, i, b, h0, h1, h2, h3, h4⟩ := h.1 rfl
    refine ⟨r1, i, b, by omega, h1, h2, h3, fun r2 i' b' hr2 hi hb => ?_⟩
    by_cases e : r2 ≤ r
    · exact h4 r2 i' b' e hi hb
    · obtain rfl : r2 = r + 1 := by omega
      obtain ⟨a1, a2, a3, a4⟩ := hP r1 i b (by omega) h1 h2
      obtain ⟨c1, c2, c3, c4⟩ := hP (r + 1) i' b' (by omega) hi hb
      rw [hmR2] at a1 c1
      split at a1
      · split at a1
        · split at c1
          · split at c1
            · omega
            · omega
          · omega
        · split at c1
          · split at c1
            · omega
            · omega
          · omega
      · omega,
   fun e => by cases e⟩

theorem FirstTo.outer {L : Lists} {tk : Nat → Nat} {r : Nat} {t t' : Int} {ok : Bool} (h : FirstTo r L tk t false) (h' : First (r + 1) L tk t' ok) : FirstTo (r + 1) L tk t' ok :=
  ⟨fun e => by
    obtain ⟨i, b, h1, h2, h3, h4⟩ := h'.1 e
    refine ⟨r + 1, i, b, Nat.le_refl _, h1, h2, h3, fun r2 i' b' hr2 hi hb => ?_⟩
    by_cases e : r2 ≤ r
    · rw [(h.2 rfl).2 r2 i' e hi] at hb
      cases hb
    · obtain rfl : r2 = r + 1 := by omega
      exact h4 i' b' hi hb,
   fun e => ⟨(h'.2 e).1, fun r1 i hr hi => by
    by_cases e' : r1 ≤ r
    · exact (h.2 rfl).2 r1 i e' hi
    · obtain rfl : r1 = r + 1 := by omega
      exact (h'.2 e).2 i hi⟩⟩

set_option maxHeartbeats 1600000 in
theorem earl_leaf {lab : Nat → Nat} {nb : Nat → Nat} {V : Nat → Nat → Value} {L : Lists} {hd : Nat → Int} {tk : Nat → Nat} {w : World} (R : Rings w lab nb V L hd tk) (n : Nat) (hn : n + 5000 ≤ 4611686018427387904) (hP : Pl L tk n)
    (U : List Nat) (hU : ∀ b, InL L b → b ∈ U) (hUl : U.length ≤ 1099511627776) :
    Calls Try.prog 29 #[ptr (nb 0), .int .i64 (n : Int)] w fun e w' => (∃ t ok, e = .returned (.tuple #[.int .i64 t, .bool ok]) ∧ FirstTo 0 L tk t ok) ∧ RowKit.Below w.heap.size w w' := by
  have h17 := R.in_cell (r := 0) (by omega)
  rw [if_pos rfl] at h17
  have HF := Lib.hid (first_any R (r := 0) (by omega) n hn hP U hU hUl)
  unfold ptr at *
  go_enter Try.func29, Try.ntmps29
  go_wp2_with (first | (go_at_call 34; refine (HF.out).mono ?_; rintro e w1 ⟨⟨t, ok, rfl, hf⟩, hb⟩))
  go_ret2
  exact ⟨⟨t, ok, rfl, FirstTo.leaf hf⟩, hb⟩

set_option maxHeartbeats 1600000 in
theorem earl_node {lab : Nat → Nat} {nb : Nat → Nat} {V : Nat → Nat → Value} {L : Lists} {hd : Nat → Int} {tk : Nat → Nat} {w : World} (R : Rings w lab nb V L hd tk) (n : Nat) (hn : n + 5000 ≤ 4611686018427387904) (hP : Pl L tk n)
    (U : List Nat) (hU : ∀ b, InL L b → b ∈ U) (hUl : U.length ≤ 1099511627776) {r : Nat} (hr : r < 2)
    (HI : Calls Try.prog 29 #[ptr (nb r), .int .i64 (n : Int)] w fun e w' => (∃ t ok, e = .returned (.tuple #[.int .i64 t, .bool ok]) ∧ FirstTo r L tk t ok) ∧ RowKit.Below w.heap.size w w') :
    Calls Try.prog 29 #[ptr (nb (r + 1)), .int .i64 (n : Int)] w fun e w' => (∃ t ok, e = .returned (.tuple #[.int .i64 t, .bool ok]) ∧ FirstTo (r + 1) L tk t ok) ∧ RowKit.Below w.heap.size w w' := by
  have hr3 : r + 1 < 3 := by omega
  have h17 := R.in_cell hr3
  rw [if_neg (by omega), Nat.add_sub_cancel] at h17
  have HN := Lib.hid HI
  have HF := Lib.hid (fun (w1 : World) (hb : RowKit.Below w.heap.size w w1) => first_any (R.below hb) (r := r + 1) hr3 n hn hP U hU hUl)
  have HP := Lib.hid hP
  clear HI hP
  unfold ptr at *
  go_enter Try.func29, Try.ntmps29
  go_wp2_with (first
    | (go_at_call 29; refine (HN.out).mono ?_; rintro e w1 ⟨⟨t, ok, rfl, hf⟩, hb⟩; cases ok)
    | (go_at_call 34; refine (HF.out _ hb).mono ?_; rintro e w2 ⟨⟨t', ok', rfl, hf'⟩, hb'⟩))
  · go_ret2
    exact ⟨⟨t', ok', rfl, hf.outer hf'⟩, hb.trans (hb'.mono hb.size)⟩
  · go_ret2
    exact ⟨⟨t, true, rfl, FirstTo.inner HP.out hr hf⟩, hb⟩

/-- The earliest tick of all. -/
theorem earl_any {lab : Nat → Nat} {nb : Nat → Nat} {V : Nat → Nat → Value} {L : Lists} {hd : Nat → Int} {tk : Nat → Nat} {w : World} (R : Rings w lab nb V L hd tk) (n : Nat) (hn : n + 5000 ≤ 4611686018427387904) (hP : Pl L tk n)
    (U : List Nat) (hU : ∀ b, InL L b → b ∈ U) (hUl : U.length ≤ 1099511627776) :
    Calls Try.prog 29 #[ptr (nb 2), .int .i64 (n : Int)] w fun e w' => (∃ t ok, e = .returned (.tuple #[.int .i64 t, .bool ok]) ∧ FirstTo 2 L tk t ok) ∧ RowKit.Below w.heap.size w w' :=
  earl_node R n hn hP U hU hUl (r := 1) (by omega) (earl_node R n hn hP U hU hUl (r := 0) (by omega) (earl_leaf R n hn hP U hU hUl))

end Go.Proofs.Ytkmhgcdjmfafhaa

/- Pieces of bytes that come in any order: the mathematics of the law DrecvOrder; what it keeps; its closure. Conditions: at most 32 bytes. -/
import Derived.Test.YtancbdnpmabpfaaDrX
import Derived.Test.YtancbdnpmabpfaaDrW
namespace Go.Proofs.Ytancbdnpmabpfaa
set_option linter.unusedVariables false
set_option linter.unusedSimpArgs false
open Go.RowKit Go.Lib

/-- What came is what was in the bytes. -/
structure Pc (b : List UInt8) (d : Dr) : Prop where
  en : d.en = 0
  rd : d.rd = 0
  is : ∀ m v, d.M m = some v → 1 ≤ m ∧ m ≤ b.length ∧ v = b.getD (m - 1) 0
/-- How many came. -/
def tot (d : Dr) : Int := cntn (inM d.M) 40
theorem Pc.new (b : List UInt8) : Pc b Dr.new := ⟨rfl, rfl, fun m v h => by cases h⟩
theorem tot_new : tot Dr.new = 0 := cntn_false (fun i hi => rfl)
/-- The piece from a on, of n bytes. -/
def piece (b : List UInt8) (a q : Nat) : List UInt8 := (b.drop a).take (q - a)
section
variable {b : List UInt8} {d : Dr} {a q : Nat}
theorem piece_length (h1 : a ≤ q) (h2 : q ≤ b.length) : (piece b a q).length = q - a := by
  unfold piece
  rw [List.length_take, List.length_drop]
  omega
theorem piece_getD {i : Nat} (h2 : q ≤ b.length) (hi : i < q - a) : (piece b a q).getD i 0 = b.getD (a + i) 0 := by
  unfold piece
  simp only [List.getD_eq_getElem?_getD, List.getElem?_take, List.getElem?_drop, hi, if_true]
theorem Pc.put (h : Pc b d) (h1 : a ≤ q) (h2 : q ≤ b.length) : Pc b (d.put ((1 + a : Nat) : Int) (piece b a q)) := by
  refine ⟨h.en, h.rd, fun m v hm => ?_⟩
  have hm' : d.putM ((1 + a : Nat) : Int) (piece b a q) (piece b a q).length m = some v := hm
  unfold Dr.putM at hm'
  rw [piece_length h1 h2] at hm'
  split at hm'
  · rename_i hc
    rw [Bool.and_eq_true, decide_eq_true_iff] at hc
    injection hm' with hm'
    rw [piece_getD h2 (by omega)] at hm'
    refine ⟨by omega, by omega, ?_⟩
    rw [← hm']
    congr 1
    omega
  · exact h.is m v hm'
/-- The numbers of the piece came. -/
theorem Pc.came (h : Pc b d) (hb : b.length ≤ 32) (h1 : a ≤ q) (h2 : q ≤ b.length) {m : Nat} (m1 : a + 1 ≤ m) (m2 : m ≤ q) : ((d.put ((1 + a : Nat) : Int) (piece b a q)).M m).isSome = true := by
  refine Dr.putM_some.2 (.inr ⟨by omega, ?_, by omega, by rw [piece_length h1 h2]; omega⟩)
  unfold Dr.bound
  rw [if_pos h.en, h.rd]
  omega
theorem came_old {x : Int} {bs : List UInt8} {m : Nat} (h : (d.M m).isSome = true) : ((d.put x bs).M m).isSome = true := Dr.putM_some.2 (.inl h)
theorem tot_put (h : d.ok) (hrd : d.rd = 0) (hen : d.en = 0) (x : Int) (bs : List UInt8) : tot (d.put x bs) = tot d + (d.hits x bs.length : Int) := by
  obtain ⟨f, hf⟩ : ∃ f : Nat, (f : Int) = max x (d.nx : Int) := ⟨(max x (d.nx : Int)).toNat, by omega⟩
  obtain ⟨bh, hbh⟩ : ∃ bh : Nat, (bh : Int) = max (f : Int) (min (x + (bs.length : Int)) (d.bound : Int)) := ⟨(max (f : Int) (min (x + (bs.length : Int)) (d.bound : Int))).toNat, by omega⟩
  have hS : Span d x bs.length f bh := ⟨hf, hbh⟩
  have hbl := h.bound_le
  have hlo := h.lo
  have e1 : tot (d.put x bs) = cntn (fun k => inM d.M k || decide (f ≤ k ∧ k < bh)) 40 := by
    unfold tot
    congr 1
    funext k
    have hiff : inM (d.put x bs).M k = true ↔ (inM d.M k || decide (f ≤ k ∧ k < bh)) = true := by
      rw [Bool.or_eq_true, decide_eq_true_iff]
      show (d.putM x bs bs.length k).isSome = true ↔ _
      rw [Dr.putM_some]
      constructor
      · rintro (h1 | ⟨h1, h2, h3, h4⟩)
        · exact .inl h1
        · rcases Nat.lt_or_ge k d.nx with h5 | h5
          · exact .inl (h.all k h1 h5)
          · have := hS.of (q := (k : Int)) (by omega) (by omega) h3 h4
            exact .inr (by omega)
      · rintro (h1 | ⟨h1, h2⟩)
        · exact .inl h1
        · have := hS.in_ h1 h2
          exact .inr ⟨by omega, this.2.1, this.2.2.1, this.2.2.2⟩
    cases h1 : inM (d.put x bs).M k <;> cases h2 : (inM d.M k || decide (f ≤ k ∧ k < bh))
    · rfl
    · exact absurd (hiff.2 h2) (by rw [h1]; simp)
    · exact absurd (hiff.1 h1) (by rw [h2]; simp)
    · rfl
  rw [e1, cntn_lose (inM d.M) f bh 40, h.hits hf bs.length]
  have e4 : max f (min (x + (bs.length : Int)) (d.bound : Int)).toNat - f = bh - f := by omega
  have e5 : min 40 bh - f = bh - f := by omega
  rw [e4, e5]
  rfl
/-- With all that came, so many came. -/
theorem Pc.all (h : Pc b d) (hok : d.ok) (hb : b.length ≤ 32) (ha : ∀ m, 1 ≤ m → m ≤ b.length → (d.M m).isSome = true) : tot d = (b.length : Int) ∧ d.nx = b.length + 1 ∧ ∀ i, i < b.length → (d.M (1 + i)).getD 0 = b.getD i 0 := by
  refine ⟨?_, ?_, fun i hi => ?_⟩
  · have h1 := cntn_iv (b := inM d.M) (b' := fun _ => false) (a := 1) (k := b.length) 40 (fun i _ h2 h3 => ⟨ha i h2 (by omega), rfl⟩) (fun i _ h2 => by
      cases hc : d.M i with
      | none => unfold inM; rw [hc]; rfl
      | some v =>
        have := h.is i v hc
        exact absurd ⟨this.1, by omega⟩ h2)
    have h2 : cntn (fun _ => false) 40 = 0 := cntn_false (fun _ _ => rfl)
    unfold tot
    omega
  · have hn := hok.nxt
    have hlo := hok.lo
    rcases Nat.lt_trichotomy d.nx (b.length + 1) with hh | hh | hh
    · have := ha d.nx (by omega) (by omega)
      rw [hn] at this
      cases this
    · exact hh
    · obtain ⟨v, hv⟩ := Option.isSome_iff_exists.1 (hok.all (b.length + 1) (by omega) hh)
      have := (h.is _ v hv).2.1
      omega
  · obtain ⟨v, hv⟩ := Option.isSome_iff_exists.1 (ha (1 + i) (by omega) (by omega))
    have := (h.is _ v hv).2.2
    rw [hv, Option.getD_some, this]
    congr 1
    omega
theorem Pc.may (h : Pc b d) (hok : d.ok) (hb : b.length ≤ 32) (hn : d.nx = b.length + 1) : d.may ((b.length + 1 : Nat) : Int) = true := by
  refine (Dr.may_iff hok).2 ⟨by omega, by rw [h.rd]; omega, .inl h.en, fun n hnn => ?_⟩
  cases hc : d.M n with
  | none => rfl
  | some v => have := (h.is n v hc).2.1; omega
theorem div_lt {L n k : Nat} (hn : 0 < n) (hk : k < (L + n - 1) / n) : k * n < L := by
  have h := (Nat.le_div_iff_mul_le hn).1 hk
  rw [Nat.succ_mul] at h
  omega
theorem div_ge {L n : Nat} (hn : 0 < n) : L ≤ (L + n - 1) / n * n := by
  have h := Nat.lt_succ_self ((L + n - 1) / n)
  have h2 := (Nat.div_lt_iff_lt_mul hn).1 h
  rw [Nat.succ_mul] at h2
  omega
end

/-! What the law keeps. -/
/-- A variable of the law's own. -/
structure Bx (w : World) (rb : Nat) (z : Sh) (g : Nat) (v : Value) : Prop where
  lt : g < w.heap.size
  far : ¬ z.T rb g
  c : w.cell? ⟨g, 0, none⟩ = some v
structure Ors (W w : World) (rb : Nat) (z : Sh) (d : Dr) (bb rx nb : Nat) (bv_ : Value) (n : Nat) : Prop where
  s : Sv W w rb z d
  xb : Bx w rb z bb bv_
  xr : Bx w rb z rx (ptr rb)
  xn : Bx w rb z nb (.int .i64 (n : Int))
section
variable {W w w' : World} {rb : Nat} {z z' : Sh} {d d' : Dr} {bb rx nb n : Nat} {u : Value}
theorem Bx.mv {g : Nat} {v : Value} (h : Bx w rb z g v) (m : Mv w rb z w' z') : Bx w' rb z' g v :=
  ⟨Nat.lt_of_lt_of_le h.lt m.ch.size, fun e => (m.new g e).elim h.far (fun q => by have := h.lt; omega), m.ch.cell h.c h.far⟩
theorem Bx.below {g : Nat} {v : Value} (h : Bx w rb z g v) (b : Below w.heap.size w w') : Bx w' rb z g v := ⟨Nat.lt_of_lt_of_le h.lt b.size, h.far, keepc b h.c⟩
theorem Bx.ch {g : Nat} {v : Value} (h : Bx w rb z g v) {m : Nat → Prop} (c : Ch w w' m) (hm : ¬ m g) : Bx w' rb z g v := ⟨Nat.lt_of_lt_of_le h.lt c.size, h.far, c.cell h.c hm⟩
theorem Ors.step (h : Ors W w rb z d bb rx nb u n) (s : Sv W w' rb z' d') (m : Mv w rb z w' z') : Ors W w' rb z' d' bb rx nb u n := ⟨s, h.xb.mv m, h.xr.mv m, h.xn.mv m⟩
theorem Ors.below (h : Ors W w rb z d bb rx nb u n) (b : Below w.heap.size w w') : Ors W w' rb z d bb rx nb u n := ⟨h.s.below b, h.xb.below b, h.xr.below b, h.xn.below b⟩

set_option maxRecDepth 20000 in
set_option maxHeartbeats 6400000 in
theorem piece_any {A : Option Addr} {L c : Nat} {b : List UInt8} (H : Ors W w rb z d bb rx nb (.slice A L c) n) (R : RB w A L c b) {k kn q : Nat} (hkn : kn = k * n) (hq : q = min L (kn + n)) (hle : kn ≤ L) (hL : L ≤ 32) (hn : n ≤ 8) (hk : k ≤ 1000) (ht : d.t + 1 ≤ 1000) :
    Calls Try.prog 21 #[.int .i64 (k : Int), ptr rx, ptr nb, ptr bb] w fun e w' => ∃ z', e = .returned (.int .i64 (d.hits ((1 + kn : Nat) : Int) (piece b kn q).length : Int)) ∧ Ors W w' rb z' (d.put ((1 + kn : Nat) : Int) (piece b kn q)) bb rx nb (.slice A L c) n ∧ Mv w rb z w' z' := by
  have HH := Lib.hid H
  obtain ⟨A2, hsl, r2⟩ := R.sub (i := kn) (j := q) (by omega) (by omega)
  have HR2 : Hid (RB w.drew A2 (q - kn) (c - kn) (piece b kn q)) := Lib.hid r2
  have hwk : IntKind.i64.wrap ((k : Int) * (n : Int)) = (kn : Int) := by
    have e : (k : Int) * (n : Int) = (kn : Int) := by rw [hkn, Int.natCast_mul]
    rw [e, IntKind.wrap_i64]
    omega
  have hw1 : IntKind.i64.wrap (1 + (kn : Int)) = ((1 + kn : Nat) : Int) := by rw [IntKind.wrap_i64]; omega
  have hw2 : IntKind.i64.wrap ((kn : Int) + (n : Int)) = ((kn + n : Nat) : Int) := by rw [IntKind.wrap_i64]; omega
  have hmn : min (L : Int) ((kn + n : Nat) : Int) = (q : Int) := by omega
  have HPU := Lib.hid ((H.s.below (Below.refl _ _).drew).put (x := ((1 + kn : Nat) : Int)) (by omega) HR2.out (by omega) ht)
  have HFIN : Hid (∀ (w' : World) (z' : Sh), Sv W w' rb z' (d.put ((1 + kn : Nat) : Int) (piece b kn q)) → Mv w.drew rb z w' z' → ∃ z', Ending.returned (.int .i64 (d.hits ((1 + kn : Nat) : Int) (piece b kn q).length : Int)) = .returned (.int .i64 (d.hits ((1 + kn : Nat) : Int) (piece b kn q).length : Int)) ∧ Ors W w' rb z' (d.put ((1 + kn : Nat) : Int) (piece b kn q)) bb rx nb (.slice A L c) n ∧ Mv w rb z w' z') := Lib.hid (fun w' z' s m => ⟨z', rfl, (HH.out.below (Below.refl _ _).drew).step s m, m.ahead (Below.refl _ _).drew⟩)
  have e0 : w.drew.cell? ⟨rx, 0, none⟩ = some (.pointer (some ⟨rb, 0, none⟩)) := H.xr.c
  have e1 : w.drew.cell? ⟨nb, 0, none⟩ = some (.int .i64 (n : Int)) := H.xn.c
  have e2 : w.drew.cell? ⟨bb, 0, none⟩ = some (.slice A L c) := H.xb.c
  clear H R r2 hkn hq hle hL hn hk ht HR2
  generalize d.put ((1 + kn : Nat) : Int) (piece b kn q) = d9 at *
  generalize d.hits ((1 + kn : Nat) : Int) (piece b kn q).length = hh at *
  generalize 1 + kn = x9 at *
  generalize kn + n = kq at *
  generalize q - kn = ml at *
  generalize c - kn = cl at *
  unfold ptr at *
  go_enter Try.func21, Try.ntmps21
  go_upto_region 1 with (fail)
  refine wp_region_noPanic ?_
  refine until_start (fun W => W.cell? ⟨rx, 0, none⟩ = some (.pointer (some ⟨rb, 0, none⟩)) ∧ W.cell? ⟨nb, 0, none⟩ = some (.int .i64 (n : Int)) ∧ W.cell? ⟨bb, 0, none⟩ = some (.slice A L c)) 18 (by kernel_rfl) ⟨e0, e1, e2⟩ (fun _ => ?_)
  refine until_take (i := 0) (v := .pointer (some ⟨rb, 0, none⟩)) (some 6) [18] rfl rfl (by kernel_rfl) (by kernel_rfl) (by kernel_rfl) (by kernel_rfl) rfl rfl (fun _ _ _ h => h) (Or.inl ⟨by rfl, fun W hW => by have hc := hW.1; go_simp⟩) ⟨e0, e1, e2⟩ ?_
  simp only [Act.put, List.setIfInBounds_toArray, List.set_cons_zero, List.set_cons_succ]
  refine until_take (i := 1) (v := .int .i64 (k : Int)) (some 7) [3, 4, 18] rfl rfl (by kernel_rfl) (by kernel_rfl) (by kernel_rfl) (by kernel_rfl) rfl rfl (fun _ _ _ h => h) (Or.inl ⟨by rfl, fun W hW => by go_simp⟩) ⟨e0, e1, e2⟩ ?_
  simp only [Act.put, List.setIfInBounds_toArray, List.set_cons_zero, List.set_cons_succ]
  refine until_take (i := 2) (v := .int .i64 (n : Int)) (some 8) [3, 4, 18] rfl rfl (by kernel_rfl) (by kernel_rfl) (by kernel_rfl) (by kernel_rfl) rfl rfl (fun _ _ _ h => h) (Or.inl ⟨by rfl, fun W hW => by have hc := hW.2.1; go_simp⟩) ⟨e0, e1, e2⟩ ?_
  simp only [Act.put, List.setIfInBounds_toArray, List.set_cons_zero, List.set_cons_succ]
  refine until_take (i := 5) (v := .slice A L c) (some 11) [17, 18] rfl rfl (by kernel_rfl) (by kernel_rfl) (by kernel_rfl) (by kernel_rfl) rfl rfl (fun _ _ _ h => h) (Or.inl ⟨by rfl, fun W hW => by have hc := hW.2.2; go_simp⟩) ⟨e0, e1, e2⟩ ?_
  simp only [Act.put, List.setIfInBounds_toArray, List.set_cons_zero, List.set_cons_succ]
  refine until_take (i := 6) (v := .int .i64 (k : Int)) (some 12) [8, 17, 18] rfl rfl (by kernel_rfl) (by kernel_rfl) (by kernel_rfl) (by kernel_rfl) rfl rfl (fun _ _ _ h => h) (Or.inl ⟨by rfl, fun W hW => by go_simp⟩) ⟨e0, e1, e2⟩ ?_
  simp only [Act.put, List.setIfInBounds_toArray, List.set_cons_zero, List.set_cons_succ]
  refine until_take (i := 7) (v := .int .i64 (n : Int)) (some 13) [8, 17, 18] rfl rfl (by kernel_rfl) (by kernel_rfl) (by kernel_rfl) (by kernel_rfl) rfl rfl (fun _ _ _ h => h) (Or.inl ⟨by rfl, fun W hW => by have hc := hW.2.1; go_simp⟩) ⟨e0, e1, e2⟩ ?_
  simp only [Act.put, List.setIfInBounds_toArray, List.set_cons_zero, List.set_cons_succ]
  refine until_take (i := 9) (v := .slice A L c) (some 15) [10, 16, 17, 18] rfl rfl (by kernel_rfl) (by kernel_rfl) (by kernel_rfl) (by kernel_rfl) rfl rfl (fun _ _ _ h => h) (Or.inl ⟨by rfl, fun W hW => by have hc := hW.2.2; go_simp⟩) ⟨e0, e1, e2⟩ ?_
  simp only [Act.put, List.setIfInBounds_toArray, List.set_cons_zero, List.set_cons_succ]
  refine until_take (i := 11) (v := .int .i64 (k : Int)) (some 17) [13, 15, 16, 17, 18] rfl rfl (by kernel_rfl) (by kernel_rfl) (by kernel_rfl) (by kernel_rfl) rfl rfl (fun _ _ _ h => h) (Or.inl ⟨by rfl, fun W hW => by go_simp⟩) ⟨e0, e1, e2⟩ ?_
  simp only [Act.put, List.setIfInBounds_toArray, List.set_cons_zero, List.set_cons_succ]
  refine until_take (i := 12) (v := .int .i64 (n : Int)) (some 18) [13, 15, 16, 17, 18] rfl rfl (by kernel_rfl) (by kernel_rfl) (by kernel_rfl) (by kernel_rfl) rfl rfl (fun _ _ _ h => h) (Or.inl ⟨by rfl, fun W hW => by have hc := hW.2.1; go_simp⟩) ⟨e0, e1, e2⟩ ?_
  simp only [Act.put, List.setIfInBounds_toArray, List.set_cons_zero, List.set_cons_succ]
  refine until_take (i := 14) (v := .int .i64 (n : Int)) (some 20) [15, 16, 17, 18] rfl rfl (by kernel_rfl) (by kernel_rfl) (by kernel_rfl) (by kernel_rfl) rfl rfl (fun _ _ _ h => h) (Or.inl ⟨by rfl, fun W hW => by have hc := hW.2.1; go_simp⟩) ⟨e0, e1, e2⟩ ?_
  simp only [Act.put, List.setIfInBounds_toArray, List.set_cons_zero, List.set_cons_succ]
  refine until_take (i := 3) (v := .int .i64 (kn : Int)) (some 9) [4, 18] rfl rfl (by kernel_rfl) (by kernel_rfl) (by kernel_rfl) (by kernel_rfl) rfl rfl (fun _ _ _ h => h) (Or.inl ⟨by rfl, fun W hW => by have hc := hwk; go_simp⟩) ⟨e0, e1, e2⟩ ?_
  simp only [Act.put, List.setIfInBounds_toArray, List.set_cons_zero, List.set_cons_succ]
  refine until_take (i := 8) (v := .int .i64 (kn : Int)) (some 14) [17, 18] rfl rfl (by kernel_rfl) (by kernel_rfl) (by kernel_rfl) (by kernel_rfl) rfl rfl (fun _ _ _ h => h) (Or.inl ⟨by rfl, fun W hW => by have hc := hwk; go_simp⟩) ⟨e0, e1, e2⟩ ?_
  simp only [Act.put, List.setIfInBounds_toArray, List.set_cons_zero, List.set_cons_succ]
  refine until_take (i := 10) (v := .int .i64 (L : Int)) (some 16) [16, 17, 18] rfl rfl (by kernel_rfl) (by kernel_rfl) (by kernel_rfl) (by kernel_rfl) rfl rfl (fun _ _ _ h => h) (Or.inl ⟨by rfl, fun W hW => by go_simp⟩) ⟨e0, e1, e2⟩ ?_
  simp only [Act.put, List.setIfInBounds_toArray, List.set_cons_zero, List.set_cons_succ]
  refine until_take (i := 13) (v := .int .i64 (kn : Int)) (some 19) [15, 16, 17, 18] rfl rfl (by kernel_rfl) (by kernel_rfl) (by kernel_rfl) (by kernel_rfl) rfl rfl (fun _ _ _ h => h) (Or.inl ⟨by rfl, fun W hW => by have hc := hwk; go_simp⟩) ⟨e0, e1, e2⟩ ?_
  simp only [Act.put, List.setIfInBounds_toArray, List.set_cons_zero, List.set_cons_succ]
  refine until_take (i := 4) (v := .int .i64 (x9 : Int)) (some 10) [18] rfl rfl (by kernel_rfl) (by kernel_rfl) (by kernel_rfl) (by kernel_rfl) rfl rfl (fun _ _ _ h => h) (Or.inl ⟨by rfl, fun W hW => by have hc := hw1; go_simp⟩) ⟨e0, e1, e2⟩ ?_
  simp only [Act.put, List.setIfInBounds_toArray, List.set_cons_zero, List.set_cons_succ]
  refine until_take (i := 15) (v := .int .i64 (kq : Int)) (some 21) [16, 17, 18] rfl rfl (by kernel_rfl) (by kernel_rfl) (by kernel_rfl) (by kernel_rfl) rfl rfl (fun _ _ _ h => h) (Or.inl ⟨by rfl, fun W hW => by have hc := hw2; go_simp⟩) ⟨e0, e1, e2⟩ ?_
  simp only [Act.put, List.setIfInBounds_toArray, List.set_cons_zero, List.set_cons_succ]
  refine until_take (i := 16) (v := .int .i64 (q : Int)) (some 22) [17, 18] rfl rfl (by kernel_rfl) (by kernel_rfl) (by kernel_rfl) (by kernel_rfl) rfl rfl (fun _ _ _ h => h) (Or.inl ⟨by rfl, fun W hW => by have hc := hmn; go_simp⟩) ⟨e0, e1, e2⟩ ?_
  simp only [Act.put, List.setIfInBounds_toArray, List.set_cons_zero, List.set_cons_succ]
  refine until_take (i := 17) (v := .slice A2 ml cl) (some 23) [18] rfl rfl (by kernel_rfl) (by kernel_rfl) (by kernel_rfl) (by kernel_rfl) rfl rfl (fun _ _ _ h => h) (Or.inl ⟨by rfl, fun W hW => by have hc := hsl W; go_simp⟩) ⟨e0, e1, e2⟩ ?_
  simp only [Act.put, List.setIfInBounds_toArray, List.set_cons_zero, List.set_cons_succ]
  refine until_last (by kernel_rfl) rfl (fun K hK => ?_)
  go_simp
  refine (HPU.out).mono ?_
  rintro e w9 ⟨z9, rfl, S9, M9⟩
  have HS9 := Lib.hid (And.intro S9 M9)
  clear S9 M9 HPU
  try dsimp only
  refine hK.out _ _ ?_
  clear hK
  try simp only [Act.put, List.setIfInBounds_toArray, List.set_cons_zero, List.set_cons_succ]
  refine held_take (i := 19) (v := .int .i64 (hh : Int)) (some 5) rfl rfl (by kernel_rfl) (by kernel_rfl) (by kernel_rfl) (fun _ _ _ h => h) (Or.inl ⟨by rfl, fun W hW => by go_simp⟩) trivial ?_
  simp only [Act.put, List.setIfInBounds_toArray, List.set_cons_zero, List.set_cons_succ]
  refine wpAnyH_done (by kernel_rfl) ?_ _
  refine NoPanic.normal ?_
  go_wp2_with fail
  go_ret
  obtain ⟨z', -, h1, h2⟩ := HFIN.out _ _ HS9.out.1 HS9.out.2
  exact ⟨rfl, z', h1, h2⟩
end
end Go.Proofs.Ytancbdnpmabpfaa

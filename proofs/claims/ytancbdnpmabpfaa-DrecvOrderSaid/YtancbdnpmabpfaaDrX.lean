/- The law DrecvFirst. Conditions: the bytes lie where the slices say. -/
import Derived.Test.YtancbdnpmabpfaaDrG
import Derived.Test.YtancbdnpmabpfaaSameR
namespace Go.Proofs.Ytancbdnpmabpfaa
set_option linter.unusedVariables false
set_option linter.unusedSimpArgs false
open Go.RowKit Go.Lib

theorem RB.sub {w : World} {A : Option Addr} {n c : Nat} {l : List UInt8} (h : RB w A n c l) {i j : Nat} (hij : i ≤ j) (hj : j ≤ n) :
    ∃ A2, (∀ W : World, (Instr.slice 28 (.slice A n c) (some (.int .i64 (i : Int))) (some (.int .i64 (j : Int))) none).run Try.prog W = .ok (.slice A2 (j - i) (c - i)) W) ∧ RB w A2 (j - i) (c - i) ((l.drop i).take (j - i)) := by
  have hc := h.cap
  refine ⟨_, fun W => ?_, (h.drop (k := i) (by omega)).take (k := j - i) (by omega)⟩
  rw [run_slice_lh (P := Try.prog) W 28 A n c elemOf .i64 .i64 (i : Int) (j : Int) (by omega) (by omega) (by omega), sizeOfByte]
  simp [Result.andThen, sliced]
theorem made_zeros (n : Nat) : (madeCells (Value.int .u8 0).cells (n * 1)).toList = bv (List.replicate n 0) := by
  rw [Nat.mul_one]
  simp [madeCells, bv, Value.cells, Nat.mod_one, List.map_const']
/-- New bytes, all 0. -/
theorem wpList_makeZ {ops : Array Oper} {rest : List Oper} {o : Oper} {a : Act} {w : World} {Q : Exit → Act → World → Prop} (hgd : o.guard = none) (l c : Operand) (ho : o.op = .makeSlice 28 l c)
    (n : Nat) (hl : a.eval l = .int .i64 (n : Int)) (hc : a.eval c = .int .i64 (n : Int)) (hn : n ≤ 281474976710656)
    (hK : ∀ A w', RB w' A n n (List.replicate n 0) → Below w.heap.size w w' → wpList Try.prog ops Q rest (a.put o.dst (.slice A n n)) w') : wpList Try.prog ops Q (o :: rest) a w := by
  obtain ⟨i, hi, hzz⟩ := Option.map_eq_some_iff.1 infoByte
  simp only [Prod.mk.injEq] at hzz
  obtain ⟨hz, h1, h2⟩ := hzz
  refine wpList_make_full w hgd l c 28 ho w.heap.size 5 i _ 1 Try.underlying28 hi hz h1 .i64 .i64 n n n hl hc rfl rfl (by rw [h2]; omega) (by unfold maxLen; omega) (Nat.le_refl _) fun w' h3 h4 => ?_
  rw [made_zeros] at h3
  obtain ⟨A, c', e, r, _⟩ := RB.of_own h3
  injection e with e1 e2 e3
  subst e1
  subst e3
  exact hK _ w' r ((Below.refl _ _).grown h4 (Nat.le_refl _) fun k hk => by cases hk)

/-- What was told first stays. -/
structure Fi (a : List UInt8) (f : Nat) (d : Dr) : Prop where
  en : d.en = 0
  rd : d.rd = 0
  had : ∀ i, i < a.length → d.M (f + i) = some (a.getD i 0)
section
variable {a : List UInt8} {f : Nat} {d : Dr}
theorem Fi.start (h1 : 1 ≤ f) (h2 : f + a.length ≤ 33) : Fi a f (Dr.new.put (f : Int) a) := by
  refine ⟨rfl, rfl, fun i hi => ?_⟩
  show Dr.new.putM (f : Int) a a.length (f + i) = _
  have hn : Dr.new.newAt ((f + i : Nat) : Int) = true := Dr.newAt_iff.2 ⟨by omega, by show ((f + i : Nat) : Int) < ((33 : Nat) : Int); omega, rfl⟩
  unfold Dr.putM
  rw [hn, decide_eq_true (by omega), show (((f + i : Nat) : Int) - (f : Int)).toNat = i from by omega]
  rfl
theorem Fi.put (h : Fi a f d) (x : Int) (b : List UInt8) : Fi a f (d.put x b) := by
  refine ⟨h.en, h.rd, fun i hi => ?_⟩
  show d.putM x b b.length (f + i) = _
  rw [Dr.putM_old (by rw [h.had i hi]; rfl)]
  exact h.had i hi
/-- With all that is ahead of it, it is what is read. -/
theorem Fi.got (h : Fi a f d) (hok : d.ok) (h1 : 1 ≤ f) (h2 : f + a.length ≤ 33) {b : List UInt8} (hb : b.length = f - 1) : (d.put 1 b).most 99 = (d.put 1 b).held ∧ f - 1 + a.length ≤ (d.put 1 b).held ∧ (((d.put 1 b).got 99).drop (f - 1)).take (f - 1 + a.length - (f - 1)) = a := by
  have hk := h.put 1 b
  have hok2 := hok.put (x := 1) (b := b)
  have hlow : ∀ n, 1 ≤ n → n < f → ((d.put 1 b).M n).isSome = true := fun n n1 n2 => Dr.putM_some.2 (.inr ⟨n1, by unfold Dr.bound; rw [if_pos h.en, h.rd]; omega, by omega, by omega⟩)
  have hnx : f + a.length ≤ (d.put 1 b).nx := by
    have hlo := hok2.lo
    have hn := hok2.nxt
    rcases Nat.lt_or_ge (d.put 1 b).nx (f + a.length) with hh | hh
    · rcases Nat.lt_or_ge (d.put 1 b).nx f with h3 | h3
      · have := hlow _ (by omega) h3
        rw [hn] at this
        cases this
      · have := hk.had ((d.put 1 b).nx - f) (by omega)
        rw [show f + ((d.put 1 b).nx - f) = (d.put 1 b).nx from by omega, hn] at this
        cases this
    · exact hh
  have hle := hok2.nx_le
  have hrd : (d.put 1 b).rd = 0 := h.rd
  have hm : (d.put 1 b).most 99 = (d.put 1 b).held := by unfold Dr.most Dr.held; omega
  have hheld : (d.put 1 b).held = (d.put 1 b).nx - 1 := by unfold Dr.held; omega
  refine ⟨hm, by omega, ?_⟩
  have hg : (d.put 1 b).got 99 = (d.put 1 b).dat := by
    unfold Dr.got
    rw [hm, ← Dr.dat_length, List.take_length]
  rw [hg]
  have hdl := (d.put 1 b).dat_length
  apply List.ext_getElem
  · rw [List.length_take, List.length_drop]
    omega
  · intro i i1 i2
    rw [List.getElem_take, List.getElem_drop]
    have h3 := datM_getD (d.put 1 b).M (d.put 1 b).rd (d.put 1 b).nx (f - 1 + i) (by omega)
    have h4 : (d.put 1 b).dat.getD (f - 1 + i) 0 = ((d.put 1 b).M ((d.put 1 b).rd + 1 + (f - 1 + i))).getD 0 := h3
    rw [show (d.put 1 b).rd + 1 + (f - 1 + i) = f + i from by omega, hk.had i i2, List.getD_eq_getElem?_getD, List.getElem?_eq_getElem (by omega), List.getD_eq_getElem?_getD, List.getElem?_eq_getElem i2] at h4
    exact h4
end

set_option maxRecDepth 20000 in
set_option maxHeartbeats 6400000 in
theorem First_law (A : Option Addr) (n c : Nat) (a : List UInt8) (B : Option Addr) (m c' : Nat) (b : List UInt8) (k : Nat) (W : World) (hA : RB W A n c a) (hB : RB W B m c' b) (hk : k < 256) : Calls Try.prog 5 #[.slice A n c, .slice B m c', .int .u8 (k : Int)] W (Held W) := by
  have HW := Lib.hid (wakes_any W)
  have HA := Lib.hid hA
  have HB := Lib.hid hB
  have hla := hA.len
  have hlb := hB.len
  have hca := hA.cap
  have hcb := hB.cap
  clear hA hB
  by_cases hno : 20 < n ∨ 20 < m ∨ n = 0
  · have key : ∀ g1 g2 g3 : Bool, decide ((20 : Int) < (n : Int)) = g1 → decide ((20 : Int) < (m : Int)) = g2 → ((n : Int) == 0) = g3 → (g1 = true ∨ g2 = true ∨ g3 = true) → Calls Try.prog 5 #[.slice A n c, .slice B m c', .int .u8 (k : Int)] W (Held W) := by
      intro g1 g2 g3 e1 e2 e3 hg
      clear hno hla hlb hca hcb
      rcases g1 with _ | _
      · have e1' : ¬ (20 : Int) < (n : Int) := of_decide_eq_false e1
        rcases g2 with _ | _
        · have e2' : ¬ (20 : Int) < (m : Int) := of_decide_eq_false e2
          obtain rfl : g3 = true := by simpa using hg
          have e3' : (n : Int) = 0 := by simpa using e3
          clear hg
          go_enter Try.func5, Try.ntmps5
          go_wp2_with fail
          refine (HW.out).mono ?_
          rintro e w1 ⟨rfl, b1⟩
          have B1 := Lib.hid b1
          clear b1
          go_wp2_with fail
          go_ret
          exact ⟨rfl, B1.out⟩
        · have e2' : (20 : Int) < (m : Int) := of_decide_eq_true e2
          clear hg
          go_enter Try.func5, Try.ntmps5
          go_wp2_with fail
          refine (HW.out).mono ?_
          rintro e w1 ⟨rfl, b1⟩
          have B1 := Lib.hid b1
          clear b1
          go_wp2_with fail
          go_ret
          exact ⟨rfl, B1.out⟩
      · have e1' : (20 : Int) < (n : Int) := of_decide_eq_true e1
        clear hg
        go_enter Try.func5, Try.ntmps5
        go_wp2_with fail
        refine (HW.out).mono ?_
        rintro e w1 ⟨rfl, b1⟩
        have B1 := Lib.hid b1
        clear b1
        go_wp2_with fail
        go_ret
        exact ⟨rfl, B1.out⟩
    refine key _ _ _ rfl rfl rfl ?_
    rcases hno with h | h | h
    · exact .inl (decide_eq_true (by omega))
    · exact .inr (.inl (decide_eq_true (by omega)))
    · exact .inr (.inr (by simp; omega))
  · have e1 : ¬ (20 : Int) < (n : Int) := by omega
    have e2 : ¬ (20 : Int) < (m : Int) := by omega
    have e3 : ¬ (n : Int) = 0 := by omega
    have e1b : decide ((20 : Int) < (n : Int)) = false := decide_eq_false e1
    have e2b : decide ((20 : Int) < (m : Int)) = false := decide_eq_false e2
    have e3b : ((n : Int) == 0) = false := by simpa using e3
    obtain ⟨p, hp⟩ : ∃ p, p = k % 10 := ⟨_, rfl⟩
    have hpl : p < 10 := by omega
    have htm : (k : Int).tmod 10 = (p : Int) := by rw [hp]; rfl
    have hem : (k : Int) % 10 = (p : Int) := by omega
    have hw0 : IntKind.i64.wrap (k : Int) = (k : Int) := by rw [IntKind.wrap_i64]; omega
    obtain ⟨f, hf⟩ : ∃ f, f = 1 + p := ⟨_, rfl⟩
    have hw1 : IntKind.i64.wrap (1 + (p : Int)) = (f : Int) := by rw [IntKind.wrap_i64]; omega
    obtain ⟨f0, hf0⟩ : ∃ f0, f0 = f - 1 := ⟨_, rfl⟩
    have hw2 : IntKind.i64.wrap ((f : Int) - 1) = (f0 : Int) := by rw [IntKind.wrap_i64]; omega
    obtain ⟨fe, hfe⟩ : ∃ fe, fe = f0 + n := ⟨_, rfl⟩
    have hw3 : IntKind.i64.wrap ((f0 : Int) + (n : Int)) = (fe : Int) := by rw [IntKind.wrap_i64]; omega
    have HF := Lib.hid (And.intro hf (And.intro hf0 (And.intro hfe (And.intro hpl (And.intro hla (And.intro hlb hno))))))
    have HST : Hid (Fi a f (Dr.new.put (f : Int) a)) := Lib.hid (Fi.start (by omega) (by omega))
    clear hf hf0 hfe hpl hp hla hlb hno
    go_enter Try.func5, Try.ntmps5
    go_wp2_with fail
    refine (HW.out).mono ?_
    rintro e w1 ⟨rfl, b1⟩
    have HN1 := Lib.hid (new_sv W w1 b1)
    clear b1
    go_wp2_with fail
    refine (HN1.out).mono ?_
    rintro e w2 ⟨rb, z2, rfl, S2, -, -⟩
    have HP2 := Lib.hid (S2.put (x := (f : Int)) (by have := HF.out; omega) (HA.out.below S2.bel) (by have := HF.out; omega) (by decide))
    clear S2 HN1
    unfold ptr at *
    go_wp2_with fail
    refine (HP2.out).mono ?_
    rintro e w3 ⟨z3, rfl, S3, -⟩
    have HS3 := Lib.hid S3
    clear S3 HP2
    generalize Dr.new.hits (f : Int) a.length = hh0 at *
    go_wp2_with fail
    go_loopw [36] (fun ix wr => ∃ (j : Nat) (z : Sh) (d : Dr), ix = .int .i64 (j : Int) ∧ j ≤ 12 ∧ d.t ≤ j + 1 ∧ Fi a f d ∧ Sv W wr rb z d) (fun ix _ => 12 - (intOf ix).toNat)
    case atStart => exact ⟨0, z3, _, rfl, Nat.zero_le _, Nat.le_refl _, HST.out, HS3.out⟩
    case round =>
      obtain ⟨j, z5, d, rfl, hj, ht, hfi, S5⟩ := hrel
      have HS5 := Lib.hid S5
      have HFI := Lib.hid hfi
      have HT := Lib.hid ht
      clear S5 hfi ht HS3 HST
      by_cases hjn : j < 12
      · have hjI : (j : Int) < 12 := by omega
        have hwj : IntKind.i64.wrap (1 + (j : Int)) = ((1 + j : Nat) : Int) := by rw [IntKind.wrap_i64]; omega
        obtain ⟨j1, hj1⟩ : ∃ j1, j1 = 1 + j := ⟨_, rfl⟩
        rw [← hj1] at hwj
        have HJ := Lib.hid (And.intro hj1 hjn)
        have HPU := Lib.hid (HS5.out.put (x := (j1 : Int)) (by omega) (HB.out.below HS5.out.bel) (by have := HF.out; omega) (by have := HT.out; omega))
        generalize d.hits (j1 : Int) b.length = hh at *
        unfold ptr at HPU
        clear hj hjn hj1
        go_wp2_with fail
        refine (HPU.out).mono ?_
        rintro e w6 ⟨z6, rfl, S6, -⟩
        have HS6 := Lib.hid S6
        clear S6 HPU
        go_wp2_with fail
        go_roundw
        case rel => exact ⟨j + 1, z6, _, by go_num, by have := HJ.out; omega, Nat.succ_le_succ HT.out, HFI.out.put _ _, HS6.out⟩
        case measure => have := HJ.out; simp [intOf]; omega
      · obtain rfl : j = 12 := by omega
        have HGT := Lib.hid (fun (z : List UInt8) (hz : z.length = f - 1) => HFI.out.got HS5.out.s.ok (by have := HF.out; omega) (by have := HF.out; omega) hz)
        clear hj hjn
        go_upto_region 13 with (fail)
        go_wp2_with (first
          | (at_make; refine wpList_makeZ rfl (.tmp 47) (.tmp 47) rfl f0 rfl rfl (by have := HF.out; omega) ?_; intro Az w7 r7 b7; have HB7 := Lib.hid b7; have HR7 := Lib.hid r7; clear r7 b7; have HPU := Lib.hid ((HS5.out.below HB7.out).put (x := 1) (by omega) HR7.out (by have := HF.out; omega) (by have := HT.out; omega)); unfold ptr at HPU)
          | fail)
        refine (HPU.out).mono ?_
        rintro e w8 ⟨z8, rfl, S8, -⟩
        have HRE := Lib.hid (S8.read (m := 99) (by unfold isI; omega))
        obtain ⟨g1, g2, g3⟩ := HGT.out (List.replicate f0 0) (by rw [List.length_replicate]; exact HF.out.2.1)
        rw [g1] at HRE
        have HG := Lib.hid (And.intro g1 (And.intro g2 g3))
        clear S8 HPU g1 g2 g3
        generalize d.hits 1 (List.replicate f0 (0 : UInt8)).length = hh at *
        unfold ptr at HRE
        go_wp2_with fail
        refine (HRE.out).mono ?_
        rintro e w9 ⟨v9, z9, rfl, T9, S9, -⟩
        obtain ⟨A9, c9, rfl, r9⟩ := T9.row
        have HS9 := Lib.hid S9
        have hfe : fe ≤ (d.put 1 (List.replicate f0 0)).held := by have := HG.out.2.1; have := HF.out; omega
        obtain ⟨A2, hsl, r2⟩ := r9.sub (i := f0) (j := fe) (by have := HF.out; omega) hfe
        have hfl : fe - f0 = n := by have := HF.out; omega
        have hr2 : RB w9 A2 n (c9 - f0) a := by
          have h := HG.out.2.2
          rw [← HF.out.2.1] at h
          rw [show f0 + a.length - f0 = fe - f0 from by have := HF.out; omega] at h
          rw [h, hfl] at r2
          exact r2
        rw [hfl] at hsl
        have HSM := Lib.hid (Same_any A2 A n (c9 - f0) n c a a w9 hr2 (HA.out.below HS9.out.bel))
        have hss : (a == a) = true := by simp
        rw [hss] at HSM
        have hge : ((fe : Nat) : Int) ≤ ((d.put 1 (List.replicate f0 0)).held : Int) := by omega
        have hgeb : decide (((fe : Nat) : Int) ≤ ((d.put 1 (List.replicate f0 0)).held : Int)) = true := decide_eq_true hge
        have hfc : fe ≤ c9 := by have := r9.cap; omega
        have hff : f0 ≤ fe := by have := HF.out; omega
        have HFF : Hid (∀ m, Below W.heap.size W (w9.drewN m)) := Lib.hid (fun m => below_dn HS9.out.bel m)
        clear T9 S9 r9 r2 hr2 hss hfl HRE
        generalize (d.put 1 (List.replicate f0 0)).err = er at *
        generalize (d.put 1 (List.replicate f0 0)).held = hd at *
        generalize c9 - f0 = cf at *
        go_wp2_with fail
        refine (HSM.out).mono ?_
        rintro e w10 ⟨rfl, m10, rfl⟩
        go_wp2_with fail
        go_ret
        exact ⟨rfl, HFF.out _⟩
end Go.Proofs.Ytancbdnpmabpfaa

/- A receiver's behind, End, New. Conditions: the receiver stands; whole numbers of 64 bits. -/
import Derived.Test.YtancbdnpmabpfaaDrE
namespace Go.Proofs.Ytancbdnpmabpfaa
set_option linter.unusedVariables false
set_option linter.unusedSimpArgs false
open Go.RowKit Go.Lib

/-- The number behind all that came. -/
structure Bhd (d : Dr) (y : Nat) : Prop where
  all : ∀ n, (d.M n).isSome = true → n < y
  ge : d.nx ≤ y
  le : y ≤ d.rd + 33
  at_ : y = d.nx ∨ ∃ k, k + 1 = y ∧ (d.M k).isSome = true
theorem Bhd.may {d : Dr} {y : Nat} (h : Bhd d y) (hok : d.ok) {x : Int} : d.may x = true ↔ (y : Int) ≤ x ∧ x ≤ ((d.rd + 33 : Nat) : Int) ∧ (d.en = 0 ∨ x = (d.en : Int)) := by
  rw [Dr.may_iff hok]
  have h1 := h.ge
  constructor
  · rintro ⟨a1, a2, a3, a4⟩
    refine ⟨?_, a2, a3⟩
    rcases h.at_ with e | ⟨k, hk, hs⟩
    · omega
    · rcases Int.lt_or_le x (y : Int) with hh | hh
      · have := a4 k (by omega)
        rw [this] at hs
        cases hs
      · exact hh
  · rintro ⟨a1, a2, a3⟩
    refine ⟨by omega, a2, a3, fun n hn => ?_⟩
    cases hc : d.M n with
    | none => rfl
    | some v =>
      have := h.all n (by rw [hc]; rfl)
      omega
theorem last_bhd {d : Dr} (hok : d.ok) {l : List Rn} (ht : Tid 0 l) (L : Ls l d.M d.nx) {j : Nat} (hj : j + 1 = l.length) : 0 ≤ (l.getD j (0, 0)).1 ∧ 1 ≤ (l.getD j (0, 0)).2 ∧ Bhd d ((l.getD j (0, 0)).1 + (l.getD j (0, 0)).2).toNat := by
  have hm : l.getD j (0, 0) ∈ l := getD_mem (by omega)
  obtain ⟨t1, t2, t3⟩ := tid_ge ht _ hm
  have hh : Has l ((l.getD j (0, 0)).1 + (l.getD j (0, 0)).2 - 1) := ⟨_, hm, by omega, by omega⟩
  obtain ⟨l1, l2⟩ := (L _).1 hh
  have hw := hok.win _ l2
  have hall : ∀ n : Int, Has l n → n < (l.getD j (0, 0)).1 + (l.getD j (0, 0)).2 := fun n ⟨r, hr, h1, h2⟩ => by
    obtain ⟨i, hi, e⟩ := List.getElem_of_mem hr
    have e2 : l.getD i (0, 0) = r := by rw [List.getD_eq_getElem?_getD, List.getElem?_eq_getElem hi]; exact e
    rcases Nat.lt_or_ge i j with hh | hh
    · have := tid_rise ht i j hh (by omega)
      rw [e2] at this
      omega
    · obtain rfl : i = j := by omega
      rw [e2]
      omega
  refine ⟨t1, t2, ⟨fun n hn => ?_, by omega, by omega, .inr ⟨((l.getD j (0, 0)).1 + (l.getD j (0, 0)).2 - 1).toNat, by omega, l2⟩⟩⟩
  rcases Nat.lt_or_ge n d.nx with h | h
  · omega
  · have := hall (n : Int) ((L (n : Int)).2 ⟨by omega, by rw [Int.toNat_natCast]; exact hn⟩)
    omega
theorem nil_bhd {d : Dr} (hok : d.ok) (L : Ls [] d.M d.nx) : Bhd d d.nx := by
  refine ⟨fun n hn => ?_, Nat.le_refl _, hok.nx_le, .inl rfl⟩
  rcases Nat.lt_or_ge n d.nx with h | h
  · exact h
  · exact absurd ((L (n : Int)).2 ⟨by omega, by rw [Int.toNat_natCast]; exact hn⟩) (has_nil _)

section
variable {base : Nat} {w : World} {rb : Nat} {z : Sh} {d : Dr}
def BhdP (w : World) (d : Dr) (e : Ending) (w' : World) : Prop := ∃ y : Nat, e = .returned (.int .i64 (y : Int)) ∧ Bhd d y ∧ Below w.heap.size w w'
set_option maxRecDepth 20000 in
set_option maxHeartbeats 1600000 in
theorem behind_any (H : Rc base w rb z d) : Calls Try.prog 32 #[ptr rb] w (BhdP w d) := by
  have c2 : w.cell? ⟨rb, 2, none⟩ = some (ptr z.ob) := H.w.cell 2
  have c0 : w.cell? ⟨rb, 0, none⟩ = some (.int .i64 (d.nx : Int)) := H.w.cell 0
  have HR := Lib.hid (Runs_any H.w.st)
  have HH := Lib.hid H
  have hlen := H.w.st.len
  clear H
  unfold ptr at *
  go_enter Try.func32, Try.ntmps32
  go_wp2_with fail
  refine (HR.out).mono ?_
  rintro e w1 ⟨v1, rfl, r1, _, b1⟩
  have HB1 := Lib.hid b1
  have d0 := keepc b1 c0
  obtain ⟨A, c, rfl, hc1, hc2⟩ := r1.slice
  clear b1 c0 HR
  by_cases hl : z.l.length = 0
  · have hnil : z.l = [] := List.length_eq_zero_iff.1 hl
    have HF : Hid (BhdP w d (.returned (.int .i64 (d.nx : Int))) w1) := Lib.hid ⟨_, rfl, nil_bhd HH.out.ok (by rw [← hnil]; exact HH.out.ls), HB1.out⟩
    clear hnil r1
    generalize z.l.length = n at *
    subst hl
    go_wp2_with fail
    go_ret
    exact HF.out
  · obtain ⟨j, hj⟩ : ∃ j, j + 1 = z.l.length := ⟨z.l.length - 1, by omega⟩
    obtain ⟨g, o, rfl, x0, x1, _⟩ := r1.cells (j := j) (by omega)
    obtain ⟨t1, t2, hb⟩ := last_bhd HH.out.ok HH.out.w.st.tid HH.out.ls hj
    have HBD := Lib.hid hb
    have hw1 : IntKind.i64.wrap ((z.l.length : Int) - 1) = (j : Int) := by rw [IntKind.wrap_i64]; omega
    have hwn : (((z.l.getD j (0, 0)).1 + (z.l.getD j (0, 0)).2).toNat : Int) = (z.l.getD j (0, 0)).1 + (z.l.getD j (0, 0)).2 := by omega
    have hw2 : IntKind.i64.wrap ((z.l.getD j (0, 0)).1 + (z.l.getD j (0, 0)).2) = (((z.l.getD j (0, 0)).1 + (z.l.getD j (0, 0)).2).toNat : Int) := by
      have h1 := hb.le
      have h2 := HH.out.nums
      rw [IntKind.wrap_i64]; omega
    have hl0 : ¬ ((z.l.length : Int) = 0) := by omega
    have hjn : j < z.l.length := by omega
    have hjnI : (j : Int) < (z.l.length : Int) := by omega
    obtain ⟨e0, e1⟩ := cell2 w1 (.int .i64 (z.l.getD j (0, 0)).1) (.int .i64 (z.l.getD j (0, 0)).2) 61
    have HF : Hid (∀ w2, Below w1.heap.size w1 w2 → BhdP w d (.returned (.int .i64 (((z.l.getD j (0, 0)).1 + (z.l.getD j (0, 0)).2).toNat : Int))) w2) := Lib.hid (fun w2 b2 => ⟨_, rfl, HBD.out, HB1.out.trans (b2.mono HB1.out.size)⟩)
    have HB2 := Lib.hid (below_a w1 (.cells #[.int .i64 (z.l.getD j (0, 0)).1, .int .i64 (z.l.getD j (0, 0)).2] 61))
    clear hb r1 t1 t2 HBD hl hwn hj
    generalize z.l.length = n at *
    generalize ((z.l.getD j (0, 0)).1 + (z.l.getD j (0, 0)).2).toNat = y at *
    generalize (z.l.getD j (0, 0)).1 = ra at *
    generalize (z.l.getD j (0, 0)).2 = rg at *
    go_wp2_with fail
    go_ret
    exact HF.out _ HB2.out

def EndP (base : Nat) (w : World) (rb : Nat) (z : Sh) (d : Dr) (x : Int) (e : Ending) (w' : World) : Prop := e = .returned (.bool (d.may x)) ∧ Left base w rb z (d.tell x) w' z
theorem end_no (H : Rc base w rb z d) {x : Int} (h : d.may x = false) {w' : World} (b : Below w.heap.size w w') : EndP base w rb z d x (.returned (.bool false)) w' := by
  refine ⟨by rw [h], ?_⟩
  unfold Dr.tell
  rw [h]
  exact Left.of_below H b
theorem end_yes (H : Rc base w rb z d) {x : Int} (h : d.may x = true) (h0 : 0 ≤ x) {w1 : World} (b : Below w.heap.size w w1) : EndP base w rb z d x (.returned (.bool true)) (w1.setCell ⟨rb, 4, none⟩ (.int .i64 x)) := by
  have H1 := H.below b
  obtain ⟨r, m⟩ := H1.w.setc (nx' := d.nx) (en' := x.toNat) 4 (.int .i64 x) (by
    show #[_, _, _, _, Value.int .i64 (x.toNat : Int)] = _
    rw [show (x.toNat : Int) = x from by omega]
    rfl)
  have hok := H.ok.tell x
  unfold Dr.tell at hok
  rw [if_pos h] at hok
  refine ⟨by rw [h], ?_⟩
  unfold Dr.tell
  rw [if_pos h]
  exact ⟨⟨r, H.ls, hok, H.cap⟩, m.ahead b⟩
set_option maxRecDepth 20000 in
set_option maxHeartbeats 3200000 in
theorem End_any (H : Rc base w rb z d) (x : Int) : Calls Try.prog 15 #[ptr rb, .int .i64 x] w (EndP base w rb z d x) := by
  have HBH := Lib.hid (behind_any H)
  have HH := Lib.hid H
  have HNO := Lib.hid (fun (h : d.may x = false) (w' : World) (b : Below w.heap.size w w') => end_no H h b)
  have HYES := Lib.hid (fun (h : d.may x = true) (h0 : 0 ≤ x) (w1 : World) (b : Below w.heap.size w w1) => end_yes H h h0 b)
  clear H
  unfold ptr at *
  go_enter Try.func15, Try.ntmps15
  go_wp2_with fail
  refine (HBH.out).mono ?_
  rintro e w1 ⟨y, rfl, hb, b1⟩
  have HB1 := Lib.hid b1
  have HMY := Lib.hid (hb.may HH.out.ok (x := x))
  have hy0 := hb.ge
  have H1 := Lib.hid (HH.out.below b1)
  have HNX := Lib.hid HH.out.nums
  clear hb b1 HBH
  by_cases g1 : x < (y : Int)
  · have hno : d.may x = false := by
      cases hc : d.may x with
      | false => rfl
      | true => exact absurd (HMY.out.1 hc).1 (by omega)
    have HF := Lib.hid (HNO.out hno _ HB1.out)
    have k1 : decide (x < (y : Int)) = true := decide_eq_true g1
    clear HYES HNO hno hy0
    go_wp2_with fail
    go_ret
    exact HF.out
  · have k1 : decide (x < (y : Int)) = false := decide_eq_false g1
    have HE := Lib.hid (edge_any H1.out)
    unfold ptr at HE
    by_cases g2 : ((d.rd + 33 : Nat) : Int) < x
    · have hno : d.may x = false := by
        cases hc : d.may x with
        | false => rfl
        | true => exact absurd (HMY.out.1 hc).2.1 (by omega)
      have HF := Lib.hid (HNO.out hno)
      have k2 : decide (((d.rd + 33 : Nat) : Int) < x) = true := decide_eq_true g2
      clear HYES HNO hno hy0
      generalize d.rd + 33 = r3 at *
      go_wp2_with fail
      refine (HE.out).mono ?_
      rintro e w2 ⟨rfl, m, rfl⟩
      have HB2 := Lib.hid (below_dn HB1.out m)
      generalize w1.drewN m = w2 at *
      go_wp2_with fail
      go_ret
      exact HF.out _ HB2.out
    · have k2 : decide (((d.rd + 33 : Nat) : Int) < x) = false := decide_eq_false g2
      by_cases he : d.en = 0
      · have hyes : d.may x = true := HMY.out.2 ⟨by omega, by omega, .inl he⟩
        have HF := Lib.hid (HYES.out hyes (by have := HNX.out; omega))
        have HT := Lib.hid (fun m => told_any (H1.out.dn m))
        rw [decide_eq_false (by omega)] at HT
        unfold ptr at HT
        have HFZ := Lib.hid (fun m => (H1.out.dn m).w.fz 4)
        have HC4 : Hid (∀ m, (w1.drewN m).cell? ⟨rb, 4, none⟩ = some (.int .i64 (d.en : Int))) := Lib.hid (fun m => (H1.out.dn m).w.cell 4)
        clear HYES HNO hyes hy0
        generalize d.rd + 33 = r3 at *
        go_wp2_with fail
        refine (HE.out).mono ?_
        rintro e w2 ⟨rfl, m, rfl⟩
        have HB2 := Lib.hid (below_dn HB1.out m)
        have HT2 := Lib.hid (HT.out m)
        have f4 := HFZ.out m
        have x4 := HC4.out m
        clear HT HFZ HC4
        generalize w1.drewN m = w2 at *
        go_wp2_with fail
        refine (HT2.out).mono ?_
        rintro e w3 ⟨rfl, rfl⟩
        go_wp2_with fail
        go_ret
        exact HF.out _ HB2.out
      · have HT := Lib.hid (fun m => told_any (H1.out.dn m))
        rw [decide_eq_true (by omega)] at HT
        unfold ptr at HT
        have HFZ := Lib.hid (fun m => (H1.out.dn m).w.fz 4)
        have HC4 : Hid (∀ m, (w1.drewN m).cell? ⟨rb, 4, none⟩ = some (.int .i64 (d.en : Int))) := Lib.hid (fun m => (H1.out.dn m).w.cell 4)
        by_cases hx : x = (d.en : Int)
        · have hyes : d.may x = true := HMY.out.2 ⟨by omega, by omega, .inr hx⟩
          have HF := Lib.hid (HYES.out hyes (by have := HNX.out; omega))
          have k3 : (x != (d.en : Int)) = false := by rw [hx]; simp
          clear HYES HNO hyes hy0 hx
          generalize d.rd + 33 = r3 at *
          generalize (d.en : Int) = E at *
          go_wp2_with fail
          refine (HE.out).mono ?_
          rintro e w2 ⟨rfl, m, rfl⟩
          have HB2 := Lib.hid (below_dn HB1.out m)
          have HT2 := Lib.hid (HT.out m)
          have f4 := HFZ.out m
          have x4 := HC4.out m
          clear HT HFZ HC4
          generalize w1.drewN m = w2 at *
          go_wp2_with fail
          refine (HT2.out).mono ?_
          rintro e w3 ⟨rfl, rfl⟩
          go_wp2_with fail
          go_ret
          exact HF.out _ HB2.out
        · have hno : d.may x = false := by
            cases hc : d.may x with
            | false => rfl
            | true => exact absurd (HMY.out.1 hc).2.2 (by omega)
          have HF := Lib.hid (HNO.out hno)
          have k3 : (x != (d.en : Int)) = true := by simpa using hx
          clear HYES HNO hno hy0 hx
          generalize d.rd + 33 = r3 at *
          generalize (d.en : Int) = E at *
          go_wp2_with fail
          refine (HE.out).mono ?_
          rintro e w2 ⟨rfl, m, rfl⟩
          have HB2 := Lib.hid (below_dn HB1.out m)
          have HT2 := Lib.hid (HT.out m)
          have x4 := HC4.out m
          clear HT HFZ HC4
          generalize w1.drewN m = w2 at *
          go_wp2_with fail
          refine (HT2.out).mono ?_
          rintro e w3 ⟨rfl, rfl⟩
          go_wp2_with fail
          go_ret
          exact HF.out _ HB2.out

def NewS (base : Nat) (w : World) (e : Ending) (w' : World) : Prop := ∃ (rb : Nat) (z : Sh), e = .returned (ptr rb) ∧ Rc base w' rb z Dr.new ∧ Below w.heap.size w w' ∧ ∀ k, z.T rb k → w.heap.size ≤ k
set_option maxRecDepth 8000 in
set_option maxHeartbeats 1600000 in
theorem New_rc (base : Nat) (w : World) (hb : base ≤ w.heap.size) : Calls Try.prog 9 #[] w (NewS base w) := by
  have HN := Lib.hid (New_any (w := w) (v := .slice none 0 0) (l := []) (.inl ⟨rfl, rfl⟩) (by simp) (fun r hr => by cases hr))
  have hmm := @run_makeMap Try.prog
  go_enter Try.func9, Try.ntmps9
  go_wp2_with fail
  refine (HN.out).mono ?_
  rintro e w1 ⟨ob, v1, l1, rfl, S1, hh, b1, lo1, o1⟩
  obtain rfl : l1 = [] := tid_ext (b := 0) S1.tid trivial (fun n => ⟨fun h => (((hh n).1 h).elim (fun r hr => by cases hr.1)), fun h => absurd h (has_nil n)⟩)
  have HF : Hid (NewS base w (.returned (ptr (w1.heap.size + 1))) ((w1.alloc (.map #[] 0)).alloc (.cells #[.int .i64 1, .slice none 0 0, ptr ob, .map (some w1.heap.size), .int .i64 0] 50))) := by
    have hs1 := b1.size
    have hb2 : Below w1.heap.size w1 ((w1.alloc (.map #[] 0)).alloc (.cells #[.int .i64 1, .slice none 0 0, ptr ob, .map (some w1.heap.size), .int .i64 0] 50)) := below_a2 w1 _ _
    have hblk : ((w1.alloc (.map #[] 0)).alloc (.cells #[.int .i64 1, .slice none 0 0, ptr ob, .map (some w1.heap.size), .int .i64 0] 50)).heap[w1.heap.size + 1]? = some (.cells #[.int .i64 1, .slice none 0 0, ptr ob, .map (some w1.heap.size), .int .i64 0] 50 (0, 0)) := by
      have := heap_alloc_new (w1.alloc (.map #[] 0)) (.cells #[.int .i64 1, .slice none 0 0, ptr ob, .map (some w1.heap.size), .int .i64 0] 50)
      rwa [World.size_alloc] at this
    refine Lib.hid ⟨w1.heap.size + 1, ⟨ob, w1.heap.size, .slice none 0 0, v1, []⟩, rfl, ⟨⟨hblk, S1.below hb2, ⟨0, Nat.zero_le _, (MapV.made w1 _ (fun k => ?_)).keep (Below.heap_alloc _ _ _ (by simp))⟩, World.ownsRow_nil _ _ _ _, ⟨by omega, show base ≤ ob by omega, show base ≤ w1.heap.size by omega⟩, fun k hk => by have := o1 k hk; omega⟩, fun n => ⟨fun h => absurd h (has_nil n), fun h => by cases h.2⟩, Dr.new_ok, by decide⟩, b1.trans (hb2.mono hs1), fun k hk => ?_⟩
    · unfold ahd
      split <;> rfl
    · rcases hk with hk | hk | hk | hk | hk
      · omega
      · have hk : k = ob := hk
        omega
      · have hk : k = w1.heap.size := hk
        omega
      · cases hk
      · exact o1 k hk
  clear S1 hh b1 lo1 o1 HN
  unfold ptr at *
  go_wp2_with fail
  go_ret
  exact HF.out
end
end Go.Proofs.Ytancbdnpmabpfaa

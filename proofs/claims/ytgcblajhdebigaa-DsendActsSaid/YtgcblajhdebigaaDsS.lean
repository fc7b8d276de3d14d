/- The document's sender in memory; its Last, Due, Lose, Ack. Conditions: it stands; numbers of at most 2^40. -/
import Derived.Test.YtgcblajhdebigaaDsW
namespace Go.Proofs.Ytgcblajhdebigaa
set_option linter.unusedVariables false
set_option linter.unusedSimpArgs false
open Go.RowKit Go.Lib

/-- The truths l, as the cells of a row hold them. -/
def bo (l : List Bool) : List Value := l.map .bool
theorem bo_length (l : List Bool) : (bo l).length = l.length := by simp [bo]
theorem bo_append (l r : List Bool) : bo (l ++ r) = bo l ++ bo r := by simp [bo]
theorem bo_set (l : List Bool) (j : Nat) (b : Bool) : (bo l).set j (.bool b) = bo (l.set j b) := by unfold bo; rw [List.map_set]
theorem infoBool : (Try.prog.info? 4).map (fun i => (i.zero, i.size, i.bytes)) = some (some (.bool false), 1, 1) := by kernel_rfl
theorem own_bool {w : World} {base n : Nat} {v : Value} {l : List Bool} (h : w.ownsRow base 4 1 v n (bo l)) {j : Nat} (hj : j < n) :
    ∃ g cap, v = .slice (some ⟨g, 0, none⟩) n cap ∧ base ≤ g ∧ n ≤ cap ∧ cap ≤ 9223372036854775807 ∧ w.cell? ⟨g, j, none⟩ = some (.bool (l.getD j false)) ∧ (∀ i, w.frozen? ⟨g, i, none⟩ = false) ∧ ∀ b, (w.setCell ⟨g, j, none⟩ (.bool b)).ownsRow base 4 1 v n (bo (l.set j b)) := by
  have hl : l.length = n := by have := h.1; rw [bo_length] at this; omega
  rcases h.2 with ⟨_, e⟩ | ⟨g, cap, cur, rfl, hb, hg, hnc, hm, _, _⟩
  · omega
  · refine ⟨g, cap, rfl, hb, hnc, by unfold maxLen at hm; exact hm, ?_, fun i => World.ownsRow.frozenAt h i, fun b => ?_⟩
    · rw [World.ownsRow.cellAt h j (by omega)]
      have hj' : j < l.length := by omega
      simp [bo, hj']
    · rw [← bo_set]
      exact (World.ownsRow.stored h j (.bool b)).1

/-- Where the document's sender lies; which it holds to be lost. -/
structure Ry where
  av : Value
  lv : Value
  lb : List Bool
def Ry.T (xb : Nat) (y : Ry) (k : Nat) : Prop := k = xb ∨ y.av.ownBlock = some k ∨ y.lv.ownBlock = some k
def rcells (y : Ry) (d : Dq) : Array Value := #[y.av, y.lv, .int .i64 (d.una : Int), .int .i64 (d.next : Int), .int .i64 (d.edge : Int), .bool d.told, .bool d.done]
structure Rf (base : Nat) (w : World) (xb : Nat) (y : Ry) (d : Dq) : Prop where
  blk : w.heap[xb]? = some (.cells (rcells y d) 45 (0, 0))
  all : w.ownsRow base 5 1 y.av d.all.length (bv d.all)
  lost : w.ownsRow base 4 1 y.lv d.all.length (bo y.lb)
  rel : ∀ k, d.una ≤ k → k < d.fin → y.lb.getD (k - 1) false = d.L k
  lo : base ≤ xb
structure LeftR (base : Nat) (w : World) (xb : Nat) (y : Ry) (d' : Dq) (w' : World) (y' : Ry) : Prop where
  s : Rf base w' xb y' d'
  ch : Ch w w' (y.T xb)
  new : ∀ k, y'.T xb k → y.T xb k ∨ w.heap.size ≤ k
section
variable {base : Nat} {w w' : World} {xb : Nat} {y : Ry} {d d' : Dq}
theorem Rf.lt (h : Rf base w xb y d) : xb < w.heap.size := (Array.getElem?_eq_some_iff.1 h.blk).1
theorem Rf.cell (h : Rf base w xb y d) (j : Nat) : w.cell? ⟨xb, j, none⟩ = (rcells y d)[j]? := by rw [cell_of_row w xb j _ _ (0, 0) h.blk]
theorem Rf.fz (h : Rf base w xb y d) (j : Nat) : w.frozen? ⟨xb, j, none⟩ = false := frozen_of h.blk j
theorem Rf.in_ (h : Rf base w xb y d) {k : Nat} (hk : y.T xb k) : base ≤ k ∧ k < w.heap.size := by
  rcases hk with rfl | hk | hk
  · exact ⟨h.lo, h.lt⟩
  · exact own_in h.all hk
  · exact own_in h.lost hk
theorem Rf.apart (h : Rf base w xb y d) : y.av.ownBlock ≠ some xb ∧ y.lv.ownBlock ≠ some xb ∧ ∀ g, y.av.ownBlock = some g → y.lv.ownBlock ≠ some g := by
  refine ⟨fun e => ?_, fun e => ?_, fun g e e2 => ?_⟩
  · obtain ⟨cs, h1⟩ := own_obj h.all e
    exact two_types h1 h.blk (by decide)
  · obtain ⟨cs, h1⟩ := own_obj h.lost e
    exact two_types h1 h.blk (by decide)
  · obtain ⟨cs, h1⟩ := own_obj h.all e
    obtain ⟨cs', h2⟩ := own_obj h.lost e2
    exact two_types h1 h2 (by decide)
theorem Rf.frame (h : Rf base w xb y d) {m : Nat → Prop} (c : Ch w w' m) (hm : ∀ k, y.T xb k → ¬ m k) : Rf base w' xb y d :=
  ⟨(c.block xb h.lt (hm xb (.inl rfl))).trans h.blk, own_ch2 h.all c (fun g hg => hm g (.inr (.inl hg))), own_ch2 h.lost c (fun g hg => hm g (.inr (.inr hg))), h.rel, h.lo⟩
theorem Rf.below (h : Rf base w xb y d) (b : Below w.heap.size w w') : Rf base w' xb y d := h.frame (Ch.of_below (fun _ => False) b) (fun _ _ e => e)
theorem LeftR.refl (h : Rf base w xb y d) : LeftR base w xb y d w y := ⟨h, Ch.refl _ _, fun _ h => .inl h⟩
theorem LeftR.of_below (h : Rf base w xb y d) (b : Below w.heap.size w w') : LeftR base w xb y d w' y := ⟨h.below b, Ch.of_below _ b, fun _ h => .inl h⟩
theorem LeftR.then_ {w2 : World} {y1 y2 : Ry} {d1 d2 : Dq} (h : LeftR base w xb y d1 w' y1) (k : LeftR base w' xb y1 d2 w2 y2) : LeftR base w xb y d2 w2 y2 :=
  ⟨k.s, h.ch.trans k.ch (fun _ _ x => x) (fun x hx e => (h.new x e).elim id (fun q => absurd hx (by omega))), fun x hx => (k.new x hx).elim (h.new x) (fun q => .inr (Nat.le_trans h.ch.size q))⟩
theorem LeftR.after {w2 : World} {y1 : Ry} {d1 : Dq} (h : LeftR base w xb y d1 w' y1) (b : Below w'.heap.size w' w2) : LeftR base w xb y d1 w2 y1 := h.then_ (LeftR.of_below h.s b)
theorem LeftR.ahead {w0 : World} {y1 : Ry} {d1 : Dq} (h : LeftR base w xb y d1 w' y1) (b : Below w0.heap.size w0 w) : LeftR base w0 xb y d1 w' y1 :=
  ⟨h.s, (Ch.of_below _ b).then_ h.ch, fun k hk => (h.new k hk).imp id (fun q => Nat.le_trans b.size q)⟩
theorem Rf.lens (h : Rf base w xb y d) : y.lb.length = d.all.length := by have := h.lost.1; rw [bo_length] at this; omega
/-- One cell of its own turns. -/
theorem Rf.setc (H : Rf base w xb y d) {d' : Dq} (j : Nat) (u : Value) (hc : rcells y d' = (rcells y d).setIfInBounds j u) (ha : d'.all = d.all) (hr : ∀ k, d'.una ≤ k → k < d'.fin → y.lb.getD (k - 1) false = d'.L k) : LeftR base w xb y d' (w.setCell ⟨xb, j, none⟩ u) y := by
  have c : Ch w (w.setCell ⟨xb, j, none⟩ u) (fun k => k = xb) := Ch.setCell (m := fun k => k = xb) (Ch.refl w _) (fun _ => rfl) _
  obtain ⟨a1, a2, a3⟩ := H.apart
  have hb := blk_set H.blk j u
  rw [← hc] at hb
  exact ⟨⟨hb, by rw [ha]; exact own_ch2 H.all c (fun g hg e => a1 (e ▸ hg)), by rw [ha]; exact own_ch2 H.lost c (fun g hg e => a2 (e ▸ hg)), hr, H.lo⟩, c.mono fun _ _ e => .inl e, fun _ h => .inl h⟩
/-- One truth of the row turns. -/
theorem Rf.setb (H : Rf base w xb y d) {d' : Dq} {j : Nat} {b : Bool} {g cap : Nat} (hv : y.lv = .slice (some ⟨g, 0, none⟩) d.all.length cap) (ho : (w.setCell ⟨g, j, none⟩ (.bool b)).ownsRow base 4 1 y.lv d.all.length (bo (y.lb.set j b))) (hc : rcells y d' = rcells y d) (ha : d'.all = d.all) (hr : ∀ k, d'.una ≤ k → k < d'.fin → (y.lb.set j b).getD (k - 1) false = d'.L k) :
    LeftR base w xb y d' (w.setCell ⟨g, j, none⟩ (.bool b)) { y with lb := y.lb.set j b } := by
  have c : Ch w (w.setCell ⟨g, j, none⟩ (.bool b)) (fun k => k = g) := Ch.setCell (m := fun k => k = g) (Ch.refl w _) (fun _ => rfl) _
  obtain ⟨a1, a2, a3⟩ := H.apart
  have hg : y.lv.ownBlock = some g := by rw [hv]; rfl
  refine ⟨⟨?_, by rw [ha]; exact own_ch2 H.all c (fun k hk e => a3 k hk (e ▸ hg)), by rw [ha]; exact ho, hr, H.lo⟩, c.mono fun _ _ e => .inr (.inr (e ▸ hg)), fun _ h => .inl h⟩
  have := (c.block xb H.lt (fun e => a2 (e ▸ hg))).trans H.blk
  rw [← hc] at this
  exact this
theorem rel_set {lb : List Bool} {j : Nat} {b : Bool} {k : Nat} (hj : j < lb.length) : (lb.set j b).getD k false = if k = j then b else lb.getD k false := by
  simp only [List.getD_eq_getElem?_getD, List.getElem?_set]
  by_cases h : j = k
  · subst h
    simp [hj]
  · rw [if_neg h, if_neg (fun e => h e.symm)]

theorem last_any (H : Rf base w xb y d) (hc : d.fin ≤ 1073741824) : Calls Try.prog 30 #[ptr xb] w fun e w' => e = .returned (.int .i64 (d.fin : Int)) ∧ w' = w := by
  have c0 := H.cell 0
  obtain ⟨A, c, e, r, _⟩ := RB.of_own H.all
  unfold rcells at c0
  rw [e] at c0
  have hw : IntKind.i64.wrap ((d.all.length : Int) + 1) = (d.fin : Int) := by unfold Dq.fin at *; rw [IntKind.wrap_i64]; omega
  generalize d.all.length = n at *
  clear H r e hc
  unfold ptr
  go_enter Try.func30, Try.ntmps30
  go_wp2_with fail
  go_ret
  exact ⟨rfl, rfl⟩

theorem due_fact (h : d.ok) {k : Nat} (hk : d.L k = true) : d.due = 0 := by
  obtain ⟨f1, f2, f3, f4⟩ := h.from_
  unfold Dq.due
  refine if_neg (fun hh => ?_)
  have h3 := hh.2.2.1
  have h4 := h.lost k hk
  rw [f3 k (by omega)] at hk
  cases hk
theorem from_next (h : d.ok) (hn : ∀ k, d.una ≤ k → k < d.next → d.L k = false) : d.from_ = d.next := by
  have := h.un
  unfold Dq.from_
  rw [seek_none (fun j h1 h2 => hn j h1 (by omega))]
  omega
set_option maxRecDepth 8000 in
set_option maxHeartbeats 3200000 in
theorem rdue_any (H : Rf base w xb y d) (hok : d.ok) (hc : d.fin ≤ 1073741824) : Calls Try.prog 38 #[ptr xb] w fun e w' => e = .returned (.int .i64 (d.due : Int)) ∧ ∃ q, w' = w.drewN q := by
  have HH := Lib.hid H
  have HLA := Lib.hid (fun q => last_any (H.below (below_dn (Below.refl _ _) q)) hc)
  have HOK := Lib.hid hok
  have HC := Lib.hid hc
  have c1 : w.cell? ⟨xb, 1, none⟩ = some y.lv := H.cell 1
  have c2 : w.cell? ⟨xb, 2, none⟩ = some (.int .i64 (d.una : Int)) := H.cell 2
  have c3 : w.cell? ⟨xb, 3, none⟩ = some (.int .i64 (d.next : Int)) := H.cell 3
  have c5 : w.cell? ⟨xb, 5, none⟩ = some (.bool d.told) := H.cell 5
  have c6 : w.cell? ⟨xb, 6, none⟩ = some (.bool d.done) := H.cell 6
  have hun := hok.un
  have hne := hok.ne
  have hu1 := hok.u1
  have HD0 := Lib.hid (fun (k : Nat) (hk : d.L k = true) => due_fact hok hk)
  have HD1 : Hid ((∀ k, d.una ≤ k → k < d.next → d.L k = false) → d.due = if d.told = true ∧ d.next = d.fin ∧ d.done = false then d.fin else 0) := Lib.hid (fun hn => by
    have hfn := from_next hok hn
    unfold Dq.due
    by_cases h : d.told = true ∧ d.next = d.fin ∧ d.done = false
    · rw [if_pos h, if_pos ⟨h.1, h.2.1, hfn, h.2.2⟩]
    · rw [if_neg h, if_neg (fun hh => h ⟨hh.1, hh.2.1, hh.2.2.2⟩)])
  generalize d.due = du at *
  clear H hok
  unfold ptr at *
  go_enter Try.func38, Try.ntmps38
  go_wp2_with fail
  go_loopw [3] (fun ix wr => ∃ k : Nat, ix = .int .i64 (k : Int) ∧ d.una ≤ k ∧ k ≤ d.next ∧ (∀ j, d.una ≤ j → j < k → d.L j = false) ∧ wr = w) (fun ix _ => d.next - (intOf ix).toNat)
  case atStart => exact ⟨d.una, rfl, Nat.le_refl _, hun, fun j h1 h2 => by omega, rfl⟩
  case round =>
    obtain ⟨k, rfl, hk1, hk2, hk3, rfl⟩ := hrel
    have HK3 := Lib.hid hk3
    clear hk3
    by_cases hlt : k < d.next
    · obtain ⟨g, cap, hv, hb, hnc, hcm, x0, -, -⟩ := own_bool HH.out.lost (j := k - 1) (by unfold Dq.fin at hne; omega)
      rw [hv] at c1
      have hrel := HH.out.rel k hk1 (by omega)
      rw [hrel] at x0
      have hw : IntKind.i64.wrap ((k : Int) - 1) = ((k - 1 : Nat) : Int) := by rw [IntKind.wrap_i64]; omega
      have hkl : k - 1 < d.all.length := by unfold Dq.fin at hne; omega
      have HREL := Lib.hid hrel
      generalize hln : d.all.length = n at *
      generalize hkm : k - 1 = km at *
      clear hv hrel hln hkm
      cases hL : d.L k with
      | true =>
        rw [hL] at x0
        have HD := Lib.hid (HD0.out k hL)
        clear hL HREL
        go_wp2_with fail
        go_ret
        exact ⟨by rw [HD.out]; rfl, 0, rfl⟩
      | false =>
        rw [hL] at x0
        have HL := Lib.hid hL
        clear hL HREL
        go_wp2_with fail
        go_roundw
        case rel =>
          refine ⟨k + 1, by go_num, by omega, by omega, fun j h1 h2 => ?_, by trivial⟩
          rcases Nat.lt_or_ge j k with h | h
          · exact HK3.out j h1 h
          · obtain rfl : j = k := by omega
            exact HL.out
        case measure => simp [intOf]; omega
    · obtain rfl : k = d.next := by omega
      have hlt' : ¬ ((d.next : Int) < (d.next : Int)) := by omega
      have HD := Lib.hid (HD1.out HK3.out)
      clear HK3 c1
      cases ht : d.told with
      | false =>
        have HE : Hid (du = 0) := Lib.hid (by rw [HD.out, ht]; rfl)
        rw [ht] at c5
        clear ht
        go_wp2_with fail
        go_quiet (fail)
        go_wp2_with fail
        go_ret
        exact ⟨by rw [HE.out]; rfl, _, rfl⟩
      | true =>
        rw [ht] at c5
        cases hd : d.done with
        | true =>
          have HE : Hid (du = 0) := Lib.hid (by rw [HD.out, hd]; exact if_neg (fun h => by cases h.2.2))
          rw [hd] at c6
          clear ht hd
          go_wp2_with fail
          go_quiet (fail)
          go_wp2_with fail
          go_ret
          exact ⟨by rw [HE.out]; rfl, _, rfl⟩
        | false =>
          rw [hd] at c6
          by_cases hf : d.next = d.fin
          · have HE : Hid (du = d.fin) := Lib.hid (by rw [HD.out]; exact if_pos ⟨ht, hf, hd⟩)
            have hfd : decide ((d.next : Int) < (d.fin : Int)) = false := decide_eq_false (by omega)
            clear ht hd HD HD0 HD1
            generalize d.fin = fn at *
            generalize d.next = nx at *
            go_wp2_with fail
            go_quiet (first | (go_at_call 30; exact Calls.quiet_of_same (HLA.out _)))
            have HLB := Lib.hid (HLA.out nq)
            go_wp2_with fail
            refine (HLB.out).mono ?_
            rintro e w9 ⟨rfl, rfl⟩
            go_wp2_with fail
            go_ret
            exact ⟨by rw [HE.out]; rfl, _, rfl⟩
          · have HE : Hid (du = 0) := Lib.hid (by rw [HD.out]; exact if_neg (fun h => hf h.2.1))
            have hfd : decide ((d.next : Int) < (d.fin : Int)) = true := decide_eq_true (by omega)
            clear ht hd HD HD0 HD1
            generalize d.fin = fn at *
            generalize d.next = nx at *
            go_wp2_with fail
            go_quiet (first | (go_at_call 30; exact Calls.quiet_of_same (HLA.out _)))
            go_wp2_with fail
            go_ret
            exact ⟨by rw [HE.out]; rfl, _, rfl⟩
end
end Go.Proofs.Ytgcblajhdebigaa

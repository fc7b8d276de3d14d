/- How many numbers runs have; what a set may have of a run; a run and what it meets, as one. Conditions: the runs are tidy; whole numbers of 64 bits. -/
import Derived.Test.YtancbdnpmabpfaaSpE
namespace Go.Proofs.Ytancbdnpmabpfaa
set_option linter.unusedVariables false
set_option linter.unusedSimpArgs false
open Go.RowKit Go.Lib

/-- Some of the runs, one behind the other. -/
theorem Row.sub {w : World} {A : Option Addr} {n c : Nat} {l : List Rn} (h : Row w (.slice A n c) l) {i j : Nat} (hij : i ≤ j) (hj : j ≤ n) : ∃ A' : Option Addr, (∀ W, (Instr.slice 56 (.slice A n c) (some (.int .i64 (i : Int))) (some (.int .i64 (j : Int))) none).run Try.prog W = .ok (.slice A' (j - i) (c - i)) W) ∧ Row w (.slice A' (j - i) (c - i)) ((l.take j).drop i) := by
  obtain ⟨A2, c2, hv, hc1, hc2⟩ := h.slice
  injection hv with e1 e2 e3
  subst e1; subst e2; subst e3
  refine ⟨if c = i then A else A.map (·.add (i * 2)), fun W => ?_, ?_⟩
  · rw [run_slice_lh (P := Try.prog) W 56 A l.length c elemRun .i64 .i64 (i : Int) (j : Int) (by omega) (by omega) (by omega), sizeOfRun]
    simp [Result.andThen, sliced]
  · rcases h with ⟨hv, rfl⟩ | ⟨g, o, c3, cs, hv, hb, h1, h2, h3, h4⟩
    · injection hv with e1 e2 e3
      subst e1
      subst e3
      simp at hj
      obtain rfl : j = 0 := hj
      obtain rfl : i = 0 := by omega
      exact .inl ⟨rfl, rfl⟩
    · injection hv with e1 e2 e3
      subst e1
      subst e3
      have hlen : ((l.take j).drop i).length = j - i := by simp; omega
      by_cases e : c = i
      · have hnil : (l.take j).drop i = [] := List.length_eq_zero_iff.1 (by rw [hlen]; omega)
        rw [if_pos e, hnil]
        exact .inr ⟨g, o, c - i, cs, by rw [show j - i = 0 from by omega]; rfl, hb, by simp, by omega, by omega, fun j v hv => by simp [rv] at hv⟩
      · rw [if_neg e]
        refine .inr ⟨g, o + i * 2, c - i, cs, by rw [hlen]; simp [Addr.add_mid], hb, by rw [hlen]; omega, by omega, by omega, ?_⟩
        have hs : w.rangeAt g o (rv (l.take j)) := by
          have := h4
          rw [← List.take_append_drop j l, rv_append, rangeAt_append] at this
          exact this.1
        rw [← List.take_append_drop i (l.take j), rv_append, rangeAt_append, rv_length] at hs
        have := hs.2
        rwa [show ((l.take j).take i).length = i from by simp; omega] at this

theorem tid_take {l : List Rn} {a : Int} (h : Tid a l) (q : Nat) : Tid a (l.take q) := by
  have := h
  rw [← List.take_append_drop q l, tid_append] at this
  exact this.1
theorem many_take {l : List Rn} {q : Nat} (hq : q < l.length) : many (l.take (q + 1)) = many (l.take q) + (l.getD q (0, 0)).2 := by
  rw [List.take_add_one, List.getD_eq_getElem?_getD, List.getElem?_eq_getElem hq, many_append]
  simp [many]

set_option maxHeartbeats 1600000 in
theorem many_any {w : World} {v : Value} {l : List Rn} (h : Row w v l) {a : Int} (ha : 0 ≤ a) (ha2 : a ≤ 4294967297) (ht : Tid a l) (hU : l.length ≤ 1099511627776) :
    Calls Try.prog 46 #[v] w fun e w' => e = .returned (.int .i64 (many l)) ∧ Below w.heap.size w w' := by
  obtain ⟨A, c, rfl, hc1, hc2⟩ := h.slice
  have HR := Lib.hid h
  have hbd : ∀ q, 0 ≤ many (l.take q) ∧ many (l.take q) ≤ 4294967297 := fun q => by
    have h1 := tid_take ht q
    have h2 := many_le h1
    have h3 := fin_top h1 ha2
    exact ⟨many_nonneg h1, by omega⟩
  have HBD := Lib.hid hbd
  have HMT := Lib.hid (fun q (hq : q < l.length) => many_take hq)
  have hend : many (l.take l.length) = many l := by rw [List.take_length]
  have HEND := Lib.hid hend
  clear h hbd hend ht
  generalize hln : l.length = ln at *
  have HL := Lib.hid hln
  clear hln
  go_enter Try.func46, Try.ntmps46
  go_wp2_with fail
  go_loopw [3, 8] (fun sx ix wr => ∃ q : Nat, q ≤ ln ∧ ix = .int .i64 (q : Int) ∧ sx = .int .i64 (many (l.take q)) ∧ Below w.heap.size w wr) (fun sx ix _ => ln - (intOf ix).toNat)
  case atStart => exact ⟨0, Nat.zero_le _, rfl, rfl, Below.refl _ _⟩
  case round =>
    obtain ⟨q, hq, rfl, rfl, hb⟩ := hrel
    have HB := Lib.hid hb
    by_cases hqn : q < ln
    · obtain ⟨g, o, rfl, x0, x1, _⟩ := (HR.out.below hb).cells (j := q) (by rw [HL.out]; exact hqn)
      have hm := HMT.out q hqn
      have hb1 := HBD.out q
      have hb2 := HBD.out (q + 1)
      rw [hm] at hb2
      have HM := Lib.hid hm
      generalize l.getD q (0, 0) = r at *
      obtain ⟨ra, rb⟩ := r
      dsimp only at *
      generalize many (l.take q) = s at *
      clear hm hb
      have hw : IntKind.i64.wrap (s + rb) = s + rb := by rw [IntKind.wrap_i64]; omega
      obtain ⟨e0, e1⟩ := cell2 wr (.int .i64 ra) (.int .i64 rb) 61
      go_wp2_with fail
      go_roundw
      case rel => exact ⟨q + 1, by omega, by go_num, by rw [HM.out], HB.out.alloc HB.out.size _⟩
      case measure => simp [intOf]; omega
    · obtain rfl : q = ln := by omega
      go_wp2_with fail
      go_ret
      exact ⟨by rw [HEND.out]; rfl, HB.out⟩

/-- What a set may have of so many numbers from one on. -/
def inR (f g : Int) : Rn := if f < 0 then (0, max (min (f + max g 0) 4294967296) 0) else (f, max (min (max g 0) (4294967296 - f)) 0)
def isI (x : Int) : Prop := -9223372036854775808 ≤ x ∧ x ≤ 9223372036854775807

theorem cells2_range (w : World) (x y : Int) : (w.alloc (.cells #[.int .i64 x, .int .i64 y] 61)).rangeAt w.heap.size 0 (rv [(x, y)]) := range_new w (rv [(x, y)]) [] _

set_option maxHeartbeats 1600000 in
theorem within_any (f g : Int) (hf : isI f) (hg : isI g) (w : World) : Calls Try.prog 41 #[.int .i64 f, .int .i64 g] w fun e w' => e = .returned (rg (inR f g)) ∧ Below w.heap.size w w' := by
  unfold isI at hf hg
  have hG1 : 0 ≤ max g 0 ∧ max g 0 ≤ 9223372036854775807 := by omega
  by_cases h : f < 0
  · have HF : rg (inR f g) = .agg #[.int .i64 0, .int .i64 (max (min (f + max g 0) 4294967296) 0)] := by unfold rg inR; rw [if_pos h]
    have hw1 : IntKind.i64.wrap (f + max g 0) = f + max g 0 := by rw [IntKind.wrap_i64]; omega
    rw [HF]
    have HB := Lib.hid (below_a w (.cells #[.int .i64 0, .int .i64 (max (min (f + max g 0) 4294967296) 0)] 61))
    have HRG := Lib.hid (cells2_range w 0 (max (min (f + max g 0) 4294967296) 0))
    clear HF
    go_enter Try.func41, Try.ntmps41
    go_wp2_with fail
    exact bodyPost_ret (results_c0 rfl _ _ w.heap.size _ _ rfl HRG.out Try.underlying61 rfl sz2) rfl ⟨rfl, HB.out⟩
  · have HF : rg (inR f g) = .agg #[.int .i64 f, .int .i64 (max (min (max g 0) (4294967296 - f)) 0)] := by unfold rg inR; rw [if_neg h]
    have hw1 : IntKind.i64.wrap (4294967296 - f) = 4294967296 - f := by rw [IntKind.wrap_i64]; omega
    rw [HF]
    have HB := Lib.hid (below_a w (.cells #[.int .i64 f, .int .i64 (max (min (max g 0) (4294967296 - f)) 0)] 61))
    have HRG := Lib.hid (cells2_range w f (max (min (max g 0) (4294967296 - f)) 0))
    clear HF
    go_enter Try.func41, Try.ntmps41
    go_wp2_with fail
    exact bodyPost_ret (results_c0 rfl _ _ w.heap.size _ _ rfl HRG.out Try.underlying61 rfl sz2) rfl ⟨rfl, HB.out⟩

/-- Two cells stored, one behind the other. -/
theorem store2 {w : World} {g : Nat} {u0 u1 : Value} {t : TypeId} (h : w.heap[g]? = some (.cells #[u0, u1] t (0, 0))) (x y : Value) : ((w.setCell ⟨g, 0, none⟩ x).setCell ⟨g, 1, none⟩ y).rangeAt g 0 [x, y] ∧ Ch w ((w.setCell ⟨g, 0, none⟩ x).setCell ⟨g, 1, none⟩ y) (fun k => k = g) := by
  have h2 : ((w.setCell ⟨g, 0, none⟩ x).setCell ⟨g, 1, none⟩ y).heap[g]? = some (.cells #[x, y] t (0, 0)) := by simp [World.setCell, Array.getElem?_modify, h]
  refine ⟨fun j v hv => ?_, ((Ch.refl w (fun k => k = g)).setCell (p := ⟨g, 0, none⟩) (fun _ => rfl) x).setCell (p := ⟨g, 1, none⟩) (fun _ => rfl) y⟩
  rw [cell_of_row _ g (0 + j) _ _ (0, 0) h2]
  simpa using hv

theorem store2_heap {w : World} {g : Nat} {u0 u1 : Value} {t : TypeId} (h : w.heap[g]? = some (.cells #[u0, u1] t (0, 0))) (x y : Value) : ((w.setCell ⟨g, 0, none⟩ x).setCell ⟨g, 1, none⟩ y).heap[g]? = some (.cells #[x, y] t (0, 0)) := by simp [World.setCell, Array.getElem?_modify, h]

theorem join_cons (R m : Rn) (t : List Rn) {last : Rn} (h : last = (m :: t).getD t.length (0, 0)) : join R (m :: t) = (min R.1 m.1, max (R.1 + R.2) (last.1 + last.2) - min R.1 m.1) := by
  have : (m :: t).getLast (by simp) = last := by
    rw [h, List.getLast_eq_getElem, List.getD_eq_getElem?_getD, List.getElem?_eq_getElem (by simp)]
    simp
  unfold join
  dsimp only
  rw [this]

set_option maxRecDepth 8000 in
set_option maxHeartbeats 3200000 in
theorem joined_any {w : World} {v : Value} {l : List Rn} (h : Row w v l) {R : Rn} (hR : Ok R) (hl : ∀ r ∈ l, Ok r) :
    Calls Try.prog 47 #[rg R, v] w fun e w' => e = .returned (rg (join R l)) ∧ Below w.heap.size w w' := by
  obtain ⟨A, c, rfl, hc1, hc2⟩ := h.slice
  have HE1 := Lib.hid (fun w => end_any R hR w)
  cases l with
  | nil =>
    obtain ⟨a, b⟩ := R
    have HF : Hid (rg (join (a, b) []) = .agg #[.int .i64 a, .int .i64 b]) := Lib.hid rfl
    rw [HF.out]
    unfold rg at *
    dsimp only at *
    have HRG : Hid ((((w.alloc (.cells #[.int .i64 a, .int .i64 b] 61)).alloc (.cells #[.int .i64 a, .int .i64 b] 61))).rangeAt (w.heap.size + 1) 0 (rv [(a, b)])) := Lib.hid (by
      have := cells2_range (w.alloc (.cells #[.int .i64 a, .int .i64 b] 61)) a b
      rwa [World.size_alloc] at this)
    have HB : Hid (Below w.heap.size w ((w.alloc (.cells #[.int .i64 a, .int .i64 b] 61)).alloc (.cells #[.int .i64 a, .int .i64 b] 61))) := Lib.hid ((below_a w _).alloc (by simp) _)
    clear h HF hl
    go_enter Try.func47, Try.ntmps47
    go_wp2_with fail
    exact bodyPost_ret (results_c0 rfl _ _ (w.heap.size + 1) _ _ rfl HRG.out Try.underlying61 rfl sz2) rfl ⟨rfl, HB.out⟩
  | cons m t =>
    obtain ⟨last, hlast⟩ : ∃ last, last = (m :: t).getD t.length (0, 0) := ⟨_, rfl⟩
    obtain ⟨g, o, rfl, x0, x1, _⟩ := h.cells (j := 0) (by simp)
    obtain ⟨g2, o2, e2, y0, y1, _⟩ := h.cells (j := t.length) (by simp)
    injection e2 with e2
    injection e2 with e2 e3 _
    subst e2; subst e3
    have hm := hl m (List.mem_cons_self ..)
    have hlo : Ok last := by rw [hlast]; exact hl _ (getD_mem (by simp))
    have HE2 := Lib.hid (fun w => end_any last hlo w)
    have hJ := join_cons R m t hlast
    rw [← hlast] at y0 y1
    have hx0 : w.cell? ⟨g, o, none⟩ = some (.int .i64 m.1) := by simpa using x0
    rw [hJ]
    obtain ⟨a, b⟩ := R
    obtain ⟨ma, mb⟩ := m
    obtain ⟨la, lb⟩ := last
    obtain ⟨k1, k2, k3⟩ := hR
    obtain ⟨k4, k5, k6⟩ := hm
    obtain ⟨k7, k8, k9⟩ := hlo
    unfold rg at *
    dsimp only at *
    have hlen : ((ma, mb) :: t).length = t.length + 1 := rfl
    rw [hlen] at hc1 ⊢
    clear x0 x1 hlast hJ hl h hlen
    generalize t.length = n at *
    have hw1 : IntKind.i64.wrap (max (a + b) (la + lb) - min a ma) = max (a + b) (la + lb) - min a ma := by rw [IntKind.wrap_i64]; omega
    have hw2 : IntKind.i64.wrap ((n : Int) + 1 - 1) = (n : Int) := by rw [IntKind.wrap_i64]; omega
    have hw3 : IntKind.i64.wrap (n : Int) = (n : Int) := by rw [IntKind.wrap_i64]; omega
    have hz1 : ¬ ((n : Int) + 1 = 0) := by omega
    have hz2 : (n : Int) < (n : Int) + 1 := by omega
    have hB0 : Below w.heap.size w ((w.alloc (.cells #[.int .i64 a, .int .i64 b] 61)).alloc (.cells #[.int .i64 0, .int .i64 0] 61)) := (below_a w _).alloc (by simp) _
    have hb1 : ((w.alloc (.cells #[.int .i64 a, .int .i64 b] 61)).alloc (.cells #[.int .i64 0, .int .i64 0] 61)).heap[w.heap.size]? = some (.cells #[.int .i64 a, .int .i64 b] 61 (0, 0)) :=
      (Below.heap_alloc _ _ _ (by simp)).trans (heap_alloc_new w _)
    have hb2 : ((w.alloc (.cells #[.int .i64 a, .int .i64 b] 61)).alloc (.cells #[.int .i64 0, .int .i64 0] 61)).heap[w.heap.size + 1]? = some (.cells #[.int .i64 0, .int .i64 0] 61 (0, 0)) := by
      have := heap_alloc_new (w.alloc (.cells #[.int .i64 a, .int .i64 b] 61)) (.cells #[.int .i64 0, .int .i64 0] 61)
      rwa [World.size_alloc] at this
    go_enter Try.func47, Try.ntmps47
    go_wp2_with fail
    generalize (w.alloc (.cells #[.int .i64 a, .int .i64 b] 61)).alloc (.cells #[.int .i64 0, .int .i64 0] 61) = W2 at *
    have HK : Hid (∀ V, Below W2.heap.size W2 V → V.cell? ⟨w.heap.size, 0, none⟩ = some (.int .i64 a) ∧ V.cell? ⟨w.heap.size, 1, none⟩ = some (.int .i64 b) ∧ V.cell? ⟨g, o, none⟩ = some (.int .i64 ma) ∧ V.cell? ⟨g, o + n * 2, none⟩ = some (.int .i64 la) ∧ V.cell? ⟨g, o + n * 2 + 1, none⟩ = some (.int .i64 lb)) := Lib.hid (fun V hb => ⟨keepc hb (by rw [cell_of_row _ _ _ _ _ _ hb1]; rfl), keepc hb (by rw [cell_of_row _ _ _ _ _ _ hb1]; rfl), keepc hb (keepc hB0 hx0), keepc hb (keepc hB0 y0), keepc hb (keepc hB0 y1)⟩)
    have HS : Hid (∀ V, Below W2.heap.size W2 V → V.heap[w.heap.size + 1]? = some (.cells #[.int .i64 0, .int .i64 0] 61 (0, 0))) := Lib.hid (fun V hb => (hb.block _ (Array.getElem?_eq_some_iff.1 hb2).1).trans hb2)
    have HB0 := Lib.hid hB0
    clear hb1 hb2 hx0 y0 y1 hB0
    have hb : Below W2.heap.size W2 W2.drew := (Below.refl _ _).drew
    go_region_held3 (fun V => V.cell? ⟨w.heap.size, 0, none⟩ = some (.int .i64 a) ∧ V.cell? ⟨w.heap.size, 1, none⟩ = some (.int .i64 b) ∧ V.cell? ⟨g, o, none⟩ = some (.int .i64 ma) ∧ V.cell? ⟨g, o + n * 2, none⟩ = some (.int .i64 la) ∧ V.cell? ⟨g, o + n * 2 + 1, none⟩ = some (.int .i64 lb))
      (exact HK.out _ hb)
      (first
        | (go_at_call 44; refine (HE1.out _).mono ?_; rintro e w5 ⟨rfl, b5⟩; replace hb := hb.trans (b5.mono hb.size); clear b5)
        | (go_at_call 44; refine (HE2.out _).mono ?_; rintro e w5 ⟨rfl, b5⟩; replace hb := hb.trans (b5.mono hb.size); clear b5))
    all_goals
      have s1 := HS.out _ hb
      have st := store2 s1 (.int .i64 (min a ma)) (.int .i64 (max (a + b) (la + lb) - min a ma))
      have HRG := Lib.hid st.1
      have HBF := Lib.hid (((Ch.of_below (fun k => k = w.heap.size + 1) (HB0.out.trans (hb.mono HB0.out.size))).then_ st.2).below (fun x hx e => by omega))
      have p0 : w5.cell? ⟨w.heap.size + 1, 0, none⟩ = some (.int .i64 0) := (cell_of_row _ _ 0 _ _ (0, 0) s1)
      have p1 : w5.cell? ⟨w.heap.size + 1, 1, none⟩ = some (.int .i64 0) := (cell_of_row _ _ 1 _ _ (0, 0) s1)
      have pf := frozen_of s1
      clear s1 st hb HS HK HE1 HE2 HB0
      go_wp2_with fail
      exact bodyPost_ret (results_c0 rfl _ _ (w.heap.size + 1) _ _ rfl HRG.out Try.underlying61 rfl sz2) rfl ⟨rfl, HBF.out⟩
end Go.Proofs.Ytancbdnpmabpfaa

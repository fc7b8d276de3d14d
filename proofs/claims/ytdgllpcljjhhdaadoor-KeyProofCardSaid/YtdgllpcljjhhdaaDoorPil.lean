/- Contracts of what joins lists of pieces: slices.Grow at nil and slices.Concat, both of slices of pieces. Conditions: the pieces hold bytes; all lists together have at most 2^40 pieces. -/
import Derived.Test.YtdgllpcljjhhdaaDoorJoin
namespace Go.Proofs.YtdgllpcljjhhdaaDoor
set_option linter.unusedVariables false
open Go.RowKit

theorem infoPiece : (Tryd.prog.info? 33).map (fun i => (i.zero, i.size, i.bytes)) = some (some (.slice none 0 0), 1, 24) := by kernel_rfl

/-- The values vs are slices that hold the pieces ps in w. -/
def Sl (w : World) (vs : List Value) (ps : List (List UInt8)) : Prop := vs.length = ps.length ∧ ∀ j, j < ps.length → ∃ B m d, vs[j]? = some (.slice B m d) ∧ RB w B m d (ps.getD j [])
theorem Sl.nil_ (w : World) : Sl w [] [] := ⟨rfl, fun j hj => absurd hj (by simp)⟩
theorem Sl.one {w : World} {vs : List Value} {ps : List (List UInt8)} (h : Sl w vs ps) : ∀ u ∈ vs, u.oneCell' = true := by
  intro u hu
  obtain ⟨j, hj, rfl⟩ := List.getElem_of_mem hu
  obtain ⟨B, m, d, e, _⟩ := h.2 j (by rw [← h.1]; exact hj)
  rw [List.getElem?_eq_getElem hj] at e
  injection e with e
  rw [e]
  rfl
theorem Sl.below {w w' : World} {vs : List Value} {ps : List (List UInt8)} (h : Sl w vs ps) (hb : Below w.heap.size w w') : Sl w' vs ps :=
  ⟨h.1, fun j hj => by
    obtain ⟨B, m, d, e, hr⟩ := h.2 j hj
    exact ⟨B, m, d, e, hr.below hb⟩⟩
theorem Sl.append {w : World} {vs us : List Value} {ps qs : List (List UInt8)} (h : Sl w vs ps) (h' : Sl w us qs) : Sl w (vs ++ us) (ps ++ qs) := by
  refine ⟨by rw [List.length_append, List.length_append, h.1, h'.1], fun j hj => ?_⟩
  rw [List.length_append] at hj
  rw [List.getD_eq_getElem?_getD]
  by_cases hlt : j < ps.length
  · obtain ⟨B, m, d, e, hr⟩ := h.2 j hlt
    rw [List.getD_eq_getElem?_getD] at hr
    rw [List.getElem?_append_left (by rw [h.1]; exact hlt), List.getElem?_append_left hlt]
    exact ⟨B, m, d, e, hr⟩
  · obtain ⟨B, m, d, e, hr⟩ := h'.2 (j - ps.length) (by omega)
    rw [List.getD_eq_getElem?_getD] at hr
    rw [List.getElem?_append_right (by rw [h.1]; omega), List.getElem?_append_right (by omega), h.1]
    exact ⟨B, m, d, e, hr⟩

/-- A slice of pieces: its cells. -/
theorem Parts.vals {w : World} {A : Option Addr} {n c : Nat} {ps : List (List UInt8)} (h : Parts w A n c ps) :
    ∃ vs, Sl w vs ps ∧ ∀ j u, vs[j]? = some u → ∃ b o, A = some ⟨b, o, none⟩ ∧ w.cell? ⟨b, o + j, none⟩ = some u := by
  have hl := h.len
  rcases Nat.eq_zero_or_pos n with h0 | h0
  · obtain rfl : ps = [] := List.eq_nil_of_length_eq_zero (by omega)
    exact ⟨[], Sl.nil_ w, by simp⟩
  · obtain ⟨b, o, rfl, hc⟩ := h.2.2.2 h0
    refine ⟨(List.range n).map fun j => (w.cell? ⟨b, o + j, none⟩).getD undef, ⟨by simp [hl], fun j hj => ?_⟩, fun j u hu => ⟨b, o, rfl, ?_⟩⟩
    · obtain ⟨B, m, d, hcell, hr⟩ := hc j (by omega)
      refine ⟨B, m, d, ?_, hr⟩
      have hj' : j < n := by omega
      simp [hj', hcell]
    · have hj : j < n := by simpa using (List.getElem?_eq_some_iff.1 hu).1
      obtain ⟨B, m, d, hcell, hr⟩ := hc j hj
      simp [hj, hcell] at hu
      rw [hcell, hu]

/-- A slice of the call's own that holds pieces. -/
theorem Parts.of_own {w : World} {base n : Nat} {e : TypeId} {v : Value} {vs : List Value} {ps : List (List UInt8)} (h : w.ownsRow base e 1 v n vs) (hs : Sl w vs ps) : ∃ A c, v = .slice A n c ∧ Parts w A n c ps := by
  have hl : ps.length = n := by have h1 := h.1; have h2 := hs.1; omega
  rcases h.2 with ⟨rfl, rfl⟩ | ⟨g, cap, cur, rfl, hb, hg, hnc, hm, hsz, ht⟩
  · exact ⟨none, 0, rfl, hl, Nat.le_refl _, Nat.zero_le _, fun h => absurd h (by omega)⟩
  · refine ⟨_, cap, rfl, hl, hnc, hm, fun hn => ⟨g, 0, rfl, fun j hj => ?_⟩⟩
    obtain ⟨B, m, d, e, hr⟩ := hs.2 j (by omega)
    refine ⟨B, m, d, ?_, hr⟩
    have := World.ownsRow.cellAt h j (by omega)
    rw [Nat.zero_add, this, e]

section
variable {P : Program} (w : World)
/-- The run of append of pieces. -/
theorem appP_run (t ty e : TypeId) (ht : P.underlying t = some (.slice e)) (hi : (P.info? e).map (fun i => (i.zero, i.size, i.bytes)) = some (some (.slice none 0 0), 1, 24))
    (base : Nat) (v : Value) (n : Nat) (vs : List Value) (hown : w.ownsRow base e 1 v n vs)
    (A : Option Addr) (m c : Nat) (us : List Value) (hl : us.length = m) (hsrc : ∀ j u, us[j]? = some u → ∃ b o, A = some ⟨b, o, none⟩ ∧ w.cell? ⟨b, o + j, none⟩ = some u) (h1 : ∀ u ∈ us, u.oneCell' = true)
    (hs : n + m ≤ 1099511627776) (hb : base ≤ w.heap.size) :
    ∃ v' w', (Builtin.append_ #[t, t] ty #[v, .slice A m c]).run P w = .ok v' w' ∧ w'.ownsRow base e 1 v' (n + m) (vs ++ us) ∧ w.grownBy w' v.ownBlock := by
  obtain ⟨i, hi, hz, h2, h3⟩ := info_parts hi
  subst hl
  rcases A with _ | ad
  · obtain rfl : us = [] := by
      rcases us with _ | ⟨u, us⟩
      · rfl
      · obtain ⟨b, o, h, _⟩ := hsrc 0 u rfl
        cases h
    exact ⟨v, w, app_none w base t ty e i ht hi v n c _ hown, by simpa using hown, World.grownBy.refl w _⟩
  · obtain ⟨v', w', hrun, g2, g3, _, _⟩ := run_append_own_at (P := P) w base t ty e i _ 1 24 ht hi hz h2 h3 rfl (by decide) v n vs hown ad us.length c us
      (by rw [Nat.mul_one]) (fun j u hu => by obtain ⟨b, o, h, hc⟩ := hsrc j u hu; injection h with h; subst h; rw [Addr.add_lit]; exact hc) h1 (by unfold maxLen; omega) (by omega) hb
    exact ⟨v', w', hrun, g2, g3⟩
theorem wpList_appP {ops : Array Oper} {rest : List Oper} {o : Oper} {a : Act} {Q : Exit → Act → World → Prop} (hgd : o.guard = none) (s x : Operand) (t e : TypeId)
    (ho : o.op = .call { callee := .builtin .append, args := #[s, x], argTypes := #[t, t] })
    (ht : P.underlying t = some (.slice e)) (hi : (P.info? e).map (fun i => (i.zero, i.size, i.bytes)) = some (some (.slice none 0 0), 1, 24))
    (base : Nat) (v : Value) (n : Nat) (vs : List Value) (hs : a.eval s = v) (hown : w.ownsRow base e 1 v n vs)
    (A : Option Addr) (m c : Nat) (us : List Value) (hx : a.eval x = .slice A m c) (hl : us.length = m) (hsrc : ∀ j u, us[j]? = some u → ∃ b o, A = some ⟨b, o, none⟩ ∧ w.cell? ⟨b, o + j, none⟩ = some u) (h1 : ∀ u ∈ us, u.oneCell' = true)
    (h40 : n + m ≤ 1099511627776) (hb : base ≤ w.heap.size)
    (h : ∀ v' w', w'.ownsRow base e 1 v' (n + m) (vs ++ us) → w.grownBy w' v.ownBlock → wpList P ops Q rest (a.put o.dst v') w') : wpList P ops Q (o :: rest) a w := by
  obtain ⟨v', w', hrun, h2, h3⟩ := appP_run (P := P) w t o.type e ht hi base v n vs hown A m c us hl hsrc h1 h40 hb
  exact Lib.wpList_append_run w hgd s x t t ho _ _ hs hx v' w' hrun (h v' w' h2 h3)
end

/-- The slice '.slice A n c' holds lists of pieces in w. -/
def Pile (w : World) (A : Option Addr) (n c : Nat) (pss : List (List (List UInt8))) : Prop :=
  pss.length = n ∧ n ≤ c ∧ c ≤ maxLen ∧ (0 < n → ∃ b o, A = some ⟨b, o, none⟩ ∧ ∀ j, j < n → ∃ B m d, w.cell? ⟨b, o + j, none⟩ = some (.slice B m d) ∧ Parts w B m d (pss.getD j []))
section
variable {w w' : World} {A : Option Addr} {n c : Nat} {pss : List (List (List UInt8))}
theorem Pile.len (h : Pile w A n c pss) : pss.length = n := h.1
theorem Pile.cap (h : Pile w A n c pss) : n ≤ c := h.2.1
theorem Pile.max (h : Pile w A n c pss) : c ≤ 9223372036854775807 := by have := h.2.2.1; unfold maxLen at this; omega
theorem Pile.at_ (h : Pile w A n c pss) {j : Nat} (hj : j < n) : ∃ b o B m d, A = some ⟨b, o, none⟩ ∧ w.cell? ⟨b, o + j, none⟩ = some (.slice B m d) ∧ Parts w B m d (pss.getD j []) := by
  obtain ⟨b, o, e, hc⟩ := h.2.2.2 (by omega)
  obtain ⟨B, m, d, h1, h2⟩ := hc j hj
  exact ⟨b, o, B, m, d, e, h1, h2⟩
end

/-- The first k lists, joined; and how many pieces these have. -/
def gl (pss : List (List (List UInt8))) (k : Nat) : List (List UInt8) := (pss.take k).flatten
def gn (pss : List (List (List UInt8))) (k : Nat) : Nat := (gl pss k).length
theorem gl_step (pss : List (List (List UInt8))) (k : Nat) (h : k < pss.length) : gl pss (k + 1) = gl pss k ++ pss.getD k [] := by
  unfold gl
  rw [List.take_succ_eq_append_getElem h, List.flatten_append]
  simp [h]
theorem gn_step (pss : List (List (List UInt8))) (k : Nat) (h : k < pss.length) : gn pss (k + 1) = gn pss k + (pss.getD k []).length := by
  unfold gn
  rw [gl_step pss k h, List.length_append]
theorem gn_le (pss : List (List (List UInt8))) (k n : Nat) (h : k ≤ n) : gn pss k ≤ gn pss n := by
  unfold gn gl
  have e : pss.take n = pss.take k ++ (pss.take n).drop k := by
    have := List.take_append_drop k (pss.take n)
    rw [List.take_take, Nat.min_eq_left h] at this
    exact this.symm
  rw [e, List.flatten_append, List.length_append]
  omega

set_option maxHeartbeats 400000 in
theorem GrowP_any (n : Nat) (w : World) (hn : n ≤ 1099511627776) :
    Calls Tryd.prog 44 #[.slice none 0 0, .int .i64 (n : Int)] w (fun e w' => ∃ v, e = .returned v ∧ w'.ownsRow w.heap.size 33 1 v 0 [] ∧ Below w.heap.size w w') := by
  rcases Nat.eq_zero_or_pos n with h0 | h0
  · subst h0
    go_enter Tryd.func44, Tryd.ntmps44
    go_wp2
    go_ret
    exact ⟨_, rfl, World.ownsRow_nil _ _ _ _, Below.refl _ _⟩
  · obtain ⟨i0, hi, hz0, hz1, hz2⟩ := info_parts infoPiece
    have hrun := fun W => Lib.run_append_nil_zeros (P := Tryd.prog) W 45 3 45 33 i0 _ .i64 .i64 Tryd.underlying45 Tryd.underlying3 hi hz0 n h0 (by omega) (by omega) (by rw [hz2]; omega)
    have HR := Lib.hid hrun
    have hg := grownCap_ge w n 0 33
    have hm := grownCap_le_maxLen w n 0 33 (by unfold maxLen; omega)
    clear hrun hi hz0 hz1 hz2
    have hm' : grownCap w n 0 33 ≤ 9223372036854775807 := by unfold maxLen at hm; omega
    have HM := Lib.hid hm
    clear hm
    go_enter Tryd.func44, Tryd.ntmps44
    go_wp2_with (at_builtin; refine Lib.wpList_append_run _ rfl (.tmp 20) (.tmp 21) 45 3 rfl _ _ rfl rfl _ _ (HR.out _) ?_)
    go_ret
    have hown := World.ownsRow_made (base := w.heap.size) (e := 33) (size := 1) w.drew (Builtin.zeroCells (Value.slice none 0 0).cells n ++ Builtin.zeroCells (Value.slice none 0 0).cells (grownCap w n 0 33 - n)) (grownCap w n 0 33) (Nat.le_refl _) HM.out
      (by simp only [Array.size_append, size_zeroCells]; rw [show (Value.slice none 0 0).cells.size = 1 from rfl]; omega)
    exact ⟨_, rfl, hown, (Below.refl _ _).drew.alloc (Nat.le_refl _) _⟩

/-- What a call leaves that answers n pieces, and writes nothing that was there. -/
def MadeP (W : World) (n : Nat) (ps : List (List UInt8)) (e : Ending) (w' : World) : Prop := ∃ A c, e = .returned (.slice A n c) ∧ Parts w' A n c ps ∧ Below W.heap.size W w'

set_option maxHeartbeats 800000 in
theorem ConcatP_any (A : Option Addr) (n c : Nat) (pss : List (List (List UInt8))) (w : World) (h : Pile w A n c pss) (ht : gn pss n ≤ 1099511627776) :
    Calls Tryd.prog 38 #[.slice A n c] w (MadeP w (gn pss n) (gl pss n)) := by
  have hl := Lib.hid h.len
  have hn := h.max
  have hn' := h.cap
  go_enter Tryd.func38, Tryd.ntmps38
  go_wp2
  go_loop [3, 11] (fun x i => ∃ k : Nat, k ≤ n ∧ i = .int .i64 k ∧ x = .int .i64 (gn pss k : Nat)) (fun _ i => n - (intOf i).toNat)
  case atStart => exact ⟨0, Nat.zero_le _, rfl, rfl⟩
  case round =>
    obtain ⟨k, hk, rfl, rfl⟩ := hrel
    have hT := Nat.le_trans (gn_le pss k n hk) ht
    by_cases hlt : k < n
    · have hT' := Nat.le_trans (gn_le pss (k + 1) n hlt) ht
      have hS := gn_step pss k (by rw [hl.out]; exact hlt)
      obtain ⟨b, o, B, m, d, rfl, hc, hr⟩ := h.at_ hlt
      rw [hr.len] at hS
      rw [hS] at hT'
      have HS := Lib.hid hS
      clear hS h hr
      generalize gn pss k = x at *
      have hx : ¬ ((x : Int) + (m : Int) < 0) := by omega
      go_wp2
      go_round
      case rel => exact ⟨k + 1, by omega, by go_num, by rw [HS.out]; go_num⟩
      case measure => simp [intOf]; omega
    · obtain rfl : k = n := by omega
      go_wp2_with (go_at_call 44; refine (GrowP_any _ _ (by omega)).mono ?_; rintro e w1 ⟨v1, rfl, hown1, hbel1⟩)
      go_loopw [6, 27] (fun v i wr => ∃ (j : Nat) (vs : List Value), j ≤ k ∧ i = .int .i64 j ∧ wr.ownsRow w.heap.size 33 1 v (gn pss j) vs ∧ Sl w vs (gl pss j) ∧ Below w.heap.size w wr) (fun _ i _ => k - (intOf i).toNat)
      case atStart => exact ⟨0, [], Nat.zero_le _, rfl, hown1, Sl.nil_ w, hbel1⟩
      case round =>
        obtain ⟨j, vs, hj, rfl, hown, hsl, hbel⟩ := hrel
        by_cases hjk : j < k
        · have hT' := Nat.le_trans (gn_le pss (j + 1) k hjk) ht
          have hS := gn_step pss j (by rw [hl.out]; exact hjk)
          have hF := gl_step pss j (by rw [hl.out]; exact hjk)
          obtain ⟨b, o, B, m, d, rfl, hc0, hr⟩ := h.at_ hjk
          have hc := (hbel.cell (World.block_lt_of_cell? w _ hc0)).trans hc0
          rw [hr.len] at hS
          rw [hS] at hT'
          obtain ⟨us, hus, hsrc⟩ := hr.vals
          have hul : us.length = m := by rw [hus.1, hr.len]
          have hsl' := hsl.append hus
          rw [← hF] at hsl'
          have HSRC : Hid (∀ j u, us[j]? = some u → ∃ b o, B = some ⟨b, o, none⟩ ∧ wr.cell? ⟨b, o + j, none⟩ = some u) := Lib.hid (fun j u hu => by
            obtain ⟨b2, o2, e, hcc⟩ := hsrc j u hu
            exact ⟨b2, o2, e, (hbel.cell (World.block_lt_of_cell? w _ hcc)).trans hcc⟩)
          have HONE := Lib.hid hus.one
          have HUL := Lib.hid hul
          have HSL := Lib.hid hsl'
          have HS := Lib.hid hS
          have HB := Lib.hid hbel
          have hz := hbel.size
          clear hS hF h hbel1 hown1 hbel hc0 hus hsrc hul hsl' hsl
          generalize gn pss j = x at *
          go_wp2_with (at_builtin; refine wpList_appP _ rfl (.tmp 31) (.tmp 32) 45 33 rfl Tryd.underlying45 infoPiece w.heap.size _ x vs rfl hown _ m _ us rfl HUL.out HSRC.out HONE.out (by omega) (by omega) ?_; intro v' w2 hown' hg')
          have hb2 := below_grown HB.out hown hg'
          rw [← HS.out] at hown'
          clear hg' hown HB hr
          go_wp2
          go_roundw
          case rel => exact ⟨j + 1, _, by omega, by go_num, hown', HSL.out, hb2⟩
          case measure => simp [intOf]; omega
        · obtain rfl : j = k := by omega
          go_wp2
          go_ret
          obtain ⟨A2, c2, rfl, hp⟩ := Parts.of_own hown (hsl.below hbel)
          exact ⟨A2, c2, rfl, hp, hbel⟩

/-- One piece ahead of others. -/
theorem fl_cons (k : List UInt8) (ps : List (List UInt8)) (n : Nat) : fl (k :: ps) (n + 1) = k ++ fl ps n := by simp [fl]
theorem tl_cons (k : List UInt8) (ps : List (List UInt8)) (n : Nat) : tl (k :: ps) (n + 1) = k.length + tl ps n := by rw [tl, fl_cons, List.length_append]; rfl
theorem ConcatP_two {A B : Option Addr} {n c m d : Nat} {k : List UInt8} {ps : List (List UInt8)} {w : World} {t t' : TypeId} {g g' : Nat} (hg : g = w.heap.size) (hg' : g' = w.heap.size + 1) (h : RB w B m d k) (h' : Parts w A n c ps) (hn : n + 1 ≤ 1099511627776) :
    Calls Tryd.prog 38 #[.slice (some ⟨g', 0, none⟩) 2 2] ((w.alloc (.cells #[.slice B m d] t)).alloc (.cells #[.slice (some ⟨g, 0, none⟩) 1 1, .slice A n c] t'))
      (MadeP ((w.alloc (.cells #[.slice B m d] t)).alloc (.cells #[.slice (some ⟨g, 0, none⟩) 1 1, .slice A n c] t')) (n + 1) (k :: ps)) := by
  subst hg hg'
  have hb := below_a2 w (.cells #[.slice B m d] t) (.cells #[.slice (some ⟨w.heap.size, 0, none⟩) 1 1, .slice A n c] t')
  have hp1 := Parts.one (cell_old2 w (.cells #[.slice (some ⟨w.heap.size, 0, none⟩) 1 1, .slice A n c] t') (.slice B m d) t) (h.below hb)
  have hp2 := h'.below hb
  have hsz : (w.alloc (.cells #[.slice B m d] t)).heap.size = w.heap.size + 1 := by simp
  have hpile : Pile ((w.alloc (.cells #[.slice B m d] t)).alloc (.cells #[.slice (some ⟨w.heap.size, 0, none⟩) 1 1, .slice A n c] t')) (some ⟨w.heap.size + 1, 0, none⟩) 2 2 [[k], ps] := by
    refine ⟨rfl, Nat.le_refl _, by unfold maxLen; omega, fun _ => ⟨_, 0, rfl, fun j hj => ?_⟩⟩
    rw [Nat.zero_add, ← hsz, cell_of_row _ _ j _ t' (0, 0) (heap_alloc_new (w.alloc (.cells #[.slice B m d] t)) _)]
    match j, hj with
    | 0, _ => exact ⟨_, 1, 1, rfl, hp1⟩
    | 1, _ => exact ⟨A, n, c, rfl, hp2⟩
  have e1 : gl [[k], ps] 2 = k :: ps := by simp [gl]
  have e2 : gn [[k], ps] 2 = n + 1 := by rw [gn, e1, List.length_cons, h'.len]
  have := ConcatP_any (some ⟨w.heap.size + 1, 0, none⟩) 2 2 [[k], ps] _ hpile (by rw [e2]; exact hn)
  rw [e1, e2] at this
  exact this
end Go.Proofs.YtdgllpcljjhhdaaDoor

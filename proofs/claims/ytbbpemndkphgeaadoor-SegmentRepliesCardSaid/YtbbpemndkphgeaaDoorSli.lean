/- Slices of pieces of the call's own: what they hold, and append of pieces onto them. Condition: what comes out has at most 2^40 pieces. -/
import Derived.Test.YtbbpemndkphgeaaDoorJoin
namespace Go.Proofs.YtbbpemndkphgeaaDoor
set_option linter.unusedVariables false
set_option linter.unusedSimpArgs false
open Go.RowKit

theorem infoPiece : (Tryd.prog.info? 24).map (fun i => (i.zero, i.size, i.bytes)) = some (some (.slice none 0 0), 1, 24) := by kernel_rfl

/-- The values vs are slices that hold the pieces ps in w. -/
def Sl (w : World) (vs : List Value) (ps : List (List UInt8)) : Prop := vs.length = ps.length ∧ ∀ j, j < ps.length → ∃ B m d, vs[j]? = some (.slice B m d) ∧ RB w B m d (ps.getD j [])
theorem Sl.nil_ (w : World) : Sl w [] [] := ⟨rfl, fun j hj => absurd hj (by simp)⟩
theorem Sl.one {w : World} {vs : List Value} {ps : List (List UInt8)} (h : Sl w vs ps) : ∀ u ∈ vs, u.oneCell' = true := by
  intro u hu
  obtain ⟨j, hj, rfl⟩ := List.getElem_of_mem hu
  obtain ⟨B, m, d, e, _⟩ := h.2 j (by rw [← h.1]; exact hj)
  rw [List.getElem?_eq_getElem hj] at e
  injection e with e
  rw [e]
  rfl
theorem Sl.below {w w' : World} {vs : List Value} {ps : List (List UInt8)} (h : Sl w vs ps) (hb : Below w.heap.size w w') : Sl w' vs ps :=
  ⟨h.1, fun j hj => by
    obtain ⟨B, m, d, e, hr⟩ := h.2 j hj
    exact ⟨B, m, d, e, hr.below hb⟩⟩
theorem Sl.append {w : World} {vs us : List Value} {ps qs : List (List UInt8)} (h : Sl w vs ps) (h' : Sl w us qs) : Sl w (vs ++ us) (ps ++ qs) := by
  refine ⟨by rw [List.length_append, List.length_append, h.1, h'.1], fun j hj => ?_⟩
  rw [List.length_append] at hj
  rw [List.getD_eq_getElem?_getD]
  by_cases hlt : j < ps.length
  · obtain ⟨B, m, d, e, hr⟩ := h.2 j hlt
    rw [List.getD_eq_getElem?_getD] at hr
    rw [List.getElem?_append_left (by rw [h.1]; exact hlt), List.getElem?_append_left hlt]
    exact ⟨B, m, d, e, hr⟩
  · obtain ⟨B, m, d, e, hr⟩ := h'.2 (j - ps.length) (by omega)
    rw [List.getD_eq_getElem?_getD] at hr
    rw [List.getElem?_append_right (by rw [h.1]; omega), List.getElem?_append_right (by omega), h.1]
    exact ⟨B, m, d, e, hr⟩

/-- A slice of pieces: its cells. -/
theorem Parts.vals {w : World} {A : Option Addr} {n c : Nat} {ps : List (List UInt8)} (h : Parts w A n c ps) :
    ∃ vs, Sl w vs ps ∧ ∀ j u, vs[j]? = some u → ∃ b o, A = some ⟨b, o, none⟩ ∧ w.cell? ⟨b, o + j, none⟩ = some u := by
  have hl := h.len
  rcases Nat.eq_zero_or_pos n with h0 | h0
  · obtain rfl : ps = [] := List.eq_nil_of_length_eq_zero (by omega)
    exact ⟨[], Sl.nil_ w, by simp⟩
  · obtain ⟨b, o, rfl, hc⟩ := h.2.2.2 h0
    refine ⟨(List.range n).map fun j => (w.cell? ⟨b, o + j, none⟩).getD undef, ⟨by simp [hl], fun j hj => ?_⟩, fun j u hu => ⟨b, o, rfl, ?_⟩⟩
    · obtain ⟨B, m, d, hcell, hr⟩ := hc j (by omega)
      refine ⟨B, m, d, ?_, hr⟩
      have hj' : j < n := by omega
      simp [hj', hcell]
    · have hj : j < n := by simpa using (List.getElem?_eq_some_iff.1 hu).1
      obtain ⟨B, m, d, hcell, hr⟩ := hc j hj
      simp [hj, hcell] at hu
      rw [hcell, hu]

/-- A slice of the call's own that holds pieces. -/
theorem Parts.of_own {w : World} {base n : Nat} {e : TypeId} {v : Value} {vs : List Value} {ps : List (List UInt8)} (h : w.ownsRow base e 1 v n vs) (hs : Sl w vs ps) : ∃ A c, v = .slice A n c ∧ Parts w A n c ps := by
  have hl : ps.length = n := by have h1 := h.1; have h2 := hs.1; omega
  rcases h.2 with ⟨rfl, rfl⟩ | ⟨g, cap, cur, rfl, hb, hg, hnc, hm, hsz, ht⟩
  · exact ⟨none, 0, rfl, hl, Nat.le_refl _, Nat.zero_le _, fun h => absurd h (by omega)⟩
  · refine ⟨_, cap, rfl, hl, hnc, hm, fun hn => ⟨g, 0, rfl, fun j hj => ?_⟩⟩
    obtain ⟨B, m, d, e, hr⟩ := hs.2 j (by omega)
    refine ⟨B, m, d, ?_, hr⟩
    have := World.ownsRow.cellAt h j (by omega)
    rw [Nat.zero_add, this, e]

section
variable {P : Program} (w : World)
/-- The run of append of pieces. -/
theorem appP_run (t ty e : TypeId) (ht : P.underlying t = some (.slice e)) (hi : (P.info? e).map (fun i => (i.zero, i.size, i.bytes)) = some (some (.slice none 0 0), 1, 24))
    (base : Nat) (v : Value) (n : Nat) (vs : List Value) (hown : w.ownsRow base e 1 v n vs)
    (A : Option Addr) (m c : Nat) (us : List Value) (hl : us.length = m) (hsrc : ∀ j u, us[j]? = some u → ∃ b o, A = some ⟨b, o, none⟩ ∧ w.cell? ⟨b, o + j, none⟩ = some u) (h1 : ∀ u ∈ us, u.oneCell' = true)
    (hs : n + m ≤ 1099511627776) (hb : base ≤ w.heap.size) :
    ∃ v' w', (Builtin.append_ #[t, t] ty #[v, .slice A m c]).run P w = .ok v' w' ∧ w'.ownsRow base e 1 v' (n + m) (vs ++ us) ∧ w.grownBy w' v.ownBlock := by
  obtain ⟨i, hi, hz, h2, h3⟩ := info_parts hi
  subst hl
  rcases A with _ | ad
  · obtain rfl : us = [] := by
      rcases us with _ | ⟨u, us⟩
      · rfl
      · obtain ⟨b, o, h, _⟩ := hsrc 0 u rfl
        cases h
    exact ⟨v, w, app_none w base t ty e i ht hi v n c _ hown, by simpa using hown, World.grownBy.refl w _⟩
  · obtain ⟨v', w', hrun, g2, g3, _, _⟩ := run_append_own_at (P := P) w base t ty e i _ 1 24 ht hi hz h2 h3 rfl (by decide) v n vs hown ad us.length c us
      (by rw [Nat.mul_one]) (fun j u hu => by obtain ⟨b, o, h, hc⟩ := hsrc j u hu; injection h with h; subst h; rw [Addr.add_lit]; exact hc) h1 (by unfold maxLen; omega) (by omega) hb
    exact ⟨v', w', hrun, g2, g3⟩
theorem wpList_appP {ops : Array Oper} {rest : List Oper} {o : Oper} {a : Act} {Q : Exit → Act → World → Prop} (hgd : o.guard = none) (s x : Operand) (t e : TypeId)
    (ho : o.op = .call { callee := .builtin .append, args := #[s, x], argTypes := #[t, t] })
    (ht : P.underlying t = some (.slice e)) (hi : (P.info? e).map (fun i => (i.zero, i.size, i.bytes)) = some (some (.slice none 0 0), 1, 24))
    (base : Nat) (v : Value) (n : Nat) (vs : List Value) (hs : a.eval s = v) (hown : w.ownsRow base e 1 v n vs)
    (A : Option Addr) (m c : Nat) (us : List Value) (hx : a.eval x = .slice A m c) (hl : us.length = m) (hsrc : ∀ j u, us[j]? = some u → ∃ b o, A = some ⟨b, o, none⟩ ∧ w.cell? ⟨b, o + j, none⟩ = some u) (h1 : ∀ u ∈ us, u.oneCell' = true)
    (h40 : n + m ≤ 1099511627776) (hb : base ≤ w.heap.size)
    (h : ∀ v' w', w'.ownsRow base e 1 v' (n + m) (vs ++ us) → w.grownBy w' v.ownBlock → wpList P ops Q rest (a.put o.dst v') w') : wpList P ops Q (o :: rest) a w := by
  obtain ⟨v', w', hrun, h2, h3⟩ := appP_run (P := P) w t o.type e ht hi base v n vs hown A m c us hl hsrc h1 h40 hb
  exact Lib.wpList_append_run w hgd s x t t ho _ _ hs hx v' w' hrun (h v' w' h2 h3)
end
end Go.Proofs.YtbbpemndkphgeaaDoor

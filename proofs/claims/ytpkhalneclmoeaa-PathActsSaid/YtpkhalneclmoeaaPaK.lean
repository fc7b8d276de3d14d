/- How many pairs there are: the mathematics. No condition. -/
import Derived.Test.YtpkhalneclmoeaaPaI
namespace Go.Proofs.Ytpkhalneclmoeaa
set_option linter.unusedVariables false
set_option linter.unusedSimpArgs false
open Go.RowKit Go.Lib

theorem sub_len {l m : List (Int × Int)} (hl : l.Nodup) (h : ∀ x, x ∈ l → x ∈ m) : l.length ≤ m.length := hl.length_le_of_subset h
theorem same_len {l m : List (Int × Int)} (hl : l.Nodup) (hm : m.Nodup) (h : ∀ x, x ∈ l ↔ x ∈ m) : l.length = m.length := ((List.perm_ext_iff_of_nodup hl hm).2 h).length_eq
theorem prs_at {g : Nat → Nat → Bool} {i j : Nat} (hi : i < 4) (hj : j < 4) : ((i : Int), (j : Int)) ∈ prs g 16 ↔ g i j = true := by
  rw [prs_mem]
  constructor
  · rintro ⟨k, m, _, _, h, e⟩
    simp only [Prod.mk.injEq] at e
    obtain rfl : i = k := by omega
    obtain rfl : j = m := by omega
    exact h
  · intro h
    exact ⟨i, j, hi, hj, h, rfl⟩
theorem prs_congr {g h : Nat → Nat → Bool} (e : ∀ i j, i < 4 → j < 4 → g i j = h i j) : (prs g 16).length = (prs h 16).length :=
  same_len (prs_nodup _ _) (prs_nodup _ _) fun x => by
    rw [prs_mem, prs_mem]
    constructor
    · rintro ⟨i, j, hi, hj, hg, rfl⟩
      exact ⟨i, j, hi, hj, by rw [← e i j hi hj]; exact hg, rfl⟩
    · rintro ⟨i, j, hi, hj, hg, rfl⟩
      exact ⟨i, j, hi, hj, by rw [e i j hi hj]; exact hg, rfl⟩
theorem prs_mono {g h : Nat → Nat → Bool} (e : ∀ i j, i < 4 → j < 4 → g i j = true → h i j = true) : (prs g 16).length ≤ (prs h 16).length :=
  sub_len (prs_nodup _ _) fun x => by
    rw [prs_mem, prs_mem]
    rintro ⟨i, j, hi, hj, hg, rfl⟩
    exact ⟨i, j, hi, hj, e i j hi hj hg, rfl⟩
theorem prs_set {g : Nat → Nat → Bool} {i j : Nat} (hi : i < 4) (hj : j < 4) (h : g i j = false) : (prs (upd2 g i j true) 16).length = (prs g 16).length + 1 := by
  have hn : ((i : Int), (j : Int)) ∉ prs g 16 := fun hm => by
    rw [prs_at hi hj, h] at hm
    cases hm
  refine same_len (m := ((i : Int), (j : Int)) :: prs g 16) (prs_nodup _ _) (List.nodup_cons.2 ⟨hn, prs_nodup _ _⟩) fun x => ?_
  rw [List.mem_cons, prs_mem, prs_mem]
  constructor
  · rintro ⟨k, m, hk, hm, hg, rfl⟩
    by_cases e : k = i ∧ m = j
    · exact .inl (by rw [e.1, e.2])
    · exact .inr ⟨k, m, hk, hm, by unfold upd2 at hg; rwa [if_neg e] at hg, rfl⟩
  · rintro (rfl | ⟨k, m, hk, hm, hg, rfl⟩)
    · exact ⟨i, j, hi, hj, by unfold upd2; rw [if_pos ⟨rfl, rfl⟩], rfl⟩
    · refine ⟨k, m, hk, hm, ?_, rfl⟩
      unfold upd2
      split
      · rfl
      · exact hg

def bn (b : Bool) : Nat := if b = true then 1 else 0
theorem prs_one (g : Nat → Nat → Bool) (i j : Nat) (hj : j < 4) : (prs g (i * 4 + j + 1)).length = (prs g (i * 4 + j)).length + bn (g i j) := by
  cases h : g i j
  · rw [prs_no hj h]
    rfl
  · rw [prs_yes hj h, List.length_append]
    rfl
theorem prs_sum (g : Nat → Nat → Bool) : (prs g 16).length = bn (g 0 0) + bn (g 0 1) + bn (g 0 2) + bn (g 0 3) + (bn (g 1 0) + bn (g 1 1) + bn (g 1 2) + bn (g 1 3)) + (bn (g 2 0) + bn (g 2 1) + bn (g 2 2) + bn (g 2 3)) + (bn (g 3 0) + bn (g 3 1) + bn (g 3 2) + bn (g 3 3)) := by
  have h0 : (prs g 0).length = 0 := rfl
  have h1 : (prs g 1).length = (prs g 0).length + bn (g 0 0) := prs_one g 0 0 (by decide)
  have h2 : (prs g 2).length = (prs g 1).length + bn (g 0 1) := prs_one g 0 1 (by decide)
  have h3 : (prs g 3).length = (prs g 2).length + bn (g 0 2) := prs_one g 0 2 (by decide)
  have h4 : (prs g 4).length = (prs g 3).length + bn (g 0 3) := prs_one g 0 3 (by decide)
  have h5 : (prs g 5).length = (prs g 4).length + bn (g 1 0) := prs_one g 1 0 (by decide)
  have h6 : (prs g 6).length = (prs g 5).length + bn (g 1 1) := prs_one g 1 1 (by decide)
  have h7 : (prs g 7).length = (prs g 6).length + bn (g 1 2) := prs_one g 1 2 (by decide)
  have h8 : (prs g 8).length = (prs g 7).length + bn (g 1 3) := prs_one g 1 3 (by decide)
  have h9 : (prs g 9).length = (prs g 8).length + bn (g 2 0) := prs_one g 2 0 (by decide)
  have h10 : (prs g 10).length = (prs g 9).length + bn (g 2 1) := prs_one g 2 1 (by decide)
  have h11 : (prs g 11).length = (prs g 10).length + bn (g 2 2) := prs_one g 2 2 (by decide)
  have h12 : (prs g 12).length = (prs g 11).length + bn (g 2 3) := prs_one g 2 3 (by decide)
  have h13 : (prs g 13).length = (prs g 12).length + bn (g 3 0) := prs_one g 3 0 (by decide)
  have h14 : (prs g 14).length = (prs g 13).length + bn (g 3 1) := prs_one g 3 1 (by decide)
  have h15 : (prs g 15).length = (prs g 14).length + bn (g 3 2) := prs_one g 3 2 (by decide)
  have h16 : (prs g 16).length = (prs g 15).length + bn (g 3 3) := prs_one g 3 3 (by decide)
  omega
theorem adr_one (f : Nat → Bool) (k : Nat) : (adr f (k + 1)).length = (adr f k).length + bn (f k) := by
  cases h : f k
  · rw [adr_no h]
    rfl
  · rw [adr_yes h, List.length_append]
    rfl
theorem adr_sum (f : Nat → Bool) : (adr f 4).length = bn (f 0) + bn (f 1) + bn (f 2) + bn (f 3) := by
  have h0 : (adr f 0).length = 0 := rfl
  have h1 : (adr f 1).length = (adr f 0).length + bn (f 0) := adr_one f 0
  have h2 : (adr f 2).length = (adr f 1).length + bn (f 1) := adr_one f 1
  have h3 : (adr f 3).length = (adr f 2).length + bn (f 2) := adr_one f 2
  have h4 : (adr f 4).length = (adr f 3).length + bn (f 3) := adr_one f 3
  omega
theorem prod8 : ∀ a0 a1 a2 a3 b0 b1 b2 b3 : Bool, bn (a0 && b0) + bn (a0 && b1) + bn (a0 && b2) + bn (a0 && b3) + (bn (a1 && b0) + bn (a1 && b1) + bn (a1 && b2) + bn (a1 && b3)) + (bn (a2 && b0) + bn (a2 && b1) + bn (a2 && b2) + bn (a2 && b3)) + (bn (a3 && b0) + bn (a3 && b1) + bn (a3 && b2) + bn (a3 && b3)) = (bn a0 + bn a1 + bn a2 + bn a3) * (bn b0 + bn b1 + bn b2 + bn b3) := by decide +kernel
theorem prs_prod (f h : Nat → Bool) : (prs (fun i j => f i && h j) 16).length = (adr f 4).length * (adr h 4).length := by
  rw [prs_sum, adr_sum, adr_sum]
  exact prod8 _ _ _ _ _ _ _ _

/-- Only what was told has a flow; there are no more than may be. -/
structure Pm.Fit (p : Pm) : Prop where
  sub : ∀ i j, i < 4 → j < 4 → p.fl i j = true → p.ow i = true ∧ p.ot j = true
  le : p.cnt ≤ p.mo
theorem Pm.nxB_yes {p : Pm} (h : p.nxB = true) : p.full = false ∧ ∃ i j : Nat, i < 4 ∧ j < 4 ∧ p.nxP = ((i : Int), (j : Int)) ∧ (p.ow i && p.ot j) = true ∧ p.fl i j = false := by
  unfold Pm.nxB at h
  rw [Bool.and_eq_true] at h
  obtain ⟨h1, h2⟩ := h
  have h1 : p.full = false := by simpa using h1
  have h2 := of_decide_eq_true h2
  refine ⟨h1, ?_⟩
  have hm : p.frs.getD 0 zp ∈ p.frs := by
    rw [List.getD_eq_getElem?_getD, List.getElem?_eq_getElem h2]
    exact List.getElem_mem _
  obtain ⟨i, j, hi, hj, hg, e⟩ := prs_mem.1 hm
  unfold Pm.fre at hg
  rw [Bool.and_eq_true] at hg
  exact ⟨i, j, hi, hj, by unfold Pm.nxP; rw [h1]; exact e, hg.1, by simpa using hg.2⟩
theorem Pm.nxB_no {p : Pm} (h : p.nxB = false) : p.full = true ∨ ∀ i j : Nat, i < 4 → j < 4 → (p.ow i && p.ot j) = true → p.fl i j = true := by
  cases hf : p.full
  · refine .inr fun i j hi hj hk => ?_
    unfold Pm.nxB at h
    rw [hf] at h
    have h0 : ¬ 0 < p.frs.length := by simpa using h
    cases hg : p.fl i j
    · exfalso
      have : ((i : Int), (j : Int)) ∈ p.frs := (prs_at hi hj).2 (by unfold Pm.fre; rw [hk, hg]; rfl)
      exact h0 (List.length_pos_of_mem this)
    · rfl
  · exact .inl rfl
theorem Pm.Fit.next {p : Pm} (h : p.Fit) (hn : p.nxB = true) : ∃ i j : Nat, i < 4 ∧ j < 4 ∧ p.nxP = ((i : Int), (j : Int)) ∧ p.joinE (i : Int) (j : Int) = 0 ∧ (p.joinS (i : Int) (j : Int)).Fit ∧ (p.joinS (i : Int) (j : Int)).cnt = p.cnt + 1 ∧ (p.joinS (i : Int) (j : Int)).mo = p.mo ∧ (p.joinS (i : Int) (j : Int)).cnt ≤ p.mo := by
  obtain ⟨hf, i, j, hi, hj, e, hk, hg⟩ := Pm.nxB_yes hn
  have h0 := join0 hi hj hk hg hf
  have hS := joinS_yes (p := p) h0
  have hfl : ¬ p.mo ≤ p.cnt := of_decide_eq_false hf
  have hc : (p.setF i j true).cnt = p.cnt + 1 := prs_set hi hj hg
  refine ⟨i, j, hi, hj, e, h0, ?_, ?_, ?_, ?_⟩
  · rw [hS]
    refine ⟨fun a b ha hb hab => ?_, ?_⟩
    · rw [Bool.and_eq_true] at hk
      by_cases e : a = i ∧ b = j
      · rw [e.1, e.2]
        exact hk
      · refine h.sub a b ha hb ?_
        have : upd2 p.fl i j true a b = true := hab
        unfold upd2 at this
        rwa [if_neg e] at this
    · rw [hc]
      show p.cnt + 1 ≤ p.mo
      omega
  · rw [hS, hc]
  · rw [hS]
    rfl
  · rw [hS, hc]
    omega
theorem Pm.Fit.end_ {p : Pm} (h : p.Fit) (hn : p.nxB = false) : p.cnt = min p.mo ((adr p.ow 4).length * (adr p.ot 4).length) := by
  have hle := h.le
  have h1 : p.cnt ≤ (adr p.ow 4).length * (adr p.ot 4).length := by
    rw [← prs_prod]
    exact prs_mono fun i j hi hj hg => by rw [Bool.and_eq_true]; exact h.sub i j hi hj hg
  rcases Pm.nxB_no hn with hf | hf
  · have := of_decide_eq_true hf
    omega
  · have h2 : (adr p.ow 4).length * (adr p.ot 4).length ≤ p.cnt := by
      rw [← prs_prod]
      exact prs_mono hf
    omega
theorem Pm.Fit.tell {p : Pm} (h : p.Fit) {i : Nat} (hi : i < 4) : (p.tellS (i : Int)).Fit ∧ (p.tellS (i : Int)).mo = p.mo := by
  rw [tellS_yes hi]
  refine ⟨⟨fun a b ha hb hab => ?_, h.le⟩, rfl⟩
  have := h.sub a b ha hb hab
  refine ⟨?_, this.2⟩
  show upd p.ow i true a = true
  unfold upd
  split
  · rfl
  · exact this.1
theorem Pm.Fit.told {p : Pm} (h : p.Fit) {i : Nat} (hi : i < 4) : (p.toldS (i : Int)).Fit ∧ (p.toldS (i : Int)).mo = p.mo := by
  rw [toldS_yes hi]
  refine ⟨⟨fun a b ha hb hab => ?_, h.le⟩, rfl⟩
  have := h.sub a b ha hb hab
  refine ⟨this.1, ?_⟩
  show upd p.ot i true b = true
  unfold upd
  split
  · rfl
  · exact this.2
theorem cnt_new {i j : Nat} (hi : i < 4) (hj : j < 4) (m : Nat) : (Pm.new i j m).cnt = 1 := by
  have h : (prs (upd2 (fun _ _ => false) i j true) 16).length = (prs (fun _ _ => false) 16).length + 1 := prs_set hi hj rfl
  have h0 : (prs (fun _ _ => false) 16).length = 0 := by rw [prs_sum]; rfl
  rw [h0] at h
  exact h
theorem fit_new (x : Int) : (Pm.new 0 0 (most x)).Fit := by
  refine ⟨fun a b ha hb hab => ?_, ?_⟩
  · have h : upd2 (fun _ _ => false) 0 0 true a b = true := hab
    unfold upd2 at h
    by_cases e : a = 0 ∧ b = 0
    · rw [e.1, e.2]
      exact ⟨rfl, rfl⟩
    · rw [if_neg e] at h
      cases h
  · rw [cnt_new (by decide) (by decide)]
    exact (most_bd x).1
end Go.Proofs.Ytpkhalneclmoeaa

/- A row of entries is put in the order of its tokens: over the library's sort. Condition: the row is the call's own. -/
import Derived.Test.YtgkonmjchdpohaaDoorTkE
namespace Go.Proofs.YtgkonmjchdpohaaDoor
set_option linter.unusedVariables false
set_option linter.unusedSimpArgs false
open Go.RowKit Go.Shelf Go.Lib Go.Sort

/-- A slice holds the entries l, in new memory. -/
def Er (w : World) (base : Nat) (v : Value) (l : List En) : Prop :=
  ∃ A c, v = .slice A l.length c ∧ l.length ≤ c ∧ c ≤ maxLen ∧ (0 < l.length → ∃ g, A = some ⟨g, 0, none⟩ ∧ base ≤ g ∧ ∀ j, j < l.length → ∀ i, i < 4 → w.cell? ⟨g, j * 4 + i, none⟩ = (l.getD j default).cells[i]?)
theorem Er.ch {w w' : World} {base : Nat} {v : Value} {l : List En} (h : Er w base v l) {m : Nat → Prop} (c : Ch w w' m) (hm : ∀ g, base ≤ g → ¬ m g) : Er w' base v l := by
  obtain ⟨A, n, e, h1, h2, h3⟩ := h
  refine ⟨A, n, e, h1, h2, fun hl => ?_⟩
  obtain ⟨g, hA, hb, hc⟩ := h3 hl
  refine ⟨g, hA, hb, fun j hj i hi => ?_⟩
  have hlen : i < (l.getD j default).cells.length := hi
  have := hc j hj i hi
  rw [List.getElem?_eq_getElem hlen] at this ⊢
  exact c.cell this (hm g hb)
theorem Er.below {w w' : World} {base : Nat} {v : Value} {l : List En} (h : Er w base v l) (b : RowKit.Below w.heap.size w w') : Er w' base v l := h.ch (Ch.of_below (fun _ => False) b) fun _ _ e => e

theorem clos_any (x y : En) (W : World) : Calls Tryd.prog 29 #[.agg x.cells.toArray, .agg y.cells.toArray] W fun e w' => e = .returned (.int .i64 (Lib.compareInt (x.tok : Int) (y.tok : Int))) ∧ ∃ q os', w' = grow (W.drewN q) os' := by
  have HC := Lib.hid (fun w => cmp_any x.tok y.tok w)
  generalize Lib.compareInt (x.tok : Int) (y.tok : Int) = r at *
  obtain ⟨a, b, c, d⟩ := x
  obtain ⟨a', b', c', d'⟩ := y
  unfold En.cells
  dsimp only at *
  go_enter Tryd.func29, Tryd.ntmps29
  go_wp2_with fail
  refine (HC.out _).mono ?_
  rintro e w' ⟨rfl, rfl⟩
  go_wp2_with fail
  go_ret
  exact ⟨rfl, 0, _, by rw [alloc_eq_grow, alloc_eq_grow, grow_grow]; rfl⟩

theorem lt_tok (x y : En) : ltOf (fun x y : En => Lib.compareInt (x.tok : Int) (y.tok : Int)) x y = decide (x.tok < y.tok) := by
  unfold ltOf Lib.compareInt
  by_cases h1 : (x.tok : Int) < y.tok
  · have h2 : x.tok < y.tok := by omega
    simp [h1, h2]
  · have h2 : ¬ x.tok < y.tok := by omega
    by_cases h3 : (y.tok : Int) < x.tok <;> simp [h1, h2, h3]
theorem swo_tok : SWO (ltOf (fun x y : En => Lib.compareInt (x.tok : Int) (y.tok : Int))) where
  irrefl x := by rw [lt_tok]; simp
  trans x y z h1 h2 := by rw [lt_tok] at *; simp at *; omega
  ntrans x y z h1 h2 := by rw [lt_tok] at *; simp at *; omega

theorem flat_ecs (l : List En) (t : Nat) (h : t < l.length * 4) : (flatK En.cells 4 l.toArray)[t]! = ((ecs l)[t]?).getD default := by
  have h1 : t / 4 < l.length := by omega
  rw [get_flatK _ _ _ t (by simpa using h), ecs_at l t h]
  have e1 : (l.toArray)[t / 4]! = l.getD (t / 4) default := by
    simp [h1]
  rw [e1]
  have hl : t % 4 < (l.getD (t / 4) default).cells.length := by
    show t % 4 < 4
    omega
  rw [getElem!_pos (l.getD (t / 4) default).cells (t % 4) hl, List.getElem?_eq_getElem hl]
  rfl

theorem holds_own {w : World} {base : Nat} {e : TypeId} {g n c : Nat} {l : List En} (h : w.ownsRow base e 4 (.slice (some ⟨g, 0, none⟩) n c) n (ecs l)) : HoldsK En.cells 4 w g 0 l.toArray ∧ g < w.heap.size ∧ base ≤ g ∧ n ≤ c ∧ c ≤ maxLen ∧ l.length = n := by
  have hlen : l.length = n := by
    have := h.1
    rw [ecs_length] at this
    omega
  have h0 := h
  rcases h.2 with ⟨e0, _⟩ | ⟨g', cap, cur, hv, hb, hg, h1, h2, _⟩
  · cases e0
  · injection hv with hv _ hc
    injection hv with hv
    injection hv with hv _ _
    subst hv
    subst hc
    refine ⟨fun t ht => ?_, (Array.getElem?_eq_some_iff.1 hg).1, hb, h1, h2, hlen⟩
    have ht' : t < l.length * 4 := by simpa using ht
    refine ⟨?_, by simp [World.frozen?, hg]⟩
    rw [Nat.zero_add, World.ownsRow.cellAt h0 t (by omega), flat_ecs l t ht']
    have hlt : t < (ecs l).length := by rw [ecs_length]; exact ht'
    rw [List.getElem?_eq_getElem hlt]
    rfl

/-- The sort's world: nothing has turned but the row. -/
theorem swK_ch {w w' : World} {g q : Nat} {d : Array En} {os : Array Obj} (h : w' = sortWorldK En.cells 4 w g 0 q d os) : Ch w w' (fun k => k = g) := by
  subst h
  unfold sortWorldK putRowK
  refine ⟨rfl, rfl, rfl, by simp [putRow, mapBlock, Sort.ahead], fun k hk hne => ?_⟩
  rw [heap_grow_old _ _ (by simpa [putRow, mapBlock, Sort.ahead] using hk)]
  have : g ≠ k := fun e => hne e.symm
  simp [putRow, mapBlock, Sort.ahead, Array.getElem?_modify, this]

set_option maxHeartbeats 1600000 in
theorem sort_any {w : World} {base : Nat} {v : Value} {l : List En} (h : w.ownsRow base 49 4 v l.length (ecs l)) (hn : l.length < 4611686018427387904) :
    Calls Tryd.prog 28 #[v, .func (.func 29) #[] #[]] w fun e w' => e = .returned (.tuple #[]) ∧ ∃ l' : List En, l'.Perm l ∧ l'.Pairwise (fun a b => a.tok ≤ b.tok) ∧ Er w' base v l' ∧ Ch w w' (fun k => base ≤ k) := by
  rcases h.2 with ⟨rfl, hnil⟩ | ⟨g, cap, cur, rfl, hb, hg, _, _, _⟩
  · have hl : l = [] := List.eq_nil_of_length_eq_zero hnil
    subst hl
    have hs := AnyF.slices_SortFunc_none (P := Tryd.prog) (ρ := Tryd.sortL_ren) Tryd.sortL Option.none 0 (.func (.func 29) #[] #[]) w
    change Calls Tryd.prog 28 _ _ _ at hs
    refine hs.mono fun e w' ⟨he, hw⟩ => ⟨he, [], .refl _, .nil, ⟨Option.none, 0, rfl, Nat.le_refl _, Nat.zero_le _, fun h => absurd h (by simp)⟩, by rw [hw]; exact Ch.refl _ _⟩
  · obtain ⟨hH, hgl, hbg, hc1, hc2, _⟩ := holds_own h
    have eg : ∀ args w, (callFunc 29 args).run Tryd.prog w = .ok (.enter 29 args) w := enters_of Tryd.func29 (by kernel_rfl) rfl
    have hs := AnyQ.slices_SortFunc (P := Tryd.prog) (ρ := Tryd.sortL_ren) Tryd.sortL 4 Tryd.isAgg49 Tryd.sizeOf49 En.cells (fun _ => rfl) (fun x v hv => by simp [En.cells] at hv; rcases hv with rfl | rfl | rfl | rfl <;> rfl) (fun x y => Lib.compareInt (x.tok : Int) (y.tok : Int)) swo_tok 29 #[] g 0 cap l.toArray w eg
      (fun _ _ _ _ x y => clos_any x y _) hH hgl (by simpa using hn)
    change Calls Tryd.prog 28 _ _ _ at hs
    rw [show l.toArray.size = l.length from by simp] at hs
    refine hs.mono fun e w' ⟨he, d', q, os, ⟨p1, _, p3⟩, s1, hw⟩ => ⟨he, d'.toList, ?_, ?_, ?_, (swK_ch hw).mono fun k _ e => by rw [e]; exact hbg⟩
    · have e1 : d'.extract 0 l.length = d' := by rw [show l.length = d'.size from by rw [p1]; simp]; simp
      have e2 : l.toArray.extract 0 l.length = l.toArray := by simp
      rw [e1, e2] at p3
      simpa using p3
    · rw [List.pairwise_iff_getElem]
      intro i j hi hj hij
      have hd : d'.size = l.length := by rw [p1]; simp
      have h1 := s1 i j (Nat.zero_le _) hij (by rw [← hd]; simpa using hj)
      rw [lt_tok, decide_eq_false_iff_not, getElem!_pos d' i (by simpa using hi), getElem!_pos d' j (by simpa using hj)] at h1
      simp only [Array.getElem_toList]
      omega
    · have hd : d'.size = l.length := by rw [p1]; simp
      have hK := holdsK_sortWorldK_c En.cells 4 w g 0 l.toArray d' q os hH hgl (by rw [hd]; simp)
      rw [← hw] at hK
      refine ⟨_, cap, by rw [show d'.toList.length = l.length from by simpa using hd], by rw [show d'.toList.length = l.length from by simpa using hd]; exact hc1, hc2, fun _ => ⟨g, rfl, hbg, fun j hj i hi => ?_⟩⟩
      have hj' : j < d'.size := by simpa using hj
      have h1 := (hK (j * 4 + i) (by simp; omega)).1
      rw [Nat.zero_add, get_flatK _ _ _ _ (by omega)] at h1
      have e1 : (j * 4 + i) / 4 = j := by omega
      have e2 : (j * 4 + i) % 4 = i := by omega
      rw [e1, e2] at h1
      rw [h1]
      have hx : d'[j]! = d'.toList.getD j default := by simp [hj']
      rw [hx]
      have hlen : i < (d'.toList.getD j default).cells.length := hi
      rw [getElem!_pos (d'.toList.getD j default).cells i hlen, List.getElem?_eq_getElem hlen]
      rfl
end Go.Proofs.YtgkonmjchdpohaaDoor

/- A timer is put to a list: the contract of add. Condition: the rings stand, the timer is in no list, the list isn't too long. -/
import Derived.Test.YtkmhgcdjmfafhaaWhB
namespace Go.Proofs.Ytkmhgcdjmfafhaa
set_option linter.unusedVariables false
set_option linter.unusedSimpArgs false
open Go.RowKit

theorem row_set {w : World} {e : TypeId} {v : Value} {n : Nat} {xs : List Value} (h : w.ownsRow 0 e 1 v n xs) {p : Addr} (hp : ∀ g, v.ownBlock = some g → g ≠ p.block) (u : Value) : (w.setCell p u).ownsRow 0 e 1 v n xs := by
  refine ⟨h.1, ?_⟩
  rcases h.2 with hn | ⟨g, cap, cur, hv, hb, hg, rest⟩
  · exact .inl hn
  · exact .inr ⟨g, cap, cur, hv, hb, (Below.heap_setCell w p u g (hp g (by rw [hv]; rfl))).trans hg, rest⟩
theorem cell_set_ne {w : World} {b o c q : Nat} {v u : Value} (h : w.cell? ⟨b, o, none⟩ = some v) (hn : b ≠ c) : (w.setCell ⟨c, q, none⟩ u).cell? ⟨b, o, none⟩ = some v :=
  (World.cell?_of_block (w := w) (Below.heap_setCell w ⟨c, q, none⟩ u b hn)).trans h
theorem fz_set {w : World} {p q : Addr} {u : Value} (h : w.frozen? p = false) : (w.setCell q u).frozen? p = false := by rw [World.frozen?_setCell]; exact h

set_option maxHeartbeats 1600000 in
theorem add_any {lab : Nat → Nat} {nb : Nat → Nat} {V : Nat → Nat → Value} {L : Nat → Nat → List Nat} {hd : Nat → Int} {tk : Nat → Nat} {w : World} (R : Rings w lab nb V L hd tk) {r i b : Nat} (hr : r < 3) (hi : i < 16)
    (hb : lab b = 3) (hT : Tim w hd tk b) (hno : ∀ r' i', r' < 3 → i' < 16 → b ∉ L r' i') (hlen : (L r i).length ≤ 1099511627776) :
    Calls Try.prog 26 #[.pointer (some ⟨nb r, 1 + i, none⟩), ptr b] w fun e w' => e = .returned (.tuple #[]) ∧
      ∃ v, Rings w' (labR lab v r i) nb (up2 V r i v) (up2 L r i (L r i ++ [b])) hd tk ∧ Ch w w' (fun k => k = b ∨ lab k = 10 + r ∨ lab k = 100 + 16 * r + i) ∧ (∀ k, lab k = 3 → Tim w hd tk k → Tim w' hd tk k) ∧
        ∀ g, v.ownBlock = some g → lab g = 100 + 16 * r + i ∨ w.heap.size ≤ g := by
  obtain ⟨c1, f1⟩ := R.list_cell hr hi
  obtain ⟨row, rlab⟩ := R.row r i hr hi
  have nst := R.nest r hr
  obtain ⟨A, c, hv, hnc, hcm, _⟩ := slice_of_own row
  have hT0 := hT
  obtain ⟨q, T⟩ := hT
  have t2 := T.c2
  have tz := T.fz 2
  have hlt := T.lt
  have hne : nb r ≠ b := fun e => by have := nst.1; rw [e, hb] at this; omega
  generalize hn : (L r i).length = n at *
  -- the row as it will be seen by append
  have hown : ((w.setCell ⟨b, 2, none⟩ (.int .i64 (n : Int))).alloc (.cells #[ptr b] 64)).ownsRow 0 64 1 (.slice A n c) n ((L r i).map ptr) := by
    rw [← hv]
    exact (row_set row (fun g hg e => by have h1 := rlab g hg; simp only at e; rw [e, hb] at h1; omega) _).alloc _
  have hcell := cell_new (w.setCell ⟨b, 2, none⟩ (.int .i64 (n : Int))) (ptr b) 64
  rw [show (w.setCell ⟨b, 2, none⟩ (.int .i64 (n : Int))).heap.size = w.heap.size from by simp [World.setCell]] at hcell
  have c2 : (w.setCell ⟨b, 2, none⟩ (.int .i64 (n : Int))).cell? ⟨nb r, 1 + i, none⟩ = some (.slice A n c) := by rw [← hv]; exact cell_set_ne c1 hne
  have f2 : (w.setCell ⟨b, 2, none⟩ (.int .i64 (n : Int))).frozen? ⟨nb r, 1 + i, none⟩ = false := fz_set f1
  have K3 := Lib.hid (show ∀ w', ((w.setCell ⟨b, 2, none⟩ (.int .i64 (n : Int))).alloc (.cells #[ptr b] 64)).grownBy w' (Value.slice A n c).ownBlock → w'.cell? ⟨nb r, 1 + i, none⟩ = some (.slice A n c) ∧ w'.frozen? ⟨nb r, 1 + i, none⟩ = false from fun w' g => by
    have hx : some (nb r) ≠ (Value.slice A n c).ownBlock := fun e => by
      have h1 := rlab (nb r) (by rw [hv]; exact e.symm)
      have := nst.1
      omega
    have hlt2 : nb r < (w.setCell ⟨b, 2, none⟩ (.int .i64 (n : Int))).heap.size := by simpa [World.setCell] using nst.2.lt
    refine ⟨g.cell ((World.cell?_alloc_lt _ _ _ hlt2).trans c2) hx, ?_⟩
    rw [World.frozen?_of_block (g.block (nb r) (by simp [World.setCell]; have := nst.2.lt; omega) hx), World.frozen?_of_block (Below.heap_alloc _ _ (nb r) hlt2)]
    exact f2)
  have HB := Lib.hid (show ∀ g, (Value.slice A n c).ownBlock = some g → lab g = 100 + 16 * r + i from fun g hg => rlab g (by rw [hv]; exact hg))
  rw [hv] at c1
  have T1 := Lib.hid (T.put n)
  have HV := Lib.hid hv
  have HN := Lib.hid hn
  have HC := Lib.hid (((Ch.refl w (fun k => k = b ∨ lab k = 10 + r ∨ lab k = 100 + 16 * r + i)).setCell (p := ⟨b, 2, none⟩) (fun _ => .inl rfl) (.int .i64 (n : Int))).alloc (.cells #[ptr b] 64))
  clear hv hn
  generalize hg0 : nb r = g0 at *
  have HG := Lib.hid hg0
  clear hg0
  unfold ptr at *
  go_enter Try.func26, Try.ntmps26
  go_wp2_with (first
    | (at_builtin; refine wpList_app1 (P := Try.prog) rfl _ _ 73 64 rfl _ _ Try.underlying73 infoTim rfl (by decide) (.slice A n c) _ _ rfl hown _ _ rfl hcell rfl hlen ?_; intro v' w' o1 o2 o3; obtain ⟨c3, f3⟩ := K3.out w' o2; have O1 := Lib.hid o1; obtain ⟨A', c', rfl, _⟩ := slice_of_own o1; clear o1))
  go_end0
  have hv := HV.out
  have hn := HN.out
  have hg0 := HG.out
  subst hg0
  have HC2 : Ch w (w'.setCell ⟨nb r, 1 + i, none⟩ (.slice A' (n + 1) c')) (fun k => k = b ∨ lab k = 10 + r ∨ lab k = 100 + 16 * r + i) :=
    ((HC.out).grown o2 fun k hk _ => .inr (.inr (HB.out k hk))).setCell (fun _ => .inr (.inl nst.1)) _
  have o1 := O1.out
  have tw : TimAt w' hd tk b n := (T1.out).keep ((o2.block b (by simp [World.setCell]; omega) (fun e => by have := HB.out b e.symm; omega)).trans (Below.heap_alloc _ _ b (by simpa [World.setCell] using hlt)))
  have tw2 : TimAt (w'.setCell ⟨nb r, 1 + i, none⟩ (.slice A' (n + 1) c')) hd tk b n := tw.keep (Below.heap_setCell _ _ _ _ (fun e => hne e.symm))
  have hown2 : (w'.setCell ⟨nb r, 1 + i, none⟩ (.slice A' (n + 1) c')).ownsRow 0 64 1 (.slice A' (n + 1) c') (n + 1) ((L r i ++ [b]).map ptr) := by
    refine row_set ?_ (fun g hg e => ?_) _
    · rw [List.map_append]; exact o1
    · simp only at e
      rcases o3 with h | h
      · have h1 := HB.out g (h ▸ hg)
        have := nst.1
        rw [e] at h1
        omega
      · rw [hg] at h
        injection h with h
        have := nst.2.lt
        simp [World.setCell] at h
        omega
  have hbb : ∀ g, (Value.slice A' (n + 1) c').ownBlock = some g → lab g = 100 + 16 * r + i ∨ w.heap.size ≤ g := fun g hg => by
    rcases o3 with h | h
    · exact .inl (HB.out g (h ▸ hg))
    · rw [hg] at h
      injection h with h
      simp [World.setCell] at h
      exact .inr (by omega)
  refine ⟨rfl, .slice A' (n + 1) c', R.turn hr hi HC2 (fun k hk => ?_) ?_ ?_ hbb (fun j x hj => ?_), HC2, fun k hk0 => ?_, hbb⟩
  · rcases hk with rfl | h | h
    · exact .inr (.inr ⟨hb, fun r' i' h1 h2 _ => hno r' i' h1 h2⟩)
    · exact .inl h
    · exact .inr (.inl h)
  · have hrow : w'.rowIs (nb r) 79 18 (nestF nb V r) := nst.2.of_block ((o2.block (nb r) (by simp [World.setCell]; have := nst.2.lt; omega) (fun e => by have h1 := HB.out _ e.symm; have := nst.1; omega)).trans ((Below.heap_alloc _ _ _ (by simpa [World.setCell] using nst.2.lt)).trans (Below.heap_setCell _ _ _ _ hne)))
    exact hrow.set (1 + i) _
  · rw [List.length_append, hn]
    exact hown2
  · by_cases h : j < (L r i).length
    · rw [List.getElem?_append_left h] at hj
      obtain ⟨h1, h2⟩ := R.tim r i hr hi j x hj
      exact ⟨h1, h2.keep (HC2.block x h2.lt fun hk => by
        rcases hk with rfl | h | h
        · exact hno r i hr hi (List.mem_of_getElem? hj)
        · omega
        · omega)⟩
    · rw [List.getElem?_append_right (by omega)] at hj
      have hj0 : j - (L r i).length = 0 := by
        have := (List.getElem?_eq_some_iff.1 hj).1
        simp at this
        omega
      rw [hj0] at hj
      simp at hj
      subst hj
      obtain rfl : j = n := by omega
      exact ⟨hb, tw2⟩
  · intro hT
    by_cases e : k = b
    · subst e
      exact ⟨n, tw2⟩
    · exact hT.keep (HC2.block k hT.lt fun h => by
        rcases h with h | h | h
        · exact e h
        · omega
        · omega)

end Go.Proofs.Ytkmhgcdjmfafhaa

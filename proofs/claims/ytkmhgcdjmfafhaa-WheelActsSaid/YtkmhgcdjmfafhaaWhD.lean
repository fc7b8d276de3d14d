/- A timer is taken out of its list: the contract of drop. Condition: the rings stand, the timer is at its place of the list. -/
import Derived.Test.YtkmhgcdjmfafhaaWhC
namespace Go.Proofs.Ytkmhgcdjmfafhaa
set_option linter.unusedVariables false
set_option linter.unusedSimpArgs false
open Go.RowKit

/-- The list without its j-th: the last one comes to its place. -/
def sd (xs : List Nat) (j : Nat) : List Nat := (xs.set j (xs.getD (xs.length - 1) 0)).take (xs.length - 1)
theorem mem_sd {xs : List Nat} (hnd : xs.Nodup) {j b : Nat} (hj : xs[j]? = some b) (x : Nat) : x ∈ sd xs j ↔ x ∈ xs ∧ x ≠ b := by
  obtain ⟨hlt, hb⟩ := List.getElem?_eq_some_iff.1 hj
  have inj : ∀ a c (ha : a < xs.length) (hc : c < xs.length), xs[a] = xs[c] → a = c := fun a c ha hc e => (List.getElem_inj hnd).1 e
  have hl : (sd xs j).length = xs.length - 1 := by unfold sd; simp
  have get : ∀ k (hk : k < xs.length - 1), (sd xs j)[k]'(by omega) = if j = k then xs[xs.length - 1]'(by omega) else xs[k]'(by omega) := by
    intro k hk
    unfold sd
    rw [List.getElem_take, List.getElem_set]
    split
    · simp [List.getElem?_eq_getElem (show xs.length - 1 < xs.length by omega)]
    · rfl
  constructor
  · intro hx
    obtain ⟨k, hk, rfl⟩ := List.getElem_of_mem hx
    rw [hl] at hk
    rw [get k hk]
    split
    · refine ⟨List.getElem_mem _, fun e => ?_⟩
      have := inj _ _ _ _ (e.trans hb.symm)
      omega
    · rename_i hne
      refine ⟨List.getElem_mem _, fun e => hne ?_⟩
      exact (inj _ _ _ _ (e.trans hb.symm)).symm
  · rintro ⟨hx, hne⟩
    obtain ⟨k, hk, rfl⟩ := List.getElem_of_mem hx
    have hkj : k ≠ j := fun e => hne (by subst e; exact hb)
    by_cases h : k = xs.length - 1
    · have h1 := get j (by omega)
      rw [if_pos rfl] at h1
      subst h
      rw [← h1]
      exact List.getElem_mem _
    · have h1 := get k (by omega)
      rw [if_neg (fun e => hkj e.symm)] at h1
      rw [← h1]
      exact List.getElem_mem _

theorem row_short {w : World} {e : TypeId} {g m c : Nat} {xs : List Value} (h : w.ownsRow 0 e 1 (.slice (some ⟨g, 0, none⟩) (m + 1) c) (m + 1) xs) : w.ownsRow 0 e 1 (.slice (some ⟨g, 0, none⟩) m c) m (xs.take m) := by
  obtain ⟨h1, h2⟩ := h
  refine ⟨by rw [List.length_take]; omega, ?_⟩
  rcases h2 with ⟨h2, _⟩ | ⟨g', cap, cur, hv, hb, hg, hn, hm, hs, ht⟩
  · cases h2
  · injection hv with h3 h4 h5
    injection h3 with h3
    injection h3 with h3
    subst h3
    subst h5
    refine .inr ⟨g, c, cur, rfl, hb, hg, by omega, hm, hs, ?_⟩
    rw [← ht, List.take_take]
    congr 1
    omega

set_option maxHeartbeats 1600000 in
theorem drop_any {lab : Nat → Nat} {nb : Nat → Nat} {V : Nat → Nat → Value} {L : Nat → Nat → List Nat} {hd : Nat → Int} {tk : Nat → Nat} {w : World} (R : Rings w lab nb V L hd tk) {r i b j : Nat} (hr : r < 3) (hi : i < 16)
    (hj : (L r i)[j]? = some b) (hno : ∀ r' i', r' < 3 → i' < 16 → ¬(r' = r ∧ i' = i) → ∀ x ∈ L r i, x ∉ L r' i') :
    Calls Try.prog 27 #[.pointer (some ⟨nb r, 1 + i, none⟩), ptr b] w fun e w' => e = .returned (.tuple #[]) ∧
      ∃ v, Rings w' lab nb (up2 V r i v) (up2 L r i (sd (L r i) j)) hd tk ∧ Ch w w' (fun k => lab k = 3 ∨ lab k = 10 + r ∨ lab k = 100 + 16 * r + i) ∧ (∀ k, lab k = 3 → Tim w hd tk k → Tim w' hd tk k) := by
  obtain ⟨c1, f1⟩ := R.list_cell hr hi
  obtain ⟨row, rlab⟩ := R.row r i hr hi
  have nst := R.nest r hr
  obtain ⟨hb, T⟩ := R.tim r i hr hi j b hj
  obtain ⟨hlt, hbj⟩ := List.getElem?_eq_some_iff.1 hj
  obtain ⟨m, hm⟩ : ∃ m, (L r i).length = m + 1 := ⟨(L r i).length - 1, by omega⟩
  have hmv : (L r i)[m]? = some ((L r i)[m]'(by omega)) := List.getElem?_eq_getElem (by omega)
  generalize hmve : (L r i)[m]'(by omega) = mv at hmv
  obtain ⟨hbm, TM⟩ := R.tim r i hr hi m mv hmv
  have hL : sd (L r i) j = ((L r i).set j mv).take m := by
    unfold sd
    rw [hm, Nat.add_sub_cancel, List.getD_eq_getElem?_getD, hmv]
    rfl
  obtain ⟨A, c, hv, hnc, hcm, hA⟩ := slice_of_own row
  rcases hA with ⟨_, h0, _⟩ | ⟨g, rfl, hg⟩
  · omega
  have hlg := rlab g hg
  rw [hv, hm] at row c1
  rw [hm] at hnc
  have gm : w.cell? ⟨g, m, none⟩ = some (ptr mv) := by
    rw [World.ownsRow.cellAt row m (by omega)]
    simp [hmv]
  have gj : w.cell? ⟨g, j, none⟩ = some (ptr b) := by
    rw [World.ownsRow.cellAt row j (by omega)]
    simp [hj]
  have fg : ∀ q, w.frozen? ⟨g, q, none⟩ = false := fun q => World.ownsRow.frozenAt row q
  have n1 : nb r ≠ g := fun e => by have := nst.1; rw [e] at this; omega
  have n2 : nb r ≠ mv := fun e => by have := nst.1; rw [e] at this; omega
  have n3 : g ≠ mv := fun e => by rw [e] at hlg; omega
  have t2 := T.c2
  have tf := T.fz 2
  have m2 := TM.c2
  have mf := TM.fz 2
  have fgj := fg j
  have fgm := fg m
  have hw1 : wrap64 (((m + 1 : Nat) : Int) - 1) = (m : Nat) := by unfold wrap64; omega
  have hjm : j < m + 1 := by omega
  generalize hg0 : nb r = g0 at *
  have HG := Lib.hid hg0
  clear hg0
  unfold ptr at *
  go_enter Try.func27, Try.ntmps27
  go_wp2_with fail
  go_region
  generalize hW2 : (((w.setCell ⟨g, j, none⟩ (Value.pointer (some ⟨mv, 0, none⟩))).setCell ⟨mv, 2, none⟩ (Value.int IntKind.i64 (j : Int))).drew) = W2
  have c3 : W2.cell? ⟨g0, 1 + i, none⟩ = some (.slice (some ⟨g, 0, none⟩) (m + 1) c) := by rw [← hW2]; exact cell_set_ne (cell_set_ne c1 n1) n2
  have f3 : W2.frozen? ⟨g0, 1 + i, none⟩ = false := by rw [← hW2]; exact fz_set (fz_set f1)
  have f3m : W2.frozen? ⟨g, m, none⟩ = false := by rw [← hW2]; exact fz_set (fz_set fgm)
  have row3 : W2.ownsRow 0 64 1 (.slice (some ⟨g, 0, none⟩) (m + 1) c) (m + 1) ((List.map (fun b => Value.pointer (some ⟨b, 0, none⟩)) (L r i)).set j (.pointer (some ⟨mv, 0, none⟩))) := by
    rw [← hW2]
    exact row_set (World.ownsRow.stored row j _).1 (fun k hk e => by have h9 : some g = some k := hk; injection h9 with h9; simp only at e; omega) _
  obtain ⟨u, hu⟩ : ∃ u, W2.cell? ⟨g, m, none⟩ = some u := by
    rw [World.ownsRow.cellAt row3 m (by omega)]
    exact ⟨_, List.getElem?_eq_getElem (by simp; omega)⟩
  have c4 : (W2.setCell ⟨g, m, none⟩ (.pointer none)).cell? ⟨g0, 1 + i, none⟩ = some (.slice (some ⟨g, 0, none⟩) (m + 1) c) := cell_set_ne c3 n1
  have f4 : (W2.setCell ⟨g, m, none⟩ (.pointer none)).frozen? ⟨g0, 1 + i, none⟩ = false := fz_set f3
  have HW2 := Lib.hid hW2
  clear hW2
  go_wp2_with fail
  go_end0
  have hg0 := HG.out
  subst hg0
  have hW2 := HW2.out
  have hmay : Ch w ((W2.setCell ⟨g, m, none⟩ (.pointer none)).setCell ⟨nb r, 1 + i, none⟩ (.slice (some ⟨g, 0, none⟩) m c)) (fun k => k = g ∨ k = mv ∨ k = nb r) := by
    rw [← hW2]
    exact (((((Ch.refl w _).setCell (p := ⟨g, j, none⟩) (fun _ => .inl rfl) _).setCell (p := ⟨mv, 2, none⟩) (fun _ => .inr (.inl rfl)) _).drew).setCell (p := ⟨g, m, none⟩) (fun _ => .inl rfl) _).setCell (p := ⟨nb r, 1 + i, none⟩) (fun _ => .inr (.inr rfl)) _
  have hch : Ch w ((W2.setCell ⟨g, m, none⟩ (.pointer none)).setCell ⟨nb r, 1 + i, none⟩ (.slice (some ⟨g, 0, none⟩) m c)) (fun k => lab k = 3 ∨ lab k = 10 + r ∨ lab k = 100 + 16 * r + i) :=
    hmay.mono fun k _ h => by
      rcases h with rfl | rfl | rfl
      · exact .inr (.inr hlg)
      · exact .inl hbm
      · exact .inr (.inl nst.1)
  have tmv : TimAt ((W2.setCell ⟨g, m, none⟩ (.pointer none)).setCell ⟨nb r, 1 + i, none⟩ (.slice (some ⟨g, 0, none⟩) m c)) hd tk mv j := by
    have h1 : TimAt (w.setCell ⟨g, j, none⟩ (.pointer (some ⟨mv, 0, none⟩))) hd tk mv m := TM.keep (Below.heap_setCell _ _ _ _ (fun e => n3 e.symm))
    have h2 : TimAt W2 hd tk mv j := by rw [← hW2]; exact h1.put j
    exact h2.keep ((Below.heap_setCell _ _ _ _ (fun e => n2 e.symm)).trans (Below.heap_setCell _ _ _ _ (fun e => n3 e.symm)))
  have hown : ((W2.setCell ⟨g, m, none⟩ (.pointer none)).setCell ⟨nb r, 1 + i, none⟩ (.slice (some ⟨g, 0, none⟩) m c)).ownsRow 0 64 1 (.slice (some ⟨g, 0, none⟩) m c) (sd (L r i) j).length ((sd (L r i) j).map ptr) := by
    have hlen : (sd (L r i) j).length = m := by rw [hL]; simp; omega
    rw [hlen]
    refine row_set ?_ (fun k hk e => ?_) _
    · have h1 := (World.ownsRow.stored row3 m (.pointer none)).1
      have h2 := row_short h1
      have e1 : ((((List.map (fun b => Value.pointer (some ⟨b, 0, none⟩)) (L r i)).set j (.pointer (some ⟨mv, 0, none⟩))).set m (.pointer none)).take m) = (sd (L r i) j).map ptr := by
        rw [List.take_set_of_le (Nat.le_refl m), hL, List.map_take, List.map_set]
        rfl
      rw [e1] at h2
      exact h2
    · have h9 : some g = some k := hk
      injection h9 with h9
      simp only at e
      exact n1 (by omega)
  have hlab : labR lab (.slice (some ⟨g, 0, none⟩) m c) r i = lab := by
    funext k
    unfold labR
    split
    · rename_i e
      have h9 : some g = some k := e
      injection h9 with h9
      rw [← h9, hlg]
    · rfl
  refine ⟨rfl, .slice (some ⟨g, 0, none⟩) m c, ?_, hch, fun k hk0 hT => ?_⟩
  · have := R.turn hr hi (v := .slice (some ⟨g, 0, none⟩) m c) (l := sd (L r i) j) hmay (fun k hk => ?_) ?_ hown (fun k hk => ?_) (fun k x hk => ?_)
    · rw [hlab] at this
      exact this
    · rcases hk with rfl | rfl | rfl
      · exact .inr (.inl hlg)
      · exact .inr (.inr ⟨hbm, fun r' i' h1 h2 h3 => hno r' i' h1 h2 h3 _ (List.mem_of_getElem? hmv)⟩)
      · exact .inl nst.1
    · have hrow : (W2.setCell ⟨g, m, none⟩ (.pointer none)).rowIs (nb r) 79 18 (nestF nb V r) := by
        refine nst.2.of_block ((Below.heap_setCell _ _ _ _ n1).trans ?_)
        rw [← hW2]
        exact (Below.heap_setCell _ _ _ _ n2).trans (Below.heap_setCell _ _ _ _ n1)
      exact hrow.set (1 + i) _
    · have h9 : some g = some k := hk
      injection h9 with h9
      exact .inl (by rw [← h9]; exact hlg)
    · rw [hL] at hk
      rw [List.getElem?_take] at hk
      split at hk
      · rename_i hkm
        rw [List.getElem?_set] at hk
        split at hk
        · rename_i e
          injection hk with hk
          subst hk
          subst e
          exact ⟨hbm, tmv⟩
        · rename_i e
          obtain ⟨h1, h2⟩ := R.tim r i hr hi k x hk
          refine ⟨h1, h2.keep (hmay.block x h2.lt fun h => ?_)⟩
          rcases h with rfl | rfl | rfl
          · omega
          · have h3 := h2.c2.symm.trans TM.c2
            injection h3 with h3
            injection h3 with _ h3
            omega
          · have := nst.1
            omega
      · cases hk
  · by_cases e : k = mv
    · subst e
      exact ⟨j, tmv⟩
    · refine hT.keep (hmay.block k hT.lt fun h => ?_)
      rcases h with rfl | h | rfl
      · omega
      · exact e h
      · have := nst.1
        omega

end Go.Proofs.Ytkmhgcdjmfafhaa

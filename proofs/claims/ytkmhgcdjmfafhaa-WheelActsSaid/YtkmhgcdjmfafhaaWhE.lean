/- A list is emptied: the contract of empty. Condition: the rings stand. -/
import Derived.Test.YtkmhgcdjmfafhaaWhD
namespace Go.Proofs.Ytkmhgcdjmfafhaa
set_option linter.unusedVariables false
set_option linter.unusedSimpArgs false
open Go.RowKit

set_option maxHeartbeats 1600000 in
theorem empty_any {lab : Nat → Nat} {nb : Nat → Nat} {V : Nat → Nat → Value} {L : Nat → Nat → List Nat} {hd : Nat → Int} {tk : Nat → Nat} {w : World} (R : Rings w lab nb V L hd tk) {r t : Nat} (hr : r < 3) (ht : t ≤ 4611686018427387904) :
    Calls Try.prog 32 #[ptr (nb r), .int .i64 (t : Int)] w fun e w' => e = .returned (V r (t / wide r % 16)) ∧
      Rings w' lab nb (up2 V r (t / wide r % 16) (.slice none 0 0)) (up2 L r (t / wide r % 16) []) hd tk ∧ Ch w w' (fun k => k = nb r) := by
  have HO := Lib.hid (fun m => of_any (nb r) (wide r) t (w.drewN m) (R.wide_cell hr) (wide_pos r) ht)
  have hi : t / wide r % 16 < 16 := Nat.mod_lt _ (by decide)
  generalize t / wide r % 16 = i at *
  obtain ⟨c1, f1⟩ := R.list_cell hr hi
  obtain ⟨row, rlab⟩ := R.row r i hr hi
  have nst := R.nest r hr
  obtain ⟨A, c, hv, hnc, hcm, _⟩ := slice_of_own row
  rw [hv] at c1
  have HV := Lib.hid hv
  clear hv
  generalize hn : (L r i).length = n at *
  have HN := Lib.hid hn
  clear hn
  generalize hg0 : nb r = g0 at *
  have HG := Lib.hid hg0
  clear hg0
  unfold ptr at *
  go_enter Try.func32, Try.ntmps32
  go_wp2_with (first | (go_at_call 31; refine (HO.out 0).mono ?_; rintro e w1 ⟨rfl, m, rfl⟩))
  go_ret
  have hg0 := HG.out
  subst hg0
  have hc : ∀ q, Ch w (((w.drewN 0).drewN q).setCell ⟨nb r, 1 + i, none⟩ (.slice none 0 0)) (fun k => k = nb r) := fun q =>
    (((Ch.refl w (fun k => k = nb r)).drewN 0).drewN q).setCell (p := ⟨nb r, 1 + i, none⟩) (fun _ => rfl) _
  have hlab : labR lab (.slice none 0 0) r i = lab := by
    funext k
    unfold labR
    rw [if_neg (by intro e; cases e)]
  refine ⟨by rw [HV.out]; rfl, ?_, hc _⟩
  have := R.turn hr hi (v := .slice none 0 0) (l := []) (hc m) (fun k hk => .inl (by rw [hk]; exact nst.1)) ?_ (World.ownsRow_nil _ _ _ _) (fun g hg => by cases hg) (fun j x hj => by simp at hj)
  · rw [hlab] at this
    exact this
  · exact World.rowIs.set (w := (w.drewN 0).drewN m) nst.2 (1 + i) _

end Go.Proofs.Ytkmhgcdjmfafhaa

/- A set in memory; the place of the first run of which something holds; how many numbers runs have; what a set may have of a run; one run in the place of those that it meets. Conditions: the set stands. -/
import Derived.Test.YtancbdnpmabpfaaSpD
import Derived.Test.YtancbdnpmabpfaaSpM
namespace Go.Proofs.Ytancbdnpmabpfaa
set_option linter.unusedVariables false
set_option linter.unusedSimpArgs false
open Go.RowKit Go.Lib

/-- At block sb a set stands, of the runs l, whose row is v. -/
structure St (w : World) (sb : Nat) (v : Value) (l : List Rn) : Prop where
  blk : w.heap[sb]? = some (.cells #[v] 58 (0, 0))
  row : Row w v l
  far : v.ownBlock ≠ some sb
  tid : Tid 0 l
section
variable {w w' : World} {sb : Nat} {v : Value} {l : List Rn}
theorem St.lt (h : St w sb v l) : sb < w.heap.size := (Array.getElem?_eq_some_iff.1 h.blk).1
theorem St.c0 (h : St w sb v l) : w.cell? ⟨sb, 0, none⟩ = some v := by rw [cell_of_row w sb 0 _ _ (0, 0) h.blk]; rfl
theorem St.fz (h : St w sb v l) (j : Nat) : w.frozen? ⟨sb, j, none⟩ = false := by simp [World.frozen?, show w.heap[sb]? = _ from h.blk]
theorem St.ch (h : St w sb v l) {m : Nat → Prop} (k : Ch w w' m) (hx : ¬ m sb) (hv : ∀ g, v.ownBlock = some g → ¬ m g) : St w' sb v l :=
  ⟨(k.block sb h.lt hx).trans h.blk, h.row.ch k hv, h.far, h.tid⟩
theorem St.below (h : St w sb v l) (b : Below w.heap.size w w') : St w' sb v l := h.ch (Ch.of_below (fun _ => False) b) (fun e => e) fun _ _ e => e
theorem St.len (h : St w sb v l) : l.length ≤ 4294967297 := tid_len h.tid
theorem St.set (h : St w sb v l) {v' : Value} {l' : List Rn} (hr : Row w v' l') (hf : v'.ownBlock ≠ some sb) (ht : Tid 0 l') : St (w.setCell ⟨sb, 0, none⟩ v') sb v' l' := by
  refine ⟨?_, hr.ch ((Ch.refl w (fun k => k = sb)).setCell (fun _ => rfl) v') (fun g hg e => hf (by rw [hg, e])), hf, ht⟩
  have := h.blk
  simp [World.setCell, Array.getElem?_modify, this]
theorem St.new (w : World) : St (w.alloc (.cells #[.slice none 0 0] 58)) w.heap.size (.slice none 0 0) [] :=
  ⟨heap_alloc_new w _, .inl ⟨rfl, rfl⟩, (fun e => by cases e), trivial⟩
end
theorem ok_of {l : List Rn} (h : Tid 0 l) {r : Rn} (hr : r ∈ l) : Ok r := by
  have := tid_ge h r hr
  exact ⟨this.1, by omega, this.2.2⟩
theorem getD_mem {l : List Rn} {i : Nat} (hi : i < l.length) : l.getD i (0, 0) ∈ l := by
  rw [List.getD_eq_getElem?_getD, List.getElem?_eq_getElem hi]
  exact List.getElem_mem _

set_option maxRecDepth 8000 in
set_option maxHeartbeats 4000000 in
/-- The place of the first run of which p holds. -/
theorem search_any {w : World} {sb : Nat} {v : Value} {l : List Rn} (H : St w sb v l) (g : Nat) (cb : Array Value) (eg : ∀ args w, (callFunc g args).run Try.prog w = .ok (.enter g args) w) (p : Rn → Bool)
    (hp : ∀ W, Below w.heap.size w W → ∀ r, Ok r → Calls Try.prog g (#[rg r] ++ cb) W fun e w' => e = .returned (.bool (p r)) ∧ Below W.heap.size W w')
    (hmono : ∀ a b, a ≤ b → b < l.length → p (l.getD a (0, 0)) = true → p (l.getD b (0, 0)) = true) :
    Calls Try.prog 42 #[ptr sb, .func (.func g) #[] cb] w fun e w' => ∃ k : Nat, e = .returned (.int .i64 (k : Int)) ∧ k ≤ l.length ∧ (∀ t, t < k → p (l.getD t (0, 0)) = false) ∧ (∀ t, k ≤ t → t < l.length → p (l.getD t (0, 0)) = true) ∧ Below w.heap.size w w' := by
  obtain ⟨A, c, rfl, hc1, hc2⟩ := H.row.slice
  have c0 := H.c0
  obtain ⟨W2, hW2⟩ : ∃ W2, W2 = (w.alloc (.cells #[ptr sb] 46)).alloc (.cells #[.func (.func g) #[] cb] 68) := ⟨_, rfl⟩
  have hB : Below w.heap.size w W2 := by rw [hW2]; exact (below_a w _).alloc (by simp) _
  have hsz : (w.alloc (.cells #[ptr sb] 46)).heap.size = w.heap.size + 1 := by simp
  have b1 : W2.cell? ⟨w.heap.size, 0, none⟩ = some (ptr sb) := by
    rw [hW2]
    refine (World.cell?_alloc_lt _ _ _ (by simp)).trans ?_
    rw [cell_of_row _ _ _ _ _ _ (heap_alloc_new w _)]
    rfl
  have b2 : W2.cell? ⟨w.heap.size + 1, 0, none⟩ = some (.func (.func g) #[] cb) := by
    rw [hW2, ← hsz, cell_of_row _ _ _ _ _ _ (heap_alloc_new _ _)]
    rfl
  have b3 : W2.cell? ⟨sb, 0, none⟩ = some (.slice A l.length c) := keepc hB c0
  have eg2 : ∀ args w, (callFunc 59 args).run Try.prog w = .ok (.enter 59 args) w := enters_of Try.func59 (by kernel_rfl) rfl
  have HC : ∀ W, Below W2.heap.size W2 W → ∀ i : Nat, i < l.length → Calls Try.prog 59 (#[.int .i64 (i : Int)] ++ #[ptr (w.heap.size + 1), ptr w.heap.size]) W fun e w' => e = .returned (.bool (p (l.getD i (0, 0)))) ∧ Below W.heap.size W w' := by
    intro W hb i hi
    have hbw : Below w.heap.size w W := hB.trans (hb.mono hB.size)
    have d1 : W.drew.cell? ⟨w.heap.size, 0, none⟩ = some (ptr sb) := keepc hb b1
    have d2 : W.drew.cell? ⟨w.heap.size + 1, 0, none⟩ = some (.func (.func g) #[] cb) := keepc hb b2
    have d3 : W.drew.cell? ⟨sb, 0, none⟩ = some (.slice A l.length c) := keepc hb b3
    obtain ⟨gb, o, rfl, x0, x1, _⟩ := (H.row.below hbw).cells hi
    have d4 : W.drew.cell? ⟨gb, o + i * 2, none⟩ = some (.int .i64 (l.getD i (0, 0)).1) := x0
    have d5 : W.drew.cell? ⟨gb, o + i * 2 + 1, none⟩ = some (.int .i64 (l.getD i (0, 0)).2) := x1
    have HP := Lib.hid (hp W.drew hbw.drew (l.getD i (0, 0)) (ok_of H.tid (getD_mem hi)))
    generalize l.getD i (0, 0) = r at *
    obtain ⟨ra, rb⟩ := r
    unfold rg ptr at *
    dsimp only at *
    generalize l.length = n at *
    clear x0 x1 hb hB b1 b2 b3 c0 hp hmono H hbw eg2 hW2 hsz
    go_enter Try.func59, Try.ntmps59
    go_wp2_with fail
    go_region_held3 (fun V => V.cell? ⟨w.heap.size, 0, none⟩ = some (.pointer (some ⟨sb, 0, none⟩)) ∧ V.cell? ⟨w.heap.size + 1, 0, none⟩ = some (.func (.func g) #[] cb) ∧ V.cell? ⟨sb, 0, none⟩ = some (.slice (some ⟨gb, o, none⟩) n c) ∧ V.cell? ⟨gb, o + i * 2, none⟩ = some (.int .i64 ra) ∧ V.cell? ⟨gb, o + i * 2 + 1, none⟩ = some (.int .i64 rb))
      (first | exact ⟨d1, d2, d3, d4, d5⟩ | exact ⟨keepc b5 d1, keepc b5 d2, keepc b5 d3, keepc b5 d4, keepc b5 d5⟩)
      (first | (go_at_fn g; refine (HP.out).mono ?_; rintro e w5 ⟨rfl, b5⟩))
    go_wp2_with fail
    go_ret
    exact ⟨rfl, (Below.refl _ _).drew.trans (b5.mono (Nat.le_refl _))⟩
  have HS := Lib.hid (sortSearch_any 59 #[ptr (w.heap.size + 1), ptr w.heap.size] l.length (fun i => p (l.getD i (0, 0))) W2 eg2 (by have := H.len; omega) HC hmono)
  have HB := Lib.hid hB
  unfold ptr at *
  clear HC hp hmono H c0 hB
  generalize l.length = n at *
  subst hW2
  go_enter Try.func42, Try.ntmps42
  go_wp2_with fail
  refine (HS.out).mono ?_
  rintro e w3 ⟨k, rfl, q1, q2, q3, q4⟩
  have HQ := Lib.hid (And.intro q1 (And.intro q2 q3))
  clear q1 q2 q3
  go_wp2_with fail
  go_ret
  exact ⟨k, rfl, HQ.out.1, HQ.out.2.1, HQ.out.2.2, HB.out.trans (q4.mono HB.out.size)⟩
end Go.Proofs.Ytancbdnpmabpfaa

/- The earliest tick of a list's timers: the contract of earliest, over the library's MinFunc. Condition: the row holds a timer at least, at most 2^40. -/
import Derived.Test.YtkmhgcdjmfafhaaWhH
namespace Go.Proofs.Ytkmhgcdjmfafhaa
set_option linter.unusedVariables false
set_option linter.unusedSimpArgs false
open Go.RowKit

section
open Go.Shelf Go.Lib Go.Sort
theorem pick_least {α : Type} [Inhabited α] (f : α → Int) (d : Array α) : ∀ i, (∃ j, j ≤ i ∧ Lib.pickBy (fun x m => decide (Lib.compareInt (f x) (f m) < 0)) d i = d[j]!) ∧ ∀ j, j ≤ i → f (Lib.pickBy (fun x m => decide (Lib.compareInt (f x) (f m) < 0)) d i) ≤ f d[j]!
  | 0 => ⟨⟨0, Nat.le_refl _, rfl⟩, fun j hj => by have e : j = 0 := Nat.le_zero.1 hj; subst e; exact Int.le_refl _⟩
  | i + 1 => by
    obtain ⟨⟨j0, h0, e0⟩, h1⟩ := pick_least f d i
    have hb : ∀ x m : α, decide (Lib.compareInt (f x) (f m) < 0) = decide (f x < f m) := fun x m => lt_cmp f x m
    unfold Lib.pickBy
    rw [hb]
    by_cases h : f d[i + 1]! < f (Lib.pickBy (fun x m => decide (Lib.compareInt (f x) (f m) < 0)) d i)
    · rw [decide_eq_true h, if_pos rfl]
      refine ⟨⟨i + 1, Nat.le_refl _, rfl⟩, fun j hj => ?_⟩
      by_cases e : j = i + 1
      · subst e
        exact Int.le_refl _
      · have := h1 j (by omega)
        omega
    · rw [decide_eq_false h, if_neg (by simp)]
      refine ⟨⟨j0, by omega, e0⟩, fun j hj => ?_⟩
      by_cases e : j = i + 1
      · subst e
        omega
      · exact h1 j (by omega)

/-- A world of the sort's in which the row is what it was: nothing that was there has turned. -/
theorem sw_below {α : Type} [Inhabited α] {enc : α → Value} {w w' : World} {g off : Nat} {d : Array α} (hH : Holds enc w g off d) (h : SW enc w g off d w') : Below w.heap.size w w' := by
  obtain ⟨n, os, rfl⟩ := h
  unfold sortWorld
  rw [putRow_self enc (Sort.ahead w n) g off d (holds_ahead enc w n g off d hH)]
  exact ⟨rfl, rfl, rfl, by simp [Sort.ahead], fun k hk => heap_grow_old (Sort.ahead w n) os hk⟩

set_option maxHeartbeats 4000000 in
theorem lear_any {hd : Nat → Int} {tk : Nat → Nat} (w : World) (A : Option Addr) (c : Nat) (xs : List Nat) (hlen : xs.length ≤ 1099511627776) (hpos : 0 < xs.length) (hown : w.ownsRow 0 64 1 (.slice A xs.length c) xs.length (xs.map ptr))
    (hT : ∀ b ∈ xs, Tim w hd tk b ∧ (Value.slice A xs.length c).ownBlock ≠ some b) :
    Calls Try.prog 38 #[.slice A xs.length c] w fun e w' => (∃ b ∈ xs, e = .returned (.int .i64 (tk b : Int)) ∧ ∀ b' ∈ xs, tk b ≤ tk b') ∧ Below w.heap.size w w' := by
  have key : Calls Try.prog 42 #[.slice A xs.length c, .func (.func 43) #[] #[]] w fun e w' =>
      (∃ b ∈ xs, e = .returned (ptr b) ∧ w'.cell? ⟨b, 1, none⟩ = some (.int .i64 (tk b : Int)) ∧ ∀ b' ∈ xs, tk b ≤ tk b') ∧ Below w.heap.size w w' := by
    obtain ⟨x0, hx0⟩ : ∃ x, x ∈ xs := ⟨_, List.getElem_mem hpos⟩
    letI : Inhabited {b // b ∈ xs} := ⟨⟨x0, hx0⟩⟩
    have hmap : xs.attach.map (fun b => ptr b.1) = xs.map ptr := by
      have h1 : xs.attach.map (fun b => ptr b.1) = (xs.attach.map (fun b : {b // b ∈ xs} => b.1)).map ptr := by rw [List.map_map]; rfl
      rw [h1, List.attach_map_subtype_val]
    have hown1 : w.ownsRow 0 64 1 (.slice A xs.length c) xs.length (xs.attach.map (fun b => ptr b.1)) := by rw [hmap]; exact hown
    obtain ⟨g, cap, hv, _, hg, _, _, hal, hH⟩ := Lib.holds_of_ownsRow hown1 (by intro e; injection e with _ e; omega)
    injection hv with hA _ hc
    subst hA
    obtain rfl := hc
    have hsz : xs.attach.toArray.size = xs.length := by simp
    have hcmp : CmpLays1 Try.prog 43 #[] (fun b : {b // b ∈ xs} => ptr b.1) (fun x y => Lib.compareInt (tk x.1 : Int) (tk y.1 : Int)) g 0 xs.attach.toArray.size w := by
      refine CmpReads.lays fun m os dk hs x y => ?_
      have hcell : ∀ b : {b // b ∈ xs}, (sortWorld (fun b : {b // b ∈ xs} => ptr b.1) w g 0 m dk os).cell? ⟨b.1, 1, none⟩ = some (.int .i64 (tk b.1 : Int)) := fun b => by
        obtain ⟨⟨q, t⟩, hne⟩ := hT b.1 b.2
        exact (sw_ch ⟨m, os, rfl⟩).cell t.c1 (fun e => hne (by simp only at e; rw [e]; rfl))
      exact hclos_t x.1 y.1 (tk x.1) (tk y.1) _ (hcell x) (hcell y)
    have eg : ∀ args w, (callFunc 43 args).run Try.prog w = .ok (.enter 43 args) w := enters_of Try.func43 (by kernel_rfl) rfl
    have hp := Any.slices_MinFunc_p Try.minL (fun b : {b // b ∈ xs} => ptr b.1) (fun _ => rfl) (fun x y => Lib.compareInt (tk x.1 : Int) (tk y.1 : Int)) 43 #[] g 0 c xs.attach.toArray w eg hcmp hH hg (by omega) (by omega)
    change Calls Try.prog 42 _ _ _ at hp
    obtain ⟨⟨j, hj, ej⟩, hmin⟩ := pick_least (fun b : {b // b ∈ xs} => (tk b.1 : Int)) xs.attach.toArray (xs.attach.toArray.size - 1)
    rw [hsz] at hp
    rw [hsz] at hj ej hmin
    refine hp.mono fun e w' ⟨he, hw⟩ => ?_
    generalize Lib.pickBy (fun x m : {b // b ∈ xs} => decide (Lib.compareInt (tk x.1 : Int) (tk m.1 : Int) < 0)) xs.attach.toArray (xs.length - 1) = pk at *
    have hb := sw_below hH hw
    obtain ⟨⟨q, t⟩, _⟩ := hT pk.1 pk.2
    refine ⟨⟨pk.1, pk.2, he, (hb.cell (p := ⟨pk.1, 1, none⟩) t.lt).trans t.c1, fun b' hb' => ?_⟩, hb⟩
    obtain ⟨i, hi, e⟩ := List.getElem_of_mem (List.mem_attach xs ⟨b', hb'⟩)
    have h1 := hmin i (by simp at hi; omega)
    rw [getElem!_pos _ i (by simpa using hi)] at h1
    simp only [List.getElem_toArray] at h1
    rw [e] at h1
    have h2 : (tk pk.1 : Int) ≤ (tk b' : Int) := h1
    omega
  have HK := Lib.hid key
  clear key hown hT hpos
  generalize hl : xs.length = l at *
  go_enter Try.func38, Try.ntmps38
  go_wp2_with (first
    | (go_at_call 42; refine (HK.out).mono ?_; unfold ptr; rintro e w' ⟨⟨b, hbx, rfl, hc, hmin⟩, hb⟩))
  go_ret
  exact ⟨⟨b, hbx, rfl, hmin⟩, hb⟩
end

end Go.Proofs.Ytkmhgcdjmfafhaa

/- The law's two wheels side by side: the program's and the document's. No condition. -/
import Derived.Test.YtkmhgcdjmfafhaaWiF
import Derived.Test.YtkmhgcdjmfafhaaTri
namespace Go.Proofs.Ytkmhgcdjmfafhaa
set_option linter.unusedVariables false
set_option linter.unusedSimpArgs false
open Go.RowKit

/-- The program's wheel at wb stands at tick n with the list l, the document's at xb at tick m with the list k; all of both is new since W. -/
structure St (W w : World) (lab : Nat → Nat) (wb xb : Nat) (v : Value) (n : Nat) (l : List (Int × Int)) (m : Nat) (k : List (Int × Int)) : Prop where
  on : On w lab wb n l
  rf : Rf w xb v m k
  lx : lab xb = 0
  lv : ∀ g, v.ownBlock = some g → lab g = 0
  bel : RowKit.Below W.heap.size W w
  old : ∀ g, g < W.heap.size → lab g = 0
  new : W.heap.size ≤ xb

section
variable {W w w' : World} {lab lab' : Nat → Nat} {wb xb n n' m m' : Nat} {v v' : Value} {l l' k k' : List (Int × Int)}
theorem St.whl (h : St W w lab wb xb v n l m k) (o : On w' lab' wb n' l') (f : Fr lab w lab' w') : St W w' lab' wb xb v n' l' m k where
  on := o
  rf := h.rf.ch f.1 (fun e => e h.lx) fun g hg e => e (h.lv g hg)
  lx := (f.2 xb h.rf.lt).trans h.lx
  lv g hg := (f.2 g (own_ge h.rf.row hg).2).trans (h.lv g hg)
  bel := h.bel.trans ⟨f.1.os, f.1.tape, f.1.output, f.1.size, fun g hg => f.1.block g (Nat.lt_of_lt_of_le hg h.bel.size) fun e => e (h.old g hg)⟩
  old g hg := (f.2 g (Nat.lt_of_lt_of_le hg h.bel.size)).trans (h.old g hg)
  new := h.new
theorem St.doc (h : St W w lab wb xb v n l m k) (r : Rf w' xb v' m' k') (c : Ch w w' (fun g => g = xb)) (fr : ∀ g, v'.ownBlock = some g → v.ownBlock = some g ∨ w.heap.size ≤ g) : St W w' lab wb xb v' n l m' k' where
  on := h.on.ch c fun g e => by rw [e]; exact h.lx
  rf := r
  lx := h.lx
  lv g hg := by
    rcases fr g hg with e | e
    · exact h.lv g e
    · by_cases h0 : lab g = 0
      · exact h0
      · have := h.on.lt h0
        omega
  bel := h.bel.trans ⟨c.os, c.tape, c.output, c.size, fun g hg => c.block g (Nat.lt_of_lt_of_le hg h.bel.size) fun e => by have := h.new; omega⟩
  old := h.old
  new := h.new
theorem St.ch (h : St W w lab wb xb v n l m k) (c : Ch w w' (fun _ => False)) : St W w' lab wb xb v n l m k :=
  h.doc (h.rf.ch c (fun e => e) fun _ _ e => e) (c.mono fun _ _ e => e.elim) fun _ e => .inl e
theorem St.below (h : St W w lab wb xb v n l m k) (b : RowKit.Below w.heap.size w w') : St W w' lab wb xb v n l m k := h.ch (Ch.of_below _ b)
theorem St.alloc (h : St W w lab wb xb v n l m k) (o : Obj) : St W (w.alloc o) lab wb xb v n l m k := h.ch ((Ch.refl _ _).alloc o)
theorem St.drew (h : St W w lab wb xb v n l m k) : St W w.drew lab wb xb v n l m k := h.ch (Ch.refl _ _).drew
theorem St.lab0 (h : St W w lab wb xb v n l m k) {g : Nat} (hg : w.heap.size ≤ g) : lab g = 0 := by
  by_cases h0 : lab g = 0
  · exact h0
  · have := h.on.lt h0
    omega
end

theorem near_le (t : Int) : -1125899906842624 ≤ near t ∧ near t ≤ 1125899906842624 := by unfold near; omega
theorem near_isI (t : Int) : isI (near t) := by
  have := near_le t
  unfold isI
  omega

/-- The tick to which a wheel goes on. -/
theorem adv_np (n : Nat) (t : Int) : ∃ np : Nat, n ≤ np ∧ np ≤ n + 10000 ∧ (∀ m : Nat, n ≤ m → ((m : Int) < min t ((n : Int) + 10000) ↔ m < np)) ∧ (t ≤ n → np = n) ∧ ((n : Int) < t → t ≤ (n : Int) + 10000 → (np : Int) = t) ∧ ((n : Int) + 10000 < t → (np : Int) = (n : Int) + 10000) := by
  by_cases h1 : t ≤ n
  · exact ⟨n, by omega, by omega, fun m hm => by omega, fun _ => rfl, fun h => by omega, fun h => by omega⟩
  · by_cases h2 : t ≤ (n : Int) + 10000
    · exact ⟨t.toNat, by omega, by omega, fun m hm => by omega, fun h => absurd h h1, fun _ _ => by omega, fun h => by omega⟩
    · exact ⟨n + 10000, by omega, by omega, fun m hm => by omega, fun h => absurd h h1, fun _ h => absurd h h2, fun _ => by omega⟩

/-- Next and First tell the same. -/
theorem next_first {l : List (Int × Int)} {t : Int} {ok : Bool} {k : Int} (h1 : ok = true → ∃ p ∈ l, t = p.2 ∧ ∀ q ∈ l, p.2 ≤ q.2) (h2 : ok = false → l = []) (h3 : l = [] ∧ k = -1 ∨ ∃ j : Nat, k = j ∧ j < l.length ∧ ∀ i, i < l.length → LeD (l.getD j (0, 0)) (l.getD i (0, 0))) :
    ok = false ∧ k = -1 ∧ l = [] ∨ ok = true ∧ ∃ j : Nat, k = j ∧ j < l.length ∧ t = (l.getD j (0, 0)).2 := by
  cases ok with
  | false =>
    have e := h2 rfl
    subst e
    rcases h3 with h | ⟨j, _, h, _⟩
    · exact .inl ⟨rfl, h.2, rfl⟩
    · simp at h
  | true =>
    obtain ⟨p, hp, e, hle⟩ := h1 rfl
    rcases h3 with h | ⟨j, hk, hj, hl⟩
    · rw [h.1] at hp
      cases hp
    · refine .inr ⟨rfl, j, hk, hj, ?_⟩
      have a1 := hle _ (getD_mem hj)
      have a2 := led_all hl p hp
      unfold LeD at a2
      omega

end Go.Proofs.Ytkmhgcdjmfafhaa

/- The moves as numbers; what is found by a cause, which states lead to which, the mathematics of the states. No condition. -/
import Derived.Test.YtiehngeeamhlmaaGreatDoorMg4
import Derived.Test.YtiehngeeamhlmaaGreatDoorMg2
import Derived.Deep.MidRow
namespace Go.Proofs.YtiehngeeamhlmaaGreatDoor.LC
set_option linter.unusedVariables false
set_option linter.unusedSimpArgs false
open Go.RowKit

/-- A move: from where, by what, to where. -/
structure Mv where
  a : Int
  e : Int
  t : Int
deriving DecidableEq
def ms : List Mv := [⟨0, 0, 1⟩, ⟨1, 1, 2⟩, ⟨1, 3, 4⟩, ⟨2, 2, 3⟩, ⟨2, 3, 5⟩, ⟨3, 3, 7⟩, ⟨4, 1, 6⟩, ⟨5, 2, 7⟩, ⟨6, 2, 7⟩, ⟨7, 4, 8⟩, ⟨0, 5, 8⟩, ⟨1, 5, 8⟩, ⟨2, 5, 8⟩, ⟨3, 5, 8⟩, ⟨4, 5, 8⟩, ⟨5, 5, 8⟩, ⟨6, 5, 8⟩, ⟨7, 5, 8⟩]
def mz : Mv := ⟨0, 0, 0⟩
def Mv.vals (m : Mv) : List Value := [.int .i64 m.a, .int .i64 m.e, .int .i64 m.t]
/-- The cells of the array. -/
def mvs : List Value := ms.flatMap Mv.vals
theorem ms_len : ms.length = 18 := rfl
theorem mvs_len : mvs.length = 54 := rfl
theorem mvs_at (k : Nat) (hk : k < 18) : (mvs.drop (k * 3)).take 3 = (ms.getD k mz).vals := by
  have : k = 0 ∨ k = 1 ∨ k = 2 ∨ k = 3 ∨ k = 4 ∨ k = 5 ∨ k = 6 ∨ k = 7 ∨ k = 8 ∨ k = 9 ∨ k = 10 ∨ k = 11 ∨ k = 12 ∨ k = 13 ∨ k = 14 ∨ k = 15 ∨ k = 16 ∨ k = 17 := by omega
  rcases this with rfl | rfl | rfl | rfl | rfl | rfl | rfl | rfl | rfl | rfl | rfl | rfl | rfl | rfl | rfl | rfl | rfl | rfl <;> rfl

/-- Where a cause leads. -/
def fnd : List Mv → Int → Int → Option Int
  | [], _, _ => none
  | m :: r, s, e => if m.a = s ∧ m.e = e then some m.t else fnd r s e
/-- Some move leads from s to t. -/
def lds : List Mv → Int → Int → Bool
  | [], _, _ => false
  | m :: r, s, t => (decide (m.a = s) && decide (m.t = t)) || lds r s t
theorem ms_drop {k : Nat} (hk : k < 18) : ms.drop k = ms.getD k mz :: ms.drop (k + 1) := by
  have hk' : k < ms.length := hk
  rw [List.getD_eq_getElem?_getD, List.getElem?_eq_getElem hk']
  exact List.drop_eq_getElem_cons hk'
theorem fnd_yes {k : Nat} (hk : k < 18) {s e : Int} (h : (ms.getD k mz).a = s ∧ (ms.getD k mz).e = e) : fnd (ms.drop k) s e = some (ms.getD k mz).t := by
  rw [ms_drop hk]
  exact if_pos h
theorem fnd_no {k : Nat} (hk : k < 18) {s e : Int} (h : ¬ ((ms.getD k mz).a = s ∧ (ms.getD k mz).e = e)) : fnd (ms.drop k) s e = fnd (ms.drop (k + 1)) s e := by
  rw [ms_drop hk]
  exact if_neg h
theorem lds_at {k : Nat} (hk : k < 18) (s t : Int) : lds (ms.drop k) s t = ((decide ((ms.getD k mz).a = s) && decide ((ms.getD k mz).t = t)) || lds (ms.drop (k + 1)) s t) := by
  rw [ms_drop hk]
  rfl
theorem fnd_end (s e : Int) : fnd (ms.drop 18) s e = none := rfl
theorem lds_end (s t : Int) : lds (ms.drop 18) s t = false := rfl

theorem fnd_mem {s e t : Int} : ∀ {l : List Mv}, fnd l s e = some t → (⟨s, e, t⟩ : Mv) ∈ l
  | [], h => by cases h
  | m :: r, h => by
    unfold fnd at h
    split at h
    · rename_i hc
      injection h with h
      obtain ⟨rfl, rfl⟩ := hc
      subst h
      exact List.mem_cons_self
    · exact List.mem_cons_of_mem _ (fnd_mem h)
theorem lds_mem {s t : Int} : ∀ {l : List Mv}, lds l s t = true ↔ ∃ e, (⟨s, e, t⟩ : Mv) ∈ l
  | [] => by simp [lds]
  | m :: r => by
    unfold lds
    rw [Bool.or_eq_true, Bool.and_eq_true, decide_eq_true_eq, decide_eq_true_eq, lds_mem]
    constructor
    · rintro (⟨rfl, rfl⟩ | ⟨e, h⟩)
      · exact ⟨m.e, List.mem_cons_self⟩
      · exact ⟨e, List.mem_cons_of_mem _ h⟩
    · rintro ⟨e, h⟩
      rcases List.mem_cons.1 h with rfl | h
      · exact .inl ⟨rfl, rfl⟩
      · exact .inr ⟨e, h⟩
theorem ms_bd : ∀ m ∈ ms, (0 ≤ m.a ∧ m.a < 8 ∧ 0 ≤ m.e ∧ m.e < 6 ∧ 0 ≤ m.t ∧ m.t < 9) ∧ fnd ms m.a m.e = some m.t := by decide

/-- The state that an event leads to, or that stays; whether it moves. -/
def nx (s e : Int) : Int := (fnd ms s e).getD s
def mvd (s e : Int) : Bool := (fnd ms s e).isSome
/-- The document's own answer. -/
def to_ (s e : Int) : Int := (fnd ms s e).getD (-1)
theorem fnd_in {s e t : Int} (h : fnd ms s e = some t) : 0 ≤ s ∧ s < 8 ∧ 0 ≤ e ∧ e < 6 ∧ 0 ≤ t ∧ t < 9 := (ms_bd _ (fnd_mem h)).1
theorem fnd_out {s e : Int} (h : s < 0 ∨ 8 ≤ s ∨ e < 0 ∨ 6 ≤ e) : fnd ms s e = none := by
  cases hf : fnd ms s e with
  | none => rfl
  | some t =>
    have := fnd_in hf
    omega
theorem to_hit {s e : Int} (h : 0 ≤ to_ s e) : fnd ms s e = some (to_ s e) := by
  unfold to_ at h ⊢
  cases hf : fnd ms s e with
  | none =>
    rw [hf] at h
    exact absurd h (by decide)
  | some t => rfl
theorem to_of {s e t : Int} (h : fnd ms s e = some t) : to_ s e = t := by unfold to_; rw [h]; rfl
theorem mvd_to (s e : Int) : mvd s e = decide (0 ≤ to_ s e) := by
  cases hf : fnd ms s e with
  | none =>
    unfold mvd to_
    rw [hf]
    rfl
  | some t =>
    have := fnd_in hf
    rw [to_of hf]
    unfold mvd
    rw [hf]
    exact (decide_eq_true this.2.2.2.2.1).symm
theorem nx_yes {s e : Int} (h : mvd s e = true) : nx s e = to_ s e := by
  unfold mvd at h
  obtain ⟨t, ht⟩ := Option.isSome_iff_exists.1 h
  unfold nx to_
  rw [ht]
  rfl
theorem nx_no {s e : Int} (h : mvd s e = false) : nx s e = s := by
  unfold mvd at h
  unfold nx
  cases hf : fnd ms s e with
  | none => rfl
  | some t =>
    rw [hf] at h
    cases h

/-- One leads to the other, or is it. -/
def ld (a b : Int) : Bool := decide (a = b) || lds ms a b
theorem ld_hit {a b : Int} {e : Int} (h : to_ a e = b) (h0 : 0 ≤ b) : ld a b = true := by
  unfold ld
  rw [Bool.or_eq_true]
  refine .inr (lds_mem.2 ⟨e, fnd_mem ?_⟩)
  rw [← h]
  exact to_hit (by rw [h]; exact h0)
theorem ld_none {a b : Int} (h : ∀ j : Nat, j < 6 → ¬ (to_ a (j : Int) = b ∧ 0 ≤ b)) : ld a b = decide (a = b) := by
  unfold ld
  cases hl : lds ms a b with
  | false => rw [Bool.or_false]
  | true =>
    obtain ⟨e, he⟩ := lds_mem.1 hl
    obtain ⟨hb, hf⟩ := ms_bd _ he
    dsimp only at hb hf
    obtain ⟨j, rfl⟩ := Int.eq_ofNat_of_zero_le hb.2.2.1
    exact absurd ⟨to_of hf, hb.2.2.2.2.1⟩ (h j (by omega))
theorem ld_nx (s e : Int) : ld s (nx s e) = true := by
  unfold ld nx
  rw [Bool.or_eq_true]
  cases hf : fnd ms s e with
  | none => exact .inl (decide_eq_true rfl)
  | some t => exact .inr (lds_mem.2 ⟨e, fnd_mem hf⟩)

/-- Each leads to the next one. -/
def pth : List Int → Bool
  | [] => true
  | [_] => true
  | a :: b :: r => ld a b && pth (b :: r)
theorem pth_short {l : List Int} (h : l.length ≤ 1) : pth l = true := by
  match l, h with
  | [], _ => rfl
  | [_], _ => rfl
theorem pth_drop {l : List Int} {k : Nat} (h : k + 1 < l.length) : pth (l.drop k) = (ld (l.getD k 0) (l.getD (k + 1) 0) && pth (l.drop (k + 1))) := by
  have h0 : k < l.length := by omega
  rw [List.drop_eq_getElem_cons h0, List.drop_eq_getElem_cons h, List.getD_eq_getElem?_getD, List.getElem?_eq_getElem h0, List.getD_eq_getElem?_getD, List.getElem?_eq_getElem h]
  rfl
theorem pth_snoc {t : Int} : ∀ {l : List Int} {s : Int}, pth (l ++ [s]) = true → ld s t = true → pth (l ++ [s] ++ [t]) = true
  | [], s, _, h => by
    show (ld s t && pth [t]) = true
    rw [h]
    rfl
  | [a], s, h, k => by
    have h1 : (ld a s && pth [s]) = true := h
    rw [Bool.and_eq_true] at h1
    show (ld a s && pth ([] ++ [s] ++ [t])) = true
    rw [h1.1, pth_snoc (l := []) rfl k]
    rfl
  | a :: b :: r, s, h, k => by
    have h1 : (ld a b && pth (b :: r ++ [s])) = true := h
    rw [Bool.and_eq_true] at h1
    show (ld a b && pth (b :: r ++ [s] ++ [t])) = true
    rw [h1.1, pth_snoc h1.2 k]
    rfl

/-- The package's variable holds the moves. -/
def Tab (w : World) : Prop := w.rangeAt 0 0 mvs
theorem Tab.below {w w' : World} (h : Tab w) (hb : Below w.heap.size w w') : Tab w' := fun j v hv => by
  have := h j v hv
  exact (hb.cell (World.block_lt_of_cell? w _ this)).trans this
end Go.Proofs.YtiehngeeamhlmaaGreatDoor.LC

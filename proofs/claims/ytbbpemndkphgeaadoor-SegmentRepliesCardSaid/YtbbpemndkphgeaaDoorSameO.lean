/- The contracts of bytes.Equal and octet.Same. Condition: both slices hold bytes. -/
import Derived.Test.YtbbpemndkphgeaaDoorBase
import Derived.Laws.BytesArg
import Derived.Laws.IdiomStrings
namespace Go.Proofs.YtbbpemndkphgeaaDoor
set_option linter.unusedVariables false
open Go.RowKit

/-- What 'string(b)' gives. -/
theorem RB.text {P : Program} {w : World} {A : Option Addr} {n c : Nat} {l : List UInt8} (h : RB w A n c l) (src e dst : TypeId) (hs : P.underlying src = some (.slice e)) (he : P.underlying e = some (.int .u8)) (hd : P.underlying dst = some .string) :
    (convert src dst (.slice A n c)).run P w = .ok (.string ⟨l.toArray⟩) w := by
  obtain ⟨rfl, h2, h3, h4⟩ := h
  rcases Nat.eq_zero_or_pos l.length with h0 | h0
  · obtain rfl : l = [] := List.eq_nil_of_length_eq_zero h0
    cases A with
    | none => exact run_convert_bytes_nil (P := P) w src e hs he _ _ dst hd
    | some a => exact run_convert_bytes_back (P := P) w src dst e a c [] hs he hd (fun j hj => absurd hj (by simp))
  · obtain ⟨b, o, rfl, hc⟩ := h4 h0
    refine run_convert_bytes_back (P := P) w src dst e _ c l hs he hd (fun j hj => ?_)
    rw [Addr.add_lit, hc j hj]
    simp [hj]

theorem Equal_any (A B : Option Addr) (n c m d : Nat) (l r : List UInt8) (w : World) (h : RB w A n c l) (h' : RB w B m d r) :
    Calls Tryd.prog 52 #[.slice A n c, .slice B m d] w fun e w' => e = .returned (.bool (l == r)) ∧ w = w' := by
  have h1 := h.text (P := Tryd.prog) 24 5 9 Tryd.underlying24 Tryd.underlying5 Tryd.underlying9
  have h2 := h'.text (P := Tryd.prog) 24 5 9 Tryd.underlying24 Tryd.underlying5 Tryd.underlying9
  go_enter Tryd.func52, Tryd.ntmps52
  go_wp2
  go_ret
  exact ⟨by rfl, rfl⟩

theorem same_any (A B : Option Addr) (n c m d : Nat) (l r : List UInt8) (w : World) (h : RB w A n c l) (h' : RB w B m d r) :
    Calls Tryd.prog 36 #[.slice A n c, .slice B m d] w fun e w' => e = .returned (.bool (l == r)) ∧ w = w' := by
  go_enter Tryd.func36, Tryd.ntmps36
  go_wp2_with (go_at_call 52; refine (Equal_any _ _ _ _ _ _ _ _ _ h h').mono ?_; rintro e w1 ⟨rfl, rfl⟩)
  go_ret
  exact ⟨rfl, rfl⟩

theorem same_yes (A B : Option Addr) (n c m d : Nat) (l : List UInt8) (w : World) (h : RB w A n c l) (h' : RB w B m d l) :
    Calls Tryd.prog 36 #[.slice A n c, .slice B m d] w (Yes w) :=
  (same_any A B n c m d l l w h h').mono fun e w' ⟨he, hq⟩ => by
    subst hq
    exact ⟨by rw [he]; simp, Below.refl _ _⟩
end Go.Proofs.YtbbpemndkphgeaaDoor

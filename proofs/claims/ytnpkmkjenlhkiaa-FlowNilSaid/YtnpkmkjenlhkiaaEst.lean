/- An estimate's numbers: what a sample makes of them, how long the wait is, doubled so often (cut out of layer 12's). No condition. -/
import Derived.Test.YtnpkmkjenlhkiaaOqF
namespace Go.Proofs.Ytnpkmkjenlhkiaa
set_option linter.unusedVariables false
set_option linter.unusedSimpArgs false
open Go.RowKit

/-- An estimate: is there a sample, the smoothed time, the variation, how often it was doubled. -/
structure Es where
  has : Bool
  s : Int
  v : Int
  d : Nat
def Es.cs (E : Es) : Array Value := #[.bool E.has, .int .i64 E.s, .int .i64 E.v, .int .i64 (E.d : Int)]
def Es.zero : Es := ⟨false, 0, 0, 0⟩
/-- A sample, held. -/
def held (t : Int) : Int := min (max t 0) 1000
def mag (x : Int) : Int := max x (-x)
def Es.smp (E : Es) (t : Int) : Es :=
  if E.has then ⟨true, E.s + (held t - E.s.tdiv 8), E.v + (mag (held t - E.s.tdiv 8) - E.v.tdiv 4), E.d⟩ else ⟨true, held t * 8, held t * 2, E.d⟩
def Es.back (E : Es) : Es := ⟨E.has, E.s, E.v, E.d + 1⟩
def Es.fresh (E : Es) : Es := ⟨E.has, E.s, E.v, 0⟩
structure Es.Ok (E : Es) : Prop where
  s0 : 0 ≤ E.s
  s1 : E.s ≤ 8000
  v0 : 0 ≤ E.v
  v1 : E.v ≤ 4000
  d1 : E.d ≤ 1000000

theorem held_bd (t : Int) : 0 ≤ held t ∧ held t ≤ 1000 := by unfold held; omega
theorem held_of {t : Int} (h0 : 0 ≤ t) (h1 : t ≤ 1000) : held t = t := by unfold held; omega
theorem held_mono {a b : Int} (h : a ≤ b) : held a ≤ held b := by unfold held; omega
theorem td8 {s : Int} (h : 0 ≤ s) : s.tdiv 8 = s / 8 := Int.tdiv_eq_ediv_of_nonneg h
theorem td4 {s : Int} (h : 0 ≤ s) : s.tdiv 4 = s / 4 := Int.tdiv_eq_ediv_of_nonneg h
theorem Ok_zero : Es.zero.Ok := ⟨by decide, by decide, by decide, by decide, by decide⟩
theorem Ok_smp {E : Es} (h : E.Ok) (t : Int) : (E.smp t).Ok := by
  have hb := held_bd t
  have h8 := td8 h.s0
  have h4 := td4 h.v0
  have := h.s0
  have := h.s1
  have := h.v0
  have := h.v1
  have := h.d1
  unfold Es.smp
  split
  · refine ⟨?_, ?_, ?_, ?_, ?_⟩ <;> dsimp only <;> (try unfold mag) <;> (try rw [h8]) <;> (try rw [h4]) <;> omega
  · refine ⟨?_, ?_, ?_, ?_, ?_⟩ <;> dsimp only <;> omega
theorem Ok_fresh {E : Es} (h : E.Ok) : E.fresh.Ok := ⟨h.s0, h.s1, h.v0, h.v1, Nat.zero_le _⟩
theorem Ok_back {E : Es} (h : E.Ok) (hd : E.d < 1000000) : E.back.Ok := ⟨h.s0, h.s1, h.v0, h.v1, hd⟩
theorem smp_has (E : Es) (t : Int) : (E.smp t).has = true := by unfold Es.smp; split <;> rfl
theorem smp_d (E : Es) (t : Int) : (E.smp t).d = E.d := by unfold Es.smp; split <;> rfl

/-- Doubled n times, and held at 16. -/
def dbl : Nat → Int → Int
  | 0, x => min x 16
  | n + 1, x => if x < 16 then dbl n (2 * x) else 16
theorem dbl_big {x : Int} (h : 16 ≤ x) : ∀ n, dbl n x = 16
  | 0 => by show min x 16 = 16; omega
  | n + 1 => by show (if x < 16 then dbl n (2 * x) else 16) = 16; rw [if_neg (by omega)]
theorem dbl_min (x : Int) (n : Nat) : dbl n (min x 16) = dbl n x := by
  by_cases h : x < 16
  · rw [show min x 16 = x from by omega]
  · rw [dbl_big (by omega), dbl_big (by omega)]
theorem dbl_step {n : Nat} {x : Int} (h : x < 16) : dbl (n + 1) x = dbl n (2 * x) := by
  show (if x < 16 then dbl n (2 * x) else 16) = _
  rw [if_pos h]
theorem dbl_bd {n : Nat} : ∀ {x : Int}, 2 ≤ x → 2 ≤ dbl n x ∧ dbl n x ≤ 16 := by
  induction n with
  | zero => intro x h; show 2 ≤ min x 16 ∧ min x 16 ≤ 16; omega
  | succ n ih =>
    intro x h
    show 2 ≤ (if x < 16 then dbl n (2 * x) else 16) ∧ (if x < 16 then dbl n (2 * x) else 16) ≤ 16
    split
    · exact ih (by omega)
    · omega
/-- One doubling more is twice as much, up to 16. -/
theorem dbl_next {n : Nat} : ∀ {x : Int}, 2 ≤ x → dbl (n + 1) x = min (2 * dbl n x) 16 := by
  induction n with
  | zero =>
    intro x h
    show (if x < 16 then min (2 * x) 16 else 16) = min (2 * min x 16) 16
    split <;> omega
  | succ n ih =>
    intro x h
    by_cases hx : x < 16
    · rw [dbl_step hx, dbl_step (n := n) hx, ih (by omega)]
    · rw [dbl_big (by omega), dbl_big (by omega)]
      decide

/-- How long to wait, without any doubling; and with. -/
def Es.one (E : Es) : Int := if E.has then max (E.s.tdiv 8 + max E.v 1) 2 else 4
def Es.wt (E : Es) : Int := dbl E.d E.one
def Es.told (E : Es) : Int := if E.has then E.s else 32
theorem one_bd {E : Es} (h : E.Ok) : 2 ≤ E.one ∧ E.one ≤ 5000 := by
  have h8 := td8 h.s0
  have := h.s1
  have := h.v1
  unfold Es.one
  split
  · rw [h8]
    omega
  · omega
theorem wt_bd {E : Es} (h : E.Ok) : 2 ≤ E.wt ∧ E.wt ≤ 16 := dbl_bd (one_bd h).1
theorem wt_back {E : Es} (h : E.Ok) : E.back.wt = min (2 * E.wt) 16 := dbl_next (one_bd h).1
theorem told_bd {E : Es} (h : E.Ok) : 0 ≤ E.told ∧ E.told ≤ 8000 := by
  have := h.s0
  have := h.s1
  unfold Es.told
  split <;> omega

theorem ch_set (w : World) (b j : Nat) (u : Value) : Ch w (w.setCell ⟨b, j, none⟩ u) (fun k => k = b) := (Ch.refl w (fun k => k = b)).setCell (p := ⟨b, j, none⟩) (fun _ => rfl) u
theorem Ch.set {a w : World} {b : Nat} (h : Ch a w (fun k => k = b)) (j : Nat) (u : Value) : Ch a (w.setCell ⟨b, j, none⟩ u) (fun k => k = b) := h.then_ (ch_set w b j u)
end Go.Proofs.Ytnpkmkjenlhkiaa

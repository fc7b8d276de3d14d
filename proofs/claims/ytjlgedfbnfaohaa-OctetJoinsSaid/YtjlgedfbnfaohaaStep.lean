/- Steps that the laws of layer 1 take: the contracts once more, each as 'what is there stays, and this is new'. Conditions: as each says (slices that hold bytes, at most 2^39 of them). -/
import Derived.Test.YtjlgedfbnfaohaaLaw
namespace Go.Proofs.Ytjlgedfbnfaohaa
set_option linter.unusedVariables false
open Go.RowKit

/-- What a law leaves that holds. -/
def Held (W : World) (e : Ending) (w' : World) : Prop := e = .returned (.bool true) ∧ Below W.heap.size W w'

theorem own_below {w w' : World} {base : Nat} {e : TypeId} {size n : Nat} {v : Value} {xs : List Value} (h : w.ownsRow base e size v n xs) (hb : Below w.heap.size w w') : w'.ownsRow base e size v n xs := by
  refine ⟨h.1, ?_⟩
  rcases h.2 with hn | ⟨g, cap, cur, rfl, h1, hg, rest⟩
  · exact .inl hn
  · exact .inr ⟨g, cap, cur, rfl, h1, (hb.block g (Array.getElem?_eq_some_iff.1 hg).1).trans hg, rest⟩

section
variable {P : Program}

/-- append onto a literal without elements. -/
theorem wpList_app_lit {W : World} {ops : Array Oper} {rest : List Oper} {o : Oper} {a : Act} {Q : Exit → Act → World → Prop} (hgd : o.guard = none) (s x : Operand) (t e : TypeId)
    (ho : o.op = .call { callee := .builtin .append, args := #[s, x], argTypes := #[t, t] })
    (ht : P.underlying t = some (.slice e)) (hi : (P.info? e).map (fun i => (i.zero, i.size, i.bytes)) = some (some (.int .u8 0), 1, 1))
    (hs : a.eval s = .slice (some ⟨W.heap.size, 0, none⟩) 0 0)
    (A : Option Addr) (m c : Nat) (r : List UInt8) (hx : a.eval x = .slice A m c) (hr : RB W A m c r) (h40 : m ≤ 1099511627776)
    (h : ∀ A' c' w', RB w' A' m c' r → w'.ownsRow W.heap.size e 1 (.slice A' m c') m (bv r) → Below W.heap.size W w' → wpList P ops Q rest (a.put o.dst (.slice A' m c')) w') :
    wpList P ops Q (o :: rest) a (W.alloc (.cells #[] e)) := by
  have hown := World.ownsRow_lit (base := W.heap.size) (e := e) (size := 1) W #[] 0 (Nat.le_refl _) (Nat.zero_le _) rfl
  refine wpList_app _ hgd s x t e ho ht hi W.heap.size _ 0 [] hs hown A m c r hx (hr.alloc _) (by omega) (by simp) fun v' w' h1 h2 _ => ?_
  rw [Nat.zero_add, List.nil_append] at h1
  have hb := (below_a W (.cells #[] e)).grown h2 (by simp) fun k hk => (hown.lt k hk).1
  obtain ⟨A', c', rfl, hr', _⟩ := RB.of_own h1
  exact h A' c' w' hr' h1 hb

/-- append onto what the call owns. -/
theorem wpList_app_more {W w : World} {ops : Array Oper} {rest : List Oper} {o : Oper} {a : Act} {Q : Exit → Act → World → Prop} (hgd : o.guard = none) (s x : Operand) (t e : TypeId)
    (ho : o.op = .call { callee := .builtin .append, args := #[s, x], argTypes := #[t, t] })
    (ht : P.underlying t = some (.slice e)) (hi : (P.info? e).map (fun i => (i.zero, i.size, i.bytes)) = some (some (.int .u8 0), 1, 1))
    (v : Value) (n : Nat) (l : List UInt8) (hs : a.eval s = v) (hown : w.ownsRow W.heap.size e 1 v n (bv l)) (hb : Below W.heap.size W w)
    (A : Option Addr) (m c : Nat) (r : List UInt8) (hx : a.eval x = .slice A m c) (hr : RB w A m c r) (h40 : n + m ≤ 1099511627776)
    (h : ∀ A' c' w', RB w' A' (n + m) c' (l ++ r) → w'.ownsRow W.heap.size e 1 (.slice A' (n + m) c') (n + m) (bv (l ++ r)) → Below W.heap.size W w' → wpList P ops Q rest (a.put o.dst (.slice A' (n + m) c')) w') :
    wpList P ops Q (o :: rest) a w := by
  refine wpList_app _ hgd s x t e ho ht hi W.heap.size _ n l hs hown A m c r hx hr h40 hb.size fun v' w' h1 h2 _ => ?_
  have hb' := below_grown hb hown h2
  obtain ⟨A', c', rfl, hr', _⟩ := RB.of_own h1
  exact h A' c' w' hr' h1 hb'
end

/-- Bytes, as a slice: its bytes, and that it is the call's own. -/
def OwnMade (W : World) (n : Nat) (l : List UInt8) (e : Ending) (w' : World) : Prop :=
  ∃ A c, e = .returned (.slice A n c) ∧ RB w' A n c l ∧ w'.ownsRow W.heap.size 5 1 (.slice A n c) n (bv l) ∧ Below W.heap.size W w'
theorem Bytes_own (a : Nat) (k : Int) (w : World) (ha : a < 18446744073709551616) :
    Calls Try.prog 10 #[.int .u64 (a : Int), .int .i64 k] w (OwnMade w (wn k) (be a (wn k))) :=
  (Bytes_any a k w ha).mono fun e w' ⟨v, he, hown, hb⟩ => by
    obtain ⟨A, c, rfl, hr, _⟩ := RB.of_own hown
    exact ⟨A, c, he, hr, hown, hb⟩

def Yes (W : World) (e : Ending) (w' : World) : Prop := e = .returned (.bool true) ∧ Below W.heap.size W w'
theorem Same_yes (A B : Option Addr) (n c m d : Nat) (l : List UInt8) (w : World) (h : RB w A n c l) (h' : RB w B m d l) :
    Calls Try.prog 11 #[.slice A n c, .slice B m d] w (Yes w) :=
  (Same_any A B n c m d l l w h h').mono fun e w' ⟨he, q, hq⟩ => by
    subst hq
    exact ⟨by rw [he]; simp, below_drewN (Below.refl _ _) q⟩
theorem same_yes (A B : Option Addr) (n c m d : Nat) (l : List UInt8) (w : World) (h : RB w A n c l) (h' : RB w B m d l) :
    Calls Try.prog 17 #[.slice A n c, .slice B m d] w (Yes w) :=
  (same_any A B n c m d l l w h h').mono fun e w' ⟨he, hq⟩ => by
    subst hq
    exact ⟨by rw [he]; simp, Below.refl _ _⟩

/-- Take, of a number's bytes and what is behind them. -/
theorem Take_at (A : Option Addr) (n c : Nat) (k : Int) (d l : List UInt8) (w : World) (hd : d.length = wn k) (h : RB w A (wn k + n) c (d ++ l)) (ht : n ≤ 1073741824) :
    Calls Try.prog 12 #[.slice A (wn k + n) c, .int .i64 k] w (TakeMade w (num d) n l) := by
  have hhi := wn_hi k
  have h1 := Take_ok A (wn k + n) c k (d ++ l) w h (by omega) (by omega)
  rw [List.take_left' hd, List.drop_left' hd, show wn k + n - wn k = n from by omega] at h1
  exact h1

end Go.Proofs.Ytjlgedfbnfaohaa

/- Between two worlds: which blocks alone may have turned. No condition. -/
import Derived.Test.YtpjjamlblnphdaaDoorBase
import Derived.Maps.AppendAt
import Derived.Maps.OwnSet
import Derived.Maps.RangeWalk
import Derived.Deep.OwnRows
namespace Go.Proofs.YtpjjamlblnphdaaDoor
set_option linter.unusedVariables false
set_option linter.unusedSimpArgs false
open Go.RowKit

/-- Between w and w' nothing has turned but blocks of which that is told. -/
structure Ch (w w' : World) (may : Nat → Prop) : Prop where
  os : w'.os = w.os
  tape : w'.tape = w.tape
  output : w'.output = w.output
  size : w.heap.size ≤ w'.heap.size
  block : ∀ k, k < w.heap.size → ¬ may k → w'.heap[k]? = w.heap[k]?

theorem Ch.refl (w : World) (may : Nat → Prop) : Ch w w may := ⟨rfl, rfl, rfl, Nat.le_refl _, fun _ _ _ => rfl⟩
theorem Ch.trans {a b c : World} {m m' m'' : Nat → Prop} (h : Ch a b m) (k : Ch b c m') (hm : ∀ x, x < a.heap.size → m x → m'' x) (hm' : ∀ x, x < a.heap.size → m' x → m'' x) : Ch a c m'' :=
  ⟨k.os.trans h.os, k.tape.trans h.tape, k.output.trans h.output, Nat.le_trans h.size k.size, fun x hx hn =>
    (k.block x (Nat.lt_of_lt_of_le hx h.size) (fun hc => hn (hm' x hx hc))).trans (h.block x hx (fun hc => hn (hm x hx hc)))⟩
theorem Ch.mono {a b : World} {m m' : Nat → Prop} (h : Ch a b m) (hm : ∀ x, x < a.heap.size → m x → m' x) : Ch a b m' := ⟨h.os, h.tape, h.output, h.size, fun x hx hn => h.block x hx (fun hc => hn (hm x hx hc))⟩
theorem Ch.then_ {a b c : World} {m : Nat → Prop} (h : Ch a b m) (k : Ch b c m) : Ch a c m := h.trans k (fun _ _ x => x) (fun _ _ x => x)
theorem Ch.drew {a b : World} {m : Nat → Prop} (h : Ch a b m) : Ch a b.drew m := ⟨h.os, h.tape, h.output, h.size, h.block⟩
theorem Ch.drewN {a b : World} {m : Nat → Prop} (h : Ch a b m) (n : Nat) : Ch a (b.drewN n) m := ⟨h.os, h.tape, h.output, h.size, h.block⟩
theorem Ch.alloc {a b : World} {m : Nat → Prop} (h : Ch a b m) (o : Obj) : Ch a (b.alloc o) m :=
  h.then_ ⟨rfl, rfl, rfl, by simp, fun k hk _ => Below.heap_alloc b o k hk⟩
theorem Ch.setCell {a b : World} {m : Nat → Prop} (h : Ch a b m) {p : Addr} (hp : p.block < a.heap.size → m p.block) (u : Value) : Ch a (b.setCell p u) m :=
  ⟨h.os, h.tape, h.output, by simpa [World.setCell] using h.size, fun k hk hn => by
    rw [Below.heap_setCell b p u k (fun e => hn (by rw [e]; exact hp (by rw [← e]; exact hk)))]
    exact h.block k hk hn⟩
theorem Ch.grown {a b c : World} {m : Nat → Prop} {row : Option Nat} (h : Ch a b m) (hg : b.grownBy c row) (hr : ∀ k, row = some k → k < a.heap.size → m k) : Ch a c m :=
  h.trans (m' := fun k => row = some k) ⟨hg.os, hg.tape, hg.output, hg.size, fun k hk hn => hg.block k hk (fun e => hn e.symm)⟩ (fun _ _ x => x) (fun x hx e => hr x e hx)
theorem Ch.turned {a b c : World} {m : Nat → Prop} {mb : Nat} (h : Ch a b m) (hg : b.mapTurned c mb) (hm : mb < a.heap.size → m mb) : Ch a c m :=
  h.grown hg.grown fun k e hk => by injection e with e; subst e; exact hm hk
theorem Ch.below {a b : World} {m : Nat → Prop} (h : Ch a b m) (hm : ∀ x, x < a.heap.size → ¬ m x) : Below a.heap.size a b :=
  ⟨h.os, h.tape, h.output, h.size, fun k hk => h.block k hk (hm k hk)⟩
theorem Ch.of_below {a b : World} (m : Nat → Prop) (h : Below a.heap.size a b) : Ch a b m := ⟨h.os, h.tape, h.output, h.size, fun k hk _ => h.block k hk⟩
theorem Ch.cell {a b : World} {m : Nat → Prop} (h : Ch a b m) {p : Addr} {v : Value} (hc : a.cell? p = some v) (hn : ¬ m p.block) : b.cell? p = some v :=
  (World.cell?_of_block (h.block p.block (World.block_lt_of_cell? a p hc) hn)).trans hc

theorem own_ch2 {w w' : World} {base size : Nat} {e : TypeId} {v : Value} {n : Nat} {xs : List Value} {m : Nat → Prop} (h : w.ownsRow base e size v n xs) (c : Ch w w' m) (hm : ∀ g, v.ownBlock = some g → ¬ m g) : w'.ownsRow base e size v n xs := by
  refine ⟨h.1, ?_⟩
  rcases h.2 with hn | ⟨g, cap, cur, hv, hb, hg, rest⟩
  · exact .inl hn
  · exact .inr ⟨g, cap, cur, hv, hb, (c.block g (Array.getElem?_eq_some_iff.1 hg).1 (hm g (by rw [hv]; rfl))).trans hg, rest⟩
theorem own_in {w : World} {base size : Nat} {e : TypeId} {v : Value} {n : Nat} {xs : List Value} (h : w.ownsRow base e size v n xs) {g : Nat} (hg : v.ownBlock = some g) : base ≤ g ∧ g < w.heap.size := by
  rcases h.2 with ⟨rfl, _⟩ | ⟨g', cap, cur, rfl, hb, hg', _⟩
  · cases hg
  · injection hg with hg
    subst hg
    exact ⟨hb, (Array.getElem?_eq_some_iff.1 hg').1⟩
theorem below_dn {B : Nat} {w w' : World} (h : Below B w w') (n : Nat) : Below B w (w'.drewN n) := ⟨h.os, h.tape, h.output, h.size, h.block⟩

end Go.Proofs.YtpjjamlblnphdaaDoor

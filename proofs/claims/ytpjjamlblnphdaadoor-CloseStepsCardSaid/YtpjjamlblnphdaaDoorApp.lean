/- append of bytes onto a slice that the call owns, as one step of a walk: whatever the source is (nil, empty or not). Condition: what comes out is at most 2^40 bytes long. -/
import Derived.Test.YtpjjamlblnphdaaDoorMem
import Derived.Maps.AppendAt
import Derived.Lib.AppendZeros
import Derived.RegionTactic
namespace Go.Proofs.YtpjjamlblnphdaaDoor
set_option linter.unusedVariables false
set_option linter.unusedSimpArgs false
open Go.RowKit

section
variable {P : Program} (w : World)

theorem app_none (base : Nat) (t ty e : TypeId) (i : TypeInfo) (ht : P.underlying t = some (.slice e)) (hi : P.info? e = some i)
    (v : Value) (n c : Nat) (xs : List Value) (hown : w.ownsRow base e 1 v n xs) : (Builtin.append_ #[t, t] ty #[v, .slice none 0 c]).run P w = .ok v w := by
  rcases hown.2 with ⟨rfl, rfl⟩ | ⟨g, cap, cur, rfl, _, _, hnc, _⟩
  · simp [Builtin.append_, run_underlying ht, sizeOf, typeInfo, hi, Builtin.lenOf, Builtin.firstCells]
  · simp [Builtin.append_, run_underlying ht, sizeOf, typeInfo, hi, Builtin.lenOf, Builtin.firstCells, hnc, storeCells]

/-- The run of append. -/
theorem app_run (t ty e : TypeId) (ht : P.underlying t = some (.slice e)) (hi : (P.info? e).map (fun i => (i.zero, i.size, i.bytes)) = some (some (.int .u8 0), 1, 1))
    (base : Nat) (v : Value) (n : Nat) (l : List UInt8) (hown : w.ownsRow base e 1 v n (bv l))
    (A : Option Addr) (m c : Nat) (r : List UInt8) (hr : RB w A m c r) (hs : n + m ≤ 1099511627776) (hb : base ≤ w.heap.size) :
    ∃ v' w', (Builtin.append_ #[t, t] ty #[v, .slice A m c]).run P w = .ok v' w' ∧ w'.ownsRow base e 1 v' (n + m) (bv (l ++ r)) ∧ w.grownBy w' v.ownBlock ∧
      (v'.ownBlock = v.ownBlock ∨ v'.ownBlock = some w.heap.size) := by
  obtain ⟨i, hi, hz, h1, h2⟩ := info_parts hi
  obtain ⟨rfl, hmc, hcm, hc⟩ := hr
  rcases A with _ | ad
  · have hm : r.length = 0 := by
      rcases Nat.eq_zero_or_pos r.length with h0 | h0
      · exact h0
      · obtain ⟨b, o, h, _⟩ := hc h0
        cases h
    obtain rfl : r = [] := List.eq_nil_of_length_eq_zero hm
    exact ⟨v, w, app_none w base t ty e i ht hi v n c _ hown, by simpa using hown, World.grownBy.refl w _, .inl rfl⟩
  · have hcells : ∀ j u, (bv r)[j]? = some u → w.cell? (ad.add j) = some u := by
      intro j u hu
      obtain ⟨hj, rfl⟩ := bv_get r j u hu
      obtain ⟨b, o, h, hcc⟩ := hc (by omega)
      injection h with h
      subst h
      rw [Addr.add_lit]
      exact hcc j hj
    obtain ⟨v', w', hrun, g2, g3, _, g5⟩ := run_append_own_at (P := P) w base t ty e i _ 1 1 ht hi hz h1 h2 rfl (by decide) v n (bv l) hown ad r.length c (bv r)
      (by rw [bv_length, Nat.mul_one]) hcells (bv_one r) (by unfold maxLen; omega) (by omega) hb
    exact ⟨v', w', hrun, by rw [bv_append]; exact g2, g3, g5⟩

theorem wpList_app {ops : Array Oper} {rest : List Oper} {o : Oper} {a : Act} {Q : Exit → Act → World → Prop} (hgd : o.guard = none) (s x : Operand) (t e : TypeId)
    (ho : o.op = .call { callee := .builtin .append, args := #[s, x], argTypes := #[t, t] })
    (ht : P.underlying t = some (.slice e)) (hi : (P.info? e).map (fun i => (i.zero, i.size, i.bytes)) = some (some (.int .u8 0), 1, 1))
    (base : Nat) (v : Value) (n : Nat) (l : List UInt8) (hs : a.eval s = v) (hown : w.ownsRow base e 1 v n (bv l))
    (A : Option Addr) (m c : Nat) (r : List UInt8) (hx : a.eval x = .slice A m c) (hr : RB w A m c r) (h40 : n + m ≤ 1099511627776) (hb : base ≤ w.heap.size)
    (h : ∀ v' w', w'.ownsRow base e 1 v' (n + m) (bv (l ++ r)) → w.grownBy w' v.ownBlock → (v'.ownBlock = v.ownBlock ∨ v'.ownBlock = some w.heap.size) → wpList P ops Q rest (a.put o.dst v') w') :
    wpList P ops Q (o :: rest) a w := by
  obtain ⟨v', w', hrun, h1, h2, h3⟩ := app_run (P := P) w t o.type e ht hi base v n l hown A m c r hr h40 hb
  exact Lib.wpList_append_run w hgd s x t t ho _ _ hs hx v' w' hrun (h v' w' h1 h2 h3)
end

/-- A literal of bytes, as it lies in its new block. -/
theorem RB.lit (w : World) (l : List UInt8) (t : TypeId) (hl : l.length ≤ maxLen) : RB (w.alloc (.cells (bv l).toArray t)) (some ⟨w.heap.size, 0, none⟩) l.length l.length l := by
  refine ⟨rfl, Nat.le_refl _, hl, fun _ => ⟨_, 0, rfl, fun j hj => ?_⟩⟩
  rw [Nat.zero_add]
  have h := cell_of_row (w.alloc (.cells (bv l).toArray t)) w.heap.size j (bv l).toArray t (0, 0) (heap_alloc_new w _)
  rw [h]
  simpa using bv_at l j hj

theorem RB.lit1 (w : World) (v : Int) (b : UInt8) (t : TypeId) (h : v = (b.toNat : Int)) : RB (w.alloc (.cells #[.int .u8 v] t)) (some ⟨w.heap.size, 0, none⟩) 1 1 [b] := by
  subst h
  exact RB.lit w [b] t (by unfold maxLen; simp)

/-- A frame: what a step that may write one row of the call's own leaves. -/
theorem below_grown {W w w' : World} {v : Value} {n : Nat} {e : TypeId} {xs : List Value} (h : Below W.heap.size W w) (hown : w.ownsRow W.heap.size e 1 v n xs) (hg : w.grownBy w' v.ownBlock) : Below W.heap.size W w' :=
  h.grown hg h.size fun k hk => (hown.lt k hk).1

/-- What a call leaves that answers n bytes l in memory of its own, and writes nothing that was there. -/
def Made (W : World) (u8 : TypeId) (n : Nat) (l : List UInt8) (e : Ending) (w' : World) : Prop :=
  ∃ v, e = .returned v ∧ w'.ownsRow W.heap.size u8 1 v n (bv l) ∧ Below W.heap.size W w'

/-- One byte behind the others: the step of a loop that appends. -/
theorem own_one {W w w' : World} {v v' : Value} {n : Nat} {e : TypeId} {l l' : List UInt8} {x : List UInt8} {o : Obj} (hbel : Below W.heap.size W w) (hown : w.ownsRow W.heap.size e 1 v n (bv l))
    (h' : w'.ownsRow W.heap.size e 1 v' (n + 1) (bv (l ++ x))) (hg : (w.alloc o).grownBy w' v.ownBlock) (hl : l' = l ++ x) :
    w'.ownsRow W.heap.size e 1 v' (n + 1) (bv l') ∧ Below W.heap.size W w' := by
  subst hl
  exact ⟨h', (hbel.alloc hbel.size o).grown hg (by have := hbel.size; simp; omega) fun k hk => (hown.lt k hk).1⟩

end Go.Proofs.YtpjjamlblnphdaaDoor

/- Words of our own for memory, without any program: what it says that a slice value holds given bytes, and that this stays where only new memory has been written. No condition.
append of bytes onto a slice that the call owns, as one step of a walk: whatever the source is (nil, empty or not). Condition: what comes out is at most 2^40 bytes long.
The plain functions of layer 1, on lists of bytes: a width held within 1 to 8, the number of some bytes, a number's bytes. Nothing of the program is imported. No condition.
What every contract over this program leans on: the cells of a byte, new blocks, what a call leaves that makes memory, append in a walk. No condition.
Words of our own for rows of numbers, without any program: what it says that a slice value holds given numbers of one kind; append of numbers onto a slice that the call owns, as one step of a walk. Condition: what comes out is at most 2^40 numbers long. -/
import Derived.Below
import Derived.Laws.OwnMore
import Derived.Deep.Draws
import Derived.OwnWalk
import Derived.WalkSmall
import Derived.Lib.Hide
import Derived.Maps.AppendAt
import Derived.Lib.AppendZeros
import Derived.RegionTactic
import Derived.IntWalk
import Derived.Test.YtlcegchdkigibaaGreatDoorChecked
import Derived.WalkKit
import Derived.Deep.QuietTactic
import Derived.BigQuiet
import Derived.Lib.MinMax
import Derived.WalkLawsBesides
import Derived.OpenShut
import Derived.WalkSpells
namespace Go.Proofs.YtlcegchdkigibaaGreatDoor
set_option linter.unusedVariables false
set_option linter.unusedSimpArgs false
open Go.RowKit

/-- The bytes l, as the cells of a row hold them. -/
def bv (l : List UInt8) : List Value := l.map fun x => .int .u8 (x.toNat : Int)
theorem bv_length (l : List UInt8) : (bv l).length = l.length := by simp [bv]
theorem bv_append (l r : List UInt8) : bv (l ++ r) = bv l ++ bv r := by simp [bv]
theorem bv_get (l : List UInt8) (j : Nat) (u : Value) (h : (bv l)[j]? = some u) : j < l.length ∧ u = .int .u8 ((l.getD j 0).toNat : Int) := by
  simp only [bv, List.getElem?_map, Option.map_eq_some_iff] at h
  obtain ⟨x, hx, rfl⟩ := h
  obtain ⟨hj, rfl⟩ := List.getElem?_eq_some_iff.1 hx
  exact ⟨hj, by simp [hj]⟩
theorem bv_at (l : List UInt8) (j : Nat) (h : j < l.length) : (bv l)[j]? = some (.int .u8 ((l.getD j 0).toNat : Int)) := by
  simp [bv, h]
theorem bv_one (l : List UInt8) : ∀ u ∈ bv l, u.oneCell' = true := by
  intro u hu
  obtain ⟨x, _, rfl⟩ := List.mem_map.1 hu
  rfl

/-- The slice '.slice A n c' holds the bytes l in w. -/
def RB (w : World) (A : Option Addr) (n c : Nat) (l : List UInt8) : Prop :=
  l.length = n ∧ n ≤ c ∧ c ≤ maxLen ∧ (0 < n → ∃ b o, A = some ⟨b, o, none⟩ ∧ ∀ j, j < n → w.cell? ⟨b, o + j, none⟩ = some (.int .u8 ((l.getD j 0).toNat : Int)))

section
variable {w w' : World} {A : Option Addr} {n c : Nat} {l : List UInt8}
theorem RB.len (h : RB w A n c l) : l.length = n := h.1
theorem RB.cap (h : RB w A n c l) : n ≤ c := h.2.1
theorem RB.max (h : RB w A n c l) : c ≤ 9223372036854775807 := by have := h.2.2.1; unfold maxLen at this; omega
theorem RB.at_ (h : RB w A n c l) {j : Nat} (hj : j < n) : ∃ b o, A = some ⟨b, o, none⟩ ∧ w.cell? ⟨b, o + j, none⟩ = some (.int .u8 ((l.getD j 0).toNat : Int)) := by
  obtain ⟨b, o, e, hc⟩ := h.2.2.2 (by omega)
  exact ⟨b, o, e, hc j hj⟩
theorem RB.nil_ (w : World) : RB w none 0 0 [] := ⟨rfl, Nat.le_refl _, Nat.zero_le _, fun h => absurd h (by omega)⟩
theorem RB.zero (w : World) (A : Option Addr) (hc : c ≤ maxLen) : RB w A 0 c [] := ⟨rfl, Nat.zero_le _, hc, fun h => absurd h (by omega)⟩
theorem RB.keep (h : RB w A n c l) (hk : ∀ p : Addr, p.block < w.heap.size → w'.cell? p = w.cell? p) : RB w' A n c l :=
  ⟨h.1, h.2.1, h.2.2.1, fun hn => by
    obtain ⟨b, o, e, hc⟩ := h.2.2.2 hn
    exact ⟨b, o, e, fun j hj => (hk _ (World.block_lt_of_cell? w _ (hc j hj))).trans (hc j hj)⟩⟩
theorem RB.below (h : RB w A n c l) (hb : Below w.heap.size w w') : RB w' A n c l := h.keep fun _ hp => hb.cell hp
theorem RB.drew (h : RB w A n c l) : RB w.drew A n c l := h
theorem RB.drewN (h : RB w A n c l) (k : Nat) : RB (w.drewN k) A n c l := h
theorem RB.alloc (h : RB w A n c l) (o : Obj) : RB (w.alloc o) A n c l := h.keep fun p hp => World.cell?_alloc_lt w o p hp
theorem RB.take (h : RB w A n c l) {k : Nat} (hk : k ≤ n) : RB w A k c (l.take k) := by
  obtain ⟨h1, h2, h3, h4⟩ := h
  refine ⟨by rw [List.length_take]; omega, by omega, h3, fun hn => ?_⟩
  obtain ⟨b, o, e, hc⟩ := h4 (by omega)
  refine ⟨b, o, e, fun j hj => ?_⟩
  rw [hc j (by omega)]
  simp [hj]
theorem RB.drop (h : RB w A n c l) {k : Nat} (hk : k ≤ n) : RB w (if c = k then A else A.map (·.add k)) (n - k) (c - k) (l.drop k) := by
  obtain ⟨h1, h2, h3, h4⟩ := h
  refine ⟨by rw [List.length_drop]; omega, by omega, by unfold maxLen at h3 ⊢; omega, fun hn => ?_⟩
  obtain ⟨b, o, e, hc⟩ := h4 (by omega)
  rw [if_neg (by omega)]
  refine ⟨b, o + k, by rw [e]; simp [Addr.add_lit], fun j hj => ?_⟩
  rw [show o + k + j = o + (k + j) from by omega, hc (k + j) (by omega)]
  simp
theorem RB.of_own {base : Nat} {e : TypeId} {v : Value} (h : w.ownsRow base e 1 v n (bv l)) : ∃ A c, v = .slice A n c ∧ RB w A n c l ∧ v.ownBlock = A.map (·.block) := by
  have hl : l.length = n := by have := h.1; rw [bv_length] at this; omega
  rcases h.2 with ⟨rfl, rfl⟩ | ⟨g, cap, cur, rfl, hb, hg, hnc, hm, hs, ht⟩
  · obtain rfl : l = [] := List.eq_nil_of_length_eq_zero hl
    exact ⟨none, 0, rfl, RB.nil_ w, rfl⟩
  · refine ⟨_, cap, rfl, ⟨hl, hnc, hm, fun hn => ⟨g, 0, rfl, fun j hj => ?_⟩⟩, rfl⟩
    have := World.ownsRow.cellAt h j (by omega)
    rw [Nat.zero_add, this, bv_at l j (by omega)]
end

/-- What a call that makes memory leaves: all that was there is as it was. -/
theorem old_cells {W w1 : World} (hb : Below W.heap.size W w1) : ∀ b o, b < W.heap.size → w1.cell? ⟨b, o, none⟩ = W.cell? ⟨b, o, none⟩ :=
  fun b o h => hb.cell (p := ⟨b, o, none⟩) h

end Go.Proofs.YtlcegchdkigibaaGreatDoor

namespace Go.Proofs.YtlcegchdkigibaaGreatDoor
set_option linter.unusedVariables false
set_option linter.unusedSimpArgs false
open Go.RowKit

section
variable {P : Program} (w : World)

theorem app_none (base : Nat) (t ty e : TypeId) (i : TypeInfo) (ht : P.underlying t = some (.slice e)) (hi : P.info? e = some i)
    (v : Value) (n c : Nat) (xs : List Value) (hown : w.ownsRow base e 1 v n xs) : (Builtin.append_ #[t, t] ty #[v, .slice none 0 c]).run P w = .ok v w := by
  rcases hown.2 with ⟨rfl, rfl⟩ | ⟨g, cap, cur, rfl, _, _, hnc, _⟩
  · simp [Builtin.append_, run_underlying ht, sizeOf, typeInfo, hi, Builtin.lenOf, Builtin.firstCells]
  · simp [Builtin.append_, run_underlying ht, sizeOf, typeInfo, hi, Builtin.lenOf, Builtin.firstCells, hnc, storeCells]

/-- The run of append. -/
theorem app_run (t ty e : TypeId) (ht : P.underlying t = some (.slice e)) (hi : (P.info? e).map (fun i => (i.zero, i.size, i.bytes)) = some (some (.int .u8 0), 1, 1))
    (base : Nat) (v : Value) (n : Nat) (l : List UInt8) (hown : w.ownsRow base e 1 v n (bv l))
    (A : Option Addr) (m c : Nat) (r : List UInt8) (hr : RB w A m c r) (hs : n + m ≤ 1099511627776) (hb : base ≤ w.heap.size) :
    ∃ v' w', (Builtin.append_ #[t, t] ty #[v, .slice A m c]).run P w = .ok v' w' ∧ w'.ownsRow base e 1 v' (n + m) (bv (l ++ r)) ∧ w.grownBy w' v.ownBlock ∧
      (v'.ownBlock = v.ownBlock ∨ v'.ownBlock = some w.heap.size) := by
  obtain ⟨i, hi, hz, h1, h2⟩ := info_parts hi
  obtain ⟨rfl, hmc, hcm, hc⟩ := hr
  rcases A with _ | ad
  · have hm : r.length = 0 := by
      rcases Nat.eq_zero_or_pos r.length with h0 | h0
      · exact h0
      · obtain ⟨b, o, h, _⟩ := hc h0
        cases h
    obtain rfl : r = [] := List.eq_nil_of_length_eq_zero hm
    exact ⟨v, w, app_none w base t ty e i ht hi v n c _ hown, by simpa using hown, World.grownBy.refl w _, .inl rfl⟩
  · have hcells : ∀ j u, (bv r)[j]? = some u → w.cell? (ad.add j) = some u := by
      intro j u hu
      obtain ⟨hj, rfl⟩ := bv_get r j u hu
      obtain ⟨b, o, h, hcc⟩ := hc (by omega)
      injection h with h
      subst h
      rw [Addr.add_lit]
      exact hcc j hj
    obtain ⟨v', w', hrun, g2, g3, _, g5⟩ := run_append_own_at (P := P) w base t ty e i _ 1 1 ht hi hz h1 h2 rfl (by decide) v n (bv l) hown ad r.length c (bv r)
      (by rw [bv_length, Nat.mul_one]) hcells (bv_one r) (by unfold maxLen; omega) (by omega) hb
    exact ⟨v', w', hrun, by rw [bv_append]; exact g2, g3, g5⟩

theorem wpList_app {ops : Array Oper} {rest : List Oper} {o : Oper} {a : Act} {Q : Exit → Act → World → Prop} (hgd : o.guard = none) (s x : Operand) (t e : TypeId)
    (ho : o.op = .call { callee := .builtin .append, args := #[s, x], argTypes := #[t, t] })
    (ht : P.underlying t = some (.slice e)) (hi : (P.info? e).map (fun i => (i.zero, i.size, i.bytes)) = some (some (.int .u8 0), 1, 1))
    (base : Nat) (v : Value) (n : Nat) (l : List UInt8) (hs : a.eval s = v) (hown : w.ownsRow base e 1 v n (bv l))
    (A : Option Addr) (m c : Nat) (r : List UInt8) (hx : a.eval x = .slice A m c) (hr : RB w A m c r) (h40 : n + m ≤ 1099511627776) (hb : base ≤ w.heap.size)
    (h : ∀ v' w', w'.ownsRow base e 1 v' (n + m) (bv (l ++ r)) → w.grownBy w' v.ownBlock → (v'.ownBlock = v.ownBlock ∨ v'.ownBlock = some w.heap.size) → wpList P ops Q rest (a.put o.dst v') w') :
    wpList P ops Q (o :: rest) a w := by
  obtain ⟨v', w', hrun, h1, h2, h3⟩ := app_run (P := P) w t o.type e ht hi base v n l hown A m c r hr h40 hb
  exact Lib.wpList_append_run w hgd s x t t ho _ _ hs hx v' w' hrun (h v' w' h1 h2 h3)
end

/-- A literal of bytes, as it lies in its new block. -/
theorem RB.lit (w : World) (l : List UInt8) (t : TypeId) (hl : l.length ≤ maxLen) : RB (w.alloc (.cells (bv l).toArray t)) (some ⟨w.heap.size, 0, none⟩) l.length l.length l := by
  refine ⟨rfl, Nat.le_refl _, hl, fun _ => ⟨_, 0, rfl, fun j hj => ?_⟩⟩
  rw [Nat.zero_add]
  have h := cell_of_row (w.alloc (.cells (bv l).toArray t)) w.heap.size j (bv l).toArray t (0, 0) (heap_alloc_new w _)
  rw [h]
  simpa using bv_at l j hj

theorem RB.lit1 (w : World) (v : Int) (b : UInt8) (t : TypeId) (h : v = (b.toNat : Int)) : RB (w.alloc (.cells #[.int .u8 v] t)) (some ⟨w.heap.size, 0, none⟩) 1 1 [b] := by
  subst h
  exact RB.lit w [b] t (by unfold maxLen; simp)

/-- A frame: what a step that may write one row of the call's own leaves. -/
theorem below_grown {W w w' : World} {v : Value} {n : Nat} {e : TypeId} {xs : List Value} (h : Below W.heap.size W w) (hown : w.ownsRow W.heap.size e 1 v n xs) (hg : w.grownBy w' v.ownBlock) : Below W.heap.size W w' :=
  h.grown hg h.size fun k hk => (hown.lt k hk).1

/-- What a call leaves that answers n bytes l in memory of its own, and writes nothing that was there. -/
def Made (W : World) (u8 : TypeId) (n : Nat) (l : List UInt8) (e : Ending) (w' : World) : Prop :=
  ∃ v, e = .returned v ∧ w'.ownsRow W.heap.size u8 1 v n (bv l) ∧ Below W.heap.size W w'

/-- One byte behind the others: the step of a loop that appends. -/
theorem own_one {W w w' : World} {v v' : Value} {n : Nat} {e : TypeId} {l l' : List UInt8} {x : List UInt8} {o : Obj} (hbel : Below W.heap.size W w) (hown : w.ownsRow W.heap.size e 1 v n (bv l))
    (h' : w'.ownsRow W.heap.size e 1 v' (n + 1) (bv (l ++ x))) (hg : (w.alloc o).grownBy w' v.ownBlock) (hl : l' = l ++ x) :
    w'.ownsRow W.heap.size e 1 v' (n + 1) (bv l') ∧ Below W.heap.size W w' := by
  subst hl
  exact ⟨h', (hbel.alloc hbel.size o).grown hg (by have := hbel.size; simp; omega) fun k hk => (hown.lt k hk).1⟩

end Go.Proofs.YtlcegchdkigibaaGreatDoor

namespace Go.Proofs.YtlcegchdkigibaaGreatDoor
set_option linter.unusedVariables false
set_option linter.unusedSimpArgs false

/-- A width, held within 1 to 8. -/
def wn (n : Int) : Nat := if n < 1 then 1 else if 8 < n then 8 else n.toNat
theorem wn_lo (n : Int) : 1 ≤ wn n := by unfold wn; split <;> (try split) <;> omega
theorem wn_hi (n : Int) : wn n ≤ 8 := by unfold wn; split <;> (try split) <;> omega
theorem wn_one {n : Int} (h : n < 1) : wn n = 1 := by unfold wn; rw [if_pos h]
theorem wn_eight {n : Int} (h : 8 < n) : wn n = 8 := by unfold wn; rw [if_neg (by omega), if_pos h]
theorem wn_mid {n : Int} (h : 1 ≤ n) (h' : n ≤ 8) : (wn n : Int) = n := by unfold wn; rw [if_neg (by omega), if_neg (by omega)]; omega

/-- The number of some bytes, the highest one first. -/
def num (l : List UInt8) : Nat := l.foldl (fun n b => 256 * n + b.toNat) 0
theorem num_nil : num [] = 0 := rfl
theorem num_snoc (l : List UInt8) (b : UInt8) : num (l ++ [b]) = 256 * num l + b.toNat := by simp [num]
theorem num_lt (l : List UInt8) : num l < 256 ^ l.length := by
  suffices h : ∀ (l : List UInt8) (n k : Nat), n < 256 ^ k → l.foldl (fun n b => 256 * n + b.toNat) n < 256 ^ (k + l.length) by
    have := h l 0 0 (by decide)
    rw [Nat.zero_add] at this
    exact this
  intro l
  induction l with
  | nil => intro n k h; simpa using h
  | cons b r ih =>
    intro n k h
    have hb := b.toNat_lt
    have := ih (256 * n + b.toNat) (k + 1) (by rw [Nat.pow_succ]; omega)
    simp only [List.foldl_cons, List.length_cons]
    rw [show k + (r.length + 1) = k + 1 + r.length from by omega]
    exact this
theorem take_snoc (l : List UInt8) (k : Nat) (h : k < l.length) : l.take (k + 1) = l.take k ++ [l.getD k 0] := by
  rw [List.take_succ_eq_append_getElem h]
  simp [h]
theorem num_step (l : List UInt8) (k : Nat) (h : k < l.length) : num (l.take (k + 1)) = 256 * num (l.take k) + (l.getD k 0).toNat := by
  rw [take_snoc l k h, num_snoc]
theorem pow_le_seven (k : Nat) (h : k ≤ 7) : 256 ^ k ≤ 72057594037927936 :=
  Nat.le_trans (Nat.pow_le_pow_right (by decide) h) (by decide)
theorem num_seven (l : List UInt8) (h : l.length ≤ 7) : num l ≤ 72057594037927935 := by
  have h1 := num_lt l
  have h2 := pow_le_seven l.length h
  omega
theorem num_take_seven (l : List UInt8) (k : Nat) (h : k ≤ 7) : num (l.take k) ≤ 72057594037927935 :=
  num_seven _ (Nat.le_trans (List.length_take_le _ _) h)

/-- n in k bytes, the highest one first. -/
def be (n k : Nat) : List UInt8 := (List.range k).map fun i => UInt8.ofNat (n / 256 ^ (k - 1 - i))
theorem be_length (n k : Nat) : (be n k).length = k := by simp [be]
theorem be_at (n k j : Nat) (h : j < k) : (be n k).getD j 0 = UInt8.ofNat (n / 256 ^ (k - 1 - j)) := by
  simp [be, h]
theorem be_take (n k j : Nat) (h : j < k) : (be n k).take (j + 1) = (be n k).take j ++ [UInt8.ofNat (n / 256 ^ (k - 1 - j))] := by
  rw [take_snoc _ _ (by rw [be_length]; exact h), be_at n k j h]
theorem num_be_take (n k j : Nat) (h : j ≤ k) : num ((be n k).take j) = (n / 256 ^ (k - j)) % 256 ^ j := by
  induction j with
  | zero => simp [num_nil, Nat.mod_one]
  | succ j ih =>
    rw [be_take n k j (by omega), num_snoc, ih (by omega)]
    have e : k - j = (k - 1 - j) + 1 := by omega
    rw [show k - (j + 1) = k - 1 - j from by omega, e, Nat.pow_succ, ← Nat.div_div_eq_div_mul]
    generalize n / 256 ^ (k - 1 - j) = m
    rw [UInt8.toNat_ofNat', show 256 ^ (j + 1) = 256 * 256 ^ j from by rw [Nat.pow_succ, Nat.mul_comm], Nat.mod_mul]
    omega
/-- What is put in k bytes is the number, of its lowest bytes. -/
theorem num_be (n k : Nat) : num (be n k) = n % 256 ^ k := by
  have := num_be_take n k k (Nat.le_refl _)
  rw [List.take_of_length_le (by rw [be_length]; exact Nat.le_refl _)] at this
  simpa using this

end Go.Proofs.YtlcegchdkigibaaGreatDoor

namespace Go.Proofs.YtlcegchdkigibaaGreatDoor
set_option linter.unusedVariables false
set_option linter.unusedSimpArgs false
open Go.RowKit

theorem infoByte : (Tryz.prog.info? 5).map (fun i => (i.zero, i.size, i.bytes)) = some (some (.int .u8 0), 1, 1) := by kernel_rfl

theorem elemOf : Tryz.prog.underlying 38 = some (.slice (Tryz.prog.elem 38)) := by kernel_rfl
theorem sizeOfByte (W : World) : (sizeOf (Tryz.prog.elem 38)).run Tryz.prog W = .ok 1 W := by kernel_rfl

/-- b[k:], whatever its address is. -/
theorem RB.from_ {w : World} {A : Option Addr} {n c k : Nat} {l : List UInt8} (h : RB w A n c l) (hk : k ≤ n) :
    ∃ A2, (∀ W : World, (Instr.slice 38 (.slice A n c) (some (.int .i64 (k : Int))) none none).run Tryz.prog W = .ok (.slice A2 (n - k) (c - k)) W) ∧ RB w A2 (n - k) (c - k) (l.drop k) := by
  refine ⟨_, fun W => ?_, h.drop hk⟩
  rw [run_slice_l (P := Tryz.prog) W 38 A n c elemOf .i64 (k : Int) (by omega) (by omega), sizeOfByte]
  simp [Result.andThen, sliced]

/-- What a call leaves that answers n bytes l, and writes nothing that was there. -/
def MadeRB (W : World) (n : Nat) (l : List UInt8) (e : Ending) (w' : World) : Prop := ∃ A c, e = .returned (.slice A n c) ∧ RB w' A n c l ∧ Below W.heap.size W w'

theorem cell_new (w : World) (v : Value) (t : TypeId) : (w.alloc (.cells #[v] t)).cell? ⟨w.heap.size, 0, none⟩ = some v := by
  rw [cell_of_row (w.alloc (.cells #[v] t)) w.heap.size 0 #[v] t (0, 0) (heap_alloc_new w _)]
  rfl
theorem cell_new2 (w : World) (o : Obj) (v : Value) (t : TypeId) : ((w.alloc o).alloc (.cells #[v] t)).cell? ⟨w.heap.size + 1, 0, none⟩ = some v := by
  have h := cell_new (w.alloc o) v t
  rw [show (w.alloc o).heap.size = w.heap.size + 1 from by simp] at h
  exact h
theorem cell_old2 (w : World) (o : Obj) (v : Value) (t : TypeId) : ((w.alloc (.cells #[v] t)).alloc o).cell? ⟨w.heap.size, 0, none⟩ = some v :=
  (World.cell?_alloc_lt _ o _ (by simp)).trans (cell_new w v t)
theorem below_a (w : World) (o : Obj) : Below w.heap.size w (w.alloc o) := (Below.refl _ _).alloc (Nat.le_refl _) o
theorem below_a2 (w : World) (o o' : Obj) : Below w.heap.size w ((w.alloc o).alloc o') := (below_a w o).alloc (by simp) o'
theorem below_d {w w' : World} (h : Below w.heap.size w w') : Below w.heap.size w w'.drew := h.drew
/-- Two steps, each of which leaves all that was there. -/
theorem below_trans {a b c : World} (h : Below a.heap.size a b) (k : Below b.heap.size b c) : Below a.heap.size a c := h.trans (k.mono h.size)

/-- What a law leaves that holds. -/
def Held (W : World) (e : Ending) (w' : World) : Prop := e = .returned (.bool true) ∧ Below W.heap.size W w'

theorem own_below {w w' : World} {base : Nat} {e : TypeId} {size n : Nat} {v : Value} {xs : List Value} (h : w.ownsRow base e size v n xs) (hb : Below w.heap.size w w') : w'.ownsRow base e size v n xs := by
  refine ⟨h.1, ?_⟩
  rcases h.2 with hn | ⟨g, cap, cur, rfl, h1, hg, rest⟩
  · exact .inl hn
  · exact .inr ⟨g, cap, cur, rfl, h1, (hb.block g (Array.getElem?_eq_some_iff.1 hg).1).trans hg, rest⟩

section
variable {P : Program}

/-- append onto a literal without elements. -/
theorem wpList_app_lit {W : World} {ops : Array Oper} {rest : List Oper} {o : Oper} {a : Act} {Q : Exit → Act → World → Prop} (hgd : o.guard = none) (s x : Operand) (t e : TypeId)
    (ho : o.op = .call { callee := .builtin .append, args := #[s, x], argTypes := #[t, t] })
    (ht : P.underlying t = some (.slice e)) (hi : (P.info? e).map (fun i => (i.zero, i.size, i.bytes)) = some (some (.int .u8 0), 1, 1))
    (hs : a.eval s = .slice (some ⟨W.heap.size, 0, none⟩) 0 0)
    (A : Option Addr) (m c : Nat) (r : List UInt8) (hx : a.eval x = .slice A m c) (hr : RB W A m c r) (h40 : m ≤ 1099511627776)
    (h : ∀ A' c' w', RB w' A' m c' r → w'.ownsRow W.heap.size e 1 (.slice A' m c') m (bv r) → Below W.heap.size W w' → wpList P ops Q rest (a.put o.dst (.slice A' m c')) w') :
    wpList P ops Q (o :: rest) a (W.alloc (.cells #[] e)) := by
  have hown := World.ownsRow_lit (base := W.heap.size) (e := e) (size := 1) W #[] 0 (Nat.le_refl _) (Nat.zero_le _) rfl
  refine wpList_app _ hgd s x t e ho ht hi W.heap.size _ 0 [] hs hown A m c r hx (hr.alloc _) (by omega) (by simp) fun v' w' h1 h2 _ => ?_
  rw [Nat.zero_add, List.nil_append] at h1
  have hb := (below_a W (.cells #[] e)).grown h2 (by simp) fun k hk => (hown.lt k hk).1
  obtain ⟨A', c', rfl, hr', _⟩ := RB.of_own h1
  exact h A' c' w' hr' h1 hb

/-- append onto nil. -/
theorem wpList_app_nil {W : World} {ops : Array Oper} {rest : List Oper} {o : Oper} {a : Act} {Q : Exit → Act → World → Prop} (hgd : o.guard = none) (s x : Operand) (t e : TypeId)
    (ho : o.op = .call { callee := .builtin .append, args := #[s, x], argTypes := #[t, t] })
    (ht : P.underlying t = some (.slice e)) (hi : (P.info? e).map (fun i => (i.zero, i.size, i.bytes)) = some (some (.int .u8 0), 1, 1))
    (hs : a.eval s = .slice none 0 0)
    (A : Option Addr) (m c : Nat) (r : List UInt8) (hx : a.eval x = .slice A m c) (hr : RB W A m c r) (h40 : m ≤ 1099511627776)
    (h : ∀ A' c' w', RB w' A' m c' r → w'.ownsRow W.heap.size e 1 (.slice A' m c') m (bv r) → Below W.heap.size W w' → wpList P ops Q rest (a.put o.dst (.slice A' m c')) w') :
    wpList P ops Q (o :: rest) a W := by
  refine wpList_app _ hgd s x t e ho ht hi W.heap.size _ 0 [] hs (World.ownsRow_nil _ _ _ _) A m c r hx hr (by omega) (Nat.le_refl _) fun v' w' h1 h2 _ => ?_
  rw [Nat.zero_add, List.nil_append] at h1
  have hb := below_grown (Below.refl _ _) (World.ownsRow_nil W W.heap.size e 1) h2
  obtain ⟨A', c', rfl, hr', _⟩ := RB.of_own h1
  exact h A' c' w' hr' h1 hb

/-- append onto what the call owns. -/
theorem wpList_app_more {W w : World} {ops : Array Oper} {rest : List Oper} {o : Oper} {a : Act} {Q : Exit → Act → World → Prop} (hgd : o.guard = none) (s x : Operand) (t e : TypeId)
    (ho : o.op = .call { callee := .builtin .append, args := #[s, x], argTypes := #[t, t] })
    (ht : P.underlying t = some (.slice e)) (hi : (P.info? e).map (fun i => (i.zero, i.size, i.bytes)) = some (some (.int .u8 0), 1, 1))
    (v : Value) (n : Nat) (l : List UInt8) (hs : a.eval s = v) (hown : w.ownsRow W.heap.size e 1 v n (bv l)) (hb : Below W.heap.size W w)
    (A : Option Addr) (m c : Nat) (r : List UInt8) (hx : a.eval x = .slice A m c) (hr : RB w A m c r) (h40 : n + m ≤ 1099511627776)
    (h : ∀ A' c' w', RB w' A' (n + m) c' (l ++ r) → w'.ownsRow W.heap.size e 1 (.slice A' (n + m) c') (n + m) (bv (l ++ r)) → Below W.heap.size W w' → wpList P ops Q rest (a.put o.dst (.slice A' (n + m) c')) w') :
    wpList P ops Q (o :: rest) a w := by
  refine wpList_app _ hgd s x t e ho ht hi W.heap.size _ n l hs hown A m c r hx hr h40 hb.size fun v' w' h1 h2 _ => ?_
  have hb' := below_grown hb hown h2
  obtain ⟨A', c', rfl, hr', _⟩ := RB.of_own h1
  exact h A' c' w' hr' h1 hb'
end

/-- Bytes, as a slice: its bytes, and that it is the call's own. -/
def OwnMade (W : World) (n : Nat) (l : List UInt8) (e : Ending) (w' : World) : Prop :=
  ∃ A c, e = .returned (.slice A n c) ∧ RB w' A n c l ∧ w'.ownsRow W.heap.size 5 1 (.slice A n c) n (bv l) ∧ Below W.heap.size W w'

def Yes (W : World) (e : Ending) (w' : World) : Prop := e = .returned (.bool true) ∧ Below W.heap.size W w'

/-- A row of bytes of the call's own, of which one was written. -/
theorem own_set {w : World} {base g n cap j : Nat} {e : TypeId} {l : List UInt8} {x : Int} (h : w.ownsRow base e 1 (.slice (some ⟨g, 0, none⟩) n cap) n (bv l)) (hx : 0 ≤ x) (hx' : x < 256) :
    (w.setCell ⟨g, j, none⟩ (.int .u8 x)).ownsRow base e 1 (.slice (some ⟨g, 0, none⟩) n cap) n (bv (l.set j (UInt8.ofNat x.toNat))) := by
  have h1 := (World.ownsRow.stored h j (.int .u8 x)).1
  have e1 : (bv l).set j (.int .u8 x) = bv (l.set j (UInt8.ofNat x.toNat)) := by
    unfold bv
    rw [List.map_set, UInt8.toNat_ofNat']
    congr
    omega
  rw [e1] at h1
  exact h1
theorem own_at {w : World} {base n : Nat} {e : TypeId} {v : Value} {l : List UInt8} (h : w.ownsRow base e 1 v n (bv l)) {j : Nat} (hj : j < n) :
    ∃ g cap, v = .slice (some ⟨g, 0, none⟩) n cap ∧ base ≤ g ∧ cap ≤ 9223372036854775807 ∧ n ≤ cap ∧ w.cell? ⟨g, j, none⟩ = some (.int .u8 ((l.getD j 0).toNat : Int)) ∧ w.frozen? ⟨g, j, none⟩ = false := by
  have hl : l.length = n := by have := h.1; rw [bv_length] at this; omega
  rcases h.2 with ⟨rfl, rfl⟩ | ⟨g, cap, cur, rfl, hb, hg, hnc, hm, hs, ht⟩
  · omega
  · refine ⟨g, cap, rfl, hb, by unfold maxLen at hm; omega, hnc, ?_, World.ownsRow.frozenAt h j⟩
    rw [World.ownsRow.cellAt h j (by omega), bv_at l j (by omega)]

/-- What lies in memory that is new since a later time is new since an earlier one. -/
theorem own_mono {w : World} {base base' n : Nat} {e : TypeId} {v : Value} {xs : List Value} (h : w.ownsRow base e 1 v n xs) (hb : base' ≤ base) : w.ownsRow base' e 1 v n xs := by
  refine ⟨h.1, ?_⟩
  rcases h.2 with hn | ⟨g, cap, cur, rfl, h1, rest⟩
  · exact .inl hn
  · exact .inr ⟨g, cap, cur, rfl, Nat.le_trans hb h1, rest⟩

/-- A slice of bytes that came in: it holds some bytes. -/
theorem RB.of_row {w : World} {a : Option Addr} {len cap : Nat} {zs : List Int}
    (h : (a = none ∧ len = 0 ∧ cap = 0 ∧ zs = []) ∨ ∃ x, a = some x ∧ len ≤ cap ∧ cap ≤ maxLen ∧ zs.length = cap ∧ (∀ i, i < zs.length → w.cell? (x.add i) = some (.int .u8 (zs.getD i 0))) ∧ ∀ n ∈ zs, (Lit.int .u8 n).wf = true) :
    ∃ l, RB w a len cap l := by
  rcases h with ⟨rfl, rfl, rfl, rfl⟩ | ⟨x, rfl, h1, h2, h3, h4, h5⟩
  · exact ⟨[], RB.nil_ w⟩
  · refine ⟨(zs.take len).map fun z => UInt8.ofNat z.toNat, by rw [List.length_map, List.length_take]; omega, h1, h2, fun hn => ?_⟩
    obtain ⟨b, o, s⟩ := x
    have hc0 := h4 0 (by omega)
    have hs : s = none := by simpa [Addr.add] using World.cell?_spot hc0
    subst hs
    refine ⟨b, o, rfl, fun j hj => ?_⟩
    have hj' : j < zs.length := by omega
    have hc := h4 j hj'
    rw [Addr.add_lit] at hc
    rw [hc]
    have hw := h5 (zs.getD j 0) (by simp [hj'])
    have hb : 0 ≤ zs.getD j 0 ∧ zs.getD j 0 ≤ 255 := by
      simp only [List.getD_eq_getElem?_getD] at hw ⊢
      exact bounds_u8 hw
    congr 2
    simp only [List.getD_eq_getElem?_getD, List.getElem?_map, List.getElem?_take, hj, if_true, List.getElem?_eq_getElem hj', Option.map_some, Option.getD_some] at hb ⊢
    rw [UInt8.toNat_ofNat']
    omega

end Go.Proofs.YtlcegchdkigibaaGreatDoor

namespace Go.Proofs.YtlcegchdkigibaaGreatDoor
set_option linter.unusedVariables false
set_option linter.unusedSimpArgs false
open Go.RowKit

/-- The numbers zs, as the cells of a row hold them. -/
def iv (k : IntKind) (zs : List Int) : List Value := zs.map fun z => .int k z
theorem iv_length (k : IntKind) (zs : List Int) : (iv k zs).length = zs.length := by simp [iv]
theorem iv_append (k : IntKind) (zs ys : List Int) : iv k (zs ++ ys) = iv k zs ++ iv k ys := by simp [iv]
theorem iv_get (k : IntKind) (zs : List Int) (j : Nat) (u : Value) (h : (iv k zs)[j]? = some u) : j < zs.length ∧ u = .int k (zs.getD j 0) := by
  simp only [iv, List.getElem?_map, Option.map_eq_some_iff] at h
  obtain ⟨x, hx, rfl⟩ := h
  obtain ⟨hj, rfl⟩ := List.getElem?_eq_some_iff.1 hx
  exact ⟨hj, by simp [hj]⟩
theorem iv_at (k : IntKind) (zs : List Int) (j : Nat) (h : j < zs.length) : (iv k zs)[j]? = some (.int k (zs.getD j 0)) := by
  simp [iv, h]
theorem iv_one (k : IntKind) (zs : List Int) : ∀ u ∈ iv k zs, u.oneCell' = true := by
  intro u hu
  obtain ⟨x, _, rfl⟩ := List.mem_map.1 hu
  rfl

/-- The slice '.slice A n c' holds the numbers zs in w. -/
def RI (k : IntKind) (w : World) (A : Option Addr) (n c : Nat) (zs : List Int) : Prop :=
  zs.length = n ∧ n ≤ c ∧ c ≤ maxLen ∧ (0 < n → ∃ b o, A = some ⟨b, o, none⟩ ∧ ∀ j, j < n → w.cell? ⟨b, o + j, none⟩ = some (.int k (zs.getD j 0)))

section
variable {k : IntKind} {w w' : World} {A : Option Addr} {n c : Nat} {zs : List Int}
theorem RI.len (h : RI k w A n c zs) : zs.length = n := h.1
theorem RI.cap (h : RI k w A n c zs) : n ≤ c := h.2.1
theorem RI.max (h : RI k w A n c zs) : c ≤ 9223372036854775807 := by have := h.2.2.1; unfold maxLen at this; omega
theorem RI.at_ (h : RI k w A n c zs) {j : Nat} (hj : j < n) : ∃ b o, A = some ⟨b, o, none⟩ ∧ w.cell? ⟨b, o + j, none⟩ = some (.int k (zs.getD j 0)) := by
  obtain ⟨b, o, e, hc⟩ := h.2.2.2 (by omega)
  exact ⟨b, o, e, hc j hj⟩
theorem RI.cell {b o : Nat} (h : RI k w (some ⟨b, o, none⟩) n c zs) {j : Nat} (hj : j < n) : w.cell? ⟨b, o + j, none⟩ = some (.int k (zs.getD j 0)) := by
  obtain ⟨b', o', e, hc⟩ := h.at_ hj
  injection e with e
  injection e with e1 e2
  subst e1 e2
  exact hc
theorem RI.nil_ (k : IntKind) (w : World) : RI k w none 0 0 [] := ⟨rfl, Nat.le_refl _, Nat.zero_le _, fun h => absurd h (by omega)⟩
theorem RI.keep (h : RI k w A n c zs) (hk : ∀ p : Addr, p.block < w.heap.size → w'.cell? p = w.cell? p) : RI k w' A n c zs :=
  ⟨h.1, h.2.1, h.2.2.1, fun hn => by
    obtain ⟨b, o, e, hc⟩ := h.2.2.2 hn
    exact ⟨b, o, e, fun j hj => (hk _ (World.block_lt_of_cell? w _ (hc j hj))).trans (hc j hj)⟩⟩
theorem RI.below (h : RI k w A n c zs) (hb : Below w.heap.size w w') : RI k w' A n c zs := h.keep fun _ hp => hb.cell hp
theorem RI.alloc (h : RI k w A n c zs) (o : Obj) : RI k (w.alloc o) A n c zs := h.keep fun p hp => World.cell?_alloc_lt w o p hp
theorem RI.of_own {base : Nat} {e : TypeId} {v : Value} (h : w.ownsRow base e 1 v n (iv k zs)) : ∃ A c, v = .slice A n c ∧ RI k w A n c zs ∧ v.ownBlock = A.map (·.block) := by
  have hl : zs.length = n := by have := h.1; rw [iv_length] at this; omega
  rcases h.2 with ⟨rfl, rfl⟩ | ⟨g, cap, cur, rfl, hb, hg, hnc, hm, hs, ht⟩
  · obtain rfl : zs = [] := List.eq_nil_of_length_eq_zero hl
    exact ⟨none, 0, rfl, RI.nil_ k w, rfl⟩
  · refine ⟨_, cap, rfl, ⟨hl, hnc, hm, fun hn => ⟨g, 0, rfl, fun j hj => ?_⟩⟩, rfl⟩
    have := World.ownsRow.cellAt h j (by omega)
    rw [Nat.zero_add, this, iv_at k zs j (by omega)]
/-- A slice of numbers that came in: it holds some numbers of its kind. -/
theorem RI.of_row {a : Option Addr} {len cap : Nat} {ys : List Int}
    (h : (a = none ∧ len = 0 ∧ cap = 0 ∧ ys = []) ∨ ∃ x, a = some x ∧ len ≤ cap ∧ cap ≤ maxLen ∧ ys.length = cap ∧ (∀ i, i < ys.length → w.cell? (x.add i) = some (.int k (ys.getD i 0))) ∧ ∀ n ∈ ys, (Lit.int k n).wf = true) :
    ∃ zs, RI k w a len cap zs ∧ ∀ z ∈ zs, (Lit.int k z).wf = true := by
  rcases h with ⟨rfl, rfl, rfl, rfl⟩ | ⟨x, rfl, h1, h2, h3, h4, h5⟩
  · exact ⟨[], RI.nil_ k w, fun z hz => absurd hz (by simp)⟩
  · refine ⟨ys.take len, ⟨by rw [List.length_take]; omega, h1, h2, fun hn => ?_⟩, fun z hz => h5 z (List.mem_of_mem_take hz)⟩
    obtain ⟨b, o, s⟩ := x
    have hc0 := h4 0 (by omega)
    have hs : s = none := by simpa [Addr.add] using World.cell?_spot hc0
    subst hs
    refine ⟨b, o, rfl, fun j hj => ?_⟩
    have hc := h4 j (by omega)
    rw [Addr.add_lit] at hc
    rw [hc]
    simp [hj]
end

/-- A literal of numbers, as it lies in its new block. -/
theorem RI.lit (k : IntKind) (w : World) (zs : List Int) (t : TypeId) (hl : zs.length ≤ maxLen) : RI k (w.alloc (.cells (iv k zs).toArray t)) (some ⟨w.heap.size, 0, none⟩) zs.length zs.length zs := by
  refine ⟨rfl, Nat.le_refl _, hl, fun _ => ⟨_, 0, rfl, fun j hj => ?_⟩⟩
  rw [Nat.zero_add]
  have h := cell_of_row (w.alloc (.cells (iv k zs).toArray t)) w.heap.size j (iv k zs).toArray t (0, 0) (heap_alloc_new w _)
  rw [h]
  simpa using iv_at k zs j hj

section
variable {P : Program} (w : World)

theorem appi_none (base : Nat) (t ty e : TypeId) (i : TypeInfo) (ht : P.underlying t = some (.slice e)) (hi : P.info? e = some i)
    (v : Value) (n c : Nat) (xs : List Value) (hown : w.ownsRow base e 1 v n xs) : (Builtin.append_ #[t, t] ty #[v, .slice none 0 c]).run P w = .ok v w := by
  rcases hown.2 with ⟨rfl, rfl⟩ | ⟨g, cap, cur, rfl, _, _, hnc, _⟩
  · simp [Builtin.append_, run_underlying ht, sizeOf, typeInfo, hi, Builtin.lenOf, Builtin.firstCells]
  · simp [Builtin.append_, run_underlying ht, sizeOf, typeInfo, hi, Builtin.lenOf, Builtin.firstCells, hnc, storeCells]

theorem appi_run (k : IntKind) (t ty e : TypeId) (by_ : Nat) (ht : P.underlying t = some (.slice e)) (hi : (P.info? e).map (fun i => (i.zero, i.size, i.bytes)) = some (some (.int k 0), 1, by_)) (h8 : by_ ≤ 8)
    (base : Nat) (v : Value) (n : Nat) (l : List Int) (hown : w.ownsRow base e 1 v n (iv k l))
    (A : Option Addr) (m c : Nat) (r : List Int) (hr : RI k w A m c r) (hs : n + m ≤ 1099511627776) (hb : base ≤ w.heap.size) :
    ∃ v' w', (Builtin.append_ #[t, t] ty #[v, .slice A m c]).run P w = .ok v' w' ∧ w'.ownsRow base e 1 v' (n + m) (iv k (l ++ r)) ∧ w.grownBy w' v.ownBlock ∧
      (v'.ownBlock = v.ownBlock ∨ v'.ownBlock = some w.heap.size) := by
  obtain ⟨i, hi, hz, h1, h2⟩ := info_parts hi
  obtain ⟨rfl, hmc, hcm, hc⟩ := hr
  rcases A with _ | ad
  · have hm : r.length = 0 := by
      rcases Nat.eq_zero_or_pos r.length with h0 | h0
      · exact h0
      · obtain ⟨b, o, h, _⟩ := hc h0
        cases h
    obtain rfl : r = [] := List.eq_nil_of_length_eq_zero hm
    exact ⟨v, w, appi_none w base t ty e i ht hi v n c _ hown, by simpa using hown, World.grownBy.refl w _, .inl rfl⟩
  · have hcells : ∀ j u, (iv k r)[j]? = some u → w.cell? (ad.add j) = some u := by
      intro j u hu
      obtain ⟨hj, rfl⟩ := iv_get k r j u hu
      obtain ⟨b, o, h, hcc⟩ := hc (by omega)
      injection h with h
      subst h
      rw [Addr.add_lit]
      exact hcc j hj
    have hbb : (n + r.length) * by_ ≤ 140737488355328 := Nat.le_trans (Nat.mul_le_mul hs h8) (by decide)
    obtain ⟨v', w', hrun, g2, g3, _, g5⟩ := run_append_own_at (P := P) w base t ty e i _ 1 by_ ht hi hz h1 h2 rfl (by decide) v n (iv k l) hown ad r.length c (iv k r)
      (by rw [iv_length, Nat.mul_one]) hcells (iv_one k r) (by unfold maxLen; omega) hbb hb
    exact ⟨v', w', hrun, by rw [iv_append]; exact g2, g3, g5⟩

theorem below_growni {W w w' : World} {v : Value} {n : Nat} {e : TypeId} {xs : List Value} (h : Below W.heap.size W w) (hown : w.ownsRow W.heap.size e 1 v n xs) (hg : w.grownBy w' v.ownBlock) : Below W.heap.size W w' :=
  h.grown hg h.size fun k hk => (hown.lt k hk).1

/-- append of numbers onto what the call owns. -/
theorem wpList_appi {W w : World} {ops : Array Oper} {rest : List Oper} {o : Oper} {a : Act} {Q : Exit → Act → World → Prop} (hgd : o.guard = none) (s x : Operand) (k : IntKind) (t e : TypeId) (by_ : Nat)
    (ho : o.op = .call { callee := .builtin .append, args := #[s, x], argTypes := #[t, t] })
    (ht : P.underlying t = some (.slice e)) (hi : (P.info? e).map (fun i => (i.zero, i.size, i.bytes)) = some (some (.int k 0), 1, by_)) (h8 : by_ ≤ 8)
    (v : Value) (n : Nat) (l : List Int) (hs : a.eval s = v) (hown : w.ownsRow W.heap.size e 1 v n (iv k l)) (hb : Below W.heap.size W w)
    (A : Option Addr) (m c : Nat) (r : List Int) (hx : a.eval x = .slice A m c) (hr : RI k w A m c r) (h40 : n + m ≤ 1099511627776)
    (h : ∀ A' c' w', RI k w' A' (n + m) c' (l ++ r) → w'.ownsRow W.heap.size e 1 (.slice A' (n + m) c') (n + m) (iv k (l ++ r)) → Below W.heap.size W w' → wpList P ops Q rest (a.put o.dst (.slice A' (n + m) c')) w') :
    wpList P ops Q (o :: rest) a w := by
  obtain ⟨v', w', hrun, h1, h2, h3⟩ := appi_run (P := P) w k t o.type e by_ ht hi h8 W.heap.size v n l hown A m c r hr h40 hb.size
  have hb' := below_growni hb hown h2
  obtain ⟨A', c', rfl, hr', _⟩ := RI.of_own h1
  exact Lib.wpList_append_run w hgd s x t t ho _ _ hs hx _ w' hrun (h A' c' w' hr' h1 hb')
/-- append of numbers onto a literal without elements. -/
theorem wpList_appi_lit {W : World} {ops : Array Oper} {rest : List Oper} {o : Oper} {a : Act} {Q : Exit → Act → World → Prop} (hgd : o.guard = none) (s x : Operand) (k : IntKind) (t e : TypeId) (by_ : Nat)
    (ho : o.op = .call { callee := .builtin .append, args := #[s, x], argTypes := #[t, t] })
    (ht : P.underlying t = some (.slice e)) (hi : (P.info? e).map (fun i => (i.zero, i.size, i.bytes)) = some (some (.int k 0), 1, by_)) (h8 : by_ ≤ 8)
    (hs : a.eval s = .slice (some ⟨W.heap.size, 0, none⟩) 0 0)
    (A : Option Addr) (m c : Nat) (r : List Int) (hx : a.eval x = .slice A m c) (hr : RI k W A m c r) (h40 : m ≤ 1099511627776)
    (h : ∀ A' c' w', RI k w' A' m c' r → w'.ownsRow W.heap.size e 1 (.slice A' m c') m (iv k r) → Below W.heap.size W w' → wpList P ops Q rest (a.put o.dst (.slice A' m c')) w') :
    wpList P ops Q (o :: rest) a (W.alloc (.cells #[] e)) := by
  have hown := World.ownsRow_lit (base := W.heap.size) (e := e) (size := 1) W #[] 0 (Nat.le_refl _) (Nat.zero_le _) rfl
  refine wpList_appi (W := W) hgd s x k t e by_ ho ht hi h8 _ 0 [] hs hown ((Below.refl _ _).alloc (Nat.le_refl _) _) A m c r hx (hr.alloc _) (by omega) fun A' c' w' h1 h2 h3 => ?_
  rw [Nat.zero_add, List.nil_append] at h1 h2
  rw [Nat.zero_add]
  exact h A' c' w' h1 h2 h3
end

/-- A row of numbers of the call's own, of which one was written. -/
theorem owni_set {w : World} {base g n cap j : Nat} {k : IntKind} {e : TypeId} {l : List Int} {x : Int} (h : w.ownsRow base e 1 (.slice (some ⟨g, 0, none⟩) n cap) n (iv k l)) :
    (w.setCell ⟨g, j, none⟩ (.int k x)).ownsRow base e 1 (.slice (some ⟨g, 0, none⟩) n cap) n (iv k (l.set j x)) := by
  have h1 := (World.ownsRow.stored h j (.int k x)).1
  have e1 : (iv k l).set j (.int k x) = iv k (l.set j x) := by
    unfold iv
    rw [List.map_set]
  rw [e1] at h1
  exact h1
theorem owni_at {w : World} {base n : Nat} {k : IntKind} {e : TypeId} {v : Value} {l : List Int} (h : w.ownsRow base e 1 v n (iv k l)) (hn : 0 < n) :
    ∃ g cap, v = .slice (some ⟨g, 0, none⟩) n cap ∧ base ≤ g ∧ cap ≤ 9223372036854775807 ∧ n ≤ cap ∧ ∀ j, j < n → w.cell? ⟨g, j, none⟩ = some (.int k (l.getD j 0)) ∧ w.frozen? ⟨g, j, none⟩ = false := by
  have hl : l.length = n := by have := h.1; rw [iv_length] at this; omega
  rcases h.2 with ⟨rfl, rfl⟩ | ⟨g, cap, cur, rfl, hb, hg, hnc, hm, hs, ht⟩
  · omega
  · refine ⟨g, cap, rfl, hb, by unfold maxLen at hm; omega, hnc, fun j hj => ⟨?_, World.ownsRow.frozenAt h j⟩⟩
    rw [World.ownsRow.cellAt h j (by omega), iv_at k l j (by omega)]
end Go.Proofs.YtlcegchdkigibaaGreatDoor

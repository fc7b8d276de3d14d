/- What every contract over this program leans on: the cells of a byte, new blocks, what a call leaves that makes memory, append in a walk. No condition. -/
import Derived.Test.YtpjjamlblnphdaaDoorChecked
import Derived.Test.YtpjjamlblnphdaaDoorApp
import Derived.Test.YtpjjamlblnphdaaDoorNum
import Derived.WalkKit
import Derived.Deep.QuietTactic
import Derived.BigQuiet
import Derived.Lib.MinMax
import Derived.WalkLawsBesides
import Derived.OpenShut
import Derived.WalkSpells
namespace Go.Proofs.YtpjjamlblnphdaaDoor
set_option linter.unusedVariables false
set_option linter.unusedSimpArgs false
open Go.RowKit

theorem infoByte : (Tryd.prog.info? 5).map (fun i => (i.zero, i.size, i.bytes)) = some (some (.int .u8 0), 1, 1) := by kernel_rfl

theorem elemOf : Tryd.prog.underlying 31 = some (.slice (Tryd.prog.elem 31)) := by kernel_rfl
theorem sizeOfByte (W : World) : (sizeOf (Tryd.prog.elem 31)).run Tryd.prog W = .ok 1 W := by kernel_rfl

/-- b[k:], whatever its address is. -/
theorem RB.from_ {w : World} {A : Option Addr} {n c k : Nat} {l : List UInt8} (h : RB w A n c l) (hk : k ≤ n) :
    ∃ A2, (∀ W : World, (Instr.slice 31 (.slice A n c) (some (.int .i64 (k : Int))) none none).run Tryd.prog W = .ok (.slice A2 (n - k) (c - k)) W) ∧ RB w A2 (n - k) (c - k) (l.drop k) := by
  refine ⟨_, fun W => ?_, h.drop hk⟩
  rw [run_slice_l (P := Tryd.prog) W 31 A n c elemOf .i64 (k : Int) (by omega) (by omega), sizeOfByte]
  simp [Result.andThen, sliced]

/-- What a call leaves that answers n bytes l, and writes nothing that was there. -/
def MadeRB (W : World) (n : Nat) (l : List UInt8) (e : Ending) (w' : World) : Prop := ∃ A c, e = .returned (.slice A n c) ∧ RB w' A n c l ∧ Below W.heap.size W w'

theorem cell_new (w : World) (v : Value) (t : TypeId) : (w.alloc (.cells #[v] t)).cell? ⟨w.heap.size, 0, none⟩ = some v := by
  rw [cell_of_row (w.alloc (.cells #[v] t)) w.heap.size 0 #[v] t (0, 0) (heap_alloc_new w _)]
  rfl
theorem cell_new2 (w : World) (o : Obj) (v : Value) (t : TypeId) : ((w.alloc o).alloc (.cells #[v] t)).cell? ⟨w.heap.size + 1, 0, none⟩ = some v := by
  have h := cell_new (w.alloc o) v t
  rw [show (w.alloc o).heap.size = w.heap.size + 1 from by simp] at h
  exact h
theorem cell_old2 (w : World) (o : Obj) (v : Value) (t : TypeId) : ((w.alloc (.cells #[v] t)).alloc o).cell? ⟨w.heap.size, 0, none⟩ = some v :=
  (World.cell?_alloc_lt _ o _ (by simp)).trans (cell_new w v t)
theorem below_a (w : World) (o : Obj) : Below w.heap.size w (w.alloc o) := (Below.refl _ _).alloc (Nat.le_refl _) o
theorem below_a2 (w : World) (o o' : Obj) : Below w.heap.size w ((w.alloc o).alloc o') := (below_a w o).alloc (by simp) o'
theorem below_d {w w' : World} (h : Below w.heap.size w w') : Below w.heap.size w w'.drew := h.drew
/-- Two steps, each of which leaves all that was there. -/
theorem below_trans {a b c : World} (h : Below a.heap.size a b) (k : Below b.heap.size b c) : Below a.heap.size a c := h.trans (k.mono h.size)

/-- What a law leaves that holds. -/
def Held (W : World) (e : Ending) (w' : World) : Prop := e = .returned (.bool true) ∧ Below W.heap.size W w'

theorem own_below {w w' : World} {base : Nat} {e : TypeId} {size n : Nat} {v : Value} {xs : List Value} (h : w.ownsRow base e size v n xs) (hb : Below w.heap.size w w') : w'.ownsRow base e size v n xs := by
  refine ⟨h.1, ?_⟩
  rcases h.2 with hn | ⟨g, cap, cur, rfl, h1, hg, rest⟩
  · exact .inl hn
  · exact .inr ⟨g, cap, cur, rfl, h1, (hb.block g (Array.getElem?_eq_some_iff.1 hg).1).trans hg, rest⟩

section
variable {P : Program}

/-- append onto a literal without elements. -/
theorem wpList_app_lit {W : World} {ops : Array Oper} {rest : List Oper} {o : Oper} {a : Act} {Q : Exit → Act → World → Prop} (hgd : o.guard = none) (s x : Operand) (t e : TypeId)
    (ho : o.op = .call { callee := .builtin .append, args := #[s, x], argTypes := #[t, t] })
    (ht : P.underlying t = some (.slice e)) (hi : (P.info? e).map (fun i => (i.zero, i.size, i.bytes)) = some (some (.int .u8 0), 1, 1))
    (hs : a.eval s = .slice (some ⟨W.heap.size, 0, none⟩) 0 0)
    (A : Option Addr) (m c : Nat) (r : List UInt8) (hx : a.eval x = .slice A m c) (hr : RB W A m c r) (h40 : m ≤ 1099511627776)
    (h : ∀ A' c' w', RB w' A' m c' r → w'.ownsRow W.heap.size e 1 (.slice A' m c') m (bv r) → Below W.heap.size W w' → wpList P ops Q rest (a.put o.dst (.slice A' m c')) w') :
    wpList P ops Q (o :: rest) a (W.alloc (.cells #[] e)) := by
  have hown := World.ownsRow_lit (base := W.heap.size) (e := e) (size := 1) W #[] 0 (Nat.le_refl _) (Nat.zero_le _) rfl
  refine wpList_app _ hgd s x t e ho ht hi W.heap.size _ 0 [] hs hown A m c r hx (hr.alloc _) (by omega) (by simp) fun v' w' h1 h2 _ => ?_
  rw [Nat.zero_add, List.nil_append] at h1
  have hb := (below_a W (.cells #[] e)).grown h2 (by simp) fun k hk => (hown.lt k hk).1
  obtain ⟨A', c', rfl, hr', _⟩ := RB.of_own h1
  exact h A' c' w' hr' h1 hb

/-- append onto nil. -/
theorem wpList_app_nil {W : World} {ops : Array Oper} {rest : List Oper} {o : Oper} {a : Act} {Q : Exit → Act → World → Prop} (hgd : o.guard = none) (s x : Operand) (t e : TypeId)
    (ho : o.op = .call { callee := .builtin .append, args := #[s, x], argTypes := #[t, t] })
    (ht : P.underlying t = some (.slice e)) (hi : (P.info? e).map (fun i => (i.zero, i.size, i.bytes)) = some (some (.int .u8 0), 1, 1))
    (hs : a.eval s = .slice none 0 0)
    (A : Option Addr) (m c : Nat) (r : List UInt8) (hx : a.eval x = .slice A m c) (hr : RB W A m c r) (h40 : m ≤ 1099511627776)
    (h : ∀ A' c' w', RB w' A' m c' r → w'.ownsRow W.heap.size e 1 (.slice A' m c') m (bv r) → Below W.heap.size W w' → wpList P ops Q rest (a.put o.dst (.slice A' m c')) w') :
    wpList P ops Q (o :: rest) a W := by
  refine wpList_app _ hgd s x t e ho ht hi W.heap.size _ 0 [] hs (World.ownsRow_nil _ _ _ _) A m c r hx hr (by omega) (Nat.le_refl _) fun v' w' h1 h2 _ => ?_
  rw [Nat.zero_add, List.nil_append] at h1
  have hb := below_grown (Below.refl _ _) (World.ownsRow_nil W W.heap.size e 1) h2
  obtain ⟨A', c', rfl, hr', _⟩ := RB.of_own h1
  exact h A' c' w' hr' h1 hb

/-- append onto what the call owns. -/
theorem wpList_app_more {W w : World} {ops : Array Oper} {rest : List Oper} {o : Oper} {a : Act} {Q : Exit → Act → World → Prop} (hgd : o.guard = none) (s x : Operand) (t e : TypeId)
    (ho : o.op = .call { callee := .builtin .append, args := #[s, x], argTypes := #[t, t] })
    (ht : P.underlying t = some (.slice e)) (hi : (P.info? e).map (fun i => (i.zero, i.size, i.bytes)) = some (some (.int .u8 0), 1, 1))
    (v : Value) (n : Nat) (l : List UInt8) (hs : a.eval s = v) (hown : w.ownsRow W.heap.size e 1 v n (bv l)) (hb : Below W.heap.size W w)
    (A : Option Addr) (m c : Nat) (r : List UInt8) (hx : a.eval x = .slice A m c) (hr : RB w A m c r) (h40 : n + m ≤ 1099511627776)
    (h : ∀ A' c' w', RB w' A' (n + m) c' (l ++ r) → w'.ownsRow W.heap.size e 1 (.slice A' (n + m) c') (n + m) (bv (l ++ r)) → Below W.heap.size W w' → wpList P ops Q rest (a.put o.dst (.slice A' (n + m) c')) w') :
    wpList P ops Q (o :: rest) a w := by
  refine wpList_app _ hgd s x t e ho ht hi W.heap.size _ n l hs hown A m c r hx hr h40 hb.size fun v' w' h1 h2 _ => ?_
  have hb' := below_grown hb hown h2
  obtain ⟨A', c', rfl, hr', _⟩ := RB.of_own h1
  exact h A' c' w' hr' h1 hb'
end

/-- Bytes, as a slice: its bytes, and that it is the call's own. -/
def OwnMade (W : World) (n : Nat) (l : List UInt8) (e : Ending) (w' : World) : Prop :=
  ∃ A c, e = .returned (.slice A n c) ∧ RB w' A n c l ∧ w'.ownsRow W.heap.size 5 1 (.slice A n c) n (bv l) ∧ Below W.heap.size W w'

def Yes (W : World) (e : Ending) (w' : World) : Prop := e = .returned (.bool true) ∧ Below W.heap.size W w'

/-- A row of bytes of the call's own, of which one was written. -/
theorem own_set {w : World} {base g n cap j : Nat} {e : TypeId} {l : List UInt8} {x : Int} (h : w.ownsRow base e 1 (.slice (some ⟨g, 0, none⟩) n cap) n (bv l)) (hx : 0 ≤ x) (hx' : x < 256) :
    (w.setCell ⟨g, j, none⟩ (.int .u8 x)).ownsRow base e 1 (.slice (some ⟨g, 0, none⟩) n cap) n (bv (l.set j (UInt8.ofNat x.toNat))) := by
  have h1 := (World.ownsRow.stored h j (.int .u8 x)).1
  have e1 : (bv l).set j (.int .u8 x) = bv (l.set j (UInt8.ofNat x.toNat)) := by
    unfold bv
    rw [List.map_set, UInt8.toNat_ofNat']
    congr
    omega
  rw [e1] at h1
  exact h1
theorem own_at {w : World} {base n : Nat} {e : TypeId} {v : Value} {l : List UInt8} (h : w.ownsRow base e 1 v n (bv l)) {j : Nat} (hj : j < n) :
    ∃ g cap, v = .slice (some ⟨g, 0, none⟩) n cap ∧ base ≤ g ∧ cap ≤ 9223372036854775807 ∧ n ≤ cap ∧ w.cell? ⟨g, j, none⟩ = some (.int .u8 ((l.getD j 0).toNat : Int)) ∧ w.frozen? ⟨g, j, none⟩ = false := by
  have hl : l.length = n := by have := h.1; rw [bv_length] at this; omega
  rcases h.2 with ⟨rfl, rfl⟩ | ⟨g, cap, cur, rfl, hb, hg, hnc, hm, hs, ht⟩
  · omega
  · refine ⟨g, cap, rfl, hb, by unfold maxLen at hm; omega, hnc, ?_, World.ownsRow.frozenAt h j⟩
    rw [World.ownsRow.cellAt h j (by omega), bv_at l j (by omega)]

/-- What lies in memory that is new since a later time is new since an earlier one. -/
theorem own_mono {w : World} {base base' n : Nat} {e : TypeId} {v : Value} {xs : List Value} (h : w.ownsRow base e 1 v n xs) (hb : base' ≤ base) : w.ownsRow base' e 1 v n xs := by
  refine ⟨h.1, ?_⟩
  rcases h.2 with hn | ⟨g, cap, cur, rfl, h1, rest⟩
  · exact .inl hn
  · exact .inr ⟨g, cap, cur, rfl, Nat.le_trans hb h1, rest⟩

/-- A slice of bytes that came in: it holds some bytes. -/
theorem RB.of_row {w : World} {a : Option Addr} {len cap : Nat} {zs : List Int}
    (h : (a = none ∧ len = 0 ∧ cap = 0 ∧ zs = []) ∨ ∃ x, a = some x ∧ len ≤ cap ∧ cap ≤ maxLen ∧ zs.length = cap ∧ (∀ i, i < zs.length → w.cell? (x.add i) = some (.int .u8 (zs.getD i 0))) ∧ ∀ n ∈ zs, (Lit.int .u8 n).wf = true) :
    ∃ l, RB w a len cap l := by
  rcases h with ⟨rfl, rfl, rfl, rfl⟩ | ⟨x, rfl, h1, h2, h3, h4, h5⟩
  · exact ⟨[], RB.nil_ w⟩
  · refine ⟨(zs.take len).map fun z => UInt8.ofNat z.toNat, by rw [List.length_map, List.length_take]; omega, h1, h2, fun hn => ?_⟩
    obtain ⟨b, o, s⟩ := x
    have hc0 := h4 0 (by omega)
    have hs : s = none := by simpa [Addr.add] using World.cell?_spot hc0
    subst hs
    refine ⟨b, o, rfl, fun j hj => ?_⟩
    have hj' : j < zs.length := by omega
    have hc := h4 j hj'
    rw [Addr.add_lit] at hc
    rw [hc]
    have hw := h5 (zs.getD j 0) (by simp [hj'])
    have hb : 0 ≤ zs.getD j 0 ∧ zs.getD j 0 ≤ 255 := by
      simp only [List.getD_eq_getElem?_getD] at hw ⊢
      exact bounds_u8 hw
    congr 2
    simp only [List.getD_eq_getElem?_getD, List.getElem?_map, List.getElem?_take, hj, if_true, List.getElem?_eq_getElem hj', Option.map_some, Option.getD_some] at hb ⊢
    rw [UInt8.toNat_ofNat']
    omega

end Go.Proofs.YtpjjamlblnphdaaDoor

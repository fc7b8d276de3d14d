/- A map from tokens to what is known of them, as a list. No condition.
A table of tokens, as its callers see it. No condition.
A key is taken: the contract of Take. Conditions: the table of constants holds; the list has at most 2^40 numbers of 64 bits.
A map from tokens gone through, whatever its order. No condition.
Time goes on: the contract of Tick. Condition: the ticks are whole numbers of 64 bits. -/
import Derived.Test.YtlcegchdkigibaaGreatDoorMg4
import Derived.Test.YtlcegchdkigibaaGreatDoorMg6
import Derived.Test.YtlcegchdkigibaaGreatDoorMg3
import Derived.Test.YtlcegchdkigibaaGreatDoorMg2
import Derived.Deep.RegionHeld3
namespace Go.Proofs.YtlcegchdkigibaaGreatDoor.LT
set_option linter.unusedVariables false
set_option linter.unusedSimpArgs false
open Go.RowKit

/-- What is known of a token: is it live; whose it is; when it was freed. -/
structure Ent where
  live : Bool
  owner : Int
  freed : Int
deriving DecidableEq
def Ent.val (e : Ent) : Value := .agg #[.bool e.live, .int .i64 e.owner, .int .i64 e.freed]
def Ent.dat (e : Ent) : DataW Unit := .agg [.lit (.bool e.live), .lit (.int .i64 e.owner), .lit (.int .i64 e.freed)]
def Ent.none : Ent := ⟨false, 0, 0⟩
/-- How an element reads. -/
def pe : Value → Option (DataW Unit × List MemPlace)
  | .agg ⟨[.bool b, .int .i64 o, .int .i64 f]⟩ => some ((Ent.mk b o f).dat, [])
  | _ => Option.none
theorem pe_val (e : Ent) : pe e.val = some (e.dat, []) := rfl
theorem Ent.dat_inj {e f : Ent} (h : e.dat = f.dat) : e = f := by
  unfold Ent.dat at h
  injection h with h
  injection h with h1 h
  injection h with h2 h
  injection h with h3 _
  injection h1 with h1
  injection h1 with h1
  injection h2 with h2
  injection h2 with _ h2
  injection h3 with h3
  injection h3 with _ h3
  cases e
  cases f
  simp_all
theorem pe_any {v : Value} {y : DataW Unit × List MemPlace} (h : pe v = some y) : ∃ e : Ent, v = e.val ∧ y = (e.dat, []) := by
  unfold pe at h
  split at h
  · injection h with h
    exact ⟨⟨_, _, _⟩, rfl, h.symm⟩
  · cases h
theorem pe_inv {v : Value} {e : Ent} {ps : List MemPlace} (h : pe v = some (e.dat, ps)) : v = e.val := by
  obtain ⟨f, rfl, hf⟩ := pe_any h
  injection hf with h1 _
  rw [Ent.dat_inj h1]

theorem keyU : Maps.Keyed Tryz.prog 36 := Maps.int_keyed Tryz.underlying36
def tk (k : Nat) : Lit := .int .u32 (k : Int)
theorem tk_wf {k : Nat} (h : k < 4294967296) : (tk k).wf = true := by
  simp [tk, Lit.wf, IntKind.min, IntKind.max, IntKind.bits, IntKind.signed]
  omega
theorem tk_inj {a b : Nat} (h : tk a = tk b) : a = b := by
  unfold tk at h
  injection h with _ h
  exact Int.ofNat.inj h
theorem tk_same {a b : Nat} : (tk a).sameKey (tk b) = decide (a = b) := by
  by_cases e : a = b
  · subst e
    simp [tk, Lit.sameKey]
  · have : (a : Int) ≠ (b : Int) := fun h => e (Int.ofNat.inj h)
    simp [tk, Lit.sameKey, e, this]
theorem keyOfU {k : Nat} (h : k < 4294967296) : keyOf Tryz.prog 36 (.int .u32 (k : Int)) = some (tk k) := Maps.keyOf_int_mk Tryz.underlying36 (tk_wf h)
theorem isKeyT (k : Nat) : WideAt.IsKeyLit (tk k) := by
  first
    | exact trivial
    | simp [WideAt.IsKeyLit, tk]

abbrev Ents := List (Nat × Ent)
def keys (l : Ents) : List Nat := l.map Prod.fst
/-- What a list knows of a token. -/
def fnd (l : Ents) (k : Nat) : Option Ent := (l.find? fun p => decide (p.1 = k)).map Prod.snd
/-- l with another entry for k. -/
def upd (l : Ents) (k : Nat) (e : Ent) : Ents := l.map fun p => if p.1 = k then (k, e) else p
def wo (l : Ents) (k : Nat) : Ents := l.filter fun p => decide (p.1 ≠ k)

theorem keys_upd (l : Ents) (k : Nat) (e : Ent) : keys (upd l k e) = keys l := by
  unfold keys upd
  rw [List.map_map]
  refine List.map_congr_left fun p _ => ?_
  by_cases h : p.1 = k <;> simp [h]
theorem fnd_none {l : Ents} {k : Nat} : fnd l k = Option.none ↔ k ∉ keys l := by
  unfold fnd keys
  rw [Option.map_eq_none_iff, List.find?_eq_none]
  simp only [List.mem_map, not_exists, not_and]
  exact ⟨fun h p hp e => h p hp (by simpa using e), fun h p hp e => h p hp (by simpa using e)⟩
theorem fnd_some {l : Ents} {k : Nat} {e : Ent} (h : fnd l k = some e) : (k, e) ∈ l := by
  unfold fnd at h
  obtain ⟨p, hp, rfl⟩ := Option.map_eq_some_iff.1 h
  have h1 := List.find?_some hp
  have h2 := List.mem_of_find?_eq_some hp
  obtain ⟨a, b⟩ := p
  simp at h1
  subst h1
  exact h2
theorem mem_keys {l : Ents} {p : Nat × Ent} (h : p ∈ l) : p.1 ∈ keys l := List.mem_map_of_mem (f := Prod.fst) h
theorem ents_inj {l : Ents} (hn : (keys l).Nodup) {k : Nat} {e f : Ent} (h : (k, e) ∈ l) (h' : (k, f) ∈ l) : e = f := by
  induction l with
  | nil => cases h
  | cons p l ih =>
    unfold keys at hn ih
    rw [List.map_cons, List.nodup_cons] at hn
    rcases List.mem_cons.1 h with h1 | h1
    · rcases List.mem_cons.1 h' with h2 | h2
      · have := h1.trans h2.symm
        injection this
      · exact absurd (List.mem_map_of_mem (f := Prod.fst) h2) (by rw [← h1] at hn; exact hn.1)
    · rcases List.mem_cons.1 h' with h2 | h2
      · exact absurd (List.mem_map_of_mem (f := Prod.fst) h1) (by rw [← h2] at hn; exact hn.1)
      · exact ih hn.2 h1 h2
theorem fnd_mem {l : Ents} (hn : (keys l).Nodup) {k : Nat} {e : Ent} (h : (k, e) ∈ l) : fnd l k = some e := by
  cases hf : fnd l k with
  | none => exact absurd (mem_keys h) (fnd_none.1 hf)
  | some f => rw [ents_inj hn h (fnd_some hf)]

/-- The datum D is the list l. -/
structure RD (D : DataW Unit) (l : Ents) : Prop where
  size : Maps.size D = l.length
  nd : (keys l).Nodup
  has : ∀ k, k < 4294967296 → Maps.has D (tk k) = decide (k ∈ keys l)
  at_ : ∀ p, p ∈ l → ∀ z, D.atKey (tk p.1) z = p.2.dat
  key : ∀ p, p ∈ l → p.1 < 4294967296

section
variable {D : DataW Unit} {l : Ents} {k : Nat} {e : Ent}
theorem RD.atf (h : RD D l) (hk : k < 4294967296) : D.atKey (tk k) Ent.none.dat = ((fnd l k).getD Ent.none).dat := by
  cases hf : fnd l k with
  | none =>
    have := h.has k hk
    rw [decide_eq_false (fnd_none.1 hf)] at this
    exact Maps.atKey_of_not_has this _
  | some e => exact h.at_ _ (fnd_some hf) _
theorem RD.put (h : RD D l) (hm : Maps.IsMap D) (ht : Maps.Tidy D) (hk : k < 4294967296) (hn : k ∉ keys l) (e : Ent) : RD (D.put (tk k) e.dat) (l ++ [(k, e)]) where
  size := by
    rw [Maps.size_put ht, h.has k hk, decide_eq_false hn, h.size]
    simp
  nd := by
    unfold keys
    rw [List.map_append, List.nodup_append]
    refine ⟨h.nd, by simp, fun a ha b hb => ?_⟩
    simp at hb
    subst hb
    exact fun e => hn (e ▸ ha)
  has j hj := by
    by_cases e1 : j = k
    · subst e1
      rw [Maps.has_put_same hm (isKeyT _)]
      simp [keys]
    · rw [Maps.has_put_other (fun e' => e1 (tk_inj e')), h.has j hj]
      exact decide_eq_decide.2 ⟨fun h => by unfold keys at *; rw [List.map_append]; exact List.mem_append_left _ h, fun h => by
        unfold keys at *
        rw [List.map_append] at h
        rcases List.mem_append.1 h with h | h
        · exact h
        · exact absurd (by simpa using h) e1⟩
  at_ p hp z := by
    rcases List.mem_append.1 hp with hp | hp
    · have e1 : p.1 ≠ k := fun e => hn (e ▸ mem_keys hp)
      rw [Maps.atKey_put_other (fun e' => e1 (tk_inj e'))]
      exact h.at_ p hp z
    · simp at hp
      subst hp
      exact Maps.atKey_put_same hm (isKeyT _) _ _
  key p hp := by
    rcases List.mem_append.1 hp with hp | hp
    · exact h.key p hp
    · simp at hp
      subst hp
      exact hk
theorem mem_upd {p : Nat × Ent} (hp : p ∈ upd l k e) : p.1 = k ∧ p.2 = e ∨ p.1 ≠ k ∧ p ∈ l := by
  unfold upd at hp
  obtain ⟨q, hq, rfl⟩ := List.mem_map.1 hp
  by_cases h : q.1 = k
  · simp [h]
  · simp [h, hq]
theorem RD.upd (h : RD D l) (hm : Maps.IsMap D) (ht : Maps.Tidy D) (hk : k < 4294967296) (hn : k ∈ keys l) (e : Ent) : RD (D.put (tk k) e.dat) (upd l k e) where
  size := by
    rw [Maps.size_put ht, h.has k hk, decide_eq_true hn, h.size]
    exact (List.length_map _).symm
  nd := by rw [keys_upd]; exact h.nd
  has j hj := by
    rw [keys_upd]
    by_cases e1 : j = k
    · subst e1
      rw [Maps.has_put_same hm (isKeyT _)]
      simp [hn]
    · rw [Maps.has_put_other (fun e' => e1 (tk_inj e')), h.has j hj]
  at_ p hp z := by
    rcases mem_upd hp with ⟨h1, h2⟩ | ⟨h1, h2⟩
    · rw [h1, h2]
      exact Maps.atKey_put_same hm (isKeyT _) _ _
    · rw [Maps.atKey_put_other (fun e' => h1 (tk_inj e'))]
      exact h.at_ p h2 z
  key p hp := by
    rcases mem_upd hp with ⟨h1, h2⟩ | ⟨h1, h2⟩
    · rw [h1]; exact hk
    · exact h.key p h2
theorem mem_wo {p : Nat × Ent} : p ∈ wo l k ↔ p ∈ l ∧ p.1 ≠ k := by
  unfold wo
  rw [List.mem_filter, decide_eq_true_iff]
theorem keys_wo {j : Nat} : j ∈ keys (wo l k) ↔ j ∈ keys l ∧ j ≠ k := by
  unfold keys
  simp only [List.mem_map, mem_wo]
  constructor
  · rintro ⟨p, ⟨h1, h2⟩, rfl⟩
    exact ⟨⟨p, h1, rfl⟩, h2⟩
  · rintro ⟨⟨p, h1, rfl⟩, h2⟩
    exact ⟨p, ⟨h1, h2⟩, rfl⟩
theorem wo_length (hn : (keys l).Nodup) (hk : k ∈ keys l) : (wo l k).length + 1 = l.length := by
  induction l with
  | nil => cases hk
  | cons p l ih =>
    unfold keys at hn ih hk
    rw [List.map_cons, List.nodup_cons] at hn
    rw [List.map_cons, List.mem_cons] at hk
    by_cases e : p.1 = k
    · have h1 : wo l k = l := by
        unfold wo
        rw [List.filter_eq_self]
        intro q hq
        have : q.1 ≠ k := fun e' => hn.1 (by rw [e, ← e']; exact List.mem_map_of_mem (f := Prod.fst) hq)
        simpa using this
      have h2 : wo (p :: l) k = wo l k := by
        unfold wo
        rw [List.filter_cons_of_neg (by simpa using e)]
      rw [h2, h1]
      rfl
    · have h2 : wo (p :: l) k = p :: wo l k := by
        unfold wo
        rw [List.filter_cons_of_pos (by simpa using e)]
      rw [h2, List.length_cons, ih hn.2 (hk.resolve_left fun h => e h.symm), List.length_cons]
theorem RD.del (h : RD D l) (ht : Maps.Tidy D) (hk : k < 4294967296) (hn : k ∈ keys l) : RD (D.del (tk k)) (wo l k) where
  size := by
    have h1 := Maps.size_del (k := tk k) ht
    rw [h.has k hk, decide_eq_true hn, h.size] at h1
    have h2 := wo_length h.nd hn
    simp at h1
    omega
  nd := by
    have : keys (wo l k) = (keys l).filter fun j => decide (j ≠ k) := by
      unfold keys wo
      rw [List.filter_map]
      rfl
    rw [this]
    exact h.nd.filter _
  has j hj := by
    by_cases e1 : j = k
    · subst e1
      rw [Maps.has_del_same]
      have : j ∉ keys (wo l j) := fun h => (keys_wo.1 h).2 rfl
      simp [this]
    · rw [Maps.has_del_other (fun e' => e1 (tk_inj e')), h.has j hj]
      exact decide_eq_decide.2 ⟨fun h => keys_wo.2 ⟨h, e1⟩, fun h => (keys_wo.1 h).1⟩
  at_ p hp z := by
    obtain ⟨h1, h2⟩ := mem_wo.1 hp
    rw [Maps.atKey_del_other (fun e' => h2 (tk_inj e'))]
    exact h.at_ p h1 z
  key p hp := h.key p (mem_wo.1 hp).1
end

/-- Block mb is a map that holds l. -/
def MapE (w : World) (mb : Nat) (l : Ents) : Prop := ∃ D : DataW Unit, w.ownsMap Tryz.prog 36 pe mb l.length D ∧ RD D l

theorem own_size {w : World} {mb n m : Nat} {D : DataW Unit} (h : w.ownsMap Tryz.prog 36 pe mb n D) (hs : Maps.size D = m) : w.ownsMap Tryz.prog 36 pe mb m D := by
  obtain ⟨es, cl, hb, hf, hle, he⟩ := h
  refine ⟨es, cl, hb, hf, ?_, he⟩
  rw [he] at hs
  simp only [Maps.size, length_sorted, List.length_map, Array.length_toList] at hs
  omega

section
variable {w w' : World} {mb : Nat} {l : Ents}
theorem MapE.lt (h : MapE w mb l) : mb < w.heap.size := h.elim fun _ h => h.1.lt
theorem MapE.keep (h : MapE w mb l) (e : w'.heap[mb]? = w.heap[mb]?) : MapE w' mb l := by
  obtain ⟨D, ⟨es, cl, hb, rest⟩, r2⟩ := h
  exact ⟨D, ⟨es, cl, e.trans hb, rest⟩, r2⟩
theorem MapE.nd (h : MapE w mb l) : (keys l).Nodup := h.elim fun _ h => h.2.nd
theorem MapE.key (h : MapE w mb l) : ∀ p, p ∈ l → p.1 < 4294967296 := h.elim fun _ h => h.2.key
theorem MapE.made (w : World) : MapE (w.alloc (.map #[] 0)) w.heap.size [] :=
  ⟨.map [], World.ownsMap_made w _ _ _, rfl, List.nodup_nil, fun _ _ => rfl, fun _ h => (by cases h), fun _ h => (by cases h)⟩
end

theorem zeroE (w : World) : (zeroValue 124).run Tryz.prog w = .ok Ent.none.val w := Tryz.zeroValue124 w

section
variable {w : World} {ops : Array Oper} {rest : List Oper} {o : Oper} {a : Act} {Q : Exit → Act → World → Prop} {mb : Nat} {l : Ents} {k : Nat}

theorem wpList_lookE (hg : o.guard = none) (m x : Operand) (hop : o.op = Op.lookup 97 m x true) (hm : a.eval m = .map (some mb)) (hM : MapE w mb l) (hk : k < 4294967296) (hx : a.eval x = .int .u32 (k : Int)) {r : Option Ent} (hF : fnd l k = r) {v : Value} (hv : (r.getD Ent.none).val = v) {b : Bool} (hb : r.isSome = b)
    (hK : wpList Tryz.prog ops Q rest (a.put o.dst (.tuple #[v, .bool b])) w) :
    wpList Tryz.prog ops Q (o :: rest) a w := by
  obtain ⟨D, hown, R⟩ := hM
  refine wpList_lookup_own_ok w hg m x 97 hop 36 124 keyU Tryz.underlying97 pe (zeroE w) Ent.none.dat [] rfl mb _ D hm hown (.int .u32 (k : Int)) (tk k) hx (keyOfU hk) fun v' ps hv' => ?_
  rw [R.atf hk, hF] at hv'
  have e2 : Maps.has D (tk k) = r.isSome := by
    rw [R.has k hk, ← hF]
    cases hf : fnd l k with
    | none => simpa using fnd_none.1 hf
    | some e => simpa using mem_keys (fnd_some hf)
  rw [e2, pe_inv hv', hv, hb]
  exact hK

theorem wpList_delE (hg : o.guard = none) (m x : Operand) (hop : o.op = Op.call { callee := Callee.builtin Builtin.delete, args := #[m, x], argTypes := #[97, 36] }) (hm : a.eval m = .map (some mb)) (hM : MapE w mb l) (hk : k < 4294967296) (hx : a.eval x = .int .u32 (k : Int)) (hn : k ∈ keys l)
    (hK : ∀ w', MapE w' mb (wo l k) → w.mapTurned w' mb → wpList Tryz.prog ops Q rest (a.put o.dst (.tuple #[])) w') :
    wpList Tryz.prog ops Q (o :: rest) a w := by
  obtain ⟨D, hown, R⟩ := hM
  refine wpList_delete_own w hg m x 97 36 hop 124 keyU Tryz.underlying97 pe mb _ D hm hown (.int .u32 (k : Int)) (tk k) hx (keyOfU hk) fun w' hown' ht => hK w' ?_ ht
  have R' := R.del (hown.tidy keyU) hk hn
  exact ⟨_, own_size hown' R'.size, R'⟩

theorem wpList_putE (hg : o.guard = none) (m x v : Operand) (hop : o.op = Op.mapUpdate 97 m x v) (hm : a.eval m = .map (some mb)) (hM : MapE w mb l) (hk : k < 4294967296) (hx : a.eval x = .int .u32 (k : Int)) (e : Ent) (hv : a.eval v = e.val) (hU : l.length ≤ 1099511627776) {l' : Ents} (hl : k ∉ keys l ∧ l' = l ++ [(k, e)] ∨ k ∈ keys l ∧ l' = upd l k e)
    (hK : ∀ w', MapE w' mb l' → w.mapTurned w' mb → wpList Tryz.prog ops Q rest (a.put o.dst undef) w') :
    wpList Tryz.prog ops Q (o :: rest) a w := by
  obtain ⟨D, hown, R⟩ := hM
  refine wpList_mapUpdate_in w hg m x v 97 hop 36 124 keyU Tryz.underlying97 pe mb _ D hm hown (by unfold maxLen; omega) (.int .u32 (k : Int)) e.val (tk k) hx hv (keyOfU hk) _ [] (pe_val e) fun w' hown' ht => hK w' ?_ ht
  rcases hl with ⟨hn, rfl⟩ | ⟨hn, rfl⟩
  · have R' := R.put hown.isMap (hown.tidy keyU) hk hn e
    exact ⟨_, own_size hown' R'.size, R'⟩
  · have R' := R.upd hown.isMap (hown.tidy keyU) hk hn e
    exact ⟨_, own_size hown' R'.size, R'⟩

theorem wpList_lenE (hg : o.guard = none) (m : Operand) (hop : o.op = Op.call { callee := Callee.builtin Builtin.len, args := #[m], argTypes := #[97] }) (hm : a.eval m = .map (some mb)) (hM : MapE w mb l)
    (hK : wpList Tryz.prog ops Q rest (a.put o.dst (.int .i64 (l.length : Int))) w) :
    wpList Tryz.prog ops Q (o :: rest) a w := by
  obtain ⟨D, hown, R⟩ := hM
  refine wpList_len_own w hg m 97 hop 36 124 Tryz.underlying97 pe mb _ D hm hown ?_
  rw [R.size]
  exact hK
end
/-- len(m), as an equation for the walk. -/
theorem MapE.leng {w : World} {mb : Nat} {l : Ents} (hM : MapE w mb l) (W : World) (hW : W.heap[mb]? = w.heap[mb]?) (ty : TypeId) : (Builtin.len_ #[97] ty #[.map (some mb)]).run Tryz.prog W = .ok (.int .i64 (l.length : Int)) W := by
  obtain ⟨D, hown, R⟩ := hM.keep hW
  rw [hown.len Tryz.underlying97 ty, R.size]
/-- m[k], as an equation for the walk. -/
theorem MapE.look {w : World} {mb : Nat} {l : Ents} (hM : MapE w mb l) {k : Nat} (hk : k < 4294967296) (W : World) (hW : W.heap[mb]? = w.heap[mb]?) : (Instr.lookup 97 (.map (some mb)) (.int .u32 (k : Int)) false).run Tryz.prog W = .ok ((fnd l k).getD Ent.none).val W := by
  obtain ⟨D, hown, R⟩ := hM.keep hW
  obtain ⟨v, ps, hrun, hv⟩ := hown.lookup keyU Tryz.underlying97 (zeroE W) (zd := Ent.none.dat) rfl (keyOfU hk)
  rw [R.atf hk] at hv
  rw [pe_inv hv] at hrun
  exact hrun

end Go.Proofs.YtlcegchdkigibaaGreatDoor.LT

namespace Go.Proofs.YtlcegchdkigibaaGreatDoor.LT
open Go.Proofs.YtlcegchdkigibaaGreatDoor.LK
set_option linter.unusedVariables false
set_option linter.unusedSimpArgs false
open Go.RowKit

def ptr (b : Nat) : Value := .pointer (some ⟨b, 0, none⟩)
def isI (h : Int) : Prop := -9223372036854775808 ≤ h ∧ h ≤ 9223372036854775807

/-- At block tb stands a table with room for c tokens; its map, at block mb, holds l. -/
structure Tb (w : World) (tb mb c : Nat) (l : Ents) : Prop where
  blk : w.heap[tb]? = some (.cells #[.int .i64 (c : Int), .map (some mb)] 99 (0, 0))
  map : MapE w mb l
  room : c ≤ 64
  fits : l.length ≤ c

section
variable {w w' : World} {tb mb c : Nat} {l : Ents}
theorem Tb.lt (h : Tb w tb mb c l) : tb < w.heap.size := (Array.getElem?_eq_some_iff.1 h.blk).1
theorem Tb.c0 (h : Tb w tb mb c l) : w.cell? ⟨tb, 0, none⟩ = some (.int .i64 (c : Int)) := by rw [cell_of_row w tb 0 _ _ (0, 0) h.blk]; rfl
theorem Tb.c1 (h : Tb w tb mb c l) : w.cell? ⟨tb, 1, none⟩ = some (.map (some mb)) := by rw [cell_of_row w tb 1 _ _ (0, 0) h.blk]; rfl
theorem Tb.ne (h : Tb w tb mb c l) : tb ≠ mb := fun e => by
  obtain ⟨D, ⟨es, cl, hb, _⟩, _⟩ := h.map
  have h1 := h.blk
  rw [e, hb] at h1
  cases h1
theorem Tb.ch (h : Tb w tb mb c l) {m : Nat → Prop} (k : Ch w w' m) (h1 : ¬ m tb) (h2 : ¬ m mb) : Tb w' tb mb c l := ⟨(k.block tb h.lt h1).trans h.blk, h.map.keep (k.block mb h.map.lt h2), h.room, h.fits⟩
theorem Tb.below (h : Tb w tb mb c l) (b : RowKit.Below w.heap.size w w') : Tb w' tb mb c l := h.ch (Ch.of_below (fun _ => False) b) (fun e => e) fun e => e
theorem Tb.drew (h : Tb w tb mb c l) : Tb w.drew tb mb c l := h.ch (Ch.refl w fun _ => False).drew (fun e => e) fun e => e
theorem Tb.drewN (h : Tb w tb mb c l) (n : Nat) : Tb (w.drewN n) tb mb c l := h.ch ((Ch.refl w fun _ => False).drewN n) (fun e => e) fun e => e
theorem Tb.alloc (h : Tb w tb mb c l) (o : Obj) : Tb (w.alloc o) tb mb c l := h.ch ((Ch.refl w fun _ => False).alloc o) (fun e => e) fun e => e
theorem Tb.put (h : Tb w tb mb c l) {l' : Ents} (k : Ch w w' (fun g => g = mb)) (hm : MapE w' mb l') (hf : l'.length ≤ c) : Tb w' tb mb c l' := ⟨(k.block tb h.lt h.ne).trans h.blk, hm, h.room, hf⟩
end

/-- How much room there is. -/
def cp (t : Int) : Nat := (min (max t 1) 64).toNat
theorem cp_eq (t : Int) : ((cp t : Nat) : Int) = min (max t 1) 64 := by unfold cp; omega
theorem cp_le (t : Int) : 1 ≤ cp t ∧ cp t ≤ 64 := by unfold cp; omega

set_option maxHeartbeats 1600000 in
theorem tnew_any (t : Int) (ht : isI t) (w : World) : Calls Tryz.prog 30 #[.int .i64 t] w fun e w' => ∃ tb mb, e = .returned (ptr tb) ∧ Tb w' tb mb (cp t) [] ∧ RowKit.Below w.heap.size w w' ∧ w.heap.size ≤ tb ∧ w.heap.size ≤ mb := by
  have hmm := @run_makeMap Tryz.prog
  have hc := cp_eq t
  have hc2 := cp_le t
  have key : Tb ((w.alloc (.map #[] 0)).alloc (.cells #[.int .i64 (cp t : Nat), .map (some w.heap.size)] 99)) (w.heap.size + 1) w.heap.size (cp t) [] := by
    refine ⟨?_, (MapE.made w).keep (Below.heap_alloc _ _ _ (by simp)), hc2.2, Nat.zero_le _⟩
    have h := heap_alloc_new (w.alloc (.map #[] 0)) (.cells #[.int .i64 (cp t : Nat), .map (some w.heap.size)] 99)
    rw [World.size_alloc] at h
    exact h
  have HK := Lib.hid key
  clear key
  generalize cp t = n at *
  unfold isI at ht
  obtain ⟨M, hM⟩ : ∃ M, max t 1 = M := ⟨_, rfl⟩
  rw [hM] at hc
  have hc3 := hc.symm
  clear hc
  unfold ptr at *
  go_enter Tryz.func30, Tryz.ntmps30
  go_wp2_with fail
  go_ret
  exact ⟨w.heap.size + 1, w.heap.size, rfl, HK.out, ((RowKit.Below.refl _ _).alloc (Nat.le_refl _) _).alloc (by simp) _, by omega, Nat.le_refl _⟩

set_option maxHeartbeats 1600000 in
theorem tfind_any {w : World} {tb mb c : Nat} {l : Ents} (h : Tb w tb mb c l) {k : Nat} (hk : k < 4294967296) :
    Calls Tryz.prog 122 #[ptr tb, .int .u32 (k : Int)] w fun e w' => e = .returned (.tuple #[.int .i64 ((fnd l k).getD Ent.none).owner, .bool ((fnd l k).getD Ent.none).live]) ∧ RowKit.Below w.heap.size w w' := by
  have c1 := h.c1
  have hl := h.map.look hk w rfl
  clear hk
  generalize (fnd l k).getD Ent.none = e at *
  obtain ⟨lv, ow, fr⟩ := e
  unfold Ent.val at hl
  dsimp only at hl ⊢
  have hb : RowKit.Below w.heap.size w (w.alloc (.cells #[.bool lv, .int .i64 ow, .int .i64 fr] 124)) := below_a _ _
  have HB := Lib.hid hb
  clear h hb
  unfold ptr
  go_enter Tryz.func122, Tryz.ntmps122
  go_wp2_with fail
  go_quiet (fail)
  go_wp2_with fail
  go_ret2
  exact ⟨rfl, below_dn HB.out _⟩

theorem fld0 (b : Bool) (o f : Int) (w : World) : (Instr.field 124 (.agg #[.bool b, .int .i64 o, .int .i64 f]) 0).run Tryz.prog w = .ok (.bool b) w := by kernel_rfl

set_option maxRecDepth 20000 in
set_option maxHeartbeats 1600000 in
theorem tfree_no {w : World} {tb mb c : Nat} {l : Ents} (h : Tb w tb mb c l) {k : Nat} (hk : k < 4294967296) (hn : ((fnd l k).getD Ent.none).live = false) (t : Int) :
    Calls Tryz.prog 124 #[ptr tb, .int .u32 (k : Int), .int .i64 t] w fun e w' => e = .returned (.int .i64 6) ∧ w' = w := by
  have c1 := h.c1
  have hl := h.map.look hk w rfl
  clear hk h
  generalize (fnd l k).getD Ent.none = e at *
  obtain ⟨lv, ow, fr⟩ := e
  unfold Ent.val at hl
  dsimp only at hl hn
  subst hn
  have hfd := fld0 false ow fr w
  unfold ptr
  go_enter Tryz.func124, Tryz.ntmps124
  go_wp2_with fail
  go_ret
  exact ⟨rfl, rfl⟩
set_option maxRecDepth 20000 in
set_option maxHeartbeats 1600000 in
theorem tfree_yes {w : World} {tb mb c : Nat} {l : Ents} (h : Tb w tb mb c l) {k : Nat} (hk : k < 4294967296) (hn : ((fnd l k).getD Ent.none).live = true) (t : Int) :
    Calls Tryz.prog 124 #[ptr tb, .int .u32 (k : Int), .int .i64 t] w fun e w' => e = .returned (.int .i64 0) ∧ Tb w' tb mb c (upd l k ⟨false, 0, t⟩) ∧ Ch w w' (fun g => g = mb) := by
  have c1 := h.c1
  have hl := h.map.look hk w rfl
  have hin : k ∈ keys l := by
    cases hf : fnd l k with
    | none => rw [hf] at hn; cases hn
    | some e => exact mem_keys (fnd_some hf)
  have HT := Lib.hid h
  have HKK := Lib.hid hk
  have HIN := Lib.hid hin
  have hfit := h.fits
  have hroom := h.room
  clear hk h hin
  generalize (fnd l k).getD Ent.none = e at *
  obtain ⟨lv, ow, fr⟩ := e
  unfold Ent.val at hl
  dsimp only at hl hn
  subst hn
  have hfd := fld0 true ow fr w
  unfold ptr
  go_enter Tryz.func124, Tryz.ntmps124
  go_wp2_with (first | (at_mapUpdate; refine wpList_putE rfl _ _ _ rfl rfl HT.out.map HKK.out rfl ⟨false, 0, t⟩ rfl (by omega) (.inr ⟨HIN.out, rfl⟩) ?_; intro w4 M4 tu))
  go_ret
  have hch := (Ch.refl w (fun g => g = mb)).turned tu fun _ => rfl
  exact ⟨rfl, HT.out.put hch M4 (by unfold upd; rw [List.length_map]; exact HT.out.fits), hch⟩

end Go.Proofs.YtlcegchdkigibaaGreatDoor.LT

namespace Go.Proofs.YtlcegchdkigibaaGreatDoor.LT
open Go.Proofs.YtlcegchdkigibaaGreatDoor.LK
set_option linter.unusedVariables false
set_option linter.unusedSimpArgs false
open Go.RowKit

section
variable {w : World} {tb mb c : Nat} {l : Ents} {A : Option Addr} {n cc : Nat} {zs : List Int} {owner : Int}

set_option maxHeartbeats 1600000 in
theorem ttake_full (h : Tb w tb mb c l) (hf : l.length = c) : Calls Tryz.prog 68 #[ptr tb, .int .i64 owner, .slice A n cc] w fun e w' => e = .returned (.tuple #[.int .u64 0, .int .i64 0, .int .i64 15]) ∧ RowKit.Below w.heap.size w w' := by
  have c0 := h.c0
  have c1 := h.c1
  have hlen := fun (m : Nat) (ty : TypeId) => h.map.leng (w.drewN m) rfl ty
  rw [hf] at hlen
  clear h hf
  unfold ptr
  go_enter Tryz.func68, Tryz.ntmps68
  go_wp2_with fail
  go_quiet (fail)
  go_wp2_with fail
  go_ret3
  exact ⟨rfl, below_dn (Below.refl _ _) _⟩

/-- What all of the first j keys are: some entry's. -/
def Ahead (l : Ents) (zs : List Int) (j : Nat) : Prop := ∀ i, i < j → kt (zs.getD i 0).toNat ∈ keys l

set_option maxRecDepth 20000 in
set_option maxHeartbeats 4000000 in
theorem ttake_none (h : Tb w tb mb c l) (hT : Tab w) (hf : l.length < c) (r : RI .u64 w A n cc zs) (hz : ∀ z ∈ zs, 0 ≤ z ∧ z < 18446744073709551616) (hn : n ≤ 1099511627776) (ha : Ahead l zs n) :
    Calls Tryz.prog 68 #[ptr tb, .int .i64 owner, .slice A n cc] w fun e w' => e = .returned (.tuple #[.int .u64 0, .int .i64 (n : Int), .int .i64 6]) ∧ RowKit.Below w.heap.size w w' := by
  have c0 := h.c0
  have c1 := h.c1
  have hlen := fun (m : Nat) (ty : TypeId) => h.map.leng (w.drewN m) rfl ty
  have HH := Lib.hid h
  have HT := Lib.hid hT
  have HR := Lib.hid r
  have HZ := Lib.hid hz
  have HA := Lib.hid ha
  have hll : ¬ c ≤ l.length := by omega
  have hzl := r.len
  clear h hT r hz ha hf
  generalize l.length = ll at *
  unfold ptr at *
  go_enter Tryz.func68, Tryz.ntmps68
  go_wp2_with fail
  go_quiet (fail)
  go_wp2_with fail
  clear hlen
  go_loopw [28] (fun ix wr => ∃ q : Nat, q ≤ n ∧ ix = .int .i64 (q : Int) ∧ RowKit.Below w.heap.size w wr) (fun ix _ => n - (intOf ix).toNat)
  case atStart => exact ⟨0, Nat.zero_le _, rfl, below_dn (Below.refl _ _) _⟩
  case round =>
    obtain ⟨q, hq, rfl, b⟩ := hrel
    by_cases hqn : q < n
    · obtain ⟨g, o, rfl, ck⟩ := (HR.out.below b).at_ hqn
      have hin := HA.out q hqn
      obtain ⟨k, hk⟩ : ∃ k : Nat, zs.getD q 0 = k := ⟨_, (Int.toNat_of_nonneg (HZ.out _ (by rw [List.getD_eq_getElem?_getD, List.getElem?_eq_getElem (by omega)]; exact List.getElem_mem _)).1).symm⟩
      have hkl := (HZ.out (zs.getD q 0) (by rw [List.getD_eq_getElem?_getD, List.getElem?_eq_getElem (by omega)]; exact List.getElem_mem _)).2
      rw [hk] at ck hin hkl
      rw [Int.toNat_natCast] at hin
      have HTK := Lib.hid (token_any k wr (by omega) (HT.out.below b))
      have HTB := Lib.hid (HH.out.below b)
      have HB := Lib.hid b
      have HKL := Lib.hid (kt_lt k)
      obtain ⟨e, he⟩ : ∃ e, fnd l (kt k) = some e := by
        cases hf : fnd l (kt k) with
        | none => exact absurd hin (fnd_none.1 hf)
        | some e => exact ⟨e, rfl⟩
      have HE := Lib.hid he
      obtain ⟨lv, ow, fr⟩ := e
      clear b hk hin hkl he
      generalize kt k = t at *
      go_wp2_with (first
        | (go_at_call 104; refine (HTK.out).mono ?_; rintro e w1 ⟨rfl, b1⟩; have T1 := HTB.out.below b1; have c2 := T1.c1; have HM1 := Lib.hid T1.map; have HB1 := Lib.hid b1; clear b1 T1)
        | (at_lookup; refine wpList_lookE rfl _ _ rfl rfl HM1.out HKL.out rfl HE.out (v := .agg #[.bool lv, .int .i64 ow, .int .i64 fr]) rfl rfl ?_))
      go_roundw
      case rel => exact ⟨q + 1, by omega, by go_num, HB.out.trans ((HB1.out.mono HB.out.size).alloc (by have := HB.out.size; have := HB1.out.size; omega) _)⟩
      case measure => simp [intOf]; omega
    · obtain rfl : q = n := by omega
      have HB := Lib.hid b
      clear b
      go_wp2_with fail
      go_ret3
      exact ⟨rfl, HB.out⟩

set_option maxRecDepth 20000 in
set_option maxHeartbeats 4000000 in
theorem ttake_hit (h : Tb w tb mb c l) (hT : Tab w) (hf : l.length < c) (r : RI .u64 w A n cc zs) (hz : ∀ z ∈ zs, 0 ≤ z ∧ z < 18446744073709551616) (hn : n ≤ 1099511627776) {j : Nat} (hj : j < n) (ha : Ahead l zs j) (hh : kt (zs.getD j 0).toNat ∉ keys l) :
    Calls Tryz.prog 68 #[ptr tb, .int .i64 owner, .slice A n cc] w fun e w' => e = .returned (.tuple #[.int .u64 (zs.getD j 0), .int .i64 (j : Int), .int .i64 0]) ∧ Tb w' tb mb c (l ++ [(kt (zs.getD j 0).toNat, ⟨true, owner, 0⟩)]) ∧ Ch w w' (fun g => g = mb) := by
  have c0 := h.c0
  have c1 := h.c1
  have hlen := fun (m : Nat) (ty : TypeId) => h.map.leng (w.drewN m) rfl ty
  have HH := Lib.hid h
  have HT := Lib.hid hT
  have HR := Lib.hid r
  have HZ := Lib.hid hz
  have HA := Lib.hid ha
  have HN := Lib.hid hh
  have hll : ¬ c ≤ l.length := by omega
  have hroom := h.room
  have hzl := r.len
  have hlu : l.length ≤ 1099511627776 := by omega
  have HLU := Lib.hid hlu
  have HLC := Lib.hid hf
  clear h hT r hz ha hf hh hlu
  generalize hlln : l.length = ll at *
  have HLL := Lib.hid hlln
  clear hlln
  unfold ptr at *
  go_enter Tryz.func68, Tryz.ntmps68
  go_wp2_with fail
  go_quiet (fail)
  go_wp2_with fail
  clear hlen
  go_loopw [28] (fun ix wr => ∃ q : Nat, q ≤ j ∧ ix = .int .i64 (q : Int) ∧ RowKit.Below w.heap.size w wr) (fun ix _ => n - (intOf ix).toNat)
  case atStart => exact ⟨0, Nat.zero_le _, rfl, below_dn (Below.refl _ _) _⟩
  case round =>
    obtain ⟨q, hq, rfl, b⟩ := hrel
    have hqn : q < n := by omega
    obtain ⟨g, o, rfl, ck⟩ := (HR.out.below b).at_ hqn
    obtain ⟨k, hk⟩ : ∃ k : Nat, zs.getD q 0 = k := ⟨_, (Int.toNat_of_nonneg (HZ.out _ (by rw [List.getD_eq_getElem?_getD, List.getElem?_eq_getElem (by omega)]; exact List.getElem_mem _)).1).symm⟩
    have hkl := (HZ.out (zs.getD q 0) (by rw [List.getD_eq_getElem?_getD, List.getElem?_eq_getElem (by omega)]; exact List.getElem_mem _)).2
    rw [hk] at ck hkl
    have HTK := Lib.hid (token_any k wr (by omega) (HT.out.below b))
    have HTB := Lib.hid (HH.out.below b)
    have HB := Lib.hid b
    have HKL := Lib.hid (kt_lt k)
    by_cases hqj : q < j
    · have hin := HA.out q hqj
      rw [hk, Int.toNat_natCast] at hin
      obtain ⟨e, he⟩ : ∃ e, fnd l (kt k) = some e := by
        cases hf : fnd l (kt k) with
        | none => exact absurd hin (fnd_none.1 hf)
        | some e => exact ⟨e, rfl⟩
      have HE := Lib.hid he
      obtain ⟨lv, ow, fr⟩ := e
      clear b hk hin hkl he
      generalize kt k = t at *
      go_wp2_with (first
        | (go_at_call 104; refine (HTK.out).mono ?_; rintro e w1 ⟨rfl, b1⟩; have T1 := HTB.out.below b1; have c2 := T1.c1; have HM1 := Lib.hid T1.map; have HB1 := Lib.hid b1; clear b1 T1)
        | (at_lookup; refine wpList_lookE rfl _ _ rfl rfl HM1.out HKL.out rfl HE.out (v := .agg #[.bool lv, .int .i64 ow, .int .i64 fr]) rfl rfl ?_))
      go_roundw
      case rel => exact ⟨q + 1, by omega, by go_num, HB.out.trans ((HB1.out.mono HB.out.size).alloc (by have := HB.out.size; have := HB1.out.size; omega) _)⟩
      case measure => simp [intOf]; omega
    · obtain rfl : q = j := by omega
      have hno := HN.out
      rw [hk, Int.toNat_natCast] at hno
      have he : fnd l (kt k) = Option.none := fnd_none.2 hno
      have HE := Lib.hid he
      have HNO := Lib.hid hno
      have HKE := Lib.hid hk
      clear b hkl he hno hk
      generalize hkt : kt k = t at *
      have HKT := Lib.hid hkt
      clear hkt
      go_wp2_with (first
        | (go_at_call 104; refine (HTK.out).mono ?_; rintro e w1 ⟨rfl, b1⟩; have T1 := HTB.out.below b1; have c2 := T1.c1; have T2 := T1.alloc (.cells #[.bool false, .int .i64 0, .int .i64 0] 124); have c3 := T2.c1; have HM1 := Lib.hid T1.map; have HT2 := Lib.hid T2; have HB1 := Lib.hid b1; clear b1 T1 T2)
        | (at_lookup; refine wpList_lookE rfl _ _ rfl rfl HM1.out HKL.out rfl HE.out (v := .agg #[.bool false, .int .i64 0, .int .i64 0]) rfl rfl ?_)
        | (at_mapUpdate; refine wpList_putE rfl _ _ _ rfl rfl HT2.out.map HKL.out rfl ⟨true, owner, 0⟩ rfl (by rw [HLL.out]; exact HLU.out) (.inl ⟨HNO.out, rfl⟩) ?_; intro w4 M4 tu))
      go_ret3
      have hch := (Ch.refl (w1.alloc (.cells #[.bool false, .int .i64 0, .int .i64 0] 124)) (fun g => g = mb)).turned tu fun _ => rfl
      have hb : RowKit.Below w.heap.size w (w1.alloc (.cells #[.bool false, .int .i64 0, .int .i64 0] 124)) := HB.out.trans ((HB1.out.mono HB.out.size).alloc (by have := HB.out.size; have := HB1.out.size; omega) _)
      rw [HKE.out, Int.toNat_natCast, HKT.out]
      exact ⟨rfl, HT2.out.put hch M4 (by rw [List.length_append, HLL.out]; have := HLC.out; simp; omega), (Ch.of_below _ hb).then_ hch⟩

end

end Go.Proofs.YtlcegchdkigibaaGreatDoor.LT

namespace Go.Proofs.YtlcegchdkigibaaGreatDoor.LT
open Go.Proofs.YtlcegchdkigibaaGreatDoor.LK
set_option linter.unusedVariables false
set_option linter.unusedSimpArgs false
open Go.RowKit

/-- Block r goes through the map at mb, which holds l: left says which tokens are still to come. -/
def Rg (w : World) (mb r : Nat) (l : Ents) (left : Nat → Bool) (cnt : Nat) : Prop :=
  ∃ (D : DataW Unit) (n : Nat) (lf : Lit → Bool), w.ranges Tryz.prog 36 pe mb r n D lf cnt ∧ RD D l ∧ ∀ k, k < 4294967296 → lf (tk k) = left k

section
variable {w w' : World} {mb r cnt : Nat} {l : Ents} {left : Nat → Bool}
theorem Rg.left_eq (h : Rg w mb r l left cnt) : w.rangeLeft mb r = cnt := by
  obtain ⟨D, n, lf, h, _⟩ := h
  exact h.left_eq
theorem Rg.mapE (h : Rg w mb r l left cnt) : MapE w mb l := by
  obtain ⟨D, n, lf, h, R, _⟩ := h
  exact ⟨D, own_size h.owns R.size, R⟩
theorem Rg.keep (h : Rg w mb r l left cnt) {row : Option Nat} (hg : w.grownBy w' row) (h1 : row ≠ some mb) (h2 : row ≠ some r) : Rg w' mb r l left cnt := by
  obtain ⟨D, n, lf, h, R⟩ := h
  exact ⟨D, n, lf, h.kept hg (fun e => h1 e.symm) (fun e => h2 e.symm), R⟩
theorem Rg.lt (h : Rg w mb r l left cnt) : r < w.heap.size ∧ mb < w.heap.size ∧ r ≠ mb := by
  have hm := h.mapE.lt
  obtain ⟨D, n, lf, h, R⟩ := h
  exact ⟨h.lt, hm, h.ne⟩
theorem Rg.below (h : Rg w mb r l left cnt) (b : RowKit.Below w.heap.size w w') : Rg w' mb r l left cnt :=
  h.keep (row := Option.none) ⟨b.os, b.tape, b.output, b.size, fun k hk _ => b.block k hk⟩ (fun e => by cases e) fun e => by cases e
end

section
variable {w : World} {ops : Array Oper} {rest : List Oper} {o : Oper} {a : Act} {Q : Exit → Act → World → Prop} {mb r cnt : Nat} {l : Ents} {left : Nat → Bool}

theorem wpList_rangeE (hg : o.guard = none) (m : Operand) (hop : o.op = Op.range 97 m) (hm : a.eval m = .map (some mb)) (hM : MapE w mb l)
    (hK : ∀ w', Rg w' mb w.heap.size l (fun k => decide (k ∈ keys l)) l.length → RowKit.Below w.heap.size w w' → w'.heap.size = w.heap.size + 1 → wpList Tryz.prog ops Q rest (a.put o.dst (.pointer (some ⟨w.heap.size, 0, none⟩))) w') :
    wpList Tryz.prog ops Q (o :: rest) a w := by
  obtain ⟨D, hown, R⟩ := hM
  refine wpList_range_own w hg m 97 hop 36 124 keyU Tryz.underlying97 pe mb _ D hm hown fun w' h1 h2 h3 => hK w' ?_ ⟨h2.os, h2.tape, h2.output, h2.size, fun k hk => h2.block k hk (by simp)⟩ h3
  exact ⟨D, _, Maps.has D, by rw [← R.size]; exact h1, R, R.has⟩

theorem wpList_nextE (hg : o.guard = none) (it : Operand) (hop : o.op = Op.next it false) (hit : a.eval it = .pointer (some ⟨r, 0, none⟩)) (h : Rg w mb r l left cnt)
    (hDone : (∀ k, k < 4294967296 → left k = false) → wpList Tryz.prog ops Q rest (a.put o.dst (.tuple #[.bool false])) w)
    (hMore : ∀ (k : Nat) (e : Ent) (w' : World) (cnt' : Nat), k < 4294967296 → left k = true → (k, e) ∈ l → Rg w' mb r l (fun j => left j && !decide (j = k)) cnt' → cnt' < cnt → w.grownBy w' (some r) → w'.heap.size = w.heap.size →
      (Instr.entry (.pointer (some ⟨r, 0, none⟩))).run Tryz.prog w' = .ok (.tuple #[.int .u32 (k : Int), .agg #[.bool e.live, .int .i64 e.owner, .int .i64 e.freed]]) w' →
      wpList Tryz.prog ops Q rest (a.put o.dst (.tuple #[.bool true, .int .u32 (k : Int), .agg #[.bool e.live, .int .i64 e.owner, .int .i64 e.freed]])) w') :
    wpList Tryz.prog ops Q (o :: rest) a w := by
  obtain ⟨D, n, lf, hr, R, hlf⟩ := h
  refine wpList_next_ranges w hg it hop 36 keyU pe (Value.int .u32) Ent.val (fun key kl hkey => by obtain ⟨x, rfl, _⟩ := Maps.keyOf_int_inv Tryz.underlying36 hkey; exact ⟨x, rfl⟩) (fun v y hv => by obtain ⟨e, rfl, _⟩ := pe_any hv; exact ⟨e, rfl⟩)
    mb r n D lf cnt hit hr (fun _ hl => hDone fun k hk => by rw [← hlf k hk]; exact hl _) fun x c kl y w' cnt' hkey hlk hv hat hrg hlt hgr hsz hen => ?_
  obtain ⟨x', ex, rfl, hwx⟩ := Maps.keyOf_int_inv Tryz.underlying36 hkey
  injection ex with _ ex
  subst ex
  have hb := Go.bounds_u32 hwx
  obtain ⟨k, rfl⟩ := Int.eq_ofNat_of_zero_le hb.1
  have hk : k < 4294967296 := by omega
  rw [pe_val] at hv
  injection hv with hv
  subst hv
  have hin : k ∈ keys l := by
    cases hd : decide (k ∈ keys l) with
    | true => simpa using hd
    | false =>
      have h1 := R.has k hk
      rw [hd] at h1
      have h2 := Maps.atKey_of_not_has h1 (.nil : DataW Unit)
      have h3 := hat .nil
      change D.atKey (tk k) .nil = c.dat at h3
      rw [h2] at h3
      cases h3
  obtain ⟨p, hp, hpk⟩ := List.mem_map.1 hin
  have hce : p.2 = c := by
    have h1 := R.at_ p hp .nil
    rw [hpk] at h1
    exact Ent.dat_inj (h1.symm.trans (hat .nil))
  have hmem : (k, c) ∈ l := by
    rw [← hce, ← hpk]
    exact hp
  refine hMore k c w' cnt' hk (by rw [← hlf k hk]; exact hlk) hmem ⟨D, n, _, hrg, R, fun j hj => ?_⟩ hlt hgr hsz hen
  show (lf (tk j) && !(tk j).sameKey (tk k)) = _
  rw [tk_same, hlf j hj]

theorem wpList_delR (hg : o.guard = none) (m x : Operand) (hop : o.op = Op.call { callee := Callee.builtin Builtin.delete, args := #[m, x], argTypes := #[97, 36] }) (hm : a.eval m = .map (some mb)) (h : Rg w mb r l left cnt) {k : Nat} (hk : k < 4294967296) (hx : a.eval x = .int .u32 (k : Int)) (hin : k ∈ keys l)
    (hK : ∀ w' cnt', Rg w' mb r (wo l k) (fun j => left j && !decide (j = k)) cnt' → cnt' ≤ cnt → w.mapTurned w' mb → wpList Tryz.prog ops Q rest (a.put o.dst (.tuple #[])) w') :
    wpList Tryz.prog ops Q (o :: rest) a w := by
  obtain ⟨D, n, lf, hr, R, hlf⟩ := h
  refine wpList_delete_ranges w hg m x 97 36 hop 124 keyU Tryz.underlying97 pe mb r n D lf cnt hm hr (.int .u32 (k : Int)) (tk k) hx (keyOfU hk) fun w' cnt' h1 h2 h3 => hK w' cnt' ⟨_, n, _, h1, R.del (hr.owns.tidy keyU) hk hin, fun j hj => ?_⟩ h2 h3
  show (lf (tk j) && !(tk j).sameKey (tk k)) = _
  rw [tk_same, hlf j hj]
end

/-- Is the quarantine of an entry over? -/
def ov (e : Ent) (t : Int) : Bool := !e.live && decide (e.freed + 10 ≤ t)
/-- What is left while time goes on: those that are still to come, and those whose time isn't over. -/
def Kp (l : Ents) (left : Nat → Bool) (t : Int) : Ents := l.filter fun p => left p.1 || !ov p.2 t

theorem Kp.start (l : Ents) (t : Int) : Kp l (fun k => decide (k ∈ keys l)) t = l := by
  unfold Kp
  rw [List.filter_eq_self]
  intro p hp
  have := mem_keys hp
  simp [this]
theorem Kp.stays {l : Ents} {left : Nat → Bool} {t : Int} (hn : (keys l).Nodup) {k : Nat} {e : Ent} (he : (k, e) ∈ l) (ho : ov e t = false) : Kp l (fun j => left j && !decide (j = k)) t = Kp l left t := by
  unfold Kp
  refine List.filter_congr fun p hp => ?_
  by_cases e1 : p.1 = k
  · obtain ⟨a, b⟩ := p
    subst e1
    have := ents_inj hn he hp
    subst this
    simp [ho]
  · simp [e1]
theorem Kp.goes {l : Ents} {left : Nat → Bool} {t : Int} (hn : (keys l).Nodup) {k : Nat} {e : Ent} (he : (k, e) ∈ l) (ho : ov e t = true) : Kp l (fun j => left j && !decide (j = k)) t = wo (Kp l left t) k := by
  unfold Kp wo
  rw [List.filter_filter]
  refine List.filter_congr fun p hp => ?_
  by_cases e1 : p.1 = k
  · obtain ⟨a, b⟩ := p
    subst e1
    have := ents_inj hn he hp
    subst this
    simp [ho]
  · simp [e1]
theorem Kp.done {l : Ents} {left : Nat → Bool} {t : Int} (hk : ∀ p, p ∈ l → p.1 < 4294967296) (h : ∀ k, k < 4294967296 → left k = false) : Kp l left t = l.filter fun p => !ov p.2 t := by
  unfold Kp
  refine List.filter_congr fun p hp => ?_
  rw [h p.1 (hk p hp)]
  simp

theorem sub_wrap {t f : Int} (h1 : isI t) (h2 : isI f) (h : f ≤ t) : IntKind.u64.wrap (IntKind.u64.wrap t - IntKind.u64.wrap f) = t - f := by
  unfold isI at *
  simp [IntKind.wrap, IntKind.bits, IntKind.signed]
  omega

set_option maxRecDepth 20000 in
set_option maxHeartbeats 1600000 in
theorem over_any (e : Ent) (t : Int) (w : World) (hf : isI e.freed) (ht : isI t) : Calls Tryz.prog 83 #[.agg #[.bool e.live, .int .i64 e.owner, .int .i64 e.freed], .int .i64 t] w fun en w' => en = .returned (.bool (ov e t)) ∧ RowKit.Below w.heap.size w w' := by
  obtain ⟨lv, ow, f⟩ := e
  dsimp only at *
  have HB := Lib.hid (below_a w (.cells #[.bool lv, .int .i64 ow, .int .i64 f] 124))
  have key : ov ⟨lv, ow, f⟩ t = (!lv && decide (f + 10 ≤ t)) := rfl
  have HK := Lib.hid key
  have HW := Lib.hid (fun h => sub_wrap ht hf h)
  clear key hf ht
  cases lv with
  | true =>
    go_enter Tryz.func83, Tryz.ntmps83
    go_wp2_with fail
    go_ret
    exact ⟨by rw [HK.out]; rfl, HB.out⟩
  | false =>
    by_cases h1 : f ≤ t
    · have hw := HW.out h1
      by_cases h2 : f + 10 ≤ t
      · have hd : decide (10 ≤ t - f) = true := decide_eq_true (by omega)
        have HD := Lib.hid (decide_eq_true h2)
        clear h2
        go_enter Tryz.func83, Tryz.ntmps83
        go_wp2_with fail
        go_ret
        exact ⟨by rw [HK.out, HD.out]; rfl, HB.out⟩
      · have hd : decide (10 ≤ t - f) = false := decide_eq_false (by omega)
        have HD := Lib.hid (decide_eq_false h2)
        clear h2
        go_enter Tryz.func83, Tryz.ntmps83
        go_wp2_with fail
        go_ret
        exact ⟨by rw [HK.out, HD.out]; rfl, HB.out⟩
    · have HD : Hid (decide (f + 10 ≤ t) = false) := Lib.hid (decide_eq_false (by omega))
      have hd : decide (f ≤ t) = false := decide_eq_false h1
      go_enter Tryz.func83, Tryz.ntmps83
      go_wp2_with fail
      go_ret
      exact ⟨by rw [HK.out, HD.out]; rfl, HB.out⟩
end Go.Proofs.YtlcegchdkigibaaGreatDoor.LT

namespace Go.Proofs.YtlcegchdkigibaaGreatDoor.LT
open Go.Proofs.YtlcegchdkigibaaGreatDoor.LK
set_option linter.unusedVariables false
set_option linter.unusedSimpArgs false
open Go.RowKit

theorem Kp.sub {l : Ents} {left : Nat → Bool} {t : Int} {p : Nat × Ent} (h : p ∈ Kp l left t) : p ∈ l := (List.mem_filter.1 h).1

/-- While a table goes on to tick t. -/
def TI (w : World) (mb : Nat) (l : Ents) (t : Int) (v : Value) (wr : World) : Prop :=
  ∃ left cnt, Rg wr mb w.heap.size (Kp l left t) left cnt ∧ v = .int .i64 ((l.length - (Kp l left t).length : Nat) : Int) ∧ Ch w wr (fun g => g = mb)

set_option maxRecDepth 20000 in
set_option maxHeartbeats 1600000 in
theorem ttick_any {w : World} {tb mb c : Nat} {l : Ents} (h : Tb w tb mb c l) (hf : ∀ p ∈ l, isI p.2.freed) {t : Int} (ht : isI t) :
    Calls Tryz.prog 39 #[ptr tb, .int .i64 t] w fun e w' => e = .returned (.int .i64 ((l.length - (l.filter fun p => !ov p.2 t).length : Nat) : Int)) ∧ Tb w' tb mb c (l.filter fun p => !ov p.2 t) ∧ Ch w w' (fun g => g = mb) := by
  have c1 := h.c1
  have HH := Lib.hid h
  have HF := Lib.hid hf
  have HTI := Lib.hid ht
  have HND := Lib.hid h.map.nd
  have HKY := Lib.hid h.map.key
  have htl := h.lt
  have hml := h.map.lt
  have hne := h.ne
  have hroom := h.room
  have hfits := h.fits
  clear h hf ht
  unfold ptr
  go_enter Tryz.func39, Tryz.ntmps39
  go_wp2_with (first | (at_range; refine wpList_rangeE rfl _ rfl rfl HH.out.map ?_; intro w0 R0 b0 s0))
  go_frame
  have HS : Hid (TI w mb l t (.int .i64 0) w0) := Lib.hid ⟨_, _, by rw [Kp.start]; exact R0, by rw [Kp.start]; simp, Ch.of_below _ b0⟩
  clear R0 b0 s0
  go_loopw [5] (fun v wr => TI w mb l t v wr) (fun _ wr => wr.rangeLeft mb w.heap.size)
  case atStart => exact HS.out
  case round =>
    obtain ⟨left, cnt, R, rfl, ch⟩ := hrel
    have HRG := Lib.hid R
    have HCH := Lib.hid ch
    have HLE : Hid ((Kp l left t).length ≤ l.length) := Lib.hid (List.length_filter_le _ _)
    clear R ch
    go_wp2_with (first | (at_next; refine wpList_nextE rfl _ rfl rfl HRG.out ?_ ?_))
    · intro hl0
      have HL := Lib.hid (Kp.done (t := t) HKY.out hl0)
      clear hl0
      go_wp2_with fail
      go_ret
      rw [HL.out]
      exact ⟨rfl, HH.out.put HCH.out (by rw [← HL.out]; exact HRG.out.mapE) (Nat.le_trans (List.length_filter_le _ _) hfits), HCH.out⟩
    · intro k e w1 cnt1 hk hlk hin R1 hlt g1 s1 hen
      have hin2 := Kp.sub hin
      have HO := Lib.hid (fun W => over_any e t W (HF.out _ hin2) HTI.out)
      have hr := HRG.out.lt
      have hcs := HCH.out.size
      have HC1 : Hid (Ch w w1 (fun g => g = mb)) := Lib.hid (HCH.out.grown g1 fun g hg hgl => by injection hg with hg; omega)
      have c2 := HC1.out.cell c1 hne
      have HR1 := Lib.hid R1
      have HK := Lib.hid hk
      have HIN := Lib.hid hin2
      have HIK := Lib.hid (mem_keys hin)
      have hlt2 := HRG.out.left_eq
      have HR0 := Lib.hid hlt2
      clear R1 g1 hlk hin hin2 hk hlt2
      obtain ⟨lv, ow, fr⟩ := e
      dsimp only at *
      cases hov : ov ⟨lv, ow, fr⟩ t with
      | true =>
        have HOV := Lib.hid hov
        rw [hov] at HO
        clear hov
        go_wp2_with (first
          | (go_at_call 83; refine (HO.out _).mono ?_; rintro en w3 ⟨rfl, b3⟩; have hb := below_trans (below_a w1 (.cells #[.bool lv, .int .i64 ow, .int .i64 fr] 124)) b3; have HC3 := Lib.hid (HC1.out.then_ (Ch.of_below _ hb)); have c3 := HC3.out.cell c1 hne; have HR3 := Lib.hid (HR1.out.below hb); clear b3 hb)
          | (at_delete; refine wpList_delR rfl _ _ rfl rfl HR3.out HK.out rfl HIK.out ?_; intro w4 cnt4 R4 hle tu; go_frame))
        have HD := Lib.hid (wo_length HRG.out.mapE.nd HIK.out)
        have hll := HD.out
        have hle2 := HLE.out
        go_roundw
        case rel =>
          refine ⟨fun j => left j && !decide (j = k), cnt4, ?_, ?_, HC3.out.turned tu fun _ => rfl⟩
          · rw [Kp.goes HND.out HIN.out HOV.out]
            have e1 : (fun j => (left j && !decide (j = k)) && !decide (j = k)) = fun j => left j && !decide (j = k) := by
              funext j
              cases left j <;> cases decide (j = k) <;> rfl
            rw [← e1]
            exact R4
          · rw [Kp.goes HND.out HIN.out HOV.out]
            congr 1
            omega
        case measure =>
          rw [R4.left_eq, HR0.out]
          omega
      | false =>
        have HOV := Lib.hid hov
        rw [hov] at HO
        clear hov
        go_wp2_with (first
          | (go_at_call 83; refine (HO.out _).mono ?_; rintro en w3 ⟨rfl, b3⟩; have hb := below_trans (below_a w1 (.cells #[.bool lv, .int .i64 ow, .int .i64 fr] 124)) b3; have HC3 := Lib.hid (HC1.out.then_ (Ch.of_below _ hb)); have HR3 := Lib.hid (HR1.out.below hb); clear b3 hb))
        go_roundw
        case rel =>
          refine ⟨fun j => left j && !decide (j = k), cnt1, ?_, ?_, HC3.out⟩
          · rw [Kp.stays HND.out HIN.out HOV.out]
            exact HR3.out
          · rw [Kp.stays HND.out HIN.out HOV.out]
        case measure =>
          rw [HR3.out.left_eq, HR0.out]
          exact hlt

end Go.Proofs.YtlcegchdkigibaaGreatDoor.LT

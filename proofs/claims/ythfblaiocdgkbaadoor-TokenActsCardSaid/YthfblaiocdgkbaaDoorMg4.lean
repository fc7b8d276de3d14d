/- A map from tokens to what is known of them, as a list. No condition.
Layer 4's mathematics: a key filled, a number added to each byte without carry, the digest with a key. No program, no condition.
Contracts of what joins pieces: slices.Grow at nil, slices.Concat, octet.Join. Conditions: the pieces hold bytes, and all of them together are at most 2^40 bytes long.
The contract of the width that octet has. No condition.
The contract of octet.Put. Conditions: the slice holds bytes, at most 2^39 of them; the number is one of 64 bits.
The words of Arr for arrays of bytes, without any program. No condition. -/
import Derived.Test.YthfblaiocdgkbaaDoorMg3
import Derived.Test.YthfblaiocdgkbaaDoorMg2
import Derived.Test.YthfblaiocdgkbaaDoorMg1
namespace Go.Proofs.YthfblaiocdgkbaaDoor
set_option linter.unusedVariables false
set_option linter.unusedSimpArgs false
open Go.RowKit

/-- What is known of a token: is it live; whose it is; when it was freed. -/
structure Ent where
  live : Bool
  owner : Int
  freed : Int
deriving DecidableEq
def Ent.val (e : Ent) : Value := .agg #[.bool e.live, .int .i64 e.owner, .int .i64 e.freed]
def Ent.dat (e : Ent) : DataW Unit := .agg [.lit (.bool e.live), .lit (.int .i64 e.owner), .lit (.int .i64 e.freed)]
def Ent.none : Ent := ⟨false, 0, 0⟩
/-- How an element reads. -/
def pe : Value → Option (DataW Unit × List MemPlace)
  | .agg ⟨[.bool b, .int .i64 o, .int .i64 f]⟩ => some ((Ent.mk b o f).dat, [])
  | _ => Option.none
theorem pe_val (e : Ent) : pe e.val = some (e.dat, []) := rfl
theorem Ent.dat_inj {e f : Ent} (h : e.dat = f.dat) : e = f := by
  unfold Ent.dat at h
  injection h with h
  injection h with h1 h
  injection h with h2 h
  injection h with h3 _
  injection h1 with h1
  injection h1 with h1
  injection h2 with h2
  injection h2 with _ h2
  injection h3 with h3
  injection h3 with _ h3
  cases e
  cases f
  simp_all
theorem pe_any {v : Value} {y : DataW Unit × List MemPlace} (h : pe v = some y) : ∃ e : Ent, v = e.val ∧ y = (e.dat, []) := by
  unfold pe at h
  split at h
  · injection h with h
    exact ⟨⟨_, _, _⟩, rfl, h.symm⟩
  · cases h
theorem pe_inv {v : Value} {e : Ent} {ps : List MemPlace} (h : pe v = some (e.dat, ps)) : v = e.val := by
  obtain ⟨f, rfl, hf⟩ := pe_any h
  injection hf with h1 _
  rw [Ent.dat_inj h1]

theorem keyU : Maps.Keyed Tryd.prog 38 := Maps.int_keyed Tryd.underlying38
def tk (k : Nat) : Lit := .int .u32 (k : Int)
theorem tk_wf {k : Nat} (h : k < 4294967296) : (tk k).wf = true := by
  simp [tk, Lit.wf, IntKind.min, IntKind.max, IntKind.bits, IntKind.signed]
  omega
theorem tk_inj {a b : Nat} (h : tk a = tk b) : a = b := by
  unfold tk at h
  injection h with _ h
  exact Int.ofNat.inj h
theorem tk_same {a b : Nat} : (tk a).sameKey (tk b) = decide (a = b) := by
  by_cases e : a = b
  · subst e
    simp [tk, Lit.sameKey]
  · have : (a : Int) ≠ (b : Int) := fun h => e (Int.ofNat.inj h)
    simp [tk, Lit.sameKey, e, this]
theorem keyOfU {k : Nat} (h : k < 4294967296) : keyOf Tryd.prog 38 (.int .u32 (k : Int)) = some (tk k) := Maps.keyOf_int_mk Tryd.underlying38 (tk_wf h)
theorem isKeyT (k : Nat) : WideAt.IsKeyLit (tk k) := by
  first
    | exact trivial
    | simp [WideAt.IsKeyLit, tk]

abbrev Ents := List (Nat × Ent)
def keys (l : Ents) : List Nat := l.map Prod.fst
/-- What a list knows of a token. -/
def fnd (l : Ents) (k : Nat) : Option Ent := (l.find? fun p => decide (p.1 = k)).map Prod.snd
/-- l with another entry for k. -/
def upd (l : Ents) (k : Nat) (e : Ent) : Ents := l.map fun p => if p.1 = k then (k, e) else p
def wo (l : Ents) (k : Nat) : Ents := l.filter fun p => decide (p.1 ≠ k)

theorem keys_upd (l : Ents) (k : Nat) (e : Ent) : keys (upd l k e) = keys l := by
  unfold keys upd
  rw [List.map_map]
  refine List.map_congr_left fun p _ => ?_
  by_cases h : p.1 = k <;> simp [h]
theorem fnd_none {l : Ents} {k : Nat} : fnd l k = Option.none ↔ k ∉ keys l := by
  unfold fnd keys
  rw [Option.map_eq_none_iff, List.find?_eq_none]
  simp only [List.mem_map, not_exists, not_and]
  exact ⟨fun h p hp e => h p hp (by simpa using e), fun h p hp e => h p hp (by simpa using e)⟩
theorem fnd_some {l : Ents} {k : Nat} {e : Ent} (h : fnd l k = some e) : (k, e) ∈ l := by
  unfold fnd at h
  obtain ⟨p, hp, rfl⟩ := Option.map_eq_some_iff.1 h
  have h1 := List.find?_some hp
  have h2 := List.mem_of_find?_eq_some hp
  obtain ⟨a, b⟩ := p
  simp at h1
  subst h1
  exact h2
theorem mem_keys {l : Ents} {p : Nat × Ent} (h : p ∈ l) : p.1 ∈ keys l := List.mem_map_of_mem (f := Prod.fst) h
theorem ents_inj {l : Ents} (hn : (keys l).Nodup) {k : Nat} {e f : Ent} (h : (k, e) ∈ l) (h' : (k, f) ∈ l) : e = f := by
  induction l with
  | nil => cases h
  | cons p l ih =>
    unfold keys at hn ih
    rw [List.map_cons, List.nodup_cons] at hn
    rcases List.mem_cons.1 h with h1 | h1
    · rcases List.mem_cons.1 h' with h2 | h2
      · have := h1.trans h2.symm
        injection this
      · exact absurd (List.mem_map_of_mem (f := Prod.fst) h2) (by rw [← h1] at hn; exact hn.1)
    · rcases List.mem_cons.1 h' with h2 | h2
      · exact absurd (List.mem_map_of_mem (f := Prod.fst) h1) (by rw [← h2] at hn; exact hn.1)
      · exact ih hn.2 h1 h2
theorem fnd_mem {l : Ents} (hn : (keys l).Nodup) {k : Nat} {e : Ent} (h : (k, e) ∈ l) : fnd l k = some e := by
  cases hf : fnd l k with
  | none => exact absurd (mem_keys h) (fnd_none.1 hf)
  | some f => rw [ents_inj hn h (fnd_some hf)]

/-- The datum D is the list l. -/
structure RD (D : DataW Unit) (l : Ents) : Prop where
  size : Maps.size D = l.length
  nd : (keys l).Nodup
  has : ∀ k, k < 4294967296 → Maps.has D (tk k) = decide (k ∈ keys l)
  at_ : ∀ p, p ∈ l → ∀ z, D.atKey (tk p.1) z = p.2.dat
  key : ∀ p, p ∈ l → p.1 < 4294967296

section
variable {D : DataW Unit} {l : Ents} {k : Nat} {e : Ent}
theorem RD.atf (h : RD D l) (hk : k < 4294967296) : D.atKey (tk k) Ent.none.dat = ((fnd l k).getD Ent.none).dat := by
  cases hf : fnd l k with
  | none =>
    have := h.has k hk
    rw [decide_eq_false (fnd_none.1 hf)] at this
    exact Maps.atKey_of_not_has this _
  | some e => exact h.at_ _ (fnd_some hf) _
theorem RD.put (h : RD D l) (hm : Maps.IsMap D) (ht : Maps.Tidy D) (hk : k < 4294967296) (hn : k ∉ keys l) (e : Ent) : RD (D.put (tk k) e.dat) (l ++ [(k, e)]) where
  size := by
    rw [Maps.size_put ht, h.has k hk, decide_eq_false hn, h.size]
    simp
  nd := by
    unfold keys
    rw [List.map_append, List.nodup_append]
    refine ⟨h.nd, by simp, fun a ha b hb => ?_⟩
    simp at hb
    subst hb
    exact fun e => hn (e ▸ ha)
  has j hj := by
    by_cases e1 : j = k
    · subst e1
      rw [Maps.has_put_same hm (isKeyT _)]
      simp [keys]
    · rw [Maps.has_put_other (fun e' => e1 (tk_inj e')), h.has j hj]
      exact decide_eq_decide.2 ⟨fun h => by unfold keys at *; rw [List.map_append]; exact List.mem_append_left _ h, fun h => by
        unfold keys at *
        rw [List.map_append] at h
        rcases List.mem_append.1 h with h | h
        · exact h
        · exact absurd (by simpa using h) e1⟩
  at_ p hp z := by
    rcases List.mem_append.1 hp with hp | hp
    · have e1 : p.1 ≠ k := fun e => hn (e ▸ mem_keys hp)
      rw [Maps.atKey_put_other (fun e' => e1 (tk_inj e'))]
      exact h.at_ p hp z
    · simp at hp
      subst hp
      exact Maps.atKey_put_same hm (isKeyT _) _ _
  key p hp := by
    rcases List.mem_append.1 hp with hp | hp
    · exact h.key p hp
    · simp at hp
      subst hp
      exact hk
theorem mem_upd {p : Nat × Ent} (hp : p ∈ upd l k e) : p.1 = k ∧ p.2 = e ∨ p.1 ≠ k ∧ p ∈ l := by
  unfold upd at hp
  obtain ⟨q, hq, rfl⟩ := List.mem_map.1 hp
  by_cases h : q.1 = k
  · simp [h]
  · simp [h, hq]
theorem RD.upd (h : RD D l) (hm : Maps.IsMap D) (ht : Maps.Tidy D) (hk : k < 4294967296) (hn : k ∈ keys l) (e : Ent) : RD (D.put (tk k) e.dat) (upd l k e) where
  size := by
    rw [Maps.size_put ht, h.has k hk, decide_eq_true hn, h.size]
    simp [Go.Proofs.YthfblaiocdgkbaaDoor.upd]
  nd := by rw [keys_upd]; exact h.nd
  has j hj := by
    rw [keys_upd]
    by_cases e1 : j = k
    · subst e1
      rw [Maps.has_put_same hm (isKeyT _)]
      simp [hn]
    · rw [Maps.has_put_other (fun e' => e1 (tk_inj e')), h.has j hj]
  at_ p hp z := by
    rcases mem_upd hp with ⟨h1, h2⟩ | ⟨h1, h2⟩
    · rw [h1, h2]
      exact Maps.atKey_put_same hm (isKeyT _) _ _
    · rw [Maps.atKey_put_other (fun e' => h1 (tk_inj e'))]
      exact h.at_ p h2 z
  key p hp := by
    rcases mem_upd hp with ⟨h1, h2⟩ | ⟨h1, h2⟩
    · rw [h1]; exact hk
    · exact h.key p h2
theorem mem_wo {p : Nat × Ent} : p ∈ wo l k ↔ p ∈ l ∧ p.1 ≠ k := by
  unfold wo
  rw [List.mem_filter, decide_eq_true_iff]
theorem keys_wo {j : Nat} : j ∈ keys (wo l k) ↔ j ∈ keys l ∧ j ≠ k := by
  unfold keys
  simp only [List.mem_map, mem_wo]
  constructor
  · rintro ⟨p, ⟨h1, h2⟩, rfl⟩
    exact ⟨⟨p, h1, rfl⟩, h2⟩
  · rintro ⟨⟨p, h1, rfl⟩, h2⟩
    exact ⟨p, ⟨h1, h2⟩, rfl⟩
theorem wo_length (hn : (keys l).Nodup) (hk : k ∈ keys l) : (wo l k).length + 1 = l.length := by
  induction l with
  | nil => cases hk
  | cons p l ih =>
    unfold keys at hn ih hk
    rw [List.map_cons, List.nodup_cons] at hn
    rw [List.map_cons, List.mem_cons] at hk
    by_cases e : p.1 = k
    · have h1 : wo l k = l := by
        unfold wo
        rw [List.filter_eq_self]
        intro q hq
        have : q.1 ≠ k := fun e' => hn.1 (by rw [e, ← e']; exact List.mem_map_of_mem (f := Prod.fst) hq)
        simpa using this
      have h2 : wo (p :: l) k = wo l k := by
        unfold wo
        rw [List.filter_cons_of_neg (by simpa using e)]
      rw [h2, h1]
      rfl
    · have h2 : wo (p :: l) k = p :: wo l k := by
        unfold wo
        rw [List.filter_cons_of_pos (by simpa using e)]
      rw [h2, List.length_cons, ih hn.2 (hk.resolve_left fun h => e h.symm), List.length_cons]
theorem RD.del (h : RD D l) (ht : Maps.Tidy D) (hk : k < 4294967296) (hn : k ∈ keys l) : RD (D.del (tk k)) (wo l k) where
  size := by
    have h1 := Maps.size_del (k := tk k) ht
    rw [h.has k hk, decide_eq_true hn, h.size] at h1
    have h2 := wo_length h.nd hn
    simp at h1
    omega
  nd := by
    have : keys (wo l k) = (keys l).filter fun j => decide (j ≠ k) := by
      unfold keys wo
      rw [List.filter_map]
      rfl
    rw [this]
    exact h.nd.filter _
  has j hj := by
    by_cases e1 : j = k
    · subst e1
      rw [Maps.has_del_same]
      have : j ∉ keys (wo l j) := fun h => (keys_wo.1 h).2 rfl
      simp [this]
    · rw [Maps.has_del_other (fun e' => e1 (tk_inj e')), h.has j hj]
      exact decide_eq_decide.2 ⟨fun h => keys_wo.2 ⟨h, e1⟩, fun h => (keys_wo.1 h).1⟩
  at_ p hp z := by
    obtain ⟨h1, h2⟩ := mem_wo.1 hp
    rw [Maps.atKey_del_other (fun e' => h2 (tk_inj e'))]
    exact h.at_ p h1 z
  key p hp := h.key p (mem_wo.1 hp).1
end

/-- Block mb is a map that holds l. -/
def MapE (w : World) (mb : Nat) (l : Ents) : Prop := ∃ D : DataW Unit, w.ownsMap Tryd.prog 38 pe mb l.length D ∧ RD D l

theorem own_size {w : World} {mb n m : Nat} {D : DataW Unit} (h : w.ownsMap Tryd.prog 38 pe mb n D) (hs : Maps.size D = m) : w.ownsMap Tryd.prog 38 pe mb m D := by
  obtain ⟨es, cl, hb, hf, hle, he⟩ := h
  refine ⟨es, cl, hb, hf, ?_, he⟩
  rw [he] at hs
  simp only [Maps.size, length_sorted, List.length_map, Array.length_toList] at hs
  omega

section
variable {w w' : World} {mb : Nat} {l : Ents}
theorem MapE.lt (h : MapE w mb l) : mb < w.heap.size := h.elim fun _ h => h.1.lt
theorem MapE.keep (h : MapE w mb l) (e : w'.heap[mb]? = w.heap[mb]?) : MapE w' mb l := by
  obtain ⟨D, ⟨es, cl, hb, rest⟩, r2⟩ := h
  exact ⟨D, ⟨es, cl, e.trans hb, rest⟩, r2⟩
theorem MapE.nd (h : MapE w mb l) : (keys l).Nodup := h.elim fun _ h => h.2.nd
theorem MapE.key (h : MapE w mb l) : ∀ p, p ∈ l → p.1 < 4294967296 := h.elim fun _ h => h.2.key
theorem MapE.made (w : World) : MapE (w.alloc (.map #[] 0)) w.heap.size [] :=
  ⟨.map [], World.ownsMap_made w _ _ _, rfl, List.nodup_nil, fun _ _ => rfl, fun _ h => (by cases h), fun _ h => (by cases h)⟩
end

theorem zeroE (w : World) : (zeroValue 65).run Tryd.prog w = .ok Ent.none.val w := Tryd.zeroValue65 w

section
variable {w : World} {ops : Array Oper} {rest : List Oper} {o : Oper} {a : Act} {Q : Exit → Act → World → Prop} {mb : Nat} {l : Ents} {k : Nat}

theorem wpList_lookE (hg : o.guard = none) (m x : Operand) (hop : o.op = Op.lookup 61 m x true) (hm : a.eval m = .map (some mb)) (hM : MapE w mb l) (hk : k < 4294967296) (hx : a.eval x = .int .u32 (k : Int)) {r : Option Ent} (hF : fnd l k = r) {v : Value} (hv : (r.getD Ent.none).val = v) {b : Bool} (hb : r.isSome = b)
    (hK : wpList Tryd.prog ops Q rest (a.put o.dst (.tuple #[v, .bool b])) w) :
    wpList Tryd.prog ops Q (o :: rest) a w := by
  obtain ⟨D, hown, R⟩ := hM
  refine wpList_lookup_own_ok w hg m x 61 hop 38 65 keyU Tryd.underlying61 pe (zeroE w) Ent.none.dat [] rfl mb _ D hm hown (.int .u32 (k : Int)) (tk k) hx (keyOfU hk) fun v' ps hv' => ?_
  rw [R.atf hk, hF] at hv'
  have e2 : Maps.has D (tk k) = r.isSome := by
    rw [R.has k hk, ← hF]
    cases hf : fnd l k with
    | none => simpa using fnd_none.1 hf
    | some e => simpa using mem_keys (fnd_some hf)
  rw [e2, pe_inv hv', hv, hb]
  exact hK

theorem wpList_delE (hg : o.guard = none) (m x : Operand) (hop : o.op = Op.call { callee := Callee.builtin Builtin.delete, args := #[m, x], argTypes := #[61, 38] }) (hm : a.eval m = .map (some mb)) (hM : MapE w mb l) (hk : k < 4294967296) (hx : a.eval x = .int .u32 (k : Int)) (hn : k ∈ keys l)
    (hK : ∀ w', MapE w' mb (wo l k) → w.mapTurned w' mb → wpList Tryd.prog ops Q rest (a.put o.dst (.tuple #[])) w') :
    wpList Tryd.prog ops Q (o :: rest) a w := by
  obtain ⟨D, hown, R⟩ := hM
  refine wpList_delete_own w hg m x 61 38 hop 65 keyU Tryd.underlying61 pe mb _ D hm hown (.int .u32 (k : Int)) (tk k) hx (keyOfU hk) fun w' hown' ht => hK w' ?_ ht
  have R' := R.del (hown.tidy keyU) hk hn
  exact ⟨_, own_size hown' R'.size, R'⟩

theorem wpList_putE (hg : o.guard = none) (m x v : Operand) (hop : o.op = Op.mapUpdate 61 m x v) (hm : a.eval m = .map (some mb)) (hM : MapE w mb l) (hk : k < 4294967296) (hx : a.eval x = .int .u32 (k : Int)) (e : Ent) (hv : a.eval v = e.val) (hU : l.length ≤ 1099511627776) {l' : Ents} (hl : k ∉ keys l ∧ l' = l ++ [(k, e)] ∨ k ∈ keys l ∧ l' = upd l k e)
    (hK : ∀ w', MapE w' mb l' → w.mapTurned w' mb → wpList Tryd.prog ops Q rest (a.put o.dst undef) w') :
    wpList Tryd.prog ops Q (o :: rest) a w := by
  obtain ⟨D, hown, R⟩ := hM
  refine wpList_mapUpdate_in w hg m x v 61 hop 38 65 keyU Tryd.underlying61 pe mb _ D hm hown (by unfold maxLen; omega) (.int .u32 (k : Int)) e.val (tk k) hx hv (keyOfU hk) _ [] (pe_val e) fun w' hown' ht => hK w' ?_ ht
  rcases hl with ⟨hn, rfl⟩ | ⟨hn, rfl⟩
  · have R' := R.put hown.isMap (hown.tidy keyU) hk hn e
    exact ⟨_, own_size hown' R'.size, R'⟩
  · have R' := R.upd hown.isMap (hown.tidy keyU) hk hn e
    exact ⟨_, own_size hown' R'.size, R'⟩

theorem wpList_lenE (hg : o.guard = none) (m : Operand) (hop : o.op = Op.call { callee := Callee.builtin Builtin.len, args := #[m], argTypes := #[61] }) (hm : a.eval m = .map (some mb)) (hM : MapE w mb l)
    (hK : wpList Tryd.prog ops Q rest (a.put o.dst (.int .i64 (l.length : Int))) w) :
    wpList Tryd.prog ops Q (o :: rest) a w := by
  obtain ⟨D, hown, R⟩ := hM
  refine wpList_len_own w hg m 61 hop 38 65 Tryd.underlying61 pe mb _ D hm hown ?_
  rw [R.size]
  exact hK
end
/-- len(m), as an equation for the walk. -/
theorem MapE.leng {w : World} {mb : Nat} {l : Ents} (hM : MapE w mb l) (W : World) (hW : W.heap[mb]? = w.heap[mb]?) (ty : TypeId) : (Builtin.len_ #[61] ty #[.map (some mb)]).run Tryd.prog W = .ok (.int .i64 (l.length : Int)) W := by
  obtain ⟨D, hown, R⟩ := hM.keep hW
  rw [hown.len Tryd.underlying61 ty, R.size]
/-- m[k], as an equation for the walk. -/
theorem MapE.look {w : World} {mb : Nat} {l : Ents} (hM : MapE w mb l) {k : Nat} (hk : k < 4294967296) (W : World) (hW : W.heap[mb]? = w.heap[mb]?) : (Instr.lookup 61 (.map (some mb)) (.int .u32 (k : Int)) false).run Tryd.prog W = .ok ((fnd l k).getD Ent.none).val W := by
  obtain ⟨D, hown, R⟩ := hM.keep hW
  obtain ⟨v, ps, hrun, hv⟩ := hown.lookup keyU Tryd.underlying61 (zeroE W) (zd := Ent.none.dat) rfl (keyOfU hk)
  rw [R.atf hk] at hv
  rw [pe_inv hv] at hrun
  exact hrun

end Go.Proofs.YthfblaiocdgkbaaDoor

namespace Go.Proofs.YthfblaiocdgkbaaDoor
set_option linter.unusedVariables false
set_option linter.unusedSimpArgs false

/-- A key, filled; a number added to each byte without carry; the digest with a key. -/
def ks (k : List UInt8) : List UInt8 := if 64 < k.length then dg k else k
def kf (k : List UInt8) : List UInt8 := ks k ++ List.replicate (64 - (ks k).length) 0
def xo (n : UInt8) (k : List UInt8) : List UInt8 := k.map fun x => x ^^^ n
def hm (k t : List UInt8) : List UInt8 := dg (xo 92 (kf k) ++ dg (xo 54 (kf k) ++ t))
theorem ks_length (k : List UInt8) : (ks k).length ≤ 64 := by
  unfold ks
  split
  · rw [dg_length]; omega
  · omega
theorem kf_length (k : List UInt8) : (kf k).length = 64 := by
  have := ks_length k
  rw [kf, List.length_append, List.length_replicate]
  omega
theorem xo_length (n : UInt8) (k : List UInt8) : (xo n k).length = k.length := by simp [xo]
theorem hm_length (k t : List UInt8) : (hm k t).length = 32 := dg_length _
theorem b_xor (x y : UInt8) : bits .xor .u8 (x.toNat : Int) (y.toNat : Int) = ((x ^^^ y).toNat : Int) := by
  rw [u8_xor_nat _ _ x.toNat_lt y.toNat_lt, UInt8.toNat_xor]
theorem kf_long (k : List UInt8) (h : 64 < k.length) : kf (dg k) = kf k := by
  have e : ks (dg k) = ks k := by
    unfold ks
    rw [dg_length, if_neg (by omega), if_pos h]
  unfold kf
  rw [e]
theorem kf_zeros (k : List UInt8) (n : Nat) (h : k.length + n ≤ 64) : kf (k ++ List.replicate n 0) = kf k := by
  have e1 : ks (k ++ List.replicate n 0) = k ++ List.replicate n 0 := by
    unfold ks
    rw [if_neg (by simp; omega)]
  have e2 : ks k = k := by
    unfold ks
    rw [if_neg (by omega)]
  unfold kf
  rw [e1, e2, List.append_assoc, List.replicate_append_replicate]
  congr 2
  simp
  omega
theorem hm_long (k t : List UInt8) (h : 64 < k.length) : hm (dg k) t = hm k t := by unfold hm; rw [kf_long k h]
theorem hm_zeros (k t : List UInt8) (n : Nat) (h : k.length + n ≤ 64) : hm (k ++ List.replicate n 0) t = hm k t := by unfold hm; rw [kf_zeros k n h]

/-- The document's example, its two digests one by one. -/
theorem kf_jefe : kf [74, 101, 102, 101] = [74, 101, 102, 101, 0, 0, 0, 0, 0, 0, 0, 0, 0, 0, 0, 0, 0, 0, 0, 0, 0, 0, 0, 0, 0, 0, 0, 0, 0, 0, 0, 0, 0, 0, 0, 0, 0, 0, 0, 0, 0, 0, 0, 0, 0, 0, 0, 0, 0, 0, 0, 0, 0, 0, 0, 0, 0, 0, 0, 0, 0, 0, 0, 0] := by decide +kernel
set_option maxRecDepth 100000 in
theorem in_jefe : dg (xo 54 (kf [74, 101, 102, 101]) ++ ([119, 104, 97, 116, 32, 100, 111, 32, 121, 97, 32, 119, 97, 110, 116, 32] ++ [102, 111, 114, 32, 110, 111, 116, 104, 105, 110, 103, 63])) = [162, 228, 133, 134, 61, 39, 249, 216, 100, 172, 141, 128, 36, 50, 161, 237, 71, 125, 140, 76, 111, 52, 157, 22, 212, 231, 233, 23, 198, 41, 202, 215] := by
  rw [kf_jefe]
  decide +kernel
set_option maxRecDepth 100000 in
theorem hm_jefe : (hm [74, 101, 102, 101] ([119, 104, 97, 116, 32, 100, 111, 32, 121, 97, 32, 119, 97, 110, 116, 32] ++ [102, 111, 114, 32, 110, 111, 116, 104, 105, 110, 103, 63])).take 4 = [91, 220, 193, 70] := by
  unfold hm
  rw [in_jefe, kf_jefe]
  decide +kernel
end Go.Proofs.YthfblaiocdgkbaaDoor

namespace Go.Proofs.YthfblaiocdgkbaaDoor
set_option linter.unusedVariables false
set_option linter.unusedSimpArgs false
open Go.RowKit

/-- The slice of slices '.slice A n c' holds the pieces ps in w. -/
def Parts (w : World) (A : Option Addr) (n c : Nat) (ps : List (List UInt8)) : Prop :=
  ps.length = n ∧ n ≤ c ∧ c ≤ maxLen ∧ (0 < n → ∃ b o, A = some ⟨b, o, none⟩ ∧ ∀ j, j < n → ∃ B m d, w.cell? ⟨b, o + j, none⟩ = some (.slice B m d) ∧ RB w B m d (ps.getD j []))

section
variable {w w' : World} {A : Option Addr} {n c : Nat} {ps : List (List UInt8)}
theorem Parts.len (h : Parts w A n c ps) : ps.length = n := h.1
theorem Parts.cap (h : Parts w A n c ps) : n ≤ c := h.2.1
theorem Parts.max (h : Parts w A n c ps) : c ≤ 9223372036854775807 := by have := h.2.2.1; unfold maxLen at this; omega
theorem Parts.at_ (h : Parts w A n c ps) {j : Nat} (hj : j < n) : ∃ b o B m d, A = some ⟨b, o, none⟩ ∧ w.cell? ⟨b, o + j, none⟩ = some (.slice B m d) ∧ RB w B m d (ps.getD j []) := by
  obtain ⟨b, o, e, hc⟩ := h.2.2.2 (by omega)
  obtain ⟨B, m, d, h1, h2⟩ := hc j hj
  exact ⟨b, o, B, m, d, e, h1, h2⟩
theorem Parts.below (h : Parts w A n c ps) (hb : Below w.heap.size w w') : Parts w' A n c ps :=
  ⟨h.1, h.2.1, h.2.2.1, fun hn => by
    obtain ⟨b, o, e, hc⟩ := h.2.2.2 hn
    refine ⟨b, o, e, fun j hj => ?_⟩
    obtain ⟨B, m, d, h1, h2⟩ := hc j hj
    exact ⟨B, m, d, (hb.cell (World.block_lt_of_cell? w _ h1)).trans h1, h2.below hb⟩⟩
end

/-- The first k pieces, joined; and how long that is. -/
def fl (ps : List (List UInt8)) (k : Nat) : List UInt8 := (ps.take k).flatten
def tl (ps : List (List UInt8)) (k : Nat) : Nat := (fl ps k).length
theorem fl_zero (ps : List (List UInt8)) : fl ps 0 = [] := rfl
theorem tl_zero (ps : List (List UInt8)) : tl ps 0 = 0 := rfl
theorem fl_step (ps : List (List UInt8)) (k : Nat) (h : k < ps.length) : fl ps (k + 1) = fl ps k ++ ps.getD k [] := by
  unfold fl
  rw [List.take_succ_eq_append_getElem h, List.flatten_append]
  simp [h]
theorem tl_step (ps : List (List UInt8)) (k : Nat) (h : k < ps.length) : tl ps (k + 1) = tl ps k + (ps.getD k []).length := by
  unfold tl
  rw [fl_step ps k h, List.length_append]
theorem fl_all (ps : List (List UInt8)) (k : Nat) (h : ps.length = k) : fl ps k = ps.flatten := by
  unfold fl
  rw [List.take_of_length_le (by omega)]
theorem tl_le (ps : List (List UInt8)) (k n : Nat) (h : k ≤ n) : tl ps k ≤ tl ps n := by
  unfold tl fl
  have e : ps.take n = ps.take k ++ (ps.take n).drop k := by
    have := List.take_append_drop k (ps.take n)
    rw [List.take_take, Nat.min_eq_left h] at this
    exact this.symm
  rw [e, List.flatten_append, List.length_append]
  omega

set_option maxHeartbeats 400000 in
theorem Grow_any (n : Nat) (w : World) (hn : n ≤ 1099511627776) :
    Calls Tryd.prog 63 #[.slice none 0 0, .int .i64 (n : Int)] w (Made w 5 0 []) := by
  rcases Nat.eq_zero_or_pos n with h0 | h0
  · subst h0
    go_enter Tryd.func63, Tryd.ntmps63
    go_wp2
    go_ret
    exact ⟨_, rfl, World.ownsRow_nil _ _ _ _, Below.refl _ _⟩
  · obtain ⟨i0, hi, hz0, hz1, hz2⟩ := info_parts infoByte
    have hrun := fun W => Lib.run_append_nil_zeros (P := Tryd.prog) W 71 3 71 5 i0 _ .i64 .i64 Tryd.underlying71 Tryd.underlying3 hi hz0 n h0 (by omega) (by omega) (by rw [hz2]; omega)
    have HR := Lib.hid hrun
    have hg := grownCap_ge w n 0 5
    have hm := grownCap_le_maxLen w n 0 5 (by unfold maxLen; omega)
    clear hrun hi hz0 hz1 hz2
    have hm' : grownCap w n 0 5 ≤ 9223372036854775807 := by unfold maxLen at hm; omega
    have HM := Lib.hid hm
    clear hm
    go_enter Tryd.func63, Tryd.ntmps63
    go_wp2_with (at_builtin; refine Lib.wpList_append_run _ rfl (.tmp 20) (.tmp 21) 71 3 rfl _ _ rfl rfl _ _ (HR.out _) ?_)
    go_ret
    have hown := World.ownsRow_made (base := w.heap.size) (e := 5) (size := 1) w.drew (Builtin.zeroCells (Value.int .u8 0).cells n ++ Builtin.zeroCells (Value.int .u8 0).cells (grownCap w n 0 5 - n)) (grownCap w n 0 5) (Nat.le_refl _) HM.out
      (by simp only [Array.size_append, size_zeroCells]; rw [show (Value.int IntKind.u8 0).cells.size = 1 from rfl]; omega)
    exact ⟨_, rfl, hown, (Below.refl _ _).drew.alloc (Nat.le_refl _) _⟩
set_option maxHeartbeats 800000 in
theorem Concat_any (A : Option Addr) (n c : Nat) (ps : List (List UInt8)) (w : World) (h : Parts w A n c ps) (ht : tl ps n ≤ 1099511627776) :
    Calls Tryd.prog 47 #[.slice A n c] w (Made w 5 (tl ps n) (fl ps n)) := by
  have hl := Lib.hid h.len
  have hn := h.max
  have hn' := h.cap
  go_enter Tryd.func47, Tryd.ntmps47
  go_wp2
  go_loop [3, 11] (fun x i => ∃ k : Nat, k ≤ n ∧ i = .int .i64 k ∧ x = .int .i64 (tl ps k : Nat)) (fun _ i => n - (intOf i).toNat)
  case atStart => exact ⟨0, Nat.zero_le _, rfl, rfl⟩
  case round =>
    obtain ⟨k, hk, rfl, rfl⟩ := hrel
    have hT := Nat.le_trans (tl_le ps k n hk) ht
    by_cases hlt : k < n
    · have hT' := Nat.le_trans (tl_le ps (k + 1) n hlt) ht
      have hS := tl_step ps k (by rw [hl.out]; exact hlt)
      obtain ⟨b, o, B, m, d, rfl, hc, hr⟩ := h.at_ hlt
      rw [hr.len] at hS
      rw [hS] at hT'
      have HS := Lib.hid hS
      clear hS h hr
      generalize tl ps k = x at *
      have hx : ¬ ((x : Int) + (m : Int) < 0) := by omega
      go_wp2
      go_round
      case rel => exact ⟨k + 1, by omega, by go_num, by rw [HS.out]; go_num⟩
      case measure => simp [intOf]; omega
    · obtain rfl : k = n := by omega
      go_wp2_with (go_at_call 63; refine (Grow_any _ _ (by omega)).mono ?_; rintro e w1 ⟨v1, rfl, hown1, hbel1⟩)
      go_loopw [6, 27] (fun v i wr => ∃ j : Nat, j ≤ k ∧ i = .int .i64 j ∧ wr.ownsRow w.heap.size 5 1 v (tl ps j) (bv (fl ps j)) ∧ Below w.heap.size w wr) (fun _ i _ => k - (intOf i).toNat)
      case atStart => exact ⟨0, Nat.zero_le _, rfl, hown1, hbel1⟩
      case round =>
        obtain ⟨j, hj, rfl, hown, hbel⟩ := hrel
        by_cases hjk : j < k
        · have hT' := Nat.le_trans (tl_le ps (j + 1) k hjk) ht
          have hS := tl_step ps j (by rw [hl.out]; exact hjk)
          have hF := fl_step ps j (by rw [hl.out]; exact hjk)
          obtain ⟨b, o, B, m, d, rfl, hc, hr⟩ := (h.below hbel).at_ hjk
          rw [hr.len] at hS
          rw [hS] at hT'
          have HS := Lib.hid hS
          have HF := Lib.hid hF
          have HB := Lib.hid hbel
          have hz := hbel.size
          clear hS hF h hbel1 hown1 hbel
          generalize tl ps j = x at *
          go_wp2_with (at_builtin; refine wpList_app _ rfl (.tmp 31) (.tmp 32) 71 5 rfl Tryd.underlying71 infoByte w.heap.size _ x (fl ps j) rfl hown _ m _ (ps.getD j []) rfl hr (by omega) (by omega) ?_; intro v' w2 hown' hg' _)
          have hb2 := below_grown HB.out hown hg'
          rw [← HF.out, ← HS.out] at hown'
          clear hg' hown HB hr
          go_wp2
          go_roundw
          case rel => exact ⟨j + 1, by omega, by go_num, hown', hb2⟩
          case measure => simp [intOf]; omega
        · obtain rfl : j = k := by omega
          go_wp2
          go_ret
          exact ⟨_, rfl, hown, hbel⟩

set_option maxHeartbeats 400000 in
theorem Join_any (A : Option Addr) (n c : Nat) (ps : List (List UInt8)) (w : World) (h : Parts w A n c ps) (ht : tl ps n ≤ 1099511627776) :
    Calls Tryd.prog 35 #[.slice A n c] w (Made w 5 (tl ps n) (fl ps n)) := by
  go_enter Tryd.func35, Tryd.ntmps35
  go_wp2_with (go_at_call 47; refine (Concat_any _ _ _ _ _ h ht).mono ?_; rintro e w1 ⟨v1, rfl, hown1, hbel1⟩)
  go_ret
  exact ⟨_, rfl, hown1, hbel1⟩
theorem Parts.one {w : World} {g : Nat} {B : Option Addr} {m d : Nat} {l : List UInt8} (hc : w.cell? ⟨g, 0, none⟩ = some (.slice B m d)) (hr : RB w B m d l) : Parts w (some ⟨g, 0, none⟩) 1 1 [l] := by
  refine ⟨rfl, Nat.le_refl _, by unfold maxLen; omega, fun _ => ⟨g, 0, rfl, fun j hj => ?_⟩⟩
  obtain rfl : j = 0 := by omega
  exact ⟨B, m, d, hc, hr⟩

theorem Join_one {g : Nat} {B : Option Addr} {m d : Nat} {l : List UInt8} {w : World} (hc : w.cell? ⟨g, 0, none⟩ = some (.slice B m d)) (hr : RB w B m d l) (hm : m ≤ 1099511627776) :
    Calls Tryd.prog 35 #[.slice (some ⟨g, 0, none⟩) 1 1] w (MadeRB w m l) := by
  have e1 : fl [l] 1 = l := by simp [fl]
  have e2 : tl [l] 1 = m := by rw [tl, e1, hr.len]
  refine (Join_any _ 1 1 [l] w (Parts.one hc hr) (by rw [e2]; exact hm)).mono ?_
  rintro e w' ⟨v, rfl, hown, hb⟩
  rw [e1, e2] at hown
  obtain ⟨A, c, rfl, h, _⟩ := RB.of_own hown
  exact ⟨A, c, rfl, h, hb⟩

theorem Join_two {A B : Option Addr} {n c m d : Nat} {l r : List UInt8} {w : World} {t : TypeId} {g : Nat} (hg : g = w.heap.size) (h : RB w A n c l) (h' : RB w B m d r) (hm : n + m ≤ 1099511627776) :
    Calls Tryd.prog 35 #[.slice (some ⟨g, 0, none⟩) 2 2] (w.alloc (.cells #[.slice A n c, .slice B m d] t)) (MadeRB (w.alloc (.cells #[.slice A n c, .slice B m d] t)) (n + m) (l ++ r)) := by
  subst hg
  have e1 : fl [l, r] 2 = l ++ r := by simp [fl]
  have e2 : tl [l, r] 2 = n + m := by rw [tl, e1, List.length_append, h.len, h'.len]
  refine (Join_any _ 2 2 [l, r] _ ⟨rfl, Nat.le_refl _, by unfold maxLen; omega, fun _ => ⟨_, 0, rfl, fun j hj => ?_⟩⟩ (by rw [e2]; exact hm)).mono ?_
  · rw [Nat.zero_add, cell_of_row _ w.heap.size j _ t (0, 0) (heap_alloc_new w _)]
    match j, hj with
    | 0, _ => exact ⟨A, n, c, rfl, h.alloc _⟩
    | 1, _ => exact ⟨B, m, d, rfl, h'.alloc _⟩
  · rintro e w' ⟨v, rfl, hown, hb⟩
    rw [e1, e2] at hown
    obtain ⟨A2, c2, rfl, h2, _⟩ := RB.of_own hown
    exact ⟨A2, c2, rfl, h2, hb⟩
theorem Join_three {A B C : Option Addr} {n c m d k f : Nat} {l r s : List UInt8} {w : World} {t : TypeId} {g : Nat} (hg : g = w.heap.size) (h : RB w A n c l) (h' : RB w B m d r) (h'' : RB w C k f s) (hm : n + m + k ≤ 1099511627776) :
    Calls Tryd.prog 35 #[.slice (some ⟨g, 0, none⟩) 3 3] (w.alloc (.cells #[.slice A n c, .slice B m d, .slice C k f] t)) (OwnMade (w.alloc (.cells #[.slice A n c, .slice B m d, .slice C k f] t)) (n + m + k) (l ++ r ++ s)) := by
  subst hg
  have e1 : fl [l, r, s] 3 = l ++ r ++ s := by simp [fl]
  have e2 : tl [l, r, s] 3 = n + m + k := by rw [tl, e1, List.length_append, List.length_append, h.len, h'.len, h''.len]
  refine (Join_any _ 3 3 [l, r, s] _ ⟨rfl, Nat.le_refl _, by unfold maxLen; omega, fun _ => ⟨_, 0, rfl, fun j hj => ?_⟩⟩ (by rw [e2]; exact hm)).mono ?_
  · rw [Nat.zero_add, cell_of_row _ w.heap.size j _ t (0, 0) (heap_alloc_new w _)]
    match j, hj with
    | 0, _ => exact ⟨A, n, c, rfl, h.alloc _⟩
    | 1, _ => exact ⟨B, m, d, rfl, h'.alloc _⟩
    | 2, _ => exact ⟨C, k, f, rfl, h''.alloc _⟩
  · rintro e w' ⟨v, rfl, hown, hb⟩
    rw [e1, e2] at hown
    obtain ⟨A2, c2, rfl, h2, _⟩ := RB.of_own hown
    exact ⟨A2, c2, rfl, h2, hown, hb⟩
end Go.Proofs.YthfblaiocdgkbaaDoor

namespace Go.Proofs.YthfblaiocdgkbaaDoor
set_option linter.unusedVariables false
set_option linter.unusedSimpArgs false
open Go.RowKit

theorem mm_wn (n : Int) : min (max n 1) 8 = (wn n : Int) := by
  unfold wn
  rw [Int.max_def, Int.min_def]
  split <;> split <;> (try split) <;> (try split) <;> omega

theorem width_any (n : Int) (w : World) : Calls Tryd.prog 46 #[.int .i64 n] w fun e w' => e = .returned (.int .i64 (wn n : Nat)) ∧ w = w' := by
  have H := Lib.hid (mm_wn n)
  go_enter Tryd.func46, Tryd.ntmps46
  go_wp2
  go_ret
  exact ⟨by rw [← H.out]; rfl, rfl⟩
end Go.Proofs.YthfblaiocdgkbaaDoor

namespace Go.Proofs.YthfblaiocdgkbaaDoor
set_option linter.unusedVariables false
set_option linter.unusedSimpArgs false
open Go.RowKit

/-- The digit in place j of eight behind i rounds. -/
def dig (a i j : Nat) : Nat := if 8 ≤ i + j then a / 256 ^ (7 - j) % 256 else 0
theorem dig_new (a m : Nat) (h : m < 8) : dig a (m + 1) (7 - m) = a / 2 ^ (8 * m) % 256 := by
  unfold dig
  rw [if_pos (by omega), show 7 - (7 - m) = m from by omega, show 2 ^ (8 * m) = 256 ^ m from by rw [Nat.pow_mul]]
theorem dig_old (a m j : Nat) (h : j ≠ 7 - m) (hj : j < 8) : dig a (m + 1) j = dig a m j := by
  unfold dig
  split <;> split <;> first | rfl | omega
theorem dig_end (a k j : Nat) (hk : k ≤ 8) (hj : j < k) : dig a 8 (8 - k + j) = ((be a k).getD j 0).toNat := by
  rw [be_at a k j hj, UInt8.toNat_ofNat']
  unfold dig
  rw [if_pos (by omega), show 7 - (8 - k + j) = k - 1 - j from by omega]

/-- Eight digits in the block g. -/
def Digits (a g m : Nat) (w : World) : Prop := (∀ j, j < 8 → w.cell? ⟨g, j, none⟩ = some (.int .u8 (dig a m j : Nat))) ∧ ∀ j, j < 8 → w.frozen? ⟨g, j, none⟩ = false
theorem Digits.start (a : Nat) (w : World) (t : TypeId) : Digits a w.heap.size 0 (w.alloc (.cells #[.int .u8 0, .int .u8 0, .int .u8 0, .int .u8 0, .int .u8 0, .int .u8 0, .int .u8 0, .int .u8 0] t)) := by
  refine ⟨fun j hj => ?_, fun j hj => ?_⟩
  · rw [cell_of_row _ w.heap.size j _ t (0, 0) (heap_alloc_new w _)]
    have e : dig a 0 j = 0 := by unfold dig; rw [if_neg (by omega)]
    rw [e]
    match j, hj with
    | 0, _ => rfl
    | 1, _ => rfl
    | 2, _ => rfl
    | 3, _ => rfl
    | 4, _ => rfl
    | 5, _ => rfl
    | 6, _ => rfl
    | 7, _ => rfl
  · exact frozen_of_row _ w.heap.size j _ t (heap_alloc_new w _)
theorem Digits.step {a g m : Nat} {w : World} (h : Digits a g m w) (hm : m < 8) : Digits a g (m + 1) (w.setCell ⟨g, 7 - m, none⟩ (.int .u8 ((a : Int) / 2 ^ (8 * m) % 256))) := by
  refine ⟨fun j hj => ?_, fun j hj => ?_⟩
  · by_cases e : j = 7 - m
    · subst e
      rw [World.cell?_setCell_same _ _ _ (h.1 (7 - m) (by omega)), dig_new a m hm]
      congr
    · rw [World.cell?_setCell_other _ _ _ _ (by intro x; injection x with _ x; exact e x.symm), h.1 j hj, dig_old a m j e hj]
  · rw [World.frozen?_setCell, h.2 j hj]

theorem arrOf : Tryd.prog.underlying 103 = some (.array (Tryd.prog.arrayLen 103) (Tryd.prog.elem 103)) := by kernel_rfl
theorem lenOf : Tryd.prog.arrayLen 103 = 8 := by kernel_rfl
theorem sizeOfArr (W : World) : (sizeOf (Tryd.prog.elem 103)).run Tryd.prog W = .ok 1 W := by kernel_rfl
theorem cutArray (k : Nat) (g : Nat) (h1 : 1 ≤ k) (h8 : k ≤ 8) (W : World) :
    (Instr.sliceAt 103 (.pointer (some ⟨g, 0, none⟩)) (some (.int .i64 (8 - (k : Int)))) none none).run Tryd.prog W = .ok (.slice (some ⟨g, 8 - k, none⟩) k k) W := by
  rw [run_sliceAt_array_l (P := Tryd.prog) W 103 ⟨g, 0, none⟩ arrOf .i64 (8 - (k : Int)) (by omega) (by rw [lenOf]; omega), sizeOfArr, lenOf]
  have e : (8 - (k : Int)).toNat = 8 - k := by omega
  simp only [Result.andThen, slicedAt, e]
  rw [if_neg (by omega), Addr.add_lit, show 8 - (8 - k) = k from by omega]
  simp

set_option maxHeartbeats 800000 in
theorem Put_any (A : Option Addr) (n c a : Nat) (k : Int) (l : List UInt8) (w : World) (h : RB w A n c l) (ha : a < 18446744073709551616) (ht : n ≤ 549755813888) :
    Calls Tryd.prog 39 #[.slice A n c, .int .u64 (a : Int), .int .i64 k] w (MadeRB w (n + wn k) (l ++ be a (wn k))) := by
  have hlo := wn_lo k
  have hhi := wn_hi k
  have hD := Digits.start a w 103
  go_enter Tryd.func39, Tryd.ntmps39
  go_wp2_with fail
  go_loopw [9] (fun i wr => ∃ m : Nat, m ≤ 8 ∧ i = .int .i64 m ∧ Digits a w.heap.size m wr ∧ Below w.heap.size w wr) (fun i _ => 8 - (intOf i).toNat)
  case atStart => exact ⟨0, Nat.zero_le _, rfl, hD, below_a _ _⟩
  case round =>
    obtain ⟨m, hm, rfl, hd, hb⟩ := hrel
    by_cases hlt : m < 8
    · have hc7 := hd.1 (7 - m) (by omega)
      have hf7 := hd.2 (7 - m) (by omega)
      have hd' := hd.step hlt
      clear h hD
      go_wp2_with fail
      go_roundw
      case rel => exact ⟨m + 1, by omega, by go_num, hd', hb.setCell (Nat.le_refl _) _⟩
      case measure => simp [intOf]; omega
    · obtain rfl : m = 8 := by omega
      have hcut := cutArray (wn k) w.heap.size hlo hhi
      have hr2 : RB wr (some ⟨w.heap.size, 8 - wn k, none⟩) (wn k) (wn k) (be a (wn k)) :=
        ⟨be_length a _, Nat.le_refl _, by unfold maxLen; omega, fun _ => ⟨_, _, rfl, fun j hj => by rw [hd.1 _ (by omega), dig_end a _ j hhi hj]⟩⟩
      have hr1 := h.below hb
      clear h hD hd
      go_wp2_with (first
        | (go_at_call 46; refine (width_any _ _).mono ?_; rintro e w' ⟨rfl, rfl⟩)
        | (go_at_call 35; refine (Join_two rfl hr1 hr2 (by omega)).mono ?_; rintro e w2 ⟨A2, c2, rfl, hr3, hb2⟩))
      go_ret
      exact ⟨_, _, rfl, hr3, hb.trans ((below_trans (below_a _ _) hb2).mono hb.size)⟩
end Go.Proofs.YthfblaiocdgkbaaDoor

namespace Go.Proofs.YthfblaiocdgkbaaDoor
set_option linter.unusedVariables false
set_option linter.unusedSimpArgs false
open Go.RowKit

abbrev c8 (x : UInt8) : Value := .int .u8 (x.toNat : Int)
/-- Block b holds the bytes f 0 .. f (n - 1) and may be written. -/
def Arb (w : World) (b n : Nat) (f : Nat → UInt8) : Prop := ∀ j, j < n → w.cell? ⟨b, j, none⟩ = some (c8 (f j)) ∧ w.frozen? ⟨b, j, none⟩ = false
def putb (f : Nat → UInt8) (k : Nat) (x : UInt8) : Nat → UInt8 := fun j => if j = k then x else f j
theorem putb_same (f : Nat → UInt8) (k : Nat) (x : UInt8) : putb f k x k = x := by simp [putb]
theorem putb_other (f : Nat → UInt8) (k j : Nat) (x : UInt8) (h : j ≠ k) : putb f k x j = f j := by simp [putb, h]
section
variable {w w' : World} {b n : Nat} {f : Nat → UInt8}
theorem Arb.lt (h : Arb w b n f) (hn : 0 < n) : b < w.heap.size := World.block_lt_of_cell? w _ (h 0 hn).1
theorem Arb.far {row : Option Nat} (h : Arb w b n f) (hg : w.grownBy w' row) (hne : some b ≠ row) : Arb w' b n f := fun j hj =>
  ⟨(hg.cell_far _ (h.lt (by omega)) hne).trans (h j hj).1, (hg.frozen_far _ (h.lt (by omega)) hne).trans (h j hj).2⟩
theorem Arb.below (h : Arb w b n f) (hb : Below w.heap.size w w') : Arb w' b n f := h.far (g_below hb none) (by simp)
theorem Arb.set (h : Arb w b n f) (k : Nat) (x : UInt8) : Arb (w.setCell ⟨b, k, none⟩ (c8 x)) b n (putb f k x) := fun j hj => by
  refine ⟨?_, by rw [World.frozen?_setCell]; exact (h j hj).2⟩
  by_cases e : j = k
  · subst e
    rw [putb_same]
    exact World.cell?_setCell_same w _ _ (h j hj).1
  · rw [putb_other _ _ _ _ e, World.cell?_setCell_other w _ _ _ (by intro h; injection h with _ h; exact e h.symm)]
    exact (h j hj).1
theorem Arb.congr (h : Arb w b n f) {g : Nat → UInt8} (e : ∀ j, j < n → f j = g j) : Arb w b n g := fun j hj => by rw [← e j hj]; exact h j hj
/-- The bytes' cells. -/
theorem bv_range (n : Nat) (f : Nat → UInt8) (j : Nat) (h : j < n) : (bv ((List.range n).map f))[j]? = some (c8 (f j)) := by simp [bv, h]
theorem Arb.range (h : Arb w b n f) : w.rangeAt b 0 (bv ((List.range n).map f)) := fun j v hv => by
  have hj : j < n := by have := (List.getElem?_eq_some_iff.1 hv).1; simpa [bv] using this
  rw [bv_range n f j hj] at hv
  rw [← hv, Nat.zero_add]
  exact (h j hj).1
theorem Arb.there (h : Arb w b n f) : w.there b 0 n := fun j hj => by
  rw [Nat.zero_add, (h j hj).1]
  exact ⟨rfl, (h j hj).2⟩
theorem Arb.zero (w : World) (n : Nat) (t : TypeId) : Arb (w.alloc (.cells (List.replicate n (Value.int .u8 0)).toArray t)) w.heap.size n (fun _ => 0) := fun j hj => by
  refine ⟨?_, World.frozen?_alloc_at _ t _ j rfl⟩
  rw [cell_of_row _ w.heap.size j _ t (0, 0) (heap_alloc_new w _), List.getElem?_toArray]
  simp [hj]
/-- An array of bytes, sliced whole or in part, holds its bytes. -/
theorem RB.of_range {l : List UInt8} {k n : Nat} (h : w.rangeAt b 0 (bv l)) (hk : k ≤ l.length) (hn : k ≤ n) (hm : n ≤ maxLen) : RB w (some ⟨b, 0, none⟩) k n (l.take k) := by
  refine ⟨by rw [List.length_take]; omega, hn, hm, fun _ => ⟨b, 0, rfl, fun j hj => ?_⟩⟩
  rw [h j _ (bv_at l j (by omega))]
  simp [hj]
end
end Go.Proofs.YthfblaiocdgkbaaDoor

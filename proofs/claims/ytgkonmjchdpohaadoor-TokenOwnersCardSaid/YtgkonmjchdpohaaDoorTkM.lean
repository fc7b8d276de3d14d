/- A map from tokens to what is known of them, as a list. No condition. -/
import Derived.Test.YtgkonmjchdpohaaDoorChg
namespace Go.Proofs.YtgkonmjchdpohaaDoor
set_option linter.unusedVariables false
set_option linter.unusedSimpArgs false
open Go.RowKit

/-- What is known of a token: is it live; whose it is; when it was freed. -/
structure Ent where
  live : Bool
  owner : Int
  freed : Int
deriving DecidableEq
def Ent.val (e : Ent) : Value := .agg #[.bool e.live, .int .i64 e.owner, .int .i64 e.freed]
def Ent.dat (e : Ent) : DataW Unit := .agg [.lit (.bool e.live), .lit (.int .i64 e.owner), .lit (.int .i64 e.freed)]
def Ent.none : Ent := ⟨false, 0, 0⟩
/-- How an element reads. -/
def pe : Value → Option (DataW Unit × List MemPlace)
  | .agg ⟨[.bool b, .int .i64 o, .int .i64 f]⟩ => some ((Ent.mk b o f).dat, [])
  | _ => Option.none
theorem pe_val (e : Ent) : pe e.val = some (e.dat, []) := rfl
theorem Ent.dat_inj {e f : Ent} (h : e.dat = f.dat) : e = f := by
  unfold Ent.dat at h
  injection h with h
  injection h with h1 h
  injection h with h2 h
  injection h with h3 _
  injection h1 with h1
  injection h1 with h1
  injection h2 with h2
  injection h2 with _ h2
  injection h3 with h3
  injection h3 with _ h3
  cases e
  cases f
  simp_all
theorem pe_any {v : Value} {y : DataW Unit × List MemPlace} (h : pe v = some y) : ∃ e : Ent, v = e.val ∧ y = (e.dat, []) := by
  unfold pe at h
  split at h
  · injection h with h
    exact ⟨⟨_, _, _⟩, rfl, h.symm⟩
  · cases h
theorem pe_inv {v : Value} {e : Ent} {ps : List MemPlace} (h : pe v = some (e.dat, ps)) : v = e.val := by
  obtain ⟨f, rfl, hf⟩ := pe_any h
  injection hf with h1 _
  rw [Ent.dat_inj h1]

theorem keyU : Maps.Keyed Tryd.prog 38 := Maps.int_keyed Tryd.underlying38
def tk (k : Nat) : Lit := .int .u32 (k : Int)
theorem tk_wf {k : Nat} (h : k < 4294967296) : (tk k).wf = true := by
  simp [tk, Lit.wf, IntKind.min, IntKind.max, IntKind.bits, IntKind.signed]
  omega
theorem tk_inj {a b : Nat} (h : tk a = tk b) : a = b := by
  unfold tk at h
  injection h with _ h
  exact Int.ofNat.inj h
theorem tk_same {a b : Nat} : (tk a).sameKey (tk b) = decide (a = b) := by
  by_cases e : a = b
  · subst e
    simp [tk, Lit.sameKey]
  · have : (a : Int) ≠ (b : Int) := fun h => e (Int.ofNat.inj h)
    simp [tk, Lit.sameKey, e, this]
theorem keyOfU {k : Nat} (h : k < 4294967296) : keyOf Tryd.prog 38 (.int .u32 (k : Int)) = some (tk k) := Maps.keyOf_int_mk Tryd.underlying38 (tk_wf h)
theorem isKeyT (k : Nat) : WideAt.IsKeyLit (tk k) := by
  first
    | exact trivial
    | simp [WideAt.IsKeyLit, tk]

abbrev Ents := List (Nat × Ent)
def keys (l : Ents) : List Nat := l.map Prod.fst
/-- What a list knows of a token. -/
def fnd (l : Ents) (k : Nat) : Option Ent := (l.find? fun p => decide (p.1 = k)).map Prod.snd
/-- l with another entry for k. -/
def upd (l : Ents) (k : Nat) (e : Ent) : Ents := l.map fun p => if p.1 = k then (k, e) else p
def wo (l : Ents) (k : Nat) : Ents := l.filter fun p => decide (p.1 ≠ k)

theorem keys_upd (l : Ents) (k : Nat) (e : Ent) : keys (upd l k e) = keys l := by
  unfold keys upd
  rw [List.map_map]
  refine List.map_congr_left fun p _ => ?_
  by_cases h : p.1 = k <;> simp [h]
theorem fnd_none {l : Ents} {k : Nat} : fnd l k = Option.none ↔ k ∉ keys l := by
  unfold fnd keys
  rw [Option.map_eq_none_iff, List.find?_eq_none]
  simp only [List.mem_map, not_exists, not_and]
  exact ⟨fun h p hp e => h p hp (by simpa using e), fun h p hp e => h p hp (by simpa using e)⟩
theorem fnd_some {l : Ents} {k : Nat} {e : Ent} (h : fnd l k = some e) : (k, e) ∈ l := by
  unfold fnd at h
  obtain ⟨p, hp, rfl⟩ := Option.map_eq_some_iff.1 h
  have h1 := List.find?_some hp
  have h2 := List.mem_of_find?_eq_some hp
  obtain ⟨a, b⟩ := p
  simp at h1
  subst h1
  exact h2
theorem mem_keys {l : Ents} {p : Nat × Ent} (h : p ∈ l) : p.1 ∈ keys l := List.mem_map_of_mem (f := Prod.fst) h
theorem ents_inj {l : Ents} (hn : (keys l).Nodup) {k : Nat} {e f : Ent} (h : (k, e) ∈ l) (h' : (k, f) ∈ l) : e = f := by
  induction l with
  | nil => cases h
  | cons p l ih =>
    unfold keys at hn ih
    rw [List.map_cons, List.nodup_cons] at hn
    rcases List.mem_cons.1 h with h1 | h1
    · rcases List.mem_cons.1 h' with h2 | h2
      · have := h1.trans h2.symm
        injection this
      · exact absurd (List.mem_map_of_mem (f := Prod.fst) h2) (by rw [← h1] at hn; exact hn.1)
    · rcases List.mem_cons.1 h' with h2 | h2
      · exact absurd (List.mem_map_of_mem (f := Prod.fst) h1) (by rw [← h2] at hn; exact hn.1)
      · exact ih hn.2 h1 h2
theorem fnd_mem {l : Ents} (hn : (keys l).Nodup) {k : Nat} {e : Ent} (h : (k, e) ∈ l) : fnd l k = some e := by
  cases hf : fnd l k with
  | none => exact absurd (mem_keys h) (fnd_none.1 hf)
  | some f => rw [ents_inj hn h (fnd_some hf)]

/-- The datum D is the list l. -/
structure RD (D : DataW Unit) (l : Ents) : Prop where
  size : Maps.size D = l.length
  nd : (keys l).Nodup
  has : ∀ k, k < 4294967296 → Maps.has D (tk k) = decide (k ∈ keys l)
  at_ : ∀ p, p ∈ l → ∀ z, D.atKey (tk p.1) z = p.2.dat
  key : ∀ p, p ∈ l → p.1 < 4294967296

section
variable {D : DataW Unit} {l : Ents} {k : Nat} {e : Ent}
theorem RD.atf (h : RD D l) (hk : k < 4294967296) : D.atKey (tk k) Ent.none.dat = ((fnd l k).getD Ent.none).dat := by
  cases hf : fnd l k with
  | none =>
    have := h.has k hk
    rw [decide_eq_false (fnd_none.1 hf)] at this
    exact Maps.atKey_of_not_has this _
  | some e => exact h.at_ _ (fnd_some hf) _
theorem RD.put (h : RD D l) (hm : Maps.IsMap D) (ht : Maps.Tidy D) (hk : k < 4294967296) (hn : k ∉ keys l) (e : Ent) : RD (D.put (tk k) e.dat) (l ++ [(k, e)]) where
  size := by
    rw [Maps.size_put ht, h.has k hk, decide_eq_false hn, h.size]
    simp
  nd := by
    unfold keys
    rw [List.map_append, List.nodup_append]
    refine ⟨h.nd, by simp, fun a ha b hb => ?_⟩
    simp at hb
    subst hb
    exact fun e => hn (e ▸ ha)
  has j hj := by
    by_cases e1 : j = k
    · subst e1
      rw [Maps.has_put_same hm (isKeyT _)]
      simp [keys]
    · rw [Maps.has_put_other (fun e' => e1 (tk_inj e')), h.has j hj]
      exact decide_eq_decide.2 ⟨fun h => by unfold keys at *; rw [List.map_append]; exact List.mem_append_left _ h, fun h => by
        unfold keys at *
        rw [List.map_append] at h
        rcases List.mem_append.1 h with h | h
        · exact h
        · exact absurd (by simpa using h) e1⟩
  at_ p hp z := by
    rcases List.mem_append.1 hp with hp | hp
    · have e1 : p.1 ≠ k := fun e => hn (e ▸ mem_keys hp)
      rw [Maps.atKey_put_other (fun e' => e1 (tk_inj e'))]
      exact h.at_ p hp z
    · simp at hp
      subst hp
      exact Maps.atKey_put_same hm (isKeyT _) _ _
  key p hp := by
    rcases List.mem_append.1 hp with hp | hp
    · exact h.key p hp
    · simp at hp
      subst hp
      exact hk
theorem mem_upd {p : Nat × Ent} (hp : p ∈ upd l k e) : p.1 = k ∧ p.2 = e ∨ p.1 ≠ k ∧ p ∈ l := by
  unfold upd at hp
  obtain ⟨q, hq, rfl⟩ := List.mem_map.1 hp
  by_cases h : q.1 = k
  · simp [h]
  · simp [h, hq]
theorem RD.upd (h : RD D l) (hm : Maps.IsMap D) (ht : Maps.Tidy D) (hk : k < 4294967296) (hn : k ∈ keys l) (e : Ent) : RD (D.put (tk k) e.dat) (upd l k e) where
  size := by
    rw [Maps.size_put ht, h.has k hk, decide_eq_true hn, h.size]
    simp [Go.Proofs.YtgkonmjchdpohaaDoor.upd]
  nd := by rw [keys_upd]; exact h.nd
  has j hj := by
    rw [keys_upd]
    by_cases e1 : j = k
    · subst e1
      rw [Maps.has_put_same hm (isKeyT _)]
      simp [hn]
    · rw [Maps.has_put_other (fun e' => e1 (tk_inj e')), h.has j hj]
  at_ p hp z := by
    rcases mem_upd hp with ⟨h1, h2⟩ | ⟨h1, h2⟩
    · rw [h1, h2]
      exact Maps.atKey_put_same hm (isKeyT _) _ _
    · rw [Maps.atKey_put_other (fun e' => h1 (tk_inj e'))]
      exact h.at_ p h2 z
  key p hp := by
    rcases mem_upd hp with ⟨h1, h2⟩ | ⟨h1, h2⟩
    · rw [h1]; exact hk
    · exact h.key p h2
theorem mem_wo {p : Nat × Ent} : p ∈ wo l k ↔ p ∈ l ∧ p.1 ≠ k := by
  unfold wo
  rw [List.mem_filter, decide_eq_true_iff]
theorem keys_wo {j : Nat} : j ∈ keys (wo l k) ↔ j ∈ keys l ∧ j ≠ k := by
  unfold keys
  simp only [List.mem_map, mem_wo]
  constructor
  · rintro ⟨p, ⟨h1, h2⟩, rfl⟩
    exact ⟨⟨p, h1, rfl⟩, h2⟩
  · rintro ⟨⟨p, h1, rfl⟩, h2⟩
    exact ⟨p, ⟨h1, h2⟩, rfl⟩
theorem wo_length (hn : (keys l).Nodup) (hk : k ∈ keys l) : (wo l k).length + 1 = l.length := by
  induction l with
  | nil => cases hk
  | cons p l ih =>
    unfold keys at hn ih hk
    rw [List.map_cons, List.nodup_cons] at hn
    rw [List.map_cons, List.mem_cons] at hk
    by_cases e : p.1 = k
    · have h1 : wo l k = l := by
        unfold wo
        rw [List.filter_eq_self]
        intro q hq
        have : q.1 ≠ k := fun e' => hn.1 (by rw [e, ← e']; exact List.mem_map_of_mem (f := Prod.fst) hq)
        simpa using this
      have h2 : wo (p :: l) k = wo l k := by
        unfold wo
        rw [List.filter_cons_of_neg (by simpa using e)]
      rw [h2, h1]
      rfl
    · have h2 : wo (p :: l) k = p :: wo l k := by
        unfold wo
        rw [List.filter_cons_of_pos (by simpa using e)]
      rw [h2, List.length_cons, ih hn.2 (hk.resolve_left fun h => e h.symm), List.length_cons]
theorem RD.del (h : RD D l) (ht : Maps.Tidy D) (hk : k < 4294967296) (hn : k ∈ keys l) : RD (D.del (tk k)) (wo l k) where
  size := by
    have h1 := Maps.size_del (k := tk k) ht
    rw [h.has k hk, decide_eq_true hn, h.size] at h1
    have h2 := wo_length h.nd hn
    simp at h1
    omega
  nd := by
    have : keys (wo l k) = (keys l).filter fun j => decide (j ≠ k) := by
      unfold keys wo
      rw [List.filter_map]
      rfl
    rw [this]
    exact h.nd.filter _
  has j hj := by
    by_cases e1 : j = k
    · subst e1
      rw [Maps.has_del_same]
      have : j ∉ keys (wo l j) := fun h => (keys_wo.1 h).2 rfl
      simp [this]
    · rw [Maps.has_del_other (fun e' => e1 (tk_inj e')), h.has j hj]
      exact decide_eq_decide.2 ⟨fun h => keys_wo.2 ⟨h, e1⟩, fun h => (keys_wo.1 h).1⟩
  at_ p hp z := by
    obtain ⟨h1, h2⟩ := mem_wo.1 hp
    rw [Maps.atKey_del_other (fun e' => h2 (tk_inj e'))]
    exact h.at_ p h1 z
  key p hp := h.key p (mem_wo.1 hp).1
end

/-- Block mb is a map that holds l. -/
def MapE (w : World) (mb : Nat) (l : Ents) : Prop := ∃ D : DataW Unit, w.ownsMap Tryd.prog 38 pe mb l.length D ∧ RD D l

theorem own_size {w : World} {mb n m : Nat} {D : DataW Unit} (h : w.ownsMap Tryd.prog 38 pe mb n D) (hs : Maps.size D = m) : w.ownsMap Tryd.prog 38 pe mb m D := by
  obtain ⟨es, cl, hb, hf, hle, he⟩ := h
  refine ⟨es, cl, hb, hf, ?_, he⟩
  rw [he] at hs
  simp only [Maps.size, length_sorted, List.length_map, Array.length_toList] at hs
  omega

section
variable {w w' : World} {mb : Nat} {l : Ents}
theorem MapE.lt (h : MapE w mb l) : mb < w.heap.size := h.elim fun _ h => h.1.lt
theorem MapE.keep (h : MapE w mb l) (e : w'.heap[mb]? = w.heap[mb]?) : MapE w' mb l := by
  obtain ⟨D, ⟨es, cl, hb, rest⟩, r2⟩ := h
  exact ⟨D, ⟨es, cl, e.trans hb, rest⟩, r2⟩
theorem MapE.nd (h : MapE w mb l) : (keys l).Nodup := h.elim fun _ h => h.2.nd
theorem MapE.key (h : MapE w mb l) : ∀ p, p ∈ l → p.1 < 4294967296 := h.elim fun _ h => h.2.key
theorem MapE.made (w : World) : MapE (w.alloc (.map #[] 0)) w.heap.size [] :=
  ⟨.map [], World.ownsMap_made w _ _ _, rfl, List.nodup_nil, fun _ _ => rfl, fun _ h => (by cases h), fun _ h => (by cases h)⟩
end

theorem zeroE (w : World) : (zeroValue 65).run Tryd.prog w = .ok Ent.none.val w := Tryd.zeroValue65 w

section
variable {w : World} {ops : Array Oper} {rest : List Oper} {o : Oper} {a : Act} {Q : Exit → Act → World → Prop} {mb : Nat} {l : Ents} {k : Nat}

theorem wpList_lookE (hg : o.guard = none) (m x : Operand) (hop : o.op = Op.lookup 61 m x true) (hm : a.eval m = .map (some mb)) (hM : MapE w mb l) (hk : k < 4294967296) (hx : a.eval x = .int .u32 (k : Int)) {r : Option Ent} (hF : fnd l k = r) {v : Value} (hv : (r.getD Ent.none).val = v) {b : Bool} (hb : r.isSome = b)
    (hK : wpList Tryd.prog ops Q rest (a.put o.dst (.tuple #[v, .bool b])) w) :
    wpList Tryd.prog ops Q (o :: rest) a w := by
  obtain ⟨D, hown, R⟩ := hM
  refine wpList_lookup_own_ok w hg m x 61 hop 38 65 keyU Tryd.underlying61 pe (zeroE w) Ent.none.dat [] rfl mb _ D hm hown (.int .u32 (k : Int)) (tk k) hx (keyOfU hk) fun v' ps hv' => ?_
  rw [R.atf hk, hF] at hv'
  have e2 : Maps.has D (tk k) = r.isSome := by
    rw [R.has k hk, ← hF]
    cases hf : fnd l k with
    | none => simpa using fnd_none.1 hf
    | some e => simpa using mem_keys (fnd_some hf)
  rw [e2, pe_inv hv', hv, hb]
  exact hK

theorem wpList_delE (hg : o.guard = none) (m x : Operand) (hop : o.op = Op.call { callee := Callee.builtin Builtin.delete, args := #[m, x], argTypes := #[61, 38] }) (hm : a.eval m = .map (some mb)) (hM : MapE w mb l) (hk : k < 4294967296) (hx : a.eval x = .int .u32 (k : Int)) (hn : k ∈ keys l)
    (hK : ∀ w', MapE w' mb (wo l k) → w.mapTurned w' mb → wpList Tryd.prog ops Q rest (a.put o.dst (.tuple #[])) w') :
    wpList Tryd.prog ops Q (o :: rest) a w := by
  obtain ⟨D, hown, R⟩ := hM
  refine wpList_delete_own w hg m x 61 38 hop 65 keyU Tryd.underlying61 pe mb _ D hm hown (.int .u32 (k : Int)) (tk k) hx (keyOfU hk) fun w' hown' ht => hK w' ?_ ht
  have R' := R.del (hown.tidy keyU) hk hn
  exact ⟨_, own_size hown' R'.size, R'⟩

theorem wpList_putE (hg : o.guard = none) (m x v : Operand) (hop : o.op = Op.mapUpdate 61 m x v) (hm : a.eval m = .map (some mb)) (hM : MapE w mb l) (hk : k < 4294967296) (hx : a.eval x = .int .u32 (k : Int)) (e : Ent) (hv : a.eval v = e.val) (hU : l.length ≤ 1099511627776) {l' : Ents} (hl : k ∉ keys l ∧ l' = l ++ [(k, e)] ∨ k ∈ keys l ∧ l' = upd l k e)
    (hK : ∀ w', MapE w' mb l' → w.mapTurned w' mb → wpList Tryd.prog ops Q rest (a.put o.dst undef) w') :
    wpList Tryd.prog ops Q (o :: rest) a w := by
  obtain ⟨D, hown, R⟩ := hM
  refine wpList_mapUpdate_in w hg m x v 61 hop 38 65 keyU Tryd.underlying61 pe mb _ D hm hown (by unfold maxLen; omega) (.int .u32 (k : Int)) e.val (tk k) hx hv (keyOfU hk) _ [] (pe_val e) fun w' hown' ht => hK w' ?_ ht
  rcases hl with ⟨hn, rfl⟩ | ⟨hn, rfl⟩
  · have R' := R.put hown.isMap (hown.tidy keyU) hk hn e
    exact ⟨_, own_size hown' R'.size, R'⟩
  · have R' := R.upd hown.isMap (hown.tidy keyU) hk hn e
    exact ⟨_, own_size hown' R'.size, R'⟩

theorem wpList_lenE (hg : o.guard = none) (m : Operand) (hop : o.op = Op.call { callee := Callee.builtin Builtin.len, args := #[m], argTypes := #[61] }) (hm : a.eval m = .map (some mb)) (hM : MapE w mb l)
    (hK : wpList Tryd.prog ops Q rest (a.put o.dst (.int .i64 (l.length : Int))) w) :
    wpList Tryd.prog ops Q (o :: rest) a w := by
  obtain ⟨D, hown, R⟩ := hM
  refine wpList_len_own w hg m 61 hop 38 65 Tryd.underlying61 pe mb _ D hm hown ?_
  rw [R.size]
  exact hK
end
/-- len(m), as an equation for the walk. -/
theorem MapE.leng {w : World} {mb : Nat} {l : Ents} (hM : MapE w mb l) (W : World) (hW : W.heap[mb]? = w.heap[mb]?) (ty : TypeId) : (Builtin.len_ #[61] ty #[.map (some mb)]).run Tryd.prog W = .ok (.int .i64 (l.length : Int)) W := by
  obtain ⟨D, hown, R⟩ := hM.keep hW
  rw [hown.len Tryd.underlying61 ty, R.size]
/-- m[k], as an equation for the walk. -/
theorem MapE.look {w : World} {mb : Nat} {l : Ents} (hM : MapE w mb l) {k : Nat} (hk : k < 4294967296) (W : World) (hW : W.heap[mb]? = w.heap[mb]?) : (Instr.lookup 61 (.map (some mb)) (.int .u32 (k : Int)) false).run Tryd.prog W = .ok ((fnd l k).getD Ent.none).val W := by
  obtain ⟨D, hown, R⟩ := hM.keep hW
  obtain ⟨v, ps, hrun, hv⟩ := hown.lookup keyU Tryd.underlying61 (zeroE W) (zd := Ent.none.dat) rfl (keyOfU hk)
  rw [R.atf hk] at hv
  rw [pe_inv hv] at hrun
  exact hrun

end Go.Proofs.YtgkonmjchdpohaaDoor

/- What is due while time goes on: a row of what was due, the map without them; mathematics of going on by one tick. No condition.
Time goes on: the contract of Advance. Condition: the wheel stands, it has at most 2^40 timers.
A wheel as its callers see it: its tick, and which handle is armed for which tick; what each of its calls does to that. Condition: it has at most 2^40 timers, its tick is below 2^61. -/
import Derived.Test.YtlcegchdkigibaaGreatDoorMg26
import Derived.StillTailTactics
import Derived.Deep.LoopGhost
namespace Go.Proofs.YtlcegchdkigibaaGreatDoor.LW
set_option linter.unusedVariables false
set_option linter.unusedSimpArgs false
open Go.RowKit

/-- The cells of what was due. -/
def dv : List (Int × Int) → List Value
  | [] => []
  | p :: l => .int .i64 p.1 :: .int .i64 p.2 :: dv l
theorem dv_append (l r : List (Int × Int)) : dv (l ++ r) = dv l ++ dv r := by
  induction l with
  | nil => rfl
  | cons p l ih => simp [dv, ih]
theorem dv_length (l : List (Int × Int)) : (dv l).length = l.length * 2 := by
  induction l with
  | nil => rfl
  | cons p l ih => simp [dv, ih]; omega
def pr (hd : Nat → Int) (tk : Nat → Nat) (b : Nat) : Int × Int := (hd b, (tk b : Int))

theorem infoDue : (Tryz.prog.info? 176).map (fun i => (i.zero, i.size, i.bytes)) = some (some (.agg #[.int .i64 0, .int .i64 0]), 2, 16) := by kernel_rfl
/-- append of one struct of two numbers, onto a row of the call's own. -/
theorem wpList_app2 {P : Program} {w : World} {ops : Array Oper} {rest : List Oper} {o : Oper} {a : Act} {Q : Exit → Act → World → Prop} (hgd : o.guard = none) (s x : Operand) (t e : TypeId)
    (ho : o.op = .call { callee := .builtin .append, args := #[s, x], argTypes := #[t, t] })
    (ht : P.underlying t = some (.slice e)) (hi : (P.info? e).map (fun i => (i.zero, i.size, i.bytes)) = some (some (.agg #[.int .i64 0, .int .i64 0]), 2, 16))
    (base : Nat) (v : Value) (n : Nat) (l : List (Int × Int)) (hs : a.eval s = v) (hown : w.ownsRow base e 2 v n (dv l)) (hb : base ≤ w.heap.size)
    (g : Nat) (p q : Int) (hx : a.eval x = .slice (some ⟨g, 0, none⟩) 1 1) (hp : w.cell? ⟨g, 0, none⟩ = some (.int .i64 p)) (hq : w.cell? ⟨g, 1, none⟩ = some (.int .i64 q)) (h40 : n ≤ 1099511627776)
    (h : ∀ v' w', w'.ownsRow base e 2 v' (n + 1) (dv (l ++ [(p, q)])) → w.grownBy w' v.ownBlock → (v'.ownBlock = v.ownBlock ∨ v'.ownBlock = some w.heap.size) → wpList P ops Q rest (a.put o.dst v') w') :
    wpList P ops Q (o :: rest) a w := by
  obtain ⟨i, hi, hzz⟩ := Option.map_eq_some_iff.1 hi
  simp only [Prod.mk.injEq] at hzz
  obtain ⟨hz, h2, h3⟩ := hzz
  refine wpList_append_own_at (P := P) w hgd s x t ho base e i _ 2 16 ht hi hz h2 h3 rfl (by decide) v n (dv l) hs hown ⟨g, 0, none⟩ 1 1 [.int .i64 p, .int .i64 q] hx rfl ?_ ?_ (by unfold maxLen; omega) (by omega) hb fun v' w' a1 a2 _ a4 => h v' w' ?_ a2 a4
  · intro j u hj
    match j, hj with
    | 0, hj =>
      simp at hj
      subst hj
      simpa [Addr.add] using hp
    | 1, hj =>
      simp at hj
      subst hj
      simpa [Addr.add] using hq
  · intro u hu
    simp at hu
    rcases hu with rfl | rfl <;> rfl
  · rw [dv_append]
    exact a1

/-- The timers that are for later than m. -/
def af (tk : Nat → Nat) (U : List Nat) (m : Nat) : List Nat := U.filter (fun b => decide (m < tk b))
theorem mem_af {tk : Nat → Nat} {U : List Nat} {m b : Nat} : b ∈ af tk U m ↔ b ∈ U ∧ m < tk b := by
  unfold af
  rw [List.mem_filter, decide_eq_true_iff]
theorem af_start {tk : Nat → Nat} {U : List Nat} {n : Nat} (h : ∀ b ∈ U, n < tk b) : af tk U n = U := by
  unfold af
  rw [List.filter_eq_self]
  intro b hb
  simpa using h b hb
theorem af_step (tk : Nat → Nat) (U : List Nat) (m : Nat) : (af tk U m).filter (fun b => decide (tk b ≠ m + 1)) = af tk U (m + 1) := by
  unfold af
  rw [List.filter_filter]
  refine List.filter_congr fun b _ => ?_
  by_cases h1 : m < tk b <;> by_cases h2 : tk b = m + 1 <;> simp [h1, h2] <;> omega
theorem filter_two (p : Nat → Bool) : ∀ l : List Nat, (l.filter p).length + (l.filter fun b => !p b).length = l.length
  | [] => rfl
  | x :: l => by
    have := filter_two p l
    cases h : p x <;> simp [h] <;> omega

/-- While those that are due are taken out of the map: j of them. -/
structure Inn (base : Nat) (w2 : World) (lab2 : Nat → Nat) (mb : Nat) (U1 : List Nat) (hd : Nat → Int) (tk : Nat → Nat) (zs : List Nat) (out : List (Int × Int)) (j : Nat) (wr : World) (v : Value) : Prop where
  own : wr.ownsRow base 176 2 v (out.length + j) (dv (out ++ (zs.take j).map (pr hd tk)))
  vlab : ∀ g, v.ownBlock = some g → lab2 g = 0
  map : MapIs wr mb (fun k => if k ∈ (zs.take j).map hd then none else fdb hd U1 k) (U1.length - j)
  ch : Ch w2 wr (fun k => k = mb ∨ base ≤ k ∧ lab2 k = 0)

section
variable {base : Nat} {w2 wr w3 w4 : World} {lab2 : Nat → Nat} {mb : Nat} {U1 : List Nat} {hd : Nat → Int} {tk : Nat → Nat} {zs : List Nat} {out : List (Int × Int)} {j b : Nat} {v v' : Value}

theorem Inn.key (hnd : zs.Nodup) (hsub : ∀ b ∈ zs, b ∈ U1) (hdist : ∀ a b, a ∈ U1 → b ∈ U1 → hd a = hd b → a = b) (hj : zs[j]? = some b) :
    (fun k => if k ∈ (zs.take j).map hd then none else fdb hd U1 k) (hd b) = some b := by
  obtain ⟨hlt, hb⟩ := List.getElem?_eq_some_iff.1 hj
  have hbz : b ∈ zs := List.mem_of_getElem? hj
  show (if hd b ∈ (zs.take j).map hd then none else fdb hd U1 (hd b)) = some b
  rw [if_neg, fdb_of hdist (hsub b hbz)]
  rintro h
  obtain ⟨c, hc, e⟩ := List.mem_map.1 h
  have hcz := List.mem_of_mem_take hc
  have := hdist c b (hsub c hcz) (hsub b hbz) e
  subst this
  obtain ⟨i, hi, e2⟩ := List.getElem_of_mem hc
  rw [List.getElem_take] at e2
  rw [List.length_take] at hi
  have := (List.getElem_inj hnd).1 (e2.trans hb.symm)
  omega

theorem Inn.next (h : Inn base w2 lab2 mb U1 hd tk zs out j wr v) (hj : zs[j]? = some b)
    (M3 : MapIs w3 mb (fun k => if k = hd b then none else (if k ∈ (zs.take j).map hd then none else fdb hd U1 k)) (U1.length - j - 1)) (c3 : Ch wr w3 (fun k => k = mb)) (hmb : lab2 mb = 2) (hlt : ∀ k, lab2 k ≠ 0 → k < w2.heap.size) (hbase : base ≤ w2.heap.size)
    {q : Nat} {o : Obj} (own' : w4.ownsRow base 176 2 v' (out.length + j + 1) (dv (out ++ (zs.take j).map (pr hd tk) ++ [(hd b, (tk b : Int))]))) (gr : ((w3.drewN q).alloc o).grownBy w4 v.ownBlock)
    (at' : v'.ownBlock = v.ownBlock ∨ v'.ownBlock = some ((w3.drewN q).alloc o).heap.size) (hvb : ∀ g, v.ownBlock = some g → base ≤ g) :
    Inn base w2 lab2 mb U1 hd tk zs out (j + 1) w4 v' := by
  have htake : zs.take (j + 1) = zs.take j ++ [b] := by rw [List.take_add_one, hj]; rfl
  have s1 := h.ch.size
  have s2 := c3.size
  have hmlt := hlt mb (by omega)
  have hnew : ∀ k, w2.heap.size ≤ k → lab2 k = 0 := fun k hk => by
    by_cases e : lab2 k = 0
    · exact e
    · have := hlt k e
      omega
  have c4 : Ch w2 ((w3.drewN q).alloc o) (fun k => k = mb ∨ base ≤ k ∧ lab2 k = 0) := ((h.ch.trans c3 (m'' := fun k => k = mb ∨ base ≤ k ∧ lab2 k = 0) (fun _ _ h => h) (fun _ _ h => .inl h)).drewN q).alloc o
  refine ⟨?_, fun g hg => ?_, ?_, c4.grown gr fun k hk _ => .inr ⟨hvb k hk, h.vlab k hk⟩⟩
  · rw [htake, List.map_append, ← List.append_assoc]
    exact own'
  · rcases at' with h1 | h1
    · exact h.vlab g (h1 ▸ hg)
    · rw [hg] at h1
      injection h1 with h1
      refine hnew g ?_
      have h5 : ((w3.drewN q).alloc o).heap.size = w3.heap.size + 1 := by rw [World.size_alloc]; rfl
      omega
  · rw [htake, List.map_append]
    have hf : (fun k => if k = hd b then none else (if k ∈ (zs.take j).map hd then none else fdb hd U1 k)) = fun k => if k ∈ (zs.take j).map hd ++ [b].map hd then none else fdb hd U1 k := by
      funext k
      by_cases e : k = hd b
      · subst e
        simp
      · rw [if_neg e]
        have : (k ∈ (zs.take j).map hd ++ [b].map hd) ↔ k ∈ (zs.take j).map hd := by simp [e]
        simp only [this]
    rw [← hf, ← Nat.sub_sub]
    refine M3.keep ?_
    have hx : v.ownBlock ≠ some mb := fun e => by have := h.vlab mb e; omega
    refine (gr.block mb ?_ (fun e => hx e.symm)).trans (Below.heap_alloc (w3.drewN q) o mb ?_)
    · simp
      show mb < w3.heap.size + 1
      omega
    · show mb < w3.heap.size
      omega
end

end Go.Proofs.YtlcegchdkigibaaGreatDoor.LW

namespace Go.Proofs.YtlcegchdkigibaaGreatDoor.LW
set_option linter.unusedVariables false
set_option linter.unusedSimpArgs false
open Go.RowKit

theorem own_ch2 {w w' : World} {base size : Nat} {e : TypeId} {v : Value} {n : Nat} {xs : List Value} {m : Nat → Prop} (h : w.ownsRow base e size v n xs) (c : Ch w w' m) (hm : ∀ g, v.ownBlock = some g → ¬ m g) : w'.ownsRow base e size v n xs := by
  refine ⟨h.1, ?_⟩
  rcases h.2 with hn | ⟨g, cap, cur, hv, hb, hg, rest⟩
  · exact .inl hn
  · exact .inr ⟨g, cap, cur, hv, hb, (c.block g (Array.getElem?_eq_some_iff.1 hg).1 (hm g (by rw [hv]; rfl))).trans hg, rest⟩

/-- In the order in which they are due. -/
def Ord (hd : Nat → Int) (tk : Nat → Nat) (l : List Nat) : Prop := l.Pairwise (fun a b => tk a < tk b ∨ tk a = tk b ∧ hd a < hd b)
theorem Ord.nodup {hd : Nat → Int} {tk : Nat → Nat} {l : List Nat} (h : Ord hd tk l) : l.Nodup := List.Pairwise.imp (fun {a b} h e => by subst e; omega) h

/-- While time goes on: what was due up to m; the wheel at m. -/
def Going (w : World) (lab : Nat → Nat) (wb mb : Nat) (nb : Nat → Nat) (hd : Nat → Int) (tk : Nat → Nat) (U : List Nat) (m : Nat) (wr : World) (v : Value) : Prop :=
  ∃ (lab1 : Nat → Nat) (V1 : Nat → Nat → Value) (L1 : Lists) (ob : List Nat), Wheel wr lab1 wb mb nb V1 L1 hd tk m (af tk U m) ∧ wr.ownsRow w.heap.size 176 2 v ob.length (dv (ob.map (pr hd tk))) ∧ (∀ g, v.ownBlock = some g → lab1 g = 0) ∧
    Ord hd tk ob ∧ (∀ b, b ∈ ob ↔ b ∈ U ∧ tk b ≤ m) ∧ Ch w wr (fun k => lab k ≠ 0) ∧ ∀ k, k < w.heap.size → lab1 k = lab k

section
variable {w : World} {lab : Nat → Nat} {wb mb : Nat} {nb : Nat → Nat} {V : Nat → Nat → Value} {L : Lists} {hd : Nat → Int} {tk : Nat → Nat} {n : Nat} {U : List Nat}

theorem Going.start (h : Wheel w lab wb mb nb V L hd tk n U) : Going w lab wb mb nb hd tk U n w (.slice none 0 0) := by
  refine ⟨lab, V, L, [], ?_, World.ownsRow_nil _ _ _ _, (fun g hg => by cases hg), List.Pairwise.nil, fun b => ?_, Ch.refl _ _, fun _ _ => rfl⟩
  · rw [af_start fun b hb => (h.due hb).1]
    exact h
  · constructor
    · intro hb
      cases hb
    · rintro ⟨h1, h2⟩
      have := (h.due h1).1
      omega

theorem af_fdb {m : Nat} {zs : List Nat} (hdist : ∀ a b, a ∈ af tk U m → b ∈ af tk U m → hd a = hd b → a = b) (hz : ∀ b, b ∈ zs ↔ b ∈ af tk U m ∧ tk b = m + 1) :
    (fun k => if k ∈ (zs.take zs.length).map hd then none else fdb hd (af tk U m) k) = fdb hd (af tk U (m + 1)) := by
  funext k
  rw [List.take_length]
  have sub : ∀ a, a ∈ af tk U (m + 1) → a ∈ af tk U m := fun a ha => mem_af.2 ⟨(mem_af.1 ha).1, by have := (mem_af.1 ha).2; omega⟩
  have hd2 : ∀ a b, a ∈ af tk U (m + 1) → b ∈ af tk U (m + 1) → hd a = hd b → a = b := fun a b ha hb => hdist a b (sub a ha) (sub b hb)
  cases e : fdb hd (af tk U m) k with
  | none =>
    have h1 : fdb hd (af tk U (m + 1)) k = none := by
      cases e2 : fdb hd (af tk U (m + 1)) k with
      | none => rfl
      | some c => exact absurd (fdb_some e2).2 (fdb_none e c (sub c (fdb_some e2).1))
    rw [h1]
    split <;> rfl
  | some b =>
    obtain ⟨hb, hk⟩ := fdb_some e
    subst hk
    by_cases q : tk b = m + 1
    · have hbz : b ∈ zs := (hz b).2 ⟨hb, q⟩
      rw [if_pos (List.mem_map_of_mem hbz)]
      cases e2 : fdb hd (af tk U (m + 1)) (hd b) with
      | none => rfl
      | some c =>
        obtain ⟨hc, hk⟩ := fdb_some e2
        have := hdist c b (sub c hc) hb hk
        subst this
        have := (mem_af.1 hc).2
        omega
    · have hb2 : b ∈ af tk U (m + 1) := mem_af.2 ⟨(mem_af.1 hb).1, by have := (mem_af.1 hb).2; omega⟩
      rw [if_neg, fdb_of hd2 hb2]
      intro h
      obtain ⟨c, hc, hk⟩ := List.mem_map.1 h
      obtain ⟨h1, h2⟩ := (hz c).1 hc
      have := hdist c b h1 hb hk
      subst this
      exact q h2

theorem af_len {m : Nat} {zs : List Nat} (hnd : (af tk U m).Nodup) (hzn : zs.Nodup) (hz : ∀ b, b ∈ zs ↔ b ∈ af tk U m ∧ tk b = m + 1) : (af tk U m).length - zs.length = (af tk U (m + 1)).length := by
  have h1 := filter_two (fun b => decide (tk b = m + 1)) (af tk U m)
  have h2 : ((af tk U m).filter fun b => !decide (tk b = m + 1)) = af tk U (m + 1) := by
    rw [← af_step]
    refine List.filter_congr fun b _ => ?_
    by_cases q : tk b = m + 1 <;> simp [q]
  have hm : ∀ b, b ∈ (af tk U m).filter (fun b => decide (tk b = m + 1)) ↔ b ∈ zs := fun b => by rw [List.mem_filter, decide_eq_true_iff, hz b]
  have h3 := nodup_len _ zs (hnd.filter (fun b => decide (tk b = m + 1))) fun b hb => (hm b).1 hb
  have h4 := nodup_len zs _ hzn fun b hb => (hm b).2 hb
  rw [h2] at h1
  omega

theorem Going.next {wr w5 w9 wi : World} {lab1 lab3 : Nat → Nat} {V1 V3 : Nat → Nat → Value} {L1 L3 : Lists} {m q : Nat} {ob zs : List Nat} {v : Value} (h : Wheel wr lab1 wb mb nb V1 L1 hd tk m (af tk U m)) (h5 : wr.setCell ⟨wb, 1, none⟩ (.int .i64 ((m : Int) + 1)) = w5)
    (ord1 : Ord hd tk ob) (mem1 : ∀ b, b ∈ ob ↔ b ∈ U ∧ tk b ≤ m) (ch1 : Ch w wr (fun k => lab k ≠ 0)) (l1 : ∀ k, k < w.heap.size → lab1 k = lab k)
    (r1 : Rings w9 lab3 nb V3 L3 hd tk) (r2 : Pl L3 tk (m + 1)) (r3 : zs.Nodup) (r4 : ∀ b, b ∈ zs ↔ InL L1 b ∧ tk b = m + 1) (r5 : ∀ b, InL L3 b ↔ InL L1 b ∧ tk b ≠ m + 1) (r6 : zs.Pairwise (fun a b => hd a ≤ hd b))
    (r9 : Ch (w5.drewN q) w9 (fun k => lab1 k = 3 ∨ 10 ≤ lab1 k)) (r10 : ∀ k, k < (w5.drewN q).heap.size → lab3 k = lab1 k)
    (hI : Inn w.heap.size w9 lab3 mb (af tk U m) hd tk zs (ob.map (pr hd tk)) zs.length wi v) : Going w lab wb mb nb hd tk U (m + 1) wi v := by
  have hs5 : w5.heap.size = wr.heap.size := by rw [← h5]; simp [World.setCell]
  have hs5' : (w5.drewN q).heap.size = wr.heap.size := hs5
  rw [hs5'] at r10
  have hwlt := h.lt
  have hmlt := h.map.lt
  have hw1 := h.wlab
  have hm1 := h.mlab
  have lw3 : lab3 wb = 1 := by rw [r10 wb hwlt]; exact hw1
  have lm3 : lab3 mb = 2 := by rw [r10 mb hmlt]; exact hm1
  have hz : ∀ b, b ∈ zs ↔ b ∈ af tk U m ∧ tk b = m + 1 := fun b => by rw [r4 b, h.mem b]
  have c5 : Ch wr w5 (fun k => k = wb) := by
    rw [← h5]
    exact (Ch.refl wr (fun k => k = wb)).setCell (p := ⟨wb, 1, none⟩) (fun _ => rfl) _
  have sz1 := ch1.size
  have sz9 : wr.heap.size ≤ w9.heap.size := by have := r9.size; omega
  refine ⟨lab3, V3, L3, ob ++ zs, ⟨r1.ch hI.ch fun k hk => by
      rcases hk with hk | hk
      · rw [hk, lm3]
        omega
      · omega, lw3, ?_, lm3, ?_, fun b => ?_, r2, ?_, fun a b ha hb => ?_, fun a ha => ?_⟩, ?_, hI.vlab, ?_, fun b => ?_, ?_, fun k hk => ?_⟩
  · have hne : wb ≠ mb := fun e => by rw [e] at lw3; omega
    refine (hI.ch.block wb (by omega) (fun e => by
      rcases e with e | e
      · exact hne e
      · omega)).trans ((r9.block wb (by omega) (by omega)).trans ?_)
    show w5.heap[wb]? = _
    rw [← h5]
    simp [World.setCell, Array.getElem?_modify, h.whl]
  · have hM := hI.map
    rw [af_fdb h.dist hz, af_len h.nd r3 hz] at hM
    exact hM
  · rw [r5 b, h.mem b, mem_af, mem_af]
    exact ⟨fun ⟨⟨a1, a2⟩, a3⟩ => ⟨a1, by omega⟩, fun ⟨a1, a2⟩ => ⟨⟨a1, by omega⟩, by omega⟩⟩
  · have h8 := h.nd.filter (fun b => decide (tk b ≠ m + 1))
    rw [af_step] at h8
    exact h8
  · have ha' := mem_af.1 ha
    have hb' := mem_af.1 hb
    exact h.dist a b (mem_af.2 ⟨ha'.1, by omega⟩) (mem_af.2 ⟨hb'.1, by omega⟩)
  · have ha' := mem_af.1 ha
    exact h.hI a (mem_af.2 ⟨ha'.1, by omega⟩)
  · have ho := hI.own
    rw [List.take_length, List.length_map] at ho
    rw [List.length_append, List.map_append]
    exact ho
  · unfold Ord
    rw [List.pairwise_append]
    refine ⟨ord1, ?_, fun a ha b hb => ?_⟩
    · rw [List.pairwise_iff_getElem]
      intro i j hi hj hij
      have h1 := (List.pairwise_iff_getElem.1 r6) i j hi hj hij
      have ma := (hz _).1 (List.getElem_mem hi)
      have mb' := (hz _).1 (List.getElem_mem hj)
      refine .inr ⟨by omega, ?_⟩
      have hne : hd zs[i] ≠ hd zs[j] := fun e => by
        have := (List.getElem_inj r3).1 (h.dist _ _ ma.1 mb'.1 e)
        omega
      omega
    · have h1 := (mem1 a).1 ha
      have h2 := (hz b).1 hb
      left
      omega
  · rw [List.mem_append, mem1 b, hz b, mem_af]
    refine ⟨fun hh => ?_, fun ⟨a1, a2⟩ => ?_⟩
    · rcases hh with ⟨a1, a2⟩ | ⟨⟨a1, a2⟩, a3⟩
      · exact ⟨a1, by omega⟩
      · exact ⟨a1, by omega⟩
    · by_cases e : tk b ≤ m
      · exact .inl ⟨a1, e⟩
      · exact .inr ⟨⟨a1, by omega⟩, by omega⟩
  · refine ((ch1.trans c5 (m'' := fun k => lab k ≠ 0) (fun _ _ h => h) (fun k hk e => ?_)).drewN q |>.trans r9 (m'' := fun k => lab k ≠ 0) (fun _ _ h => h) (fun k hk e => ?_)).trans hI.ch (fun _ _ h => h) (fun k hk e => ?_)
    · rw [← l1 k hk, e]
      omega
    · rw [← l1 k hk]
      omega
    · rcases e with e | e
      · rw [← l1 k hk, e]
        omega
      · omega
  · rw [r10 k (by omega)]
    exact l1 k hk

set_option maxRecDepth 100000 in
set_option maxHeartbeats 4000000 in
theorem adv_any (h : Wheel w lab wb mb nb V L hd tk n U) {t : Int} (ht : isI t) (hn : n + 20000 ≤ 4611686018427387904) (hU : U.length ≤ 1099511627775) (np : Nat) (hnp : n ≤ np) (hnp2 : np ≤ n + 10000) (hE : ∀ m : Nat, n ≤ m → ((m : Int) < min t ((n : Int) + 10000) ↔ m < np)) :
    Calls Tryz.prog 132 #[ptr wb, .int .i64 t] w fun e w' => ∃ v, e = .returned v ∧ Going w lab wb mb nb hd tk U np w' v := by
  have c1 := h.c1
  have HG := Lib.hid (Going.start h)
  have htk : ∀ b ∈ U, tk b ≤ 4611686018427387904 := fun b hb => by have := (h.due hb).2; omega
  clear h
  unfold ptr
  unfold isI at ht
  have hm1 : min t ((n : Int) + 10000) ≤ (n : Int) + 10000 := Int.min_le_right _ _
  obtain ⟨E, hEq⟩ : ∃ E, min t ((n : Int) + 10000) = E := ⟨_, rfl⟩
  rw [hEq] at hE hm1
  have HE := Lib.hid hE
  clear hE
  go_enter Tryz.func132, Tryz.ntmps132
  go_wp2_with fail
  clear hEq c1
  go_loopg [5] (np - n) (fun kx v wr => ∃ m : Nat, n ≤ m ∧ m ≤ np ∧ np - m ≤ kx ∧ Going w lab wb mb nb hd tk U m wr v)
  case atStart => exact ⟨n, Nat.le_refl _, hnp, Nat.le_refl _, HG.out⟩
  case round =>
    obtain ⟨m, hm, hmn, hkx, lab1, V1, L1, ob, W1, own1, vl1, ord1, mem1, ch1, l1⟩ := hrel
    have c1 := W1.c1
    have cf := W1.fz 1
    by_cases hlt : m < np
    · have hcond : (m : Int) < E := (HE.out m hm).2 hlt
      have hr1 : Rings (wr.setCell ⟨wb, 1, none⟩ (.int .i64 ((m : Int) + 1))) lab1 nb V1 L1 hd tk := W1.rings.keep (by simp [World.setCell]) fun k hk => Below.heap_setCell _ _ _ _ (fun e => by have := W1.wlab; simp only at e; rw [e] at hk; omega)
      have hal : (af tk U m).length ≤ U.length := List.length_filter_le _ _
      have hS := fun q => step_any (hr1.drewN q) m (by omega) W1.pl (af tk U m) (fun b hb => (W1.mem b).1 hb) (by omega) (fun b hb => htk b (mem_af.1 hb).1) (byH_holds hd tk)
      rw [show ((m + 1 : Nat) : Int) = (m : Int) + 1 from rfl] at hS
      have s0 : (wr.setCell ⟨wb, 1, none⟩ (.int .i64 ((m : Int) + 1))).cell? ⟨wb, 0, none⟩ = some (.pointer (some ⟨nb 2, 0, none⟩)) := by
        have hw9 : (wr.setCell ⟨wb, 1, none⟩ (.int .i64 ((m : Int) + 1))).heap[wb]? = some (.cells #[ptr (nb 2), .int .i64 ((m : Int) + 1), .map (some mb)] 172 (0, 0)) := by
          simp [World.setCell, Array.getElem?_modify, W1.whl]
        rw [cell_of_row _ wb 0 _ _ (0, 0) hw9]
        rfl
      have s1 : (wr.setCell ⟨wb, 1, none⟩ (.int .i64 ((m : Int) + 1))).cell? ⟨wb, 1, none⟩ = some (.int .i64 ((m : Int) + 1)) := World.cell?_setCell_same _ _ _ c1
      have HS := Lib.hid hS
      have HW1 := Lib.hid W1
      clear hS hr1 W1
      generalize hW5 : wr.setCell ⟨wb, 1, none⟩ (.int .i64 ((m : Int) + 1)) = W5 at *
      have HW5 := Lib.hid hW5
      have hwl := (HW1.out).wlab
      unfold ptr at *
      go_wp2_with fail
      go_region_held3 (fun W => W.cell? ⟨wb, 0, none⟩ = some (.pointer (some ⟨nb 2, 0, none⟩)) ∧ W.cell? ⟨wb, 1, none⟩ = some (.int .i64 ((m : Int) + 1)))
        (first
          | exact ⟨s0, s1⟩
          | exact ⟨j0, j1⟩)
        (first
          | (go_at_call 189; refine (HS.out 1).mono ?_; rintro e w9 ⟨A3, c3, lab3, V3, L3, zs, rfl, r1, r2, r3, r4, r5, r6, r7, r8, r9, r10, r11⟩; have j0 := r9.cell (p := ⟨wb, 0, none⟩) s0 (by simp only; omega); have j1 := r9.cell (p := ⟨wb, 1, none⟩) s1 (by simp only; omega)))
      have HNEXT := Lib.hid (fun (wi : World) (v : Value) (hI : Inn w.heap.size w9 lab3 mb (af tk U m) hd tk zs (ob.map (pr hd tk)) zs.length wi v) => Going.next HW1.out HW5.out ord1 mem1 ch1 l1 r1 r2 r3 r4 r5 r6 r9 r10 hI)
      have hW := HW1.out
      have hs5 : W5.heap.size = wr.heap.size := by rw [← HW5.out]; simp [World.setCell]
      have r10' : ∀ k, k < wr.heap.size → lab3 k = lab1 k := fun k hk => r10 k (by show k < W5.heap.size; omega)
      have hz : ∀ b, b ∈ zs ↔ b ∈ af tk U m ∧ tk b = m + 1 := fun b => by rw [r4 b, hW.mem b]
      have lw3 : lab3 wb = 1 := by rw [r10' wb hW.lt]; exact hwl
      have lm3 : lab3 mb = 2 := by rw [r10' mb hW.map.lt]; exact hW.mlab
      have c5 : Ch wr W5 (fun k => k = wb) := by
        rw [← HW5.out]
        exact (Ch.refl wr (fun k => k = wb)).setCell (p := ⟨wb, 1, none⟩) (fun _ => rfl) _
      have hob : ob.length ≤ U.length := nodup_len ob U ord1.nodup fun b hb => ((mem1 b).1 hb).1
      have hzl : ob.length + zs.length ≤ 1099511627776 := by
        have hnd : (ob ++ zs).Nodup := by
          rw [List.nodup_append]
          exact ⟨ord1.nodup, r3, fun a ha b hb e => by subst e; have h1 := ((mem1 a).1 ha).2; have h2 := ((hz a).1 hb).2; omega⟩
        have := nodup_len (ob ++ zs) U hnd fun b hb => by
          rcases List.mem_append.1 hb with hb | hb
          · exact ((mem1 b).1 hb).1
          · exact (mem_af.1 ((hz b).1 hb).1).1
        rw [List.length_append] at this
        omega
      have I0 : Inn w.heap.size w9 lab3 mb (af tk U m) hd tk zs (ob.map (pr hd tk)) 0 w9 u5 := by
        have hg0 : ∀ g, u5.ownBlock = some g → g < wr.heap.size := fun g hg => (own1.lt g hg).2
        refine ⟨?_, fun g hg => by rw [r10' g (hg0 g hg)]; exact vl1 g hg, ?_, Ch.refl _ _⟩
        · have h1 : W5.ownsRow w.heap.size 176 2 u5 ob.length (dv (ob.map (pr hd tk))) := own_ch2 own1 c5 fun g hg e => by have := vl1 g hg; rw [e] at this; omega
          have h2 := own_ch2 (w := W5.drewN 1) h1 r9 fun g hg e => by have := vl1 g hg; omega
          rw [List.length_map, List.take_zero, List.map_nil, List.append_nil]
          exact h2
        · have h1 := (hW.map.keep (c5.block mb hW.map.lt (fun e => by have := hW.mlab; rw [e] at this; omega)))
          have h2 := h1.keep (w' := w9) (r9.block mb (by show mb < W5.heap.size; have := hW.map.lt; omega) (by have := hW.mlab; omega))
          simpa using h2
      have hbs : ∀ b ∈ zs, b ∈ af tk U m ∧ lab3 b = 3 ∧ Tim w9 hd tk b ∧ isI (hd b) := fun b hb => by
        have hba := ((hz b).1 hb).1
        obtain ⟨t1, r', i', j', _, _, _, t2⟩ := hW.tim hba
        have t3 : Tim W5 hd tk b := ⟨j', t2.keep (c5.block b t2.lt (fun e => by rw [e] at t1; omega))⟩
        exact ⟨hba, by rw [r10' b t2.lt]; exact t1, r11 b t1 (t3.keep rfl), hW.hI b hba⟩
      have w9c : w9.cell? ⟨wb, 2, none⟩ = some (.map (some mb)) := by
        have h1 : W5.cell? ⟨wb, 2, none⟩ = some (.map (some mb)) := by
          rw [← HW5.out]
          exact (World.cell?_setCell_other _ _ _ _ (by intro e; injection e with _ e; omega)).trans hW.c2
        exact r9.cell (p := ⟨wb, 2, none⟩) h1 (by simp only; omega)
      have hbase : w.heap.size ≤ w9.heap.size := by have h1 := ch1.size; have h2 := r9.size; have h3 : (W5.drewN 1).heap.size = W5.heap.size := rfl; omega
      have HI0 := Lib.hid I0
      have HBS := Lib.hid hbs
      have HD := Lib.hid hW.dist
      have HR1 := Lib.hid r1.lt
      have HR3 := Lib.hid r3
      have HR7 := Lib.hid r7
      have HR8 := Lib.hid r8
      have HZL := Lib.hid hzl
      have HBASE := Lib.hid hbase
      have HW9C := Lib.hid w9c
      clear hW hs5 r10' hz c5 hob hzl I0 hbs w9c hbase r1 r2 r3 r4 r5 r6 r7 r8 r9 r10 r11 own1 vl1 ord1 mem1 ch1 l1 HS HW1 HW5 hW5 s0 s1 j0 j1
      generalize hzn : zs.length = zn at *
      have HZN := Lib.hid hzn
      clear hzn
      go_wp2_with fail
      go_loopw [5, 41] (fun v ix wi => ∃ j : Nat, j ≤ zn ∧ ix = .int .i64 j ∧ Inn w.heap.size w9 lab3 mb (af tk U m) hd tk zs (ob.map (pr hd tk)) j wi v) (fun _ ix _ => zn - (intOf ix).toNat)
      case atStart => exact ⟨0, Nat.zero_le _, rfl, HI0.out⟩
      case round =>
        obtain ⟨j, hjz, rfl, II⟩ := hrel
        by_cases hjl : j < zn
        · have hj : zs[j]? = some (zs[j]'(by rw [HZN.out]; exact hjl)) := List.getElem?_eq_getElem _
          generalize zs[j]'(by rw [HZN.out]; exact hjl) = b at hj
          obtain ⟨hba, b3, bT, bI⟩ := HBS.out b (List.mem_of_getElem? hj)
          have hkey := Inn.key (j := j) HR3.out (fun x hx => (HBS.out x hx).1) HD.out hj
          have gz : ∃ g, A3 = some ⟨g, 0, none⟩ ∧ wr.cell? ⟨g, j, none⟩ = some (ptr b) := by
            have h1 := own_ch HR7.out II.ch fun g hg e => by
              have h2 := HR8.out g hg
              rcases e with e | e
              · rw [e] at h2; omega
              · omega
            rcases h1.2 with ⟨h2, h3⟩ | ⟨g, cap, cur, h2, _⟩
            · omega
            · injection h2 with h2 _ h4
              subst h2
              subst h4
              refine ⟨g, rfl, ?_⟩
              rw [World.ownsRow.cellAt h1 j (by omega)]
              simp [hj]
          obtain ⟨g, rfl, gk2⟩ := gz
          have hkb : ∀ k, lab3 k = 3 ∨ lab3 k = 1 → ¬(k = mb ∨ w.heap.size ≤ k ∧ lab3 k = 0) := fun k hk e => by
            rcases e with e | e
            · rw [e] at hk; omega
            · omega
          have bTi : Tim wr hd tk b := bT.keep (II.ch.block b bT.lt (hkb b (.inl b3)))
          have b0 : wr.cell? ⟨b, 0, none⟩ = some (.int .i64 (hd b)) := bTi.elim fun _ t => t.c0
          have b1 : wr.cell? ⟨b, 1, none⟩ = some (.int .i64 (tk b : Int)) := bTi.elim fun _ t => t.c1
          have k2 : wr.cell? ⟨wb, 2, none⟩ = some (.map (some mb)) := II.ch.cell HW9C.out (hkb wb (.inr lw3))
          have hmne : ¬ b = mb := fun e => by rw [e] at b3; omega
          have HJ := Lib.hid hj
          have HK := Lib.hid hkey
          have HII := Lib.hid II
          have HBT := Lib.hid bTi
          have hvb : ∀ g, u5.ownBlock = some g → w.heap.size ≤ g := fun g hg => (II.own.lt g hg).1
          have HVB := Lib.hid hvb
          have HM := Lib.hid II.map
          clear hj hkey II bTi hvb
          unfold ptr at *
          go_wp2_with fail
          go_still_tail 9, (by kernel_rfl)
          change wpList _ _ _ _ _ wr.drew
          refine wpList_delM rfl _ _ rfl rfl (HM.out.keep (w' := wr.drew) rfl) bI rfl HK.out ?_
          intro w3 M3 tu
          have c3 : Ch wr w3 (fun k => k = mb) := ((Ch.refl wr (fun k => k = mb)).drew).turned tu (fun _ => rfl)
          have b03 := c3.cell b0 (by exact hmne)
          have b13 := c3.cell b1 (by exact hmne)
          have o3 : w3.ownsRow w.heap.size 176 2 u5 ((ob.map (pr hd tk)).length + j) (dv (ob.map (pr hd tk) ++ (zs.take j).map (pr hd tk))) := own_ch2 HII.out.own c3 fun g hg e => by have h1 := HII.out.vlab g hg; rw [e] at h1; omega
          have n0 : (w3.alloc (.cells #[.int .i64 (hd b), .int .i64 (tk b : Int)] 176)).cell? ⟨w3.heap.size, 0, none⟩ = some (.int .i64 (hd b)) := by
            rw [cell_of_row (w3.alloc (.cells #[.int .i64 (hd b), .int .i64 (tk b : Int)] 176)) w3.heap.size 0 #[.int .i64 (hd b), .int .i64 (tk b : Int)] 176 (0, 0) (heap_alloc_new w3 _)]
            rfl
          have n1 : (w3.alloc (.cells #[.int .i64 (hd b), .int .i64 (tk b : Int)] 176)).cell? ⟨w3.heap.size, 1, none⟩ = some (.int .i64 (tk b : Int)) := by
            rw [cell_of_row (w3.alloc (.cells #[.int .i64 (hd b), .int .i64 (tk b : Int)] 176)) w3.heap.size 1 #[.int .i64 (hd b), .int .i64 (tk b : Int)] 176 (0, 0) (heap_alloc_new w3 _)]
            rfl
          have hbl : w.heap.size ≤ (w3.alloc (.cells #[.int .i64 (hd b), .int .i64 (tk b : Int)] 176)).heap.size := by
            have h1 := HBASE.out
            have h2 := HII.out.ch.size
            have h3 := c3.size
            rw [World.size_alloc]
            omega
          have hol : (ob.map (pr hd tk)).length + j ≤ 1099511627776 := by have := HZL.out; rw [List.length_map]; omega
          have O4 := Lib.hid (o3.alloc (.cells #[.int .i64 (hd b), .int .i64 (tk b : Int)] 176))
          have HM3 := Lib.hid M3
          have HC3 := Lib.hid c3
          clear o3 M3 tu c3
          go_wp2_with (first | (at_builtin; refine wpList_app2 rfl _ _ 173 176 rfl Tryz.underlying173 infoDue w.heap.size _ _ _ rfl O4.out hbl _ _ _ rfl n0 n1 hol ?_; intro v' w4 own4 gr4 at4))
          go_roundw
          case rel =>
            have hnx := HII.out.next (q := 0) HJ.out HM3.out HC3.out lm3 HR1.out HBASE.out own4 gr4 at4 HVB.out
            exact ⟨j + 1, by omega, by go_num, hnx⟩
          case measure => simp [intOf]; omega
        · obtain rfl : j = zn := by omega
          go_wp2_with fail
          go_roundg (np - (m + 1))
          case measure => omega
          case rel =>
            have hnx := HNEXT.out _ _ II
            exact ⟨m + 1, by omega, by omega, Nat.le_refl _, hnx⟩
    · have hcond : ¬ (m : Int) < E := fun h => hlt ((HE.out m hm).1 h)
      obtain rfl : m = np := by omega
      go_wp2_with fail
      go_ret
      exact ⟨_, rfl, lab1, V1, L1, ob, W1, own1, vl1, ord1, mem1, ch1, l1⟩
end

end Go.Proofs.YtlcegchdkigibaaGreatDoor.LW

namespace Go.Proofs.YtlcegchdkigibaaGreatDoor.LW
set_option linter.unusedVariables false
set_option linter.unusedSimpArgs false
open Go.RowKit

/-- At block wb a wheel stands at tick n, with the handles and ticks l. -/
def On (w : World) (lab : Nat → Nat) (wb n : Nat) (l : List (Int × Int)) : Prop :=
  ∃ (mb : Nat) (nb : Nat → Nat) (V : Nat → Nat → Value) (L : Lists) (hd : Nat → Int) (tk : Nat → Nat) (U : List Nat), Wheel w lab wb mb nb V L hd tk n U ∧ l = U.map (pr hd tk)
/-- What was not a part of the wheel is as it was; labels stay. -/
def Fr (lab : Nat → Nat) (w : World) (lab' : Nat → Nat) (w' : World) : Prop := Ch w w' (fun k => lab k ≠ 0) ∧ ∀ k, k < w.heap.size → lab' k = lab k
/-- l without a handle. -/
def woL (l : List (Int × Int)) (x : Int) : List (Int × Int) := l.filter (fun p => decide (p.1 ≠ x))

theorem Fr.refl (lab : Nat → Nat) (w : World) : Fr lab w lab w := ⟨Ch.refl _ _, fun _ _ => rfl⟩
theorem Fr.trans {a b c : World} {l1 l2 l3 : Nat → Nat} (h : Fr l1 a l2 b) (k : Fr l2 b l3 c) : Fr l1 a l3 c :=
  ⟨h.1.trans k.1 (m'' := fun k => l1 k ≠ 0) (fun _ _ h => h) (fun x hx e => by rw [← h.2 x hx]; exact e), fun x hx => (k.2 x (Nat.lt_of_lt_of_le hx h.1.size)).trans (h.2 x hx)⟩
theorem Fr.drewN {a b : World} {l1 l2 : Nat → Nat} (h : Fr l1 a l2 b) (n : Nat) : Fr l1 a l2 (b.drewN n) := ⟨h.1.drewN n, h.2⟩
theorem Fr.below {a b c : World} {l1 l2 : Nat → Nat} (h : Fr l1 a l2 b) (k : RowKit.Below b.heap.size b c) : Fr l1 a l2 c := h.trans ⟨Ch.of_below _ k, fun _ _ => rfl⟩

theorem woL_map (hd : Nat → Int) (tk : Nat → Nat) (U : List Nat) (x : Int) : (wo hd U x).map (pr hd tk) = woL (U.map (pr hd tk)) x := by
  unfold wo woL
  rw [List.filter_map]
  rfl

section
variable {w w' : World} {lab : Nat → Nat} {wb n : Nat} {l : List (Int × Int)}

theorem On.ch (h : On w lab wb n l) {m : Nat → Prop} (c : Ch w w' m) (hm : ∀ k, m k → lab k = 0) : On w' lab wb n l := by
  obtain ⟨mb, nb, V, L, hd, tk, U, W, e⟩ := h
  exact ⟨mb, nb, V, L, hd, tk, U, W.ch c hm, e⟩
theorem On.below (h : On w lab wb n l) (c : RowKit.Below w.heap.size w w') : On w' lab wb n l := h.ch (Ch.of_below (fun _ => False) c) fun _ h => h.elim
theorem On.drewN (h : On w lab wb n l) (q : Nat) : On (w.drewN q) lab wb n l := h.ch ((Ch.refl w (fun _ => False)).drewN q) fun _ h => h.elim
theorem On.lt (h : On w lab wb n l) {k : Nat} (hk : lab k ≠ 0) : k < w.heap.size := by
  obtain ⟨mb, nb, V, L, hd, tk, U, W, e⟩ := h
  exact W.rings.lt k hk
/-- Each handle stands once. -/
theorem On.dist (h : On w lab wb n l) : ∀ p q, p ∈ l → q ∈ l → p.1 = q.1 → p = q := by
  obtain ⟨mb, nb, V, L, hd, tk, U, W, rfl⟩ := h
  intro p q hp hq e
  obtain ⟨a, ha, rfl⟩ := List.mem_map.1 hp
  obtain ⟨b, hb, rfl⟩ := List.mem_map.1 hq
  rw [W.dist a b ha hb e]
theorem On.nodup (h : On w lab wb n l) : l.Nodup := by
  obtain ⟨mb, nb, V, L, hd, tk, U, W, rfl⟩ := h
  rw [List.Nodup, List.pairwise_map]
  refine List.Pairwise.imp_of_mem (fun {a b} ha hb hne e => hne (W.dist a b ha hb ?_)) W.nd
  exact congrArg Prod.fst e
theorem On.due (h : On w lab wb n l) : ∀ p ∈ l, (n : Int) < p.2 ∧ p.2 ≤ (n : Int) + 4096 ∧ isI p.1 := by
  obtain ⟨mb, nb, V, L, hd, tk, U, W, rfl⟩ := h
  intro p hp
  obtain ⟨a, ha, rfl⟩ := List.mem_map.1 hp
  have := W.due ha
  exact ⟨by show (n : Int) < (tk a : Int); omega, by show (tk a : Int) ≤ _; omega, W.hI a ha⟩

theorem onow_any (h : On w lab wb n l) : Calls Tryz.prog 86 #[ptr wb] w fun e w' => e = .returned (.int .i64 (n : Int)) ∧ w' = w := by
  obtain ⟨mb, nb, V, L, hd, tk, U, W, rfl⟩ := h
  exact now_any W
theorem olen_any (h : On w lab wb n l) : Calls Tryz.prog 97 #[ptr wb] w fun e w' => e = .returned (.int .i64 (l.length : Int)) ∧ w' = w := by
  obtain ⟨mb, nb, V, L, hd, tk, U, W, rfl⟩ := h
  rw [List.length_map]
  exact len_any W
theorem ocancel_any (h : On w lab wb n l) {x : Int} (hx : isI x) (hn : n + 20000 ≤ 4611686018427387904) {g : Nat} (hg : w.cell? ⟨g, 0, none⟩ = some (.int .i64 x)) (hlg : lab g = 0) :
    Calls Tryz.prog 290 #[ptr wb, .slice (some ⟨g, 0, none⟩) 1 1] w fun e w' => ∃ c : Int, e = .returned (.int .i64 c) ∧ ((∃ p ∈ l, p.1 = x) ∧ c = 1 ∨ (∀ p ∈ l, p.1 ≠ x) ∧ c = 0) ∧ On w' lab wb n (woL l x) ∧ Fr lab w lab w' := by
  obtain ⟨mb, nb, V, L, hd, tk, U, W, rfl⟩ := h
  refine (cancel_any W hx hn hg hlg).mono fun e w' ⟨he, V', L', W', c⟩ => ⟨_, he, ?_, ⟨mb, nb, V', L', hd, tk, _, W', (woL_map hd tk U x).symm⟩, c, fun _ _ => rfl⟩
  cases e : fdb hd U x with
  | none =>
    refine .inr ⟨fun p hp => ?_, rfl⟩
    obtain ⟨a, ha, rfl⟩ := List.mem_map.1 hp
    exact fdb_none e a ha
  | some b => exact .inl ⟨⟨pr hd tk b, List.mem_map_of_mem (fdb_some e).1, (fdb_some e).2⟩, rfl⟩

theorem oarm_bad (h : On w lab wb n l) {x t : Int} (ht : isI t) (hn : n + 20000 ≤ 4611686018427387904) (hb : ¬((n : Int) < t ∧ t ≤ (n : Int) + 4096)) :
    Calls Tryz.prog 291 #[ptr wb, .int .i64 x, .int .i64 t] w fun e w' => e = .returned (.int .i64 1) ∧ w' = w := by
  obtain ⟨mb, nb, V, L, hd, tk, U, W, rfl⟩ := h
  exact arm_bad W ht hn hb
theorem oarm_good (h : On w lab wb n l) {x t : Int} (hx : isI x) (hn : n + 20000 ≤ 4611686018427387904) (hU : l.length ≤ 1099511627775) (ht : (n : Int) < t ∧ t ≤ (n : Int) + 4096) :
    Calls Tryz.prog 291 #[ptr wb, .int .i64 x, .int .i64 t] w fun e w' => e = .returned (.int .i64 0) ∧ ∃ lab', On w' lab' wb n (woL l x ++ [(x, t)]) ∧ Fr lab w lab' w' := by
  obtain ⟨mb, nb, V, L, hd, tk, U, W, rfl⟩ := h
  rw [List.length_map] at hU
  obtain ⟨t, rfl⟩ : ∃ k : Nat, t = k := ⟨t.toNat, by omega⟩
  refine (arm_good W hx hn hU (by omega)).mono fun e w' ⟨he, lab', V', L', hd', tk', b, W', h1, h2, h3, h4, h5⟩ => ⟨he, lab', ⟨mb, nb, V', L', hd', tk', _, W', ?_⟩, h4, h5⟩
  rw [List.map_append, ← woL_map]
  have h6 : (wo hd U x).map (pr hd tk) = (wo hd U x).map (pr hd' tk') := List.map_congr_left fun a ha => by
    obtain ⟨h7, h8⟩ := h3 a (mem_wo.1 ha).1
    unfold pr
    rw [h7, h8]
  rw [h6]
  simp [pr, h1, h2]

/-- In the order in which they are due. -/
def OrdL (l : List (Int × Int)) : Prop := l.Pairwise (fun a b => a.2 < b.2 ∨ a.2 = b.2 ∧ a.1 < b.1)
/-- A row holds what was due. -/
def Duv (w : World) (base : Nat) (v : Value) (out : List (Int × Int)) : Prop := w.ownsRow base 176 2 v out.length (dv out)

theorem oadv_any (h : On w lab wb n l) {t : Int} (ht : isI t) (hn : n + 20000 ≤ 4611686018427387904) (hU : l.length ≤ 1099511627775) (np : Nat) (hnp : n ≤ np) (hnp2 : np ≤ n + 10000) (hE : ∀ m : Nat, n ≤ m → ((m : Int) < min t ((n : Int) + 10000) ↔ m < np)) :
    Calls Tryz.prog 132 #[ptr wb, .int .i64 t] w fun e w' => ∃ v lab' out, e = .returned v ∧ On w' lab' wb np (l.filter fun p => decide ((np : Int) < p.2)) ∧ Fr lab w lab' w' ∧ Duv w' w.heap.size v out ∧ (∀ g, v.ownBlock = some g → lab' g = 0) ∧
      OrdL out ∧ ∀ p, p ∈ out ↔ p ∈ l ∧ p.2 ≤ (np : Int) := by
  obtain ⟨mb, nb, V, L, hd, tk, U, W, rfl⟩ := h
  rw [List.length_map] at hU
  refine (adv_any W ht hn hU np hnp hnp2 hE).mono fun e w' ⟨v, he, lab1, V1, L1, ob, W1, o1, vl, od, mm, ch, l1⟩ => ⟨v, lab1, ob.map (pr hd tk), he, ⟨mb, nb, V1, L1, hd, tk, _, W1, ?_⟩, ⟨ch, l1⟩, ?_, vl, ?_, fun p => ?_⟩
  · unfold af
    rw [List.filter_map]
    congr 1
    refine List.filter_congr fun b _ => ?_
    by_cases q : np < tk b <;> simp [pr, q]
  · unfold Duv
    rw [List.length_map]
    exact o1
  · unfold OrdL
    rw [List.pairwise_map]
    refine List.Pairwise.imp (fun {a b} h => ?_) od
    rcases h with h | ⟨h, h'⟩
    · exact .inl (Int.ofNat_lt.2 h)
    · exact .inr ⟨congrArg Int.ofNat h, h'⟩
  · rw [List.mem_map, List.mem_map]
    constructor
    · rintro ⟨b, hb, rfl⟩
      obtain ⟨h1, h2⟩ := (mm b).1 hb
      exact ⟨⟨b, h1, rfl⟩, Int.ofNat_le.2 h2⟩
    · rintro ⟨⟨b, hb, rfl⟩, h2⟩
      exact ⟨b, (mm b).2 ⟨hb, Int.ofNat_le.1 h2⟩, rfl⟩
end

/-- The five blocks of a wheel that is new. -/
def newW (w : World) (n : Nat) : World :=
  ((((w.alloc (nestO 1 (.pointer none))).alloc (nestO 16 (ptr w.heap.size))).alloc (nestO 256 (ptr (w.heap.size + 1)))).alloc (.map #[] 0)).alloc
    (.cells #[ptr (w.heap.size + 2), .int .i64 (n : Int), .map (some (w.heap.size + 3))] 172)
def labN (s : Nat) : Nat → Nat := fun k => if k = s then 10 else if k = s + 1 then 11 else if k = s + 2 then 12 else if k = s + 3 then 2 else if k = s + 4 then 1 else 0

theorem On.new (w : World) (n : Nat) : On (newW w n) (labN w.heap.size) (w.heap.size + 4) n [] ∧ Fr (fun _ => 0) w (labN w.heap.size) (newW w n) := by
  have sz : (newW w n).heap.size = w.heap.size + 5 := by unfold newW; simp
  have e4 : (newW w n).heap[w.heap.size + 4]? = some (.cells #[ptr (w.heap.size + 2), .int .i64 (n : Int), .map (some (w.heap.size + 3))] 172) := by
    unfold newW
    have h := heap_alloc_new ((((w.alloc (nestO 1 (.pointer none))).alloc (nestO 16 (ptr w.heap.size))).alloc (nestO 256 (ptr (w.heap.size + 1)))).alloc (.map #[] 0)) (.cells #[ptr (w.heap.size + 2), .int .i64 (n : Int), .map (some (w.heap.size + 3))] 172)
    simp only [World.size_alloc] at h
    exact h
  have e3 : (newW w n).heap[w.heap.size + 3]? = some (.map #[] 0) := by
    unfold newW
    rw [Below.heap_alloc _ _ _ (by simp)]
    have h := heap_alloc_new (((w.alloc (nestO 1 (.pointer none))).alloc (nestO 16 (ptr w.heap.size))).alloc (nestO 256 (ptr (w.heap.size + 1)))) (.map #[] 0)
    simp only [World.size_alloc] at h
    exact h
  have e2 : (newW w n).heap[w.heap.size + 2]? = some (nestO 256 (ptr (w.heap.size + 1))) := by
    unfold newW
    rw [Below.heap_alloc _ _ _ (by simp), Below.heap_alloc _ _ _ (by simp)]
    have h := heap_alloc_new ((w.alloc (nestO 1 (.pointer none))).alloc (nestO 16 (ptr w.heap.size))) (nestO 256 (ptr (w.heap.size + 1)))
    simp only [World.size_alloc] at h
    exact h
  have e1 : (newW w n).heap[w.heap.size + 1]? = some (nestO 16 (ptr w.heap.size)) := by
    unfold newW
    rw [Below.heap_alloc _ _ _ (by simp), Below.heap_alloc _ _ _ (by simp), Below.heap_alloc _ _ _ (by simp)]
    have h := heap_alloc_new (w.alloc (nestO 1 (.pointer none))) (nestO 16 (ptr w.heap.size))
    simp only [World.size_alloc] at h
    exact h
  have e0 : (newW w n).heap[w.heap.size]? = some (nestO 1 (.pointer none)) := by
    unfold newW
    rw [Below.heap_alloc _ _ _ (by simp; omega), Below.heap_alloc _ _ _ (by simp; omega), Below.heap_alloc _ _ _ (by simp; omega), Below.heap_alloc _ _ _ (by simp)]
    exact heap_alloc_new w _
  have lb : ∀ k, labN w.heap.size k ≠ 0 → w.heap.size ≤ k ∧ k < w.heap.size + 5 := fun k hk => by
    unfold labN at hk
    split at hk
    · omega
    · split at hk
      · omega
      · split at hk
        · omega
        · split at hk
          · omega
          · split at hk
            · omega
            · exact absurd rfl hk
  have hch : Ch w (newW w n) (fun _ => False) := (((((Ch.refl w _).alloc _).alloc _).alloc _).alloc _).alloc _
  refine ⟨⟨w.heap.size + 3, fun r => w.heap.size + r, fun _ _ => .slice none 0 0, fun _ _ => [], fun _ => 0, fun _ => 0, [],
    ⟨⟨fun r hr => ?_, fun r i hr hi => ⟨World.ownsRow_nil _ _ _ _, (fun g hg => by cases hg)⟩, (fun r i hr hi j b hj => by cases hj), (fun b hb => by have := lb b hb; omega)⟩, (by simp [labN]), e4, (by simp [labN]), ?_,
      (fun b => ⟨(fun ⟨r, i, _, _, hb⟩ => by cases hb), (fun hb => by cases hb)⟩), (fun r i b _ _ hb => by cases hb), List.nodup_nil, (fun a b ha => by cases ha), (fun a ha => by cases ha)⟩, rfl⟩, hch.mono (fun _ _ h => h.elim), fun k hk => ?_⟩
  · rcases (by omega : r = 0 ∨ r = 1 ∨ r = 2) with rfl | rfl | rfl
    · refine ⟨by simp [labN], _, e0, rfl, fun j hj => ?_⟩
      match j, hj with
      | 0, _ => exact rfl
      | 1, _ => exact rfl
      | 2, _ => exact rfl
      | 3, _ => exact rfl
      | 4, _ => exact rfl
      | 5, _ => exact rfl
      | 6, _ => exact rfl
      | 7, _ => exact rfl
      | 8, _ => exact rfl
      | 9, _ => exact rfl
      | 10, _ => exact rfl
      | 11, _ => exact rfl
      | 12, _ => exact rfl
      | 13, _ => exact rfl
      | 14, _ => exact rfl
      | 15, _ => exact rfl
      | 16, _ => exact rfl
      | 17, _ => exact rfl
      | k + 18, h => exact absurd h (by omega)
    · refine ⟨by simp [labN], _, e1, rfl, fun j hj => ?_⟩
      match j, hj with
      | 0, _ => exact rfl
      | 1, _ => exact rfl
      | 2, _ => exact rfl
      | 3, _ => exact rfl
      | 4, _ => exact rfl
      | 5, _ => exact rfl
      | 6, _ => exact rfl
      | 7, _ => exact rfl
      | 8, _ => exact rfl
      | 9, _ => exact rfl
      | 10, _ => exact rfl
      | 11, _ => exact rfl
      | 12, _ => exact rfl
      | 13, _ => exact rfl
      | 14, _ => exact rfl
      | 15, _ => exact rfl
      | 16, _ => exact rfl
      | 17, _ => exact rfl
      | k + 18, h => exact absurd h (by omega)
    · refine ⟨by simp [labN], _, e2, rfl, fun j hj => ?_⟩
      match j, hj with
      | 0, _ => exact rfl
      | 1, _ => exact rfl
      | 2, _ => exact rfl
      | 3, _ => exact rfl
      | 4, _ => exact rfl
      | 5, _ => exact rfl
      | 6, _ => exact rfl
      | 7, _ => exact rfl
      | 8, _ => exact rfl
      | 9, _ => exact rfl
      | 10, _ => exact rfl
      | 11, _ => exact rfl
      | 12, _ => exact rfl
      | 13, _ => exact rfl
      | 14, _ => exact rfl
      | 15, _ => exact rfl
      | 16, _ => exact rfl
      | 17, _ => exact rfl
      | k + 18, h => exact absurd h (by omega)
  · have h := MapIs.made (((w.alloc (nestO 1 (.pointer none))).alloc (nestO 16 (ptr w.heap.size))).alloc (nestO 256 (ptr (w.heap.size + 1))))
    simp only [World.size_alloc] at h
    exact h.keep (Below.heap_alloc _ _ _ (by simp))
  · have : ¬ labN w.heap.size k ≠ 0 := fun h => by have := lb k h; omega
    exact Decidable.not_not.1 this

/-- A tick held within 0 to 2^40. -/
def clamp (t : Int) : Nat := (min (max t 0) 1099511627776).toNat
theorem clamp_le (t : Int) : clamp t ≤ 1099511627776 := by unfold clamp; omega
theorem clamp_eq (t : Int) : ((clamp t : Nat) : Int) = min (max t 0) 1099511627776 := by unfold clamp; omega

set_option maxHeartbeats 1600000 in
theorem new_any (t : Int) (ht : isI t) (w : World) : Calls Tryz.prog 118 #[.int .i64 t] w fun e w' => ∃ lab' wb, e = .returned (ptr wb) ∧ On w' lab' wb (clamp t) [] ∧ Fr (fun _ => 0) w lab' w' := by
  have HR := Lib.hid (rings_any w)
  have hmm := @run_makeMap Tryz.prog
  have hc := clamp_eq t
  have hc2 := clamp_le t
  generalize clamp t = n at *
  unfold isI at ht
  obtain ⟨M, hM⟩ : ∃ M, max t 0 = M := ⟨_, rfl⟩
  rw [hM] at hc
  have hc3 := hc.symm
  clear hc
  unfold nestO ptr at *
  go_enter Tryz.func118, Tryz.ntmps118
  go_wp2_with (first | (go_at_call 170; refine (HR.out).mono ?_; rintro e w1 ⟨rfl, rfl⟩))
  go_ret
  obtain ⟨h1, h2⟩ := On.new w n
  exact ⟨_, w.heap.size + 4, rfl, h1, h2⟩

end Go.Proofs.YtlcegchdkigibaaGreatDoor.LW

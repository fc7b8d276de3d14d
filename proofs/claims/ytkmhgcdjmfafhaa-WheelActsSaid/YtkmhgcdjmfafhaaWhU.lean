/- What is due while time goes on: a row of what was due, the map without them; mathematics of going on by one tick. No condition. -/
import Derived.Test.YtkmhgcdjmfafhaaWhZ
import Derived.StillTailTactics
namespace Go.Proofs.Ytkmhgcdjmfafhaa
set_option linter.unusedVariables false
set_option linter.unusedSimpArgs false
open Go.RowKit

/-- The cells of what was due. -/
def dv : List (Int × Int) → List Value
  | [] => []
  | p :: l => .int .i64 p.1 :: .int .i64 p.2 :: dv l
theorem dv_append (l r : List (Int × Int)) : dv (l ++ r) = dv l ++ dv r := by
  induction l with
  | nil => rfl
  | cons p l ih => simp [dv, ih]
theorem dv_length (l : List (Int × Int)) : (dv l).length = l.length * 2 := by
  induction l with
  | nil => rfl
  | cons p l ih => simp [dv, ih]; omega
def pr (hd : Nat → Int) (tk : Nat → Nat) (b : Nat) : Int × Int := (hd b, (tk b : Int))

theorem infoDue : (Try.prog.info? 53).map (fun i => (i.zero, i.size, i.bytes)) = some (some (.agg #[.int .i64 0, .int .i64 0]), 2, 16) := by kernel_rfl
theorem infoRDue : (Try.prog.info? 47).map (fun i => (i.zero, i.size, i.bytes)) = some (some (.agg #[.int .i64 0, .int .i64 0]), 2, 16) := by kernel_rfl

/-- append of one struct of two numbers, onto a row of the call's own. -/
theorem wpList_app2 {P : Program} {w : World} {ops : Array Oper} {rest : List Oper} {o : Oper} {a : Act} {Q : Exit → Act → World → Prop} (hgd : o.guard = none) (s x : Operand) (t e : TypeId)
    (ho : o.op = .call { callee := .builtin .append, args := #[s, x], argTypes := #[t, t] })
    (ht : P.underlying t = some (.slice e)) (hi : (P.info? e).map (fun i => (i.zero, i.size, i.bytes)) = some (some (.agg #[.int .i64 0, .int .i64 0]), 2, 16))
    (base : Nat) (v : Value) (n : Nat) (l : List (Int × Int)) (hs : a.eval s = v) (hown : w.ownsRow base e 2 v n (dv l)) (hb : base ≤ w.heap.size)
    (g : Nat) (p q : Int) (hx : a.eval x = .slice (some ⟨g, 0, none⟩) 1 1) (hp : w.cell? ⟨g, 0, none⟩ = some (.int .i64 p)) (hq : w.cell? ⟨g, 1, none⟩ = some (.int .i64 q)) (h40 : n ≤ 1099511627776)
    (h : ∀ v' w', w'.ownsRow base e 2 v' (n + 1) (dv (l ++ [(p, q)])) → w.grownBy w' v.ownBlock → (v'.ownBlock = v.ownBlock ∨ v'.ownBlock = some w.heap.size) → wpList P ops Q rest (a.put o.dst v') w') :
    wpList P ops Q (o :: rest) a w := by
  obtain ⟨i, hi, hzz⟩ := Option.map_eq_some_iff.1 hi
  simp only [Prod.mk.injEq] at hzz
  obtain ⟨hz, h2, h3⟩ := hzz
  refine wpList_append_own_at (P := P) w hgd s x t ho base e i _ 2 16 ht hi hz h2 h3 rfl (by decide) v n (dv l) hs hown ⟨g, 0, none⟩ 1 1 [.int .i64 p, .int .i64 q] hx rfl ?_ ?_ (by unfold maxLen; omega) (by omega) hb fun v' w' a1 a2 _ a4 => h v' w' ?_ a2 a4
  · intro j u hj
    match j, hj with
    | 0, hj =>
      simp at hj
      subst hj
      simpa [Addr.add] using hp
    | 1, hj =>
      simp at hj
      subst hj
      simpa [Addr.add] using hq
  · intro u hu
    simp at hu
    rcases hu with rfl | rfl <;> rfl
  · rw [dv_append]
    exact a1

/-- The timers that are for later than m. -/
def af (tk : Nat → Nat) (U : List Nat) (m : Nat) : List Nat := U.filter (fun b => decide (m < tk b))
theorem mem_af {tk : Nat → Nat} {U : List Nat} {m b : Nat} : b ∈ af tk U m ↔ b ∈ U ∧ m < tk b := by
  unfold af
  rw [List.mem_filter, decide_eq_true_iff]
theorem af_start {tk : Nat → Nat} {U : List Nat} {n : Nat} (h : ∀ b ∈ U, n < tk b) : af tk U n = U := by
  unfold af
  rw [List.filter_eq_self]
  intro b hb
  simpa using h b hb
theorem af_step (tk : Nat → Nat) (U : List Nat) (m : Nat) : (af tk U m).filter (fun b => decide (tk b ≠ m + 1)) = af tk U (m + 1) := by
  unfold af
  rw [List.filter_filter]
  refine List.filter_congr fun b _ => ?_
  by_cases h1 : m < tk b <;> by_cases h2 : tk b = m + 1 <;> simp [h1, h2] <;> omega
theorem filter_two (p : Nat → Bool) : ∀ l : List Nat, (l.filter p).length + (l.filter fun b => !p b).length = l.length
  | [] => rfl
  | x :: l => by
    have := filter_two p l
    cases h : p x <;> simp [h] <;> omega

/-- While those that are due are taken out of the map: j of them. -/
structure Inn (base : Nat) (w2 : World) (lab2 : Nat → Nat) (mb : Nat) (U1 : List Nat) (hd : Nat → Int) (tk : Nat → Nat) (zs : List Nat) (out : List (Int × Int)) (j : Nat) (wr : World) (v : Value) : Prop where
  own : wr.ownsRow base 53 2 v (out.length + j) (dv (out ++ (zs.take j).map (pr hd tk)))
  vlab : ∀ g, v.ownBlock = some g → lab2 g = 0
  map : MapIs wr mb (fun k => if k ∈ (zs.take j).map hd then none else fdb hd U1 k) (U1.length - j)
  ch : Ch w2 wr (fun k => k = mb ∨ base ≤ k ∧ lab2 k = 0)

section
variable {base : Nat} {w2 wr w3 w4 : World} {lab2 : Nat → Nat} {mb : Nat} {U1 : List Nat} {hd : Nat → Int} {tk : Nat → Nat} {zs : List Nat} {out : List (Int × Int)} {j b : Nat} {v v' : Value}

theorem Inn.key (hnd : zs.Nodup) (hsub : ∀ b ∈ zs, b ∈ U1) (hdist : ∀ a b, a ∈ U1 → b ∈ U1 → hd a = hd b → a = b) (hj : zs[j]? = some b) :
    (fun k => if k ∈ (zs.take j).map hd then none else fdb hd U1 k) (hd b) = some b := by
  obtain ⟨hlt, hb⟩ := List.getElem?_eq_some_iff.1 hj
  have hbz : b ∈ zs := List.mem_of_getElem? hj
  show (if hd b ∈ (zs.take j).map hd then none else fdb hd U1 (hd b)) = some b
  rw [if_neg, fdb_of hdist (hsub b hbz)]
  rintro h
  obtain ⟨c, hc, e⟩ := List.mem_map.1 h
  have hcz := List.mem_of_mem_take hc
  have := hdist c b (hsub c hcz) (hsub b hbz) e
  subst this
  obtain ⟨i, hi, e2⟩ := List.getElem_of_mem hc
  rw [List.getElem_take] at e2
  rw [List.length_take] at hi
  have := (List.getElem_inj hnd).1 (e2.trans hb.symm)
  omega

theorem Inn.next (h : Inn base w2 lab2 mb U1 hd tk zs out j wr v) (hj : zs[j]? = some b)
    (M3 : MapIs w3 mb (fun k => if k = hd b then none else (if k ∈ (zs.take j).map hd then none else fdb hd U1 k)) (U1.length - j - 1)) (c3 : Ch wr w3 (fun k => k = mb)) (hmb : lab2 mb = 2) (hlt : ∀ k, lab2 k ≠ 0 → k < w2.heap.size) (hbase : base ≤ w2.heap.size)
    {q : Nat} {o : Obj} (own' : w4.ownsRow base 53 2 v' (out.length + j + 1) (dv (out ++ (zs.take j).map (pr hd tk) ++ [(hd b, (tk b : Int))]))) (gr : ((w3.drewN q).alloc o).grownBy w4 v.ownBlock)
    (at' : v'.ownBlock = v.ownBlock ∨ v'.ownBlock = some ((w3.drewN q).alloc o).heap.size) (hvb : ∀ g, v.ownBlock = some g → base ≤ g) :
    Inn base w2 lab2 mb U1 hd tk zs out (j + 1) w4 v' := by
  have htake : zs.take (j + 1) = zs.take j ++ [b] := by rw [List.take_add_one, hj]; rfl
  have s1 := h.ch.size
  have s2 := c3.size
  have hmlt := hlt mb (by omega)
  have hnew : ∀ k, w2.heap.size ≤ k → lab2 k = 0 := fun k hk => by
    by_cases e : lab2 k = 0
    · exact e
    · have := hlt k e
      omega
  have c4 : Ch w2 ((w3.drewN q).alloc o) (fun k => k = mb ∨ base ≤ k ∧ lab2 k = 0) := ((h.ch.trans c3 (m'' := fun k => k = mb ∨ base ≤ k ∧ lab2 k = 0) (fun _ _ h => h) (fun _ _ h => .inl h)).drewN q).alloc o
  refine ⟨?_, fun g hg => ?_, ?_, c4.grown gr fun k hk _ => .inr ⟨hvb k hk, h.vlab k hk⟩⟩
  · rw [htake, List.map_append, ← List.append_assoc]
    exact own'
  · rcases at' with h1 | h1
    · exact h.vlab g (h1 ▸ hg)
    · rw [hg] at h1
      injection h1 with h1
      refine hnew g ?_
      have h5 : ((w3.drewN q).alloc o).heap.size = w3.heap.size + 1 := by rw [World.size_alloc]; rfl
      omega
  · rw [htake, List.map_append]
    have hf : (fun k => if k = hd b then none else (if k ∈ (zs.take j).map hd then none else fdb hd U1 k)) = fun k => if k ∈ (zs.take j).map hd ++ [b].map hd then none else fdb hd U1 k := by
      funext k
      by_cases e : k = hd b
      · subst e
        simp
      · rw [if_neg e]
        have : (k ∈ (zs.take j).map hd ++ [b].map hd) ↔ k ∈ (zs.take j).map hd := by simp [e]
        simp only [this]
    rw [← hf, ← Nat.sub_sub]
    refine M3.keep ?_
    have hx : v.ownBlock ≠ some mb := fun e => by have := h.vlab mb e; omega
    refine (gr.block mb ?_ (fun e => hx e.symm)).trans (Below.heap_alloc (w3.drewN q) o mb ?_)
    · simp
      show mb < w3.heap.size + 1
      omega
    · show mb < w3.heap.size
      omega
end

end Go.Proofs.Ytkmhgcdjmfafhaa

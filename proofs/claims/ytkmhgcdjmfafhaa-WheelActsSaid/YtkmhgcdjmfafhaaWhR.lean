/- Two wheels side by side; rows of what was due, joined. No condition. -/
import Derived.Test.YtkmhgcdjmfafhaaWhQ
import Derived.Test.YtkmhgcdjmfafhaaInt
namespace Go.Proofs.Ytkmhgcdjmfafhaa
set_option linter.unusedVariables false
set_option linter.unusedSimpArgs false
open Go.RowKit

theorem appD_none {P : Program} (w : World) (base : Nat) (t ty e : TypeId) (i : TypeInfo) (ht : P.underlying t = some (.slice e)) (hi : P.info? e = some i) (h2 : i.size = 2)
    (v : Value) (n c : Nat) (xs : List Value) (hown : w.ownsRow base e 2 v n xs) : (Builtin.append_ #[t, t] ty #[v, .slice none 0 c]).run P w = .ok v w := by
  rcases hown.2 with ⟨rfl, rfl⟩ | ⟨g, cap, cur, rfl, _, _, hnc, _⟩
  · simp [Builtin.append_, run_underlying ht, sizeOf, typeInfo, hi, Builtin.lenOf, Builtin.firstCells]
  · simp [Builtin.append_, run_underlying ht, sizeOf, typeInfo, hi, Builtin.lenOf, Builtin.firstCells, hnc, storeCells]

/-- append of a row of structs of two numbers, onto a row of the call's own. -/
theorem wpList_appD {P : Program} {w : World} {ops : Array Oper} {rest : List Oper} {o : Oper} {a : Act} {Q : Exit → Act → World → Prop} (hgd : o.guard = none) (s x : Operand) (t e : TypeId)
    (ho : o.op = .call { callee := .builtin .append, args := #[s, x], argTypes := #[t, t] })
    (ht : P.underlying t = some (.slice e)) (hi : (P.info? e).map (fun i => (i.zero, i.size, i.bytes)) = some (some (.agg #[.int .i64 0, .int .i64 0]), 2, 16))
    (base : Nat) (v : Value) (n : Nat) (l : List (Int × Int)) (hs : a.eval s = v) (hown : w.ownsRow base e 2 v n (dv l)) (hb : base ≤ w.heap.size)
    (base2 : Nat) (v2 : Value) (r : List (Int × Int)) (hx : a.eval x = v2) (hown2 : w.ownsRow base2 e 2 v2 r.length (dv r)) (h40 : n + r.length ≤ 1099511627776)
    (h : ∀ v' w', w'.ownsRow base e 2 v' (n + r.length) (dv (l ++ r)) → w.grownBy w' v.ownBlock → (v'.ownBlock = v.ownBlock ∨ v'.ownBlock = some w.heap.size) → wpList P ops Q rest (a.put o.dst v') w') :
    wpList P ops Q (o :: rest) a w := by
  obtain ⟨i, hi, hzz⟩ := Option.map_eq_some_iff.1 hi
  simp only [Prod.mk.injEq] at hzz
  obtain ⟨hz, h2, h3⟩ := hzz
  rcases hown2.2 with ⟨rfl, h0⟩ | ⟨g, cap, cur, rfl, _, hg, hn, hm, hsz, ht2⟩
  · have hr : r = [] := List.eq_nil_of_length_eq_zero h0
    subst hr
    refine wpList_plain hgd fun K hK => ?_
    have hrun := appD_none (P := P) w base t o.type e i ht hi h2 v n 0 (dv l) hown
    unfold Oper.wp execOp
    simp only [ho, resolve, invoke, builtin, Sem.run_bind, Sem.run_pure, Result.andThen_ok, List.map_toArray, List.map_cons, List.map_nil, hs, hx, hrun]
    refine hK _ _ (h v w ?_ ⟨rfl, rfl, rfl, Nat.le_refl _, fun _ _ _ => rfl⟩ (.inl rfl))
    rw [List.append_nil]
    exact hown
  · refine wpList_append_own_at (P := P) w hgd s x t ho base e i _ 2 16 ht hi hz h2 h3 rfl (by decide) v n (dv l) hs hown ⟨g, 0, none⟩ r.length cap (dv r) hx (dv_length r) (hown2.cells rfl) ?_ (by unfold maxLen; omega) (by omega) hb fun v' w' a1 a2 _ a4 => h v' w' ?_ a2 a4
    · intro u hu
      have : ∀ l : List (Int × Int), ∀ u ∈ dv l, u.oneCell' = true := fun l => by
        induction l with
        | nil => intro u hu; cases hu
        | cons p l ih =>
          intro u hu
          simp only [dv, List.mem_cons] at hu
          rcases hu with rfl | rfl | hu
          · rfl
          · rfl
          · exact ih u hu
      exact this r u hu
    · rw [dv_append]
      exact a1

/-- Two wheels that share nothing, made since w. -/
def Pair (w wr : World) (wa wb na nb : Nat) (la lb : List (Int × Int)) (labA labB : Nat → Nat) : Prop :=
  On wr labA wa na la ∧ On wr labB wb nb lb ∧ (∀ x, labA x ≠ 0 → labB x = 0) ∧ RowKit.Below w.heap.size w wr ∧ ∀ x, x < w.heap.size → labA x = 0 ∧ labB x = 0
section
variable {w wr w' : World} {wa wb na nb na' : Nat} {la lb la' : List (Int × Int)} {labA labB labA' : Nat → Nat}
theorem Pair.symm (h : Pair w wr wa wb na nb la lb labA labB) : Pair w wr wb wa nb na lb la labB labA :=
  ⟨h.2.1, h.1, fun x hx => by
    by_cases e : labA x = 0
    · exact e
    · exact absurd (h.2.2.1 x e) hx, h.2.2.2.1, fun x hx => ⟨(h.2.2.2.2 x hx).2, (h.2.2.2.2 x hx).1⟩⟩
theorem Pair.stepA (h : Pair w wr wa wb na nb la lb labA labB) (O : On w' labA' wa na' la') (F : Fr labA wr labA' w') : Pair w w' wa wb na' nb la' lb labA' labB := by
  obtain ⟨h1, h2, h3, h4, h5⟩ := h
  refine ⟨O, h2.ch F.1 h3, fun x hx => ?_, h4.trans ⟨F.1.os, F.1.tape, F.1.output, F.1.size, fun k hk => F.1.block k (Nat.lt_of_lt_of_le hk h4.size) fun e => e (h5 k hk).1⟩, fun x hx => ⟨(F.2 x (Nat.lt_of_lt_of_le hx h4.size)).trans (h5 x hx).1, (h5 x hx).2⟩⟩
  by_cases e : x < wr.heap.size
  · rw [F.2 x e] at hx
    exact h3 x hx
  · by_cases e2 : labB x = 0
    · exact e2
    · exact absurd (h2.lt e2) e
theorem Pair.ch (h : Pair w wr wa wb na nb la lb labA labB) {m : Nat → Prop} (c : Ch wr w' m) (hm : ∀ k, m k → labA k = 0 ∧ labB k = 0 ∧ w.heap.size ≤ k) : Pair w w' wa wb na nb la lb labA labB := by
  obtain ⟨h1, h2, h3, h4, h5⟩ := h
  exact ⟨h1.ch c fun k hk => (hm k hk).1, h2.ch c fun k hk => (hm k hk).2.1, h3, h4.trans ⟨c.os, c.tape, c.output, c.size, fun k hk => c.block k (Nat.lt_of_lt_of_le hk h4.size) fun e => by have := (hm k e).2.2; omega⟩, h5⟩
end

end Go.Proofs.Ytkmhgcdjmfafhaa

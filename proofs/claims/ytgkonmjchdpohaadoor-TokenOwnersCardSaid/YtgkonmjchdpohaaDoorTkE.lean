/- Rows of what a table tells of its tokens. No condition. -/
import Derived.Test.YtgkonmjchdpohaaDoorTkI
import Derived.Test.YtgkonmjchdpohaaDoorTkLy
import Derived.Lib.OwnBridge
import Derived.Deep.RegionLaw
import Derived.Deep.AppendLies
namespace Go.Proofs.YtgkonmjchdpohaaDoor
set_option linter.unusedVariables false
set_option linter.unusedSimpArgs false
open Go.RowKit

/-- What is told of a token: it, whose it is, is it live, till when. -/
structure En where
  tok : Nat
  owner : Int
  live : Bool
  upto : Int
deriving DecidableEq
instance : Inhabited En := ⟨⟨0, 0, false, 0⟩⟩
def En.cells (x : En) : List Value := [.int .u32 (x.tok : Int), .int .i64 x.owner, .bool x.live, .int .i64 x.upto]
def ecs : List En → List Value
  | [] => []
  | x :: l => x.cells ++ ecs l
theorem ecs_append (l r : List En) : ecs (l ++ r) = ecs l ++ ecs r := by
  induction l with
  | nil => rfl
  | cons x l ih => simp [ecs, ih]
theorem ecs_length (l : List En) : (ecs l).length = l.length * 4 := by
  induction l with
  | nil => rfl
  | cons x l ih => simp [ecs, ih, En.cells]; omega
theorem ecs_one (l : List En) : ∀ u ∈ ecs l, u.oneCell' = true := by
  induction l with
  | nil => intro u hu; cases hu
  | cons x l ih =>
    intro u hu
    rcases List.mem_append.1 hu with h | h
    · simp [En.cells] at h
      rcases h with rfl | rfl | rfl | rfl <;> rfl
    · exact ih u h
theorem ecs_at : ∀ (l : List En) (t : Nat), t < l.length * 4 → (ecs l)[t]? = (l.getD (t / 4) default).cells[t % 4]?
  | [], t, h => by simp at h
  | x :: l, t, h => by
    by_cases h4 : t < 4
    · have e1 : t / 4 = 0 := by omega
      have e2 : t % 4 = t := by omega
      rw [e1, e2]
      unfold ecs
      rw [List.getElem?_append_left (by simpa [En.cells] using h4)]
      rfl
    · have e1 : t / 4 = (t - 4) / 4 + 1 := by omega
      have e2 : t % 4 = (t - 4) % 4 := by omega
      have hl : (t - 4) < l.length * 4 := by rw [List.length_cons] at h; omega
      rw [e1, e2]
      unfold ecs
      rw [List.getElem?_append_right (by simp [En.cells]; omega), show x.cells.length = 4 from rfl, ecs_at l (t - 4) hl]
      rfl

/-- Until when an entry's quarantine lasts. -/
def unt (e : Ent) : Int := if e.live then 0 else min e.freed 9223372036854775797 + 10
def en (p : Nat × Ent) : En := ⟨p.1, p.2.owner, p.2.live, unt p.2⟩

theorem infoEn : (Tryd.prog.info? 49).map (fun i => (i.zero, i.size, i.bytes)) = some (some (.agg #[.int .u32 0, .int .i64 0, .bool false, .int .i64 0]), 4, 32) := by kernel_rfl
theorem infoREn : (Tryd.prog.info? 53).map (fun i => (i.zero, i.size, i.bytes)) = some (some (.agg #[.int .u32 0, .int .i64 0, .bool false, .int .i64 0]), 4, 32) := by kernel_rfl

/-- append of one entry, onto a row of the call's own: in a walk, and as a step of a region that draws its order. -/
theorem app_runE {P : Program} {w : World} (t ty e : TypeId) (ht : P.underlying t = some (.slice e)) (hi : (P.info? e).map (fun i => (i.zero, i.size, i.bytes)) = some (some (.agg #[.int .u32 0, .int .i64 0, .bool false, .int .i64 0]), 4, 32))
    (base : Nat) (v : Value) (n : Nat) (l : List En) (hown : w.ownsRow base e 4 v n (ecs l)) (hb : base ≤ w.heap.size) (g : Nat) (x : En) (hc : ∀ j, j < 4 → w.cell? ⟨g, j, none⟩ = x.cells[j]?) (h40 : n ≤ 1099511627776) :
    ∃ v' w', (Builtin.append_ #[t, t] ty #[v, .slice (some ⟨g, 0, none⟩) 1 1]).run P w = .ok v' w' ∧ w'.ownsRow base e 4 v' (n + 1) (ecs (l ++ [x])) ∧ w.grownBy w' v.ownBlock ∧ (v'.ownBlock = v.ownBlock ∨ v'.ownBlock = some w.heap.size) := by
  obtain ⟨i, hi, hzz⟩ := Option.map_eq_some_iff.1 hi
  simp only [Prod.mk.injEq] at hzz
  obtain ⟨hz, h2, h3⟩ := hzz
  obtain ⟨v', w', hr, a1, a2, _, a4⟩ := run_append_own_at (P := P) (w := w) base t ty e i _ 4 32 ht hi hz h2 h3 rfl (by decide) v n (ecs l) hown ⟨g, 0, none⟩ 1 1 x.cells rfl (fun j u hj => by
    have hlt : j < 4 := (List.getElem?_eq_some_iff.1 hj).1
    have := hc j hlt
    rw [hj] at this
    rw [Addr.add_lit, Nat.zero_add]
    exact this) (fun u hu => by
    simp [En.cells] at hu
    rcases hu with rfl | rfl | rfl | rfl <;> rfl) (by unfold maxLen; omega) (by omega) hb
  refine ⟨v', w', hr, ?_, a2, a4⟩
  rw [ecs_append]
  simpa [ecs] using a1
theorem wpList_appE {P : Program} {w : World} {ops : Array Oper} {rest : List Oper} {o : Oper} {a : Act} {Q : Exit → Act → World → Prop} (hgd : o.guard = none) (s x : Operand) (t e : TypeId)
    (ho : o.op = .call { callee := .builtin .append, args := #[s, x], argTypes := #[t, t] })
    (ht : P.underlying t = some (.slice e)) (hi : (P.info? e).map (fun i => (i.zero, i.size, i.bytes)) = some (some (.agg #[.int .u32 0, .int .i64 0, .bool false, .int .i64 0]), 4, 32))
    (base : Nat) (v : Value) (n : Nat) (l : List En) (hs : a.eval s = v) (hown : w.ownsRow base e 4 v n (ecs l)) (hb : base ≤ w.heap.size)
    (g : Nat) (y : En) (hx : a.eval x = .slice (some ⟨g, 0, none⟩) 1 1) (hc : ∀ j, j < 4 → w.cell? ⟨g, j, none⟩ = y.cells[j]?) (h40 : n ≤ 1099511627776)
    (h : ∀ v' w', w'.ownsRow base e 4 v' (n + 1) (ecs (l ++ [y])) → w.grownBy w' v.ownBlock → (v'.ownBlock = v.ownBlock ∨ v'.ownBlock = some w.heap.size) → wpList P ops Q rest (a.put o.dst v') w') :
    wpList P ops Q (o :: rest) a w := by
  refine wpList_plain hgd fun K hK => ?_
  obtain ⟨v', w', hr, h2, h3, h5⟩ := app_runE (P := P) (w := w) t o.type e ht hi base v n l hown hb g y hc h40
  unfold Oper.wp execOp
  simp only [ho, resolve, invoke, builtin, Sem.run_bind, Sem.run_pure, Result.andThen_ok, List.map_toArray, List.map_cons, List.map_nil, hs, hx, hr]
  exact hK _ _ (h v' w' h2 h3 h5)
theorem step_appE {P : Program} (w : World) {ops : Array Oper} {o : Oper} {a : Act} {K : Act → World → Prop} {Q : Exit → Act → World → Prop} {E : Prop} (hgd : o.guard = none) (s x : Operand) (t e : TypeId)
    (ho : o.op = .call { callee := .builtin .append, args := #[s, x], argTypes := #[t, t] })
    (ht : P.underlying t = some (.slice e)) (hi : (P.info? e).map (fun i => (i.zero, i.size, i.bytes)) = some (some (.agg #[.int .u32 0, .int .i64 0, .bool false, .int .i64 0]), 4, 32))
    (base : Nat) (v : Value) (n : Nat) (l : List En) (hs : a.eval s = v) (hown : w.ownsRow base e 4 v n (ecs l)) (hb : base ≤ w.heap.size)
    (g : Nat) (y : En) (hx : a.eval x = .slice (some ⟨g, 0, none⟩) 1 1) (hc : ∀ j, j < 4 → w.cell? ⟨g, j, none⟩ = y.cells[j]?) (h40 : n ≤ 1099511627776)
    (h : ∀ v' w', w'.ownsRow base e 4 v' (n + 1) (ecs (l ++ [y])) → w.grownBy w' v.ownBlock → (v'.ownBlock = v.ownBlock ∨ v'.ownBlock = some w.heap.size) → K (a.put o.dst v') w') :
    if Region.wanted o (yielded ops a.tmps) = true then Oper.wp P o a w K Q else E := by
  have hw : Region.wanted o (yielded ops a.tmps) = true := by simp [Region.wanted, hgd]
  rw [if_pos hw]
  obtain ⟨v', w', hrun, h1, h2, h3⟩ := app_runE (P := P) (w := w) t o.type e ht hi base v n l hown hb g y hc h40
  exact Lib.wp_append_run w s x t t ho _ _ hs hx v' w' hrun (h v' w' h1 h2 h3)

theorem until_any (e : Ent) (w : World) (hf : isI e.freed) : Calls Tryd.prog 27 #[.agg #[.bool e.live, .int .i64 e.owner, .int .i64 e.freed]] w fun en w' => en = .returned (.int .i64 (unt e)) ∧ RowKit.Below w.heap.size w w' := by
  obtain ⟨lv, ow, f⟩ := e
  dsimp only at *
  have HB := Lib.hid (below_a w (.cells #[.bool lv, .int .i64 ow, .int .i64 f] 65))
  cases lv with
  | true =>
    go_enter Tryd.func27, Tryd.ntmps27
    go_wp2_with fail
    go_ret
    exact ⟨rfl, HB.out⟩
  | false =>
    obtain ⟨M, hM⟩ : ∃ M, min f 9223372036854775797 = M := ⟨_, rfl⟩
    have hM1 : IntKind.i64.wrap (M + 10) = M + 10 := by
      unfold isI at hf
      simp [IntKind.wrap, IntKind.bits, IntKind.signed]
      omega
    have HM : Hid (unt ⟨false, ow, f⟩ = M + 10) := Lib.hid (by unfold unt; rw [← hM]; rfl)
    clear hf
    go_enter Tryd.func27, Tryd.ntmps27
    go_wp2_with fail
    go_ret
    exact ⟨by rw [HM.out]; rfl, HB.out⟩

theorem nan_any (x : Nat) (w : World) : Calls Tryd.prog 42 #[.int .u32 (x : Int)] w fun e w' => e = .returned (.bool false) ∧ w' = w := by
  go_enter Tryd.func42, Tryd.ntmps42
  go_wp2_with fail
  go_ret
  exact ⟨rfl, rfl⟩
theorem cmp_any (x y : Nat) (w : World) : Calls Tryd.prog 30 #[.int .u32 (x : Int), .int .u32 (y : Int)] w fun e w' => e = .returned (.int .i64 (Lib.compareInt (x : Int) (y : Int))) ∧ w' = w := by
  have HX := Lib.hid (fun w => nan_any x w)
  have HY := Lib.hid (fun w => nan_any y w)
  unfold Lib.compareInt
  by_cases h1 : (x : Int) < y
  · go_enter Tryd.func30, Tryd.ntmps30
    go_wp2_with fail
    refine (HX.out _).mono ?_
    rintro e w' ⟨rfl, rfl⟩
    go_wp2_with fail
    refine (HY.out _).mono ?_
    rintro e w' ⟨rfl, rfl⟩
    go_wp2_with fail
    go_ret
    simp [h1]
  · by_cases h2 : (y : Int) < x
    · go_enter Tryd.func30, Tryd.ntmps30
      go_wp2_with fail
      refine (HX.out _).mono ?_
      rintro e w' ⟨rfl, rfl⟩
      go_wp2_with fail
      refine (HY.out _).mono ?_
      rintro e w' ⟨rfl, rfl⟩
      go_wp2_with fail
      go_ret
      simp [h1, h2]
    · go_enter Tryd.func30, Tryd.ntmps30
      go_wp2_with fail
      refine (HX.out _).mono ?_
      rintro e w' ⟨rfl, rfl⟩
      go_wp2_with fail
      refine (HY.out _).mono ?_
      rintro e w' ⟨rfl, rfl⟩
      go_wp2_with fail
      go_ret
      simp [h1, h2]
end Go.Proofs.YtgkonmjchdpohaaDoor

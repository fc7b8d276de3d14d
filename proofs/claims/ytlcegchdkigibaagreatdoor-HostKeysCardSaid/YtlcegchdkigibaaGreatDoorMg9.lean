/- Rows of what a table tells of its tokens. No condition.
A row of entries is put in the order of its tokens: over the library's sort. Condition: the row is the call's own.
All of a table's entries: the contract of All. Condition: the ticks of what was freed are whole numbers of 64 bits. -/
import Derived.Test.YtlcegchdkigibaaGreatDoorMg7
import Derived.Test.YtlcegchdkigibaaGreatDoorMg8
import Derived.Lib.OwnBridge
import Derived.Deep.RegionLaw
import Derived.Deep.AppendLies
namespace Go.Proofs.YtlcegchdkigibaaGreatDoor.LT
open Go.Proofs.YtlcegchdkigibaaGreatDoor.LK
set_option linter.unusedVariables false
set_option linter.unusedSimpArgs false
open Go.RowKit

/-- What is told of a token: it, whose it is, is it live, till when. -/
structure En where
  tok : Nat
  owner : Int
  live : Bool
  upto : Int
deriving DecidableEq
instance : Inhabited En := ⟨⟨0, 0, false, 0⟩⟩
def En.cells (x : En) : List Value := [.int .u32 (x.tok : Int), .int .i64 x.owner, .bool x.live, .int .i64 x.upto]
def ecs : List En → List Value
  | [] => []
  | x :: l => x.cells ++ ecs l
theorem ecs_append (l r : List En) : ecs (l ++ r) = ecs l ++ ecs r := by
  induction l with
  | nil => rfl
  | cons x l ih => simp [ecs, ih]
theorem ecs_length (l : List En) : (ecs l).length = l.length * 4 := by
  induction l with
  | nil => rfl
  | cons x l ih => simp [ecs, ih, En.cells]; omega
theorem ecs_one (l : List En) : ∀ u ∈ ecs l, u.oneCell' = true := by
  induction l with
  | nil => intro u hu; cases hu
  | cons x l ih =>
    intro u hu
    rcases List.mem_append.1 hu with h | h
    · simp [En.cells] at h
      rcases h with rfl | rfl | rfl | rfl <;> rfl
    · exact ih u h
theorem ecs_at : ∀ (l : List En) (t : Nat), t < l.length * 4 → (ecs l)[t]? = (l.getD (t / 4) default).cells[t % 4]?
  | [], t, h => by simp at h
  | x :: l, t, h => by
    by_cases h4 : t < 4
    · have e1 : t / 4 = 0 := by omega
      have e2 : t % 4 = t := by omega
      rw [e1, e2]
      unfold ecs
      rw [List.getElem?_append_left (by simpa [En.cells] using h4)]
      rfl
    · have e1 : t / 4 = (t - 4) / 4 + 1 := by omega
      have e2 : t % 4 = (t - 4) % 4 := by omega
      have hl : (t - 4) < l.length * 4 := by rw [List.length_cons] at h; omega
      rw [e1, e2]
      unfold ecs
      rw [List.getElem?_append_right (by simp [En.cells]; omega), show x.cells.length = 4 from rfl, ecs_at l (t - 4) hl]
      rfl

/-- Until when an entry's quarantine lasts. -/
def unt (e : Ent) : Int := if e.live then 0 else min e.freed 9223372036854775797 + 10
def en (p : Nat × Ent) : En := ⟨p.1, p.2.owner, p.2.live, unt p.2⟩

theorem infoEn : (Tryz.prog.info? 81).map (fun i => (i.zero, i.size, i.bytes)) = some (some (.agg #[.int .u32 0, .int .i64 0, .bool false, .int .i64 0]), 4, 32) := by kernel_rfl
/-- append of one entry, onto a row of the call's own: in a walk, and as a step of a region that draws its order. -/
theorem app_runE {P : Program} {w : World} (t ty e : TypeId) (ht : P.underlying t = some (.slice e)) (hi : (P.info? e).map (fun i => (i.zero, i.size, i.bytes)) = some (some (.agg #[.int .u32 0, .int .i64 0, .bool false, .int .i64 0]), 4, 32))
    (base : Nat) (v : Value) (n : Nat) (l : List En) (hown : w.ownsRow base e 4 v n (ecs l)) (hb : base ≤ w.heap.size) (g : Nat) (x : En) (hc : ∀ j, j < 4 → w.cell? ⟨g, j, none⟩ = x.cells[j]?) (h40 : n ≤ 1099511627776) :
    ∃ v' w', (Builtin.append_ #[t, t] ty #[v, .slice (some ⟨g, 0, none⟩) 1 1]).run P w = .ok v' w' ∧ w'.ownsRow base e 4 v' (n + 1) (ecs (l ++ [x])) ∧ w.grownBy w' v.ownBlock ∧ (v'.ownBlock = v.ownBlock ∨ v'.ownBlock = some w.heap.size) := by
  obtain ⟨i, hi, hzz⟩ := Option.map_eq_some_iff.1 hi
  simp only [Prod.mk.injEq] at hzz
  obtain ⟨hz, h2, h3⟩ := hzz
  obtain ⟨v', w', hr, a1, a2, _, a4⟩ := run_append_own_at (P := P) (w := w) base t ty e i _ 4 32 ht hi hz h2 h3 rfl (by decide) v n (ecs l) hown ⟨g, 0, none⟩ 1 1 x.cells rfl (fun j u hj => by
    have hlt : j < 4 := (List.getElem?_eq_some_iff.1 hj).1
    have := hc j hlt
    rw [hj] at this
    rw [Addr.add_lit, Nat.zero_add]
    exact this) (fun u hu => by
    simp [En.cells] at hu
    rcases hu with rfl | rfl | rfl | rfl <;> rfl) (by unfold maxLen; omega) (by omega) hb
  refine ⟨v', w', hr, ?_, a2, a4⟩
  rw [ecs_append]
  simpa [ecs] using a1
theorem wpList_appE {P : Program} {w : World} {ops : Array Oper} {rest : List Oper} {o : Oper} {a : Act} {Q : Exit → Act → World → Prop} (hgd : o.guard = none) (s x : Operand) (t e : TypeId)
    (ho : o.op = .call { callee := .builtin .append, args := #[s, x], argTypes := #[t, t] })
    (ht : P.underlying t = some (.slice e)) (hi : (P.info? e).map (fun i => (i.zero, i.size, i.bytes)) = some (some (.agg #[.int .u32 0, .int .i64 0, .bool false, .int .i64 0]), 4, 32))
    (base : Nat) (v : Value) (n : Nat) (l : List En) (hs : a.eval s = v) (hown : w.ownsRow base e 4 v n (ecs l)) (hb : base ≤ w.heap.size)
    (g : Nat) (y : En) (hx : a.eval x = .slice (some ⟨g, 0, none⟩) 1 1) (hc : ∀ j, j < 4 → w.cell? ⟨g, j, none⟩ = y.cells[j]?) (h40 : n ≤ 1099511627776)
    (h : ∀ v' w', w'.ownsRow base e 4 v' (n + 1) (ecs (l ++ [y])) → w.grownBy w' v.ownBlock → (v'.ownBlock = v.ownBlock ∨ v'.ownBlock = some w.heap.size) → wpList P ops Q rest (a.put o.dst v') w') :
    wpList P ops Q (o :: rest) a w := by
  refine wpList_plain hgd fun K hK => ?_
  obtain ⟨v', w', hr, h2, h3, h5⟩ := app_runE (P := P) (w := w) t o.type e ht hi base v n l hown hb g y hc h40
  unfold Oper.wp execOp
  simp only [ho, resolve, invoke, builtin, Sem.run_bind, Sem.run_pure, Result.andThen_ok, List.map_toArray, List.map_cons, List.map_nil, hs, hx, hr]
  exact hK _ _ (h v' w' h2 h3 h5)
theorem step_appE {P : Program} (w : World) {ops : Array Oper} {o : Oper} {a : Act} {K : Act → World → Prop} {Q : Exit → Act → World → Prop} {E : Prop} (hgd : o.guard = none) (s x : Operand) (t e : TypeId)
    (ho : o.op = .call { callee := .builtin .append, args := #[s, x], argTypes := #[t, t] })
    (ht : P.underlying t = some (.slice e)) (hi : (P.info? e).map (fun i => (i.zero, i.size, i.bytes)) = some (some (.agg #[.int .u32 0, .int .i64 0, .bool false, .int .i64 0]), 4, 32))
    (base : Nat) (v : Value) (n : Nat) (l : List En) (hs : a.eval s = v) (hown : w.ownsRow base e 4 v n (ecs l)) (hb : base ≤ w.heap.size)
    (g : Nat) (y : En) (hx : a.eval x = .slice (some ⟨g, 0, none⟩) 1 1) (hc : ∀ j, j < 4 → w.cell? ⟨g, j, none⟩ = y.cells[j]?) (h40 : n ≤ 1099511627776)
    (h : ∀ v' w', w'.ownsRow base e 4 v' (n + 1) (ecs (l ++ [y])) → w.grownBy w' v.ownBlock → (v'.ownBlock = v.ownBlock ∨ v'.ownBlock = some w.heap.size) → K (a.put o.dst v') w') :
    if Region.wanted o (yielded ops a.tmps) = true then Oper.wp P o a w K Q else E := by
  have hw : Region.wanted o (yielded ops a.tmps) = true := by simp [Region.wanted, hgd]
  rw [if_pos hw]
  obtain ⟨v', w', hrun, h1, h2, h3⟩ := app_runE (P := P) (w := w) t o.type e ht hi base v n l hown hb g y hc h40
  exact Lib.wp_append_run w s x t t ho _ _ hs hx v' w' hrun (h v' w' h1 h2 h3)

theorem until_any (e : Ent) (w : World) (hf : isI e.freed) : Calls Tryz.prog 109 #[.agg #[.bool e.live, .int .i64 e.owner, .int .i64 e.freed]] w fun en w' => en = .returned (.int .i64 (unt e)) ∧ RowKit.Below w.heap.size w w' := by
  obtain ⟨lv, ow, f⟩ := e
  dsimp only at *
  have HB := Lib.hid (below_a w (.cells #[.bool lv, .int .i64 ow, .int .i64 f] 124))
  cases lv with
  | true =>
    go_enter Tryz.func109, Tryz.ntmps109
    go_wp2_with fail
    go_ret
    exact ⟨rfl, HB.out⟩
  | false =>
    obtain ⟨M, hM⟩ : ∃ M, min f 9223372036854775797 = M := ⟨_, rfl⟩
    have hM1 : IntKind.i64.wrap (M + 10) = M + 10 := by
      unfold isI at hf
      simp [IntKind.wrap, IntKind.bits, IntKind.signed]
      omega
    have HM : Hid (unt ⟨false, ow, f⟩ = M + 10) := Lib.hid (by unfold unt; rw [← hM]; rfl)
    clear hf
    go_enter Tryz.func109, Tryz.ntmps109
    go_wp2_with fail
    go_ret
    exact ⟨by rw [HM.out]; rfl, HB.out⟩

theorem nan_any (x : Nat) (w : World) : Calls Tryz.prog 163 #[.int .u32 (x : Int)] w fun e w' => e = .returned (.bool false) ∧ w' = w := by
  go_enter Tryz.func163, Tryz.ntmps163
  go_wp2_with fail
  go_ret
  exact ⟨rfl, rfl⟩
theorem cmp_any (x y : Nat) (w : World) : Calls Tryz.prog 112 #[.int .u32 (x : Int), .int .u32 (y : Int)] w fun e w' => e = .returned (.int .i64 (Lib.compareInt (x : Int) (y : Int))) ∧ w' = w := by
  have HX := Lib.hid (fun w => nan_any x w)
  have HY := Lib.hid (fun w => nan_any y w)
  unfold Lib.compareInt
  by_cases h1 : (x : Int) < y
  · go_enter Tryz.func112, Tryz.ntmps112
    go_wp2_with fail
    refine (HX.out _).mono ?_
    rintro e w' ⟨rfl, rfl⟩
    go_wp2_with fail
    refine (HY.out _).mono ?_
    rintro e w' ⟨rfl, rfl⟩
    go_wp2_with fail
    go_ret
    simp [h1]
  · by_cases h2 : (y : Int) < x
    · go_enter Tryz.func112, Tryz.ntmps112
      go_wp2_with fail
      refine (HX.out _).mono ?_
      rintro e w' ⟨rfl, rfl⟩
      go_wp2_with fail
      refine (HY.out _).mono ?_
      rintro e w' ⟨rfl, rfl⟩
      go_wp2_with fail
      go_ret
      simp [h1, h2]
    · go_enter Tryz.func112, Tryz.ntmps112
      go_wp2_with fail
      refine (HX.out _).mono ?_
      rintro e w' ⟨rfl, rfl⟩
      go_wp2_with fail
      refine (HY.out _).mono ?_
      rintro e w' ⟨rfl, rfl⟩
      go_wp2_with fail
      go_ret
      simp [h1, h2]
end Go.Proofs.YtlcegchdkigibaaGreatDoor.LT

namespace Go.Proofs.YtlcegchdkigibaaGreatDoor.LT
open Go.Proofs.YtlcegchdkigibaaGreatDoor.LK
set_option linter.unusedVariables false
set_option linter.unusedSimpArgs false
open Go.RowKit Go.Shelf Go.Lib Go.Sort

/-- A slice holds the entries l, in new memory. -/
def Er (w : World) (base : Nat) (v : Value) (l : List En) : Prop :=
  ∃ A c, v = .slice A l.length c ∧ l.length ≤ c ∧ c ≤ maxLen ∧ (0 < l.length → ∃ g, A = some ⟨g, 0, none⟩ ∧ base ≤ g ∧ ∀ j, j < l.length → ∀ i, i < 4 → w.cell? ⟨g, j * 4 + i, none⟩ = (l.getD j default).cells[i]?)
theorem Er.ch {w w' : World} {base : Nat} {v : Value} {l : List En} (h : Er w base v l) {m : Nat → Prop} (c : Ch w w' m) (hm : ∀ g, base ≤ g → ¬ m g) : Er w' base v l := by
  obtain ⟨A, n, e, h1, h2, h3⟩ := h
  refine ⟨A, n, e, h1, h2, fun hl => ?_⟩
  obtain ⟨g, hA, hb, hc⟩ := h3 hl
  refine ⟨g, hA, hb, fun j hj i hi => ?_⟩
  have hlen : i < (l.getD j default).cells.length := hi
  have := hc j hj i hi
  rw [List.getElem?_eq_getElem hlen] at this ⊢
  exact c.cell this (hm g hb)
theorem Er.below {w w' : World} {base : Nat} {v : Value} {l : List En} (h : Er w base v l) (b : RowKit.Below w.heap.size w w') : Er w' base v l := h.ch (Ch.of_below (fun _ => False) b) fun _ _ e => e

theorem clos_any (x y : En) (W : World) : Calls Tryz.prog 111 #[.agg x.cells.toArray, .agg y.cells.toArray] W fun e w' => e = .returned (.int .i64 (Lib.compareInt (x.tok : Int) (y.tok : Int))) ∧ ∃ q os', w' = grow (W.drewN q) os' := by
  have HC := Lib.hid (fun w => cmp_any x.tok y.tok w)
  generalize Lib.compareInt (x.tok : Int) (y.tok : Int) = r at *
  obtain ⟨a, b, c, d⟩ := x
  obtain ⟨a', b', c', d'⟩ := y
  unfold En.cells
  dsimp only at *
  go_enter Tryz.func111, Tryz.ntmps111
  go_wp2_with fail
  refine (HC.out _).mono ?_
  rintro e w' ⟨rfl, rfl⟩
  go_wp2_with fail
  go_ret
  exact ⟨rfl, 0, _, by rw [alloc_eq_grow, alloc_eq_grow, grow_grow]; rfl⟩

theorem lt_tok (x y : En) : ltOf (fun x y : En => Lib.compareInt (x.tok : Int) (y.tok : Int)) x y = decide (x.tok < y.tok) := by
  unfold ltOf Lib.compareInt
  by_cases h1 : (x.tok : Int) < y.tok
  · have h2 : x.tok < y.tok := by omega
    simp [h1, h2]
  · have h2 : ¬ x.tok < y.tok := by omega
    by_cases h3 : (y.tok : Int) < x.tok <;> simp [h1, h2, h3]
theorem swo_tok : SWO (ltOf (fun x y : En => Lib.compareInt (x.tok : Int) (y.tok : Int))) where
  irrefl x := by rw [lt_tok]; simp
  trans x y z h1 h2 := by rw [lt_tok] at *; simp at *; omega
  ntrans x y z h1 h2 := by rw [lt_tok] at *; simp at *; omega

theorem flat_ecs (l : List En) (t : Nat) (h : t < l.length * 4) : (flatK En.cells 4 l.toArray)[t]! = ((ecs l)[t]?).getD default := by
  have h1 : t / 4 < l.length := by omega
  rw [get_flatK _ _ _ t (by simpa using h), ecs_at l t h]
  have e1 : (l.toArray)[t / 4]! = l.getD (t / 4) default := by
    simp [h1]
  rw [e1]
  have hl : t % 4 < (l.getD (t / 4) default).cells.length := by
    show t % 4 < 4
    omega
  rw [getElem!_pos (l.getD (t / 4) default).cells (t % 4) hl, List.getElem?_eq_getElem hl]
  rfl

theorem holds_own {w : World} {base : Nat} {e : TypeId} {g n c : Nat} {l : List En} (h : w.ownsRow base e 4 (.slice (some ⟨g, 0, none⟩) n c) n (ecs l)) : HoldsK En.cells 4 w g 0 l.toArray ∧ g < w.heap.size ∧ base ≤ g ∧ n ≤ c ∧ c ≤ maxLen ∧ l.length = n := by
  have hlen : l.length = n := by
    have := h.1
    rw [ecs_length] at this
    omega
  have h0 := h
  rcases h.2 with ⟨e0, _⟩ | ⟨g', cap, cur, hv, hb, hg, h1, h2, _⟩
  · cases e0
  · injection hv with hv _ hc
    injection hv with hv
    injection hv with hv _ _
    subst hv
    subst hc
    refine ⟨fun t ht => ?_, (Array.getElem?_eq_some_iff.1 hg).1, hb, h1, h2, hlen⟩
    have ht' : t < l.length * 4 := by simpa using ht
    refine ⟨?_, by simp [World.frozen?, hg]⟩
    rw [Nat.zero_add, World.ownsRow.cellAt h0 t (by omega), flat_ecs l t ht']
    have hlt : t < (ecs l).length := by rw [ecs_length]; exact ht'
    rw [List.getElem?_eq_getElem hlt]
    rfl

/-- The sort's world: nothing has turned but the row. -/
theorem swK_ch {w w' : World} {g q : Nat} {d : Array En} {os : Array Obj} (h : w' = sortWorldK En.cells 4 w g 0 q d os) : Ch w w' (fun k => k = g) := by
  subst h
  unfold sortWorldK putRowK
  refine ⟨rfl, rfl, rfl, by simp [putRow, mapBlock, Sort.ahead], fun k hk hne => ?_⟩
  rw [heap_grow_old _ _ (by simpa [putRow, mapBlock, Sort.ahead] using hk)]
  have : g ≠ k := fun e => hne e.symm
  simp [putRow, mapBlock, Sort.ahead, Array.getElem?_modify, this]

set_option maxHeartbeats 1600000 in
theorem sort_any {w : World} {base : Nat} {v : Value} {l : List En} (h : w.ownsRow base 81 4 v l.length (ecs l)) (hn : l.length < 4611686018427387904) :
    Calls Tryz.prog 110 #[v, .func (.func 111) #[] #[]] w fun e w' => e = .returned (.tuple #[]) ∧ ∃ l' : List En, l'.Perm l ∧ l'.Pairwise (fun a b => a.tok ≤ b.tok) ∧ Er w' base v l' ∧ Ch w w' (fun k => base ≤ k) := by
  rcases h.2 with ⟨rfl, hnil⟩ | ⟨g, cap, cur, rfl, hb, hg, _, _, _⟩
  · have hl : l = [] := List.eq_nil_of_length_eq_zero hnil
    subst hl
    have hs := AnyF.slices_SortFunc_none (P := Tryz.prog) (ρ := Tryz.sortL_ren) Tryz.sortL Option.none 0 (.func (.func 111) #[] #[]) w
    change Calls Tryz.prog 110 _ _ _ at hs
    refine hs.mono fun e w' ⟨he, hw⟩ => ⟨he, [], .refl _, .nil, ⟨Option.none, 0, rfl, Nat.le_refl _, Nat.zero_le _, fun h => absurd h (by simp)⟩, by rw [hw]; exact Ch.refl _ _⟩
  · obtain ⟨hH, hgl, hbg, hc1, hc2, _⟩ := holds_own h
    have eg : ∀ args w, (callFunc 111 args).run Tryz.prog w = .ok (.enter 111 args) w := enters_of Tryz.func111 (by kernel_rfl) rfl
    have hs := AnyQ.slices_SortFunc (P := Tryz.prog) (ρ := Tryz.sortL_ren) Tryz.sortL 4 Tryz.isAgg81 Tryz.sizeOf81 En.cells (fun _ => rfl) (fun x v hv => by simp [En.cells] at hv; rcases hv with rfl | rfl | rfl | rfl <;> rfl) (fun x y => Lib.compareInt (x.tok : Int) (y.tok : Int)) swo_tok 111 #[] g 0 cap l.toArray w eg
      (fun _ _ _ _ x y => clos_any x y _) hH hgl (by simpa using hn)
    change Calls Tryz.prog 110 _ _ _ at hs
    rw [show l.toArray.size = l.length from by simp] at hs
    refine hs.mono fun e w' ⟨he, d', q, os, ⟨p1, _, p3⟩, s1, hw⟩ => ⟨he, d'.toList, ?_, ?_, ?_, (swK_ch hw).mono fun k _ e => by rw [e]; exact hbg⟩
    · have e1 : d'.extract 0 l.length = d' := by rw [show l.length = d'.size from by rw [p1]; simp]; simp
      have e2 : l.toArray.extract 0 l.length = l.toArray := by simp
      rw [e1, e2] at p3
      simpa using p3
    · rw [List.pairwise_iff_getElem]
      intro i j hi hj hij
      have hd : d'.size = l.length := by rw [p1]; simp
      have h1 := s1 i j (Nat.zero_le _) hij (by rw [← hd]; simpa using hj)
      rw [lt_tok, decide_eq_false_iff_not, getElem!_pos d' i (by simpa using hi), getElem!_pos d' j (by simpa using hj)] at h1
      simp only [Array.getElem_toList]
      omega
    · have hd : d'.size = l.length := by rw [p1]; simp
      have hK := holdsK_sortWorldK_c En.cells 4 w g 0 l.toArray d' q os hH hgl (by rw [hd]; simp)
      rw [← hw] at hK
      refine ⟨_, cap, by rw [show d'.toList.length = l.length from by simpa using hd], by rw [show d'.toList.length = l.length from by simpa using hd]; exact hc1, hc2, fun _ => ⟨g, rfl, hbg, fun j hj i hi => ?_⟩⟩
      have hj' : j < d'.size := by simpa using hj
      have h1 := (hK (j * 4 + i) (by simp; omega)).1
      rw [Nat.zero_add, get_flatK _ _ _ _ (by omega)] at h1
      have e1 : (j * 4 + i) / 4 = j := by omega
      have e2 : (j * 4 + i) % 4 = i := by omega
      rw [e1, e2] at h1
      rw [h1]
      have hx : d'[j]! = d'.toList.getD j default := by simp [hj']
      rw [hx]
      have hlen : i < (d'.toList.getD j default).cells.length := hi
      rw [getElem!_pos (d'.toList.getD j default).cells i hlen, List.getElem?_eq_getElem hlen]
      rfl
end Go.Proofs.YtlcegchdkigibaaGreatDoor.LT

namespace Go.Proofs.YtlcegchdkigibaaGreatDoor.LT
open Go.Proofs.YtlcegchdkigibaaGreatDoor.LK
set_option linter.unusedVariables false
set_option linter.unusedSimpArgs false
open Go.RowKit

theorem nodup_lenN : ∀ (a b : List Nat), a.Nodup → (∀ x ∈ a, x ∈ b) → a.length ≤ b.length
  | [], b, _, _ => Nat.zero_le _
  | x :: a, b, hn, hs => by
    rw [List.nodup_cons] at hn
    have hx := hs x (List.mem_cons_self ..)
    have h1 := nodup_lenN a (b.erase x) hn.2 fun y hy => by
      have hne : y ≠ x := fun e => hn.1 (e ▸ hy)
      exact (List.mem_erase_of_ne hne).2 (hs y (List.mem_cons_of_mem _ hy))
    rw [List.length_erase_of_mem hx] at h1
    have := List.length_pos_of_mem hx
    rw [List.length_cons]
    omega

/-- While the entries are collected: those that have come. -/
structure Co (l : Ents) (left : Nat → Bool) (out : List En) : Prop where
  nd : (out.map En.tok).Nodup
  mem : ∀ x, x ∈ out ↔ ∃ p, p ∈ l ∧ left p.1 = false ∧ x = en p

theorem Co.start (l : Ents) : Co l (fun k => decide (k ∈ keys l)) [] :=
  ⟨List.nodup_nil, fun x => ⟨fun h => (by cases h), fun ⟨p, hp, h, _⟩ => by simp [mem_keys hp] at h⟩⟩
theorem Co.step {l : Ents} {left : Nat → Bool} {out : List En} (h : Co l left out) (hn : (keys l).Nodup) {k : Nat} {e : Ent} (hl : left k = true) (he : (k, e) ∈ l) : Co l (fun j => left j && !decide (j = k)) (out ++ [en (k, e)]) where
  nd := by
    rw [List.map_append, List.nodup_append]
    refine ⟨h.nd, by simp, fun a ha b hb => ?_⟩
    simp [en] at hb
    subst hb
    obtain ⟨x, hx, rfl⟩ := List.mem_map.1 ha
    obtain ⟨p, _, h2, rfl⟩ := (h.mem x).1 hx
    intro e1
    have e2 : p.1 = b := e1
    rw [e2, hl] at h2
    cases h2
  mem x := by
    rw [List.mem_append, h.mem x, List.mem_singleton]
    constructor
    · rintro (⟨p, h1, h2, h3⟩ | rfl)
      · exact ⟨p, h1, by simp [h2], h3⟩
      · exact ⟨(k, e), he, by simp, rfl⟩
    · rintro ⟨p, h1, h2, rfl⟩
      by_cases e1 : p.1 = k
      · obtain ⟨a, b⟩ := p
        subst e1
        rw [ents_inj hn he h1]
        exact .inr rfl
      · refine .inl ⟨p, h1, ?_, rfl⟩
        simpa [e1] using h2
theorem Co.done {l : Ents} {left : Nat → Bool} {out : List En} (h : Co l left out) (hk : ∀ p, p ∈ l → p.1 < 4294967296) (hl : ∀ k, k < 4294967296 → left k = false) : ∀ x, x ∈ out ↔ ∃ p, p ∈ l ∧ x = en p := fun x => by
  rw [h.mem x]
  exact ⟨fun ⟨p, h1, _, h3⟩ => ⟨p, h1, h3⟩, fun ⟨p, h1, h3⟩ => ⟨p, h1, hl _ (hk p h1), h3⟩⟩

theorem Co.len {l : Ents} {left : Nat → Bool} {out : List En} (h : Co l left out) : out.length ≤ l.length := by
  have h1 := nodup_lenN (out.map En.tok) (keys l) h.nd fun a ha => by
    obtain ⟨x, hx, rfl⟩ := List.mem_map.1 ha
    obtain ⟨p, hp, _, rfl⟩ := (h.mem x).1 hx
    exact mem_keys hp
  simpa [keys] using h1

/-- All that is told: the entries of l, rising. -/
structure Told (l : Ents) (out : List En) : Prop where
  up : out.Pairwise (fun a b => a.tok < b.tok)
  mem : ∀ x, x ∈ out ↔ ∃ p, p ∈ l ∧ x = en p
theorem Told.length {l : Ents} {out : List En} (h : Told l out) (hn : (keys l).Nodup) : out.length = l.length := by
  have h1 : (out.map En.tok).Nodup := by
    rw [List.Nodup, List.pairwise_map]
    exact h.up.imp fun hlt => by omega
  have h2 : (out.map En.tok).Perm (keys l) := by
    rw [List.perm_ext_iff_of_nodup h1 hn]
    intro a
    unfold keys
    simp only [List.mem_map]
    constructor
    · rintro ⟨x, hx, rfl⟩
      obtain ⟨p, hp, rfl⟩ := (h.mem x).1 hx
      exact ⟨p, hp, rfl⟩
    · rintro ⟨p, hp, rfl⟩
      exact ⟨en p, (h.mem _).2 ⟨p, hp, rfl⟩, rfl⟩
  have h3 := h2.length_eq
  simpa [keys] using h3
theorem Told.of {l : Ents} {out out' : List En} (hp : out'.Perm out) (hs : out'.Pairwise (fun a b => a.tok ≤ b.tok)) (hn : (out.map En.tok).Nodup) (hm : ∀ x, x ∈ out ↔ ∃ p, p ∈ l ∧ x = en p) : Told l out' := by
  refine ⟨?_, fun x => (hp.mem_iff).trans (hm x)⟩
  have hn' : (out'.map En.tok).Nodup := (hp.map En.tok).nodup_iff.2 hn
  rw [List.Nodup, List.pairwise_map] at hn'
  exact (hs.and hn').imp fun ⟨h1, h2⟩ => by omega

theorem cellsE (w : World) (a : Bool) (b c : Int) (t : TypeId) : (w.alloc (.cells #[.bool a, .int .i64 b, .int .i64 c] t)).cell? ⟨w.heap.size, 0, none⟩ = some (.bool a) ∧ (w.alloc (.cells #[.bool a, .int .i64 b, .int .i64 c] t)).cell? ⟨w.heap.size, 1, none⟩ = some (.int .i64 b) ∧ (w.alloc (.cells #[.bool a, .int .i64 b, .int .i64 c] t)).cell? ⟨w.heap.size, 2, none⟩ = some (.int .i64 c) := by
  refine ⟨?_, ?_, ?_⟩ <;> (rw [cell_of_row _ w.heap.size _ _ t (0, 0) (heap_alloc_new w _)]; rfl)
theorem cellsEn (w : World) (x : En) (t : TypeId) : ∀ j, j < 4 → (w.alloc (.cells #[.int .u32 (x.tok : Int), .int .i64 x.owner, .bool x.live, .int .i64 x.upto] t)).cell? ⟨w.heap.size, j, none⟩ = x.cells[j]? := fun j hj => by
  rw [cell_of_row _ w.heap.size j _ t (0, 0) (heap_alloc_new w _)]
  simp [En.cells]

/-- What the collecting has come to. -/
def AI (w : World) (mb : Nat) (l : Ents) (v : Value) (wr : World) : Prop :=
  ∃ left cnt out, Rg wr mb w.heap.size l left cnt ∧ wr.ownsRow w.heap.size 81 4 v out.length (ecs out) ∧ Co l left out ∧ RowKit.Below w.heap.size w wr ∧ v.ownBlock ≠ some w.heap.size ∧ out.length ≤ l.length

set_option maxRecDepth 20000 in
set_option maxHeartbeats 1600000 in
theorem tall_any {w : World} {tb mb c : Nat} {l : Ents} (h : Tb w tb mb c l) (hf : ∀ p ∈ l, isI p.2.freed) :
    Calls Tryz.prog 65 #[ptr tb] w fun e w' => ∃ v out, e = .returned v ∧ Er w' w.heap.size v out ∧ Told l out ∧ RowKit.Below w.heap.size w w' := by
  have c1 := h.c1
  have HH := Lib.hid h
  have HF := Lib.hid hf
  have HND := Lib.hid h.map.nd
  have HKY := Lib.hid h.map.key
  have htl := h.lt
  have hml := h.map.lt
  have hll : l.length ≤ 64 := Nat.le_trans h.fits h.room
  have HLL := Lib.hid hll
  clear h hf hll
  unfold ptr
  go_enter Tryz.func65, Tryz.ntmps65
  go_wp2_with (first | (at_range; refine wpList_rangeE rfl _ rfl rfl HH.out.map ?_; intro w0 R0 b0 s0))
  go_frame
  have HS : Hid (AI w mb l (.slice none 0 0) w0) := Lib.hid ⟨_, _, [], R0, World.ownsRow_nil _ _ _ _, Co.start l, b0, fun e => (by cases e), Nat.zero_le _⟩
  clear R0 b0 s0
  go_loopw [3] (fun v wr => AI w mb l v wr) (fun _ wr => wr.rangeLeft mb w.heap.size)
  case atStart => exact HS.out
  case round =>
    obtain ⟨left, cnt, out, R, own, co, b, hvb, hol⟩ := hrel
    have HRG := Lib.hid R
    have HOW := Lib.hid own
    have HCO := Lib.hid co
    have HB := Lib.hid b
    have HVB := Lib.hid hvb
    clear R own co b hvb
    go_wp2_with (first | (at_next; refine wpList_nextE rfl _ rfl rfl HRG.out ?_ ?_))
    · intro hl0
      have HM := Lib.hid (HCO.out.done HKY.out hl0)
      have HSO := Lib.hid (sort_any HOW.out (by have := HLL.out; omega))
      clear hl0
      go_wp2_with fail
      refine (HSO.out).mono ?_
      rintro e w5 ⟨rfl, out', p5, s5, er5, ch5⟩
      go_wp2_with fail
      go_ret
      refine ⟨_, out', rfl, er5, Told.of p5 s5 HCO.out.nd HM.out, ?_⟩
      exact HB.out.trans ⟨ch5.os, ch5.tape, ch5.output, ch5.size, fun k hk => ch5.block k (Nat.lt_of_lt_of_le hk HB.out.size) (by omega)⟩
    · intro k e w1 cnt1 hk hlk hin R1 hlt g1 s1 hen
      have hr := HRG.out.lt
      have hbs := HB.out.size
      have hlt2 := HRG.out.left_eq
      have HR0 := Lib.hid hlt2
      have HU := Lib.hid (fun W => until_any e W (HF.out _ hin))
      have HST := Lib.hid (HCO.out.step HND.out hlk hin)
      have HB1 : Hid (RowKit.Below w.heap.size w w1) := Lib.hid (HB.out.trans ⟨g1.os, g1.tape, g1.output, g1.size, fun j hj => g1.block j (by omega) (fun e => by injection e with e; omega)⟩)
      have HR1 := Lib.hid R1
      have HO1 : Hid (w1.ownsRow w.heap.size 81 4 u3 out.length (ecs out)) := Lib.hid (own_ch2 (m := fun k => k = w.heap.size) HOW.out ((Ch.refl _ _).grown g1 fun j e _ => by injection e with e; exact e.symm) fun g hg e => HVB.out (by rw [hg, e]))
      clear R1 g1 hlk hin hlt2
      obtain ⟨lv, ow, fr⟩ := e
      have hut : ∀ x, unt ⟨lv, ow, fr⟩ = x → en (k, ⟨lv, ow, fr⟩) = ⟨k, ow, lv, x⟩ := fun x e => by rw [← e]; rfl
      have HUT := Lib.hid (hut _ rfl)
      clear hut
      generalize unt ⟨lv, ow, fr⟩ = un at *
      dsimp only at HU hen
      have hk3 : ∀ W : World, RowKit.Below (w1.alloc (.cells #[.bool lv, .int .i64 ow, .int .i64 fr] 124)).heap.size (w1.alloc (.cells #[.bool lv, .int .i64 ow, .int .i64 fr] 124)) W → W.cell? ⟨wr.heap.size, 0, none⟩ = some (.bool lv) ∧ W.cell? ⟨wr.heap.size, 1, none⟩ = some (.int .i64 ow) ∧ W.cell? ⟨wr.heap.size, 2, none⟩ = some (.int .i64 fr) := fun W hb => by
        obtain ⟨z0, z1, z2⟩ := cellsE w1 lv ow fr 124
        rw [s1] at z0 z1 z2
        exact ⟨(hb.cell (World.block_lt_of_cell? _ _ z0)).trans z0, (hb.cell (World.block_lt_of_cell? _ _ z1)).trans z1, (hb.cell (World.block_lt_of_cell? _ _ z2)).trans z2⟩
      have HK3 := Lib.hid hk3
      have HO2 : Hid (∀ W : World, RowKit.Below (w1.alloc (.cells #[.bool lv, .int .i64 ow, .int .i64 fr] 124)).heap.size (w1.alloc (.cells #[.bool lv, .int .i64 ow, .int .i64 fr] 124)) W → W.ownsRow w.heap.size 81 4 u3 out.length (ecs out) ∧ RowKit.Below w.heap.size w W ∧ Rg W mb w.heap.size l (fun j => left j && !decide (j = k)) cnt1) := Lib.hid (fun W hb => by
        have hb0 := below_a w1 (.cells #[.bool lv, .int .i64 ow, .int .i64 fr] 124)
        have hb1 := below_trans hb0 hb
        exact ⟨own_below HO1.out hb1, HB1.out.trans (hb1.mono HB1.out.size), HR1.out.below hb1⟩)
      clear hk3
      have hs2 : (w1.alloc (.cells #[.bool lv, .int .i64 ow, .int .i64 fr] 124)).heap.size = wr.heap.size + 1 := by rw [World.size_alloc, s1]
      have HS2 := Lib.hid hs2
      clear hs2
      have HOL : Hid (out.length ≤ 1099511627776) := Lib.hid (by have := HLL.out; omega)
      have HVE : Hid (some wr.heap.size ≠ u3.ownBlock) := Lib.hid (fun e => by have := (own_in HOW.out e.symm).2; omega)
      go_wp2_with fail
      generalize w1.alloc (.cells #[.bool lv, .int .i64 ow, .int .i64 fr] 124) = W2 at *
      obtain ⟨e0, e1, e2⟩ := HK3.out W2.drew (Below.refl _ _).drew
      go_region_held3 (fun W => W.cell? ⟨wr.heap.size, 0, none⟩ = some (.bool lv) ∧ W.cell? ⟨wr.heap.size, 1, none⟩ = some (.int .i64 ow) ∧ W.cell? ⟨wr.heap.size, 2, none⟩ = some (.int .i64 fr))
        (first
          | exact ⟨e0, e1, e2⟩
          | exact ⟨f0, f1, f2⟩
          | exact ⟨i0, i1, i2⟩
          | exact ⟨g0, g1, g2⟩)
        (first
          | (go_at_call 109; refine (HU.out _).mono ?_; rintro e w5 ⟨rfl, b5⟩; have hb5 : RowKit.Below W2.heap.size W2 w5 := (Below.refl _ _).drew.trans (b5.mono (by exact Nat.le_refl _)); have hb6 := hb5.alloc hb5.size (.cells #[.int .u32 (k : Int), .int .i64 ow, .bool lv, .int .i64 un] 81); obtain ⟨f0, f1, f2⟩ := HK3.out w5 hb5; obtain ⟨i0, i1, i2⟩ := HK3.out _ hb6; have HB6 := Lib.hid hb6; have HCE := Lib.hid (cellsEn w5 ⟨k, ow, lv, un⟩ 81); have HOO := Lib.hid (HO2.out _ hb6).1; have HSZ : Hid (w.heap.size ≤ (w5.alloc (.cells #[.int .u32 (k : Int), .int .i64 ow, .bool lv, .int .i64 un] 81)).heap.size) := Lib.hid (HO2.out _ hb6).2.1.size; clear b5 hb5 hb6)
          | ((refine step_appE _ (by rfl) (.tmp 18) (.tmp 27) 57 81 (by rfl) Tryz.underlying57 infoEn w.heap.size _ out.length out (by rfl) HOO.out HSZ.out _ ⟨k, ow, lv, un⟩ (by rfl) HCE.out HOL.out ?_; intro v7 w7 ho7 hg7 hx7; have g0 := (hg7.cell_far ⟨wr.heap.size, 0, none⟩ (World.block_lt_of_cell? _ _ i0) HVE.out).trans i0; have g1 := (hg7.cell_far ⟨wr.heap.size, 1, none⟩ (World.block_lt_of_cell? _ _ i1) HVE.out).trans i1; have g2 := (hg7.cell_far ⟨wr.heap.size, 2, none⟩ (World.block_lt_of_cell? _ _ i2) HVE.out).trans i2)))
      have hmm := HO2.out _ HB6.out
      have HR7 : Hid (Rg w7 mb w.heap.size l (fun j => left j && !decide (j = k)) cnt1) := Lib.hid (hmm.2.2.keep hg7 (fun e => by have := (own_in HOW.out e).1; omega) HVB.out)
      have hb7 : RowKit.Below w.heap.size w w7 := hmm.2.1.trans ⟨hg7.os, hg7.tape, hg7.output, hg7.size, fun j hj => hg7.block j (Nat.lt_of_lt_of_le hj hmm.2.1.size) (fun e => by have := (own_in HOW.out e.symm).1; omega)⟩
      have hsz := HSZ.out
      have hvb7 : v7.ownBlock ≠ some w.heap.size := fun e => by
        rcases hx7 with h7 | h7
        · exact HVB.out (h7.symm.trans e)
        · rw [h7] at e
          injection e with e
          rw [World.size_alloc] at e
          have := HB6.out.size
          rw [World.size_alloc] at this
          have := HS2.out
          omega
      have HVB7 := Lib.hid hvb7
      clear hvb7 hsz
      have HB7 := Lib.hid hb7
      have HX7 := Lib.hid hx7
      have HO7 := Lib.hid ho7
      clear hmm hb7 hx7 ho7 hg7 g0 g1 g2
      go_wp2_with fail
      go_roundw
      case rel =>
        refine ⟨_, cnt1, out ++ [⟨k, ow, lv, un⟩], HR7.out, by rw [List.length_append]; exact HO7.out, by rw [← HUT.out]; exact HST.out, HB7.out, HVB7.out, by rw [← HUT.out]; exact HST.out.len⟩
      case measure =>
        rw [HR7.out.left_eq, HR0.out]
        exact hlt

end Go.Proofs.YtlcegchdkigibaaGreatDoor.LT

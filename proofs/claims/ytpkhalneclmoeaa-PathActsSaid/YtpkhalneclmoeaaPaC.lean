/- Pairs and addresses as lists: the mathematics; rows of pairs in memory. No condition. -/
import Derived.Test.YtpkhalneclmoeaaPaB
namespace Go.Proofs.Ytpkhalneclmoeaa
set_option linter.unusedVariables false
set_option linter.unusedSimpArgs false
open Go.RowKit Go.Lib

/-- Of the first k pairs, by own, then by other, those for which g holds. -/
def prs (g : Nat → Nat → Bool) (k : Nat) : List (Int × Int) := ((List.range k).filter fun k => g (k / 4) (k % 4)).map fun k => (((k / 4 : Nat) : Int), ((k % 4 : Nat) : Int))
/-- Of the first k addresses those for which f holds. -/
def adr (f : Nat → Bool) (k : Nat) : List Int := ((List.range k).filter f).map fun (k : Nat) => (k : Int)
section
variable {g : Nat → Nat → Bool} {f : Nat → Bool} {i j k : Nat}
theorem prs_zero (g : Nat → Nat → Bool) : prs g 0 = [] := rfl
theorem prs_yes (hj : j < 4) (h : g i j = true) : prs g (i * 4 + j + 1) = prs g (i * 4 + j) ++ [((i : Int), (j : Int))] := by
  have h1 : (i * 4 + j) / 4 = i := by omega
  have h2 : (i * 4 + j) % 4 = j := by omega
  unfold prs
  rw [List.range_succ, List.filter_append, List.map_append]
  simp [h1, h2, h]
  omega
theorem prs_no (hj : j < 4) (h : g i j = false) : prs g (i * 4 + j + 1) = prs g (i * 4 + j) := by
  have h1 : (i * 4 + j) / 4 = i := by omega
  have h2 : (i * 4 + j) % 4 = j := by omega
  unfold prs
  rw [List.range_succ, List.filter_append, List.map_append]
  simp [h1, h2, h]
theorem prs_len (g : Nat → Nat → Bool) (k : Nat) : (prs g k).length ≤ k := by
  unfold prs
  rw [List.length_map]
  exact Nat.le_trans (List.length_filter_le _ _) (by simp)
theorem prs_mem {x : Int × Int} : x ∈ prs g 16 ↔ ∃ i j : Nat, i < 4 ∧ j < 4 ∧ g i j = true ∧ x = ((i : Int), (j : Int)) := by
  unfold prs
  rw [List.mem_map]
  constructor
  · rintro ⟨k, hk, rfl⟩
    obtain ⟨h1, h2⟩ := List.mem_filter.1 hk
    have := List.mem_range.1 h1
    exact ⟨k / 4, k % 4, by omega, by omega, h2, rfl⟩
  · rintro ⟨i, j, hi, hj, h, rfl⟩
    refine ⟨i * 4 + j, List.mem_filter.2 ⟨List.mem_range.2 (by omega), ?_⟩, ?_⟩
    · rw [show (i * 4 + j) / 4 = i by omega, show (i * 4 + j) % 4 = j by omega]
      exact h
    · rw [show (i * 4 + j) / 4 = i by omega, show (i * 4 + j) % 4 = j by omega]
/-- Ahead of: by own, then by other. -/
def lx (a b : Int × Int) : Prop := a.1 < b.1 ∨ a.1 = b.1 ∧ a.2 < b.2
theorem lx_ne {a b : Int × Int} (h : lx a b) : a ≠ b := by
  rintro rfl
  unfold lx at h
  omega
theorem prs_rises (g : Nat → Nat → Bool) (k : Nat) : (prs g k).Pairwise lx := by
  unfold prs
  rw [List.pairwise_map]
  refine (List.pairwise_lt_range.filter _).imp fun {a b} h => ?_
  unfold lx
  dsimp only
  omega
theorem prs_nodup (g : Nat → Nat → Bool) (k : Nat) : (prs g k).Nodup := (prs_rises g k).imp fun h => lx_ne h
theorem adr_zero (f : Nat → Bool) : adr f 0 = [] := rfl
theorem adr_yes (h : f k = true) : adr f (k + 1) = adr f k ++ [(k : Int)] := by
  unfold adr
  rw [List.range_succ, List.filter_append, List.map_append]
  simp [h]
theorem adr_no (h : f k = false) : adr f (k + 1) = adr f k := by
  unfold adr
  rw [List.range_succ, List.filter_append, List.map_append]
  simp [h]
theorem adr_len (f : Nat → Bool) (k : Nat) : (adr f k).length ≤ k := by
  unfold adr
  rw [List.length_map]
  exact Nat.le_trans (List.length_filter_le _ _) (by simp)
theorem adr_mem {x : Int} : x ∈ adr f k ↔ ∃ i : Nat, i < k ∧ f i = true ∧ x = (i : Int) := by
  unfold adr
  rw [List.mem_map]
  constructor
  · rintro ⟨i, hi, rfl⟩
    obtain ⟨h1, h2⟩ := List.mem_filter.1 hi
    exact ⟨i, List.mem_range.1 h1, h2, rfl⟩
  · rintro ⟨i, hi, h, rfl⟩
    exact ⟨i, List.mem_filter.2 ⟨List.mem_range.2 hi, h⟩, rfl⟩
theorem adr_rises (f : Nat → Bool) (k : Nat) : (adr f k).Pairwise (· < ·) := by
  unfold adr
  rw [List.pairwise_map]
  exact (List.pairwise_lt_range.filter f).imp fun h => by omega
end

/-- The cells of a row of pairs. -/
def pv (l : List (Int × Int)) : List Value := l.flatMap fun x => [.int .i64 x.1, .int .i64 x.2]
def zp : Int × Int := (0, 0)
theorem pv_length (l : List (Int × Int)) : (pv l).length = l.length * 2 := by
  induction l with
  | nil => rfl
  | cons x r ih =>
    show ([_, _] ++ pv r).length = _
    rw [List.length_append, ih]
    simp
    omega
theorem pv_append (l r : List (Int × Int)) : pv (l ++ r) = pv l ++ pv r := by unfold pv; rw [List.flatMap_append]
theorem pv_get (l : List (Int × Int)) : ∀ {j : Nat}, j < l.length → (pv l)[j * 2]? = some (.int .i64 (l.getD j zp).1) ∧ (pv l)[j * 2 + 1]? = some (.int .i64 (l.getD j zp).2) := by
  induction l with
  | nil => intro j h; cases h
  | cons x r ih =>
    intro j h
    have e : pv (x :: r) = .int .i64 x.1 :: .int .i64 x.2 :: pv r := rfl
    cases j with
    | zero =>
      rw [e]
      exact ⟨rfl, rfl⟩
    | succ j =>
      rw [e, show (j + 1) * 2 = j * 2 + 1 + 1 by omega]
      have := ih (j := j) (by simp at h; omega)
      simp only [List.getElem?_cons_succ, List.getD_cons_succ]
      exact this
theorem pv_one (l : List (Int × Int)) : ∀ u ∈ pv l, u.oneCell' = true := by
  intro u hu
  unfold pv at hu
  obtain ⟨x, _, hx⟩ := List.mem_flatMap.1 hu
  simp at hx
  rcases hx with rfl | rfl <;> rfl

/-- The slice '.slice A n c' holds the pairs l. -/
def PS (w : World) (A : Option Addr) (n c : Nat) (l : List (Int × Int)) : Prop :=
  l.length = n ∧ n ≤ c ∧ c ≤ 9223372036854775807 ∧ (0 < n → ∃ b o, A = some ⟨b, o, none⟩ ∧ ∀ j, j < n → w.cell? ⟨b, o + j * 2, none⟩ = some (.int .i64 (l.getD j zp).1) ∧ w.cell? ⟨b, o + j * 2 + 1, none⟩ = some (.int .i64 (l.getD j zp).2))
section
variable {w w' : World} {A : Option Addr} {n c : Nat} {l : List (Int × Int)}
theorem PS.below (h : PS w A n c l) (k : Below w.heap.size w w') : PS w' A n c l :=
  ⟨h.1, h.2.1, h.2.2.1, fun hn => by
    obtain ⟨b, o, e, hc⟩ := h.2.2.2 hn
    have hk : ∀ p v, w.cell? p = some v → w'.cell? p = some v := fun p v hp => (World.cell?_of_block (k.block _ (World.block_lt_of_cell? _ _ hp))).trans hp
    exact ⟨b, o, e, fun j hj => ⟨hk _ _ (hc j hj).1, hk _ _ (hc j hj).2⟩⟩⟩
theorem PS.at_ (h : PS w A n c l) {j : Nat} (hj : j < n) : ∃ b o, A = some ⟨b, o, none⟩ ∧ w.cell? ⟨b, o + j * 2, none⟩ = some (.int .i64 (l.getD j zp).1) ∧ w.cell? ⟨b, o + j * 2 + 1, none⟩ = some (.int .i64 (l.getD j zp).2) := by
  obtain ⟨b, o, e, hc⟩ := h.2.2.2 (by omega)
  exact ⟨b, o, e, hc j hj⟩
theorem PS.cell {b o : Nat} (h : PS w (some ⟨b, o, none⟩) n c l) {j : Nat} (hj : j < n) : w.cell? ⟨b, o + j * 2, none⟩ = some (.int .i64 (l.getD j zp).1) ∧ w.cell? ⟨b, o + j * 2 + 1, none⟩ = some (.int .i64 (l.getD j zp).2) := by
  obtain ⟨b', o', e, hc⟩ := h.at_ hj
  injection e with e
  injection e with e1 e2
  subst e1 e2
  exact hc
theorem PS.nil_ (w : World) : PS w none 0 0 [] := ⟨rfl, Nat.le_refl _, Nat.zero_le _, fun h => absurd h (by omega)⟩
theorem PS.of_own {base : Nat} {e : TypeId} {v : Value} (h : w.ownsRow base e 2 v n (pv l)) : ∃ A c, v = .slice A n c ∧ PS w A n c l := by
  have hl : l.length = n := by have := h.1; rw [pv_length] at this; omega
  rcases h.2 with ⟨rfl, rfl⟩ | ⟨g, cap, cur, rfl, hb, hg, hnc, hm, hs, ht⟩
  · obtain rfl : l = [] := List.eq_nil_of_length_eq_zero hl
    exact ⟨none, 0, rfl, PS.nil_ w⟩
  · refine ⟨_, cap, rfl, hl, hnc, by unfold maxLen at hm; omega, fun hn => ⟨g, 0, rfl, fun j hj => ?_⟩⟩
    have h1 := World.ownsRow.cellAt h (j * 2) (by omega)
    have h2 := World.ownsRow.cellAt h (j * 2 + 1) (by omega)
    obtain ⟨k1, k2⟩ := pv_get l (j := j) (by omega)
    rw [Nat.zero_add]
    exact ⟨h1.trans k1, h2.trans k2⟩
end
/-- A pair by itself, as it lies in its new block. -/
theorem PS.lit (w : World) (x y : Int) (t : TypeId) : Src (w.alloc (.cells #[.int .i64 x, .int .i64 y] t)) (some ⟨w.heap.size, 0, none⟩) 1 1 2 (pv [(x, y)]) :=
  ⟨rfl, by decide, by decide, pv_one _, fun _ => ⟨_, 0, rfl, fun j v hv => by
    rw [Nat.zero_add, cell_of_row _ _ _ _ _ _ (heap_alloc_new w _)]
    have e : pv [(x, y)] = [.int .i64 x, .int .i64 y] := rfl
    rw [e] at hv
    simpa using hv⟩⟩
theorem infoPair : (Try.prog.info? 45).map (fun i => (i.zero, i.size, i.bytes)) = some (some (.agg #[.int .i64 0, .int .i64 0]), 2, 16) := by kernel_rfl

/-- A function of the program is entered. -/
theorem callFunc_in {P : Program} {f : FuncId} {fn : Func} {c : Code} (hf : P.funcs[f]? = some fn) (hname : (fn.name == "runtime.NumGoroutine") = false) (hb : fn.body = some c) (args : Array Value) (w : World) : (callFunc f args).run P w = .ok (.enter f args) w := by
  have h1 : fn.name ≠ "runtime.NumGoroutine" := by simpa using hname
  simp [callFunc, hf, h1, hb]

theorem keepc {a b : World} (h : Below a.heap.size a b) {p : Addr} {v : Value} (hc : a.cell? p = some v) : b.cell? p = some v := (World.cell?_of_block (h.block _ (World.block_lt_of_cell? _ _ hc))).trans hc
/-- append of a pair onto a row of the call's own. -/
theorem wpList_app2 {W w : World} {ops : Array Oper} {rest : List Oper} {o : Oper} {a : Act} {Q : Exit → Act → World → Prop} (hgd : o.guard = none) (s x : Operand) (t e : TypeId)
    (ho : o.op = .call { callee := .builtin .append, args := #[s, x], argTypes := #[t, t] }) (ht : Try.prog.underlying t = some (.slice e)) (hi : (Try.prog.info? e).map (fun i => (i.zero, i.size, i.bytes)) = some (some (.agg #[.int .i64 0, .int .i64 0]), 2, 16))
    (v : Value) (n : Nat) (l : List (Int × Int)) (hs : a.eval s = v) (hown : w.ownsRow W.heap.size e 2 v n (pv l)) (hb : Below W.heap.size W w) (u u' : Int) (hx : a.eval x = .slice (some ⟨w.heap.size, 0, none⟩) 1 1) (h40 : n ≤ 1000000)
    (h : ∀ A' c' w', w'.ownsRow W.heap.size e 2 (.slice A' (n + 1) c') (n + 1) (pv (l ++ [(u, u')])) → Below W.heap.size W w' → wpList Try.prog ops Q rest (a.put o.dst (.slice A' (n + 1) c')) w') :
    wpList Try.prog ops Q (o :: rest) a (w.alloc (.cells #[.int .i64 u, .int .i64 u'] e)) := by
  have hba := below_a w (.cells #[.int .i64 u, .int .i64 u'] e)
  refine wpList_appG hgd s x t e ho _ 2 16 ht hi rfl (by decide) (by decide) W.heap.size v n (pv l) hs (own_below hown hba) _ 1 1 (pv [(u, u')]) hx (PS.lit w u u' e) (by omega) (by have := hb.size; simp; omega) fun v' w' h1 h2 h3 => ?_
  have hbb := (hb.trans (hba.mono hb.size)).grown h2 (by have := hb.size; simp; omega) fun k hk => (hown.lt k hk).1
  rw [← pv_append] at h1
  obtain ⟨A', c', rfl, -⟩ := PS.of_own h1
  exact h A' c' w' h1 hbb

set_option maxHeartbeats 3200000 in
theorem pairs_any {w : World} {F : Nat} {fs cs : Array Value} {g : Nat → Nat → Bool} (hF : ∀ (args : Array Value) (w : World), (callFunc F args).run Try.prog w = .ok (.enter F args) w)
    (H : ∀ w', Below w.heap.size w w' → ∀ i j : Nat, i < 4 → j < 4 → Calls Try.prog F (fs.push (pr (i : Int) (j : Int)) ++ cs) w' fun e w'' => e = .returned (.bool (g i j)) ∧ Below w'.heap.size w' w'') :
    Calls Try.prog 34 #[.func (.func F) fs cs] w fun e w' => ∃ A n c, e = .returned (.slice A n c) ∧ w'.ownsRow w.heap.size 45 2 (.slice A n c) n (pv (prs g 16)) ∧ Below w.heap.size w w' := by
  have HH := Lib.hid H
  clear H
  go_enter Try.func34, Try.ntmps34
  go_wp2_with fail
  go_loopw [3, 7] (fun s3 ix wr => ∃ (q : Nat) (A' : Option Addr) (m c' : Nat), q ≤ 4 ∧ s3 = .slice A' m c' ∧ ix = .int .i64 (q : Int) ∧ wr.ownsRow w.heap.size 45 2 (.slice A' m c') m (pv (prs g (q * 4))) ∧ Below w.heap.size w wr) (fun _ ix _ => 4 - (intOf ix).toNat)
  case atStart => exact ⟨0, none, 0, 0, Nat.zero_le _, rfl, rfl, World.ownsRow_nil _ _ _ _, Below.refl _ _⟩
  case round =>
    obtain ⟨q, A1, m1, c1, hq, rfl, rfl, hO, B⟩ := hrel
    have HO := Lib.hid hO
    have HB := Lib.hid B
    clear hO B
    by_cases hqn : q < 4
    · have HQ := Lib.hid hqn
      obtain ⟨wx, rfl⟩ : ∃ wx, wx = wr := ⟨_, rfl⟩
      go_wp2_with fail
      clear hqn
      generalize decide ((q : Int) < 4) = d8
      go_loopw [3, 10] (fun s3 ix wr => ∃ (r : Nat) (A' : Option Addr) (m c' : Nat), r ≤ 4 ∧ s3 = .slice A' m c' ∧ ix = .int .i64 (r : Int) ∧ wr.ownsRow w.heap.size 45 2 (.slice A' m c') m (pv (prs g (q * 4 + r))) ∧ Below w.heap.size w wr) (fun _ ix _ => 4 - (intOf ix).toNat)
      case atStart => exact ⟨0, A1, m1, c1, Nat.zero_le _, rfl, rfl, HO.out, HB.out⟩
      case round =>
        obtain ⟨r, A2, m2, c2, hr, rfl, rfl, hO2, B2⟩ := hrel
        have HM2 : Hid (m2 ≤ 16) := Lib.hid (by
          have h1 := hO2.1
          rw [pv_length] at h1
          have := prs_len g (q * 4 + r)
          omega)
        have HO2 := Lib.hid hO2
        have HB2 := Lib.hid B2
        clear hO2 B2 HO HB
        by_cases hrn : r < 4
        · have HR := Lib.hid hrn
          have hb := below_a wr (.cells #[.int .i64 (q : Int), .int .i64 (r : Int)] 45)
          have HB3 := Lib.hid (HB2.out.trans (hb.mono HB2.out.size))
          have HO3 := Lib.hid (own_below HO2.out hb)
          have HC := Lib.hid (HH.out _ HB3.out q r HQ.out HR.out)
          have HCL := Lib.hid (cell2 wr (.int .i64 (q : Int)) (.int .i64 (r : Int)) 45)
          clear hb
          unfold pr at HC
          go_wp2_with fail
          refine (HC.out).mono ?_
          rintro e w3 ⟨rfl, b3⟩
          have HB4 := Lib.hid (HB3.out.trans (b3.mono HB3.out.size))
          have HO4 := Lib.hid (own_below HO3.out b3)
          have y0 := keepc b3 HCL.out.1
          have y1 := keepc b3 HCL.out.2
          clear b3 HC HCL HB3 HO3 HO2 HB2
          cases hg : g q r
          · have HE := Lib.hid (prs_no HR.out hg)
            clear hg
            go_wp2_with fail
            go_roundw
            case rel => exact ⟨r + 1, A2, m2, c2, HR.out, rfl, by go_num, by rw [← Nat.add_assoc, HE.out]; exact HO4.out, HB4.out⟩
            case measure => have := HR.out; simp [intOf]; omega
          · have HE := Lib.hid (prs_yes HR.out hg)
            clear hg
            go_wp2_with (at_builtin; refine wpList_app2 (W := w) rfl _ _ 37 45 rfl Try.underlying37 infoPair _ m2 _ rfl HO4.out HB4.out (q : Int) (r : Int) rfl (by have := HM2.out; omega) ?_; intro A5 c5 w5 o5 b5)
            go_roundw
            case rel => exact ⟨r + 1, A5, m2 + 1, c5, HR.out, rfl, by go_num, by rw [← Nat.add_assoc, HE.out]; exact o5, b5⟩
            case measure => have := HR.out; simp [intOf]; omega
        · obtain rfl : r = 4 := by omega
          have HE : Hid (q * 4 + 4 = (q + 1) * 4) := Lib.hid (by omega)
          go_wp2_with fail
          go_roundw
          case rel => exact ⟨q + 1, A2, m2, c2, HQ.out, rfl, by go_num, by rw [← HE.out]; exact HO2.out, HB2.out⟩
          case measure => have := HQ.out; simp [intOf]; omega
    · obtain rfl : q = 4 := by omega
      go_wp2_with fail
      go_ret
      exact ⟨A1, m1, c1, rfl, HO.out, HB.out⟩
end Go.Proofs.Ytpkhalneclmoeaa

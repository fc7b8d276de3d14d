/- A path manager: Untold. Conditions: the manager stands. -/
import Derived.Test.YtpkhalneclmoeaaPaG
import Derived.StillTailTactics
namespace Go.Proofs.Ytpkhalneclmoeaa
set_option linter.unusedVariables false
set_option linter.unusedSimpArgs false
open Go.RowKit Go.Lib

def Pm.untG (p : Pm) (o : Nat) : Nat → Nat → Bool := fun i j => decide (j = o) && p.fl i j
def Pm.untL (p : Pm) (x : Int) : List (Int × Int) := if mb x = true then prs (p.untG x.toNat) 16 else []
def Pm.untoS (p : Pm) (x : Int) : Pm := if mb x = true then { p with ot := upd p.ot x.toNat false, fl := fun k m => p.fl k m && !decide (m = x.toNat) } else p
/-- Without the flows of l. -/
def clr (f : Nat → Nat → Bool) (l : List (Int × Int)) : Nat → Nat → Bool := fun k m => f k m && !decide (((k : Int), (m : Int)) ∈ l)
theorem clr_nil (f : Nat → Nat → Bool) : clr f [] = f := by
  funext k m
  simp [clr]
theorem clr_step {f : Nat → Nat → Bool} {l : List (Int × Int)} {i j : Nat} : upd2 (clr f l) i j false = clr f (l ++ [((i : Int), (j : Int))]) := by
  funext k m
  unfold upd2 clr
  by_cases h : k = i ∧ m = j
  · rw [if_pos h, h.1, h.2]
    simp
  · rw [if_neg h]
    have : ¬ (((k : Int), (m : Int)) = ((i : Int), (j : Int))) := fun e => h (by simp only [Prod.mk.injEq] at e; omega)
    simp [this, h]
theorem clr_end (p : Pm) {o k m : Nat} (hk : k < 4) (hm : m < 4) : clr p.fl (prs (p.untG o) 16) k m = (p.fl k m && !decide (m = o)) := by
  unfold clr
  have h1 : ((k : Int), (m : Int)) ∈ prs (p.untG o) 16 ↔ (p.untG o k m) = true := by
    rw [prs_mem]
    constructor
    · rintro ⟨i, j, _, _, hg, e⟩
      simp only [Prod.mk.injEq] at e
      obtain rfl : k = i := by omega
      obtain rfl : m = j := by omega
      exact hg
    · intro h2
      exact ⟨k, m, hk, hm, h2, rfl⟩
  have h2 : decide (((k : Int), (m : Int)) ∈ prs (p.untG o) 16) = p.untG o k m := by
    cases hg : p.untG o k m
    · exact decide_eq_false fun h => by rw [h1.1 h] at hg; cases hg
    · exact decide_eq_true (h1.2 hg)
  rw [h2]
  unfold Pm.untG
  cases p.fl k m <;> cases decide (m = o) <;> rfl
theorem St.ext {w : World} {b : Nat} {p q : Pm} (h : St w b p) (ho : ∀ i, i < 4 → p.ow i = q.ow i) (ht : ∀ i, i < 4 → p.ot i = q.ot i) (hf : ∀ i j, i < 4 → j < 4 → p.fl i j = q.fl i j) (hm : p.mo = q.mo) : St w b q := by
  have : p.cs = q.cs := by
    unfold Pm.cs
    rw [ho 0 (by decide), ho 1 (by decide), ho 2 (by decide), ho 3 (by decide), ht 0 (by decide), ht 1 (by decide), ht 2 (by decide), ht 3 (by decide),
      hf 0 0 (by decide) (by decide), hf 0 1 (by decide) (by decide), hf 0 2 (by decide) (by decide), hf 0 3 (by decide) (by decide),
      hf 1 0 (by decide) (by decide), hf 1 1 (by decide) (by decide), hf 1 2 (by decide) (by decide), hf 1 3 (by decide) (by decide),
      hf 2 0 (by decide) (by decide), hf 2 1 (by decide) (by decide), hf 2 2 (by decide) (by decide), hf 2 3 (by decide) (by decide),
      hf 3 0 (by decide) (by decide), hf 3 1 (by decide) (by decide), hf 3 2 (by decide) (by decide), hf 3 3 (by decide) (by decide), hm]
  unfold St at *
  rw [← this]
  exact h
theorem own_mono2 {w : World} {base base' n size : Nat} {e : TypeId} {v : Value} {xs : List Value} (h : w.ownsRow base e size v n xs) (hb : base' ≤ base) : w.ownsRow base' e size v n xs := by
  refine ⟨h.1, ?_⟩
  rcases h.2 with hn | ⟨g, cap, cur, rfl, h1, rest⟩
  · exact .inl hn
  · exact .inr ⟨g, cap, cur, rfl, Nat.le_trans hb h1, rest⟩

theorem inUnt (args : Array Value) (w : World) : (callFunc 35 args).run Try.prog w = .ok (.enter 35 args) w := callFunc_in (fn := Try.f35) (by kernel_rfl) (by kernel_rfl) rfl args w
theorem untc_any {w : World} {pb gp go : Nat} {p : Pm} {o : Nat} (h : St w pb p) (hc : w.cell? ⟨gp, 0, none⟩ = some (ptr pb)) (ho : w.cell? ⟨go, 0, none⟩ = some (.int .i64 (o : Int))) {i j : Nat} (hi : i < 4) (hj : j < 4) : Calls Try.prog 35 #[pr (i : Int) (j : Int), .pointer (some ⟨go, 0, none⟩), .pointer (some ⟨gp, 0, none⟩)] w fun e w' => e = .returned (.bool (p.untG o i j)) ∧ Below w.heap.size w w' := by
  have hb := below_a w (.cells #[.int .i64 (i : Int), .int .i64 (j : Int)] 45)
  have HB := Lib.hid hb
  have HJ := Lib.hid (joined_any (h.below hb) hi hj)
  obtain ⟨y0, y1⟩ := cell2 w (.int .i64 (i : Int)) (.int .i64 (j : Int)) 45
  have hc1 := keepc hb hc
  have ho1 := keepc hb ho
  have HE : Hid (p.untG o i j = (decide (j = o) && p.fl i j)) := Lib.hid rfl
  rw [HE.out]
  clear h hb hc ho HE
  generalize p.fl i j = v at *
  unfold ptr pr at *
  by_cases e : j = o
  · subst e
    have he : ((j : Int) == (j : Int)) = true := by simp
    go_enter Try.func35, Try.ntmps35
    go_wp2_with fail
    refine (HJ.out).mono ?_
    rintro e w1 ⟨rfl, b1⟩
    have HB1 := Lib.hid (HB.out.trans (b1.mono HB.out.size))
    clear b1 y0 y1 hc1
    go_wp2_with fail
    go_ret
    exact ⟨by simp, HB1.out⟩
  · have he : ((j : Int) == (o : Int)) = false := by simp; omega
    have HD : Hid (decide (j = o) = false) := Lib.hid (decide_eq_false e)
    go_enter Try.func35, Try.ntmps35
    go_wp2_with fail
    go_ret
    exact ⟨by rw [HD.out]; rfl, HB.out⟩

/-- What Untold leaves. -/
def DidL (w : World) (pb : Nat) (l : List (Int × Int)) (p' : Pm) (e : Ending) (w' : World) : Prop := ∃ A n c, e = .returned (.slice A n c) ∧ w'.ownsRow w.heap.size 45 2 (.slice A n c) n (pv l) ∧ St w' pb p' ∧ Ch w w' (fun k => k = pb)

set_option maxHeartbeats 3200000 in
theorem untold_any {w : World} {pb : Nat} {p : Pm} (h : St w pb p) (x : Int) : Calls Try.prog 17 #[ptr pb, .int .i64 x] w (DidL w pb (p.untL x) (p.untoS x)) := by
  have HX := Lib.hid (fun w => mayBe_any x w)
  have hb := below_a2 w (.cells #[ptr pb] 25) (.cells #[.int .i64 x] 3)
  have HB := Lib.hid hb
  have hc0 := cell_old2 w (.cells #[.int .i64 x] 3) (ptr pb) 25
  have hx0 := cell_new2 w (.cells #[ptr pb] 25) (.int .i64 x) 3
  have hS := h.below hb
  have HLT := Lib.hid h.lt
  cases hm : mb x
  · rw [show p.untL x = [] from by unfold Pm.untL; rw [hm]; rfl, show p.untoS x = p from by unfold Pm.untoS; rw [hm]; rfl]
    rw [hm] at HX
    have HS := Lib.hid hS
    clear h hb hS hm
    unfold ptr at *
    go_enter Try.func17, Try.ntmps17
    go_wp2_with fail
    refine (HX.out _).mono ?_
    rintro e w1 ⟨rfl, rfl⟩
    go_wp2_with fail
    go_ret
    exact ⟨none, 0, 0, rfl, World.ownsRow_nil _ _ _ _, HS.out, Ch.of_below _ HB.out⟩
  · rw [hm] at HX
    obtain ⟨o, rfl, ho⟩ := mb_nat hm
    rw [show p.untL (o : Int) = prs (p.untG o) 16 from by unfold Pm.untL; rw [hm]; rfl, show p.untoS (o : Int) = { p with ot := upd p.ot o false, fl := fun k m => p.fl k m && !decide (m = o) } from by unfold Pm.untoS; rw [hm]; rfl]
    have HO := Lib.hid ho
    have HS := Lib.hid hS
    clear h hb hm
    unfold ptr at *
    go_enter Try.func17, Try.ntmps17
    go_wp2_with fail
    refine (HX.out _).mono ?_
    rintro e w1 ⟨rfl, rfl⟩
    go_wp2_with fail
    generalize hW : (w.alloc (.cells #[.pointer (some ⟨pb, 0, none⟩)] 25)).alloc (.cells #[.int .i64 (o : Int)] 3) = W at *
    clear hW
    have c1 := hS.t ho
    have f1 := hS.fz (4 + o)
    clear hS
    go_still_tail 4, (by kernel_rfl)
    change wpList _ _ _ _ _ W.drew
    have c2 : W.drew.cell? ⟨pb, 4 + o, none⟩ = some (.bool (p.ot o)) := c1
    have f2 : W.drew.frozen? ⟨pb, 4 + o, none⟩ = false := f1
    have HS2 : Hid (St (W.drew.setCell ⟨pb, 4 + o, none⟩ (.bool false)) pb (p.setT o false)) := Lib.hid ((HS.out.drewN 1).setT ho false)
    have HC2 : Hid (Ch w (W.drew.setCell ⟨pb, 4 + o, none⟩ (.bool false)) (fun k => k = pb)) := Lib.hid ((Ch.of_below (fun k => k = pb) HB.out.drew).then_ ch_set)
    have hp2 : (W.drew.setCell ⟨pb, 4 + o, none⟩ (.bool false)).cell? ⟨w.heap.size, 0, none⟩ = some (.pointer (some ⟨pb, 0, none⟩)) :=
      (ch_set (w := W.drew) (b := pb) (k := 4 + o) (v := .bool false)).cell (p := ⟨w.heap.size, 0, none⟩) hc0 (fun e => by have := HLT.out; have e : w.heap.size = pb := e; omega)
    have hx2 : (W.drew.setCell ⟨pb, 4 + o, none⟩ (.bool false)).cell? ⟨w.heap.size + 1, 0, none⟩ = some (.int .i64 (o : Int)) :=
      (ch_set (w := W.drew) (b := pb) (k := 4 + o) (v := .bool false)).cell (p := ⟨w.heap.size + 1, 0, none⟩) hx0 (fun e => by have := HLT.out; have e : w.heap.size + 1 = pb := e; omega)
    have HP2 := Lib.hid hp2
    have HX2 := Lib.hid hx2
    have hmf : ∀ (fn : Fn) (first cap : Array Value) (w : World), (Instr.makeFunc fn first cap).run Try.prog w = .ok (.func fn first cap) w := fun _ _ _ _ => rfl
    clear hc0 hx0 c1 f1 HS HB hp2 hx2
    generalize W.drew = V at *
    have HN : Hid (Calls Try.prog 34 #[.func (.func 35) #[] #[.pointer (some ⟨w.heap.size + 1, 0, none⟩), .pointer (some ⟨w.heap.size, 0, none⟩)]] (V.setCell ⟨pb, 4 + o, none⟩ (.bool false)) fun e w' => ∃ A n c, e = .returned (.slice A n c) ∧ w'.ownsRow (V.setCell ⟨pb, 4 + o, none⟩ (.bool false)).heap.size 45 2 (.slice A n c) n (pv (prs (p.untG o) 16)) ∧ Below (V.setCell ⟨pb, 4 + o, none⟩ (.bool false)).heap.size (V.setCell ⟨pb, 4 + o, none⟩ (.bool false)) w') :=
      Lib.hid (pairs_any (g := p.untG o) inUnt fun w' b i j hi hj => untc_any (p := p.setT o false) (o := o) (HS2.out.below b) (keepc b HP2.out) (keepc b HX2.out) hi hj)
    have HSZ : Hid (w.heap.size ≤ (V.setCell ⟨pb, 4 + o, none⟩ (.bool false)).heap.size) := Lib.hid HC2.out.size
    go_wp2_with fail
    generalize V.setCell ⟨pb, 4 + o, none⟩ (.bool false) = V2 at *
    refine (HN.out).mono ?_
    rintro e w3 ⟨A, n, c, rfl, o3, b3⟩
    have hn := own_pairs o3
    obtain ⟨hn1, hn2, hn3⟩ := hn
    have HO3 := Lib.hid (own_mono2 o3 HSZ.out)
    have HS3 := Lib.hid (HS2.out.below b3)
    have HC3 : Hid (Ch w w3 (fun k => k = pb)) := Lib.hid (HC2.out.then_ (Ch.of_below _ b3))
    have HP3 := Lib.hid (keepc b3 HP2.out)
    have HMB : Hid (∀ q, q < n → ∃ i j : Nat, i < 4 ∧ j < 4 ∧ (prs (p.untG o) 16).getD q zp = ((i : Int), (j : Int))) := Lib.hid fun q hq => by
      have hm : (prs (p.untG o) 16).getD q zp ∈ prs (p.untG o) 16 := by
        rw [List.getD_eq_getElem?_getD, List.getElem?_eq_getElem (by omega)]
        exact List.getElem_mem _
      obtain ⟨i, j, hi, hj, -, e⟩ := prs_mem.1 hm
      exact ⟨i, j, hi, hj, e⟩
    have HEND : Hid (∀ W, St W pb { p with ot := upd p.ot o false, fl := clr p.fl (prs (p.untG o) 16) } → St W pb { p with ot := upd p.ot o false, fl := fun k m => p.fl k m && !decide (m = o) }) := Lib.hid fun W hW =>
      hW.ext (fun _ _ => rfl) (fun _ _ => rfl) (fun i j hi hj => clr_end p hi hj) rfl
    have HTK : Hid (∀ q, q < n → ∀ i j : Nat, (prs (p.untG o) 16).getD q zp = ((i : Int), (j : Int)) → upd2 (clr p.fl ((prs (p.untG o) 16).take q)) i j false = clr p.fl ((prs (p.untG o) 16).take (q + 1))) := Lib.hid fun q hq i j he => by
      rw [clr_step, ← he]
      congr 1
      rw [List.take_add_one, List.getElem?_eq_getElem (by omega), List.getD_eq_getElem?_getD, List.getElem?_eq_getElem (by omega)]
      rfl
    have HLN : Hid ((prs (p.untG o) 16).take n = prs (p.untG o) 16) := Lib.hid (List.take_of_length_le (by omega))
    have HZ : Hid (St w3 pb { p with ot := upd p.ot o false, fl := clr p.fl ((prs (p.untG o) 16).take 0) }) := Lib.hid (by
      rw [List.take_zero, clr_nil]
      exact HS3.out)
    clear o3 b3 HN HP2 HX2 HS2 HS3 hn1
    generalize hl : prs (p.untG o) 16 = l at *
    have HLE := Lib.hid hl
    clear hl
    go_wp2_with fail
    go_loopw [24] (fun ix wr => ∃ (q : Nat), q ≤ n ∧ ix = .int .i64 (q : Int) ∧ St wr pb { p with ot := upd p.ot o false, fl := clr p.fl (l.take q) } ∧ Ch w3 wr (fun k => k = pb)) (fun ix _ => n - (intOf ix).toNat)
    case atStart => exact ⟨0, Nat.zero_le _, rfl, HZ.out, Ch.refl _ _⟩
    case round =>
      obtain ⟨q, hq, rfl, hS, hC⟩ := hrel
      have HSR := Lib.hid hS
      have HCR := Lib.hid hC
      have HOR : Hid (wr.ownsRow w.heap.size 45 2 (.slice A n c) n (pv l)) := Lib.hid (own_ch2 HO3.out hC (fun g hg e => by have := (own_in HO3.out hg).1; have := HLT.out; omega))
      have hPR := HCR.out.cell HP3.out (fun e => by have := HLT.out; have e : w.heap.size = pb := e; omega)
      clear hS hC
      by_cases hqn : q < n
      · have HQ := Lib.hid hqn
        obtain ⟨A', c', he, hps⟩ := PS.of_own HOR.out
        obtain ⟨rfl, rfl⟩ : A = A' ∧ c = c' := by injection he with e1 _ e2; exact ⟨e1, e2⟩
        obtain ⟨g, ofs, rfl, k0, k1⟩ := hps.at_ hqn
        obtain ⟨i, j, hi, hj, hij⟩ := HMB.out q hqn
        have HT := Lib.hid (HTK.out q hqn i j hij)
        rw [hij] at k0 k1
        have hb := below_a wr (.cells #[.int .i64 (i : Int), .int .i64 (j : Int)] 45)
        have HB := Lib.hid hb
        obtain ⟨y0, y1⟩ := cell2 wr (.int .i64 (i : Int)) (.int .i64 (j : Int)) 45
        have hP4 := keepc hb hPR
        have c4 := (HSR.out.below hb).f hi hj
        have f4 := (HSR.out.below hb).fz (8 + i * 4 + j)
        have HS4 := Lib.hid (((HSR.out.below hb).drewN 1).setF hi hj false)
        clear hb he hps hij hPR
        go_wp2_with fail
        obtain ⟨W5, hW5⟩ : ∃ W5, W5 = wr.alloc (.cells #[.int .i64 (i : Int), .int .i64 (j : Int)] 45) := ⟨_, rfl⟩
        rw [← hW5] at HB y0 y1 hP4 c4 f4 HS4 ⊢
        clear hW5
        have hiN : ¬ (4 : Int) ≤ (i : Int) := by omega
        have hjN : ¬ (4 : Int) ≤ (j : Int) := by omega
        have z1 : W5.drew.cell? ⟨w.heap.size, 0, none⟩ = some (.pointer (some ⟨pb, 0, none⟩)) ∧ W5.drew.cell? ⟨wr.heap.size, 0, none⟩ = some (.int .i64 (i : Int)) ∧ W5.drew.cell? ⟨wr.heap.size, 1, none⟩ = some (.int .i64 (j : Int)) := ⟨hP4, y0, y1⟩
        have c4 : W5.drew.cell? ⟨pb, 8 + i * 4 + j, none⟩ = some (.bool (clr p.fl (List.take q l) i j)) := c4
        have f4 : W5.drew.frozen? ⟨pb, 8 + i * 4 + j, none⟩ = false := f4
        have HS4 : Hid (St (W5.drew.setCell ⟨pb, 8 + i * 4 + j, none⟩ (.bool false)) pb ({ p with ot := upd p.ot o false, fl := clr p.fl (l.take q) }.setF i j false)) := Lib.hid HS4.out
        have HB : Hid (Below wr.heap.size wr W5.drew) := Lib.hid HB.out.drew
        clear hP4 y0 y1
        refine wp_region_noPanic ?_
        refine wp_region_held_drew (S := fun W => W.cell? ⟨w.heap.size, 0, none⟩ = some (.pointer (some ⟨pb, 0, none⟩)) ∧ W.cell? ⟨wr.heap.size, 0, none⟩ = some (.int .i64 (i : Int)) ∧ W.cell? ⟨wr.heap.size, 1, none⟩ = some (.int .i64 (j : Int))) (by kernel_rfl) z1 (fun _ => ?_)
        generalize W5.drew = W6 at *
        refine held_take (i := 0) (v := .pointer (some ⟨pb, 0, none⟩)) (some 28) rfl rfl (by kernel_rfl) (by kernel_rfl) (by kernel_rfl) (fun _ _ _ h => h) (Or.inl ⟨by rfl, fun W hW => by have hc := hW.1; go_simp⟩) z1 ?_
        simp only [Act.put, List.setIfInBounds_toArray, List.set_cons_zero, List.set_cons_succ]
        refine held_take (i := 1) (v := .pointer (some ⟨wr.heap.size, 0, none⟩)) (some 29) rfl rfl (by kernel_rfl) (by kernel_rfl) (by kernel_rfl) (fun _ _ _ h => h) (Or.inl ⟨by rfl, fun W hW => by go_simp⟩) z1 ?_
        simp only [Act.put, List.setIfInBounds_toArray, List.set_cons_zero, List.set_cons_succ]
        refine held_take (i := 3) (v := .pointer (some ⟨wr.heap.size, 1, none⟩)) (some 31) rfl rfl (by kernel_rfl) (by kernel_rfl) (by kernel_rfl) (fun _ _ _ h => h) (Or.inl ⟨by rfl, fun W hW => by go_simp⟩) z1 ?_
        simp only [Act.put, List.setIfInBounds_toArray, List.set_cons_zero, List.set_cons_succ]
        refine held_take (i := 2) (v := .int .i64 (i : Int)) (some 30) rfl rfl (by kernel_rfl) (by kernel_rfl) (by kernel_rfl) (fun _ _ _ h => h) (Or.inl ⟨by rfl, fun W hW => by have hc := hW.2.1; go_simp⟩) z1 ?_
        simp only [Act.put, List.setIfInBounds_toArray, List.set_cons_zero, List.set_cons_succ]
        refine held_take (i := 4) (v := .int .i64 (j : Int)) (some 32) rfl rfl (by kernel_rfl) (by kernel_rfl) (by kernel_rfl) (fun _ _ _ h => h) (Or.inl ⟨by rfl, fun W hW => by have hc := hW.2.2; go_simp⟩) z1 ?_
        simp only [Act.put, List.setIfInBounds_toArray, List.set_cons_zero, List.set_cons_succ]
        refine held_take (i := 5) (v := .pointer (some ⟨pb, 0, none⟩)) (some 33) rfl rfl (by kernel_rfl) (by kernel_rfl) (by kernel_rfl) (fun _ _ _ h => h) (Or.inl ⟨by rfl, fun W hW => by go_simp⟩) z1 ?_
        simp only [Act.put, List.setIfInBounds_toArray, List.set_cons_zero, List.set_cons_succ]
        refine held_take (i := 6) (v := .pointer (some ⟨pb, 8, none⟩)) (some 34) rfl rfl (by kernel_rfl) (by kernel_rfl) (by kernel_rfl) (fun _ _ _ h => h) (Or.inl ⟨by rfl, fun W hW => by go_simp⟩) z1 ?_
        simp only [Act.put, List.setIfInBounds_toArray, List.set_cons_zero, List.set_cons_succ]
        refine held_take (i := 7) (v := .pointer (some ⟨pb, 8 + i * 4, none⟩)) (some 35) rfl rfl (by kernel_rfl) (by kernel_rfl) (by kernel_rfl) (fun _ _ _ h => h) (Or.inl ⟨by rfl, fun W hW => by go_simp⟩) z1 ?_
        simp only [Act.put, List.setIfInBounds_toArray, List.set_cons_zero, List.set_cons_succ]
        refine held_take (i := 8) (v := .pointer (some ⟨pb, 8 + i * 4 + j, none⟩)) (some 36) rfl rfl (by kernel_rfl) (by kernel_rfl) (by kernel_rfl) (fun _ _ _ h => h) (Or.inl ⟨by rfl, fun W hW => by go_simp⟩) z1 ?_
        simp only [Act.put, List.setIfInBounds_toArray, List.set_cons_zero, List.set_cons_succ]
        refine wpAnyH_ready (rs := [9]) (by kernel_rfl) (by simp) ?_
        refine AllReadyH.cons rfl (fun K hK => ?_) AllReadyH.nil
        go_simp
        have HS5 : Hid (St (W6.setCell ⟨pb, 8 + i * 4 + j, none⟩ (.bool false)) pb { p with ot := upd p.ot o false, fl := clr p.fl (l.take (q + 1)) }) := Lib.hid (by rw [← HT.out]; exact HS4.out)
        have HC5 : Hid (Ch w3 (W6.setCell ⟨pb, 8 + i * 4 + j, none⟩ (.bool false)) (fun k => k = pb)) := Lib.hid ((HCR.out.then_ (Ch.of_below _ HB.out)).then_ ch_set)
        have hch := ch_set (w := W6) (b := pb) (k := 8 + i * 4 + j) (v := .bool false)
        have hlt := HLT.out
        have hs1 := HC3.out.size
        have hs2 := HCR.out.size
        have z7 : (W6.setCell ⟨pb, 8 + i * 4 + j, none⟩ (.bool false)).cell? ⟨w.heap.size, 0, none⟩ = some (.pointer (some ⟨pb, 0, none⟩)) ∧ (W6.setCell ⟨pb, 8 + i * 4 + j, none⟩ (.bool false)).cell? ⟨wr.heap.size, 0, none⟩ = some (.int .i64 (i : Int)) ∧ (W6.setCell ⟨pb, 8 + i * 4 + j, none⟩ (.bool false)).cell? ⟨wr.heap.size, 1, none⟩ = some (.int .i64 (j : Int)) := ⟨hch.cell z1.1 (fun e => by have e : w.heap.size = pb := e; omega), hch.cell z1.2.1 (fun e => by have e : wr.heap.size = pb := e; omega), hch.cell z1.2.2 (fun e => by have e : wr.heap.size = pb := e; omega)⟩
        clear c4 f4 z1 k0 k1 HS4 hch hlt hs1 hs2
        generalize W6.setCell ⟨pb, 8 + i * 4 + j, none⟩ (.bool false) = W7 at *
        refine hK.out _ _ z7 (fun _ => ?_)
        clear hK
        try simp only [Act.put, List.setIfInBounds_toArray, List.set_cons_zero, List.set_cons_succ]
        refine wpAnyH_done (by kernel_rfl) ?_ _
        refine NoPanic.normal ?_
        go_wp2_with fail
        go_roundw
        case rel => exact ⟨q + 1, HQ.out, by go_num, HS5.out, HC5.out⟩
        case measure => have := HQ.out; simp [intOf]; omega
      · obtain rfl : q = n := by omega
        go_wp2_with fail
        go_ret
        refine ⟨A, q, c, rfl, by rw [HLE.out]; exact HOR.out, HEND.out _ ?_, HC3.out.then_ (HCR.out.mono fun _ _ h => h) ⟩
        have := HSR.out
        rw [HLN.out] at this
        exact this
end Go.Proofs.Ytpkhalneclmoeaa

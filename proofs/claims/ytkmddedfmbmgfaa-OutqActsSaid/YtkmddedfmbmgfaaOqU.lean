/- The law OutqActs. No condition. -/
import Derived.Test.YtkmddedfmbmgfaaOqT
import Derived.Test.YtkmddedfmbmgfaaHel
import Derived.Test.YtkmddedfmbmgfaaUnt
import Derived.Deep.LoopGhost
import Derived.Deep.CutRange
namespace Go.Proofs.Ytkmddedfmbmgfaa
set_option linter.unusedVariables false
set_option linter.unusedSimpArgs false
open Go.RowKit

theorem infoQc : (Try.prog.info? 35).map (·.size) = some 8 := by kernel_rfl
def zQ : Qc := ⟨0, 0, zP⟩
theorem zeroQc : (Try.prog.info? 35).map (·.zero) = some (some (.agg zQ.vals.toArray)) := by kernel_rfl
/-- A piece with other data. -/
def Pc.wd (p : Pc) (A : Option Addr) (c : Nat) : Pc := { p with dA := A, dc := c }
theorem key_wd (p : Pc) (A : Option Addr) (c : Nat) : (p.wd A c).key = p.key := rfl
theorem vals_wd (p : Pc) (A : Option Addr) (c : Nat) : p.vals.set 3 (.slice A p.dn c) = (p.wd A c).vals := rfl
theorem Own.piece {w : World} {b : Nat} {a : Qc} (h : Own w b a.vals) : w.rangeAt b 2 a.p.vals := fun j x hj => by
  have hlt := (List.getElem?_eq_some_iff.1 hj).1
  rw [Pc.vals_length] at hlt
  rw [show 2 + j = j + 2 by omega, (h (j + 2) (by rw [Qc.vals_length]; omega)).1]
  exact hj
theorem BX.new {w0 w w' : World} {S : Nat → Prop} {g : Nat} (z : Own w' g zP.vals) (hg : Hid (g = w.heap.size)) (hlo : w0.heap.size ≤ w.heap.size) (hS : ∀ k, S k → k < w.heap.size) : BX w0 w' S g := ⟨z, by rw [hg.out]; exact hlo, fun e => by have h1 := hS g e; rw [hg.out] at h1; omega⟩
theorem BX.ne {w0 w : World} {S : Nat → Prop} {g g' : Nat} (h : BX w0 w S g) (hg : Hid (g' = w.heap.size)) : g ≠ g' := fun e => by
  have h1 := h.lt
  rw [e, hg.out] at h1
  omega
theorem BX.far {w0 w w' : World} {S : Nat → Prop} {g g' : Nat} (h : BX w0 w S g) (gr : w.grownBy w' (some g')) (hne : g ≠ g') : BX w0 w' S g := ⟨h.own.far gr (fun e => hne (Option.some.inj e)), h.lo, h.ap⟩
theorem step_allocP {ops : Array Oper} {op : Oper} {a : Act} {w : World} {K : Act → World → Prop} {Q : Exit → Act → World → Prop} {E : Prop} (hgd : Region.wanted op (yielded ops a.tmps) = true) (ho : op.op = .alloc 33)
    (h : ∀ g w', Hid (g = w.heap.size) → Own w' g zP.vals → Below w.heap.size w w' → K (a.put op.dst (.pointer (some ⟨g, 0, none⟩))) w') : if Region.wanted op (yielded ops a.tmps) = true then Oper.wp Try.prog op a w K Q else E := by
  rw [if_pos hgd]
  have hz := zeroPc
  cases hi : Try.prog.info? 33 with
  | none => simp [hi] at hz
  | some i =>
    have hz' : i.zero = some (.agg zP.vals.toArray) := by simpa [hi] using hz
    have hrun : (execOp a.eval op).run Try.prog w = .ok (.value (.pointer (some ⟨w.heap.size, 0, none⟩))) (w.alloc (.cells zP.vals.toArray 33)) := by
      simp [execOp, ho, Instr.alloc, newVar, newRow, zeroValue, typeInfo, hi, hz', Value.cells, Result.andThen]
    unfold Oper.wp
    rw [hrun, Oper.upon_value]
    exact h _ _ (Lib.hid rfl) (Own.new w zP.vals _) (below_a w _)
theorem step_storeP {ops : Array Oper} {op : Oper} {a : Act} {w : World} {K : Act → World → Prop} {Q : Exit → Act → World → Prop} {E : Prop} (hgd : Region.wanted op (yielded ops a.tmps) = true) (x y : Operand) (ho : op.op = .store 33 x y) (g : Nat) (p : Pc) (hx : a.eval x = .pointer (some ⟨g, 0, none⟩)) (hy : a.eval y = .agg p.vals.toArray) (hA : Own w g zP.vals)
    (h : ∀ w', Own w' g p.vals → w.grownBy w' (some g) → K (a.put op.dst undef) w') : if Region.wanted op (yielded ops a.tmps) = true then Oper.wp Try.prog op a w K Q else E := by
  rw [if_pos hgd]
  exact wp_store_mid 33 x y ho g 0 p.vals.toArray hx hy (by rw [List.size_toArray]; exact hA.there) (by rw [List.size_toArray]; exact infoPc) (all_oneCell_toArray (pc_one p)) (h _ (hA.put rfl) (v_g_setCells g _ 0 w))
/-- A round's end. -/
def Mid (W : World) (qb xb : Nat) (j : Nat) (w : World) : Prop := ∃ (v : Value) (l : List Pc) (u : Value) (r : List Pc) (b : Nat) (ks : List Ky) (en : Nat), Bth W w qb v l xb u r b ks en ∧ ks.length ≤ j

set_option maxRecDepth 20000 in
set_option maxHeartbeats 16000000 in
theorem Acts_any (s : Nat) (A : Option Addr) (na ca : Nat) (ac : List Qc) (W : World) (hs : s < 4294967296) (hA : QS W A na ca ac) :
    Calls Try.prog 3 #[.int .u32 (s : Int), .slice A na ca] W (Held W) := by
  have HW := Lib.hid (wakes_any W)
  have HN := Lib.hid (fun w b => snew_any W w s hs b)
  have hcp := hA.2.1
  have hmx := hA.2.2.1
  have HA := Lib.hid hA
  clear hA
  go_enter Try.func3, Try.ntmps3
  go_wp2_with fail
  refine (HW.out).mono ?_
  rintro e w1 ⟨rfl, b1⟩
  have HB1 := Lib.hid b1
  clear b1
  by_cases hn : 100 < na
  · have hn1 : (100 : Int) < (na : Int) := by omega
    go_wp2_with fail
    go_ret
    exact ⟨rfl, HB1.out⟩
  have hn1 : decide ((100 : Int) < (na : Int)) = false := decide_eq_false (by omega)
  go_wp2_with fail
  refine (HN.out w1 HB1.out).mono ?_
  rintro e w2 ⟨qb, rfl, -, S2, -⟩
  have hx2 : Sq 30 W (w2.alloc (.cells #[.slice none 0 0, .int .u32 (s : Int)] 30)) w2.heap.size (.slice none 0 0) [] s [] s :=
    ⟨⟨heap_alloc_new w2 _, S2.bel.size, .inl ⟨rfl, rfl⟩, (fun p hp => by cases hp), hs⟩, rfl, rfl, hs, (fun k hk => by cases hk), S2.bel.alloc S2.bel.size _⟩
  have HM : Hid (Mid W qb w2.heap.size 0 (w2.alloc (.cells #[.slice none 0 0, .int .u32 (s : Int)] 30))) := Lib.hid ⟨_, _, _, _, _, _, _, ⟨S2.below (below_a w2 _), hx2, fun k hk e => by
    have h1 := (S2.in_ hk).2
    rcases e with e | e | ⟨p, hp, _⟩
    · omega
    · cases e
    · cases hp⟩, Nat.le_refl _⟩
  clear S2 hx2
  unfold ptr
  go_wp2_with fail
  generalize w2.alloc (.cells #[.slice none 0 0, .int .u32 (s : Int)] 30) = w3 at *
  generalize w2.heap.size = xb at *
  go_loopg [31] na (fun kx ix wz => ∃ j : Nat, j ≤ na ∧ na - j ≤ kx ∧ ix = .int .i64 (j : Int) ∧ Mid W qb xb j wz)
  case atStart => exact ⟨0, Nat.zero_le _, Nat.le_refl _, rfl, HM.out⟩
  case round =>
    clear HM
    obtain ⟨j, hj, hkx, rfl, v, l, u, r, b, ks, en, hB, hkl⟩ := hrel
    have HB := Lib.hid hB
    have HKL := Lib.hid hkl
    have HBB := Lib.hid hB.q.bel
    by_cases hjl : j < na
    · obtain ⟨ga, oa, rfl, hcells⟩ := (HA.out.below hB.q.bel).2.2.2.2 (by omega)
      have hr := hcells j hjl
      have HQG := Lib.hid (HA.out.2.2.2.1 (ac.getD j default) (by rw [List.getD_eq_getElem?_getD, List.getElem?_eq_getElem (by rw [HA.out.1]; exact hjl)]; exact List.getElem_mem _))
      clear hcells hB hkl
      generalize ac.getD j default = a at *
      obtain ⟨kd, nn, p⟩ := a
      have hpc := HQG.out.p.data.cap
      have hpm := HQG.out.p.data.max
      dsimp only at hpc hpm
      have HPG : Hid (PG W p) := Lib.hid HQG.out.p
      by_cases hd : 50 < p.dn
      · have hd1 : (50 : Int) < (p.dn : Int) := by omega
        go_wp2_with (first
        | ((with_reducible refine wpList_here ?_); refine wpList_loadV (o := ⟨some 34, _, _, _, _, _⟩) rfl 35 (.tmp 33) rfl _ _ (Qc.vals ⟨kd, nn, p⟩) rfl hr _ Try.underlying35 rfl infoQc ?_)
        | ((with_reducible refine wpList_here ?_); refine wpList_allocV (o := ⟨some 8, _, _, _, _, _⟩) rfl 35 rfl zQ.vals zeroQc _ rfl ?_; intro w4 z4 b4 s4)
        | ((with_reducible refine wpList_here ?_); refine wpList_storeV rfl 35 (.tmp 8) (.tmp 34) rfl _ _ (Qc.vals ⟨kd, nn, p⟩) rfl rfl z4 rfl (qc_one _) infoQc ?_; intro w5 z5 g5 s5; have b5 := v_below_g b4 g5 b4.size (Nat.le_refl _); have k0 : w5.cell? ⟨wr.heap.size, 0, none⟩ = some (.int .i64 kd) := (z5 0 (by rw [Qc.vals_length]; omega)).1; have k5 : w5.cell? ⟨wr.heap.size, 5, none⟩ = some (.slice p.dA p.dn p.dc) := (z5 5 (by rw [Qc.vals_length]; omega)).1; clear z4 b4 g5))
        go_ret
        exact ⟨rfl, (HB.out.below b5).q.bel⟩
      have hd1 : decide ((50 : Int) < (p.dn : Int)) = false := decide_eq_false (by omega)
      go_upto_if 42 with (first
        | ((with_reducible refine wpList_here ?_); refine wpList_loadV (o := ⟨some 34, _, _, _, _, _⟩) rfl 35 (.tmp 33) rfl _ _ (Qc.vals ⟨kd, nn, p⟩) rfl hr _ Try.underlying35 rfl infoQc ?_)
        | ((with_reducible refine wpList_here ?_); refine wpList_allocV (o := ⟨some 8, _, _, _, _, _⟩) rfl 35 rfl zQ.vals zeroQc _ rfl ?_; intro w4 z4 b4 s4)
        | ((with_reducible refine wpList_here ?_); refine wpList_storeV rfl 35 (.tmp 8) (.tmp 34) rfl _ _ (Qc.vals ⟨kd, nn, p⟩) rfl rfl z4 rfl (qc_one _) infoQc ?_; intro w5 z5 g5 s5; have b5 := v_below_g b4 g5 b4.size (Nat.le_refl _); have k0 : w5.cell? ⟨wr.heap.size, 0, none⟩ = some (.int .i64 kd) := (z5 0 (by rw [Qc.vals_length]; omega)).1; have k5 : w5.cell? ⟨wr.heap.size, 5, none⟩ = some (.slice p.dA p.dn p.dc) := (z5 5 (by rw [Qc.vals_length]; omega)).1; clear z4 b4 g5))
      have hs5' : w5.heap.size = wr.heap.size + 1 := by omega
      have HS5 := Lib.hid hs5'
      have HB5 := Lib.hid (HB.out.below b5)
      have hlo5 : ∀ k, S0 qb v l xb u r k → k < wr.heap.size := fun k hk => (HB.out.in_ hk).2
      have HLO := Lib.hid hlo5
      have HWR := Lib.hid HBB.out.size
      clear b5 s4 s5 hlo5 hs5' HB hr
      generalize wr.heap.size = ab at *
      go_cut [31] from 31 to 148 (fun ix wx => ix = .int .i64 (j : Int) ∧ Mid W qb xb (j + 1) wx)
      case first =>
        by_cases hk0 : kd = 0
        · subst hk0
          have h40 : p.dn ≤ 1099511627776 := by omega
          have r5 := HPG.out.data.below HB5.out.q.bel
          have k6 : (w5.alloc (.cells #[] 5)).cell? ⟨ab, 5, none⟩ = some (.slice p.dA p.dn p.dc) := ((below_a w5 _).cell (World.block_lt_of_cell? _ _ k5)).trans k5
          have k7 : (w5.alloc (.cells #[] 5)).cell? ⟨ab, 3 + 2, none⟩ = some (.slice p.dA p.dn p.dc) := k6
          go_upto_region 15 with (first
            | (at_builtin; refine wpList_app_lit (W := w5) rfl (.tmp 43) (.tmp 46) 31 5 rfl Try.underlying31 infoByte rfl p.dA p.dn p.dc p.ds rfl r5 h40 ?_; intro A6 c6 w6 r6 o6 b6; have z6 := z5.below b6; have q6 := z6.piece; have HB6 := Lib.hid (HB5.out.below b6); have O6 := Lib.hid o6; have HC6 := Lib.hid r6.cap; clear r5 r6 o6 k5 k6 k7)
            | ((with_reducible refine wpList_here ?_); refine wpList_loadV (o := ⟨some 49, _, _, _, _, _⟩) rfl 33 (.tmp 48) rfl _ _ p.vals rfl q6 _ Try.underlying33 rfl infoPc ?_)
            | ((with_reducible refine wpList_here ?_); refine wpList_allocV (o := ⟨some 10, _, _, _, _, _⟩) rfl 33 rfl zP.vals zeroPc _ rfl ?_; intro w7 z7 b7 s7)
            | ((with_reducible refine wpList_here ?_); refine wpList_storeV rfl 33 (.tmp 10) (.tmp 49) rfl _ _ p.vals rfl rfl z7 rfl (pc_one p) infoPc ?_; intro w8 z8 g8 s8; have b8 := v_below_g b7 g8 b7.size (Nat.le_refl _); clear z7)
            | ((with_reducible refine wpList_here ?_); refine wpList_setV rfl 31 (.tmp 51) (.tmp 50) rfl _ 3 p.vals (.slice A6 p.dn c6) rfl rfl z8 (by rw [Pc.vals_length]; omega) rfl sizeSl ?_; intro w9 z9 g9 s9; have z10 : Own w9 w6.heap.size (p.wd A6 c6).vals := z9; have b9 := v_below_g b8 g9 b8.size (Nat.le_refl _); clear z9 z8 g8 g9 b8 b7))
          have hsz9 : w6.heap.size < w9.heap.size := z10.lt (by rw [Pc.vals_length]; omega)
          have b6s := b6.size
          have hz6 : ab < w6.heap.size := by have := HS5.out; omega
          have d9 : Below w9.heap.size w9 w9.drew := (Below.refl _ _).drew
          have HB9 := Lib.hid ((HB6.out.below b9).below d9)
          have HRP := Lib.hid (z10.below d9).range
          have HRA := Lib.hid (((z6.below b9).below d9).piece)
          have HO9 : Hid (w9.drew.ownsRow (ab + 1) 5 1 (.slice A6 p.dn c6) p.dn (bv p.ds)) := Lib.hid (own_mono (own_below (own_below O6.out b9) d9) (by have := HS5.out; omega))
          have hsz0 : w6.heap.size < w9.drew.heap.size := hsz9
          clear O6 HB6 z6 q6 b6 b9 z10 s7 s8 s9 d9 k0 z5 hsz9
          have HPP : Hid (PG w9.drew (p.wd A6 c6) ∧ (p.wd A6 c6).key = p.key ∧ (p.wd A6 c6).dn = p.dn ∧ (p.wd A6 c6).dA = A6) := Lib.hid ⟨⟨HPG.out.seq, HPG.out.dsn, by
            obtain ⟨A', c', e, hr', _⟩ := RB.of_own HO9.out
            injection e with e1 e2 e3
            subst e1 e3
            exact hr'⟩, rfl, rfl, rfl⟩
          generalize p.wd A6 c6 = p' at *
          generalize w6.heap.size = pb at *
          simp only [Act.put]
          go_cut [11, 12, 31] from 31 to 148 (fun s11 s12 s31 wx => s31 = .int .i64 (j : Int) ∧ ∃ (gb wb : Nat) (q1 q2 : Pc) (v1 : Value) (l1 : List Pc) (u2 : Value) (r2 : List Pc), s11 = .pointer (some ⟨gb, 0, none⟩) ∧ s12 = .pointer (some ⟨wb, 0, none⟩) ∧ HB2 W w9.drew wx qb v l xb u r b ks en p.key q1 q2 v1 l1 u2 r2 ∧ Own wx gb q1.vals ∧ Own wx wb q2.vals ∧ w9.drew.heap.size ≤ gb ∧ ¬ S2 qb v1 l1 xb u2 r2 q1 q2 gb)
          case first =>
            generalize hwd : w9.drew = w0 at *
            have hW0 : W.heap.size ≤ w0.heap.size := by have := HWR.out; omega
            have HPU : Hid (∀ W1, Below w0.heap.size w0 W1 → Calls Try.prog 9 #[.pointer (some ⟨qb, 0, none⟩), .agg p'.vals.toArray] W1 (SPush W W1 qb v l b ks en p.key)) := Lib.hid (fun W1 b1 => by
              have := spush_any (HB9.out.below b1).q (by have := HKL.out; omega) p' (HPP.out.1.below b1) (by rw [HPP.out.2.2.1]; omega) (fun g o s e hn => by
                rw [HPP.out.2.2.2] at e
                have h1 : (Value.slice A6 p.dn c6).ownBlock = some g := by rw [e]; rfl
                have h2 := (HO9.out.lt g h1).1
                exact ⟨fun e2 => by have := HLO.out g (.inl (.inl e2)); omega, fun e2 => by have := HLO.out g (.inl (.inr (.inl e2))); omega⟩)
              rw [HPP.out.2.1] at this
              exact this)
            have HPX : Hid (∀ W2, Sq 30 W W2 xb u r b ks en → Calls Try.prog 10 #[.pointer (some ⟨xb, 0, none⟩), .agg p.vals.toArray] W2 (SPushR W W2 xb u r b ks en p.key)) := Lib.hid (fun W2 S => spush_ref S (by have := HKL.out; omega) p (HPG.out.below S.bel) (by omega))
            have HSR : Hid (∀ W', Ch w0 W' (S0 qb v l xb u r) → W'.rangeAt pb 0 p'.vals ∧ W'.rangeAt ab 2 p.vals) := Lib.hid (fun W' c => ⟨rangeAt_ch c HRP.out (fun e => by have := HLO.out pb e; omega), rangeAt_ch c HRA.out (fun e => by have := HLO.out ab e; omega)⟩)
            have a0 : Hid (Below w0.heap.size w0 w0) := Lib.hid (Below.refl _ _)
            refine wp_region_noPanic ?_
            refine wp_region_held_drew (S := fun V => V.rangeAt pb 0 p'.vals ∧ V.rangeAt ab 2 p.vals) (by kernel_rfl) (by rw [hwd]; exact HSR.out _ (Ch.refl _ _)) (fun _ => ?_)
            rw [hwd]
            clear hwd
            refine held_take (i := 0) (v := .pointer (some ⟨qb, 0, none⟩)) (some 52) rfl rfl (by kernel_rfl) (by kernel_rfl) (by kernel_rfl) (fun _ _ _ h => h) (Or.inl ⟨by rfl, fun W hW => by go_simp⟩) (HSR.out _ (Ch.refl _ _)) ?_
            simp only [Act.put, List.setIfInBounds_toArray, List.set_cons_zero, List.set_cons_succ]
            refine held_take (i := 1) (v := .agg p'.vals.toArray) (some 53) rfl rfl (by kernel_rfl) (by kernel_rfl) (by kernel_rfl) (fun _ _ _ h => h) (yieldsIf_load_mid (by rfl) 33 (.tmp 10) rfl pb 0 rfl _ _ (fun W hW => hW.1) Try.underlying33 rfl infoPc) (HSR.out _ (Ch.refl _ _)) ?_
            simp only [Act.put, List.setIfInBounds_toArray, List.set_cons_zero, List.set_cons_succ]
            refine held_take (i := 3) (v := .pointer (some ⟨xb, 0, none⟩)) (some 55) rfl rfl (by kernel_rfl) (by kernel_rfl) (by kernel_rfl) (fun _ _ _ h => h) (Or.inl ⟨by rfl, fun W hW => by go_simp⟩) (HSR.out _ (Ch.refl _ _)) ?_
            simp only [Act.put, List.setIfInBounds_toArray, List.set_cons_zero, List.set_cons_succ]
            refine held_take (i := 4) (v := .pointer (some ⟨ab, 2, none⟩)) (some 56) rfl rfl (by kernel_rfl) (by kernel_rfl) (by kernel_rfl) (fun _ _ _ h => h) (Or.inl ⟨by rfl, fun W hW => by go_simp⟩) (HSR.out _ (Ch.refl _ _)) ?_
            simp only [Act.put, List.setIfInBounds_toArray, List.set_cons_zero, List.set_cons_succ]
            refine held_take (i := 5) (v := .agg p.vals.toArray) (some 57) rfl rfl (by kernel_rfl) (by kernel_rfl) (by kernel_rfl) (fun _ _ _ h => h) (yieldsIf_load_mid (by rfl) 33 (.tmp 56) rfl ab 2 rfl _ _ (fun W hW => hW.2) Try.underlying33 rfl infoPc) (HSR.out _ (Ch.refl _ _)) ?_
            simp only [Act.put, List.setIfInBounds_toArray, List.set_cons_zero, List.set_cons_succ]
            refine wpAnyH_ready (rs := [2, 7, 8]) (by kernel_rfl) (by simp) ?_
            refine AllReadyH.cons rfl (fun K hK => ?_) (AllReadyH.cons rfl (fun K hK => ?_) (AllReadyH.cons rfl (fun K hK => ?_) AllReadyH.nil))
            · go_simp
              refine (HPU.out _ a0.out).mono ?_
              rintro e v1' ⟨q1, v1, l1, m1, rfl, hk1, ho1, hm1, T1, lt1, old1, ch1⟩
              obtain ⟨hb, hx⟩ := push_one HB9.out a0.out hk1 ho1 hm1 T1 lt1 old1 ch1
              have h1_ := Lib.hid hb
              clear hk1 ho1 hm1 T1 lt1 old1 ch1 hb hx
              dsimp only
              refine hK.out _ _ (HSR.out _ h1_.out.ch) (fun _ => ?_)
              clear hK
              try simp only [Act.put, List.setIfInBounds_toArray, List.set_cons_zero, List.set_cons_succ]
              refine wpAnyH_ready (rs := [6, 7, 8]) (by kernel_rfl) (by simp) ?_
              refine AllReadyH.cons rfl (fun K hK => ?_) (AllReadyH.cons rfl (fun K hK => ?_) (AllReadyH.cons rfl (fun K hK => ?_) AllReadyH.nil))
              · go_simp
                refine (HPX.out _ h1_.out.x).mono ?_
                rintro e v2' ⟨q2, u2, r2, rfl, hk2, ho2, T2, old2, ch2⟩
                obtain ⟨hb, hx⟩ := push_two HB9.out h1_.out hk2 ho2 T2 old2 ch2
                have h2_ := Lib.hid hb
                clear hk2 ho2 T2 old2 ch2 hb hx
                dsimp only
                refine hK.out _ _ (HSR.out _ h2_.out.ch) (fun _ => ?_)
                clear hK
                try simp only [Act.put, List.setIfInBounds_toArray, List.set_cons_zero, List.set_cons_succ]
                refine wpAnyH_ready (rs := [7, 8]) (by kernel_rfl) (by simp) ?_
                refine AllReadyH.cons rfl (fun K hK => ?_) (AllReadyH.cons rfl (fun K hK => ?_) AllReadyH.nil)
                · refine step_allocP (by rfl) rfl ?_
                  intro g7_3 v3' hg z bl
                  have h3_ := Lib.hid (h2_.out.below bl)
                  have x7_3 : Hid (BX w0 v3' (S2 qb v1 l1 xb u2 r2 q1 q2) g7_3) := Lib.hid (BX.new z hg h2_.out.ch.size (fun k hk => h2_.out.in_ hk))
                  clear hg z bl
                  show K (Act.put _ (some 11) _) _
                  refine hK.out _ _ (HSR.out _ h3_.out.ch) (fun _ => ?_)
                  clear hK
                  try simp only [Act.put, List.setIfInBounds_toArray, List.set_cons_zero, List.set_cons_succ]
                  refine wpAnyH_ready (rs := [8]) (by kernel_rfl) (by simp) ?_
                  refine AllReadyH.cons rfl (fun K hK => ?_) AllReadyH.nil
                  refine step_allocP (by rfl) rfl ?_
                  intro g8_4 v4' hg z bl
                  have h4_ := Lib.hid (h3_.out.below bl)
                  have ne4 := Lib.hid (x7_3.out.ne hg)
                  have x7_4 := Lib.hid (x7_3.out.below bl)
                  have x8_4 : Hid (BX w0 v4' (S2 qb v1 l1 xb u2 r2 q1 q2) g8_4) := Lib.hid (BX.new z hg h3_.out.ch.size (fun k hk => h3_.out.in_ hk))
                  clear hg z bl
                  show K (Act.put _ (some 12) _) _
                  refine hK.out _ _ (HSR.out _ h4_.out.ch) (fun _ => ?_)
                  clear hK
                  try simp only [Act.put, List.setIfInBounds_toArray, List.set_cons_zero, List.set_cons_succ]
                  refine wpAnyH_ready (rs := [9]) (by kernel_rfl) (by simp) ?_
                  refine AllReadyH.cons rfl (fun K hK => ?_) AllReadyH.nil
                  refine step_storeP (by rfl) (.tmp 11) (.tmp 54) rfl g7_3 q1 rfl rfl x7_4.out.own ?_
                  intro v5' z gr
                  have h5_ := Lib.hid (h4_.out.fill x7_4.out.ap x7_4.out.lo hW0 gr)
                  have y7_5 := Lib.hid z
                  have gl7 : Hid (w0.heap.size ≤ g7_3 ∧ ¬ S2 qb v1 l1 xb u2 r2 q1 q2 g7_3) := Lib.hid ⟨x7_4.out.lo, x7_4.out.ap⟩
                  have x8_5 := Lib.hid (x8_4.out.far gr (Ne.symm ne4.out))
                  clear z gr
                  show K (Act.put _ none _) _
                  refine hK.out _ _ (HSR.out _ h5_.out.ch) (fun _ => ?_)
                  clear hK
                  try simp only [Act.put, List.setIfInBounds_toArray, List.set_cons_zero, List.set_cons_succ]
                  refine wpAnyH_ready (rs := [10]) (by kernel_rfl) (by simp) ?_
                  refine AllReadyH.cons rfl (fun K hK => ?_) AllReadyH.nil
                  refine step_storeP (by rfl) (.tmp 12) (.tmp 58) rfl g8_4 q2 rfl rfl x8_5.out.own ?_
                  intro v6' z gr
                  have h6_ := Lib.hid (h5_.out.fill x8_5.out.ap x8_5.out.lo hW0 gr)
                  have y8_6 := Lib.hid z
                  have y7_6 := Lib.hid (y7_5.out.far gr (fun e => ne4.out (Option.some.inj e)))
                  clear z gr
                  show K (Act.put _ none _) _
                  refine hK.out _ _ (HSR.out _ h6_.out.ch) (fun _ => ?_)
                  clear hK
                  try simp only [Act.put, List.setIfInBounds_toArray, List.set_cons_zero, List.set_cons_succ]
                  refine wpAnyH_done (by kernel_rfl) ?_ _
                  refine NoPanic.normal ?_
                  go_wp2_with fail
                  go_meet
                  case rel => exact ⟨rfl, g7_3, g8_4, q1, q2, v1, l1, u2, r2, rfl, rfl, h6_.out, y7_6.out, y8_6.out, gl7.out.1, gl7.out.2⟩
                · refine step_allocP (by rfl) rfl ?_
                  intro g8_7 v7' hg z bl
                  have h7_ := Lib.hid (h2_.out.below bl)
                  have x8_7 : Hid (BX w0 v7' (S2 qb v1 l1 xb u2 r2 q1 q2) g8_7) := Lib.hid (BX.new z hg h2_.out.ch.size (fun k hk => h2_.out.in_ hk))
                  clear hg z bl
                  show K (Act.put _ (some 12) _) _
                  refine hK.out _ _ (HSR.out _ h7_.out.ch) (fun _ => ?_)
                  clear hK
                  try simp only [Act.put, List.setIfInBounds_toArray, List.set_cons_zero, List.set_cons_succ]
                  refine wpAnyH_ready (rs := [7]) (by kernel_rfl) (by simp) ?_
                  refine AllReadyH.cons rfl (fun K hK => ?_) AllReadyH.nil
                  refine step_allocP (by rfl) rfl ?_
                  intro g7_8 v8' hg z bl
                  have h8_ := Lib.hid (h7_.out.below bl)
                  have ne8 := Lib.hid (x8_7.out.ne hg)
                  have x8_8 := Lib.hid (x8_7.out.below bl)
                  have x7_8 : Hid (BX w0 v8' (S2 qb v1 l1 xb u2 r2 q1 q2) g7_8) := Lib.hid (BX.new z hg h7_.out.ch.size (fun k hk => h7_.out.in_ hk))
                  clear hg z bl
                  show K (Act.put _ (some 11) _) _
                  refine hK.out _ _ (HSR.out _ h8_.out.ch) (fun _ => ?_)
                  clear hK
                  try simp only [Act.put, List.setIfInBounds_toArray, List.set_cons_zero, List.set_cons_succ]
                  refine wpAnyH_ready (rs := [9]) (by kernel_rfl) (by simp) ?_
                  refine AllReadyH.cons rfl (fun K hK => ?_) AllReadyH.nil
                  refine step_storeP (by rfl) (.tmp 11) (.tmp 54) rfl g7_8 q1 rfl rfl x7_8.out.own ?_
                  intro v9' z gr
                  have h9_ := Lib.hid (h8_.out.fill x7_8.out.ap x7_8.out.lo hW0 gr)
                  have y7_9 := Lib.hid z
                  have gl7 : Hid (w0.heap.size ≤ g7_8 ∧ ¬ S2 qb v1 l1 xb u2 r2 q1 q2 g7_8) := Lib.hid ⟨x7_8.out.lo, x7_8.out.ap⟩
                  have x8_9 := Lib.hid (x8_8.out.far gr ne8.out)
                  clear z gr
                  show K (Act.put _ none _) _
                  refine hK.out _ _ (HSR.out _ h9_.out.ch) (fun _ => ?_)
                  clear hK
                  try simp only [Act.put, List.setIfInBounds_toArray, List.set_cons_zero, List.set_cons_succ]
                  refine wpAnyH_ready (rs := [10]) (by kernel_rfl) (by simp) ?_
                  refine AllReadyH.cons rfl (fun K hK => ?_) AllReadyH.nil
                  refine step_storeP (by rfl) (.tmp 12) (.tmp 58) rfl g8_7 q2 rfl rfl x8_9.out.own ?_
                  intro v10' z gr
                  have h10_ := Lib.hid (h9_.out.fill x8_9.out.ap x8_9.out.lo hW0 gr)
                  have y8_10 := Lib.hid z
                  have y7_10 := Lib.hid (y7_9.out.far gr (fun e => (Ne.symm ne8.out) (Option.some.inj e)))
                  clear z gr
                  show K (Act.put _ none _) _
                  refine hK.out _ _ (HSR.out _ h10_.out.ch) (fun _ => ?_)
                  clear hK
                  try simp only [Act.put, List.setIfInBounds_toArray, List.set_cons_zero, List.set_cons_succ]
                  refine wpAnyH_done (by kernel_rfl) ?_ _
                  refine NoPanic.normal ?_
                  go_wp2_with fail
                  go_meet
                  case rel => exact ⟨rfl, g7_8, g8_7, q1, q2, v1, l1, u2, r2, rfl, rfl, h10_.out, y7_10.out, y8_10.out, gl7.out.1, gl7.out.2⟩
              · refine step_allocP (by rfl) rfl ?_
                intro g7_11 v11' hg z bl
                have h11_ := Lib.hid (h1_.out.below bl)
                have x7_11 : Hid (BX w0 v11' (S1 qb v1 l1 xb u r q1) g7_11) := Lib.hid (BX.new z hg h1_.out.ch.size (fun k hk => h1_.out.in_ hk))
                clear hg z bl
                show K (Act.put _ (some 11) _) _
                refine hK.out _ _ (HSR.out _ h11_.out.ch) (fun _ => ?_)
                clear hK
                try simp only [Act.put, List.setIfInBounds_toArray, List.set_cons_zero, List.set_cons_succ]
                refine wpAnyH_ready (rs := [6, 8]) (by kernel_rfl) (by simp) ?_
                refine AllReadyH.cons rfl (fun K hK => ?_) (AllReadyH.cons rfl (fun K hK => ?_) AllReadyH.nil)
                · go_simp
                  refine (HPX.out _ h11_.out.x).mono ?_
                  rintro e v12' ⟨q2, u2, r2, rfl, hk2, ho2, T2, old2, ch2⟩
                  obtain ⟨hb, hx⟩ := push_two HB9.out h11_.out hk2 ho2 T2 old2 ch2
                  have h12_ := Lib.hid hb
                  have x7_12 := Lib.hid (hx _ x7_11.out)
                  clear hk2 ho2 T2 old2 ch2 hb hx
                  dsimp only
                  refine hK.out _ _ (HSR.out _ h12_.out.ch) (fun _ => ?_)
                  clear hK
                  try simp only [Act.put, List.setIfInBounds_toArray, List.set_cons_zero, List.set_cons_succ]
                  refine wpAnyH_ready (rs := [8]) (by kernel_rfl) (by simp) ?_
                  refine AllReadyH.cons rfl (fun K hK => ?_) AllReadyH.nil
                  refine step_allocP (by rfl) rfl ?_
                  intro g8_13 v13' hg z bl
                  have h13_ := Lib.hid (h12_.out.below bl)
                  have ne13 := Lib.hid (x7_12.out.ne hg)
                  have x7_13 := Lib.hid (x7_12.out.below bl)
                  have x8_13 : Hid (BX w0 v13' (S2 qb v1 l1 xb u2 r2 q1 q2) g8_13) := Lib.hid (BX.new z hg h12_.out.ch.size (fun k hk => h12_.out.in_ hk))
                  clear hg z bl
                  show K (Act.put _ (some 12) _) _
                  refine hK.out _ _ (HSR.out _ h13_.out.ch) (fun _ => ?_)
                  clear hK
                  try simp only [Act.put, List.setIfInBounds_toArray, List.set_cons_zero, List.set_cons_succ]
                  refine wpAnyH_ready (rs := [9]) (by kernel_rfl) (by simp) ?_
                  refine AllReadyH.cons rfl (fun K hK => ?_) AllReadyH.nil
                  refine step_storeP (by rfl) (.tmp 11) (.tmp 54) rfl g7_11 q1 rfl rfl x7_13.out.own ?_
                  intro v14' z gr
                  have h14_ := Lib.hid (h13_.out.fill x7_13.out.ap x7_13.out.lo hW0 gr)
                  have y7_14 := Lib.hid z
                  have gl7 : Hid (w0.heap.size ≤ g7_11 ∧ ¬ S2 qb v1 l1 xb u2 r2 q1 q2 g7_11) := Lib.hid ⟨x7_13.out.lo, x7_13.out.ap⟩
                  have x8_14 := Lib.hid (x8_13.out.far gr (Ne.symm ne13.out))
                  clear z gr
                  show K (Act.put _ none _) _
                  refine hK.out _ _ (HSR.out _ h14_.out.ch) (fun _ => ?_)
                  clear hK
                  try simp only [Act.put, List.setIfInBounds_toArray, List.set_cons_zero, List.set_cons_succ]
                  refine wpAnyH_ready (rs := [10]) (by kernel_rfl) (by simp) ?_
                  refine AllReadyH.cons rfl (fun K hK => ?_) AllReadyH.nil
                  refine step_storeP (by rfl) (.tmp 12) (.tmp 58) rfl g8_13 q2 rfl rfl x8_14.out.own ?_
                  intro v15' z gr
                  have h15_ := Lib.hid (h14_.out.fill x8_14.out.ap x8_14.out.lo hW0 gr)
                  have y8_15 := Lib.hid z
                  have y7_15 := Lib.hid (y7_14.out.far gr (fun e => ne13.out (Option.some.inj e)))
                  clear z gr
                  show K (Act.put _ none _) _
                  refine hK.out _ _ (HSR.out _ h15_.out.ch) (fun _ => ?_)
                  clear hK
                  try simp only [Act.put, List.setIfInBounds_toArray, List.set_cons_zero, List.set_cons_succ]
                  refine wpAnyH_done (by kernel_rfl) ?_ _
                  refine NoPanic.normal ?_
                  go_wp2_with fail
                  go_meet
                  case rel => exact ⟨rfl, g7_11, g8_13, q1, q2, v1, l1, u2, r2, rfl, rfl, h15_.out, y7_15.out, y8_15.out, gl7.out.1, gl7.out.2⟩
                · refine step_allocP (by rfl) rfl ?_
                  intro g8_16 v16' hg z bl
                  have h16_ := Lib.hid (h11_.out.below bl)
                  have ne16 := Lib.hid (x7_11.out.ne hg)
                  have x7_16 := Lib.hid (x7_11.out.below bl)
                  have x8_16 : Hid (BX w0 v16' (S1 qb v1 l1 xb u r q1) g8_16) := Lib.hid (BX.new z hg h11_.out.ch.size (fun k hk => h11_.out.in_ hk))
                  clear hg z bl
                  show K (Act.put _ (some 12) _) _
                  refine hK.out _ _ (HSR.out _ h16_.out.ch) (fun _ => ?_)
                  clear hK
                  try simp only [Act.put, List.setIfInBounds_toArray, List.set_cons_zero, List.set_cons_succ]
                  refine wpAnyH_ready (rs := [6]) (by kernel_rfl) (by simp) ?_
                  refine AllReadyH.cons rfl (fun K hK => ?_) AllReadyH.nil
                  go_simp
                  refine (HPX.out _ h16_.out.x).mono ?_
                  rintro e v17' ⟨q2, u2, r2, rfl, hk2, ho2, T2, old2, ch2⟩
                  obtain ⟨hb, hx⟩ := push_two HB9.out h16_.out hk2 ho2 T2 old2 ch2
                  have h17_ := Lib.hid hb
                  have x7_17 := Lib.hid (hx _ x7_16.out)
                  have x8_17 := Lib.hid (hx _ x8_16.out)
                  clear hk2 ho2 T2 old2 ch2 hb hx
                  dsimp only
                  refine hK.out _ _ (HSR.out _ h17_.out.ch) (fun _ => ?_)
                  clear hK
                  try simp only [Act.put, List.setIfInBounds_toArray, List.set_cons_zero, List.set_cons_succ]
                  refine wpAnyH_ready (rs := [9]) (by kernel_rfl) (by simp) ?_
                  refine AllReadyH.cons rfl (fun K hK => ?_) AllReadyH.nil
                  refine step_storeP (by rfl) (.tmp 11) (.tmp 54) rfl g7_11 q1 rfl rfl x7_17.out.own ?_
                  intro v18' z gr
                  have h18_ := Lib.hid (h17_.out.fill x7_17.out.ap x7_17.out.lo hW0 gr)
                  have y7_18 := Lib.hid z
                  have gl7 : Hid (w0.heap.size ≤ g7_11 ∧ ¬ S2 qb v1 l1 xb u2 r2 q1 q2 g7_11) := Lib.hid ⟨x7_17.out.lo, x7_17.out.ap⟩
                  have x8_18 := Lib.hid (x8_17.out.far gr (Ne.symm ne16.out))
                  clear z gr
                  show K (Act.put _ none _) _
                  refine hK.out _ _ (HSR.out _ h18_.out.ch) (fun _ => ?_)
                  clear hK
                  try simp only [Act.put, List.setIfInBounds_toArray, List.set_cons_zero, List.set_cons_succ]
                  refine wpAnyH_ready (rs := [10]) (by kernel_rfl) (by simp) ?_
                  refine AllReadyH.cons rfl (fun K hK => ?_) AllReadyH.nil
                  refine step_storeP (by rfl) (.tmp 12) (.tmp 58) rfl g8_16 q2 rfl rfl x8_18.out.own ?_
                  intro v19' z gr
                  have h19_ := Lib.hid (h18_.out.fill x8_18.out.ap x8_18.out.lo hW0 gr)
                  have y8_19 := Lib.hid z
                  have y7_19 := Lib.hid (y7_18.out.far gr (fun e => ne16.out (Option.some.inj e)))
                  clear z gr
                  show K (Act.put _ none _) _
                  refine hK.out _ _ (HSR.out _ h19_.out.ch) (fun _ => ?_)
                  clear hK
                  try simp only [Act.put, List.setIfInBounds_toArray, List.set_cons_zero, List.set_cons_succ]
                  refine wpAnyH_done (by kernel_rfl) ?_ _
                  refine NoPanic.normal ?_
                  go_wp2_with fail
                  go_meet
                  case rel => exact ⟨rfl, g7_11, g8_16, q1, q2, v1, l1, u2, r2, rfl, rfl, h19_.out, y7_19.out, y8_19.out, gl7.out.1, gl7.out.2⟩
              · refine step_allocP (by rfl) rfl ?_
                intro g8_20 v20' hg z bl
                have h20_ := Lib.hid (h1_.out.below bl)
                have x8_20 : Hid (BX w0 v20' (S1 qb v1 l1 xb u r q1) g8_20) := Lib.hid (BX.new z hg h1_.out.ch.size (fun k hk => h1_.out.in_ hk))
                clear hg z bl
                show K (Act.put _ (some 12) _) _
                refine hK.out _ _ (HSR.out _ h20_.out.ch) (fun _ => ?_)
                clear hK
                try simp only [Act.put, List.setIfInBounds_toArray, List.set_cons_zero, List.set_cons_succ]
                refine wpAnyH_ready (rs := [6, 7]) (by kernel_rfl) (by simp) ?_
                refine AllReadyH.cons rfl (fun K hK => ?_) (AllReadyH.cons rfl (fun K hK => ?_) AllReadyH.nil)
                · go_simp
                  refine (HPX.out _ h20_.out.x).mono ?_
                  rintro e v21' ⟨q2, u2, r2, rfl, hk2, ho2, T2, old2, ch2⟩
                  obtain ⟨hb, hx⟩ := push_two HB9.out h20_.out hk2 ho2 T2 old2 ch2
                  have h21_ := Lib.hid hb
                  have x8_21 := Lib.hid (hx _ x8_20.out)
                  clear hk2 ho2 T2 old2 ch2 hb hx
                  dsimp only
                  refine hK.out _ _ (HSR.out _ h21_.out.ch) (fun _ => ?_)
                  clear hK
                  try simp only [Act.put, List.setIfInBounds_toArray, List.set_cons_zero, List.set_cons_succ]
                  refine wpAnyH_ready (rs := [7]) (by kernel_rfl) (by simp) ?_
                  refine AllReadyH.cons rfl (fun K hK => ?_) AllReadyH.nil
                  refine step_allocP (by rfl) rfl ?_
                  intro g7_22 v22' hg z bl
                  have h22_ := Lib.hid (h21_.out.below bl)
                  have ne22 := Lib.hid (x8_21.out.ne hg)
                  have x8_22 := Lib.hid (x8_21.out.below bl)
                  have x7_22 : Hid (BX w0 v22' (S2 qb v1 l1 xb u2 r2 q1 q2) g7_22) := Lib.hid (BX.new z hg h21_.out.ch.size (fun k hk => h21_.out.in_ hk))
                  clear hg z bl
                  show K (Act.put _ (some 11) _) _
                  refine hK.out _ _ (HSR.out _ h22_.out.ch) (fun _ => ?_)
                  clear hK
                  try simp only [Act.put, List.setIfInBounds_toArray, List.set_cons_zero, List.set_cons_succ]
                  refine wpAnyH_ready (rs := [9]) (by kernel_rfl) (by simp) ?_
                  refine AllReadyH.cons rfl (fun K hK => ?_) AllReadyH.nil
                  refine step_storeP (by rfl) (.tmp 11) (.tmp 54) rfl g7_22 q1 rfl rfl x7_22.out.own ?_
                  intro v23' z gr
                  have h23_ := Lib.hid (h22_.out.fill x7_22.out.ap x7_22.out.lo hW0 gr)
                  have y7_23 := Lib.hid z
                  have gl7 : Hid (w0.heap.size ≤ g7_22 ∧ ¬ S2 qb v1 l1 xb u2 r2 q1 q2 g7_22) := Lib.hid ⟨x7_22.out.lo, x7_22.out.ap⟩
                  have x8_23 := Lib.hid (x8_22.out.far gr ne22.out)
                  clear z gr
                  show K (Act.put _ none _) _
                  refine hK.out _ _ (HSR.out _ h23_.out.ch) (fun _ => ?_)
                  clear hK
                  try simp only [Act.put, List.setIfInBounds_toArray, List.set_cons_zero, List.set_cons_succ]
                  refine wpAnyH_ready (rs := [10]) (by kernel_rfl) (by simp) ?_
                  refine AllReadyH.cons rfl (fun K hK => ?_) AllReadyH.nil
                  refine step_storeP (by rfl) (.tmp 12) (.tmp 58) rfl g8_20 q2 rfl rfl x8_23.out.own ?_
                  intro v24' z gr
                  have h24_ := Lib.hid (h23_.out.fill x8_23.out.ap x8_23.out.lo hW0 gr)
                  have y8_24 := Lib.hid z
                  have y7_24 := Lib.hid (y7_23.out.far gr (fun e => (Ne.symm ne22.out) (Option.some.inj e)))
                  clear z gr
                  show K (Act.put _ none _) _
                  refine hK.out _ _ (HSR.out _ h24_.out.ch) (fun _ => ?_)
                  clear hK
                  try simp only [Act.put, List.setIfInBounds_toArray, List.set_cons_zero, List.set_cons_succ]
                  refine wpAnyH_done (by kernel_rfl) ?_ _
                  refine NoPanic.normal ?_
                  go_wp2_with fail
                  go_meet
                  case rel => exact ⟨rfl, g7_22, g8_20, q1, q2, v1, l1, u2, r2, rfl, rfl, h24_.out, y7_24.out, y8_24.out, gl7.out.1, gl7.out.2⟩
                · refine step_allocP (by rfl) rfl ?_
                  intro g7_25 v25' hg z bl
                  have h25_ := Lib.hid (h20_.out.below bl)
                  have ne25 := Lib.hid (x8_20.out.ne hg)
                  have x8_25 := Lib.hid (x8_20.out.below bl)
                  have x7_25 : Hid (BX w0 v25' (S1 qb v1 l1 xb u r q1) g7_25) := Lib.hid (BX.new z hg h20_.out.ch.size (fun k hk => h20_.out.in_ hk))
                  clear hg z bl
                  show K (Act.put _ (some 11) _) _
                  refine hK.out _ _ (HSR.out _ h25_.out.ch) (fun _ => ?_)
                  clear hK
                  try simp only [Act.put, List.setIfInBounds_toArray, List.set_cons_zero, List.set_cons_succ]
                  refine wpAnyH_ready (rs := [6]) (by kernel_rfl) (by simp) ?_
                  refine AllReadyH.cons rfl (fun K hK => ?_) AllReadyH.nil
                  go_simp
                  refine (HPX.out _ h25_.out.x).mono ?_
                  rintro e v26' ⟨q2, u2, r2, rfl, hk2, ho2, T2, old2, ch2⟩
                  obtain ⟨hb, hx⟩ := push_two HB9.out h25_.out hk2 ho2 T2 old2 ch2
                  have h26_ := Lib.hid hb
                  have x8_26 := Lib.hid (hx _ x8_25.out)
                  have x7_26 := Lib.hid (hx _ x7_25.out)
                  clear hk2 ho2 T2 old2 ch2 hb hx
                  dsimp only
                  refine hK.out _ _ (HSR.out _ h26_.out.ch) (fun _ => ?_)
                  clear hK
                  try simp only [Act.put, List.setIfInBounds_toArray, List.set_cons_zero, List.set_cons_succ]
                  refine wpAnyH_ready (rs := [9]) (by kernel_rfl) (by simp) ?_
                  refine AllReadyH.cons rfl (fun K hK => ?_) AllReadyH.nil
                  refine step_storeP (by rfl) (.tmp 11) (.tmp 54) rfl g7_25 q1 rfl rfl x7_26.out.own ?_
                  intro v27' z gr
                  have h27_ := Lib.hid (h26_.out.fill x7_26.out.ap x7_26.out.lo hW0 gr)
                  have y7_27 := Lib.hid z
                  have gl7 : Hid (w0.heap.size ≤ g7_25 ∧ ¬ S2 qb v1 l1 xb u2 r2 q1 q2 g7_25) := Lib.hid ⟨x7_26.out.lo, x7_26.out.ap⟩
                  have x8_27 := Lib.hid (x8_26.out.far gr ne25.out)
                  clear z gr
                  show K (Act.put _ none _) _
                  refine hK.out _ _ (HSR.out _ h27_.out.ch) (fun _ => ?_)
                  clear hK
                  try simp only [Act.put, List.setIfInBounds_toArray, List.set_cons_zero, List.set_cons_succ]
                  refine wpAnyH_ready (rs := [10]) (by kernel_rfl) (by simp) ?_
                  refine AllReadyH.cons rfl (fun K hK => ?_) AllReadyH.nil
                  refine step_storeP (by rfl) (.tmp 12) (.tmp 58) rfl g8_20 q2 rfl rfl x8_27.out.own ?_
                  intro v28' z gr
                  have h28_ := Lib.hid (h27_.out.fill x8_27.out.ap x8_27.out.lo hW0 gr)
                  have y8_28 := Lib.hid z
                  have y7_28 := Lib.hid (y7_27.out.far gr (fun e => (Ne.symm ne25.out) (Option.some.inj e)))
                  clear z gr
                  show K (Act.put _ none _) _
                  refine hK.out _ _ (HSR.out _ h28_.out.ch) (fun _ => ?_)
                  clear hK
                  try simp only [Act.put, List.setIfInBounds_toArray, List.set_cons_zero, List.set_cons_succ]
                  refine wpAnyH_done (by kernel_rfl) ?_ _
                  refine NoPanic.normal ?_
                  go_wp2_with fail
                  go_meet
                  case rel => exact ⟨rfl, g7_25, g8_20, q1, q2, v1, l1, u2, r2, rfl, rfl, h28_.out, y7_28.out, y8_28.out, gl7.out.1, gl7.out.2⟩
            · refine step_allocP (by rfl) rfl ?_
              intro g7_29 v29' hg z bl
              have h29_ := Lib.hid (a0.out.trans (bl.mono a0.out.size))
              have x7_29 : Hid (BX w0 v29' (S0 qb v l xb u r) g7_29) := Lib.hid (BX.new z hg a0.out.size (fun k hk => Nat.lt_of_lt_of_le (HB9.out.in_ hk).2 a0.out.size))
              clear hg z bl
              show K (Act.put _ (some 11) _) _
              refine hK.out _ _ (HSR.out _ (Ch.of_below _ h29_.out)) (fun _ => ?_)
              clear hK
              try simp only [Act.put, List.setIfInBounds_toArray, List.set_cons_zero, List.set_cons_succ]
              refine wpAnyH_ready (rs := [2, 8]) (by kernel_rfl) (by simp) ?_
              refine AllReadyH.cons rfl (fun K hK => ?_) (AllReadyH.cons rfl (fun K hK => ?_) AllReadyH.nil)
              · go_simp
                refine (HPU.out _ h29_.out).mono ?_
                rintro e v30' ⟨q1, v1, l1, m1, rfl, hk1, ho1, hm1, T1, lt1, old1, ch1⟩
                obtain ⟨hb, hx⟩ := push_one HB9.out h29_.out hk1 ho1 hm1 T1 lt1 old1 ch1
                have h30_ := Lib.hid hb
                have x7_30 := Lib.hid (hx _ x7_29.out)
                clear hk1 ho1 hm1 T1 lt1 old1 ch1 hb hx
                dsimp only
                refine hK.out _ _ (HSR.out _ h30_.out.ch) (fun _ => ?_)
                clear hK
                try simp only [Act.put, List.setIfInBounds_toArray, List.set_cons_zero, List.set_cons_succ]
                refine wpAnyH_ready (rs := [6, 8]) (by kernel_rfl) (by simp) ?_
                refine AllReadyH.cons rfl (fun K hK => ?_) (AllReadyH.cons rfl (fun K hK => ?_) AllReadyH.nil)
                · go_simp
                  refine (HPX.out _ h30_.out.x).mono ?_
                  rintro e v31' ⟨q2, u2, r2, rfl, hk2, ho2, T2, old2, ch2⟩
                  obtain ⟨hb, hx⟩ := push_two HB9.out h30_.out hk2 ho2 T2 old2 ch2
                  have h31_ := Lib.hid hb
                  have x7_31 := Lib.hid (hx _ x7_30.out)
                  clear hk2 ho2 T2 old2 ch2 hb hx
                  dsimp only
                  refine hK.out _ _ (HSR.out _ h31_.out.ch) (fun _ => ?_)
                  clear hK
                  try simp only [Act.put, List.setIfInBounds_toArray, List.set_cons_zero, List.set_cons_succ]
                  refine wpAnyH_ready (rs := [8]) (by kernel_rfl) (by simp) ?_
                  refine AllReadyH.cons rfl (fun K hK => ?_) AllReadyH.nil
                  refine step_allocP (by rfl) rfl ?_
                  intro g8_32 v32' hg z bl
                  have h32_ := Lib.hid (h31_.out.below bl)
                  have ne32 := Lib.hid (x7_31.out.ne hg)
                  have x7_32 := Lib.hid (x7_31.out.below bl)
                  have x8_32 : Hid (BX w0 v32' (S2 qb v1 l1 xb u2 r2 q1 q2) g8_32) := Lib.hid (BX.new z hg h31_.out.ch.size (fun k hk => h31_.out.in_ hk))
                  clear hg z bl
                  show K (Act.put _ (some 12) _) _
                  refine hK.out _ _ (HSR.out _ h32_.out.ch) (fun _ => ?_)
                  clear hK
                  try simp only [Act.put, List.setIfInBounds_toArray, List.set_cons_zero, List.set_cons_succ]
                  refine wpAnyH_ready (rs := [9]) (by kernel_rfl) (by simp) ?_
                  refine AllReadyH.cons rfl (fun K hK => ?_) AllReadyH.nil
                  refine step_storeP (by rfl) (.tmp 11) (.tmp 54) rfl g7_29 q1 rfl rfl x7_32.out.own ?_
                  intro v33' z gr
                  have h33_ := Lib.hid (h32_.out.fill x7_32.out.ap x7_32.out.lo hW0 gr)
                  have y7_33 := Lib.hid z
                  have gl7 : Hid (w0.heap.size ≤ g7_29 ∧ ¬ S2 qb v1 l1 xb u2 r2 q1 q2 g7_29) := Lib.hid ⟨x7_32.out.lo, x7_32.out.ap⟩
                  have x8_33 := Lib.hid (x8_32.out.far gr (Ne.symm ne32.out))
                  clear z gr
                  show K (Act.put _ none _) _
                  refine hK.out _ _ (HSR.out _ h33_.out.ch) (fun _ => ?_)
                  clear hK
                  try simp only [Act.put, List.setIfInBounds_toArray, List.set_cons_zero, List.set_cons_succ]
                  refine wpAnyH_ready (rs := [10]) (by kernel_rfl) (by simp) ?_
                  refine AllReadyH.cons rfl (fun K hK => ?_) AllReadyH.nil
                  refine step_storeP (by rfl) (.tmp 12) (.tmp 58) rfl g8_32 q2 rfl rfl x8_33.out.own ?_
                  intro v34' z gr
                  have h34_ := Lib.hid (h33_.out.fill x8_33.out.ap x8_33.out.lo hW0 gr)
                  have y8_34 := Lib.hid z
                  have y7_34 := Lib.hid (y7_33.out.far gr (fun e => ne32.out (Option.some.inj e)))
                  clear z gr
                  show K (Act.put _ none _) _
                  refine hK.out _ _ (HSR.out _ h34_.out.ch) (fun _ => ?_)
                  clear hK
                  try simp only [Act.put, List.setIfInBounds_toArray, List.set_cons_zero, List.set_cons_succ]
                  refine wpAnyH_done (by kernel_rfl) ?_ _
                  refine NoPanic.normal ?_
                  go_wp2_with fail
                  go_meet
                  case rel => exact ⟨rfl, g7_29, g8_32, q1, q2, v1, l1, u2, r2, rfl, rfl, h34_.out, y7_34.out, y8_34.out, gl7.out.1, gl7.out.2⟩
                · refine step_allocP (by rfl) rfl ?_
                  intro g8_35 v35' hg z bl
                  have h35_ := Lib.hid (h30_.out.below bl)
                  have ne35 := Lib.hid (x7_30.out.ne hg)
                  have x7_35 := Lib.hid (x7_30.out.below bl)
                  have x8_35 : Hid (BX w0 v35' (S1 qb v1 l1 xb u r q1) g8_35) := Lib.hid (BX.new z hg h30_.out.ch.size (fun k hk => h30_.out.in_ hk))
                  clear hg z bl
                  show K (Act.put _ (some 12) _) _
                  refine hK.out _ _ (HSR.out _ h35_.out.ch) (fun _ => ?_)
                  clear hK
                  try simp only [Act.put, List.setIfInBounds_toArray, List.set_cons_zero, List.set_cons_succ]
                  refine wpAnyH_ready (rs := [6]) (by kernel_rfl) (by simp) ?_
                  refine AllReadyH.cons rfl (fun K hK => ?_) AllReadyH.nil
                  go_simp
                  refine (HPX.out _ h35_.out.x).mono ?_
                  rintro e v36' ⟨q2, u2, r2, rfl, hk2, ho2, T2, old2, ch2⟩
                  obtain ⟨hb, hx⟩ := push_two HB9.out h35_.out hk2 ho2 T2 old2 ch2
                  have h36_ := Lib.hid hb
                  have x7_36 := Lib.hid (hx _ x7_35.out)
                  have x8_36 := Lib.hid (hx _ x8_35.out)
                  clear hk2 ho2 T2 old2 ch2 hb hx
                  dsimp only
                  refine hK.out _ _ (HSR.out _ h36_.out.ch) (fun _ => ?_)
                  clear hK
                  try simp only [Act.put, List.setIfInBounds_toArray, List.set_cons_zero, List.set_cons_succ]
                  refine wpAnyH_ready (rs := [9]) (by kernel_rfl) (by simp) ?_
                  refine AllReadyH.cons rfl (fun K hK => ?_) AllReadyH.nil
                  refine step_storeP (by rfl) (.tmp 11) (.tmp 54) rfl g7_29 q1 rfl rfl x7_36.out.own ?_
                  intro v37' z gr
                  have h37_ := Lib.hid (h36_.out.fill x7_36.out.ap x7_36.out.lo hW0 gr)
                  have y7_37 := Lib.hid z
                  have gl7 : Hid (w0.heap.size ≤ g7_29 ∧ ¬ S2 qb v1 l1 xb u2 r2 q1 q2 g7_29) := Lib.hid ⟨x7_36.out.lo, x7_36.out.ap⟩
                  have x8_37 := Lib.hid (x8_36.out.far gr (Ne.symm ne35.out))
                  clear z gr
                  show K (Act.put _ none _) _
                  refine hK.out _ _ (HSR.out _ h37_.out.ch) (fun _ => ?_)
                  clear hK
                  try simp only [Act.put, List.setIfInBounds_toArray, List.set_cons_zero, List.set_cons_succ]
                  refine wpAnyH_ready (rs := [10]) (by kernel_rfl) (by simp) ?_
                  refine AllReadyH.cons rfl (fun K hK => ?_) AllReadyH.nil
                  refine step_storeP (by rfl) (.tmp 12) (.tmp 58) rfl g8_35 q2 rfl rfl x8_37.out.own ?_
                  intro v38' z gr
                  have h38_ := Lib.hid (h37_.out.fill x8_37.out.ap x8_37.out.lo hW0 gr)
                  have y8_38 := Lib.hid z
                  have y7_38 := Lib.hid (y7_37.out.far gr (fun e => ne35.out (Option.some.inj e)))
                  clear z gr
                  show K (Act.put _ none _) _
                  refine hK.out _ _ (HSR.out _ h38_.out.ch) (fun _ => ?_)
                  clear hK
                  try simp only [Act.put, List.setIfInBounds_toArray, List.set_cons_zero, List.set_cons_succ]
                  refine wpAnyH_done (by kernel_rfl) ?_ _
                  refine NoPanic.normal ?_
                  go_wp2_with fail
                  go_meet
                  case rel => exact ⟨rfl, g7_29, g8_35, q1, q2, v1, l1, u2, r2, rfl, rfl, h38_.out, y7_38.out, y8_38.out, gl7.out.1, gl7.out.2⟩
              · refine step_allocP (by rfl) rfl ?_
                intro g8_39 v39' hg z bl
                have h39_ := Lib.hid (h29_.out.trans (bl.mono h29_.out.size))
                have ne39 := Lib.hid (x7_29.out.ne hg)
                have x7_39 := Lib.hid (x7_29.out.below bl)
                have x8_39 : Hid (BX w0 v39' (S0 qb v l xb u r) g8_39) := Lib.hid (BX.new z hg h29_.out.size (fun k hk => Nat.lt_of_lt_of_le (HB9.out.in_ hk).2 h29_.out.size))
                clear hg z bl
                show K (Act.put _ (some 12) _) _
                refine hK.out _ _ (HSR.out _ (Ch.of_below _ h39_.out)) (fun _ => ?_)
                clear hK
                try simp only [Act.put, List.setIfInBounds_toArray, List.set_cons_zero, List.set_cons_succ]
                refine wpAnyH_ready (rs := [2]) (by kernel_rfl) (by simp) ?_
                refine AllReadyH.cons rfl (fun K hK => ?_) AllReadyH.nil
                go_simp
                refine (HPU.out _ h39_.out).mono ?_
                rintro e v40' ⟨q1, v1, l1, m1, rfl, hk1, ho1, hm1, T1, lt1, old1, ch1⟩
                obtain ⟨hb, hx⟩ := push_one HB9.out h39_.out hk1 ho1 hm1 T1 lt1 old1 ch1
                have h40_ := Lib.hid hb
                have x7_40 := Lib.hid (hx _ x7_39.out)
                have x8_40 := Lib.hid (hx _ x8_39.out)
                clear hk1 ho1 hm1 T1 lt1 old1 ch1 hb hx
                dsimp only
                refine hK.out _ _ (HSR.out _ h40_.out.ch) (fun _ => ?_)
                clear hK
                try simp only [Act.put, List.setIfInBounds_toArray, List.set_cons_zero, List.set_cons_succ]
                refine wpAnyH_ready (rs := [6]) (by kernel_rfl) (by simp) ?_
                refine AllReadyH.cons rfl (fun K hK => ?_) AllReadyH.nil
                go_simp
                refine (HPX.out _ h40_.out.x).mono ?_
                rintro e v41' ⟨q2, u2, r2, rfl, hk2, ho2, T2, old2, ch2⟩
                obtain ⟨hb, hx⟩ := push_two HB9.out h40_.out hk2 ho2 T2 old2 ch2
                have h41_ := Lib.hid hb
                have x7_41 := Lib.hid (hx _ x7_40.out)
                have x8_41 := Lib.hid (hx _ x8_40.out)
                clear hk2 ho2 T2 old2 ch2 hb hx
                dsimp only
                refine hK.out _ _ (HSR.out _ h41_.out.ch) (fun _ => ?_)
                clear hK
                try simp only [Act.put, List.setIfInBounds_toArray, List.set_cons_zero, List.set_cons_succ]
                refine wpAnyH_ready (rs := [9]) (by kernel_rfl) (by simp) ?_
                refine AllReadyH.cons rfl (fun K hK => ?_) AllReadyH.nil
                refine step_storeP (by rfl) (.tmp 11) (.tmp 54) rfl g7_29 q1 rfl rfl x7_41.out.own ?_
                intro v42' z gr
                have h42_ := Lib.hid (h41_.out.fill x7_41.out.ap x7_41.out.lo hW0 gr)
                have y7_42 := Lib.hid z
                have gl7 : Hid (w0.heap.size ≤ g7_29 ∧ ¬ S2 qb v1 l1 xb u2 r2 q1 q2 g7_29) := Lib.hid ⟨x7_41.out.lo, x7_41.out.ap⟩
                have x8_42 := Lib.hid (x8_41.out.far gr (Ne.symm ne39.out))
                clear z gr
                show K (Act.put _ none _) _
                refine hK.out _ _ (HSR.out _ h42_.out.ch) (fun _ => ?_)
                clear hK
                try simp only [Act.put, List.setIfInBounds_toArray, List.set_cons_zero, List.set_cons_succ]
                refine wpAnyH_ready (rs := [10]) (by kernel_rfl) (by simp) ?_
                refine AllReadyH.cons rfl (fun K hK => ?_) AllReadyH.nil
                refine step_storeP (by rfl) (.tmp 12) (.tmp 58) rfl g8_39 q2 rfl rfl x8_42.out.own ?_
                intro v43' z gr
                have h43_ := Lib.hid (h42_.out.fill x8_42.out.ap x8_42.out.lo hW0 gr)
                have y8_43 := Lib.hid z
                have y7_43 := Lib.hid (y7_42.out.far gr (fun e => ne39.out (Option.some.inj e)))
                clear z gr
                show K (Act.put _ none _) _
                refine hK.out _ _ (HSR.out _ h43_.out.ch) (fun _ => ?_)
                clear hK
                try simp only [Act.put, List.setIfInBounds_toArray, List.set_cons_zero, List.set_cons_succ]
                refine wpAnyH_done (by kernel_rfl) ?_ _
                refine NoPanic.normal ?_
                go_wp2_with fail
                go_meet
                case rel => exact ⟨rfl, g7_29, g8_39, q1, q2, v1, l1, u2, r2, rfl, rfl, h43_.out, y7_43.out, y8_43.out, gl7.out.1, gl7.out.2⟩
            · refine step_allocP (by rfl) rfl ?_
              intro g8_44 v44' hg z bl
              have h44_ := Lib.hid (a0.out.trans (bl.mono a0.out.size))
              have x8_44 : Hid (BX w0 v44' (S0 qb v l xb u r) g8_44) := Lib.hid (BX.new z hg a0.out.size (fun k hk => Nat.lt_of_lt_of_le (HB9.out.in_ hk).2 a0.out.size))
              clear hg z bl
              show K (Act.put _ (some 12) _) _
              refine hK.out _ _ (HSR.out _ (Ch.of_below _ h44_.out)) (fun _ => ?_)
              clear hK
              try simp only [Act.put, List.setIfInBounds_toArray, List.set_cons_zero, List.set_cons_succ]
              refine wpAnyH_ready (rs := [2, 7]) (by kernel_rfl) (by simp) ?_
              refine AllReadyH.cons rfl (fun K hK => ?_) (AllReadyH.cons rfl (fun K hK => ?_) AllReadyH.nil)
              · go_simp
                refine (HPU.out _ h44_.out).mono ?_
                rintro e v45' ⟨q1, v1, l1, m1, rfl, hk1, ho1, hm1, T1, lt1, old1, ch1⟩
                obtain ⟨hb, hx⟩ := push_one HB9.out h44_.out hk1 ho1 hm1 T1 lt1 old1 ch1
                have h45_ := Lib.hid hb
                have x8_45 := Lib.hid (hx _ x8_44.out)
                clear hk1 ho1 hm1 T1 lt1 old1 ch1 hb hx
                dsimp only
                refine hK.out _ _ (HSR.out _ h45_.out.ch) (fun _ => ?_)
                clear hK
                try simp only [Act.put, List.setIfInBounds_toArray, List.set_cons_zero, List.set_cons_succ]
                refine wpAnyH_ready (rs := [6, 7]) (by kernel_rfl) (by simp) ?_
                refine AllReadyH.cons rfl (fun K hK => ?_) (AllReadyH.cons rfl (fun K hK => ?_) AllReadyH.nil)
                · go_simp
                  refine (HPX.out _ h45_.out.x).mono ?_
                  rintro e v46' ⟨q2, u2, r2, rfl, hk2, ho2, T2, old2, ch2⟩
                  obtain ⟨hb, hx⟩ := push_two HB9.out h45_.out hk2 ho2 T2 old2 ch2
                  have h46_ := Lib.hid hb
                  have x8_46 := Lib.hid (hx _ x8_45.out)
                  clear hk2 ho2 T2 old2 ch2 hb hx
                  dsimp only
                  refine hK.out _ _ (HSR.out _ h46_.out.ch) (fun _ => ?_)
                  clear hK
                  try simp only [Act.put, List.setIfInBounds_toArray, List.set_cons_zero, List.set_cons_succ]
                  refine wpAnyH_ready (rs := [7]) (by kernel_rfl) (by simp) ?_
                  refine AllReadyH.cons rfl (fun K hK => ?_) AllReadyH.nil
                  refine step_allocP (by rfl) rfl ?_
                  intro g7_47 v47' hg z bl
                  have h47_ := Lib.hid (h46_.out.below bl)
                  have ne47 := Lib.hid (x8_46.out.ne hg)
                  have x8_47 := Lib.hid (x8_46.out.below bl)
                  have x7_47 : Hid (BX w0 v47' (S2 qb v1 l1 xb u2 r2 q1 q2) g7_47) := Lib.hid (BX.new z hg h46_.out.ch.size (fun k hk => h46_.out.in_ hk))
                  clear hg z bl
                  show K (Act.put _ (some 11) _) _
                  refine hK.out _ _ (HSR.out _ h47_.out.ch) (fun _ => ?_)
                  clear hK
                  try simp only [Act.put, List.setIfInBounds_toArray, List.set_cons_zero, List.set_cons_succ]
                  refine wpAnyH_ready (rs := [9]) (by kernel_rfl) (by simp) ?_
                  refine AllReadyH.cons rfl (fun K hK => ?_) AllReadyH.nil
                  refine step_storeP (by rfl) (.tmp 11) (.tmp 54) rfl g7_47 q1 rfl rfl x7_47.out.own ?_
                  intro v48' z gr
                  have h48_ := Lib.hid (h47_.out.fill x7_47.out.ap x7_47.out.lo hW0 gr)
                  have y7_48 := Lib.hid z
                  have gl7 : Hid (w0.heap.size ≤ g7_47 ∧ ¬ S2 qb v1 l1 xb u2 r2 q1 q2 g7_47) := Lib.hid ⟨x7_47.out.lo, x7_47.out.ap⟩
                  have x8_48 := Lib.hid (x8_47.out.far gr ne47.out)
                  clear z gr
                  show K (Act.put _ none _) _
                  refine hK.out _ _ (HSR.out _ h48_.out.ch) (fun _ => ?_)
                  clear hK
                  try simp only [Act.put, List.setIfInBounds_toArray, List.set_cons_zero, List.set_cons_succ]
                  refine wpAnyH_ready (rs := [10]) (by kernel_rfl) (by simp) ?_
                  refine AllReadyH.cons rfl (fun K hK => ?_) AllReadyH.nil
                  refine step_storeP (by rfl) (.tmp 12) (.tmp 58) rfl g8_44 q2 rfl rfl x8_48.out.own ?_
                  intro v49' z gr
                  have h49_ := Lib.hid (h48_.out.fill x8_48.out.ap x8_48.out.lo hW0 gr)
                  have y8_49 := Lib.hid z
                  have y7_49 := Lib.hid (y7_48.out.far gr (fun e => (Ne.symm ne47.out) (Option.some.inj e)))
                  clear z gr
                  show K (Act.put _ none _) _
                  refine hK.out _ _ (HSR.out _ h49_.out.ch) (fun _ => ?_)
                  clear hK
                  try simp only [Act.put, List.setIfInBounds_toArray, List.set_cons_zero, List.set_cons_succ]
                  refine wpAnyH_done (by kernel_rfl) ?_ _
                  refine NoPanic.normal ?_
                  go_wp2_with fail
                  go_meet
                  case rel => exact ⟨rfl, g7_47, g8_44, q1, q2, v1, l1, u2, r2, rfl, rfl, h49_.out, y7_49.out, y8_49.out, gl7.out.1, gl7.out.2⟩
                · refine step_allocP (by rfl) rfl ?_
                  intro g7_50 v50' hg z bl
                  have h50_ := Lib.hid (h45_.out.below bl)
                  have ne50 := Lib.hid (x8_45.out.ne hg)
                  have x8_50 := Lib.hid (x8_45.out.below bl)
                  have x7_50 : Hid (BX w0 v50' (S1 qb v1 l1 xb u r q1) g7_50) := Lib.hid (BX.new z hg h45_.out.ch.size (fun k hk => h45_.out.in_ hk))
                  clear hg z bl
                  show K (Act.put _ (some 11) _) _
                  refine hK.out _ _ (HSR.out _ h50_.out.ch) (fun _ => ?_)
                  clear hK
                  try simp only [Act.put, List.setIfInBounds_toArray, List.set_cons_zero, List.set_cons_succ]
                  refine wpAnyH_ready (rs := [6]) (by kernel_rfl) (by simp) ?_
                  refine AllReadyH.cons rfl (fun K hK => ?_) AllReadyH.nil
                  go_simp
                  refine (HPX.out _ h50_.out.x).mono ?_
                  rintro e v51' ⟨q2, u2, r2, rfl, hk2, ho2, T2, old2, ch2⟩
                  obtain ⟨hb, hx⟩ := push_two HB9.out h50_.out hk2 ho2 T2 old2 ch2
                  have h51_ := Lib.hid hb
                  have x8_51 := Lib.hid (hx _ x8_50.out)
                  have x7_51 := Lib.hid (hx _ x7_50.out)
                  clear hk2 ho2 T2 old2 ch2 hb hx
                  dsimp only
                  refine hK.out _ _ (HSR.out _ h51_.out.ch) (fun _ => ?_)
                  clear hK
                  try simp only [Act.put, List.setIfInBounds_toArray, List.set_cons_zero, List.set_cons_succ]
                  refine wpAnyH_ready (rs := [9]) (by kernel_rfl) (by simp) ?_
                  refine AllReadyH.cons rfl (fun K hK => ?_) AllReadyH.nil
                  refine step_storeP (by rfl) (.tmp 11) (.tmp 54) rfl g7_50 q1 rfl rfl x7_51.out.own ?_
                  intro v52' z gr
                  have h52_ := Lib.hid (h51_.out.fill x7_51.out.ap x7_51.out.lo hW0 gr)
                  have y7_52 := Lib.hid z
                  have gl7 : Hid (w0.heap.size ≤ g7_50 ∧ ¬ S2 qb v1 l1 xb u2 r2 q1 q2 g7_50) := Lib.hid ⟨x7_51.out.lo, x7_51.out.ap⟩
                  have x8_52 := Lib.hid (x8_51.out.far gr ne50.out)
                  clear z gr
                  show K (Act.put _ none _) _
                  refine hK.out _ _ (HSR.out _ h52_.out.ch) (fun _ => ?_)
                  clear hK
                  try simp only [Act.put, List.setIfInBounds_toArray, List.set_cons_zero, List.set_cons_succ]
                  refine wpAnyH_ready (rs := [10]) (by kernel_rfl) (by simp) ?_
                  refine AllReadyH.cons rfl (fun K hK => ?_) AllReadyH.nil
                  refine step_storeP (by rfl) (.tmp 12) (.tmp 58) rfl g8_44 q2 rfl rfl x8_52.out.own ?_
                  intro v53' z gr
                  have h53_ := Lib.hid (h52_.out.fill x8_52.out.ap x8_52.out.lo hW0 gr)
                  have y8_53 := Lib.hid z
                  have y7_53 := Lib.hid (y7_52.out.far gr (fun e => (Ne.symm ne50.out) (Option.some.inj e)))
                  clear z gr
                  show K (Act.put _ none _) _
                  refine hK.out _ _ (HSR.out _ h53_.out.ch) (fun _ => ?_)
                  clear hK
                  try simp only [Act.put, List.setIfInBounds_toArray, List.set_cons_zero, List.set_cons_succ]
                  refine wpAnyH_done (by kernel_rfl) ?_ _
                  refine NoPanic.normal ?_
                  go_wp2_with fail
                  go_meet
                  case rel => exact ⟨rfl, g7_50, g8_44, q1, q2, v1, l1, u2, r2, rfl, rfl, h53_.out, y7_53.out, y8_53.out, gl7.out.1, gl7.out.2⟩
              · refine step_allocP (by rfl) rfl ?_
                intro g7_54 v54' hg z bl
                have h54_ := Lib.hid (h44_.out.trans (bl.mono h44_.out.size))
                have ne54 := Lib.hid (x8_44.out.ne hg)
                have x8_54 := Lib.hid (x8_44.out.below bl)
                have x7_54 : Hid (BX w0 v54' (S0 qb v l xb u r) g7_54) := Lib.hid (BX.new z hg h44_.out.size (fun k hk => Nat.lt_of_lt_of_le (HB9.out.in_ hk).2 h44_.out.size))
                clear hg z bl
                show K (Act.put _ (some 11) _) _
                refine hK.out _ _ (HSR.out _ (Ch.of_below _ h54_.out)) (fun _ => ?_)
                clear hK
                try simp only [Act.put, List.setIfInBounds_toArray, List.set_cons_zero, List.set_cons_succ]
                refine wpAnyH_ready (rs := [2]) (by kernel_rfl) (by simp) ?_
                refine AllReadyH.cons rfl (fun K hK => ?_) AllReadyH.nil
                go_simp
                refine (HPU.out _ h54_.out).mono ?_
                rintro e v55' ⟨q1, v1, l1, m1, rfl, hk1, ho1, hm1, T1, lt1, old1, ch1⟩
                obtain ⟨hb, hx⟩ := push_one HB9.out h54_.out hk1 ho1 hm1 T1 lt1 old1 ch1
                have h55_ := Lib.hid hb
                have x8_55 := Lib.hid (hx _ x8_54.out)
                have x7_55 := Lib.hid (hx _ x7_54.out)
                clear hk1 ho1 hm1 T1 lt1 old1 ch1 hb hx
                dsimp only
                refine hK.out _ _ (HSR.out _ h55_.out.ch) (fun _ => ?_)
                clear hK
                try simp only [Act.put, List.setIfInBounds_toArray, List.set_cons_zero, List.set_cons_succ]
                refine wpAnyH_ready (rs := [6]) (by kernel_rfl) (by simp) ?_
                refine AllReadyH.cons rfl (fun K hK => ?_) AllReadyH.nil
                go_simp
                refine (HPX.out _ h55_.out.x).mono ?_
                rintro e v56' ⟨q2, u2, r2, rfl, hk2, ho2, T2, old2, ch2⟩
                obtain ⟨hb, hx⟩ := push_two HB9.out h55_.out hk2 ho2 T2 old2 ch2
                have h56_ := Lib.hid hb
                have x8_56 := Lib.hid (hx _ x8_55.out)
                have x7_56 := Lib.hid (hx _ x7_55.out)
                clear hk2 ho2 T2 old2 ch2 hb hx
                dsimp only
                refine hK.out _ _ (HSR.out _ h56_.out.ch) (fun _ => ?_)
                clear hK
                try simp only [Act.put, List.setIfInBounds_toArray, List.set_cons_zero, List.set_cons_succ]
                refine wpAnyH_ready (rs := [9]) (by kernel_rfl) (by simp) ?_
                refine AllReadyH.cons rfl (fun K hK => ?_) AllReadyH.nil
                refine step_storeP (by rfl) (.tmp 11) (.tmp 54) rfl g7_54 q1 rfl rfl x7_56.out.own ?_
                intro v57' z gr
                have h57_ := Lib.hid (h56_.out.fill x7_56.out.ap x7_56.out.lo hW0 gr)
                have y7_57 := Lib.hid z
                have gl7 : Hid (w0.heap.size ≤ g7_54 ∧ ¬ S2 qb v1 l1 xb u2 r2 q1 q2 g7_54) := Lib.hid ⟨x7_56.out.lo, x7_56.out.ap⟩
                have x8_57 := Lib.hid (x8_56.out.far gr ne54.out)
                clear z gr
                show K (Act.put _ none _) _
                refine hK.out _ _ (HSR.out _ h57_.out.ch) (fun _ => ?_)
                clear hK
                try simp only [Act.put, List.setIfInBounds_toArray, List.set_cons_zero, List.set_cons_succ]
                refine wpAnyH_ready (rs := [10]) (by kernel_rfl) (by simp) ?_
                refine AllReadyH.cons rfl (fun K hK => ?_) AllReadyH.nil
                refine step_storeP (by rfl) (.tmp 12) (.tmp 58) rfl g8_44 q2 rfl rfl x8_57.out.own ?_
                intro v58' z gr
                have h58_ := Lib.hid (h57_.out.fill x8_57.out.ap x8_57.out.lo hW0 gr)
                have y8_58 := Lib.hid z
                have y7_58 := Lib.hid (y7_57.out.far gr (fun e => (Ne.symm ne54.out) (Option.some.inj e)))
                clear z gr
                show K (Act.put _ none _) _
                refine hK.out _ _ (HSR.out _ h58_.out.ch) (fun _ => ?_)
                clear hK
                try simp only [Act.put, List.setIfInBounds_toArray, List.set_cons_zero, List.set_cons_succ]
                refine wpAnyH_done (by kernel_rfl) ?_ _
                refine NoPanic.normal ?_
                go_wp2_with fail
                go_meet
                case rel => exact ⟨rfl, g7_54, g8_44, q1, q2, v1, l1, u2, r2, rfl, rfl, h58_.out, y7_58.out, y8_58.out, gl7.out.1, gl7.out.2⟩
          case rest =>
            obtain ⟨rfl, gb, wb, q1, q2, v1, l1, u2, r2, rfl, rfl, H2, zg, zw, hgl, hga⟩ := hcut
            have HK12 := Lib.hid (H2.k1.trans H2.k2.symm)
            have HS := Lib.hid (Same13_yes q1 q2 wc H2.o1.pg H2.o2.pg HK12.out)
            have hlp := Lp.start H2 zg hgl hga HO9.out HLO.out HWR.out (by have := HWR.out; omega)
            have HLP := Lib.hid hlp
            have hpl := pushK_len ks (p.key.at en)
            have HPL : Hid ((pushK ks (p.key.at en)).length ≤ j + 1) := Lib.hid (by have := HKL.out; omega)
            have rg := zg.range
            have rw_ := zw.range
            have hq1c := H2.o1.pg.data.cap
            have hq1m := H2.o1.pg.data.max
            have hc6 := HC6.out
            have ho9m : c6 ≤ 9223372036854775807 := by
              rcases HO9.out.2 with ⟨e, _⟩ | ⟨g', cap, cur, e, _, _, _, hm, _⟩
              · injection e with e1 e2 e3
                omega
              · injection e with e1 e2 e3
                unfold maxLen at hm
                omega
            clear H2 hga hgl hpl zg zw hlp HPP HRP HRA
            generalize pushK ks (p.key.at en) = ks2 at *
            generalize on en (p.key.len : Int) = en2 at *
            go_wp2_with (first
              | ((with_reducible refine wpList_here ?_); refine wpList_loadV (o := ⟨some 59, _, _, _, _, _⟩) rfl 33 (.tmp 11) rfl _ _ q1.vals rfl rg _ Try.underlying33 rfl infoPc ?_)
              | ((with_reducible refine wpList_here ?_); refine wpList_loadV (o := ⟨some 60, _, _, _, _, _⟩) rfl 33 (.tmp 12) rfl _ _ q2.vals rfl rw_ _ Try.underlying33 rfl infoPc ?_)
              | fail)
            refine (HS.out).mono ?_
            rintro e w20 ⟨rfl, b20⟩
            have HL20 := Lib.hid (HLP.out.below b20)
            clear HS HLP b20 rg rw_
            generalize hnd : p.dn = n6 at *
            clear hnd
            go_wp2_with fail
            go_loopw [65] (fun ix wz => ∃ q : Nat, q ≤ n6 ∧ ix = .int .i64 (q : Int) ∧ Lp W wz qb v1 l1 xb u2 r2 b ks2 en2 gb q1 A6 n6 c6) (fun ix _ => n6 - (intOf ix).toNat)
            case atStart => exact ⟨0, Nat.zero_le _, rfl, HL20.out⟩
            case round =>
              obtain ⟨q, hq, rfl, hL⟩ := hrel
              have HL := Lib.hid hL
              by_cases hqn : q < n6
              · obtain ⟨g, x, rfl, hz1, hz2, hcx, hx0, hx1, hfx⟩ := hL.own.at_ hqn
                have hwx0 : 0 ≤ IntKind.u8.wrap (x + 1) := by simp [IntKind.wrap, IntKind.bits, IntKind.signed]; omega
                have hwx1 : IntKind.u8.wrap (x + 1) < 256 := by simp [IntKind.wrap, IntKind.bits, IntKind.signed]; omega
                have HSET := Lib.hid (HL.out.set1 (g := g) (j := q) hwx0 hwx1)
                clear hL hwx0 hwx1 HL20
                go_wp2_with fail
                go_roundw
                case rel => exact ⟨q + 1, by omega, by go_num, HSET.out⟩
                case measure => simp [intOf]; omega
              · obtain rfl : q = n6 := by omega
                have k3 : wr.cell? ⟨gb, 3, none⟩ = some (.slice q1.dA q1.dn q1.dc) := (hL.got 3 (by rw [Pc.vals_length]; omega)).1
                clear hL HL20
                generalize hnq : q1.dn = n7 at *
                generalize hcq : q1.dc = c7 at *
                have HNQ := Lib.hid hnq
                have HCQ := Lib.hid hcq
                clear hnq hcq
                go_wp2_with fail
                go_loopw [78] (fun ix wz => ∃ z : Nat, z ≤ n7 ∧ ix = .int .i64 (z : Int) ∧ Lp W wz qb v1 l1 xb u2 r2 b ks2 en2 gb q1 A6 q c6) (fun ix _ => n7 - (intOf ix).toNat)
                case atStart => exact ⟨0, Nat.zero_le _, rfl, HL.out⟩
                case round =>
                  obtain ⟨z, hz, rfl, hL⟩ := hrel
                  have HLL := Lib.hid hL
                  have k4 : wr.cell? ⟨gb, 3, none⟩ = some (.slice q1.dA n7 c7) := by
                    have := (hL.got 3 (by rw [Pc.vals_length]; omega)).1
                    rw [← HNQ.out, ← HCQ.out]
                    exact this
                  by_cases hzn : z < n7
                  · have hdt := hL.dat
                    rw [HNQ.out, HCQ.out] at hdt
                    obtain ⟨g, x, hgA, hz1, hz2, hcx, hx0, hx1, hfx⟩ := hdt.at_ hzn
                    have hwx0 : 0 ≤ IntKind.u8.wrap (x + 1) := by simp [IntKind.wrap, IntKind.bits, IntKind.signed]; omega
                    have hwx1 : IntKind.u8.wrap (x + 1) < 256 := by simp [IntKind.wrap, IntKind.bits, IntKind.signed]; omega
                    have HSET := Lib.hid (HLL.out.set2 (g := g) (j := z) hgA hwx0 hwx1)
                    rw [hgA] at k4
                    clear hL hwx0 hwx1 hdt hgA HL k3
                    go_wp2_with fail
                    go_roundw
                    case rel => exact ⟨z + 1, by omega, by go_num, HSET.out⟩
                    case measure => simp [intOf]; omega
                  · obtain rfl : z = n7 := by omega
                    clear hL HL k3
                    go_wp2_with fail
                    go_meet
                    case rel => exact ⟨rfl, _, _, _, _, _, _, _, HLL.out.bth, HPL.out⟩
        · have hq0 : (kd == 0) = false := by simpa using hk0
          have hkn : w5.cell? ⟨ab, 1, none⟩ = some (.int .i64 nn) := (z5 1 (by rw [Qc.vals_length]; omega)).1
          have hni := HQG.out.n
          unfold isInt at hni
          dsimp only at hni
          have d5 := (Below.refl w5.heap.size w5).drew
          have HBd := Lib.hid (HB5.out.below d5)
          have hkd : w5.drew.cell? ⟨ab, 1, none⟩ = some (.int .i64 nn) := hkn
          have hab : ab < w5.drew.heap.size := by have h1 := HS5.out; show _ < w5.heap.size; omega
          clear HB5 d5 k0 k5 z5 hkn
          go_wp2_with fail
          generalize hwd : w5.drew = wd at *
          have hbx : Calls Try.prog 13 #[.pointer (some ⟨xb, 0, none⟩)] wd fun e w' => e = .returned (.int .u32 (b : Int)) ∧ w' = wd := by
            have h1 := Begin_ref HBd.out.x.qu
            rw [Chn.beg (by rw [HBd.out.x.ky]; exact HBd.out.x.ch)] at h1
            exact h1
          have HBX := Lib.hid hbx
          have HON := Lib.hid (fun w => rOn_any b nn w HBd.out.q.lt hni)
          have HAL := Lib.hid (on_lt b nn)
          clear hbx
          generalize on b nn = a1 at *
          refine wp_region_noPanic ?_
          refine wp_region_held_drew (S := fun V => V.cell? ⟨ab, 1, none⟩ = some (.int .i64 nn)) (by kernel_rfl) (by rw [hwd]; exact hkd) (fun _ => ?_)
          rw [hwd]
          clear hwd
          refine held_take (i := 0) (v := .pointer (some ⟨xb, 0, none⟩)) (some 89) rfl rfl (by kernel_rfl) (by kernel_rfl) (by kernel_rfl) (fun _ _ _ h => h) (Or.inl ⟨by rfl, fun W hW => by go_simp⟩) hkd ?_
          simp only [Act.put, List.setIfInBounds_toArray, List.set_cons_zero, List.set_cons_succ]
          refine held_take (i := 2) (v := .pointer (some ⟨ab, 1, none⟩)) (some 91) rfl rfl (by kernel_rfl) (by kernel_rfl) (by kernel_rfl) (fun _ _ _ h => h) (Or.inl ⟨by rfl, fun W hW => by go_simp⟩) hkd ?_
          simp only [Act.put, List.setIfInBounds_toArray, List.set_cons_zero, List.set_cons_succ]
          refine held_take (i := 3) (v := .int .i64 nn) (some 92) rfl rfl (by kernel_rfl) (by kernel_rfl) (by kernel_rfl) (fun _ _ _ h => h) (Or.inl ⟨by rfl, fun W hW => by have hc := hW; go_simp⟩) hkd ?_
          simp only [Act.put, List.setIfInBounds_toArray, List.set_cons_zero, List.set_cons_succ]
          refine wpAnyH_ready (rs := [1]) (by kernel_rfl) (by simp) ?_
          refine AllReadyH.cons rfl (fun K hK => ?_) AllReadyH.nil
          go_simp
          refine (HBX.out).mono ?_
          rintro e w' ⟨rfl, rfl⟩
          dsimp only
          refine hK.out _ _ hkd (fun _ => ?_)
          clear hK
          try simp only [Act.put, List.setIfInBounds_toArray, List.set_cons_zero, List.set_cons_succ]
          refine wpAnyH_ready (rs := [4]) (by kernel_rfl) (by simp) ?_
          refine AllReadyH.cons rfl (fun K hK => ?_) AllReadyH.nil
          go_simp
          refine (HON.out _).mono ?_
          rintro e w6 ⟨rfl, b6⟩
          have HB6 := Lib.hid (HBd.out.below b6)
          have e6 : w6.cell? ⟨ab, 1, none⟩ = some (.int .i64 nn) := (b6.cell hab).trans hkd
          clear b6 HBd HON hkd
          dsimp only
          refine hK.out _ _ e6 (fun _ => ?_)
          clear hK
          try simp only [Act.put, List.setIfInBounds_toArray, List.set_cons_zero, List.set_cons_succ]
          refine held_take (i := 5) (v := .int .u32 (a1 : Int)) (some 15) rfl rfl (by kernel_rfl) (by kernel_rfl) (by kernel_rfl) (fun _ _ _ h => h) (Or.inl ⟨by rfl, fun W hW => by go_simp⟩) e6 ?_
          simp only [Act.put, List.setIfInBounds_toArray, List.set_cons_zero, List.set_cons_succ]
          refine wpAnyH_done (by kernel_rfl) ?_ _
          refine NoPanic.normal ?_
          have hk101 : ks.length ≤ 1000 := by have := HKL.out; omega
          clear e6
          by_cases hle : st b a1 ≤ tot ks
          · have HA := Lib.hid (sack_yes HB6.out.q hk101 a1 HAL.out hle)
            unfold ptr at HA
            go_wp2_with fail
            refine (HA.out).mono ?_
            rintro e w7 ⟨vo, v7, l7, rfl, o7, T7, hq7, ch7⟩
            have hx7 : Sq 30 W w7 xb u r b ks en := HB6.out.x.frame ch7 (fun k hk e => HB6.out.ap k (mv_q e) hk) (fun k e => (HB6.out.in_ (.inl (mv_q e))).1)
            have HA8 := Lib.hid (sackR_yes hx7 hk101 a1 HAL.out hle)
            have HO7 := Lib.hid o7
            have HT7 := Lib.hid T7
            have HQ7 : Hid ((∀ k, Qb qb v7 l7 k → Qb qb v l k) ∧ w6.heap.size ≤ w7.heap.size) := Lib.hid ⟨hq7, ch7.size⟩
            have HXL := Lib.hid (fun k (hk : Qb xb u r k) => (hx7.in_ hk))
            clear o7 T7 hq7 ch7 hx7 HA hle
            unfold ptr at HA8
            go_wp2_with fail
            refine (HA8.out).mono ?_
            rintro e w8 ⟨vo8, u8', r8, rr, rfl, row8, pg8, ky8, T8, hq8, ch8⟩
            have hxb6 : xb < w6.heap.size := (HB6.out.x.in_ (.inl rfl)).2
            have hq8' : Sq 54 W w8 qb v7 l7 (begK b ks (st b a1)) (ks.drop (cnt ks (st b a1))) en := HT7.out.frame ch8 (fun k hk e => HB6.out.ap k (HQ7.out.1 k hk) (.inl e)) (fun k e => by rw [e]; exact (HXL.out xb (.inl rfl)).1)
            have HB8 : Hid (Bth W w8 qb v7 l7 xb u8' r8 (begK b ks (st b a1)) (ks.drop (cnt ks (st b a1))) en) := Lib.hid ⟨hq8', T8, fun k hk e => by
              rcases hq8 k e with h | h
              · exact HB6.out.ap k (HQ7.out.1 k hk) h
              · have h1 := (HT7.out.in_ hk).2
                omega⟩
            have HO8 : Hid (Own6 w6.heap.size w8 vo (ks.take (cnt ks (st b a1)))) := Lib.hid (HO7.out.frame ch8 (fun g hg e => by omega))
            have HR8 : Hid (Row w8 w7.heap.size vo8 rr ∧ (∀ p ∈ rr, PG w8 p) ∧ rr.map Pc.key = ks.take (cnt ks (st b a1))) := Lib.hid ⟨row8, pg8, ky8⟩
            have hdl : (ks.drop (cnt ks (st b a1))).length ≤ j + 1 := by
              have := HKL.out
              rw [List.length_drop]
              omega
            have HDL := Lib.hid hdl
            have hone : vo8.oneCell' = true := by
              obtain ⟨A', c', rfl, _, _⟩ := row8.slice
              rfl
            clear row8 pg8 ky8 T8 hq8 ch8 hq8' HA8 HB6 HT7 HO7 HQ7 HXL hdl hxb6
            generalize begK b ks (st b a1) = b8 at *
            generalize ks.drop (cnt ks (st b a1)) = ks8 at *
            generalize ks.take (cnt ks (st b a1)) = ts8 at *
            go_upto_region 31 with (first
              | ((with_reducible refine wpList_here ?_); refine wpList_allocV (o := ⟨some 18, _, _, _, _, _⟩) rfl 43 rfl (akv (.slice none 0 0) false) zeroAk _ rfl ?_; intro w9 z9 b9 s9)
              | ((with_reducible refine wpList_here ?_); refine wpList_storeV rfl 43 (.tmp 18) (.tmp 102) rfl _ _ (akv vo8 true) rfl rfl z9 rfl (akv_one hone) infoAk ?_; intro w10 z10 g10 s10; have b10 := v_below_g b9 g10 b9.size (Nat.le_refl _); clear z9 b9 g10 s9 s10))
            have HB10 := Lib.hid (HB8.out.below b10)
            obtain ⟨A7, c7, qs7, rfl, hy1, hy2, ps7, hk7⟩ := (HO8.out.below b10).ps
            have hr10 := HR8.out.1.below b10
            obtain ⟨A8, c8, rfl, hy3, hy4⟩ := hr10.slice
            have ps8 := hr10.ps (fun p hp => (HR8.out.2.1 p hp).below b10)
            have hl8 : rr.length = ts8.length := by rw [← HR8.out.2.2, List.length_map]
            rw [hl8] at ps8 hy3 z10 ⊢
            have HS := Lib.hid (SameAll_yes _ _ _ _ _ _ _ _ _ ps7 ps8 (hk7.trans HR8.out.2.2.symm))
            have e0 : w10.cell? ⟨w8.heap.size, 0, none⟩ = some (.slice A8 ts8.length c8) := (z10 0 (by rw [akv_length]; omega)).1
            have e1 : w10.cell? ⟨w8.heap.size, 1, none⟩ = some (.bool true) := (z10 1 (by rw [akv_length]; omega)).1
            clear ps7 ps8 hk7 hr10 hl8 z10 b10 HO8 HR8 HB8
            generalize ts8.length = nt at *
            go_wp2_with fail
            refine (HS.out).mono ?_
            rintro e w11 ⟨rfl, b11⟩
            have HB11 := Lib.hid (HB10.out.below b11)
            clear b11 HS HB10
            go_wp2_with fail
            go_meet
            case rel => exact ⟨rfl, _, _, _, _, _, _, _, HB11.out, HDL.out⟩
          · have hgt : tot ks < st b a1 := by omega
            have HA := Lib.hid (sack_no HB6.out.q hk101 a1 HAL.out hgt)
            unfold ptr at HA
            go_wp2_with fail
            refine (HA.out).mono ?_
            rintro e w7 ⟨rfl, b7⟩
            have HB7 := Lib.hid (HB6.out.below b7)
            have HA8 := Lib.hid (sackR_no HB7.out.x hk101 a1 HAL.out hgt)
            unfold ptr at HA8
            clear b7 HA HB6 hle hgt
            go_wp2_with fail
            refine (HA8.out).mono ?_
            rintro e w8 ⟨rfl, b8⟩
            have HB8 := Lib.hid (HB7.out.below b8)
            clear b8 HA8 HB7
            go_upto_region 31 with (first
              | ((with_reducible refine wpList_here ?_); refine wpList_allocV (o := ⟨some 18, _, _, _, _, _⟩) rfl 43 rfl (akv (.slice none 0 0) false) zeroAk _ rfl ?_; intro w9 z9 b9 s9)
              | ((with_reducible refine wpList_here ?_); refine wpList_storeV rfl 43 (.tmp 18) (.tmp 102) rfl _ _ (akv (.slice none 0 0) false) rfl rfl z9 rfl (akv_one rfl) infoAk ?_; intro w10 z10 g10 s10; have b10 := v_below_g b9 g10 b9.size (Nat.le_refl _); clear z9 b9 g10 s9 s10))
            have HB10 := Lib.hid (HB8.out.below b10)
            have HS := Lib.hid (SameAll_yes none none 0 0 0 0 [] [] w10 (PS.nil_ _) (PS.nil_ _) rfl)
            have e0 : w10.cell? ⟨w8.heap.size, 0, none⟩ = some (.slice none 0 0) := (z10 0 (by rw [akv_length]; omega)).1
            have e1 : w10.cell? ⟨w8.heap.size, 1, none⟩ = some (.bool false) := (z10 1 (by rw [akv_length]; omega)).1
            have HKJ : Hid (ks.length ≤ j + 1) := Lib.hid (by have := HKL.out; omega)
            clear z10 b10 HB8
            go_wp2_with fail
            refine (HS.out).mono ?_
            rintro e w11 ⟨rfl, b11⟩
            have HB11 := Lib.hid (HB10.out.below b11)
            clear b11 HS HB10
            go_wp2_with fail
            go_meet
            case rel => exact ⟨rfl, _, _, _, _, _, _, _, HB11.out, HKJ.out⟩
      case rest =>
        obtain ⟨rfl, v2, l2, u2, r2, b2, ks2, en2, hB2, hkl2⟩ := hcut
        have hxl : r2.length = ks2.length := hB2.x.llen
        have hql : l2.length = ks2.length := hB2.q.llen
        have hd4 := (Below.refl wc.heap.size wc).drew
        have hBd : Bth W wc.drew qb v2 l2 xb u2 r2 b2 ks2 en2 := hB2.below hd4
        clear hB2
        obtain ⟨A8, c8, rfl, hx1, hx2⟩ := hBd.x.qu.row.slice
        have hks : ks2.length ≤ 101 := by omega
        have HALL := Lib.hid (All_any hBd.q.qu (by rw [hql]; omega) (fun p hp => by have := dn_le hBd.q p hp; omega))
        rw [hBd.q.ky] at HALL
        have HBd := Lib.hid hBd
        have HKL2 := Lib.hid hkl2
        have c0 := hBd.x.qu.c0
        have c1 := hBd.x.qu.c1
        rw [hxl] at c0 hx1
        have HXL := Lib.hid hxl
        have HQL := Lib.hid hql
        clear hBd hxl hql hd4 hkl2
        generalize hnn : ks2.length = n8 at *
        have HNN := Lib.hid hnn
        clear hnn
        unfold ptr at HALL
        go_wp2_with fail
        generalize hwd : wc.drew = wd at *
        refine wp_region_noPanic ?_
        refine wp_region_held_drew (S := fun V => V.cell? ⟨xb, 0, none⟩ = some (.slice A8 n8 c8) ∧ V.cell? ⟨xb, 1, none⟩ = some (.int .u32 (en2 : Int))) (by kernel_rfl) (by rw [hwd]; exact ⟨c0, c1⟩) (fun _ => ?_)
        rw [hwd]
        clear hwd
        refine held_take (i := 0) (v := .pointer (some ⟨qb, 0, none⟩)) (some 114) rfl rfl (by kernel_rfl) (by kernel_rfl) (by kernel_rfl) (fun _ _ _ h => h) (Or.inl ⟨by rfl, fun W hW => by go_simp⟩) ⟨c0, c1⟩ ?_
        simp only [Act.put, List.setIfInBounds_toArray, List.set_cons_zero, List.set_cons_succ]
        refine held_take (i := 2) (v := .pointer (some ⟨xb, 0, none⟩)) (some 116) rfl rfl (by kernel_rfl) (by kernel_rfl) (by kernel_rfl) (fun _ _ _ h => h) (Or.inl ⟨by rfl, fun W hW => by go_simp⟩) ⟨c0, c1⟩ ?_
        simp only [Act.put, List.setIfInBounds_toArray, List.set_cons_zero, List.set_cons_succ]
        refine held_take (i := 3) (v := .pointer (some ⟨xb, 0, none⟩)) (some 117) rfl rfl (by kernel_rfl) (by kernel_rfl) (by kernel_rfl) (fun _ _ _ h => h) (Or.inl ⟨by rfl, fun W hW => by go_simp⟩) ⟨c0, c1⟩ ?_
        simp only [Act.put, List.setIfInBounds_toArray, List.set_cons_zero, List.set_cons_succ]
        refine held_take (i := 4) (v := .pointer (some ⟨xb, 0, none⟩)) (some 118) rfl rfl (by kernel_rfl) (by kernel_rfl) (by kernel_rfl) (fun _ _ _ h => h) (Or.inl ⟨by rfl, fun W hW => by go_simp⟩) ⟨c0, c1⟩ ?_
        simp only [Act.put, List.setIfInBounds_toArray, List.set_cons_zero, List.set_cons_succ]
        refine held_take (i := 5) (v := .slice A8 n8 c8) (some 119) rfl rfl (by kernel_rfl) (by kernel_rfl) (by kernel_rfl) (fun _ _ _ h => h) (Or.inl ⟨by rfl, fun W hW => by have hc := hW.1; go_simp⟩) ⟨c0, c1⟩ ?_
        simp only [Act.put, List.setIfInBounds_toArray, List.set_cons_zero, List.set_cons_succ]
        refine wpAnyH_ready (rs := [1]) (by kernel_rfl) (by simp) ?_
        refine AllReadyH.cons rfl (fun K hK => ?_) AllReadyH.nil
        go_simp
        refine (HALL.out).mono ?_
        rintro e w3 ⟨vo, rfl, o3, b3⟩
        obtain ⟨A9, c9, qs9, rfl, hy1, hy2, ps9, hk9⟩ := o3.ps
        rw [HNN.out] at ps9 hy1 ⊢
        have HB3 := Lib.hid (HBd.out.below b3)
        have HS := Lib.hid (SameAll_yes A9 A8 n8 n8 c9 c8 qs9 r2 w3 ps9 (by have := HB3.out.x.qu.row.ps (fun p hp => (HB3.out.x.qu.ok p hp).pg); rw [HXL.out] at this; exact this) (by rw [hk9, HB3.out.x.ky]))
        have e3 : w3.cell? ⟨xb, 0, none⟩ = some (.slice A8 n8 c8) ∧ w3.cell? ⟨xb, 1, none⟩ = some (.int .u32 (en2 : Int)) := ⟨by have := HB3.out.x.qu.c0; rw [HXL.out] at this; exact this, HB3.out.x.qu.c1⟩
        clear o3 b3 ps9 hk9 HBd HALL c0 c1
        dsimp only
        refine hK.out _ _ e3 (fun _ => ?_)
        clear hK
        try simp only [Act.put, List.setIfInBounds_toArray, List.set_cons_zero, List.set_cons_succ]
        refine wpAnyH_ready (rs := [6]) (by kernel_rfl) (by simp) ?_
        refine AllReadyH.cons rfl (fun K hK => ?_) AllReadyH.nil
        go_simp
        refine (HS.out).mono ?_
        rintro e w4 ⟨rfl, b4⟩
        have HBE := Lib.hid (HB3.out.below b4)
        have e4 : w4.cell? ⟨xb, 0, none⟩ = some (.slice A8 n8 c8) ∧ w4.cell? ⟨xb, 1, none⟩ = some (.int .u32 (en2 : Int)) := ⟨by have := HBE.out.x.qu.c0; rw [HXL.out] at this; exact this, HBE.out.x.qu.c1⟩
        have hbq : Calls Try.prog 18 #[.pointer (some ⟨qb, 0, none⟩)] w4 fun e w' => e = .returned (.int .u32 (b2 : Int)) ∧ w' = w4 := by
          have h1 := Begin_any HBE.out.q.qu
          rw [Chn.beg (by rw [HBE.out.q.ky]; exact HBE.out.q.ch)] at h1
          exact h1
        have HBQ := Lib.hid hbq
        have hbx : Calls Try.prog 13 #[.pointer (some ⟨xb, 0, none⟩)] w4 fun e w' => e = .returned (.int .u32 (b2 : Int)) ∧ w' = w4 := by
          have h1 := Begin_ref HBE.out.x.qu
          rw [Chn.beg (by rw [HBE.out.x.ky]; exact HBE.out.x.ch)] at h1
          exact h1
        have HBX := Lib.hid hbx
        have hen : Calls Try.prog 19 #[.pointer (some ⟨qb, 0, none⟩)] w4 fun e w' => e = .returned (.int .u32 (en2 : Int)) ∧ w' = w4 := End_any HBE.out.q.qu
        have HEN := Lib.hid hen
        have hle : Calls Try.prog 20 #[.pointer (some ⟨qb, 0, none⟩)] w4 fun e w' => e = .returned (.int .i64 (n8 : Int)) ∧ w' = w4 := by
          have h1 := Len_any HBE.out.q.qu
          rw [HQL.out] at h1
          exact h1
        have HLE := Lib.hid hle
        clear b4 HS HB3 e3 hbq hbx hen hle
        dsimp only
        refine hK.out _ _ e4 (fun _ => ?_)
        clear hK
        try simp only [Act.put, List.setIfInBounds_toArray, List.set_cons_zero, List.set_cons_succ]
        refine held_take (i := 7) (v := .bool false) (some 121) rfl rfl (by kernel_rfl) (by kernel_rfl) (by kernel_rfl) (fun _ _ _ h => h) (Or.inl ⟨by rfl, fun W hW => by go_simp⟩) e4 ?_
        simp only [Act.put, List.setIfInBounds_toArray, List.set_cons_zero, List.set_cons_succ]
        refine held_take (i := 8) (v := .bool false) (some 122) rfl rfl (by kernel_rfl) (by kernel_rfl) (by kernel_rfl) (fun _ _ _ h => h) (Or.inl ⟨by rfl, fun W hW => by go_simp⟩) e4 ?_
        simp only [Act.put, List.setIfInBounds_toArray, List.set_cons_zero, List.set_cons_succ]
        refine held_take (i := 9) (v := .pointer (some ⟨qb, 0, none⟩)) (some 123) rfl rfl (by kernel_rfl) (by kernel_rfl) (by kernel_rfl) (fun _ _ _ h => h) (Or.inl ⟨by rfl, fun W hW => by go_simp⟩) e4 ?_
        simp only [Act.put, List.setIfInBounds_toArray, List.set_cons_zero, List.set_cons_succ]
        refine held_take (i := 11) (v := .pointer (some ⟨xb, 0, none⟩)) (some 125) rfl rfl (by kernel_rfl) (by kernel_rfl) (by kernel_rfl) (fun _ _ _ h => h) (Or.inl ⟨by rfl, fun W hW => by go_simp⟩) e4 ?_
        simp only [Act.put, List.setIfInBounds_toArray, List.set_cons_zero, List.set_cons_succ]
        refine wpAnyH_ready (rs := [10]) (by kernel_rfl) (by simp) ?_
        refine AllReadyH.cons rfl (fun K hK => ?_) AllReadyH.nil
        go_simp
        refine (HBQ.out).mono ?_
        rintro e w' ⟨rfl, rfl⟩
        dsimp only
        refine hK.out _ _ e4 (fun _ => ?_)
        clear hK
        try simp only [Act.put, List.setIfInBounds_toArray, List.set_cons_zero, List.set_cons_succ]
        refine wpAnyH_ready (rs := [12]) (by kernel_rfl) (by simp) ?_
        refine AllReadyH.cons rfl (fun K hK => ?_) AllReadyH.nil
        go_simp
        refine (HBX.out).mono ?_
        rintro e w' ⟨rfl, rfl⟩
        dsimp only
        refine hK.out _ _ e4 (fun _ => ?_)
        clear hK
        try simp only [Act.put, List.setIfInBounds_toArray, List.set_cons_zero, List.set_cons_succ]
        refine held_take (i := 13) (v := .bool false) (some 127) rfl rfl (by kernel_rfl) (by kernel_rfl) (by kernel_rfl) (fun _ _ _ h => h) (Or.inl ⟨by rfl, fun W hW => by go_simp⟩) e4 ?_
        simp only [Act.put, List.setIfInBounds_toArray, List.set_cons_zero, List.set_cons_succ]
        refine held_take (i := 14) (v := .bool false) (some 128) rfl rfl (by kernel_rfl) (by kernel_rfl) (by kernel_rfl) (fun _ _ _ h => h) (Or.inl ⟨by rfl, fun W hW => by go_simp⟩) e4 ?_
        simp only [Act.put, List.setIfInBounds_toArray, List.set_cons_zero, List.set_cons_succ]
        refine held_take (i := 15) (v := .bool false) (some 129) rfl rfl (by kernel_rfl) (by kernel_rfl) (by kernel_rfl) (fun _ _ _ h => h) (Or.inl ⟨by rfl, fun W hW => by go_simp⟩) e4 ?_
        simp only [Act.put, List.setIfInBounds_toArray, List.set_cons_zero, List.set_cons_succ]
        refine held_take (i := 16) (v := .pointer (some ⟨qb, 0, none⟩)) (some 130) rfl rfl (by kernel_rfl) (by kernel_rfl) (by kernel_rfl) (fun _ _ _ h => h) (Or.inl ⟨by rfl, fun W hW => by go_simp⟩) e4 ?_
        simp only [Act.put, List.setIfInBounds_toArray, List.set_cons_zero, List.set_cons_succ]
        refine held_take (i := 18) (v := .pointer (some ⟨xb, 0, none⟩)) (some 132) rfl rfl (by kernel_rfl) (by kernel_rfl) (by kernel_rfl) (fun _ _ _ h => h) (Or.inl ⟨by rfl, fun W hW => by go_simp⟩) e4 ?_
        simp only [Act.put, List.setIfInBounds_toArray, List.set_cons_zero, List.set_cons_succ]
        refine held_take (i := 19) (v := .pointer (some ⟨xb, 0, none⟩)) (some 133) rfl rfl (by kernel_rfl) (by kernel_rfl) (by kernel_rfl) (fun _ _ _ h => h) (Or.inl ⟨by rfl, fun W hW => by go_simp⟩) e4 ?_
        simp only [Act.put, List.setIfInBounds_toArray, List.set_cons_zero, List.set_cons_succ]
        refine held_take (i := 20) (v := .pointer (some ⟨xb, 1, none⟩)) (some 134) rfl rfl (by kernel_rfl) (by kernel_rfl) (by kernel_rfl) (fun _ _ _ h => h) (Or.inl ⟨by rfl, fun W hW => by go_simp⟩) e4 ?_
        simp only [Act.put, List.setIfInBounds_toArray, List.set_cons_zero, List.set_cons_succ]
        refine held_take (i := 21) (v := .int .u32 (en2 : Int)) (some 135) rfl rfl (by kernel_rfl) (by kernel_rfl) (by kernel_rfl) (fun _ _ _ h => h) (Or.inl ⟨by rfl, fun W hW => by have hc := hW.2; go_simp⟩) e4 ?_
        simp only [Act.put, List.setIfInBounds_toArray, List.set_cons_zero, List.set_cons_succ]
        refine wpAnyH_ready (rs := [17]) (by kernel_rfl) (by simp) ?_
        refine AllReadyH.cons rfl (fun K hK => ?_) AllReadyH.nil
        go_simp
        refine (HEN.out).mono ?_
        rintro e w' ⟨rfl, rfl⟩
        dsimp only
        refine hK.out _ _ e4 (fun _ => ?_)
        clear hK
        try simp only [Act.put, List.setIfInBounds_toArray, List.set_cons_zero, List.set_cons_succ]
        refine held_take (i := 22) (v := .bool false) (some 136) rfl rfl (by kernel_rfl) (by kernel_rfl) (by kernel_rfl) (fun _ _ _ h => h) (Or.inl ⟨by rfl, fun W hW => by go_simp⟩) e4 ?_
        simp only [Act.put, List.setIfInBounds_toArray, List.set_cons_zero, List.set_cons_succ]
        refine held_take (i := 23) (v := .bool false) (some 137) rfl rfl (by kernel_rfl) (by kernel_rfl) (by kernel_rfl) (fun _ _ _ h => h) (Or.inl ⟨by rfl, fun W hW => by go_simp⟩) e4 ?_
        simp only [Act.put, List.setIfInBounds_toArray, List.set_cons_zero, List.set_cons_succ]
        refine held_take (i := 24) (v := .bool false) (some 138) rfl rfl (by kernel_rfl) (by kernel_rfl) (by kernel_rfl) (fun _ _ _ h => h) (Or.inl ⟨by rfl, fun W hW => by go_simp⟩) e4 ?_
        simp only [Act.put, List.setIfInBounds_toArray, List.set_cons_zero, List.set_cons_succ]
        refine held_take (i := 25) (v := .pointer (some ⟨qb, 0, none⟩)) (some 139) rfl rfl (by kernel_rfl) (by kernel_rfl) (by kernel_rfl) (fun _ _ _ h => h) (Or.inl ⟨by rfl, fun W hW => by go_simp⟩) e4 ?_
        simp only [Act.put, List.setIfInBounds_toArray, List.set_cons_zero, List.set_cons_succ]
        refine held_take (i := 27) (v := .pointer (some ⟨xb, 0, none⟩)) (some 141) rfl rfl (by kernel_rfl) (by kernel_rfl) (by kernel_rfl) (fun _ _ _ h => h) (Or.inl ⟨by rfl, fun W hW => by go_simp⟩) e4 ?_
        simp only [Act.put, List.setIfInBounds_toArray, List.set_cons_zero, List.set_cons_succ]
        refine held_take (i := 28) (v := .pointer (some ⟨xb, 0, none⟩)) (some 142) rfl rfl (by kernel_rfl) (by kernel_rfl) (by kernel_rfl) (fun _ _ _ h => h) (Or.inl ⟨by rfl, fun W hW => by go_simp⟩) e4 ?_
        simp only [Act.put, List.setIfInBounds_toArray, List.set_cons_zero, List.set_cons_succ]
        refine held_take (i := 29) (v := .pointer (some ⟨xb, 0, none⟩)) (some 143) rfl rfl (by kernel_rfl) (by kernel_rfl) (by kernel_rfl) (fun _ _ _ h => h) (Or.inl ⟨by rfl, fun W hW => by go_simp⟩) e4 ?_
        simp only [Act.put, List.setIfInBounds_toArray, List.set_cons_zero, List.set_cons_succ]
        refine held_take (i := 30) (v := .slice A8 n8 c8) (some 144) rfl rfl (by kernel_rfl) (by kernel_rfl) (by kernel_rfl) (fun _ _ _ h => h) (Or.inl ⟨by rfl, fun W hW => by have hc := hW.1; go_simp⟩) e4 ?_
        simp only [Act.put, List.setIfInBounds_toArray, List.set_cons_zero, List.set_cons_succ]
        refine held_take (i := 31) (v := .int .i64 (n8 : Int)) (some 145) rfl rfl (by kernel_rfl) (by kernel_rfl) (by kernel_rfl) (fun _ _ _ h => h) (Or.inl ⟨by rfl, fun W hW => by go_simp⟩) e4 ?_
        simp only [Act.put, List.setIfInBounds_toArray, List.set_cons_zero, List.set_cons_succ]
        refine wpAnyH_ready (rs := [26]) (by kernel_rfl) (by simp) ?_
        refine AllReadyH.cons rfl (fun K hK => ?_) AllReadyH.nil
        go_simp
        refine (HLE.out).mono ?_
        rintro e w' ⟨rfl, rfl⟩
        dsimp only
        refine hK.out _ _ e4 (fun _ => ?_)
        clear hK
        try simp only [Act.put, List.setIfInBounds_toArray, List.set_cons_zero, List.set_cons_succ]
        refine held_take (i := 32) (v := .bool false) (some 146) rfl rfl (by kernel_rfl) (by kernel_rfl) (by kernel_rfl) (fun _ _ _ h => h) (Or.inl ⟨by rfl, fun W hW => by go_simp⟩) e4 ?_
        simp only [Act.put, List.setIfInBounds_toArray, List.set_cons_zero, List.set_cons_succ]
        refine held_take (i := 33) (v := .bool false) (some 147) rfl rfl (by kernel_rfl) (by kernel_rfl) (by kernel_rfl) (fun _ _ _ h => h) (Or.inl ⟨by rfl, fun W hW => by go_simp⟩) e4 ?_
        simp only [Act.put, List.setIfInBounds_toArray, List.set_cons_zero, List.set_cons_succ]
        refine wpAnyH_done (by kernel_rfl) ?_ _
        refine NoPanic.normal ?_
        go_wp2_with fail
        go_roundg (na - (j + 1))
        case measure => omega
        case rel => exact ⟨j + 1, by omega, Nat.le_refl _, by go_num, _, _, _, _, _, _, _, HBE.out, by rw [HNN.out]; exact HKL2.out⟩
    · obtain rfl : j = na := by omega
      go_wp2_with fail
      go_ret
      exact ⟨rfl, HBB.out⟩
end Go.Proofs.Ytkmddedfmbmgfaa

/- The law SpanOrder. Conditions: the acts lie where the slice says. -/
import Derived.Test.YteiojdmnfjcagaaSpP
import Derived.Test.YteiojdmnfjcagaaUnt
namespace Go.Proofs.Yteiojdmnfjcagaa
set_option linter.unusedVariables false
set_option linter.unusedSimpArgs false
open Go.RowKit Go.Lib

theorem slFA (g o n c k : Nat) (hk : k ≤ n) (hc : k < c) (W : World) : (Instr.slice 22 (.slice (some ⟨g, o, none⟩) n c) (some (.int .i64 (k : Int))) none none).run Try.prog W = .ok (.slice (some ⟨g, o + k * 3, none⟩) (n - k) (c - k)) W := by
  rw [run_slice_l (P := Try.prog) W 22 _ n c elemAct .i64 (k : Int) (by omega) (by omega), sizeOfAct]
  have : ¬ c = k := by omega
  simp [Result.andThen, sliced, this, Addr.add_mid]
theorem slTA (g o n c k : Nat) (hk : k ≤ c) (W : World) : (Instr.slice 22 (.slice (some ⟨g, o, none⟩) n c) none (some (.int .i64 (k : Int))) none).run Try.prog W = .ok (.slice (some ⟨g, o, none⟩) k c) W := by
  rw [run_slice_h (P := Try.prog) W 22 _ n c elemAct .i64 (k : Int) (by omega) (by omega), sizeOfAct]
  simp [Result.andThen, sliced, Addr.add_mid]

/-- The two rows of acts, put together. -/
theorem rot_rows {wr : World} {g o na ca i : Nat} {ac : List Ac} (hlen : ac.length = na) (hi : i < na) (hr : wr.rangeAt g o (av ac)) (hg : g < wr.heap.size) (hU : na ≤ 60) (hok : ∀ x ∈ ac, B64 x.1 ∧ B64 x.2.1 ∧ B64 x.2.2) :
    ∃ (v1 : Value) (w1 : World) (A2 : Option Addr) (c2 : Nat) (w2 : World), (∀ ty, (Builtin.append_ #[22, 22] ty #[.slice (some ⟨wr.heap.size, 0, none⟩) 0 0, .slice (some ⟨g, o + i * 3, none⟩) (na - i) (ca - i)]).run Try.prog (wr.drew.alloc (.cells #[] 29)) = .ok v1 w1) ∧
      (∀ ty, (Builtin.append_ #[22, 22] ty #[v1, .slice (some ⟨g, o, none⟩) i ca]).run Try.prog w1 = .ok (.slice A2 na c2) w2) ∧ Tri w2 A2 na c2 (ac.drop i ++ ac.take i) ∧ Below wr.heap.size wr w1 ∧ Below wr.heap.size wr w2 ∧ ∀ g o, A2 = some ⟨g, o, none⟩ → wr.heap.size ≤ g := by
  have hV : Below wr.heap.size wr (wr.drew.alloc (.cells #[] 29)) := (Below.refl _ _).drew.alloc (Nat.le_refl _) _
  have hsz : wr.drew.heap.size = wr.heap.size := rfl
  have own0 : (wr.drew.alloc (.cells #[] 29)).ownsRow wr.heap.size 29 3 (.slice (some ⟨wr.heap.size, 0, none⟩) 0 0) 0 (av []) := World.ownsRow_lit (base := wr.heap.size) (e := 29) (size := 3) wr.drew #[] 0 (Nat.le_refl _) (Nat.zero_le _) rfl
  have hkeep : ∀ (V : World) (x : Nat) (cs : List Value), Below wr.heap.size wr V → wr.rangeAt g x cs → V.rangeAt g x cs := fun V x cs hb h => rangeAt_ch (Ch.of_below (fun _ => False) hb) h (fun e => e)
  have hsp := hr
  rw [← List.take_append_drop i ac, av_append, rangeAt_append, av_length, show (ac.take i).length = i from by simp; omega] at hsp
  have hs0 : 0 < (wr.drew.alloc (.cells #[] 29)).heap.size := by simp
  obtain ⟨v1, w1, _, own1, gr1⟩ := app_act wr.heap.size _ 0 [] own0 hV.size g (o + i * 3) (na - i) (ca - i) (ac.drop i) (by simp; omega) (hkeep _ _ _ hV hsp.2) (by omega) 22
  have b1 : Below wr.heap.size wr w1 := ((Ch.of_below (fun k => wr.heap.size ≤ k) hV).grown gr1 (fun k e _ => (own0.lt k e).1)).below (fun x hx e => by omega)
  obtain ⟨v2, w2, _, own2, gr2⟩ := app_act wr.heap.size v1 _ _ own1 b1.size g o i ca (ac.take i) (by simp; omega) (hkeep _ _ _ b1 hsp.1) (by omega) 22
  have b2 : Below wr.heap.size wr w2 := ((Ch.of_below (fun k => wr.heap.size ≤ k) b1).grown gr2 (fun k e _ => (own1.lt k e).1)).below (fun x hx e => by omega)
  rw [List.nil_append] at own2
  rw [show 0 + (na - i) + i = na from by omega] at own2
  obtain ⟨A2, c2, rfl, ht⟩ := tri_own own2 (fun x hx => by
    rcases List.mem_append.1 hx with hx | hx
    · exact hok x (List.mem_of_mem_drop hx)
    · exact hok x (List.mem_of_mem_take hx))
  exact ⟨v1, w1, A2, c2, w2, fun ty => by assumption, fun ty => by assumption, ht, b1, b2, fun g o e => (own2.lt g (by rw [e]; rfl)).1⟩

theorem Tri.range {w : World} {g o n c : Nat} {l : List Ac} (h : Tri w (some ⟨g, o, none⟩) n c l) (hn : 0 < n) : w.rangeAt g o (av l) ∧ g < w.heap.size := by
  obtain ⟨g2, o2, e, hc⟩ := h.mem hn
  injection e with e
  injection e with e1 e2 _
  subst e1; subst e2
  refine ⟨av_range fun j hj => hc j (by rw [← h.len]; exact hj), World.block_lt_of_cell? _ _ (hc 0 hn).1⟩
theorem Tri.ch {w w' : World} {A : Option Addr} {n c : Nat} {l : List Ac} (h : Tri w A n c l) {m : Nat → Prop} (k : Ch w w' m) (hm : ∀ g o, A = some ⟨g, o, none⟩ → ¬ m g) : Tri w' A n c l :=
  ⟨h.len, h.cap, h.max, h.ok, fun hn => by
    obtain ⟨g, o, rfl, hc⟩ := h.mem hn
    exact ⟨g, o, rfl, fun j hj => ⟨k.cell (hc j hj).1 (hm g o rfl), k.cell (hc j hj).2.1 (hm g o rfl), k.cell (hc j hj).2.2 (hm g o rfl)⟩⟩⟩
theorem Tri.elem {w : World} {A : Option Addr} {n c : Nat} {l : List Ac} (h : Tri w A n c l) {j : Nat} (hj : j < n) : B64 (l.getD j z3).1 ∧ B64 (l.getD j z3).2.1 ∧ B64 (l.getD j z3).2.2 := h.ok _ (by
  have hl : j < l.length := by rw [h.len]; exact hj
  rw [List.getD_eq_getElem?_getD, List.getElem?_eq_getElem hl]
  exact List.getElem_mem _)

/-- Two sets, while runs are added to each of them. -/
structure Two2 (W w : World) (sa sb : Nat) (va vb : Value) (la lb : List Rn) : Prop where
  a : Sg W w sa va la
  b : Sg W w sb vb lb
  ap : Ap sa va sb vb
theorem Two2.below {W w w' : World} {sa sb : Nat} {va vb : Value} {la lb : List Rn} (h : Two2 W w sa sb va vb la lb) (b : Below w.heap.size w w') : Two2 W w' sa sb va vb la lb := ⟨h.a.below b, h.b.below b, h.ap⟩
theorem Two2.stepA {W w w' : World} {sa sb : Nat} {va vb va' : Value} {la lb la' : List Rn} (h : Two2 W w sa sb va vb la lb) (s : St w' sa va' la') (c : Ch w w' (fun k => k = sa ∨ va.ownBlock = some k)) (o : ∀ k, va'.ownBlock = some k → va.ownBlock = some k ∨ w.heap.size ≤ k) : Two2 W w' sa sb va' vb la' lb :=
  have h1 := h.a.step s c o
  ⟨h1, h.b.other h.ap h1.bel c, h.ap.step h.b.st o⟩
theorem Two2.symm {W w : World} {sa sb : Nat} {va vb : Value} {la lb : List Rn} (h : Two2 W w sa sb va vb la lb) : Two2 W w sb sa vb va lb la := ⟨h.b, h.a, h.ap.symm⟩

set_option maxRecDepth 8000 in
set_option maxHeartbeats 8000000 in
theorem Order_any (A : Option Addr) (na ca : Nat) (ac : List (Int × Int × Int)) (k : Nat) (W : World) (hA : Tri W A na ca ac) (hk : k < 256) :
    Calls Try.prog 5 #[.slice A na ca, .int .u8 (k : Int)] W (Held W) := by
  have HW := Lib.hid (wakes_any W)
  have HA := Lib.hid hA
  have hcap := hA.cap
  have hmax := hA.max
  clear hA
  go_enter Try.func5, Try.ntmps5
  go_wp2_with fail
  refine (HW.out).mono ?_
  rintro e w1 ⟨rfl, b1⟩
  have B1 := Lib.hid b1
  clear b1 HW
  by_cases hz : na = 0
  · have hz1 : ((na : Int) == 0) = true := by simp [hz]
    have hz2 : decide ((na : Int) = 0) = true := by simp [hz]
    have hz3 : (na : Int) = 0 := by omega
    go_wp2_with fail
    go_ret
    exact ⟨rfl, B1.out⟩
  have hz1 : ((na : Int) == 0) = false := by simp [hz]
  have hz2 : ¬ (na : Int) = 0 := by omega
  by_cases hn : 60 < na
  · have hn1 : (60 : Int) < (na : Int) := by omega
    go_wp2_with fail
    go_ret
    exact ⟨rfl, B1.out⟩
  have hn1 : ¬ (60 : Int) < (na : Int) := by omega
  have HN := Lib.hid (newS W w1 B1.out)
  go_wp2_with fail
  refine (HN.out).mono ?_
  rintro e w2 ⟨sa, v2, rfl, S2, b2, _, _⟩
  have HS2 := Lib.hid S2
  have HN2 := Lib.hid (newS W w2 S2.bel)
  clear S2 HN b2
  go_wp2_with fail
  refine (HN2.out).mono ?_
  rintro e w3 ⟨sb, v3, rfl, S3, b3, hsb, hvb⟩
  have HT3 : Hid (Two2 W w3 sa sb v2 v3 [] []) := Lib.hid ⟨HS2.out.below b3, S3, ⟨fun e => by have := HS2.out.st.lt; omega, fun e => by have := HS2.out.st.row.lt e; omega, fun e => by have := hvb _ e; have := HS2.out.st.lt; omega, fun k e e' => by have := HS2.out.st.row.lt e; have := hvb k e'; omega⟩⟩
  clear S3 b3 hsb hvb HN2 HS2
  unfold ptr
  obtain ⟨i, hie⟩ : ∃ i, i = k % na := ⟨_, rfl⟩
  have hi : i < na := by rw [hie]; exact Nat.mod_lt _ (by omega)
  have hw1 : IntKind.i64.wrap (k : Int) = (k : Int) := by rw [IntKind.wrap_i64]; omega
  have hw2 : IntKind.i64.wrap ((k : Int).tmod (na : Int)) = (i : Int) := by rw [← Int.ofNat_tmod, ← hie, IntKind.wrap_i64]; omega
  have hw3 : (k : Int).tmod (na : Int) = (i : Int) := by rw [← Int.ofNat_tmod, ← hie]
  have hi2 := Lib.hid hie
  clear hie
  go_wp2_with fail
  go_loopw [34] (fun ix wr => ∃ (q : Nat) (va : Value) (la : List Rn), q ≤ na ∧ ix = .int .i64 (q : Int) ∧ Two2 W wr sa sb va v3 la [] ∧ ∀ n, Has la n ↔ CovL (ac.take q) n) (fun ix _ => na - (intOf ix).toNat)
  case atStart => exact ⟨0, _, _, Nat.zero_le _, rfl, HT3.out, fun n => ⟨fun h => absurd h (has_nil n), fun ⟨r, hr, _⟩ => by simp at hr⟩⟩
  case round =>
    obtain ⟨q, va, la, hq, rfl, T, hh⟩ := hrel
    have HT := Lib.hid T
    have HH := Lib.hid hh
    by_cases hqn : q < na
    · obtain ⟨g, o, rfl, hce⟩ := (HA.out.below T.a.bel).mem (by omega)
      obtain ⟨x0, x1, x2⟩ := hce q hqn
      have hok := HA.out.elem hqn
      have HCV := Lib.hid (fun n => covL_succ (l := ac) (q := q) (by rw [HA.out.len]; exact hqn) n)
      generalize ac.getD q z3 = r at *
      obtain ⟨kd, f, gg⟩ := r
      dsimp only at *
      have HB := Lib.hid (T.below (below_a wr (.cells #[.int .i64 kd, .int .i64 f, .int .i64 gg] 29)))
      have HADD := Lib.hid (HB.out.a.add (isI_of hok.2.1) (isI_of hok.2.2))
      obtain ⟨e0, e1, e2⟩ := cell3 wr (.int .i64 kd) (.int .i64 f) (.int .i64 gg) 29
      unfold ptr at HADD
      clear T hh hce hok
      go_wp2_with fail
      refine (HADD.out).mono ?_
      rintro e w5 ⟨v5, l5, rfl, s5, a5, _, c5, o5⟩
      have HT5 := Lib.hid (HB.out.stepA s5 c5 o5)
      have HH5 := Lib.hid (a5.cov HH.out HCV.out)
      clear s5 a5 c5 o5 HADD e0 e1 e2 x0 x1 x2
      go_wp2_with fail
      go_roundw
      case rel => exact ⟨q + 1, _, _, by omega, by go_num, HT5.out, HH5.out⟩
      case measure => simp [intOf]; omega
    · obtain rfl : q = na := by omega
      have htri := HA.out.below T.a.bel
      obtain ⟨g, o, rfl, _⟩ := htri.mem (by omega)
      obtain ⟨hrg, hgl⟩ := htri.range (by omega)
      obtain ⟨v1, u1, A2, c2, u2, hr1, hr2, ht2, hu1, hu2, hu3⟩ := rot_rows (ca := ca) (i := i) HA.out.len hi hrg hgl (by omega) HA.out.ok
      have HB1 := Lib.hid hu1
      have HB2 := Lib.hid hu2
      have HTR := Lib.hid ht2
      have HAP : Hid (∀ g o, A2 = some ⟨g, o, none⟩ → g ≠ sb ∧ v3.ownBlock ≠ some g) := Lib.hid (fun g o e => ⟨fun e2 => by have := hu3 g o e; have := T.b.st.lt; omega, fun e2 => by have := hu3 g o e; have := T.b.st.row.lt e2; omega⟩)
      have h0 : Below wr.heap.size wr wr.drew := (Below.refl _ _).drew
      have hV0 : Below wr.heap.size wr (wr.drew.alloc (.cells #[] 29)) := (Below.refl _ _).drew.alloc (Nat.le_refl _) _
      have hsF := fun W => slFA g o q ca i (by omega) (by omega) W
      have hsT := fun W => slTA g o q ca i (by omega) W
      have hz4 : (i : Int) ≤ (q : Int) := by omega
      have hz5 : (i : Int) ≤ (ca : Int) := by omega
      have hz6 : ¬ ca = i := by omega
      have hh1 : ∀ n, Has la n ↔ CovL ac n := fun n => by rw [HH.out, ← HA.out.len, List.take_length]
      have HH1 := Lib.hid hh1
      have hac2 := ht2.len
      clear T hh htri hrg hgl hu1 hu2 hu3 ht2 hh1
      go_upto_region 12 with (fail)
      refine wp_region_held_drew (S := fun V => Below wr.heap.size wr V) (by kernel_rfl) h0 (fun _ => ?_)
      refine held_take (i := 1) (v := .slice (some ⟨g, o, none⟩) q ca) (some 46) rfl rfl (by kernel_rfl) (by kernel_rfl) (by kernel_rfl) (fun _ _ _ h => h) (Or.inl ⟨by rfl, fun W hW => by go_simp⟩) h0 ?_
      simp only [Act.put, List.setIfInBounds_toArray, List.set_cons_zero, List.set_cons_succ]
      refine held_take (i := 2) (v := .int .i64 (i : Int)) (some 47) rfl rfl (by kernel_rfl) (by kernel_rfl) (by kernel_rfl) (fun _ _ _ h => h) (Or.inl ⟨by rfl, fun W hW => by go_simp⟩) h0 ?_
      simp only [Act.put, List.setIfInBounds_toArray, List.set_cons_zero, List.set_cons_succ]
      refine held_take (i := 3) (v := .slice (some ⟨g, o + i * 3, none⟩) (q - i) (ca - i)) (some 48) rfl rfl (by kernel_rfl) (by kernel_rfl) (by kernel_rfl) (fun _ _ _ h => h) (Or.inl ⟨by rfl, fun W hW => by go_simp⟩) h0 ?_
      simp only [Act.put, List.setIfInBounds_toArray, List.set_cons_zero, List.set_cons_succ]
      refine held_take (i := 5) (v := .slice (some ⟨g, o, none⟩) q ca) (some 50) rfl rfl (by kernel_rfl) (by kernel_rfl) (by kernel_rfl) (fun _ _ _ h => h) (Or.inl ⟨by rfl, fun W hW => by go_simp⟩) h0 ?_
      simp only [Act.put, List.setIfInBounds_toArray, List.set_cons_zero, List.set_cons_succ]
      refine held_take (i := 6) (v := .int .i64 (i : Int)) (some 51) rfl rfl (by kernel_rfl) (by kernel_rfl) (by kernel_rfl) (fun _ _ _ h => h) (Or.inl ⟨by rfl, fun W hW => by go_simp⟩) h0 ?_
      simp only [Act.put, List.setIfInBounds_toArray, List.set_cons_zero, List.set_cons_succ]
      refine held_take (i := 7) (v := .slice (some ⟨g, o, none⟩) i ca) (some 52) rfl rfl (by kernel_rfl) (by kernel_rfl) (by kernel_rfl) (fun _ _ _ h => h) (Or.inl ⟨by rfl, fun W hW => by go_simp⟩) h0 ?_
      simp only [Act.put, List.setIfInBounds_toArray, List.set_cons_zero, List.set_cons_succ]
      refine held_take (i := 10) (v := .int .i64 0) (some 55) rfl rfl (by kernel_rfl) (by kernel_rfl) (by kernel_rfl) (fun _ _ _ h => h) (Or.inl ⟨by rfl, fun W hW => by go_simp⟩) h0 ?_
      simp only [Act.put, List.setIfInBounds_toArray, List.set_cons_zero, List.set_cons_succ]
      refine wpAnyH_ready (rs := [0]) (by kernel_rfl) (by simp) ?_
      refine AllReadyH.cons rfl (fun K hK => ?_) AllReadyH.nil
      go_simp
      refine hK.out _ _ hV0 (fun _ => ?_)
      clear hK
      try simp only [Act.put, List.setIfInBounds_toArray, List.set_cons_zero, List.set_cons_succ]
      refine wpAnyH_ready (rs := [4]) (by kernel_rfl) (by simp) ?_
      refine AllReadyH.cons rfl (fun K hK => ?_) AllReadyH.nil
      refine step_app _ rfl (.tmp 45) (.tmp 48) 22 rfl _ _ (by rfl) (by rfl) _ _ (hr1 _) ?_
      show K (Act.put _ (some 49) _) _
      refine hK.out _ _ HB1.out (fun _ => ?_)
      clear hK
      try simp only [Act.put, List.setIfInBounds_toArray, List.set_cons_zero, List.set_cons_succ]
      refine wpAnyH_ready (rs := [8]) (by kernel_rfl) (by simp) ?_
      refine AllReadyH.cons rfl (fun K hK => ?_) AllReadyH.nil
      refine step_app _ rfl (.tmp 49) (.tmp 52) 22 rfl _ _ (by rfl) (by rfl) _ _ (hr2 _) ?_
      show K (Act.put _ (some 53) _) _
      refine hK.out _ _ HB2.out (fun _ => ?_)
      clear hK
      try simp only [Act.put, List.setIfInBounds_toArray, List.set_cons_zero, List.set_cons_succ]
      refine held_take (i := 9) (v := .int .i64 (q : Int)) (some 54) rfl rfl (by kernel_rfl) (by kernel_rfl) (by kernel_rfl) (fun _ _ _ h => h) (Or.inl ⟨by rfl, fun W hW => by go_simp⟩) HB2.out ?_
      simp only [Act.put, List.setIfInBounds_toArray, List.set_cons_zero, List.set_cons_succ]
      refine wpAnyH_done (by kernel_rfl) ?_ _
      have HT2 := Lib.hid (HT.out.below HB2.out)
      have hp2 := HTR.out.cap
      have hp3 := HTR.out.max
      clear hr1 hr2 hsF hsT h0 hV0 HB1
      go_wp2_with fail
      go_loopw [55] (fun ix wr => ∃ (p : Nat) (vb : Value) (lb : List Rn), p ≤ q ∧ ix = .int .i64 (p : Int) ∧ Two2 W wr sa sb va vb la lb ∧ (∀ n, Has lb n ↔ CovL ((ac.drop i ++ ac.take i).take p) n) ∧ Tri wr A2 q c2 (ac.drop i ++ ac.take i) ∧ ∀ g o, A2 = some ⟨g, o, none⟩ → g ≠ sb ∧ vb.ownBlock ≠ some g) (fun ix _ => q - (intOf ix).toNat)
      case atStart => exact ⟨0, _, _, Nat.zero_le _, rfl, HT2.out, fun n => ⟨fun h => absurd h (has_nil n), fun ⟨r, hr, _⟩ => by simp at hr⟩, HTR.out, HAP.out⟩
      case round =>
        obtain ⟨p, vb, lb, hp, rfl, T, hh, ht, hap⟩ := hrel
        have HT := Lib.hid T
        have HH := Lib.hid hh
        have HTY := Lib.hid ht
        have HAY := Lib.hid hap
        by_cases hpn : p < q
        · obtain ⟨g2, o2, rfl, hce⟩ := ht.mem (by omega)
          obtain ⟨x0, x1, x2⟩ := hce p hpn
          have hok := ht.elem hpn
          have HGL := Lib.hid (World.block_lt_of_cell? _ _ x0)
          have HCV := Lib.hid (fun n => covL_succ (l := ac.drop i ++ ac.take i) (q := p) (by rw [ht.len]; exact hpn) n)
          generalize (ac.drop i ++ ac.take i).getD p z3 = r at *
          obtain ⟨kd, f, gg⟩ := r
          dsimp only at *
          have HB := Lib.hid (T.below (below_a wr (.cells #[.int .i64 kd, .int .i64 f, .int .i64 gg] 29)))
          have HTB := Lib.hid (ht.below (below_a wr (.cells #[.int .i64 kd, .int .i64 f, .int .i64 gg] 29)))
          have HADD := Lib.hid (HB.out.b.add (isI_of hok.2.1) (isI_of hok.2.2))
          obtain ⟨e0, e1, e2⟩ := cell3 wr (.int .i64 kd) (.int .i64 f) (.int .i64 gg) 29
          have HSZ : Hid (wr.heap.size ≤ (wr.alloc (.cells #[.int .i64 kd, .int .i64 f, .int .i64 gg] 29)).heap.size) := Lib.hid (by simp)
          unfold ptr at HADD
          clear T hh hce hok ht hap
          go_wp2_with fail
          refine (HADD.out).mono ?_
          rintro e w5 ⟨v5, l5, rfl, s5, a5, _, c5, o5⟩
          have HT5 := Lib.hid (HB.out.symm.stepA s5 c5 o5).symm
          have HH5 := Lib.hid (a5.cov HH.out HCV.out)
          have HTR5 := Lib.hid (HTB.out.ch c5 (fun g o e h => h.elim (HAY.out g o e).1 (HAY.out g o e).2))
          have HAP5 : Hid (∀ g o, (some ⟨g2, o2, none⟩ : Option Addr) = some ⟨g, o, none⟩ → g ≠ sb ∧ v5.ownBlock ≠ some g) := Lib.hid (fun g o e => ⟨(HAY.out g o e).1, fun e3 => by
            rcases o5 g e3 with h | h
            · exact (HAY.out g o e).2 h
            · injection e with e
              injection e with e _ _
              have h1 := HGL.out
              have h2 := HSZ.out
              try dsimp only at h1
              omega⟩)
          clear s5 a5 c5 o5 HADD e0 e1 e2 x0 x1 x2
          go_wp2_with fail
          go_roundw
          case rel => exact ⟨p + 1, _, _, by omega, by go_num, HT5.out, HH5.out, HTR5.out, HAP5.out⟩
          case measure => simp [intOf]; omega
        · obtain rfl : p = q := by omega
          have hsame : la = lb := tid_ext T.a.st.tid T.b.st.tid fun n => by
            rw [HH1.out, hh, ← covL_rot ac i, ← ht.len, List.take_length]
          subst hsame
          have HR := Lib.hid (Runs_any T.a.st)
          unfold ptr at HR
          clear T hh ht hap
          go_wp2_with fail
          refine (HR.out).mono ?_
          rintro e w8 ⟨u8, rfl, r8, _, b8⟩
          have HT8 := Lib.hid (HT.out.below b8)
          have HR8 := Lib.hid r8
          have HRB := Lib.hid (Runs_any HT8.out.b.st)
          unfold ptr at HRB
          obtain ⟨A8, c8, rfl, hc1, hc2⟩ := r8.slice
          clear r8 b8 HR
          go_wp2_with fail
          refine (HRB.out).mono ?_
          rintro e w9 ⟨u9, rfl, r9, _, b9⟩
          have HT9 := Lib.hid (HT8.out.below b9)
          have HA9 := Lib.hid (HR8.out.below b9)
          have HR9 := Lib.hid r9
          obtain ⟨A9, c9, rfl, hc3, hc4⟩ := r9.slice
          generalize hln : la.length = n8 at *
          have HL := Lib.hid hln
          clear r9 b9 HRB hln
          go_wp2_with fail
          go_loopw [77] (fun ix wz => ∃ z : Nat, z ≤ n8 ∧ ix = .int .i64 (z : Int) ∧ Below w9.heap.size w9 wz) (fun ix _ => n8 - (intOf ix).toNat)
          case atStart => exact ⟨0, Nat.zero_le _, rfl, Below.refl _ _⟩
          case round =>
            obtain ⟨z, hz, rfl, bz⟩ := hrel
            have HBZ := Lib.hid bz
            by_cases hzn : z < n8
            · obtain ⟨g, o, rfl, y0, y1, _⟩ := (HA9.out.below bz).cells (j := z) (by rw [HL.out]; exact hzn)
              obtain ⟨g2, o2, rfl, y2, y3, _⟩ := (HR9.out.below bz).cells (j := z) (by rw [HL.out]; exact hzn)
              generalize la.getD z (0, 0) = r at *
              obtain ⟨ra, rb⟩ := r
              dsimp only at *
              clear bz
              go_upto_region 23 with (fail)
              go_quiet (fail)
              go_wp2_with fail
              go_roundw
              case rel => exact ⟨z + 1, by omega, by go_num, below_dn HBZ.out _⟩
              case measure => simp [intOf]; omega
            · obtain rfl : z = n8 := by omega
              go_wp2_with fail
              go_ret
              exact ⟨rfl, (HT9.out.below HBZ.out).a.bel⟩
end Go.Proofs.Yteiojdmnfjcagaa

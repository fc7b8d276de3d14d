/- The contracts of fill and bare: fields filled from bytes; whether nothing is left when a kind's own fields are taken off. Conditions: the slice holds an option's fields; the bytes are as many as they have. -/
import Derived.Test.YtbbpemndkphgeaaDoorOptL
import Derived.Test.YtbbpemndkphgeaaDoorTake
namespace Go.Proofs.YtbbpemndkphgeaaDoor
set_option linter.unusedVariables false
set_option linter.unusedSimpArgs false
open Go.RowKit

theorem drop_at2 {l : List (Nat × Nat)} {j : Nat} (h : j < l.length) : l.drop j = at2 l j :: l.drop (j + 1) := by
  rw [List.drop_eq_getElem_cons h]
  simp [at2, List.getD_eq_getElem?_getD, List.getElem?_eq_getElem h]
theorem long_cons (f : Nat × Nat) (r : List (Nat × Nat)) : long (f :: r) = f.2 + long r := by simp [long]
theorem wn_wide {k : Nat} (h : 1 ≤ k) (h' : k ≤ 8) : wn (k : Int) = k := by
  have := wn_mid (n := (k : Int)) (by omega) (by omega)
  omega
theorem pow_wide {k : Nat} (h : k ≤ 8) : 256 ^ k ≤ 18446744073709551616 := Nat.le_trans (Nat.pow_le_pow_right (by decide) h) (by decide)
theorem num_wide (b : List UInt8) {k : Nat} (h : k ≤ 8) : num (b.take k) < 18446744073709551616 := by
  have h1 := num_lt (b.take k)
  have h2 : 256 ^ (b.take k).length ≤ 256 ^ k := Nat.pow_le_pow_right (by decide) (List.length_take_le _ _)
  have h3 := pow_wide h
  omega

theorem prs_ok : ∀ (l : List (Nat × Nat)) (o : Opt) (b : List UInt8), o.ok → (∀ f ∈ l, spot f.1 ∧ 1 ≤ f.2 ∧ f.2 ≤ 8) → (prs o l b).ok
  | [], o, b, h, _ => h
  | f :: r, o, b, h, hf => by
    have h1 := hf f (List.mem_cons_self ..)
    exact prs_ok r _ _ (put_ok h (num_wide b h1.2.2) h1.1) fun x hx => hf x (List.mem_cons_of_mem _ hx)
/-- What fill leaves. -/
def FillMade (W : World) (g : Nat) (o : Opt) (l : List (Nat × Nat)) (bs : List UInt8) (e : Ending) (w' : World) : Prop :=
  e = .returned (.bool (okL l bs)) ∧ W.grownBy w' (some g) ∧ Bytes8 W w' ∧ (okL l bs = true → Own w' g (prs o l bs).vals)

/-- Where a round of fill stands. -/
def Fst (W : World) (A : Option Addr) (n c g : Nat) (o : Opt) (l : List (Nat × Nat)) (bs : List UInt8) (j : Nat) (v : Value) (wr : World) : Prop :=
  ∃ (A1 : Option Addr) (c1 : Nat) (b1 : List UInt8) (o1 : Opt), v = .slice A1 (long (l.drop j)) c1 ∧ RB wr A1 (long (l.drop j)) c1 b1 ∧ FL wr A n c g l ∧ Own wr g o1.vals ∧ W.grownBy wr (some g) ∧ Bytes8 W wr ∧
    okL l bs = okL (l.drop j) b1 ∧ prs o l bs = prs o1 (l.drop j) b1

set_option maxRecDepth 8000 in
set_option maxHeartbeats 1600000 in
theorem fill_any (A : Option Addr) (n c g : Nat) (l : List (Nat × Nat)) (o : Opt) (B : Option Addr) (d : Nat) (bs : List UInt8) (w : World) (h : FL w A n c g l) (hl : Fine l) (ho : Own w g o.vals) (hr : RB w B (long l) d bs) :
    Calls Tryd.prog 65 #[.slice A n c, .slice B (long l) d] w (FillMade w g o l bs) := by
  have hmx := h.max
  have hcp := h.cap
  have HLN := Lib.hid h.len
  have h48 : ∀ j, long (l.drop j) ≤ 48 := fun j => by
    have h1 := long_append (l.take j) (l.drop j)
    rw [List.take_append_drop] at h1
    have h2 := hl.long l.length
    rw [List.take_of_length_le (Nat.le_refl _)] at h2
    omega
  go_enter Tryd.func65, Tryd.ntmps65
  go_wp2_with fail
  go_loopw [1, 12] (fun v i wr => ∃ j : Nat, j ≤ n ∧ i = .int .i64 j ∧ Fst w A n c g o l bs j v wr) (fun _ i _ => n - (intOf i).toNat)
  case atStart => exact ⟨0, Nat.zero_le _, rfl, B, d, bs, o, rfl, hr, h, ho, v_g_refl w _, fun _ _ hp => hp, rfl, rfl⟩
  case round =>
    obtain ⟨j, hj, rfl, A1, c1, b1, o1, rfl, hr1, hf1, ho1, hg1, hy1, e1, e2⟩ := hrel
    have E1 := Lib.hid e1
    have E2 := Lib.hid e2
    clear h ho hr e1 e2
    by_cases hlt : j < n
    · obtain ⟨b, a, rfl, hc0⟩ := hf1.at_ hlt
      have hc : wr.rangeAt b (a + j * 2) (fv g (at2 l j)) := hc0
      have hw := hl.wide (j := j) (by rw [HLN.out]; exact hlt)
      have HD := Lib.hid (drop_at2 (l := l) (j := j) (by rw [HLN.out]; exact hlt))
      have hT := h48 j
      have HLG := Lib.hid (show long (l.drop j) = (at2 l j).2 + long (l.drop (j + 1)) from by rw [HD.out, long_cons])
      clear hc0 h48
      rw [HLG.out] at hr1 hT ⊢
      generalize hm : long (l.drop (j + 1)) = m at *
      have HM := Lib.hid hm
      clear hm
      generalize at2 l j = f at *
      have hwn := wn_wide hw.2.1 hw.2.2
      have hx := num_wide b1 hw.2.2
      have HT : Hid (∀ W, RB W A1 (f.2 + m) c1 b1 → Calls Tryd.prog 47 #[.slice A1 (f.2 + m) c1, .int .i64 (f.2 : Int)] W (TakeMade W (num (b1.take f.2)) m (b1.drop f.2))) := Lib.hid (fun W hW => by
        have := Take_ok A1 (f.2 + m) c1 (f.2 : Int) b1 W hW (by omega) (by omega)
        rw [hwn, show f.2 + m - f.2 = m from by omega] at this
        exact this)
      have HP := Lib.hid (fun W (h : Own W g o1.vals) => set_any g f o1 (num (b1.take f.2)) W h hx hw.1)
      have HOK : Hid (okL l bs = (okN f.1 (num (b1.take f.2)) && okL (l.drop (j + 1)) (b1.drop f.2))) := Lib.hid (by rw [E1.out, HD.out]; rfl)
      have HPR : Hid (prs o l bs = prs (o1.put f.1 (num (b1.take f.2))) (l.drop (j + 1)) (b1.drop f.2)) := Lib.hid (by rw [E2.out, HD.out]; rfl)
      generalize num (b1.take f.2) = x at *
      generalize b1.drop f.2 = b2 at *
      clear hwn
      have hcap := hr1.cap
      have hmax := hr1.max
      cases hk : okN f.1 x with
      | true =>
        rw [hk] at HP HOK
        clear hk
        go_wp2_with (first
          | ((with_reducible refine wpList_here ?_); refine wpList_loadV rfl 85 (.tmp 14) rfl b _ (fv g f) rfl hc _ Tryd.underlying85 rfl infoField ?_)
          | ((with_reducible refine wpList_here ?_); refine wpList_allocV rfl 85 rfl _ zeroField _ rfl ?_; intro w1 z1 d1 s1)
          | ((with_reducible refine wpList_here ?_); refine wpList_storeV rfl 85 (.tmp 6) (.tmp 15) rfl _ _ (fv g f) rfl rfl z1 rfl (fv_one g f) infoField ?_; intro w2 z2 g2 s2; have k2 : w2.cell? ⟨wr.heap.size, 1, none⟩ = some (.int .i64 (f.2 : Int)) := (z2 1 (Nat.succ_lt_succ (Nat.zero_lt_succ _))).1))
        have d2 := v_below_g d1 g2 d1.size (Nat.le_refl _)
        have r2 := hr1.below d2
        have f2 := hf1.below d2
        have o2 := ho1.below d2
        have g3 := hg1.trans (v_g_below d2 (some g))
        have y2 := hy1.trans (Bytes8.of_below d2)
        clear hr1 hf1 ho1 hg1 z1 d1 g2 d2 s1 s2 hc
        refine (HT.out _ r2).mono ?_
        rintro e w3 ⟨A2, c2, rfl, r3, d3⟩
        have z3 := z2.below d3
        have f3 := f2.below d3
        have o3 := o2.below d3
        have g4 := g3.trans (v_g_below d3 (some g))
        have y3 := y2.trans (Bytes8.of_below d3)
        clear r2 f2 o2 g3 d3 z2 k2
        go_wp2_with (first
          | ((with_reducible refine wpList_here ?_); refine wpList_loadV rfl 85 (.tmp 6) rfl _ _ (fv g f) rfl z3.range _ Tryd.underlying85 rfl infoField ?_))
        refine (HP.out _ o3).mono ?_
        rintro e w5 ⟨rfl, o5, g5, y5⟩
        have f5 := f3.put g5
        have r5 := r3.bytes y5
        have g6 := g4.trans g5
        have y6 := y3.trans y5
        clear o3 f3 r3 g4 g5 z3
        go_wp2_with fail
        go_roundw
        case rel => exact ⟨j + 1, by omega, by go_num, A2, c2, b2, _, by rw [HM.out], by rw [HM.out]; exact r5, f5, o5, g6, y6, by rw [HOK.out, Bool.true_and], HPR.out⟩
        case measure => simp [intOf]; omega
      | false =>
        rw [hk] at HP HOK
        clear hk
        go_wp2_with (first
          | ((with_reducible refine wpList_here ?_); refine wpList_loadV rfl 85 (.tmp 14) rfl b _ (fv g f) rfl hc _ Tryd.underlying85 rfl infoField ?_)
          | ((with_reducible refine wpList_here ?_); refine wpList_allocV rfl 85 rfl _ zeroField _ rfl ?_; intro w1 z1 d1 s1)
          | ((with_reducible refine wpList_here ?_); refine wpList_storeV rfl 85 (.tmp 6) (.tmp 15) rfl _ _ (fv g f) rfl rfl z1 rfl (fv_one g f) infoField ?_; intro w2 z2 g2 s2; have k2 : w2.cell? ⟨wr.heap.size, 1, none⟩ = some (.int .i64 (f.2 : Int)) := (z2 1 (Nat.succ_lt_succ (Nat.zero_lt_succ _))).1))
        have d2 := v_below_g d1 g2 d1.size (Nat.le_refl _)
        have r2 := hr1.below d2
        have f2 := hf1.below d2
        have o2 := ho1.below d2
        have g3 := hg1.trans (v_g_below d2 (some g))
        have y2 := hy1.trans (Bytes8.of_below d2)
        clear hr1 hf1 ho1 hg1 z1 d1 g2 d2 s1 s2 hc
        refine (HT.out _ r2).mono ?_
        rintro e w3 ⟨A2, c2, rfl, r3, d3⟩
        have z3 := z2.below d3
        have f3 := f2.below d3
        have o3 := o2.below d3
        have g4 := g3.trans (v_g_below d3 (some g))
        have y3 := y2.trans (Bytes8.of_below d3)
        clear r2 f2 o2 g3 d3 z2 k2
        go_wp2_with (first
          | ((with_reducible refine wpList_here ?_); refine wpList_loadV rfl 85 (.tmp 6) rfl _ _ (fv g f) rfl z3.range _ Tryd.underlying85 rfl infoField ?_))
        refine (HP.out _ o3).mono ?_
        rintro e w5 ⟨rfl, o5, g5, y5⟩
        have f5 := f3.put g5
        have r5 := r3.bytes y5
        have g6 := g4.trans g5
        have y6 := y3.trans y5
        clear o3 f3 r3 g4 g5 z3
        go_wp2_with fail
        go_ret
        exact ⟨by rw [HOK.out]; rfl, g6, y6, fun hc => by rw [HOK.out] at hc; cases hc⟩
    · obtain rfl : j = n := by omega
      have HD := Lib.hid (show l.drop j = [] from List.drop_eq_nil_of_le (by rw [HLN.out]; exact Nat.le_refl _))
      have E3 : Hid (okL l bs = true) := Lib.hid (by rw [E1.out, HD.out]; rfl)
      have E4 : Hid (prs o l bs = o1) := Lib.hid (by rw [E2.out, HD.out]; rfl)
      go_wp2_with fail
      go_ret
      exact ⟨by rw [E3.out]; rfl, hg1, hy1, fun _ => by rw [E4.out]; exact ho1⟩
end Go.Proofs.YtbbpemndkphgeaaDoor

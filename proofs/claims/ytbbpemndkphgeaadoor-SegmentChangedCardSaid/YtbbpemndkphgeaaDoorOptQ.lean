/- The contracts of bare and told: whether nothing is left of an option when its kind's own fields are taken off; its bytes. Condition: each of its numbers is one of its kind. -/
import Derived.Test.YtbbpemndkphgeaaDoorOptP
import Derived.Test.YtbbpemndkphgeaaDoorOptU
namespace Go.Proofs.YtbbpemndkphgeaaDoor
set_option linter.unusedVariables false
set_option linter.unusedSimpArgs false
open Go.RowKit

set_option maxRecDepth 8000 in
set_option maxHeartbeats 1600000 in
theorem bare_any (o : Opt) (w : World) :
    Calls Tryd.prog 56 #[.agg o.vals.toArray] w fun e w' => e = .returned (.bool (eqO (bareO o (tab o.kind)) (zK o.kind))) ∧ Below w.heap.size w w' := by
  have hl := fine_tab o.kind
  go_enter Tryd.func56, Tryd.ntmps56
  go_wp2_with (first
    | ((with_reducible refine wpList_here ?_); refine wpList_boxV rfl 52 (.tmp 0) rfl o.vals rfl _ rfl ?_; intro w1 z1 b1 s1))
  refine (fields_any w.heap.size o w1 z1).mono ?_
  rintro e w2 ⟨A, c, rfl, f2, b2⟩
  have z2 := z1.below b2
  have b3 := below_trans b1 b2
  clear z1 b1 b2 s1
  generalize htab : tab o.kind = l at *
  have HTAB := Lib.hid htab
  clear htab
  have hmx := f2.max
  have hcp := f2.cap
  go_wp2_with fail
  go_loopw [7] (fun i wr => ∃ (j : Nat) (o1 : Opt), j ≤ l.length ∧ i = .int .i64 j ∧ FL wr A l.length c w.heap.size l ∧ Own wr w.heap.size o1.vals ∧ bareO o l = bareO o1 (l.drop j) ∧ o1.kind = o.kind ∧ Below w.heap.size w wr) (fun i _ => l.length - (intOf i).toNat)
  case atStart => exact ⟨0, o, Nat.zero_le _, rfl, f2, z2, rfl, rfl, b3⟩
  case round =>
    obtain ⟨j, o1, hj, rfl, hf1, ho1, e1, e2, hb⟩ := hrel
    have E1 := Lib.hid e1
    have E2 := Lib.hid e2
    clear e1 e2 f2 z2 b3
    by_cases hlt : j < l.length
    · obtain ⟨b, a, rfl, hc0⟩ := hf1.at_ hlt
      have hc : wr.rangeAt b (a + j * 2) (fv w.heap.size (at2 l j)) := hc0
      have hw := hl.wide (j := j) hlt
      have HP := Lib.hid (fun W (h : Own W w.heap.size o1.vals) => set_any w.heap.size (at2 l j) o1 0 W h (by omega) hw.1)
      have HE : Hid (bareO o l = bareO (o1.put (at2 l j).1 0) (l.drop (j + 1))) := Lib.hid (by rw [E1.out, drop_at2 hlt]; rfl)
      have HK : Hid ((o1.put (at2 l j).1 0).kind = o.kind) := Lib.hid (by rw [put_kind, E2.out])
      clear hc0
      generalize at2 l j = f at *
      go_wp2_with (first
        | ((with_reducible refine wpList_here ?_); refine wpList_loadV rfl 85 (.tmp 9) rfl b _ (fv w.heap.size f) rfl hc _ Tryd.underlying85 rfl infoField ?_)
        | ((with_reducible refine wpList_here ?_); refine wpList_allocV rfl 85 rfl _ zeroField _ rfl ?_; intro w1 z1 d1 s1)
        | ((with_reducible refine wpList_here ?_); refine wpList_storeV rfl 85 (.tmp 4) (.tmp 10) rfl _ _ (fv w.heap.size f) rfl rfl z1 rfl (fv_one w.heap.size f) infoField ?_; intro w2 z2 g2 s2)
        | ((with_reducible refine wpList_here ?_); refine wpList_loadV rfl 85 (.tmp 4) rfl _ _ (fv w.heap.size f) rfl z2.range _ Tryd.underlying85 rfl infoField ?_))
      have d2 := v_below_g d1 g2 d1.size (Nat.le_refl _)
      refine (HP.out _ (ho1.below d2)).mono ?_
      rintro e w5 ⟨rfl, o5, g5, y5⟩
      have f5 := (hf1.below d2).put g5
      have b5 := v_below_g (below_trans hb d2) g5 (by have := hb.size; have := d2.size; omega) (Nat.le_refl _)
      clear hf1 ho1 hb z1 d1 g2 d2 s1 s2 hc z2 y5 g5
      go_wp2_with fail
      go_roundw
      case rel => exact ⟨j + 1, _, by omega, by go_num, f5, o5, HE.out, HK.out, b5⟩
      case measure => simp [intOf]; omega
    · obtain rfl : j = l.length := by omega
      have HD : Hid (bareO o l = o1) := Lib.hid (by rw [E1.out, List.drop_eq_nil_of_le (Nat.le_refl _)]; rfl)
      have k1 : wr.cell? ⟨w.heap.size, 0, none⟩ = some (.int .i64 o1.kind) := (ho1 0 (Nat.zero_lt_succ _)).1
      go_wp2_with (first
        | ((with_reducible refine wpList_here ?_); refine wpList_loadV rfl 52 (.tmp 1) rfl _ _ o1.vals rfl ho1.range _ Tryd.underlying52 rfl infoOpt ?_)
        | ((with_reducible refine wpList_here ?_); refine wpList_eqO rfl (.tmp 14) (.tmp 17) _ rfl o1 (zK o1.kind) rfl rfl ?_))
      go_ret
      rw [HTAB.out, HD.out, ← E2.out]
      exact ⟨rfl, hb⟩

/-- What stands in each world of a round of told. -/
def Tst (wr W : World) (g q : Nat) (o : Opt) (f : Nat × Nat) (A : Option Addr) (n c : Nat) (b : List UInt8) : Prop := Own W g o.vals ∧ Own W q (fv g f) ∧ RB W A n c b ∧ Below wr.heap.size wr W
section
variable {wr W W' : World} {g q n c : Nat} {o : Opt} {f : Nat × Nat} {A : Option Addr} {b : List UInt8}
theorem Tst.keep (h : Tst wr W g q o f A n c b) (hb : Below W.heap.size W W') : Tst wr W' g q o f A n c b := ⟨h.1.below hb, h.2.1.below hb, h.2.2.1.below hb, below_trans h.2.2.2 hb⟩
theorem Tst.c0 (h : Tst wr W g q o f A n c b) : W.cell? ⟨q, 0, none⟩ = some (.iface (pt f.1) (.pointer (some ⟨g, f.1, none⟩))) := (h.2.1 0 (Nat.zero_lt_succ _)).1
theorem Tst.c1 (h : Tst wr W g q o f A n c b) : W.cell? ⟨q, 1, none⟩ = some (.int .i64 (f.2 : Int)) := (h.2.1 1 (Nat.succ_lt_succ (Nat.zero_lt_succ _))).1
end
theorem toldB_append (o : Opt) (a b : List (Nat × Nat)) : toldB o (a ++ b) = toldB o a ++ toldB o b := by simp [toldB]
theorem toldB_one (o : Opt) (f : Nat × Nat) : toldB o [f] = be (o.num f.1) f.2 := by simp [toldB]
/-- An option's bytes. -/
def ob (o : Opt) : List UInt8 := be (u64 o.kind) 1 ++ toldB o (tab o.kind)

set_option maxRecDepth 8000 in
set_option maxHeartbeats 1600000 in
theorem told_any (o : Opt) (w : World) (hok : o.ok) :
    Calls Tryd.prog 38 #[.agg o.vals.toArray] w (OwnMade w (1 + long (tab o.kind)) (ob o)) := by
  have hl := fine_tab o.kind
  have h48 := hl.long
  have hP : ∀ W, Calls Tryd.prog 39 #[.slice none 0 0, .int .u64 (IntKind.u64.wrap o.kind), .int .i64 1] W (OwnMade W (1 + 0) (be (u64 o.kind) 1)) := fun W => by
    rw [wrap_u64]
    have e : wn 1 = 1 := rfl
    have := Put_own none 0 0 (u64 o.kind) 1 [] W (RB.nil_ W) (u64_lt _) (by omega)
    rw [e, List.nil_append] at this
    exact this
  have HP := Lib.hid hP
  clear hP
  go_enter Tryd.func38, Tryd.ntmps38
  go_wp2_with (first
    | ((with_reducible refine wpList_here ?_); refine wpList_boxV rfl 52 (.tmp 0) rfl o.vals rfl _ rfl ?_; intro w1 z1 b1 s1; have k1 : w1.cell? ⟨w.heap.size, 0, none⟩ = some (.int .i64 o.kind) := (z1 0 (Nat.zero_lt_succ _)).1))
  refine (HP.out _).mono ?_
  rintro e w2 ⟨A2, c2, rfl, r2, q2, b2⟩
  have q3 := own_mono q2 b1.size
  have z2 := z1.below b2
  have b3 := below_trans b1 b2
  clear z1 b1 b2 s1 k1 q2
  go_wp2_with fail
  refine (fields_any w.heap.size o w2 z2).mono ?_
  rintro e w4 ⟨A, c, rfl, f4, b4⟩
  have z4 := z2.below b4
  have r4 := r2.below b4
  have q4 := own_below q3 b4
  have b5 := below_trans b3 b4
  clear z2 b4 b3 r2 q3
  have HOB := Lib.hid (show ob o = be (u64 o.kind) 1 ++ toldB o (tab o.kind) from rfl)
  generalize be (u64 o.kind) 1 = K at *
  generalize htab : tab o.kind = l at *
  clear htab
  have hmx := f4.max
  have hcp := f4.cap
  go_wp2_with fail
  go_loopw [3, 12] (fun v i wr => ∃ (j : Nat) (A1 : Option Addr) (c1 : Nat), j ≤ l.length ∧ i = .int .i64 j ∧ v = .slice A1 (1 + long (l.take j)) c1 ∧ RB wr A1 (1 + long (l.take j)) c1 (K ++ toldB o (l.take j)) ∧ wr.ownsRow w.heap.size 5 1 (.slice A1 (1 + long (l.take j)) c1) (1 + long (l.take j)) (bv (K ++ toldB o (l.take j))) ∧ FL wr A l.length c w.heap.size l ∧ Own wr w.heap.size o.vals ∧ Below w.heap.size w wr) (fun _ i _ => l.length - (intOf i).toNat)
  case atStart => exact ⟨0, A2, c2, Nat.zero_le _, rfl, rfl, by rw [List.take_zero, show toldB o [] = [] from rfl, List.append_nil]; exact r4, by rw [List.take_zero, show toldB o [] = [] from rfl, List.append_nil]; exact q4, f4, z4, b5⟩
  case round =>
    obtain ⟨j, A1, c1, hj, rfl, rfl, hr1, hq1, hf1, ho1, hb⟩ := hrel
    clear f4 z4 b5 r4 q4
    by_cases hlt : j < l.length
    · clear hq1
      obtain ⟨b, a, rfl, hc0⟩ := hf1.at_ hlt
      have hc : wr.rangeAt b (a + j * 2) (fv w.heap.size (at2 l j)) := hc0
      have hw := hl.wide (j := j) hlt
      have hT := h48 j
      have HLG := Lib.hid (show long (l.take (j + 1)) = long (l.take j) + (at2 l j).2 from by rw [take_at2 hlt, long_append, long_one])
      have HTB := Lib.hid (show toldB o (l.take (j + 1)) = toldB o (l.take j) ++ be (o.num (at2 l j).1) (at2 l j).2 from by rw [take_at2 hlt, toldB_append, toldB_one])
      have hx := num_lt64 hok hw.1
      have HN := Lib.hid (fun W h => number_any w.heap.size (at2 l j) o W h hok hw.1)
      have HPT : Hid (∀ W, RB W A1 (1 + long (l.take j)) c1 (K ++ toldB o (l.take j)) → Calls Tryd.prog 39 #[.slice A1 (1 + long (l.take j)) c1, .int .u64 (o.num (at2 l j).1 : Nat), .int .i64 ((at2 l j).2 : Int)] W (OwnMade W (1 + long (l.take j) + (at2 l j).2) (K ++ toldB o (l.take j) ++ be (o.num (at2 l j).1) (at2 l j).2))) := Lib.hid (fun W hW => by
        have := Put_own A1 (1 + long (l.take j)) c1 (o.num (at2 l j).1) ((at2 l j).2 : Int) _ W hW hx (by omega)
        rw [wn_wide hw.2.1 hw.2.2] at this
        exact this)
      clear hc0 h48 HP
      generalize long (l.take j) = m at *
      generalize toldB o (l.take j) = t at *
      generalize at2 l j = f at *
      go_wp2_with (first
        | ((with_reducible refine wpList_here ?_); refine wpList_loadV rfl 85 (.tmp 14) rfl b _ (fv w.heap.size f) rfl hc _ Tryd.underlying85 rfl infoField ?_)
        | ((with_reducible refine wpList_here ?_); refine wpList_allocV rfl 85 rfl _ zeroField _ rfl ?_; intro w1 z1 d1 s1)
        | ((with_reducible refine wpList_here ?_); refine wpList_storeV rfl 85 (.tmp 5) (.tmp 15) rfl _ _ (fv w.heap.size f) rfl rfl z1 rfl (fv_one w.heap.size f) infoField ?_; intro w2 z2 g2 s2))
      have d2 := v_below_g d1 g2 d1.size (Nat.le_refl _)
      have h0 : Tst wr w2 w.heap.size wr.heap.size o f A1 (1 + m) c1 (K ++ t) := ⟨ho1.below d2, z2, hr1.below d2, d2⟩
      have h1 := h0.c0
      have h2 := h0.c1
      have h0d := h0.keep (Below.refl _ _).drew
      clear hc z1 d1 g2 z2 s1 s2 d2 hr1
      go_region_held3 (fun W => W.cell? ⟨wr.heap.size, 0, none⟩ = some (.iface (pt f.1) (.pointer (some ⟨w.heap.size, f.1, none⟩))) ∧ W.cell? ⟨wr.heap.size, 1, none⟩ = some (.int .i64 (f.2 : Int)) ∧ (Tst wr W w.heap.size wr.heap.size o f A1 (1 + m) c1 (K ++ t)))
        (first
          | exact ⟨h0.c0, h0.c1, h0⟩
          | exact ⟨h4.c0, h4.c1, h4⟩
          | exact ⟨h3.c0, h3.c1, h3⟩
          | exact ⟨h0d.c0, h0d.c1, h0d⟩)
        (first
          | (go_at_call 57; refine (HN.out _ h0d.1).mono ?_; rintro e w9 ⟨rfl, b9⟩; have h3 := h0d.keep b9)
          | (go_at_call 39; refine (HPT.out _ h3.2.2.1).mono ?_; rintro e w10 ⟨A9, c9, rfl, r9, q9, b10⟩; have q10 := own_mono q9 (Nat.le_trans hb.size h3.2.2.2.size); have h4 := h3.keep b10))
      have f9 := hf1.below h4.2.2.2
      have o9 := h4.1
      have b9' := below_trans hb h4.2.2.2
      clear h0 h1 h2 h0d h3 hf1 ho1 hb q9
      go_wp2_with fail
      go_roundw
      case rel => exact ⟨j + 1, A9, c9, by omega, by go_num, by rw [HLG.out, Nat.add_assoc], by rw [HLG.out, HTB.out, ← Nat.add_assoc, ← List.append_assoc]; exact r9, by rw [HLG.out, HTB.out, ← Nat.add_assoc, ← List.append_assoc]; exact q10, f9, o9, b9'⟩
      case measure => simp [intOf]; omega
    · obtain rfl : j = l.length := by omega
      rw [List.take_of_length_le (Nat.le_refl _)] at *
      go_wp2_with fail
      go_ret
      exact ⟨_, _, rfl, by rw [HOB.out]; exact hr1, by rw [HOB.out]; exact hq1, hb⟩
end Go.Proofs.YtbbpemndkphgeaaDoor

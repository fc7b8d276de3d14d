/- The contracts of bare and told: whether nothing is left of an option when its kind's own fields are taken off; its bytes. Condition: each of its numbers is one of its kind.
The contracts of acked, mapped, bounded and Right: what an option may have. Condition: each of its numbers is one of its kind.
Slices of pieces of the call's own: what they hold, and append of pieces onto them. Condition: what comes out has at most 2^40 pieces.
The contract of option.Put: the bytes of all options, or none, if one isn't right. Conditions: the slice holds options, at most a thousand of them. -/
import Derived.Test.YtbbpemndkphgeaaDoorMg7
import Derived.Test.YtbbpemndkphgeaaDoorMg3
namespace Go.Proofs.YtbbpemndkphgeaaDoor
set_option linter.unusedVariables false
set_option linter.unusedSimpArgs false
open Go.RowKit

set_option maxRecDepth 8000 in
set_option maxHeartbeats 1600000 in
theorem bare_any (o : Opt) (w : World) :
    Calls Tryd.prog 56 #[.agg o.vals.toArray] w fun e w' => e = .returned (.bool (eqO (bareO o (tab o.kind)) (zK o.kind))) ∧ Below w.heap.size w w' := by
  have hl := fine_tab o.kind
  go_enter Tryd.func56, Tryd.ntmps56
  go_wp2_with (first
    | ((with_reducible refine wpList_here ?_); refine wpList_boxV rfl 52 (.tmp 0) rfl o.vals rfl _ rfl ?_; intro w1 z1 b1 s1))
  refine (fields_any w.heap.size o w1 z1).mono ?_
  rintro e w2 ⟨A, c, rfl, f2, b2⟩
  have z2 := z1.below b2
  have b3 := below_trans b1 b2
  clear z1 b1 b2 s1
  generalize htab : tab o.kind = l at *
  have HTAB := Lib.hid htab
  clear htab
  have hmx := f2.max
  have hcp := f2.cap
  go_wp2_with fail
  go_loopw [7] (fun i wr => ∃ (j : Nat) (o1 : Opt), j ≤ l.length ∧ i = .int .i64 j ∧ FL wr A l.length c w.heap.size l ∧ Own wr w.heap.size o1.vals ∧ bareO o l = bareO o1 (l.drop j) ∧ o1.kind = o.kind ∧ Below w.heap.size w wr) (fun i _ => l.length - (intOf i).toNat)
  case atStart => exact ⟨0, o, Nat.zero_le _, rfl, f2, z2, rfl, rfl, b3⟩
  case round =>
    obtain ⟨j, o1, hj, rfl, hf1, ho1, e1, e2, hb⟩ := hrel
    have E1 := Lib.hid e1
    have E2 := Lib.hid e2
    clear e1 e2 f2 z2 b3
    by_cases hlt : j < l.length
    · obtain ⟨b, a, rfl, hc0⟩ := hf1.at_ hlt
      have hc : wr.rangeAt b (a + j * 2) (fv w.heap.size (at2 l j)) := hc0
      have hw := hl.wide (j := j) hlt
      have HP := Lib.hid (fun W (h : Own W w.heap.size o1.vals) => set_any w.heap.size (at2 l j) o1 0 W h (by omega) hw.1)
      have HE : Hid (bareO o l = bareO (o1.put (at2 l j).1 0) (l.drop (j + 1))) := Lib.hid (by rw [E1.out, drop_at2 hlt]; rfl)
      have HK : Hid ((o1.put (at2 l j).1 0).kind = o.kind) := Lib.hid (by rw [put_kind, E2.out])
      clear hc0
      generalize at2 l j = f at *
      go_wp2_with (first
        | ((with_reducible refine wpList_here ?_); refine wpList_loadV rfl 85 (.tmp 9) rfl b _ (fv w.heap.size f) rfl hc _ Tryd.underlying85 rfl infoField ?_)
        | ((with_reducible refine wpList_here ?_); refine wpList_allocV rfl 85 rfl _ zeroField _ rfl ?_; intro w1 z1 d1 s1)
        | ((with_reducible refine wpList_here ?_); refine wpList_storeV rfl 85 (.tmp 4) (.tmp 10) rfl _ _ (fv w.heap.size f) rfl rfl z1 rfl (fv_one w.heap.size f) infoField ?_; intro w2 z2 g2 s2)
        | ((with_reducible refine wpList_here ?_); refine wpList_loadV rfl 85 (.tmp 4) rfl _ _ (fv w.heap.size f) rfl z2.range _ Tryd.underlying85 rfl infoField ?_))
      have d2 := v_below_g d1 g2 d1.size (Nat.le_refl _)
      refine (HP.out _ (ho1.below d2)).mono ?_
      rintro e w5 ⟨rfl, o5, g5, y5⟩
      have f5 := (hf1.below d2).put g5
      have b5 := v_below_g (below_trans hb d2) g5 (by have := hb.size; have := d2.size; omega) (Nat.le_refl _)
      clear hf1 ho1 hb z1 d1 g2 d2 s1 s2 hc z2 y5 g5
      go_wp2_with fail
      go_roundw
      case rel => exact ⟨j + 1, _, by omega, by go_num, f5, o5, HE.out, HK.out, b5⟩
      case measure => simp [intOf]; omega
    · obtain rfl : j = l.length := by omega
      have HD : Hid (bareO o l = o1) := Lib.hid (by rw [E1.out, List.drop_eq_nil_of_le (Nat.le_refl _)]; rfl)
      have k1 : wr.cell? ⟨w.heap.size, 0, none⟩ = some (.int .i64 o1.kind) := (ho1 0 (Nat.zero_lt_succ _)).1
      go_wp2_with (first
        | ((with_reducible refine wpList_here ?_); refine wpList_loadV rfl 52 (.tmp 1) rfl _ _ o1.vals rfl ho1.range _ Tryd.underlying52 rfl infoOpt ?_)
        | ((with_reducible refine wpList_here ?_); refine wpList_eqO rfl (.tmp 14) (.tmp 17) _ rfl o1 (zK o1.kind) rfl rfl ?_))
      go_ret
      rw [HTAB.out, HD.out, ← E2.out]
      exact ⟨rfl, hb⟩

/-- What stands in each world of a round of told. -/
def Tst (wr W : World) (g q : Nat) (o : Opt) (f : Nat × Nat) (A : Option Addr) (n c : Nat) (b : List UInt8) : Prop := Own W g o.vals ∧ Own W q (fv g f) ∧ RB W A n c b ∧ Below wr.heap.size wr W
section
variable {wr W W' : World} {g q n c : Nat} {o : Opt} {f : Nat × Nat} {A : Option Addr} {b : List UInt8}
theorem Tst.keep (h : Tst wr W g q o f A n c b) (hb : Below W.heap.size W W') : Tst wr W' g q o f A n c b := ⟨h.1.below hb, h.2.1.below hb, h.2.2.1.below hb, below_trans h.2.2.2 hb⟩
theorem Tst.c0 (h : Tst wr W g q o f A n c b) : W.cell? ⟨q, 0, none⟩ = some (.iface (pt f.1) (.pointer (some ⟨g, f.1, none⟩))) := (h.2.1 0 (Nat.zero_lt_succ _)).1
theorem Tst.c1 (h : Tst wr W g q o f A n c b) : W.cell? ⟨q, 1, none⟩ = some (.int .i64 (f.2 : Int)) := (h.2.1 1 (Nat.succ_lt_succ (Nat.zero_lt_succ _))).1
end
theorem toldB_append (o : Opt) (a b : List (Nat × Nat)) : toldB o (a ++ b) = toldB o a ++ toldB o b := by simp [toldB]
theorem toldB_one (o : Opt) (f : Nat × Nat) : toldB o [f] = be (o.num f.1) f.2 := by simp [toldB]
/-- An option's bytes. -/
def ob (o : Opt) : List UInt8 := be (u64 o.kind) 1 ++ toldB o (tab o.kind)

set_option maxRecDepth 8000 in
set_option maxHeartbeats 1600000 in
theorem told_any (o : Opt) (w : World) (hok : o.ok) :
    Calls Tryd.prog 38 #[.agg o.vals.toArray] w (OwnMade w (1 + long (tab o.kind)) (ob o)) := by
  have hl := fine_tab o.kind
  have h48 := hl.long
  have hP : ∀ W, Calls Tryd.prog 39 #[.slice none 0 0, .int .u64 (IntKind.u64.wrap o.kind), .int .i64 1] W (OwnMade W (1 + 0) (be (u64 o.kind) 1)) := fun W => by
    rw [wrap_u64]
    have e : wn 1 = 1 := rfl
    have := Put_own none 0 0 (u64 o.kind) 1 [] W (RB.nil_ W) (u64_lt _) (by omega)
    rw [e, List.nil_append] at this
    exact this
  have HP := Lib.hid hP
  clear hP
  go_enter Tryd.func38, Tryd.ntmps38
  go_wp2_with (first
    | ((with_reducible refine wpList_here ?_); refine wpList_boxV rfl 52 (.tmp 0) rfl o.vals rfl _ rfl ?_; intro w1 z1 b1 s1; have k1 : w1.cell? ⟨w.heap.size, 0, none⟩ = some (.int .i64 o.kind) := (z1 0 (Nat.zero_lt_succ _)).1))
  refine (HP.out _).mono ?_
  rintro e w2 ⟨A2, c2, rfl, r2, q2, b2⟩
  have q3 := own_mono q2 b1.size
  have z2 := z1.below b2
  have b3 := below_trans b1 b2
  clear z1 b1 b2 s1 k1 q2
  go_wp2_with fail
  refine (fields_any w.heap.size o w2 z2).mono ?_
  rintro e w4 ⟨A, c, rfl, f4, b4⟩
  have z4 := z2.below b4
  have r4 := r2.below b4
  have q4 := own_below q3 b4
  have b5 := below_trans b3 b4
  clear z2 b4 b3 r2 q3
  have HOB := Lib.hid (show ob o = be (u64 o.kind) 1 ++ toldB o (tab o.kind) from rfl)
  generalize be (u64 o.kind) 1 = K at *
  generalize htab : tab o.kind = l at *
  clear htab
  have hmx := f4.max
  have hcp := f4.cap
  go_wp2_with fail
  go_loopw [3, 12] (fun v i wr => ∃ (j : Nat) (A1 : Option Addr) (c1 : Nat), j ≤ l.length ∧ i = .int .i64 j ∧ v = .slice A1 (1 + long (l.take j)) c1 ∧ RB wr A1 (1 + long (l.take j)) c1 (K ++ toldB o (l.take j)) ∧ wr.ownsRow w.heap.size 5 1 (.slice A1 (1 + long (l.take j)) c1) (1 + long (l.take j)) (bv (K ++ toldB o (l.take j))) ∧ FL wr A l.length c w.heap.size l ∧ Own wr w.heap.size o.vals ∧ Below w.heap.size w wr) (fun _ i _ => l.length - (intOf i).toNat)
  case atStart => exact ⟨0, A2, c2, Nat.zero_le _, rfl, rfl, by rw [List.take_zero, show toldB o [] = [] from rfl, List.append_nil]; exact r4, by rw [List.take_zero, show toldB o [] = [] from rfl, List.append_nil]; exact q4, f4, z4, b5⟩
  case round =>
    obtain ⟨j, A1, c1, hj, rfl, rfl, hr1, hq1, hf1, ho1, hb⟩ := hrel
    clear f4 z4 b5 r4 q4
    by_cases hlt : j < l.length
    · clear hq1
      obtain ⟨b, a, rfl, hc0⟩ := hf1.at_ hlt
      have hc : wr.rangeAt b (a + j * 2) (fv w.heap.size (at2 l j)) := hc0
      have hw := hl.wide (j := j) hlt
      have hT := h48 j
      have HLG := Lib.hid (show long (l.take (j + 1)) = long (l.take j) + (at2 l j).2 from by rw [take_at2 hlt, long_append, long_one])
      have HTB := Lib.hid (show toldB o (l.take (j + 1)) = toldB o (l.take j) ++ be (o.num (at2 l j).1) (at2 l j).2 from by rw [take_at2 hlt, toldB_append, toldB_one])
      have hx := num_lt64 hok hw.1
      have HN := Lib.hid (fun W h => number_any w.heap.size (at2 l j) o W h hok hw.1)
      have HPT : Hid (∀ W, RB W A1 (1 + long (l.take j)) c1 (K ++ toldB o (l.take j)) → Calls Tryd.prog 39 #[.slice A1 (1 + long (l.take j)) c1, .int .u64 (o.num (at2 l j).1 : Nat), .int .i64 ((at2 l j).2 : Int)] W (OwnMade W (1 + long (l.take j) + (at2 l j).2) (K ++ toldB o (l.take j) ++ be (o.num (at2 l j).1) (at2 l j).2))) := Lib.hid (fun W hW => by
        have := Put_own A1 (1 + long (l.take j)) c1 (o.num (at2 l j).1) ((at2 l j).2 : Int) _ W hW hx (by omega)
        rw [wn_wide hw.2.1 hw.2.2] at this
        exact this)
      clear hc0 h48 HP
      generalize long (l.take j) = m at *
      generalize toldB o (l.take j) = t at *
      generalize at2 l j = f at *
      go_wp2_with (first
        | ((with_reducible refine wpList_here ?_); refine wpList_loadV rfl 85 (.tmp 14) rfl b _ (fv w.heap.size f) rfl hc _ Tryd.underlying85 rfl infoField ?_)
        | ((with_reducible refine wpList_here ?_); refine wpList_allocV rfl 85 rfl _ zeroField _ rfl ?_; intro w1 z1 d1 s1)
        | ((with_reducible refine wpList_here ?_); refine wpList_storeV rfl 85 (.tmp 5) (.tmp 15) rfl _ _ (fv w.heap.size f) rfl rfl z1 rfl (fv_one w.heap.size f) infoField ?_; intro w2 z2 g2 s2))
      have d2 := v_below_g d1 g2 d1.size (Nat.le_refl _)
      have h0 : Tst wr w2 w.heap.size wr.heap.size o f A1 (1 + m) c1 (K ++ t) := ⟨ho1.below d2, z2, hr1.below d2, d2⟩
      have h1 := h0.c0
      have h2 := h0.c1
      have h0d := h0.keep (Below.refl _ _).drew
      clear hc z1 d1 g2 z2 s1 s2 d2 hr1
      go_region_held3 (fun W => W.cell? ⟨wr.heap.size, 0, none⟩ = some (.iface (pt f.1) (.pointer (some ⟨w.heap.size, f.1, none⟩))) ∧ W.cell? ⟨wr.heap.size, 1, none⟩ = some (.int .i64 (f.2 : Int)) ∧ (Tst wr W w.heap.size wr.heap.size o f A1 (1 + m) c1 (K ++ t)))
        (first
          | exact ⟨h0.c0, h0.c1, h0⟩
          | exact ⟨h4.c0, h4.c1, h4⟩
          | exact ⟨h3.c0, h3.c1, h3⟩
          | exact ⟨h0d.c0, h0d.c1, h0d⟩)
        (first
          | (go_at_call 57; refine (HN.out _ h0d.1).mono ?_; rintro e w9 ⟨rfl, b9⟩; have h3 := h0d.keep b9)
          | (go_at_call 39; refine (HPT.out _ h3.2.2.1).mono ?_; rintro e w10 ⟨A9, c9, rfl, r9, q9, b10⟩; have q10 := own_mono q9 (Nat.le_trans hb.size h3.2.2.2.size); have h4 := h3.keep b10))
      have f9 := hf1.below h4.2.2.2
      have o9 := h4.1
      have b9' := below_trans hb h4.2.2.2
      clear h0 h1 h2 h0d h3 hf1 ho1 hb q9
      go_wp2_with fail
      go_roundw
      case rel => exact ⟨j + 1, A9, c9, by omega, by go_num, by rw [HLG.out, Nat.add_assoc], by rw [HLG.out, HTB.out, ← Nat.add_assoc, ← List.append_assoc]; exact r9, by rw [HLG.out, HTB.out, ← Nat.add_assoc, ← List.append_assoc]; exact q10, f9, o9, b9'⟩
      case measure => simp [intOf]; omega
    · obtain rfl : j = l.length := by omega
      rw [List.take_of_length_le (Nat.le_refl _)] at *
      go_wp2_with fail
      go_ret
      exact ⟨_, _, rfl, by rw [HOB.out]; exact hr1, by rw [HOB.out]; exact hq1, hb⟩
end Go.Proofs.YtbbpemndkphgeaaDoor

namespace Go.Proofs.YtbbpemndkphgeaaDoor
set_option linter.unusedVariables false
set_option linter.unusedSimpArgs false
open Go.RowKit

def ackedB (o : Opt) : Bool := o.hasAck || o.ack == 0
def mappedB (o : Opt) : Bool := if o.hasMap then decide (o.len ≤ 8) else o.dsn == 0 && o.len == 0 && !o.fin
def boundB (o : Opt) : Bool := if 4 ≤ o.addr then false else o.kind != 5 || ackedB o && mappedB o
/-- Is an option right? -/
def rightB (o : Opt) : Bool := decide (0 < (tab o.kind).length) && fitB o (tab o.kind) && boundB o && eqO (bareO o (tab o.kind)) (zK o.kind)

set_option maxRecDepth 8000 in
set_option maxHeartbeats 1600000 in
theorem acked_any (o : Opt) (w : World) : Calls Tryd.prog 67 #[.agg o.vals.toArray] w fun e w' => e = .returned (.bool (ackedB o)) ∧ Below w.heap.size w w' := by
  go_enter Tryd.func67, Tryd.ntmps67
  go_wp2_with (first
    | ((with_reducible refine wpList_here ?_); refine wpList_boxV rfl 52 (.tmp 0) rfl o.vals rfl _ rfl ?_; intro w1 z1 b1 s1; have k8 : w1.cell? ⟨w.heap.size, 8, none⟩ = some (.bool o.hasAck) := (z1 8 (by rw [o.vals_length]; omega)).1; have k9 : w1.cell? ⟨w.heap.size, 9, none⟩ = some (.int .i64 o.ack) := (z1 9 (by rw [o.vals_length]; omega)).1; cases hx : o.hasAck <;> rw [hx] at k8))
  all_goals go_ret
  all_goals
    refine ⟨?_, b1⟩
    unfold ackedB
    rw [hx]
    rfl

set_option maxRecDepth 8000 in
set_option maxHeartbeats 1600000 in
theorem mapped_any (o : Opt) (w : World) : Calls Tryd.prog 68 #[.agg o.vals.toArray] w fun e w' => e = .returned (.bool (mappedB o)) ∧ Below w.heap.size w w' := by
  cases hx : o.hasMap with
  | true =>
    have HM : Hid (mappedB o = decide (o.len ≤ 8)) := Lib.hid (by unfold mappedB; rw [hx]; rfl)
    go_enter Tryd.func68, Tryd.ntmps68
    go_wp2_with (first
      | ((with_reducible refine wpList_here ?_); refine wpList_boxV rfl 52 (.tmp 0) rfl o.vals rfl _ rfl ?_; intro w1 z1 b1 s1; have k10 : w1.cell? ⟨w.heap.size, 10, none⟩ = some (.bool o.hasMap) := (z1 10 (by rw [o.vals_length]; omega)).1; rw [hx] at k10; have k12 : w1.cell? ⟨w.heap.size, 12, none⟩ = some (.int .i64 o.len) := (z1 12 (by rw [o.vals_length]; omega)).1))
    go_ret
    rw [HM.out]
    exact ⟨rfl, b1⟩
  | false =>
    have HM : Hid (mappedB o = (o.dsn == 0 && o.len == 0 && !o.fin)) := Lib.hid (by unfold mappedB; rw [hx]; rfl)
    cases h1 : (o.dsn == 0) <;> cases h2 : (o.len == 0)
    all_goals
      go_enter Tryd.func68, Tryd.ntmps68
      go_wp2_with (first
        | ((with_reducible refine wpList_here ?_); refine wpList_boxV rfl 52 (.tmp 0) rfl o.vals rfl _ rfl ?_; intro w1 z1 b1 s1; have k10 : w1.cell? ⟨w.heap.size, 10, none⟩ = some (.bool o.hasMap) := (z1 10 (by rw [o.vals_length]; omega)).1; rw [hx] at k10; have k11 : w1.cell? ⟨w.heap.size, 11, none⟩ = some (.int .i64 o.dsn) := (z1 11 (by rw [o.vals_length]; omega)).1; have k12 : w1.cell? ⟨w.heap.size, 12, none⟩ = some (.int .i64 o.len) := (z1 12 (by rw [o.vals_length]; omega)).1; have k13 : w1.cell? ⟨w.heap.size, 13, none⟩ = some (.bool o.fin) := (z1 13 (by rw [o.vals_length]; omega)).1))
      go_ret
      rw [HM.out, h1, h2]
      exact ⟨rfl, b1⟩

set_option maxRecDepth 8000 in
set_option maxHeartbeats 1600000 in
theorem bounded_any (o : Opt) (w : World) : Calls Tryd.prog 55 #[.agg o.vals.toArray] w fun e w' => e = .returned (.bool (boundB o)) ∧ Below w.heap.size w w' := by
  have HA := Lib.hid (acked_any o)
  have HB := Lib.hid (mapped_any o)
  by_cases h4 : 4 ≤ o.addr
  · have HM : Hid (boundB o = false) := Lib.hid (by unfold boundB; rw [if_pos h4])
    go_enter Tryd.func55, Tryd.ntmps55
    go_wp2_with (first
      | ((with_reducible refine wpList_here ?_); refine wpList_boxV rfl 52 (.tmp 0) rfl o.vals rfl _ rfl ?_; intro w1 z1 b1 s1; have k5 : w1.cell? ⟨w.heap.size, 5, none⟩ = some (.int .i64 o.addr) := (z1 5 (by rw [o.vals_length]; omega)).1))
    go_ret
    rw [HM.out]
    exact ⟨rfl, b1⟩
  · have HM : Hid (boundB o = (o.kind != 5 || ackedB o && mappedB o)) := Lib.hid (by unfold boundB; rw [if_neg h4])
    cases h5 : (o.kind != 5) with
    | true =>
      go_enter Tryd.func55, Tryd.ntmps55
      go_wp2_with (first
        | ((with_reducible refine wpList_here ?_); refine wpList_boxV rfl 52 (.tmp 0) rfl o.vals rfl _ rfl ?_; intro w1 z1 b1 s1; have k5 : w1.cell? ⟨w.heap.size, 5, none⟩ = some (.int .i64 o.addr) := (z1 5 (by rw [o.vals_length]; omega)).1; have k0 : w1.cell? ⟨w.heap.size, 0, none⟩ = some (.int .i64 o.kind) := (z1 0 (by rw [o.vals_length]; omega)).1))
      go_ret
      rw [HM.out, h5]
      exact ⟨rfl, b1⟩
    | false =>
      have h5' : (o.kind == 5) = true := by simpa using h5
      generalize mappedB o = m at *
      cases ha : ackedB o with
      | true =>
        rw [ha] at HA
        go_enter Tryd.func55, Tryd.ntmps55
        go_wp2_with (first
          | ((with_reducible refine wpList_here ?_); refine wpList_boxV rfl 52 (.tmp 0) rfl o.vals rfl _ rfl ?_; intro w1 z1 b1 s1; have k5 : w1.cell? ⟨w.heap.size, 5, none⟩ = some (.int .i64 o.addr) := (z1 5 (by rw [o.vals_length]; omega)).1; have k0 : w1.cell? ⟨w.heap.size, 0, none⟩ = some (.int .i64 o.kind) := (z1 0 (by rw [o.vals_length]; omega)).1)
          | ((with_reducible refine wpList_here ?_); refine wpList_loadV rfl 52 (.tmp 1) rfl _ _ o.vals rfl z1.range _ Tryd.underlying52 rfl infoOpt ?_))
        refine (HA.out _).mono ?_
        rintro e w2 ⟨rfl, b2⟩
        have z2 := z1.below b2
        have b3 := below_trans b1 b2
        clear z1 b1 b2
        go_wp2_with (first
          | ((with_reducible refine wpList_here ?_); refine wpList_loadV rfl 52 (.tmp 1) rfl _ _ o.vals rfl z2.range _ Tryd.underlying52 rfl infoOpt ?_))
        refine (HB.out _).mono ?_
        rintro e w4 ⟨rfl, b4⟩
        have b5 := below_trans b3 b4
        go_wp2_with fail
        go_ret
        rw [HM.out, h5, ha]
        exact ⟨rfl, b5⟩
      | false =>
        rw [ha] at HA
        go_enter Tryd.func55, Tryd.ntmps55
        go_wp2_with (first
          | ((with_reducible refine wpList_here ?_); refine wpList_boxV rfl 52 (.tmp 0) rfl o.vals rfl _ rfl ?_; intro w1 z1 b1 s1; have k5 : w1.cell? ⟨w.heap.size, 5, none⟩ = some (.int .i64 o.addr) := (z1 5 (by rw [o.vals_length]; omega)).1; have k0 : w1.cell? ⟨w.heap.size, 0, none⟩ = some (.int .i64 o.kind) := (z1 0 (by rw [o.vals_length]; omega)).1)
          | ((with_reducible refine wpList_here ?_); refine wpList_loadV rfl 52 (.tmp 1) rfl _ _ o.vals rfl z1.range _ Tryd.underlying52 rfl infoOpt ?_))
        refine (HA.out _).mono ?_
        rintro e w2 ⟨rfl, b2⟩
        have b3 := below_trans b1 b2
        go_wp2_with fail
        go_ret
        rw [HM.out, h5, ha]
        exact ⟨rfl, b3⟩

theorem rightB_none {o : Opt} (h : tab o.kind = []) : rightB o = false := by unfold rightB; rw [h]; rfl

set_option maxRecDepth 8000 in
set_option maxHeartbeats 1600000 in
theorem Right_any (o : Opt) (w : World) (hok : o.ok) : Calls Tryd.prog 37 #[.agg o.vals.toArray] w fun e w' => e = .returned (.bool (rightB o)) ∧ Below w.heap.size w w' := by
  have hl := fine_tab o.kind
  have HB := Lib.hid (bounded_any o)
  have HC := Lib.hid (bare_any o)
  have HE := Lib.hid (show rightB o = (decide (0 < (tab o.kind).length) && fitB o (tab o.kind) && boundB o && eqO (bareO o (tab o.kind)) (zK o.kind)) from rfl)
  have HF : Hid (∀ A c W, FL W A (tab o.kind).length c w.heap.size (tab o.kind) → Own W w.heap.size o.vals → Calls Tryd.prog 54 #[.slice A (tab o.kind).length c] W fun e w' => e = .returned (.bool (fitB o (tab o.kind))) ∧ Below W.heap.size W w') := Lib.hid (fun A c W h1 h2 => fit_any A _ c _ _ o W h1 hl h2 hok)
  generalize eqO (bareO o (tab o.kind)) (zK o.kind) = q at *
  generalize boundB o = r at *
  generalize fitB o (tab o.kind) = p at *
  go_enter Tryd.func37, Tryd.ntmps37
  go_wp2_with (first
    | ((with_reducible refine wpList_here ?_); refine wpList_boxV rfl 52 (.tmp 0) rfl o.vals rfl _ rfl ?_; intro w1 z1 b1 s1))
  refine (fields_any w.heap.size o w1 z1).mono ?_
  rintro e w2 ⟨A, c, rfl, f2, b2⟩
  have z2 := z1.below b2
  have b3 := below_trans b1 b2
  clear z1 b1 b2 s1
  have hmx := f2.max
  have hcp := f2.cap
  generalize (tab o.kind).length = n at *
  by_cases hn : 0 < n
  · have hn1 : decide (0 < n) = true := decide_eq_true hn
    rw [hn1, Bool.true_and] at HE
    cases p with
    | false =>
      go_wp2_with fail
      refine (HF.out _ _ _ f2 z2).mono ?_
      rintro e w4 ⟨rfl, b4⟩
      have b5 := below_trans b3 b4
      go_wp2_with fail
      go_ret
      rw [HE.out]
      exact ⟨rfl, b5⟩
    | true =>
      go_wp2_with fail
      refine (HF.out _ _ _ f2 z2).mono ?_
      rintro e w4 ⟨rfl, b4⟩
      have z4 := z2.below b4
      have b5 := below_trans b3 b4
      clear z2 b4 b3 f2 HF
      go_wp2_with (first
        | ((with_reducible refine wpList_here ?_); refine wpList_loadV rfl 52 (.tmp 1) rfl _ _ o.vals rfl z4.range _ Tryd.underlying52 rfl infoOpt ?_))
      refine (HB.out _).mono ?_
      rintro e w6 ⟨rfl, b6⟩
      have z6 := z4.below b6
      have b7 := below_trans b5 b6
      clear z4 b6 b5
      cases r with
      | false =>
        go_wp2_with fail
        go_ret
        rw [HE.out]
        exact ⟨rfl, b7⟩
      | true =>
        go_wp2_with (first
          | ((with_reducible refine wpList_here ?_); refine wpList_loadV rfl 52 (.tmp 1) rfl _ _ o.vals rfl z6.range _ Tryd.underlying52 rfl infoOpt ?_))
        refine (HC.out _).mono ?_
        rintro e w8 ⟨rfl, b8⟩
        have b9 := below_trans b7 b8
        go_wp2_with fail
        go_ret
        rw [HE.out]
        exact ⟨rfl, b9⟩
  · have hn1 : decide (0 < n) = false := decide_eq_false hn
    rw [hn1] at HE
    go_wp2_with fail
    go_ret
    rw [HE.out]
    exact ⟨rfl, b3⟩
end Go.Proofs.YtbbpemndkphgeaaDoor

namespace Go.Proofs.YtbbpemndkphgeaaDoor
set_option linter.unusedVariables false
set_option linter.unusedSimpArgs false
open Go.RowKit

theorem infoPiece : (Tryd.prog.info? 24).map (fun i => (i.zero, i.size, i.bytes)) = some (some (.slice none 0 0), 1, 24) := by kernel_rfl

/-- The values vs are slices that hold the pieces ps in w. -/
def Sl (w : World) (vs : List Value) (ps : List (List UInt8)) : Prop := vs.length = ps.length ∧ ∀ j, j < ps.length → ∃ B m d, vs[j]? = some (.slice B m d) ∧ RB w B m d (ps.getD j [])
theorem Sl.nil_ (w : World) : Sl w [] [] := ⟨rfl, fun j hj => absurd hj (by simp)⟩
theorem Sl.one {w : World} {vs : List Value} {ps : List (List UInt8)} (h : Sl w vs ps) : ∀ u ∈ vs, u.oneCell' = true := by
  intro u hu
  obtain ⟨j, hj, rfl⟩ := List.getElem_of_mem hu
  obtain ⟨B, m, d, e, _⟩ := h.2 j (by rw [← h.1]; exact hj)
  rw [List.getElem?_eq_getElem hj] at e
  injection e with e
  rw [e]
  rfl
theorem Sl.below {w w' : World} {vs : List Value} {ps : List (List UInt8)} (h : Sl w vs ps) (hb : Below w.heap.size w w') : Sl w' vs ps :=
  ⟨h.1, fun j hj => by
    obtain ⟨B, m, d, e, hr⟩ := h.2 j hj
    exact ⟨B, m, d, e, hr.below hb⟩⟩
theorem Sl.append {w : World} {vs us : List Value} {ps qs : List (List UInt8)} (h : Sl w vs ps) (h' : Sl w us qs) : Sl w (vs ++ us) (ps ++ qs) := by
  refine ⟨by rw [List.length_append, List.length_append, h.1, h'.1], fun j hj => ?_⟩
  rw [List.length_append] at hj
  rw [List.getD_eq_getElem?_getD]
  by_cases hlt : j < ps.length
  · obtain ⟨B, m, d, e, hr⟩ := h.2 j hlt
    rw [List.getD_eq_getElem?_getD] at hr
    rw [List.getElem?_append_left (by rw [h.1]; exact hlt), List.getElem?_append_left hlt]
    exact ⟨B, m, d, e, hr⟩
  · obtain ⟨B, m, d, e, hr⟩ := h'.2 (j - ps.length) (by omega)
    rw [List.getD_eq_getElem?_getD] at hr
    rw [List.getElem?_append_right (by rw [h.1]; omega), List.getElem?_append_right (by omega), h.1]
    exact ⟨B, m, d, e, hr⟩

/-- A slice of pieces: its cells. -/
theorem Parts.vals {w : World} {A : Option Addr} {n c : Nat} {ps : List (List UInt8)} (h : Parts w A n c ps) :
    ∃ vs, Sl w vs ps ∧ ∀ j u, vs[j]? = some u → ∃ b o, A = some ⟨b, o, none⟩ ∧ w.cell? ⟨b, o + j, none⟩ = some u := by
  have hl := h.len
  rcases Nat.eq_zero_or_pos n with h0 | h0
  · obtain rfl : ps = [] := List.eq_nil_of_length_eq_zero (by omega)
    exact ⟨[], Sl.nil_ w, by simp⟩
  · obtain ⟨b, o, rfl, hc⟩ := h.2.2.2 h0
    refine ⟨(List.range n).map fun j => (w.cell? ⟨b, o + j, none⟩).getD undef, ⟨by simp [hl], fun j hj => ?_⟩, fun j u hu => ⟨b, o, rfl, ?_⟩⟩
    · obtain ⟨B, m, d, hcell, hr⟩ := hc j (by omega)
      refine ⟨B, m, d, ?_, hr⟩
      have hj' : j < n := by omega
      simp [hj', hcell]
    · have hj : j < n := by simpa using (List.getElem?_eq_some_iff.1 hu).1
      obtain ⟨B, m, d, hcell, hr⟩ := hc j hj
      simp [hj, hcell] at hu
      rw [hcell, hu]

/-- A slice of the call's own that holds pieces. -/
theorem Parts.of_own {w : World} {base n : Nat} {e : TypeId} {v : Value} {vs : List Value} {ps : List (List UInt8)} (h : w.ownsRow base e 1 v n vs) (hs : Sl w vs ps) : ∃ A c, v = .slice A n c ∧ Parts w A n c ps := by
  have hl : ps.length = n := by have h1 := h.1; have h2 := hs.1; omega
  rcases h.2 with ⟨rfl, rfl⟩ | ⟨g, cap, cur, rfl, hb, hg, hnc, hm, hsz, ht⟩
  · exact ⟨none, 0, rfl, hl, Nat.le_refl _, Nat.zero_le _, fun h => absurd h (by omega)⟩
  · refine ⟨_, cap, rfl, hl, hnc, hm, fun hn => ⟨g, 0, rfl, fun j hj => ?_⟩⟩
    obtain ⟨B, m, d, e, hr⟩ := hs.2 j (by omega)
    refine ⟨B, m, d, ?_, hr⟩
    have := World.ownsRow.cellAt h j (by omega)
    rw [Nat.zero_add, this, e]

section
variable {P : Program} (w : World)
/-- The run of append of pieces. -/
theorem appP_run (t ty e : TypeId) (ht : P.underlying t = some (.slice e)) (hi : (P.info? e).map (fun i => (i.zero, i.size, i.bytes)) = some (some (.slice none 0 0), 1, 24))
    (base : Nat) (v : Value) (n : Nat) (vs : List Value) (hown : w.ownsRow base e 1 v n vs)
    (A : Option Addr) (m c : Nat) (us : List Value) (hl : us.length = m) (hsrc : ∀ j u, us[j]? = some u → ∃ b o, A = some ⟨b, o, none⟩ ∧ w.cell? ⟨b, o + j, none⟩ = some u) (h1 : ∀ u ∈ us, u.oneCell' = true)
    (hs : n + m ≤ 1099511627776) (hb : base ≤ w.heap.size) :
    ∃ v' w', (Builtin.append_ #[t, t] ty #[v, .slice A m c]).run P w = .ok v' w' ∧ w'.ownsRow base e 1 v' (n + m) (vs ++ us) ∧ w.grownBy w' v.ownBlock := by
  obtain ⟨i, hi, hz, h2, h3⟩ := info_parts hi
  subst hl
  rcases A with _ | ad
  · obtain rfl : us = [] := by
      rcases us with _ | ⟨u, us⟩
      · rfl
      · obtain ⟨b, o, h, _⟩ := hsrc 0 u rfl
        cases h
    exact ⟨v, w, app_none w base t ty e i ht hi v n c _ hown, by simpa using hown, World.grownBy.refl w _⟩
  · obtain ⟨v', w', hrun, g2, g3, _, _⟩ := run_append_own_at (P := P) w base t ty e i _ 1 24 ht hi hz h2 h3 rfl (by decide) v n vs hown ad us.length c us
      (by rw [Nat.mul_one]) (fun j u hu => by obtain ⟨b, o, h, hc⟩ := hsrc j u hu; injection h with h; subst h; rw [Addr.add_lit]; exact hc) h1 (by unfold maxLen; omega) (by omega) hb
    exact ⟨v', w', hrun, g2, g3⟩
theorem wpList_appP {ops : Array Oper} {rest : List Oper} {o : Oper} {a : Act} {Q : Exit → Act → World → Prop} (hgd : o.guard = none) (s x : Operand) (t e : TypeId)
    (ho : o.op = .call { callee := .builtin .append, args := #[s, x], argTypes := #[t, t] })
    (ht : P.underlying t = some (.slice e)) (hi : (P.info? e).map (fun i => (i.zero, i.size, i.bytes)) = some (some (.slice none 0 0), 1, 24))
    (base : Nat) (v : Value) (n : Nat) (vs : List Value) (hs : a.eval s = v) (hown : w.ownsRow base e 1 v n vs)
    (A : Option Addr) (m c : Nat) (us : List Value) (hx : a.eval x = .slice A m c) (hl : us.length = m) (hsrc : ∀ j u, us[j]? = some u → ∃ b o, A = some ⟨b, o, none⟩ ∧ w.cell? ⟨b, o + j, none⟩ = some u) (h1 : ∀ u ∈ us, u.oneCell' = true)
    (h40 : n + m ≤ 1099511627776) (hb : base ≤ w.heap.size)
    (h : ∀ v' w', w'.ownsRow base e 1 v' (n + m) (vs ++ us) → w.grownBy w' v.ownBlock → wpList P ops Q rest (a.put o.dst v') w') : wpList P ops Q (o :: rest) a w := by
  obtain ⟨v', w', hrun, h2, h3⟩ := appP_run (P := P) w t o.type e ht hi base v n vs hown A m c us hl hsrc h1 h40 hb
  exact Lib.wpList_append_run w hgd s x t t ho _ _ hs hx v' w' hrun (h v' w' h2 h3)
end
end Go.Proofs.YtbbpemndkphgeaaDoor

namespace Go.Proofs.YtbbpemndkphgeaaDoor
set_option linter.unusedVariables false
set_option linter.unusedSimpArgs false
open Go.RowKit

/-- The bytes of options. -/
def obs (os : List Opt) : List UInt8 := os.flatMap ob
theorem obs_append (a b : List Opt) : obs (a ++ b) = obs a ++ obs b := by simp [obs]
theorem ob_length (o : Opt) : (ob o).length = 1 + long (tab o.kind) := by
  unfold ob
  rw [List.length_append, be_length, toldB_length]
theorem ob_le (o : Opt) : (ob o).length ≤ 49 := by
  have h := (fine_tab o.kind).long (tab o.kind).length
  rw [List.take_of_length_le (Nat.le_refl _)] at h
  rw [ob_length]
  omega
theorem obs_le (os : List Opt) : (obs os).length ≤ 49 * os.length := by
  induction os with
  | nil => simp [obs]
  | cons o r ih =>
    have : obs (o :: r) = ob o ++ obs r := rfl
    rw [this, List.length_append, List.length_cons]
    have := ob_le o
    omega
theorem fl_obs (os : List Opt) (n : Nat) (h : os.length = n) : fl (os.map ob) n = obs os := by
  rw [fl_all _ _ (by rw [List.length_map, h])]
  simp [obs, List.flatMap]
/-- What Put leaves. -/
def PutsMade (W : World) (os : List Opt) (e : Ending) (w' : World) : Prop :=
  (os.all rightB = true → ∃ A c, e = .returned (.tuple #[.slice A (obs os).length c, .int .i64 0]) ∧ RB w' A (obs os).length c (obs os)) ∧
  (os.all rightB = false → e = .returned (.tuple #[.slice none 0 0, .int .i64 1])) ∧ Below W.heap.size W w'
/-- The values vs are slices of the call's own that hold the pieces ps in w. -/
def SlO (w : World) (base : Nat) (vs : List Value) (ps : List (List UInt8)) : Prop :=
  vs.length = ps.length ∧ ∀ j, j < ps.length → ∃ B m d, vs[j]? = some (.slice B m d) ∧ w.ownsRow base 5 1 (.slice B m d) m (bv (ps.getD j []))
section
variable {w w' : World} {base : Nat} {vs us : List Value} {ps qs : List (List UInt8)}
theorem SlO.nil_ (w : World) (base : Nat) : SlO w base [] [] := ⟨rfl, fun j hj => absurd hj (by simp)⟩
theorem SlO.sl (h : SlO w base vs ps) : Sl w vs ps :=
  ⟨h.1, fun j hj => by
    obtain ⟨B, m, d, e, ho⟩ := h.2 j hj
    obtain ⟨A, c, e2, hr, _⟩ := RB.of_own ho
    injection e2 with e3 _ e4
    subst e3 e4
    exact ⟨B, m, d, e, hr⟩⟩
theorem SlO.below (h : SlO w base vs ps) (hb : Below w.heap.size w w') : SlO w' base vs ps :=
  ⟨h.1, fun j hj => by
    obtain ⟨B, m, d, e, ho⟩ := h.2 j hj
    exact ⟨B, m, d, e, own_below ho hb⟩⟩
theorem SlO.far {e : TypeId} {size n : Nat} {v : Value} {xs : List Value} (h : SlO w base vs ps) (hv : w.ownsRow base e size v n xs) (hne : e ≠ 5) (hg : w.grownBy w' v.ownBlock) : SlO w' base vs ps :=
  ⟨h.1, fun j hj => by
    obtain ⟨B, m, d, e1, ho⟩ := h.2 j hj
    exact ⟨B, m, d, e1, own_far ho hg (own_apart ho hv (Ne.symm hne))⟩⟩
theorem SlO.snoc (h : SlO w base vs ps) {B : Option Addr} {m d : Nat} {p : List UInt8} (ho : w.ownsRow base 5 1 (.slice B m d) m (bv p)) : SlO w base (vs ++ [.slice B m d]) (ps ++ [p]) := by
  refine ⟨by simp [h.1], fun j hj => ?_⟩
  simp only [List.length_append, List.length_cons, List.length_nil] at hj
  rw [List.getD_eq_getElem?_getD]
  by_cases hlt : j < ps.length
  · obtain ⟨B, m, d, e, hr⟩ := h.2 j hlt
    rw [List.getD_eq_getElem?_getD] at hr
    rw [List.getElem?_append_left (by rw [h.1]; exact hlt), List.getElem?_append_left hlt]
    exact ⟨B, m, d, e, hr⟩
  · obtain rfl : j = ps.length := by omega
    refine ⟨B, m, d, ?_, ?_⟩
    · rw [List.getElem?_append_right (by rw [h.1]; omega), h.1]; simp
    · rw [List.getElem?_append_right (by omega)]; simpa using ho
end
theorem take_getD {os : List Opt} {j : Nat} (h : j < os.length) : os.take (j + 1) = os.take j ++ [os.getD j (zK 0)] := by
  rw [List.take_succ_eq_append_getElem h]
  simp [List.getD_eq_getElem?_getD, List.getElem?_eq_getElem h]

set_option maxRecDepth 8000 in
set_option maxHeartbeats 1600000 in
theorem Puts_any (A : Option Addr) (n c : Nat) (os : List Opt) (w : World) (h : OS w A n c os) (hn : n ≤ 1000) :
    Calls Tryd.prog 19 #[.slice A n c] w (PutsMade w os) := by
  have hmx := h.max
  have hcp := h.cap
  have HLN := Lib.hid h.len
  go_enter Tryd.func19, Tryd.ntmps19
  go_wp2_with fail
  go_loopw [4, 9] (fun v i wr => ∃ (j : Nat) (vs : List Value), j ≤ n ∧ i = .int .i64 j ∧ wr.ownsRow w.heap.size 24 1 v j vs ∧ SlO wr w.heap.size vs ((os.take j).map ob) ∧ (os.take j).all rightB = true ∧ Below w.heap.size w wr) (fun _ i _ => n - (intOf i).toNat)
  case atStart => exact ⟨0, [], Nat.zero_le _, rfl, World.ownsRow_nil _ _ _ _, SlO.nil_ w _, rfl, Below.refl _ _⟩
  case round =>
    obtain ⟨j, vs, hj, rfl, hown, hsl, hall, hb⟩ := hrel
    by_cases hlt : j < n
    · obtain ⟨b, a, rfl, hc0⟩ := h.at_ hlt
      have hc := range_below hc0 hb
      have hok := h.ok hlt
      have HT := Lib.hid (take_getD (os := os) (j := j) (by rw [HLN.out]; exact hlt))
      have HALL := Lib.hid hall
      clear h hc0 hall
      generalize os.getD j (zK 0) = x at *
      have HR := Lib.hid (fun W => Right_any x W hok)
      have HO := Lib.hid (fun W => told_any x W hok)
      cases hx : rightB x with
      | false =>
        rw [hx] at HR
        have HX := Lib.hid hx
        clear hx
        go_wp2_with (first
          | ((with_reducible refine wpList_here ?_); refine wpList_loadV rfl 52 (.tmp 11) rfl b _ x.vals rfl hc _ Tryd.underlying52 rfl infoOpt ?_)
          | ((with_reducible refine wpList_here ?_); refine wpList_allocV rfl 52 rfl (zK 0).vals zeroOpt _ rfl ?_; intro w1 z1 b1 s1)
          | ((with_reducible refine wpList_here ?_); refine wpList_storeV rfl 52 (.tmp 6) (.tmp 12) rfl _ _ x.vals rfl rfl z1 rfl (vals_one x) infoOpt ?_; intro w2 z2 g2 s2)
          | ((with_reducible refine wpList_here ?_); refine wpList_loadV rfl 52 (.tmp 6) rfl _ _ x.vals rfl z2.range _ Tryd.underlying52 rfl infoOpt ?_))
        have b2 := v_below_g (below_trans hb b1) g2 (by have := hb.size; omega) hb.size
        refine (HR.out _).mono ?_
        rintro e w3 ⟨rfl, b3⟩
        have b4 := below_trans b2 b3
        have HA : Hid (os.all rightB = false) := Lib.hid (by
          cases hc : os.all rightB with
          | false => rfl
          | true =>
            exfalso
            have h5 : (os.take (j + 1)).all rightB = true := List.all_eq_true.2 fun y hy => List.all_eq_true.1 hc y (List.mem_of_mem_take hy)
            rw [HT.out, List.all_append, Bool.and_eq_true] at h5
            have := h5.2
            simp [HX.out] at this)
        go_wp2_with fail
        go_ret2
        exact ⟨fun hc => (by rw [HA.out] at hc; cases hc), fun _ => rfl, b4⟩
      | true =>
        rw [hx] at HR
        have HX := Lib.hid hx
        clear hx
        go_wp2_with (first
          | ((with_reducible refine wpList_here ?_); refine wpList_loadV rfl 52 (.tmp 11) rfl b _ x.vals rfl hc _ Tryd.underlying52 rfl infoOpt ?_)
          | ((with_reducible refine wpList_here ?_); refine wpList_allocV rfl 52 rfl (zK 0).vals zeroOpt _ rfl ?_; intro w1 z1 b1 s1)
          | ((with_reducible refine wpList_here ?_); refine wpList_storeV rfl 52 (.tmp 6) (.tmp 12) rfl _ _ x.vals rfl rfl z1 rfl (vals_one x) infoOpt ?_; intro w2 z2 g2 s2)
          | ((with_reducible refine wpList_here ?_); refine wpList_loadV rfl 52 (.tmp 6) rfl _ _ x.vals rfl z2.range _ Tryd.underlying52 rfl infoOpt ?_))
        have d2 := v_below_g b1 g2 b1.size (Nat.le_refl _)
        refine (HR.out _).mono ?_
        rintro e w3 ⟨rfl, b3⟩
        have z3 := z2.below b3
        have d3 := below_trans d2 b3
        clear z1 b1 g2 d2 b3 z2 s1 s2 hc
        go_wp2_with (first
          | ((with_reducible refine wpList_here ?_); refine wpList_loadV rfl 52 (.tmp 6) rfl _ _ x.vals rfl z3.range _ Tryd.underlying52 rfl infoOpt ?_))
        refine (HO.out _).mono ?_
        rintro e w5 ⟨A5, c5, rfl, r5, q5, b5⟩
        have q6 := own_mono q5 (Nat.le_trans hb.size d3.size)
        have d5 := below_trans d3 b5
        have own5 := own_below hown d5
        have sl5 := (hsl.below d5).snoc q6
        have hb5 := below_trans hb d5
        rw [show (os.take j).map ob ++ [ob x] = (os.take (j + 1)).map ob from by rw [HT.out, List.map_append]; rfl] at sl5
        have HALL2 : Hid ((os.take (j + 1)).all rightB = true) := Lib.hid (by rw [HT.out, List.all_append, HALL.out]; simp [HX.out])
        have hm5 := r5.max
        generalize 1 + long (tab x.kind) = m5 at *
        have HA := Lib.hid (below_a w5 (.cells #[.slice A5 m5 c5] 24))
        have HSRC : Hid (∀ j u, [Value.slice A5 m5 c5][j]? = some u → ∃ b o, (some (⟨w5.heap.size, 0, none⟩ : Addr)) = some ⟨b, o, none⟩ ∧ (w5.alloc (.cells #[.slice A5 m5 c5] 24)).cell? ⟨b, o + j, none⟩ = some u) := Lib.hid (fun j u hu => by
          match j, hu with
          | 0, hu =>
            injection hu with hu
            subst hu
            exact ⟨_, 0, rfl, cell_new w5 _ _⟩)
        have HONE : Hid (∀ u ∈ [Value.slice A5 m5 c5], u.oneCell' = true) := Lib.hid (by
          intro u hu
          rw [List.mem_singleton.1 hu]
          rfl)
        have OWN := Lib.hid (own_below own5 HA.out)
        have SL5 := Lib.hid (sl5.below HA.out)
        have HB5 := Lib.hid (below_trans hb5 HA.out)
        have hz : w.heap.size ≤ (w5.alloc (.cells #[.slice A5 m5 c5] 24)).heap.size := HB5.out.size
        clear hown hsl hb d3 b5 d5 z3 q5 q6 own5 sl5 hb5 r5
        go_wp2_with (at_builtin; refine wpList_appP _ rfl (.tmp 16) (.tmp 19) 64 24 rfl Tryd.underlying64 infoPiece w.heap.size _ j vs rfl OWN.out _ 1 1 [.slice A5 m5 c5] rfl rfl HSRC.out HONE.out (by omega) hz ?_; intro v' w7 own7 g7)
        have sl7 := SL5.out.far OWN.out (by decide) g7
        have b7 := below_grown HB5.out OWN.out g7
        go_roundw
        case rel => exact ⟨j + 1, _, by omega, by go_num, own7, sl7, HALL2.out, b7⟩
        case measure => simp [intOf]; omega
    · obtain rfl : j = n := by omega
      rw [List.take_of_length_le (by rw [HLN.out]; exact Nat.le_refl _)] at hsl hall
      have HALL := Lib.hid hall
      obtain ⟨A2, c2, rfl, hp⟩ := Parts.of_own hown hsl.sl
      have HFL := Lib.hid (fl_obs os j HLN.out)
      have HTL : Hid (tl (os.map ob) j = (obs os).length) := Lib.hid (by rw [tl, HFL.out])
      have hle := obs_le os
      rw [HLN.out] at hle
      have HJ : Hid (∀ W, Parts W A2 j c2 (os.map ob) → Calls Tryd.prog 21 #[.slice A2 j c2] W (Made W 5 (obs os).length (obs os))) := Lib.hid (fun W hW => by
        have := Join_any A2 j c2 (os.map ob) W hW (by rw [HTL.out]; omega)
        rw [HTL.out, HFL.out] at this
        exact this)
      clear hown hsl hall
      go_wp2_with fail
      refine (HJ.out _ hp).mono ?_
      rintro e w2 ⟨v, rfl, own2, b2⟩
      obtain ⟨A3, c3, rfl, r3, _⟩ := RB.of_own own2
      go_wp2_with fail
      go_ret2
      exact ⟨fun _ => ⟨A3, c3, rfl, r3⟩, fun hc => (by rw [HALL.out] at hc; cases hc), below_trans hb b2⟩
end Go.Proofs.YtbbpemndkphgeaaDoor

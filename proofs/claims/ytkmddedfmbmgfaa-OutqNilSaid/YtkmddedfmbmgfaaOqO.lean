/- The example; a queue that is not there. Condition: for the latter the piece stands, its data at most 2^48 bytes. -/
import Derived.Test.YtkmddedfmbmgfaaOqN
import Derived.Lib.SlBytesConst
namespace Go.Proofs.Ytkmddedfmbmgfaa
set_option linter.unusedVariables false
set_option linter.unusedSimpArgs false
open Go.RowKit

/-- Pieces of memory of their own, read. -/
theorem Own6.ps {base : Nat} {w : World} {v : Value} {ks : List Ky} (h : Own6 base w v ks) : ∃ A c qs, v = .slice A ks.length c ∧ ks.length ≤ c ∧ c ≤ 9223372036854775807 ∧ PS w A ks.length c qs ∧ qs.map Pc.key = ks := by
  obtain ⟨qs, h1, h2, h3⟩ := h
  obtain ⟨hr, hl⟩ := Row.of_own h1
  obtain ⟨A, c, rfl, e1, e2⟩ := hr.slice
  rw [hl] at *
  exact ⟨A, c, qs, rfl, e1, e2, hr.ps (fun p hp => (h3 p hp).pg), h2⟩

/-- A constant text's bytes, as they lie in their new block. -/
theorem RB.litf (w : World) (l : List UInt8) (t : TypeId) (fr : Nat × Nat) (hl : l.length ≤ maxLen) : RB (w.alloc (.cells (bv l).toArray t fr)) (some ⟨w.heap.size, 0, none⟩) l.length l.length l := by
  refine ⟨rfl, Nat.le_refl _, hl, fun _ => ⟨_, 0, rfl, fun j hj => ?_⟩⟩
  rw [Nat.zero_add]
  have h := cell_of_row (w.alloc (.cells (bv l).toArray t fr)) w.heap.size j (bv l).toArray t fr (heap_alloc_new w _)
  rw [h]
  simpa using bv_at l j hj
theorem text_at (w : World) (C : Array Value) (n c : Nat) :
    (convert 31 31 (.slice (some ⟨w.heap.size, 0, none⟩) n c)).run Try.prog (w.alloc (.cells C 5)) = .ok (.slice (some ⟨w.heap.size, 0, none⟩) n c) (w.alloc (.cells C 5 (C.size, C.size + 1))) :=
  Lib.run_convert_bytes_const (P := Try.prog) w 31 5 C n c Try.underlying31 Try.underlying5
/-- A piece with data alone. -/
def dP (A : Option Addr) (n c : Nat) (l : List UInt8) : Pc := ⟨0, false, false, A, n, c, 0, false, l⟩
theorem dP_ok {w : World} {A : Option Addr} {n c : Nat} {l : List UInt8} (h : RB w A n c l) : PG w (dP A n c l) := ⟨Nat.zero_lt_succ _, (by show isInt 0; unfold isInt; decide), h⟩

set_option maxRecDepth 8000 in
set_option maxHeartbeats 3200000 in
theorem wakes_any (W : World) : Calls Try.prog 7 #[] W (Yes W) := by
  have HN := Lib.hid (snew_any W W 5 (by omega) (Below.refl _ _))
  go_enter Try.func7, Try.ntmps7
  go_wp2_with fail
  refine (HN.out).mono ?_
  rintro e w1 ⟨qb, rfl, hqb, S1, b1⟩
  have HP1 : Hid (Calls Try.prog 9 #[ptr qb, .agg #[.int .u32 0, .bool true, .bool false, .slice none 0 0, .int .i64 0, .bool false]] w1 (SPush W w1 qb (.slice none 0 0) [] 5 [] 5 ⟨0, true, false, 0, false, []⟩)) :=
    Lib.hid (spush_any S1 (Nat.zero_le _) ⟨0, true, false, none, 0, 0, 0, false, []⟩ ⟨Nat.zero_lt_succ _, (by unfold isInt; decide), RB.nil_ _⟩ (Nat.zero_le _) (fun g o s e _ => by cases e))
  clear S1 b1 HN hqb
  unfold ptr at *
  go_wp2_with fail
  refine (HP1.out).mono ?_
  rintro e w2 ⟨q2, v2, l2, m2, rfl, -, -, -, S2, -, -, -⟩
  have S2 : Sq 54 W w2 qb v2 l2 5 [⟨5, true, false, 0, false, []⟩] 6 := S2
  have HS2 := Lib.hid S2
  clear S2 HP1
  have hcv := text_at w2 #[.int .u8 97, .int .u8 98, .int .u8 99] 3 3
  have hcv : (convert 31 31 (.slice (some ⟨w2.heap.size, 0, none⟩) 3 3)).run Try.prog (w2.alloc (.cells #[.int .u8 97, .int .u8 98, .int .u8 99] 5)) = .ok (.slice (some ⟨w2.heap.size, 0, none⟩) 3 3) (w2.alloc (.cells #[.int .u8 97, .int .u8 98, .int .u8 99] 5 (3, 4))) := hcv
  have HP3 : Hid (Calls Try.prog 9 #[.pointer (some ⟨qb, 0, none⟩), .agg #[.int .u32 0, .bool false, .bool false, .slice (some ⟨w2.heap.size, 0, none⟩) 3 3, .int .i64 0, .bool false]] (w2.alloc (.cells #[.int .u8 97, .int .u8 98, .int .u8 99] 5 (3, 4))) (SPush W (w2.alloc (.cells #[.int .u8 97, .int .u8 98, .int .u8 99] 5 (3, 4))) qb v2 l2 5 [⟨5, true, false, 0, false, []⟩] 6 ⟨0, false, false, 0, false, [97, 98, 99]⟩)) :=
    Lib.hid (spush_any (HS2.out.below (below_a w2 _)) (Nat.le_of_ble_eq_true rfl) (dP (some ⟨w2.heap.size, 0, none⟩) 3 3 [97, 98, 99]) (dP_ok (RB.litf w2 [97, 98, 99] 5 (3, 4) (by unfold maxLen; simp))) (Nat.le_of_ble_eq_true rfl) (fun g o s e _ => by
      injection e with e
      injection e with e _ _
      subst e
      refine ⟨fun e2 => ?_, fun e2 => ?_⟩
      · have := (HS2.out.in_ (.inl rfl)).2
        omega
      · have := (HS2.out.in_ (.inr (.inl e2))).2
        omega))
  go_wp2_with fail
  refine (HP3.out).mono ?_
  rintro e w3 ⟨q3, v3, l3, m3, rfl, -, -, -, S3, -, -, -⟩
  have S3 : Sq 54 W w3 qb v3 l3 5 [⟨5, true, false, 0, false, []⟩, ⟨6, false, false, 0, false, [97, 98, 99]⟩] 9 := S3
  have HS3 := Lib.hid S3
  have HE3 := Lib.hid (End_any S3.qu)
  have HA3 := Lib.hid (sack_yes S3 (by decide) 6 (by omega) (by decide))
  clear S3 HP3 HS2
  unfold ptr at *
  go_wp2_with fail
  refine (HE3.out).mono ?_
  rintro e w4 ⟨rfl, rfl⟩
  go_wp2_with fail
  refine (HA3.out).mono ?_
  rintro e w5 ⟨vo, v5, l5, rfl, o5, S5, -, -⟩
  have hcn : cnt [(⟨5, true, false, 0, false, []⟩ : Ky), ⟨6, false, false, 0, false, [97, 98, 99]⟩] (st 5 6) = 1 := by decide
  rw [hcn] at o5 S5
  have HL5 := Lib.hid (Len_any S5.qu)
  have hl5 : l5.length = 1 := S5.llen
  have HB5 := Lib.hid S5.bel
  rw [hl5] at HL5
  obtain ⟨A5, c5, qs5, rfl, hc1, hc2, hps, hk5⟩ := o5.ps
  have hps : PS w5 A5 1 c5 qs5 := hps
  have hc1 : 1 ≤ c5 := hc1
  obtain ⟨g, o, rfl, hr⟩ := hps.at_ (j := 0) (by omega)
  have hsyn : (qs5.getD 0 zP).syn = true := by
    have hq1 := hps.len
    match qs5, hq1 with
    | [q], _ =>
      have e : [q.key] = [(⟨5, true, false, 0, false, []⟩ : Ky)] := hk5
      injection e with e _
      have := congrArg Ky.syn e
      exact this
  have cs := hr 1 (.bool (qs5.getD 0 zP).syn) rfl
  rw [hsyn, Nat.zero_mul, Nat.add_zero] at cs
  clear hr hsyn hps hk5 o5 S5 hcn HA3 HE3 HS3
  unfold ptr at *
  go_wp2_with fail
  refine (HL5.out).mono ?_
  rintro e w6 ⟨rfl, rfl⟩
  go_wp2_with fail
  go_ret
  exact ⟨rfl, HB5.out⟩
end Go.Proofs.Ytkmddedfmbmgfaa

/- The walk of the law SumZeros: for every argument it returns true, and writes nothing that was there. -/
import Derived.Test.YtopjlmigpphmoaaSumW
import Derived.Test.YtopjlmigpphmoaaZer
namespace Go.Proofs.Ytopjlmigpphmoaa
set_option linter.unusedVariables false
open Go.RowKit

/-- Are the first k bytes zeros? -/
def zer (l : List UInt8) (k : Nat) : Bool := zeros (l.take k)
theorem zer_step (l : List UInt8) (k : Nat) (h : k < l.length) : zer l (k + 1) = (zer l k && (l.getD k 0 == 0)) := by
  unfold zer
  rw [take_snoc l k h, zeros_snoc]

theorem of_zer (l : List UInt8) (k : Nat) : Hid (of (l ++ List.replicate k 0) = of l) := Lib.hid (of_zeros l k)

set_option maxRecDepth 100000 in
set_option maxHeartbeats 1600000 in
theorem Zeros_any (A : Option Addr) (n c k : Nat) (l : List UInt8) (w : World) (h : RB w A n c l) (hk : k < 256) :
    Calls Try.prog 7 #[.slice A n c, .int .u8 (k : Int)] w (Held w) := by
  have hmx := h.max
  have hcp := h.cap
  by_cases hn : 500 < n
  · go_enter Try.func7, Try.ntmps7
    go_wp2_with (go_at_call 8; refine (wakes_any _).mono ?_; rintro e w1 ⟨rfl, hb1⟩)
    go_ret
    exact ⟨rfl, hb1⟩
  · have h2 : 2 * (n / 2) ≤ n := by omega
    have h' := h.take h2
    have HE : Hid ((l.take (2 * (n / 2))).length % 2 = 0) := Lib.hid (by rw [h'.len]; omega)
    generalize l.take (2 * (n / 2)) = ev at *
    have hdiv : 0 ≤ (n : Int) / 2 := by omega
    have hdiv1 : (n : Int) / 2 ≤ 250 := by omega
    have hdiv2 : (n : Int) / 2 * 2 ≤ (n : Int) := by omega
    have hdiv3 : ((n : Int) / 2 * 2).toNat = 2 * (n / 2) := by omega
    go_enter Try.func7, Try.ntmps7
    go_wp2_with fail
    refine (wakes_any _).mono ?_
    rintro e w1 ⟨rfl, hb1⟩
    have r1 := h'.below hb1
    have hev := r1.len
    have HV := Lib.hid hev
    clear h h' hev
    go_wp2_with (first
      | (at_builtin; refine wpList_app_lit rfl (.tmp 22) (.tmp 23) 24 5 rfl Try.underlying24 infoByte rfl A _ c ev rfl r1 (by omega) ?_; intro A2 c2 w2 r2 o2 s2)
      | (at_builtin; refine wpList_app_zeros rfl (.tmp 24) (.tmp 26) 24 3 5 .i64 rfl Try.underlying24 Try.underlying3 infoByte _ _ ev rfl o2 s2 k rfl (by omega) ?_; intro A3 c3 w3 r3 _ s3; have r13 := r1.below s3; have hb3 := below_trans hb1 s3; clear r1 r2 o2 s2 s3 hb1)
      | (at_builtin; refine wpList_app_lit rfl (.tmp 28) (.tmp 29) 24 5 rfl Try.underlying24 infoByte rfl A _ c ev rfl r13 (by omega) ?_; intro A4 c4 w4 r4 o4 s4)
      | (at_builtin; refine wpList_app_more rfl (.tmp 30) (.tmp 31) 24 5 rfl Try.underlying24 infoByte _ _ ev rfl (o4.alloc _) (s4.alloc s4.size _) _ 2 2 [255, 255] rfl (RB.lit2 _ _ _ _ _ _ rfl rfl) (by omega) ?_; intro A5 c5 w5 r5 _ s5; have r15 := r13.below s5; have r35 := r3.below s5; have hb5 := below_trans hb3 s5; clear r13 r3 r4 o4 s4 s5 hb3))
    have hrm := r15.max
    have hrc := r15.cap
    generalize 2 * (n / 2) = m at *
    go_loop [8, 35] (fun z i => ∃ j : Nat, j ≤ m ∧ i = .int .i64 j ∧ z = .bool (zer ev j)) (fun _ i => m - (intOf i).toNat)
    case atStart => exact ⟨0, Nat.zero_le _, rfl, rfl⟩
    case round =>
      obtain ⟨j, hj, rfl, rfl⟩ := hrel
      by_cases hlt : j < m
      · have HS := Lib.hid (zer_step ev j (by rw [HV.out]; exact hlt))
        have HQ : Hid ((ev.getD j 0 == 0) = (((ev.getD j 0).toNat : Int) == 0)) := by
          show (ev.getD j 0 == 0) = (((ev.getD j 0).toNat : Int) == 0)
          rw [Bool.eq_iff_iff, beq_iff_eq, beq_iff_eq]
          constructor
          · intro e; rw [e]; rfl
          · intro e; exact UInt8.toNat_inj.1 (by simpa using e)
        obtain ⟨b, o, rfl, hc⟩ := r15.at_ hlt
        have hx := (ev.getD j 0).toNat_lt
        rw [HQ.out] at HS
        clear r15 r35 r5 HQ
        generalize (ev.getD j 0).toNat = x at *
        cases hz : zer ev j with
        | true =>
          rw [hz] at HS
          clear hz
          go_wp2
          go_round
          case rel => exact ⟨j + 1, by omega, by go_num, by rw [HS.out]; rfl⟩
          case measure => simp [intOf]; omega
        | false =>
          rw [hz] at HS
          clear hz
          go_wp2
          go_round
          case rel => exact ⟨j + 1, by omega, by go_num, by rw [HS.out]; rfl⟩
          case measure => simp [intOf]; omega
      · obtain rfl : j = m := by omega
        have HZ : Hid (zer ev j = zeros ev) := by
          show zer ev j = zeros ev
          unfold zer
          rw [List.take_of_length_le (by rw [HV.out]; exact Nat.le_refl _)]
        have HO := of_zer ev k
        go_wp2_with fail
        refine (Of_one (by simp) r35 (by omega)).mono ?_
        rintro e w' ⟨rfl, rfl⟩
        go_wp2_with fail
        refine (Of_one (by simp) (r15.alloc _) (by omega)).mono ?_
        rintro e w' ⟨rfl, rfl⟩
        rw [HO.out]
        cases hz : zer ev j with
        | true =>
          clear hz
          generalize of ev = s at *
          go_wp2
          go_ret
          exact ⟨rfl, (hb5.alloc hb5.size _).alloc (by have := hb5.size; simp; omega) _⟩
        | false =>
          have HN := Lib.hid (of_ones ev HE.out (by rw [← HZ.out]; exact hz))
          clear hz
          go_wp2_with fail
          refine (Of_one (by simp) ((r5.alloc _).alloc _) (by omega)).mono ?_
          rintro e w' ⟨rfl, rfl⟩
          go_wp2_with fail
          refine (Of_one (by simp) (((r15.alloc _).alloc _).alloc _) (by omega)).mono ?_
          rintro e w' ⟨rfl, rfl⟩
          rw [HN.out]
          generalize of ev = s at *
          go_wp2
          go_ret
          exact ⟨rfl, (((hb5.alloc hb5.size _).alloc (by have := hb5.size; simp; omega) _).alloc (by have := hb5.size; simp; omega) _).alloc (by have := hb5.size; simp; omega) _⟩
end Go.Proofs.Ytopjlmigpphmoaa

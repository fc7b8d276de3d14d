/- TokenWaits, walked: a token that was freed isn't given again till just its quarantine ends. Condition: the table of constants holds. -/
import Derived.Test.YtgkonmjchdpohaaDoorTkC
namespace Go.Proofs.YtgkonmjchdpohaaDoor
set_option linter.unusedVariables false
set_option linter.unusedSimpArgs false
open Go.RowKit

theorem fnd_one (k : Nat) (e : Ent) : fnd [(k, e)] k = some e := by simp [fnd]

set_option maxRecDepth 20000 in
set_option maxHeartbeats 1600000 in
theorem Waits_any (k tick late : Nat) (w : World) (hk : k < 18446744073709551616) (ht : tick < 65536) (hl : late < 256) (hT : Tab w) : Calls Tryd.prog 4 #[.int .u64 (k : Int), .int .u16 (tick : Int), .int .u8 (late : Int)] w (Held w) := by
  have HW := Lib.hid (wakes_any w hT)
  have HT := Lib.hid hT
  have HK := Lib.hid hk
  have hwr : IntKind.i64.wrap ((tick : Int) + (late : Int)) = (tick : Int) + (late : Int) := by
    simp [IntKind.wrap, IntKind.bits, IntKind.signed]
    omega
  have e2 : cp 2 = 2 := rfl
  have hkt := kt_lt k
  have HKT := Lib.hid hkt
  clear hT hk hkt
  go_enter Tryd.func4, Tryd.ntmps4
  go_wp2_with fail
  refine (HW.out).mono ?_
  rintro e w0 ⟨rfl, b0⟩
  have HN := Lib.hid (tnew_any 2 (by unfold isI; omega) w0)
  rw [e2] at HN
  clear e2
  have HB := Lib.hid b0
  clear b0 HW
  go_wp2_with fail
  refine (HN.out).mono ?_
  rintro e w1 ⟨tb, mb, rfl, T1, b1, _, hm1⟩
  have S1 := Lib.hid (Ts.new_ HT.out HB.out T1 b1 hm1)
  clear T1 b1 hm1 HN HB
  unfold ptr
  go_wp2_with fail
  refine (take1_hit S1.out.t S1.out.tab (by simp) HK.out (by simp [keys])).mono ?_
  rintro e w2 ⟨rfl, T2, c2⟩
  rw [List.nil_append] at T2
  have S2 := Lib.hid (S1.out.turn T2 c2)
  clear T2 c2 S1
  go_wp2_with fail
  refine (token_any k w2 HK.out S2.out.tab).mono ?_
  rintro e w3 ⟨rfl, b3⟩
  have S3 := Lib.hid (S2.out.below b3)
  clear b3 S2
  go_wp2_with fail
  refine (tfree_yes S3.out.t HKT.out (by rw [fnd_one]; rfl) (tick : Int)).mono ?_
  rintro e w4 ⟨rfl, T4, c4⟩
  have e4 : upd [(kt k, (⟨true, 1, 0⟩ : Ent))] (kt k) ⟨false, 0, tick⟩ = [(kt k, ⟨false, 0, tick⟩)] := by simp [upd]
  rw [e4] at T4
  have S4 := Lib.hid (S3.out.turn T4 c4)
  clear T4 c4 S3 e4
  go_wp2_with fail
  refine (tfree_no S4.out.t HKT.out (by rw [fnd_one]; rfl) (tick : Int)).mono ?_
  rintro e w5 ⟨rfl, rfl⟩
  go_wp2_with fail
  have hfd := tfind_any S4.out.t HKT.out
  rw [fnd_one] at hfd
  dsimp only [Option.getD] at hfd
  refine hfd.mono ?_
  rintro e w6 ⟨rfl, b6⟩
  have S6 := Lib.hid (S4.out.below b6)
  clear b6 S4 hfd
  go_wp2_with fail
  refine (ttick_any S6.out.t (fun p hp => by
    simp at hp
    subst hp
    show isI (tick : Int)
    unfold isI
    omega) (t := (tick : Int) + (late : Int)) (by unfold isI; omega)).mono ?_
  rintro e w7 ⟨rfl, T7, c7⟩
  by_cases h10 : late < 10
  · have e7 : ([(kt k, (⟨false, 0, tick⟩ : Ent))].filter fun p => !ov p.2 ((tick : Int) + (late : Int))) = [(kt k, ⟨false, 0, tick⟩)] := by
      have : ov ⟨false, 0, tick⟩ ((tick : Int) + (late : Int)) = false := by
        unfold ov
        simp
        omega
      simp [this]
    rw [e7] at T7
    have S7 := Lib.hid (S6.out.turn T7 c7)
    clear T7 c7 S6 e7
    go_wp2_with fail
    refine (take1_none S7.out.t S7.out.tab (by simp) HK.out (by simp [keys])).mono ?_
    rintro e w8 ⟨rfl, b8⟩
    have S8 := Lib.hid (S7.out.below b8)
    clear b8 S7
    have hd : (late : Int) < 10 := by omega
    go_wp2_with fail
    go_ret
    exact ⟨rfl, S8.out.bel⟩
  · have e7 : ([(kt k, (⟨false, 0, tick⟩ : Ent))].filter fun p => !ov p.2 ((tick : Int) + (late : Int))) = [] := by
      have : ov ⟨false, 0, tick⟩ ((tick : Int) + (late : Int)) = true := by
        unfold ov
        simp
        omega
      simp [this]
    rw [e7] at T7
    have S7 := Lib.hid (S6.out.turn T7 c7)
    clear T7 c7 S6 e7
    go_wp2_with fail
    refine (take1_hit S7.out.t S7.out.tab (by simp) HK.out (by simp [keys])).mono ?_
    rintro e w8 ⟨rfl, T8, c8⟩
    have S8 := Lib.hid (S7.out.turn T8 c8)
    clear T8 c8 S7
    have hd : ¬ (late : Int) < 10 := by omega
    go_wp2_with fail
    go_ret
    exact ⟨rfl, S8.out.bel⟩
end Go.Proofs.YtgkonmjchdpohaaDoor

/- The contract of a round. Conditions: the receiver is a block of eight words, the round's number is below 64. -/
import Derived.Test.YtgkonmjchdpohaaDoorShaF
import Derived.Test.YtgkonmjchdpohaaDoorArr
import Derived.Deep.RegionHeld3
import Derived.Deep.Cut
import Derived.Deep.DeepCutAuto
namespace Go.Proofs.YtgkonmjchdpohaaDoor
set_option linter.unusedVariables false
set_option linter.unusedSimpArgs false
open Go.RowKit

theorem spot_at (i t : Nat) (hi : i < 8) (ht : t < 64) (w : World) :
    Calls Tryd.prog 65 #[.int .i64 (i : Int), .int .i64 (t : Int)] w fun e w' => e = .returned (.int .i64 (at8 i t : Int)) ∧ w' = w :=
  (spot_any i t hi ht w).mono fun _ _ ⟨h, e⟩ => ⟨h, e.symm⟩

set_option maxRecDepth 8000 in
set_option maxHeartbeats 1600000 in
theorem round_any (b t : Nat) (n : UInt32) (f : Nat → UInt32) (w : World) (h : Arr w b 8 f) (ht : t < 64) :
    Calls Tryd.prog 49 #[.pointer (some ⟨b, 0, none⟩), .int .i64 (t : Int), c32 n] w fun e w' => e = .returned (.tuple #[]) ∧ Arr w' b 8 (rnd f t n) ∧ w.grownBy w' (some b) := by
  have C0 : Hid (∀ w, Calls Tryd.prog 65 #[.int .i64 0, .int .i64 (t : Int)] w fun e w' => e = .returned (.int .i64 (at8 0 t : Int)) ∧ w' = w) := Lib.hid (spot_at 0 t (by omega) ht)
  have C1 : Hid (∀ w, Calls Tryd.prog 65 #[.int .i64 1, .int .i64 (t : Int)] w fun e w' => e = .returned (.int .i64 (at8 1 t : Int)) ∧ w' = w) := Lib.hid (spot_at 1 t (by omega) ht)
  have C2 : Hid (∀ w, Calls Tryd.prog 65 #[.int .i64 2, .int .i64 (t : Int)] w fun e w' => e = .returned (.int .i64 (at8 2 t : Int)) ∧ w' = w) := Lib.hid (spot_at 2 t (by omega) ht)
  have C3 : Hid (∀ w, Calls Tryd.prog 65 #[.int .i64 3, .int .i64 (t : Int)] w fun e w' => e = .returned (.int .i64 (at8 3 t : Int)) ∧ w' = w) := Lib.hid (spot_at 3 t (by omega) ht)
  have C4 : Hid (∀ w, Calls Tryd.prog 65 #[.int .i64 4, .int .i64 (t : Int)] w fun e w' => e = .returned (.int .i64 (at8 4 t : Int)) ∧ w' = w) := Lib.hid (spot_at 4 t (by omega) ht)
  have C5 : Hid (∀ w, Calls Tryd.prog 65 #[.int .i64 5, .int .i64 (t : Int)] w fun e w' => e = .returned (.int .i64 (at8 5 t : Int)) ∧ w' = w) := Lib.hid (spot_at 5 t (by omega) ht)
  have C6 : Hid (∀ w, Calls Tryd.prog 65 #[.int .i64 6, .int .i64 (t : Int)] w fun e w' => e = .returned (.int .i64 (at8 6 t : Int)) ∧ w' = w) := Lib.hid (spot_at 6 t (by omega) ht)
  have C7 : Hid (∀ w, Calls Tryd.prog 65 #[.int .i64 7, .int .i64 (t : Int)] w fun e w' => e = .returned (.int .i64 (at8 7 t : Int)) ∧ w' = w) := Lib.hid (spot_at 7 t (by omega) ht)
  have HR : Hid (rnd f t n = put (put f (at8 3 t) (f (at8 3 t) + (n + (f (at8 7 t) + rrs [6, 11, 25] (f (at8 4 t)) + ch (f (at8 4 t)) (f (at8 5 t)) (f (at8 6 t)))))) (at8 7 t) (n + (f (at8 7 t) + rrs [6, 11, 25] (f (at8 4 t)) + ch (f (at8 4 t)) (f (at8 5 t)) (f (at8 6 t))) + rrs [2, 13, 22] (f (at8 0 t)) + mj (f (at8 0 t)) (f (at8 1 t)) (f (at8 2 t)))) := Lib.hid rfl
  have h37 : Hid (at8 3 t ≠ at8 7 t) := Lib.hid (by unfold at8; omega)
  have h0 := at8_lt 0 t
  have h1 := at8_lt 1 t
  have h2 := at8_lt 2 t
  have h3 := at8_lt 3 t
  have h4 := at8_lt 4 t
  have h5 := at8_lt 5 t
  have h6 := at8_lt 6 t
  have h7 := at8_lt 7 t
  generalize at8 0 t = s0 at *
  generalize at8 1 t = s1 at *
  generalize at8 2 t = s2 at *
  generalize at8 3 t = s3 at *
  generalize at8 4 t = s4 at *
  generalize at8 5 t = s5 at *
  generalize at8 6 t = s6 at *
  generalize at8 7 t = s7 at *
  have i0 : (s0 : Int) < 8 := by omega
  have i1 : (s1 : Int) < 8 := by omega
  have i2 : (s2 : Int) < 8 := by omega
  have i4 : (s4 : Int) < 8 := by omega
  have i5 : (s5 : Int) < 8 := by omega
  have i6 : (s6 : Int) < 8 := by omega
  have k0 := (h s0 h0).1
  have k1 := (h s1 h1).1
  have k2 := (h s2 h2).1
  have k4 := (h s4 h4).1
  have k5 := (h s5 h5).1
  have k6 := (h s6 h6).1
  go_enter Tryd.func49, Tryd.ntmps49
  go_wp2_with fail
  go_quiet (first | (go_at_call_of 65 (Value.int IntKind.i64 0); exact Calls.quiet_of_same (C0.out _)) | (go_at_call_of 65 (Value.int IntKind.i64 1); exact Calls.quiet_of_same (C1.out _)) | (go_at_call_of 65 (Value.int IntKind.i64 2); exact Calls.quiet_of_same (C2.out _)))
  have hA := h.drewN nq
  have gA := g_drewN w nq (some b)
  have ka := (hA s4 h4).1
  have kb := (hA s5 h5).1
  have kc := (hA s6 h6).1
  clear k0 k1 k2 k4 k5 k6 h
  generalize w.drewN nq = w1 at *
  go_wp2_with fail
  go_quiet (first | (go_at_call_of 65 (Value.int IntKind.i64 4); exact Calls.quiet_of_same (C4.out _)) | (go_at_call_of 65 (Value.int IntKind.i64 5); exact Calls.quiet_of_same (C5.out _)) | (go_at_call_of 65 (Value.int IntKind.i64 6); exact Calls.quiet_of_same (C6.out _)))
  have hB := hA.drewN nq
  have gB := gA.trans (g_drewN w1 nq (some b))
  have kd := (hB s7 h7).1
  clear ka kb kc hA gA
  generalize w1.drewN nq = w2 at *
  generalize e0 : f s0 = v0
  generalize e1 : f s1 = v1
  generalize e2 : f s2 = v2
  generalize e4 : f s4 = v4
  generalize e5 : f s5 = v5
  generalize e6 : f s6 = v6
  generalize e7 : f s7 = v7 at kd
  have E0 := Lib.hid e0
  have E1 := Lib.hid e1
  have E2 := Lib.hid e2
  have E4 := Lib.hid e4
  have E5 := Lib.hid e5
  have E6 := Lib.hid e6
  have E7 := Lib.hid e7
  clear e0 e1 e2 e4 e5 e6 e7 i0 i1 i2 i4 i5 i6
  have i7 : (s7 : Int) < 8 := by omega
  go_wp2_with fail
  go_cut [2] (fun x wx => x = c32 (n + (v7 + rrs [6, 11, 25] v4 + ch v4 v5 v6)) ∧ Arr wx b 8 f ∧ w.grownBy wx (some b))
  case first =>
    go_region_held3 (fun w' => w'.cell? ⟨b, s7, none⟩ = some (c32 v7)) (first | go_keep)
      (first
        | (go_at_call 65; refine (C7.out _).mono ?_; rintro e w' ⟨rfl, rfl⟩)
        | (go_at_call 66; refine (choice_any v4 v5 v6 _).mono ?_; rintro e w' ⟨rfl, rfl⟩)
        | (go_at_call 64; refine (rotated_any v4 (some ⟨w2.heap.size, 0, none⟩) 3 3 [6, 11, 25] (w2.alloc (.cells #[.int .i64 6, .int .i64 11, .int .i64 25] 3)).drew (RI.lit .i64 w2 (ints [6, 11, 25]) 3 (by decide)) (by decide)).mono ?_; rintro e w' ⟨rfl, rfl⟩))
    all_goals
      rw [w_addw, w_addw, w_addw]
      go_wp2_with fail
      go_meet
      exact ⟨rfl, (hB.alloc _).drew, (gB.trans (g_alloc _ _ _)).trans (g_drew _ _)⟩
  case rest =>
    obtain ⟨rfl, hC, gC⟩ := hcut
    obtain ⟨ke, kf⟩ := hC s3 h3
    have i3 : (s3 : Int) < 8 := by omega
    generalize e3 : f s3 = v3 at ke
    have E3 := Lib.hid e3
    clear e3 kd hB gB i7
    generalize em : n + (v7 + rrs [6, 11, 25] v4 + ch v4 v5 v6) = m at *
    have EM := Lib.hid em
    clear em
    go_wp2_with fail
    go_region_with (first | (go_at_call 65; refine (C3.out _).mono ?_; rintro e w' ⟨rfl, rfl⟩))
    rw [w_addw]
    have hD := (hC.set s3 (v3 + m)).drew
    have gD := (gC.trans (g_set _ b s3 (c32 (v3 + m)))).trans (g_drew _ _)
    clear ke kf hC gC i3
    have HR2 : Hid (put (put f s3 (v3 + m)) s7 (m + rrs [2, 13, 22] v0 + mj v0 v1 v2) = rnd f t n) := Lib.hid (by
      rw [HR.out, E0.out, E1.out, E2.out, E3.out, E4.out, E5.out, E6.out, E7.out, EM.out])
    clear HR E0 E1 E2 E3 E4 E5 E6 E7 EM C0 C1 C2 C3 C4 C5 C6 h37
    generalize (wc.setCell ⟨b, s3, none⟩ (c32 (v3 + m))).drew = w4 at *
    obtain ⟨ke, kf⟩ := hD s7 h7
    have hlt := hD.lt (by omega)
    have hca : ∀ o, (w4.alloc o).cell? ⟨b, s7, none⟩ = some (c32 (put f s3 (v3 + m) s7)) := fun o => ((hD.alloc o) s7 h7).1
    have hfa : ∀ o, (w4.alloc o).frozen? ⟨b, s7, none⟩ = false := fun o => ((hD.alloc o) s7 h7).2
    have i7 : (s7 : Int) < 8 := by omega
    have hE := ((hD.set s7 (m + rrs [2, 13, 22] v0 + mj v0 v1 v2)).alloc (.cells #[.int .i64 2, .int .i64 13, .int .i64 22] 3)).drew
    have gE := ((gD.trans (g_set _ b s7 (c32 (m + rrs [2, 13, 22] v0 + mj v0 v1 v2)))).trans (g_alloc _ (.cells #[.int .i64 2, .int .i64 13, .int .i64 22] 3) _)).trans (g_drew _ _)
    rw [HR2.out] at hE
    go_wp2_with fail
    go_region_with (first
        | (go_at_call 65; refine (C7.out _).mono ?_; rintro e w' ⟨rfl, rfl⟩)
        | (go_at_call 67; refine (majority_any v0 v1 v2 _).mono ?_; rintro e w' ⟨rfl, rfl⟩)
        | (go_at_call 64; refine (rotated_any v0 (some ⟨w4.heap.size, 0, none⟩) 3 3 [2, 13, 22] (w4.alloc (.cells #[.int .i64 2, .int .i64 13, .int .i64 22] 3)).drew (RI.lit .i64 w4 (ints [2, 13, 22]) 3 (by decide)) (by decide)).mono ?_; rintro e w' ⟨rfl, rfl⟩))
    all_goals
      rw [w_addw, w_addw]
      go_wp2_with fail
      go_end0
      exact ⟨rfl, hE, gE⟩
end Go.Proofs.YtgkonmjchdpohaaDoor

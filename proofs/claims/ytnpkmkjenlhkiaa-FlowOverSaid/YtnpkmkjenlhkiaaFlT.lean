/- The law FlowOver. No condition. -/
import Derived.Test.YtnpkmkjenlhkiaaFlS
import Derived.Test.YtnpkmkjenlhkiaaFlQ
import Derived.Test.YtnpkmkjenlhkiaaSwFr
namespace Go.Proofs.Ytnpkmkjenlhkiaa
set_option linter.unusedVariables false
set_option linter.unusedSimpArgs false
set_option maxRecDepth 20000
open Go.RowKit Go.Lib

section
variable {base : Nat} {w : World} {s : Sh} {x : F}
set_option maxHeartbeats 1600000 in
theorem Hear_dead (h : Fl base w s x) (hst : x.st = 10 ∨ x.st = 11) (vs : List Value) (hv : Sv vs) (t : Int) : Calls Try.prog 20 #[ptr s.fb, .agg vs.toArray, .int .i64 t] w fun e w' => e = .returned (.agg hz.toArray) ∧ Below w.heap.size w w' := by
  have HE := Lib.hid (fun (W : World) (b : Below w.heap.size w W) => fended_any (h.below b).fa)
  rw [show decide ((x.fc s.qb s.ov).st = 10 ∨ (x.fc s.qb s.ov).st = 11) = true from decide_eq_true hst] at HE
  clear h hst
  unfold ptr at *
  go_enter Try.func20, Try.ntmps20
  go_wp2_with (first
    | ((with_reducible refine wpList_here ?_); refine wpList_boxV (o := ⟨some 4, _, _, _, _, _⟩) rfl 47 (.tmp 1) rfl vs rfl _ rfl ?_; intro w0 z0 b0 s0)
    | ((with_reducible refine wpList_here ?_); refine wpList_allocV (o := ⟨some 6, _, _, _, _, _⟩) rfl 57 rfl hz zeroHd _ s0 ?_; intro w1 z1 b1 s1; have HB := Lib.hid (below_trans b0 b1); clear b0 b1)
    | (go_at_call 35; refine (HE.out _ HB.out).mono ?_; rintro e w2 ⟨rfl, hw2⟩; obtain rfl : w1 = w2 := hw2.symm)
    | ((with_reducible refine wpList_here ?_); refine wpList_storeV rfl 57 (.tmp 6) (.tmp 15) rfl _ _ hz rfl rfl z1 rfl (hd_one _ _ _ _ _ rfl) infoHd ?_; intro w9 z9 g9 s9)
    | fail)
  refine bodyPost_ret (results_c0 rfl _ _ (w.heap.size + 1) _ _ rfl z9.range Try.underlying57 rfl infoHd) rfl ?_
  exact ⟨rfl, v_below_g HB.out g9 HB.out.size (by omega)⟩
set_option maxHeartbeats 1600000 in
theorem mayTell_dead (h : Fl base w s x) (hst : x.st = 10 ∨ x.st = 11) : Calls Try.prog 50 #[ptr s.fb] w fun e w' => e = .returned (.int .i64 9) ∧ w' = w := by
  have HE := Lib.hid (within_any h.fa 3 9)
  rw [show decide ((3 : Int) ≤ (x.fc s.qb s.ov).st ∧ ((x.fc s.qb s.ov).st : Int) ≤ 9) = false from decide_eq_false (by show ¬ ((3 : Int) ≤ (x.st : Int) ∧ (x.st : Int) ≤ 9); omega)] at HE
  clear h hst
  unfold ptr at *
  go_enter Try.func50, Try.ntmps50
  go_wp2_with (first | (go_at_call 36; refine HE.out.mono ?_; rintro e w1 ⟨rfl, rfl⟩) | fail)
  go_ret
  exact ⟨rfl, rfl⟩
set_option maxHeartbeats 1600000 in
theorem Tell_dead (h : Fl base w s x) (hst : x.st = 10 ∨ x.st = 11) : Calls Try.prog 24 #[ptr s.fb] w fun e w' => e = .returned (.int .i64 9) ∧ w' = w := by
  have HE := Lib.hid (mayTell_dead h hst)
  clear h hst
  unfold ptr at *
  go_enter Try.func24, Try.ntmps24
  go_wp2_with (first | (go_at_call 50; refine HE.out.mono ?_; rintro e w1 ⟨rfl, rfl⟩) | fail)
  go_ret
  exact ⟨rfl, rfl⟩
set_option maxHeartbeats 1600000 in
theorem Probe_dead (h : Fl base w s x) (hst : x.st = 10 ∨ x.st = 11) : Calls Try.prog 25 #[ptr s.fb] w fun e w' => e = .returned (.int .i64 9) ∧ w' = w := by
  have HE := Lib.hid (mayTell_dead h hst)
  clear h hst
  unfold ptr at *
  go_enter Try.func25, Try.ntmps25
  go_wp2_with (first | (go_at_call 50; refine HE.out.mono ?_; rintro e w1 ⟨rfl, rfl⟩) | fail)
  go_ret
  exact ⟨rfl, rfl⟩
end
/-- The flow that has been killed; what it lets be sent. -/
def xK (i : Nat) : F := ((F.answer i 4 0).rst (tK (F.answer i 4 0).en)).fin_ 11
theorem row_two {base : Nat} {w : World} {s : Sh} {x : F} (h : Fl base w s x) {k k2 : Ou} (hk : x.os = [k, k2]) : ∃ (g c : Nat) (o : Oc), s.ov = .slice (some ⟨g, 0, none⟩) 2 c ∧ 2 ≤ c ∧ c ≤ 9223372036854775807 ∧ o.key = k2 ∧ w.rangeAt g 9 o.vals ∧ base ≤ g ∧ g < w.heap.size ∧ s.ov.ownBlock = some g := by
  have h1 : s.ol.map Oc.key = [k, k2] := h.os.trans hk
  obtain ⟨o0, o, ho⟩ : ∃ o0 o, s.ol = [o0, o] := by
    match hl : s.ol with
    | [] => rw [hl] at h1; cases h1
    | [a] => rw [hl] at h1; cases h1
    | [a, b] => exact ⟨a, b, rfl⟩
    | a :: b :: c :: r => rw [hl] at h1; cases h1
  have hr := h.row
  rw [ho] at hr h1
  have hlen : [o0, o].length = 2 := rfl
  rw [hlen] at hr
  obtain ⟨g, c, hv, hg, hlt⟩ := hr.form (by omega)
  obtain ⟨A, c2, hv2, hc1, hc2⟩ := own_slice hr
  rw [hv] at hv2
  injection hv2 with e1 e2 e3
  subst e1 e3
  rw [hv] at hr
  refine ⟨g, c, o, hv, hc1, hc2, ?_, ?_, hg, hlt, by rw [hv]; rfl⟩
  · have h2 : [o0.key, o.key] = [k, k2] := h1
    injection h2 with _ h2
    injection h2
  · have := own_rangeO (j := 1) hr (by omega)
    simpa using this
end Go.Proofs.Ytnpkmkjenlhkiaa

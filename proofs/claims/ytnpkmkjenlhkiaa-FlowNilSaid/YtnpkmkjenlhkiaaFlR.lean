/- The law FlowNil. No condition. -/
import Derived.Test.YtnpkmkjenlhkiaaFlQ
import Derived.Test.YtnpkmkjenlhkiaaSwFr
namespace Go.Proofs.Ytnpkmkjenlhkiaa
set_option linter.unusedVariables false
set_option linter.unusedSimpArgs false
set_option maxRecDepth 20000
open Go.RowKit Go.Lib

set_option maxHeartbeats 6400000 in
theorem FNil_any (vs : List Value) (h : Sv vs) (t : Int) (w : World) : Calls Try.prog 6 #[.agg vs.toArray, .int .i64 t] w (Held w) := by
  have HW := Lib.hid (fun W => wakes_any W)
  have HK := Lib.hid (fun W => nKill W)
  have HA := Lib.hid (fun W => nAt W)
  have HH := Lib.hid (fun W => nHear vs h t W)
  have HE := Lib.hid (fun W => nExpire t W)
  have HS := Lib.hid (fun W => sameHz W)
  have HSe := Lib.hid (fun W => nSend (.slice none 0 0) 0 false t W)
  have HCl := Lib.hid (fun W => nClose t W)
  have HTe := Lib.hid (fun W => nTell W)
  have HPr := Lib.hid (fun W => nProbe W)
  have HOu := Lib.hid (fun W => nOut W)
  have HLe := Lib.hid (fun W => nLeft W)
  have HSt := Lib.hid (fun W => nState W)
  have HSm := Lib.hid (fun W => nSmooth W)
  have HV := Lib.hid h
  clear h
  unfold nilp at *
  go_enter Try.func6, Try.ntmps6
  go_wp2_with (first
    | ((with_reducible refine wpList_here ?_); refine wpList_boxV (o := ⟨some 2, _, _, _, _, _⟩) rfl 47 (.tmp 0) rfl vs rfl _ rfl ?_; intro w0 z0 b0 s0; have HB0 := Lib.hid b0; have hs0 := b0.size; clear b0)
    | (go_at_call 8; refine (HW.out _).mono ?_; rintro e w1 ⟨rfl, b1⟩; have z1 := z0.below b1; have HB1 := Lib.hid (below_trans HB0.out b1); clear b1 z0)
    | (go_at_call 17; refine (HK.out _).mono ?_; rintro e w2 ⟨rfl, rfl⟩)
    | (go_at_call 12; refine (HA.out _).mono ?_; rintro e w2 ⟨rfl, rfl⟩)
    | ((with_reducible refine wpList_here ?_); refine wpList_loadV (o := ⟨some 18, _, _, _, _, _⟩) rfl 47 (.tmp 2) rfl _ _ vs rfl z1.range _ Try.underlying47 rfl (infoSv HV.out) ?_)
    | (go_at_call 20; refine (HH.out _).mono ?_; rintro e w3 ⟨rfl, b3⟩; have HB3 := Lib.hid (below_trans HB1.out b3); clear b3)
    | fail)
  refine (HS.out _).mono ?_
  rintro e w5 ⟨rfl, b5⟩
  have HB5 := Lib.hid (below_trans HB3.out b5)
  clear b5
  go_wp2_with (first
    | (go_at_call 21; refine (HE.out _).mono ?_; rintro e w6 ⟨rfl, b6⟩; have HB6 := Lib.hid (below_trans HB5.out b6); clear b6)
    | fail)
  refine (HS.out _).mono ?_
  rintro e w7 ⟨rfl, b7⟩
  have HB7 := Lib.hid (below_trans HB6.out b7)
  clear b7
  go_wp2_with (first
    | (go_at_call 22; refine (HSe.out _).mono ?_; rintro e w4 ⟨rfl, rfl⟩)
    | (go_at_call 23; refine (HCl.out _).mono ?_; rintro e w4 ⟨rfl, rfl⟩)
    | (go_at_call 24; refine (HTe.out _).mono ?_; rintro e w4 ⟨rfl, rfl⟩)
    | (go_at_call 25; refine (HPr.out _).mono ?_; rintro e w4 ⟨rfl, rfl⟩)
    | (go_at_call 18; refine (HOu.out _).mono ?_; rintro e w4 ⟨rfl, rfl⟩)
    | (go_at_call 14; refine (HLe.out _).mono ?_; rintro e w4 ⟨rfl, rfl⟩)
    | (go_at_call 13; refine (HSt.out _).mono ?_; rintro e w4 ⟨rfl, rfl⟩)
    | (go_at_call 26; refine (HSm.out _).mono ?_; rintro e w4 ⟨rfl, rfl⟩))
  go_ret
  exact ⟨rfl, HB7.out⟩
theorem LawNil (vs : List Value) (t : Int) (w : World) (h : Sw vs) (ht : -9223372036854775808 ≤ t ∧ t ≤ 9223372036854775807) : Calls Try.prog 6 #[.agg vs.toArray, .int .i64 t] w (Held w) := FNil_any vs h.sv t w
end Go.Proofs.Ytnpkmkjenlhkiaa

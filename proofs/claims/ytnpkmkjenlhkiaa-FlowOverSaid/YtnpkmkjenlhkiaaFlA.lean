/- A flow's struct in memory: its cells, stores into them; the contracts of the estimate's calls where it stands within a flow. Conditions: a flow's cells stand, the estimate's numbers within their bounds. -/
import Derived.Test.YtnpkmkjenlhkiaaEst
import Derived.Test.YtnpkmkjenlhkiaaOqJ
import Derived.StillTailTactics
import Derived.Deep.RegionLaw
import Derived.Deep.RegionHeld3
namespace Go.Proofs.Ytnpkmkjenlhkiaa
set_option linter.unusedVariables false
set_option linter.unusedSimpArgs false
set_option maxRecDepth 20000
open Go.RowKit Go.Lib

/-- What a flow's cells hold. -/
structure Fc where
  qb : Nat
  E : Es
  st : Nat
  rcv : Nat
  tries : Nat
  df : Int
  dw : Int
  bg : Int
  tm : Bool
  ov : Value
def Fc.cs (c : Fc) : Array Value := #[ptr c.qb, .bool c.E.has, .int .i64 c.E.s, .int .i64 c.E.v, .int .i64 (c.E.d : Int), .int .i64 (c.st : Int), .int .u32 (c.rcv : Int), .int .i64 (c.tries : Int), .int .i64 c.df, .int .i64 c.dw, .int .i64 c.bg, .bool c.tm, c.ov]
def Fc.est (c : Fc) (E : Es) : Fc := { c with E := E }
def ptr1 (b : Nat) : Value := .pointer (some ⟨b, 1, none⟩)
/-- At block b a flow's cells stand. -/
def Fa (w : World) (b : Nat) (c : Fc) : Prop := w.heap[b]? = some (.cells c.cs 78 (0, 0))
section
variable {w w' : World} {b : Nat} {c : Fc}
theorem Fa.lt (h : Fa w b c) : b < w.heap.size := (Array.getElem?_eq_some_iff.1 h).1
theorem Fa.at_ (h : Fa w b c) (j : Nat) : w.cell? ⟨b, j, none⟩ = c.cs[j]? := cell_of_row w b j _ _ (0, 0) h
theorem Fa.c0 (h : Fa w b c) : w.cell? ⟨b, 0, none⟩ = some (ptr c.qb) := by rw [h.at_ 0]; rfl
theorem Fa.c1 (h : Fa w b c) : w.cell? ⟨b, 1, none⟩ = some (.bool c.E.has) := by rw [h.at_ 1]; rfl
theorem Fa.c2 (h : Fa w b c) : w.cell? ⟨b, 2, none⟩ = some (.int .i64 c.E.s) := by rw [h.at_ 2]; rfl
theorem Fa.c3 (h : Fa w b c) : w.cell? ⟨b, 3, none⟩ = some (.int .i64 c.E.v) := by rw [h.at_ 3]; rfl
theorem Fa.c4 (h : Fa w b c) : w.cell? ⟨b, 4, none⟩ = some (.int .i64 (c.E.d : Int)) := by rw [h.at_ 4]; rfl
theorem Fa.c5 (h : Fa w b c) : w.cell? ⟨b, 5, none⟩ = some (.int .i64 (c.st : Int)) := by rw [h.at_ 5]; rfl
theorem Fa.c6 (h : Fa w b c) : w.cell? ⟨b, 6, none⟩ = some (.int .u32 (c.rcv : Int)) := by rw [h.at_ 6]; rfl
theorem Fa.c7 (h : Fa w b c) : w.cell? ⟨b, 7, none⟩ = some (.int .i64 (c.tries : Int)) := by rw [h.at_ 7]; rfl
theorem Fa.c8 (h : Fa w b c) : w.cell? ⟨b, 8, none⟩ = some (.int .i64 c.df) := by rw [h.at_ 8]; rfl
theorem Fa.c9 (h : Fa w b c) : w.cell? ⟨b, 9, none⟩ = some (.int .i64 c.dw) := by rw [h.at_ 9]; rfl
theorem Fa.c10 (h : Fa w b c) : w.cell? ⟨b, 10, none⟩ = some (.int .i64 c.bg) := by rw [h.at_ 10]; rfl
theorem Fa.c11 (h : Fa w b c) : w.cell? ⟨b, 11, none⟩ = some (.bool c.tm) := by rw [h.at_ 11]; rfl
theorem Fa.c12 (h : Fa w b c) : w.cell? ⟨b, 12, none⟩ = some (c.ov) := by rw [h.at_ 12]; rfl
theorem Fa.fz (h : Fa w b c) (j : Nat) : w.frozen? ⟨b, j, none⟩ = false := by simp [World.frozen?, show w.heap[b]? = _ from h]
theorem Fa.ch (h : Fa w b c) {m : Nat → Prop} (k : Ch w w' m) (hb : ¬ m b) : Fa w' b c := (k.block b h.lt hb).trans h
theorem Fa.below (h : Fa w b c) (k : Below w.heap.size w w') : Fa w' b c := (k.block b h.lt).trans h
theorem Fa.drew (h : Fa w b c) : Fa w.drew b c := h
theorem Fa.drewN (h : Fa w b c) (n : Nat) : Fa (w.drewN n) b c := h
theorem Fa.set (h : Fa w b c) (k : Nat) (v : Value) (c' : Fc) (hc : c.cs.setIfInBounds k v = c'.cs) : Fa (w.setCell ⟨b, k, none⟩ v) b c' := by
  have := h
  unfold Fa at *
  simp [World.setCell, Array.getElem?_modify, this, hc]
end
/-- What a call leaves that changes one flow's cells, and answers nothing. -/
def Did (w : World) (b : Nat) (c : Fc) (e : Ending) (w' : World) : Prop := e = .returned (.tuple #[]) ∧ Fa w' b c ∧ Ch w w' (fun k => k = b)

section
variable {w : World} {b : Nat} {c : Fc}
theorem Fa.set0 (h : Fa w b c) (x : Bool) : Fa (w.setCell ⟨b, 1, none⟩ (.bool x)) b (c.est { c.E with has := x }) := h.set 1 _ _ rfl
theorem Fa.set1 (h : Fa w b c) (x : Int) : Fa (w.setCell ⟨b, 2, none⟩ (.int .i64 x)) b (c.est { c.E with s := x }) := h.set 2 _ _ rfl
theorem Fa.set2 (h : Fa w b c) (x : Int) : Fa (w.setCell ⟨b, 3, none⟩ (.int .i64 x)) b (c.est { c.E with v := x }) := h.set 3 _ _ rfl
theorem Fa.set3 (h : Fa w b c) (x : Nat) : Fa (w.setCell ⟨b, 4, none⟩ (.int .i64 (x : Int))) b (c.est { c.E with d := x }) := h.set 4 _ _ rfl
end

set_option maxHeartbeats 1600000 in
theorem first_any {w : World} {b : Nat} {c : Fc} (R : Fa w b c) {t : Int} (h0 : 0 ≤ t) (h1 : t ≤ 1000) :
    Calls Try.prog 81 #[ptr1 b, .int .i64 t] w (Did w b (c.est ⟨true, t * 8, t * 2, c.E.d⟩)) := by
  have f0 := R.fz 1
  have f1 := R.fz 2
  have f2 := R.fz 3
  have c0 := R.c1
  have c1 := R.c2
  have c2 := R.c3
  have hw1 : IntKind.i64.wrap (t * 8) = t * 8 := by rw [IntKind.wrap_i64]; omega
  have hw2 : IntKind.i64.wrap (t * 4) = t * 4 := by rw [IntKind.wrap_i64]; omega
  have hq : (t * 4).tdiv 2 = t * 2 := by rw [Int.tdiv_eq_ediv_of_nonneg (by omega)]; omega
  have hw3 : IntKind.i64.wrap (t * 2) = t * 2 := by rw [IntKind.wrap_i64]; omega
  have HR := Lib.hid R
  clear R
  unfold ptr1
  go_enter Try.func81, Try.ntmps81
  go_wp2_with fail
  go_end0
  refine ⟨rfl, ?_, ?_⟩
  · exact ((HR.out.set0 true).set1 (t * 8)).set2 (t * 2)
  · exact ((ch_set w b 1 _).set 2 _).set 3 _

set_option maxHeartbeats 1600000 in
theorem later_any {w : World} {b : Nat} {c : Fc} (R : Fa w b c) (O : c.E.Ok) {t : Int} (h0 : 0 ≤ t) (h1 : t ≤ 1000) :
    Calls Try.prog 82 #[ptr1 b, .int .i64 t] w (Did w b (c.est ⟨c.E.has, c.E.s + (t - c.E.s.tdiv 8), c.E.v + (mag (t - c.E.s.tdiv 8) - c.E.v.tdiv 4), c.E.d⟩)) := by
  have f1 := R.fz 2
  have f2 := R.fz 3
  have c1 := R.c2
  have c2 := R.c3
  have o1 := O.s0
  have o2 := O.s1
  have o3 := O.v0
  have o4 := O.v1
  have h8 := td8 o1
  have h4 := td4 o3
  have HR := Lib.hid R
  have hw0 : IntKind.i64.wrap (c.E.s.tdiv 8) = c.E.s.tdiv 8 := by rw [IntKind.wrap_i64]; omega
  have hw1 : IntKind.i64.wrap (t - c.E.s.tdiv 8) = t - c.E.s.tdiv 8 := by rw [IntKind.wrap_i64]; omega
  have hw2 : IntKind.i64.wrap (c.E.s + (t - c.E.s.tdiv 8)) = c.E.s + (t - c.E.s.tdiv 8) := by rw [IntKind.wrap_i64]; omega
  have HX : Hid (-1000 ≤ t - c.E.s.tdiv 8 ∧ t - c.E.s.tdiv 8 ≤ 1000) := Lib.hid (by omega)
  have hw4 : IntKind.i64.wrap (c.E.v.tdiv 4) = c.E.v.tdiv 4 := by rw [IntKind.wrap_i64]; omega
  have HV : Hid (0 ≤ c.E.v ∧ c.E.v ≤ 4000 ∧ c.E.v.tdiv 4 = c.E.v / 4) := Lib.hid ⟨o3, o4, h4⟩
  clear R O o1 o2 o3 o4 h8 h4 h0 h1
  unfold ptr1 mag
  go_enter Try.func82, Try.ntmps82
  go_wp2_with fail
  have f2' : (w.setCell ⟨b, 2, none⟩ (.int .i64 (c.E.s + (t - c.E.s.tdiv 8)))).frozen? ⟨b, 3, none⟩ = false := (HR.out.set1 _).fz 3
  have c2' : (w.setCell ⟨b, 2, none⟩ (.int .i64 (c.E.s + (t - c.E.s.tdiv 8)))).cell? ⟨b, 3, none⟩ = some (.int .i64 c.E.v) := (HR.out.set1 _).c3
  have HR1 := Lib.hid (HR.out.set1 (c.E.s + (t - c.E.s.tdiv 8)))
  have HC := Lib.hid (ch_set w b 2 (.int .i64 (c.E.s + (t - c.E.s.tdiv 8))))
  clear f1 f2 c1 c2 HR hw1 hw2
  have hx := HX.out
  have hv := HV.out
  generalize t - c.E.s.tdiv 8 = x at *
  generalize w.setCell ⟨b, 2, none⟩ (.int .i64 (c.E.s + x)) = w2 at *
  have hw3 : IntKind.i64.wrap (-x) = -x := by rw [IntKind.wrap_i64]; omega
  have hw5 : IntKind.i64.wrap (max x (-x) - c.E.v.tdiv 4) = max x (-x) - c.E.v.tdiv 4 := by rw [IntKind.wrap_i64]; omega
  have hw6 : IntKind.i64.wrap (c.E.v + (max x (-x) - c.E.v.tdiv 4)) = c.E.v + (max x (-x) - c.E.v.tdiv 4) := by rw [IntKind.wrap_i64]; omega
  clear hx hv
  go_still_tail 15, (by kernel_rfl)
  change wpList _ _ _ _ _ w2.drew
  have HR2 := Lib.hid HR1.out.drew
  have HC2 := Lib.hid HC.out.drew
  have f3 : w2.drew.frozen? ⟨b, 3, none⟩ = false := f2'
  have c3 : w2.drew.cell? ⟨b, 3, none⟩ = some (.int .i64 c.E.v) := c2'
  clear HR1 HC f2' c2'
  generalize w2.drew = w3 at *
  go_wp2_with fail
  go_end0
  refine ⟨rfl, ?_, ?_⟩
  · exact HR2.out.set2 (c.E.v + (max x (-x) - c.E.v.tdiv 4))
  · exact HC2.out.set 3 _

set_option maxHeartbeats 1600000 in
theorem Sample_any {w : World} {b : Nat} {c : Fc} (R : Fa w b c) (O : c.E.Ok) (t : Int) :
    Calls Try.prog 73 #[ptr1 b, .int .i64 t] w (Did w b (c.est (c.E.smp t))) := by
  have hb := held_bd t
  have hmf : ∀ (fn : Fn) (first cap : Array Value) (w : World), (Instr.makeFunc fn first cap).run Try.prog w = .ok (.func fn first cap) w := fun _ _ _ _ => rfl
  have c0 := R.c1
  cases he : c.E.has
  · have HF := Lib.hid (first_any R hb.1 hb.2)
    have hs : c.E.smp t = ⟨true, held t * 8, held t * 2, c.E.d⟩ := by unfold Es.smp; rw [if_neg (by rw [he]; decide)]
    rw [he] at c0
    rw [hs]
    clear hs R O hb he
    unfold held ptr1 at *
    go_enter Try.func73, Try.ntmps73
    go_wp2_with (first | (go_at_call 81; refine HF.out.mono ?_; rintro e w' ⟨rfl, h1, h2⟩))
    go_end0
    exact ⟨rfl, h1, h2⟩
  · have HF := Lib.hid (later_any R O hb.1 hb.2)
    have hs : c.E.smp t = ⟨c.E.has, c.E.s + (held t - c.E.s.tdiv 8), c.E.v + (mag (held t - c.E.s.tdiv 8) - c.E.v.tdiv 4), c.E.d⟩ := by unfold Es.smp; rw [if_pos he, he]
    rw [he] at c0
    rw [hs]
    clear hs R O hb he
    unfold held ptr1 at *
    go_enter Try.func73, Try.ntmps73
    go_wp2_with (first | (go_at_call 82; refine HF.out.mono ?_; rintro e w' ⟨rfl, h1, h2⟩))
    go_end0
    exact ⟨rfl, h1, h2⟩

set_option maxHeartbeats 1600000 in
theorem Back_any {w : World} {b : Nat} {c : Fc} (R : Fa w b c) (hd : c.E.d < 1000000) :
    Calls Try.prog 46 #[ptr1 b] w (Did w b (c.est c.E.back)) := by
  have c3 := R.c4
  have f3 := R.fz 4
  have hw : IntKind.i64.wrap ((c.E.d : Int) + 1) = (c.E.d : Int) + 1 := by rw [IntKind.wrap_i64]; omega
  have HR := Lib.hid R
  clear R hd
  unfold ptr1
  go_enter Try.func46, Try.ntmps46
  go_wp2_with fail
  go_end0
  exact ⟨rfl, HR.out.set3 (c.E.d + 1), ch_set w b 4 _⟩

set_option maxHeartbeats 1600000 in
theorem Fresh_any {w : World} {b : Nat} {c : Fc} (R : Fa w b c) :
    Calls Try.prog 74 #[ptr1 b] w (Did w b (c.est c.E.fresh)) := by
  have c3 := R.c4
  have f3 := R.fz 4
  have HR := Lib.hid R
  clear R
  unfold ptr1
  go_enter Try.func74, Try.ntmps74
  go_wp2_with fail
  go_end0
  exact ⟨rfl, HR.out.set3 0, ch_set w b 4 _⟩

set_option maxHeartbeats 1600000 in
theorem Smooth_any {w : World} {b : Nat} {c : Fc} (R : Fa w b c) :
    Calls Try.prog 53 #[ptr1 b] w fun e w' => e = .returned (.int .i64 c.E.told) ∧ Below w.heap.size w w' := by
  have c0 := R.c1
  have c1 := R.c2
  clear R
  unfold ptr1 Es.told
  cases he : c.E.has <;> rw [he] at c0
  · rw [if_neg (by decide)]
    clear he
    go_enter Try.func53, Try.ntmps53
    go_wp2_with fail
    go_ret
    exact ⟨rfl, Below.refl _ _⟩
  · rw [if_pos rfl]
    clear he
    go_enter Try.func53, Try.ntmps53
    go_wp2_with fail
    go_ret
    exact ⟨rfl, Below.refl _ _⟩

set_option maxHeartbeats 1600000 in
theorem single_any {w : World} {b : Nat} {c : Fc} (R : Fa w b c) (O : c.E.Ok) :
    Calls Try.prog 77 #[ptr1 b] w fun e w' => e = .returned (.int .i64 (min c.E.one 16)) ∧ Below w.heap.size w w' := by
  have c0 := R.c1
  have c1 := R.c2
  have c2 := R.c3
  have o1 := O.s0
  have o2 := O.s1
  have o3 := O.v0
  have o4 := O.v1
  have h8 := td8 o1
  have hw0 : IntKind.i64.wrap (c.E.s.tdiv 8) = c.E.s.tdiv 8 := by rw [IntKind.wrap_i64]; omega
  have hw1 : IntKind.i64.wrap (c.E.s.tdiv 8 + max c.E.v 1) = c.E.s.tdiv 8 + max c.E.v 1 := by rw [IntKind.wrap_i64]; omega
  clear R O o1 o2 o3 o4 h8
  unfold ptr1 Es.one
  cases he : c.E.has <;> rw [he] at c0
  · rw [if_neg (by decide)]
    clear he hw0 hw1
    go_enter Try.func77, Try.ntmps77
    go_wp2_with fail
    go_ret
    exact ⟨rfl, Below.refl _ _⟩
  · rw [if_pos rfl]
    clear he
    go_enter Try.func77, Try.ntmps77
    go_wp2_with fail
    go_still_tail 11, (by kernel_rfl)
    change wpList _ _ _ _ _ w.drew
    go_wp2_with fail
    go_ret
    exact ⟨rfl, (Below.refl _ _).drew⟩

set_option maxHeartbeats 1600000 in
theorem Wait_any {w : World} {b : Nat} {c : Fc} (R : Fa w b c) (O : c.E.Ok) :
    Calls Try.prog 68 #[ptr1 b] w fun e w' => e = .returned (.int .i64 c.E.wt) ∧ Below w.heap.size w w' := by
  have HS := Lib.hid (single_any R O)
  have HW := Lib.hid (dbl_min c.E.one c.E.d)
  have h1 := one_bd O
  have HD := Lib.hid O.d1
  have HR := Lib.hid R
  have ew : c.E.wt = dbl c.E.d c.E.one := rfl
  rw [ew]
  clear R O ew
  generalize c.E.one = x at *
  unfold ptr1 at *
  go_enter Try.func68, Try.ntmps68
  go_wp2_with (first | (go_at_call 77; refine HS.out.mono ?_; rintro e w1 ⟨rfl, b1⟩))
  have HB := Lib.hid b1
  have HX : Hid (2 ≤ min x 16 ∧ min x 16 ≤ 5000) := Lib.hid (by omega)
  clear b1 h1 HS
  generalize min x 16 = y at *
  go_loopw [3, 4] (fun s3 s4 wr => ∃ (k : Nat) (z : Int), k ≤ c.E.d ∧ s4 = .int .i64 (k : Int) ∧ s3 = .int .i64 z ∧ 2 ≤ z ∧ z ≤ 5000 ∧ dbl (c.E.d - k) z = dbl c.E.d y ∧ Below w.heap.size w wr) (fun _ ix _ => c.E.d - (intOf ix).toNat)
  case atStart => exact ⟨0, y, Nat.zero_le _, rfl, rfl, HX.out.1, HX.out.2, rfl, HB.out⟩
  case round =>
    obtain ⟨k, z, hk, rfl, rfl, z0, z1, hz, hb⟩ := hrel
    have c3 := (HR.out.below hb).c4
    have hd := HD.out
    have HZ := Lib.hid hz
    have HB2 := Lib.hid hb
    clear hz hb
    by_cases hkd : k < c.E.d
    · by_cases hz16 : z < 16
      · have hw1 : IntKind.i64.wrap (z * 2) = z * 2 := by rw [IntKind.wrap_i64]; omega
        go_wp2_with fail
        go_roundw
        case rel =>
          refine ⟨k + 1, z * 2, by omega, by go_num, rfl, by omega, by omega, ?_, HB2.out⟩
          rw [← HZ.out, show c.E.d - k = (c.E.d - (k + 1)) + 1 from by omega, dbl_step hz16, Int.mul_comm]
        case measure => simp [intOf]; omega
      · go_wp2_with fail
        go_ret
        refine ⟨?_, HB2.out⟩
        rw [← HW.out, ← HZ.out, dbl_big (by omega), show min z 16 = 16 from by omega]
        rfl
    · obtain rfl : k = c.E.d := by omega
      go_wp2_with fail
      go_ret
      refine ⟨?_, HB2.out⟩
      rw [← HW.out, ← HZ.out, Nat.sub_self]
      rfl

theorem bf_on {a b : Nat} (ha : a < 4294967296) (hb : b < 4294967296) : decide ((st (on a 1) b : Int) < 2147483647) = bf a b := by
  unfold bf
  have h1 := st_int (on_lt a 1) hb
  have h2 := st_int ha hb
  rw [on_int] at h1
  by_cases h : 1 ≤ st a b ∧ st a b < 2147483648
  · rw [decide_eq_true h, decide_eq_true (by omega)]
  · rw [decide_eq_false h, decide_eq_false (by omega)]

set_option maxHeartbeats 800000 in
theorem Before_any (a b : Nat) (w : World) (ha : a < 4294967296) (hb : b < 4294967296) :
    Calls Try.prog 63 #[.int .u32 (a : Int), .int .u32 (b : Int)] w fun e w' => e = .returned (.bool (bf a b)) ∧ Below w.heap.size w w' := by
  have HO := Lib.hid (fun W => On_any a 1 W ha (by omega))
  have HI := Lib.hid (fun W => has_any (on a 1) b 2147483647 W (on_lt a 1) hb (by omega))
  rw [bf_on ha hb] at HI
  have hlt := on_lt a 1
  generalize on a 1 = x at *
  generalize bf a b = d at *
  go_enter Try.func63, Try.ntmps63
  go_wp2_with (first
    | (go_at_call 34; refine (HO.out _).mono ?_; rintro e w1 ⟨rfl, b1⟩)
    | (go_at_call 76; refine (HI.out _).mono ?_; rintro e w2 ⟨rfl, b2⟩))
  go_ret
  exact ⟨rfl, below_trans (below_trans b1 (below_a w1 _)) b2⟩

end Go.Proofs.Ytnpkmkjenlhkiaa

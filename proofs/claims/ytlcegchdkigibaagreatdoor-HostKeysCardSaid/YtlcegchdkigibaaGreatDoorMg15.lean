/- A flow's struct in memory: its cells, stores into them; the contracts of the estimate's calls where it stands within a flow. Conditions: a flow's cells stand, the estimate's numbers within their bounds.
A deadline; which states let what be done; how a flow ends, lingers, and what its Fin, and the other one's, leads to. Conditions: a flow's cells stand, ticks between 0 and 2^60, waits between 0 and 16.
Whether a deadline is reached; which states let what be done; how a flow ends, lingers, and what its Fin, and the other one's, leads to. Conditions: a flow's cells stand, ticks between 0 and 2^60, waits between 0 and 16.
What a flow wants to be sent, as rows in memory; a flow as a list of what it says; a flow in memory, and what of the memory it is. No condition. -/
import Derived.Test.YtlcegchdkigibaaGreatDoorMg12
import Derived.Test.YtlcegchdkigibaaGreatDoorMg14
import Derived.StillTailTactics
import Derived.Deep.RegionLaw
import Derived.Deep.RegionHeld3
import Derived.Test.YtlcegchdkigibaaGreatDoorMg13
import Derived.Test.YtlcegchdkigibaaGreatDoorMg4
namespace Go.Proofs.YtlcegchdkigibaaGreatDoor.LF
set_option linter.unusedVariables false
set_option linter.unusedSimpArgs false
set_option maxRecDepth 20000
open Go.RowKit Go.Lib

/-- What a flow's cells hold. -/
structure Fc where
  qb : Nat
  E : Es
  st : Nat
  rcv : Nat
  tries : Nat
  df : Int
  dw : Int
  bg : Int
  tm : Bool
  ov : Value
def Fc.cs (c : Fc) : Array Value := #[ptr c.qb, .bool c.E.has, .int .i64 c.E.s, .int .i64 c.E.v, .int .i64 (c.E.d : Int), .int .i64 (c.st : Int), .int .u32 (c.rcv : Int), .int .i64 (c.tries : Int), .int .i64 c.df, .int .i64 c.dw, .int .i64 c.bg, .bool c.tm, c.ov]
def Fc.est (c : Fc) (E : Es) : Fc := { c with E := E }
def ptr1 (b : Nat) : Value := .pointer (some ⟨b, 1, none⟩)
/-- At block b a flow's cells stand. -/
def Fa (w : World) (b : Nat) (c : Fc) : Prop := w.heap[b]? = some (.cells c.cs 206 (0, 0))
section
variable {w w' : World} {b : Nat} {c : Fc}
theorem Fa.lt (h : Fa w b c) : b < w.heap.size := (Array.getElem?_eq_some_iff.1 h).1
theorem Fa.at_ (h : Fa w b c) (j : Nat) : w.cell? ⟨b, j, none⟩ = c.cs[j]? := cell_of_row w b j _ _ (0, 0) h
theorem Fa.c0 (h : Fa w b c) : w.cell? ⟨b, 0, none⟩ = some (ptr c.qb) := by rw [h.at_ 0]; rfl
theorem Fa.c1 (h : Fa w b c) : w.cell? ⟨b, 1, none⟩ = some (.bool c.E.has) := by rw [h.at_ 1]; rfl
theorem Fa.c2 (h : Fa w b c) : w.cell? ⟨b, 2, none⟩ = some (.int .i64 c.E.s) := by rw [h.at_ 2]; rfl
theorem Fa.c3 (h : Fa w b c) : w.cell? ⟨b, 3, none⟩ = some (.int .i64 c.E.v) := by rw [h.at_ 3]; rfl
theorem Fa.c4 (h : Fa w b c) : w.cell? ⟨b, 4, none⟩ = some (.int .i64 (c.E.d : Int)) := by rw [h.at_ 4]; rfl
theorem Fa.c5 (h : Fa w b c) : w.cell? ⟨b, 5, none⟩ = some (.int .i64 (c.st : Int)) := by rw [h.at_ 5]; rfl
theorem Fa.c6 (h : Fa w b c) : w.cell? ⟨b, 6, none⟩ = some (.int .u32 (c.rcv : Int)) := by rw [h.at_ 6]; rfl
theorem Fa.c7 (h : Fa w b c) : w.cell? ⟨b, 7, none⟩ = some (.int .i64 (c.tries : Int)) := by rw [h.at_ 7]; rfl
theorem Fa.c8 (h : Fa w b c) : w.cell? ⟨b, 8, none⟩ = some (.int .i64 c.df) := by rw [h.at_ 8]; rfl
theorem Fa.c9 (h : Fa w b c) : w.cell? ⟨b, 9, none⟩ = some (.int .i64 c.dw) := by rw [h.at_ 9]; rfl
theorem Fa.c10 (h : Fa w b c) : w.cell? ⟨b, 10, none⟩ = some (.int .i64 c.bg) := by rw [h.at_ 10]; rfl
theorem Fa.c11 (h : Fa w b c) : w.cell? ⟨b, 11, none⟩ = some (.bool c.tm) := by rw [h.at_ 11]; rfl
theorem Fa.c12 (h : Fa w b c) : w.cell? ⟨b, 12, none⟩ = some (c.ov) := by rw [h.at_ 12]; rfl
theorem Fa.fz (h : Fa w b c) (j : Nat) : w.frozen? ⟨b, j, none⟩ = false := by simp [World.frozen?, show w.heap[b]? = _ from h]
theorem Fa.ch (h : Fa w b c) {m : Nat → Prop} (k : Ch w w' m) (hb : ¬ m b) : Fa w' b c := (k.block b h.lt hb).trans h
theorem Fa.below (h : Fa w b c) (k : Below w.heap.size w w') : Fa w' b c := (k.block b h.lt).trans h
theorem Fa.drew (h : Fa w b c) : Fa w.drew b c := h
theorem Fa.drewN (h : Fa w b c) (n : Nat) : Fa (w.drewN n) b c := h
theorem Fa.set (h : Fa w b c) (k : Nat) (v : Value) (c' : Fc) (hc : c.cs.setIfInBounds k v = c'.cs) : Fa (w.setCell ⟨b, k, none⟩ v) b c' := by
  have := h
  unfold Fa at *
  simp [World.setCell, Array.getElem?_modify, this, hc]
end
/-- What a call leaves that changes one flow's cells, and answers nothing. -/
def Did (w : World) (b : Nat) (c : Fc) (e : Ending) (w' : World) : Prop := e = .returned (.tuple #[]) ∧ Fa w' b c ∧ Ch w w' (fun k => k = b)

section
variable {w : World} {b : Nat} {c : Fc}
theorem Fa.set0 (h : Fa w b c) (x : Bool) : Fa (w.setCell ⟨b, 1, none⟩ (.bool x)) b (c.est { c.E with has := x }) := h.set 1 _ _ rfl
theorem Fa.set1 (h : Fa w b c) (x : Int) : Fa (w.setCell ⟨b, 2, none⟩ (.int .i64 x)) b (c.est { c.E with s := x }) := h.set 2 _ _ rfl
theorem Fa.set2 (h : Fa w b c) (x : Int) : Fa (w.setCell ⟨b, 3, none⟩ (.int .i64 x)) b (c.est { c.E with v := x }) := h.set 3 _ _ rfl
theorem Fa.set3 (h : Fa w b c) (x : Nat) : Fa (w.setCell ⟨b, 4, none⟩ (.int .i64 (x : Int))) b (c.est { c.E with d := x }) := h.set 4 _ _ rfl
end

set_option maxHeartbeats 1600000 in
theorem first_any {w : World} {b : Nat} {c : Fc} (R : Fa w b c) {t : Int} (h0 : 0 ≤ t) (h1 : t ≤ 1000) :
    Calls Tryz.prog 401 #[ptr1 b, .int .i64 t] w (Did w b (c.est ⟨true, t * 8, t * 2, c.E.d⟩)) := by
  have f0 := R.fz 1
  have f1 := R.fz 2
  have f2 := R.fz 3
  have c0 := R.c1
  have c1 := R.c2
  have c2 := R.c3
  have hw1 : IntKind.i64.wrap (t * 8) = t * 8 := by rw [IntKind.wrap_i64]; omega
  have hw2 : IntKind.i64.wrap (t * 4) = t * 4 := by rw [IntKind.wrap_i64]; omega
  have hq : (t * 4).tdiv 2 = t * 2 := by rw [Int.tdiv_eq_ediv_of_nonneg (by omega)]; omega
  have hw3 : IntKind.i64.wrap (t * 2) = t * 2 := by rw [IntKind.wrap_i64]; omega
  have HR := Lib.hid R
  clear R
  unfold ptr1
  go_enter Tryz.func401, Tryz.ntmps401
  go_wp2_with fail
  go_end0
  refine ⟨rfl, ?_, ?_⟩
  · exact ((HR.out.set0 true).set1 (t * 8)).set2 (t * 2)
  · exact ((ch_set w b 1 _).set 2 _).set 3 _

set_option maxHeartbeats 1600000 in
theorem later_any {w : World} {b : Nat} {c : Fc} (R : Fa w b c) (O : c.E.Ok) {t : Int} (h0 : 0 ≤ t) (h1 : t ≤ 1000) :
    Calls Tryz.prog 402 #[ptr1 b, .int .i64 t] w (Did w b (c.est ⟨c.E.has, c.E.s + (t - c.E.s.tdiv 8), c.E.v + (mag (t - c.E.s.tdiv 8) - c.E.v.tdiv 4), c.E.d⟩)) := by
  have f1 := R.fz 2
  have f2 := R.fz 3
  have c1 := R.c2
  have c2 := R.c3
  have o1 := O.s0
  have o2 := O.s1
  have o3 := O.v0
  have o4 := O.v1
  have h8 := td8 o1
  have h4 := td4 o3
  have HR := Lib.hid R
  have hw0 : IntKind.i64.wrap (c.E.s.tdiv 8) = c.E.s.tdiv 8 := by rw [IntKind.wrap_i64]; omega
  have hw1 : IntKind.i64.wrap (t - c.E.s.tdiv 8) = t - c.E.s.tdiv 8 := by rw [IntKind.wrap_i64]; omega
  have hw2 : IntKind.i64.wrap (c.E.s + (t - c.E.s.tdiv 8)) = c.E.s + (t - c.E.s.tdiv 8) := by rw [IntKind.wrap_i64]; omega
  have HX : Hid (-1000 ≤ t - c.E.s.tdiv 8 ∧ t - c.E.s.tdiv 8 ≤ 1000) := Lib.hid (by omega)
  have hw4 : IntKind.i64.wrap (c.E.v.tdiv 4) = c.E.v.tdiv 4 := by rw [IntKind.wrap_i64]; omega
  have HV : Hid (0 ≤ c.E.v ∧ c.E.v ≤ 4000 ∧ c.E.v.tdiv 4 = c.E.v / 4) := Lib.hid ⟨o3, o4, h4⟩
  clear R O o1 o2 o3 o4 h8 h4 h0 h1
  unfold ptr1 mag
  go_enter Tryz.func402, Tryz.ntmps402
  go_wp2_with fail
  have f2' : (w.setCell ⟨b, 2, none⟩ (.int .i64 (c.E.s + (t - c.E.s.tdiv 8)))).frozen? ⟨b, 3, none⟩ = false := (HR.out.set1 _).fz 3
  have c2' : (w.setCell ⟨b, 2, none⟩ (.int .i64 (c.E.s + (t - c.E.s.tdiv 8)))).cell? ⟨b, 3, none⟩ = some (.int .i64 c.E.v) := (HR.out.set1 _).c3
  have HR1 := Lib.hid (HR.out.set1 (c.E.s + (t - c.E.s.tdiv 8)))
  have HC := Lib.hid (ch_set w b 2 (.int .i64 (c.E.s + (t - c.E.s.tdiv 8))))
  clear f1 f2 c1 c2 HR hw1 hw2
  have hx := HX.out
  have hv := HV.out
  generalize t - c.E.s.tdiv 8 = x at *
  generalize w.setCell ⟨b, 2, none⟩ (.int .i64 (c.E.s + x)) = w2 at *
  have hw3 : IntKind.i64.wrap (-x) = -x := by rw [IntKind.wrap_i64]; omega
  have hw5 : IntKind.i64.wrap (max x (-x) - c.E.v.tdiv 4) = max x (-x) - c.E.v.tdiv 4 := by rw [IntKind.wrap_i64]; omega
  have hw6 : IntKind.i64.wrap (c.E.v + (max x (-x) - c.E.v.tdiv 4)) = c.E.v + (max x (-x) - c.E.v.tdiv 4) := by rw [IntKind.wrap_i64]; omega
  clear hx hv
  go_still_tail 15, (by kernel_rfl)
  change wpList _ _ _ _ _ w2.drew
  have HR2 := Lib.hid HR1.out.drew
  have HC2 := Lib.hid HC.out.drew
  have f3 : w2.drew.frozen? ⟨b, 3, none⟩ = false := f2'
  have c3 : w2.drew.cell? ⟨b, 3, none⟩ = some (.int .i64 c.E.v) := c2'
  clear HR1 HC f2' c2'
  generalize w2.drew = w3 at *
  go_wp2_with fail
  go_end0
  refine ⟨rfl, ?_, ?_⟩
  · exact HR2.out.set2 (c.E.v + (max x (-x) - c.E.v.tdiv 4))
  · exact HC2.out.set 3 _

set_option maxHeartbeats 1600000 in
theorem Sample_any {w : World} {b : Nat} {c : Fc} (R : Fa w b c) (O : c.E.Ok) (t : Int) :
    Calls Tryz.prog 376 #[ptr1 b, .int .i64 t] w (Did w b (c.est (c.E.smp t))) := by
  have hb := held_bd t
  have hmf : ∀ (fn : Fn) (first cap : Array Value) (w : World), (Instr.makeFunc fn first cap).run Tryz.prog w = .ok (.func fn first cap) w := fun _ _ _ _ => rfl
  have c0 := R.c1
  cases he : c.E.has
  · have HF := Lib.hid (first_any R hb.1 hb.2)
    have hs : c.E.smp t = ⟨true, held t * 8, held t * 2, c.E.d⟩ := by unfold Es.smp; rw [if_neg (by rw [he]; decide)]
    rw [he] at c0
    rw [hs]
    clear hs R O hb he
    unfold held ptr1 at *
    go_enter Tryz.func376, Tryz.ntmps376
    go_wp2_with (first | (go_at_call 401; refine HF.out.mono ?_; rintro e w' ⟨rfl, h1, h2⟩))
    go_end0
    exact ⟨rfl, h1, h2⟩
  · have HF := Lib.hid (later_any R O hb.1 hb.2)
    have hs : c.E.smp t = ⟨c.E.has, c.E.s + (held t - c.E.s.tdiv 8), c.E.v + (mag (held t - c.E.s.tdiv 8) - c.E.v.tdiv 4), c.E.d⟩ := by unfold Es.smp; rw [if_pos he, he]
    rw [he] at c0
    rw [hs]
    clear hs R O hb he
    unfold held ptr1 at *
    go_enter Tryz.func376, Tryz.ntmps376
    go_wp2_with (first | (go_at_call 402; refine HF.out.mono ?_; rintro e w' ⟨rfl, h1, h2⟩))
    go_end0
    exact ⟨rfl, h1, h2⟩

set_option maxHeartbeats 1600000 in
theorem Back_any {w : World} {b : Nat} {c : Fc} (R : Fa w b c) (hd : c.E.d < 1000000) :
    Calls Tryz.prog 339 #[ptr1 b] w (Did w b (c.est c.E.back)) := by
  have c3 := R.c4
  have f3 := R.fz 4
  have hw : IntKind.i64.wrap ((c.E.d : Int) + 1) = (c.E.d : Int) + 1 := by rw [IntKind.wrap_i64]; omega
  have HR := Lib.hid R
  clear R hd
  unfold ptr1
  go_enter Tryz.func339, Tryz.ntmps339
  go_wp2_with fail
  go_end0
  exact ⟨rfl, HR.out.set3 (c.E.d + 1), ch_set w b 4 _⟩

set_option maxHeartbeats 1600000 in
theorem Fresh_any {w : World} {b : Nat} {c : Fc} (R : Fa w b c) :
    Calls Tryz.prog 378 #[ptr1 b] w (Did w b (c.est c.E.fresh)) := by
  have c3 := R.c4
  have f3 := R.fz 4
  have HR := Lib.hid R
  clear R
  unfold ptr1
  go_enter Tryz.func378, Tryz.ntmps378
  go_wp2_with fail
  go_end0
  exact ⟨rfl, HR.out.set3 0, ch_set w b 4 _⟩

set_option maxHeartbeats 1600000 in
theorem Smooth_any {w : World} {b : Nat} {c : Fc} (R : Fa w b c) :
    Calls Tryz.prog 391 #[ptr1 b] w fun e w' => e = .returned (.int .i64 c.E.told) ∧ Below w.heap.size w w' := by
  have c0 := R.c1
  have c1 := R.c2
  clear R
  unfold ptr1 Es.told
  cases he : c.E.has <;> rw [he] at c0
  · rw [if_neg (by decide)]
    clear he
    go_enter Tryz.func391, Tryz.ntmps391
    go_wp2_with fail
    go_ret
    exact ⟨rfl, Below.refl _ _⟩
  · rw [if_pos rfl]
    clear he
    go_enter Tryz.func391, Tryz.ntmps391
    go_wp2_with fail
    go_ret
    exact ⟨rfl, Below.refl _ _⟩

set_option maxHeartbeats 1600000 in
theorem single_any {w : World} {b : Nat} {c : Fc} (R : Fa w b c) (O : c.E.Ok) :
    Calls Tryz.prog 317 #[ptr1 b] w fun e w' => e = .returned (.int .i64 (min c.E.one 16)) ∧ Below w.heap.size w w' := by
  have c0 := R.c1
  have c1 := R.c2
  have c2 := R.c3
  have o1 := O.s0
  have o2 := O.s1
  have o3 := O.v0
  have o4 := O.v1
  have h8 := td8 o1
  have hw0 : IntKind.i64.wrap (c.E.s.tdiv 8) = c.E.s.tdiv 8 := by rw [IntKind.wrap_i64]; omega
  have hw1 : IntKind.i64.wrap (c.E.s.tdiv 8 + max c.E.v 1) = c.E.s.tdiv 8 + max c.E.v 1 := by rw [IntKind.wrap_i64]; omega
  clear R O o1 o2 o3 o4 h8
  unfold ptr1 Es.one
  cases he : c.E.has <;> rw [he] at c0
  · rw [if_neg (by decide)]
    clear he hw0 hw1
    go_enter Tryz.func317, Tryz.ntmps317
    go_wp2_with fail
    go_ret
    exact ⟨rfl, Below.refl _ _⟩
  · rw [if_pos rfl]
    clear he
    go_enter Tryz.func317, Tryz.ntmps317
    go_wp2_with fail
    go_still_tail 11, (by kernel_rfl)
    change wpList _ _ _ _ _ w.drew
    go_wp2_with fail
    go_ret
    exact ⟨rfl, (Below.refl _ _).drew⟩

set_option maxHeartbeats 1600000 in
theorem Wait_any {w : World} {b : Nat} {c : Fc} (R : Fa w b c) (O : c.E.Ok) :
    Calls Tryz.prog 248 #[ptr1 b] w fun e w' => e = .returned (.int .i64 c.E.wt) ∧ Below w.heap.size w w' := by
  have HS := Lib.hid (single_any R O)
  have HW := Lib.hid (dbl_min c.E.one c.E.d)
  have h1 := one_bd O
  have HD := Lib.hid O.d1
  have HR := Lib.hid R
  have ew : c.E.wt = dbl c.E.d c.E.one := rfl
  rw [ew]
  clear R O ew
  generalize c.E.one = x at *
  unfold ptr1 at *
  go_enter Tryz.func248, Tryz.ntmps248
  go_wp2_with (first | (go_at_call 317; refine HS.out.mono ?_; rintro e w1 ⟨rfl, b1⟩))
  have HB := Lib.hid b1
  have HX : Hid (2 ≤ min x 16 ∧ min x 16 ≤ 5000) := Lib.hid (by omega)
  clear b1 h1 HS
  generalize min x 16 = y at *
  go_loopw [3, 4] (fun s3 s4 wr => ∃ (k : Nat) (z : Int), k ≤ c.E.d ∧ s4 = .int .i64 (k : Int) ∧ s3 = .int .i64 z ∧ 2 ≤ z ∧ z ≤ 5000 ∧ dbl (c.E.d - k) z = dbl c.E.d y ∧ Below w.heap.size w wr) (fun _ ix _ => c.E.d - (intOf ix).toNat)
  case atStart => exact ⟨0, y, Nat.zero_le _, rfl, rfl, HX.out.1, HX.out.2, rfl, HB.out⟩
  case round =>
    obtain ⟨k, z, hk, rfl, rfl, z0, z1, hz, hb⟩ := hrel
    have c3 := (HR.out.below hb).c4
    have hd := HD.out
    have HZ := Lib.hid hz
    have HB2 := Lib.hid hb
    clear hz hb
    by_cases hkd : k < c.E.d
    · by_cases hz16 : z < 16
      · have hw1 : IntKind.i64.wrap (z * 2) = z * 2 := by rw [IntKind.wrap_i64]; omega
        go_wp2_with fail
        go_roundw
        case rel =>
          refine ⟨k + 1, z * 2, by omega, by go_num, rfl, by omega, by omega, ?_, HB2.out⟩
          rw [← HZ.out, show c.E.d - k = (c.E.d - (k + 1)) + 1 from by omega, dbl_step hz16, Int.mul_comm]
        case measure => simp [intOf]; omega
      · go_wp2_with fail
        go_ret
        refine ⟨?_, HB2.out⟩
        rw [← HW.out, ← HZ.out, dbl_big (by omega), show min z 16 = 16 from by omega]
        rfl
    · obtain rfl : k = c.E.d := by omega
      go_wp2_with fail
      go_ret
      refine ⟨?_, HB2.out⟩
      rw [← HW.out, ← HZ.out, Nat.sub_self]
      rfl

theorem bf_on {a b : Nat} (ha : a < 4294967296) (hb : b < 4294967296) : decide ((st (on a 1) b : Int) < 2147483647) = bf a b := by
  unfold bf
  have h1 := st_int (on_lt a 1) hb
  have h2 := st_int ha hb
  rw [on_int] at h1
  by_cases h : 1 ≤ st a b ∧ st a b < 2147483648
  · rw [decide_eq_true h, decide_eq_true (by omega)]
  · rw [decide_eq_false h, decide_eq_false (by omega)]

set_option maxHeartbeats 800000 in
theorem Before_any (a b : Nat) (w : World) (ha : a < 4294967296) (hb : b < 4294967296) :
    Calls Tryz.prog 321 #[.int .u32 (a : Int), .int .u32 (b : Int)] w fun e w' => e = .returned (.bool (bf a b)) ∧ Below w.heap.size w w' := by
  have HO := Lib.hid (fun W => On_any a 1 W ha (by omega))
  have HI := Lib.hid (fun W => has_any (on a 1) b 2147483647 W (on_lt a 1) hb (by omega))
  rw [bf_on ha hb] at HI
  have hlt := on_lt a 1
  generalize on a 1 = x at *
  generalize bf a b = d at *
  go_enter Tryz.func321, Tryz.ntmps321
  go_wp2_with (first
    | (go_at_call 266; refine (HO.out _).mono ?_; rintro e w1 ⟨rfl, b1⟩)
    | (go_at_call 381; refine (HI.out _).mono ?_; rintro e w2 ⟨rfl, b2⟩))
  go_ret
  exact ⟨rfl, below_trans (below_trans b1 (below_a w1 _)) b2⟩

end Go.Proofs.YtlcegchdkigibaaGreatDoor.LF

namespace Go.Proofs.YtlcegchdkigibaaGreatDoor.LF
set_option linter.unusedVariables false
set_option linter.unusedSimpArgs false
set_option maxRecDepth 20000
open Go.RowKit Go.Lib

def dl (f d : Int) : Value := .agg #[.int .i64 f, .int .i64 d]

set_option maxHeartbeats 1600000 in
theorem is_any (f d : Int) (w : World) : Calls Tryz.prog 247 #[dl f d] w fun e w' => e = .returned (.bool (decide (0 < d))) ∧ Below w.heap.size w w' := by
  unfold dl
  by_cases h : 0 < d
  · rw [decide_eq_true h]
    go_enter Tryz.func247, Tryz.ntmps247
    go_wp2_with fail
    go_ret
    exact ⟨rfl, below_a w _⟩
  · rw [decide_eq_false h]
    go_enter Tryz.func247, Tryz.ntmps247
    go_wp2_with fail
    go_ret
    exact ⟨rfl, below_a w _⟩

/-- Where a deadline is. -/
def due (f d : Int) : Value := if 0 < d then .tuple #[.int .i64 (f + d), .bool true] else .tuple #[.int .i64 0, .bool false]
set_option maxHeartbeats 1600000 in
theorem at_any (f d : Int) (w : World) (hf : 0 ≤ f ∧ f ≤ 1152921504606846976) (hd : 0 ≤ d ∧ d ≤ 16) : Calls Tryz.prog 292 #[dl f d] w fun e w' => e = .returned (due f d) ∧ Below w.heap.size w w' := by
  unfold due
  have HI := Lib.hid (fun W => is_any f d W)
  unfold dl at *
  by_cases h : 0 < d
  · rw [decide_eq_true h] at HI
    rw [if_pos h]
    have hw1 : IntKind.i64.wrap (9223372036854775807 - d) = 9223372036854775807 - d := by rw [IntKind.wrap_i64]; omega
    have hm : min f (9223372036854775807 - d) = f := by omega
    have hw2 : IntKind.i64.wrap (f + d) = f + d := by rw [IntKind.wrap_i64]; omega
    clear h hf hd
    go_enter Tryz.func292, Tryz.ntmps292
    go_wp2_with fail
    refine (HI.out _).mono ?_
    rintro e w1 ⟨rfl, b1⟩
    have c0 : w1.cell? ⟨w.heap.size, 0, none⟩ = some (.int .i64 f) := (b1.cell (by simp)).trans (by rw [cell_of_row _ w.heap.size 0 _ _ (0, 0) (heap_alloc_new w _)]; rfl)
    have c1 : w1.cell? ⟨w.heap.size, 1, none⟩ = some (.int .i64 d) := (b1.cell (by simp)).trans (by rw [cell_of_row _ w.heap.size 1 _ _ (0, 0) (heap_alloc_new w _)]; rfl)
    have HB := Lib.hid (below_trans (below_a w _) b1)
    clear b1 HI
    go_wp2_with fail
    go_ret2
    exact ⟨rfl, HB.out⟩
  · rw [decide_eq_false h] at HI
    rw [if_neg h]
    clear h hf hd
    go_enter Tryz.func292, Tryz.ntmps292
    go_wp2_with fail
    refine (HI.out _).mono ?_
    rintro e w1 ⟨rfl, b1⟩
    have HB := Lib.hid (below_trans (below_a w _) b1)
    clear b1 HI
    go_wp2_with fail
    go_ret2
    exact ⟨rfl, HB.out⟩

/-- How many ticks from one to a later one. -/
def tks (a b : Int) : Int := if b ≤ a then 0 else b - a
set_option maxHeartbeats 1600000 in
theorem ticks_any (a b : Int) (w : World) (ha : 0 ≤ a ∧ a ≤ 1152921504606846976) (hb : 0 ≤ b ∧ b ≤ 1152921504606846976) : Calls Tryz.prog 377 #[.int .i64 a, .int .i64 b] w fun e w' => e = .returned (.int .i64 (tks a b)) ∧ w' = w := by
  unfold tks
  by_cases h : b ≤ a
  · rw [if_pos h]
    go_enter Tryz.func377, Tryz.ntmps377
    go_wp2_with fail
    go_ret
    exact ⟨rfl, rfl⟩
  · rw [if_neg h]
    have h' : decide (b ≤ a) = false := decide_eq_false h
    have h1 : IntKind.u64.wrap b = b := by rw [IntKind.wrap_u64]; omega
    have h2 : IntKind.u64.wrap a = a := by rw [IntKind.wrap_u64]; omega
    have h3 : IntKind.u64.wrap (b - a) = b - a := by rw [IntKind.wrap_u64]; omega
    have hm : min (b - a) 9223372036854775807 = b - a := by omega
    have h4 : IntKind.i64.wrap (b - a) = b - a := by rw [IntKind.wrap_i64]; omega
    clear h ha hb
    go_enter Tryz.func377, Tryz.ntmps377
    go_wp2_with fail
    go_ret
    exact ⟨rfl, rfl⟩
end Go.Proofs.YtlcegchdkigibaaGreatDoor.LF

namespace Go.Proofs.YtlcegchdkigibaaGreatDoor.LF
set_option linter.unusedVariables false
set_option linter.unusedSimpArgs false
set_option maxRecDepth 20000
open Go.RowKit Go.Lib

set_option maxHeartbeats 1600000 in
theorem reached_any (f d t : Int) (w : World) (hf : 0 ≤ f ∧ f ≤ 1152921504606846976) (ht : 0 ≤ t ∧ t ≤ 1152921504606846976) : Calls Tryz.prog 338 #[dl f d, .int .i64 t] w fun e w' => e = .returned (.bool (decide (0 < d ∧ f + d ≤ t))) ∧ Below w.heap.size w w' := by
  have HI := Lib.hid (fun W => is_any f d W)
  have HT := Lib.hid (fun W => ticks_any f t W hf ht)
  unfold dl at *
  by_cases h : 0 < d
  · rw [decide_eq_true h] at HI
    have e1 : decide (0 < d ∧ f + d ≤ t) = decide (d ≤ tks f t) := by
      unfold tks
      split
      · rw [decide_eq_false (by omega), decide_eq_false (by omega)]
      · by_cases h2 : f + d ≤ t
        · rw [decide_eq_true (by omega), decide_eq_true (by omega)]
        · rw [decide_eq_false (by omega), decide_eq_false (by omega)]
    rw [e1]
    clear e1 h hf ht
    generalize tks f t = x at *
    go_enter Tryz.func338, Tryz.ntmps338
    go_wp2_with fail
    generalize hgz : w.heap.size = g at *
    have s0 : (w.alloc (.cells #[.int .i64 f, .int .i64 d] 203)).drew.cell? ⟨g, 0, none⟩ = some (.int .i64 f) ∧ (w.alloc (.cells #[.int .i64 f, .int .i64 d] 203)).drew.cell? ⟨g, 1, none⟩ = some (.int .i64 d) := by
      subst hgz
      exact ⟨by show World.cell? (w.alloc _) _ = _; rw [cell_of_row _ w.heap.size 0 _ _ (0, 0) (heap_alloc_new w _)]; rfl, by show World.cell? (w.alloc _) _ = _; rw [cell_of_row _ w.heap.size 1 _ _ (0, 0) (heap_alloc_new w _)]; rfl⟩
    have hg1 : g < (w.alloc (.cells #[.int .i64 f, .int .i64 d] 203)).drew.heap.size := by
      subst hgz
      show w.heap.size < (w.alloc _).heap.size
      simp
    have HB : Hid (Below g w (w.alloc (.cells #[.int .i64 f, .int .i64 d] 203)).drew) := Lib.hid (hgz ▸ (below_a w _).drew)
    have hgs : g ≤ (w.alloc (.cells #[.int .i64 f, .int .i64 d] 203)).drew.heap.size := by omega
    generalize hwd : (w.alloc (.cells #[.int .i64 f, .int .i64 d] 203)).drew = wd at *
    refine wp_region_noPanic ?_
    refine wp_region_held_drew (S := fun W => W.cell? ⟨g, 0, none⟩ = some (.int .i64 f) ∧ W.cell? ⟨g, 1, none⟩ = some (.int .i64 d)) (by kernel_rfl) (by rw [hwd]; exact s0) (fun _ => ?_)
    rw [hwd]
    clear hwd
    refine held_take (i := 0) (v := .agg #[.int .i64 f, .int .i64 d]) (some 5) rfl rfl (by kernel_rfl) (by kernel_rfl) (by kernel_rfl) (fun _ _ _ h => h) (Or.inl ⟨by rfl, fun W hW => by have hc := hW.1; have hd := hW.2; go_simp⟩) s0 ?_
    simp only [Act.put, List.setIfInBounds_toArray, List.set_cons_zero, List.set_cons_succ]
    refine wpAnyH_ready (rs := [1]) (by kernel_rfl) (by simp) ?_
    refine AllReadyH.cons rfl (fun K hK => ?_) AllReadyH.nil
    go_simp
    refine (HI.out _).mono ?_
    rintro e w1 ⟨rfl, b1⟩
    have s1 : w1.cell? ⟨g, 0, none⟩ = some (.int .i64 f) ∧ w1.cell? ⟨g, 1, none⟩ = some (.int .i64 d) := ⟨(b1.cell hg1).trans s0.1, (b1.cell hg1).trans s0.2⟩
    have HB1 := Lib.hid (HB.out.trans (b1.mono hgs))
    clear b1
    dsimp only
    refine hK.out _ _ s1 (fun _ => ?_)
    clear hK
    try simp only [Act.put, List.setIfInBounds_toArray, List.set_cons_zero, List.set_cons_succ]
    refine held_take (i := 2) (v := .bool true) (some 7) rfl rfl (by kernel_rfl) (by kernel_rfl) (by kernel_rfl) (fun _ _ _ h => h) (Or.inl ⟨by rfl, fun W hW => by go_simp⟩) s1 ?_
    simp only [Act.put, List.setIfInBounds_toArray, List.set_cons_zero, List.set_cons_succ]
    refine held_take (i := 3) (v := .pointer (some ⟨g, 0, none⟩)) (some 8) rfl rfl (by kernel_rfl) (by kernel_rfl) (by kernel_rfl) (fun _ _ _ h => h) (Or.inl ⟨by rfl, fun W hW => by go_simp⟩) s1 ?_
    simp only [Act.put, List.setIfInBounds_toArray, List.set_cons_zero, List.set_cons_succ]
    refine held_take (i := 5) (v := .int .i64 t) (some 10) rfl rfl (by kernel_rfl) (by kernel_rfl) (by kernel_rfl) (fun _ _ _ h => h) (Or.inl ⟨by rfl, fun W hW => by go_simp⟩) s1 ?_
    simp only [Act.put, List.setIfInBounds_toArray, List.set_cons_zero, List.set_cons_succ]
    refine held_take (i := 7) (v := .pointer (some ⟨g, 1, none⟩)) (some 12) rfl rfl (by kernel_rfl) (by kernel_rfl) (by kernel_rfl) (fun _ _ _ h => h) (Or.inl ⟨by rfl, fun W hW => by go_simp⟩) s1 ?_
    simp only [Act.put, List.setIfInBounds_toArray, List.set_cons_zero, List.set_cons_succ]
    refine held_take (i := 4) (v := .int .i64 f) (some 9) rfl rfl (by kernel_rfl) (by kernel_rfl) (by kernel_rfl) (fun _ _ _ h => h) (Or.inl ⟨by rfl, fun W hW => by have hc := hW.1; go_simp⟩) s1 ?_
    simp only [Act.put, List.setIfInBounds_toArray, List.set_cons_zero, List.set_cons_succ]
    refine held_take (i := 8) (v := .int .i64 d) (some 13) rfl rfl (by kernel_rfl) (by kernel_rfl) (by kernel_rfl) (fun _ _ _ h => h) (Or.inl ⟨by rfl, fun W hW => by have hc := hW.2; go_simp⟩) s1 ?_
    simp only [Act.put, List.setIfInBounds_toArray, List.set_cons_zero, List.set_cons_succ]
    refine wpAnyH_ready (rs := [6]) (by kernel_rfl) (by simp) ?_
    refine AllReadyH.cons rfl (fun K hK => ?_) AllReadyH.nil
    go_simp
    refine (HT.out _).mono ?_
    rintro e w2 ⟨rfl, rfl⟩
    dsimp only
    refine hK.out _ _ s1 (fun _ => ?_)
    clear hK
    try simp only [Act.put, List.setIfInBounds_toArray, List.set_cons_zero, List.set_cons_succ]
    refine held_take (i := 9) (v := .bool (decide (d ≤ x))) (some 14) rfl rfl (by kernel_rfl) (by kernel_rfl) (by kernel_rfl) (fun _ _ _ h => h) (Or.inl ⟨by rfl, fun W hW => by go_simp⟩) s1 ?_
    simp only [Act.put, List.setIfInBounds_toArray, List.set_cons_zero, List.set_cons_succ]
    refine held_take (i := 10) (v := .bool (decide (d ≤ x))) (some 15) rfl rfl (by kernel_rfl) (by kernel_rfl) (by kernel_rfl) (fun _ _ _ h => h) (Or.inl ⟨by rfl, fun W hW => by go_simp⟩) s1 ?_
    simp only [Act.put, List.setIfInBounds_toArray, List.set_cons_zero, List.set_cons_succ]
    refine held_take (i := 11) (v := .bool (decide (d ≤ x))) (some 4) rfl rfl (by kernel_rfl) (by kernel_rfl) (by kernel_rfl) (fun _ _ _ h => h) (Or.inl ⟨by rfl, fun W hW => by go_simp⟩) s1 ?_
    simp only [Act.put, List.setIfInBounds_toArray, List.set_cons_zero, List.set_cons_succ]
    refine wpAnyH_done (by kernel_rfl) ?_ _
    refine NoPanic.normal ?_
    go_wp2_with fail
    go_ret
    exact ⟨rfl, by rw [hgz]; exact HB1.out⟩
  · rw [decide_eq_false h] at HI
    rw [decide_eq_false (by omega)]
    clear h hf ht
    go_enter Tryz.func338, Tryz.ntmps338
    go_wp2_with fail
    generalize hgz : w.heap.size = g at *
    have s0 : (w.alloc (.cells #[.int .i64 f, .int .i64 d] 203)).drew.cell? ⟨g, 0, none⟩ = some (.int .i64 f) ∧ (w.alloc (.cells #[.int .i64 f, .int .i64 d] 203)).drew.cell? ⟨g, 1, none⟩ = some (.int .i64 d) := by
      subst hgz
      exact ⟨by show World.cell? (w.alloc _) _ = _; rw [cell_of_row _ w.heap.size 0 _ _ (0, 0) (heap_alloc_new w _)]; rfl, by show World.cell? (w.alloc _) _ = _; rw [cell_of_row _ w.heap.size 1 _ _ (0, 0) (heap_alloc_new w _)]; rfl⟩
    have hg1 : g < (w.alloc (.cells #[.int .i64 f, .int .i64 d] 203)).drew.heap.size := by
      subst hgz
      show w.heap.size < (w.alloc _).heap.size
      simp
    have HB : Hid (Below g w (w.alloc (.cells #[.int .i64 f, .int .i64 d] 203)).drew) := Lib.hid (hgz ▸ (below_a w _).drew)
    have hgs : g ≤ (w.alloc (.cells #[.int .i64 f, .int .i64 d] 203)).drew.heap.size := by omega
    generalize hwd : (w.alloc (.cells #[.int .i64 f, .int .i64 d] 203)).drew = wd at *
    refine wp_region_noPanic ?_
    refine wp_region_held_drew (S := fun W => W.cell? ⟨g, 0, none⟩ = some (.int .i64 f) ∧ W.cell? ⟨g, 1, none⟩ = some (.int .i64 d)) (by kernel_rfl) (by rw [hwd]; exact s0) (fun _ => ?_)
    rw [hwd]
    clear hwd
    refine held_take (i := 0) (v := .agg #[.int .i64 f, .int .i64 d]) (some 5) rfl rfl (by kernel_rfl) (by kernel_rfl) (by kernel_rfl) (fun _ _ _ h => h) (Or.inl ⟨by rfl, fun W hW => by have hc := hW.1; have hd := hW.2; go_simp⟩) s0 ?_
    simp only [Act.put, List.setIfInBounds_toArray, List.set_cons_zero, List.set_cons_succ]
    refine wpAnyH_ready (rs := [1]) (by kernel_rfl) (by simp) ?_
    refine AllReadyH.cons rfl (fun K hK => ?_) AllReadyH.nil
    go_simp
    refine (HI.out _).mono ?_
    rintro e w1 ⟨rfl, b1⟩
    have s1 : w1.cell? ⟨g, 0, none⟩ = some (.int .i64 f) ∧ w1.cell? ⟨g, 1, none⟩ = some (.int .i64 d) := ⟨(b1.cell hg1).trans s0.1, (b1.cell hg1).trans s0.2⟩
    have HB1 := Lib.hid (HB.out.trans (b1.mono hgs))
    clear b1
    dsimp only
    refine hK.out _ _ s1 (fun _ => ?_)
    clear hK
    try simp only [Act.put, List.setIfInBounds_toArray, List.set_cons_zero, List.set_cons_succ]
    refine held_take (i := 2) (v := .bool false) (some 7) rfl rfl (by kernel_rfl) (by kernel_rfl) (by kernel_rfl) (fun _ _ _ h => h) (Or.inl ⟨by rfl, fun W hW => by go_simp⟩) s1 ?_
    simp only [Act.put, List.setIfInBounds_toArray, List.set_cons_zero, List.set_cons_succ]
    refine held_take (i := 3) (v := undef) (some 8) rfl rfl (by kernel_rfl) (by kernel_rfl) (by kernel_rfl) (fun _ _ _ h => h) (Or.inr ⟨by rfl, by rfl⟩) s1 ?_
    simp only [Act.put, List.setIfInBounds_toArray, List.set_cons_zero, List.set_cons_succ]
    refine held_take (i := 5) (v := undef) (some 10) rfl rfl (by kernel_rfl) (by kernel_rfl) (by kernel_rfl) (fun _ _ _ h => h) (Or.inr ⟨by rfl, by rfl⟩) s1 ?_
    simp only [Act.put, List.setIfInBounds_toArray, List.set_cons_zero, List.set_cons_succ]
    refine held_take (i := 7) (v := undef) (some 12) rfl rfl (by kernel_rfl) (by kernel_rfl) (by kernel_rfl) (fun _ _ _ h => h) (Or.inr ⟨by rfl, by rfl⟩) s1 ?_
    simp only [Act.put, List.setIfInBounds_toArray, List.set_cons_zero, List.set_cons_succ]
    refine held_take (i := 4) (v := undef) (some 9) rfl rfl (by kernel_rfl) (by kernel_rfl) (by kernel_rfl) (fun _ _ _ h => h) (Or.inr ⟨by rfl, by rfl⟩) s1 ?_
    simp only [Act.put, List.setIfInBounds_toArray, List.set_cons_zero, List.set_cons_succ]
    refine held_take (i := 8) (v := undef) (some 13) rfl rfl (by kernel_rfl) (by kernel_rfl) (by kernel_rfl) (fun _ _ _ h => h) (Or.inr ⟨by rfl, by rfl⟩) s1 ?_
    simp only [Act.put, List.setIfInBounds_toArray, List.set_cons_zero, List.set_cons_succ]
    refine held_take (i := 6) (v := undef) (some 11) rfl rfl (by kernel_rfl) (by kernel_rfl) (by kernel_rfl) (fun _ _ _ h => h) (Or.inr ⟨by rfl, by rfl⟩) s1 ?_
    simp only [Act.put, List.setIfInBounds_toArray, List.set_cons_zero, List.set_cons_succ]
    refine held_take (i := 9) (v := undef) (some 14) rfl rfl (by kernel_rfl) (by kernel_rfl) (by kernel_rfl) (fun _ _ _ h => h) (Or.inr ⟨by rfl, by rfl⟩) s1 ?_
    simp only [Act.put, List.setIfInBounds_toArray, List.set_cons_zero, List.set_cons_succ]
    refine held_take (i := 10) (v := .bool false) (some 15) rfl rfl (by kernel_rfl) (by kernel_rfl) (by kernel_rfl) (fun _ _ _ h => h) (Or.inl ⟨by rfl, fun W hW => by go_simp⟩) s1 ?_
    simp only [Act.put, List.setIfInBounds_toArray, List.set_cons_zero, List.set_cons_succ]
    refine held_take (i := 11) (v := .bool false) (some 4) rfl rfl (by kernel_rfl) (by kernel_rfl) (by kernel_rfl) (fun _ _ _ h => h) (Or.inl ⟨by rfl, fun W hW => by go_simp⟩) s1 ?_
    simp only [Act.put, List.setIfInBounds_toArray, List.set_cons_zero, List.set_cons_succ]
    refine wpAnyH_done (by kernel_rfl) ?_ _
    refine NoPanic.normal ?_
    go_wp2_with fail
    go_ret
    exact ⟨rfl, by rw [hgz]; exact HB1.out⟩

section
variable {w : World} {b : Nat} {c : Fc}
set_option maxHeartbeats 1600000 in
theorem State_any (h : Fa w b c) : Calls Tryz.prog 218 #[ptr b] w fun e w' => e = .returned (.int .i64 (c.st : Int)) ∧ w' = w := by
  have c5 := h.c5
  clear h
  unfold ptr
  go_enter Tryz.func218, Tryz.ntmps218
  go_wp2_with fail
  go_ret
  exact ⟨rfl, rfl⟩

set_option maxHeartbeats 1600000 in
theorem At_any (h : Fa w b c) (hf : 0 ≤ c.df ∧ c.df ≤ 1152921504606846976) (hd : 0 ≤ c.dw ∧ c.dw ≤ 16) : Calls Tryz.prog 207 #[ptr b] w fun e w' => e = .returned (due c.df c.dw) ∧ Below w.heap.size w w' := by
  have HA := Lib.hid (at_any c.df c.dw w hf hd)
  have c8 := h.c8
  have c9 := h.c9
  clear h hf hd
  generalize c.df = f at *
  generalize c.dw = d at *
  unfold ptr dl due at *
  by_cases h : 0 < d
  · simp only [if_pos h] at *
    clear h
    go_enter Tryz.func207, Tryz.ntmps207
    go_wp2_with fail
    refine HA.out.mono ?_
    rintro e w1 ⟨rfl, b1⟩
    go_wp2_with fail
    go_ret2
    exact ⟨rfl, b1⟩
  · simp only [if_neg h] at *
    clear h
    go_enter Tryz.func207, Tryz.ntmps207
    go_wp2_with fail
    refine HA.out.mono ?_
    rintro e w1 ⟨rfl, b1⟩
    go_wp2_with fail
    go_ret2
    exact ⟨rfl, b1⟩

set_option maxHeartbeats 1600000 in
theorem within_any (h : Fa w b c) (lo hi : Int) : Calls Tryz.prog 219 #[ptr b, .int .i64 lo, .int .i64 hi] w fun e w' => e = .returned (.bool (decide (lo ≤ c.st ∧ (c.st : Int) ≤ hi))) ∧ w' = w := by
  have c5 := h.c5
  clear h
  generalize (c.st : Int) = s at *
  unfold ptr
  by_cases h1 : lo ≤ s
  · by_cases h2 : s ≤ hi
    · rw [decide_eq_true ⟨h1, h2⟩]
      go_enter Tryz.func219, Tryz.ntmps219
      go_wp2_with fail
      go_ret
      exact ⟨rfl, rfl⟩
    · rw [decide_eq_false (by omega)]
      have h2' : decide (s ≤ hi) = false := decide_eq_false h2
      go_enter Tryz.func219, Tryz.ntmps219
      go_wp2_with fail
      go_ret
      exact ⟨rfl, rfl⟩
  · rw [decide_eq_false (by omega)]
    have h1' : decide (lo ≤ s) = false := decide_eq_false h1
    go_enter Tryz.func219, Tryz.ntmps219
    go_wp2_with fail
    go_ret
    exact ⟨rfl, rfl⟩

set_option maxHeartbeats 1600000 in
theorem fended_any (h : Fa w b c) : Calls Tryz.prog 249 #[ptr b] w fun e w' => e = .returned (.bool (decide (c.st = 10 ∨ c.st = 11))) ∧ w' = w := by
  have c5 := h.c5
  clear h
  generalize hs : c.st = s at *
  unfold ptr
  by_cases h1 : s = 10
  · subst h1
    go_enter Tryz.func249, Tryz.ntmps249
    go_wp2_with fail
    go_ret
    exact ⟨rfl, rfl⟩
  · have n1 : ((s : Int) == 10) = false := by rw [beq_eq_false_iff_ne]; omega
    by_cases h2 : s = 11
    · subst h2
      go_enter Tryz.func249, Tryz.ntmps249
      go_wp2_with fail
      go_ret
      exact ⟨rfl, rfl⟩
    · have n2 : ((s : Int) == 11) = false := by rw [beq_eq_false_iff_ne]; omega
      rw [decide_eq_false (by omega)]
      go_enter Tryz.func249, Tryz.ntmps249
      go_wp2_with fail
      go_ret
      exact ⟨rfl, rfl⟩

set_option maxHeartbeats 1600000 in
theorem sends_any (h : Fa w b c) : Calls Tryz.prog 276 #[ptr b] w fun e w' => e = .returned (.bool (decide (c.st = 3 ∨ c.st = 6))) ∧ w' = w := by
  have c5 := h.c5
  clear h
  generalize hs : c.st = s at *
  unfold ptr
  by_cases h1 : s = 3
  · subst h1
    go_enter Tryz.func276, Tryz.ntmps276
    go_wp2_with fail
    go_ret
    exact ⟨rfl, rfl⟩
  · have n1 : ((s : Int) == 3) = false := by rw [beq_eq_false_iff_ne]; omega
    by_cases h2 : s = 6
    · subst h2
      go_enter Tryz.func276, Tryz.ntmps276
      go_wp2_with fail
      go_ret
      exact ⟨rfl, rfl⟩
    · have n2 : ((s : Int) == 6) = false := by rw [beq_eq_false_iff_ne]; omega
      rw [decide_eq_false (by omega)]
      go_enter Tryz.func276, Tryz.ntmps276
      go_wp2_with fail
      go_ret
      exact ⟨rfl, rfl⟩

set_option maxHeartbeats 1600000 in
theorem takes_any (h : Fa w b c) : Calls Tryz.prog 322 #[ptr b] w fun e w' => e = .returned (.bool (decide (c.st = 3 ∨ c.st = 4 ∨ c.st = 5))) ∧ w' = w := by
  have c5 := h.c5
  clear h
  generalize hs : c.st = s at *
  unfold ptr
  by_cases h1 : s = 3
  · subst h1
    go_enter Tryz.func322, Tryz.ntmps322
    go_wp2_with fail
    go_ret
    exact ⟨rfl, rfl⟩
  · have n1 : ((s : Int) == 3) = false := by rw [beq_eq_false_iff_ne]; omega
    by_cases h2 : s = 4
    · subst h2
      go_enter Tryz.func322, Tryz.ntmps322
      go_wp2_with fail
      go_ret
      exact ⟨rfl, rfl⟩
    · have n2 : ((s : Int) == 4) = false := by rw [beq_eq_false_iff_ne]; omega
      by_cases h3 : s = 5
      · subst h3
        go_enter Tryz.func322, Tryz.ntmps322
        go_wp2_with fail
        go_ret
        exact ⟨rfl, rfl⟩
      · have n3 : ((s : Int) == 5) = false := by rw [beq_eq_false_iff_ne]; omega
        rw [decide_eq_false (by omega)]
        go_enter Tryz.func322, Tryz.ntmps322
        go_wp2_with fail
        go_ret
        exact ⟨rfl, rfl⟩

def Fc.at_ (c : Fc) (s : Nat) : Fc := { c with st := s }
def Fc.lin (c : Fc) (t : Int) : Fc := { c with st := 9, df := t, dw := 8 }
def Fc.fin_ (c : Fc) (s : Nat) : Fc := { c with st := s, df := 0, dw := 0 }
/-- What it leads to that a Fin is acknowledged; that the other one's came. -/
def Fc.fina (c : Fc) (t : Int) : Fc := if c.st = 4 then c.at_ 5 else if c.st = 7 then c.lin t else if c.st = 8 then c.fin_ 10 else c
def Fc.finc (c : Fc) (t : Int) : Fc := if c.st = 3 then c.at_ 6 else if c.st = 4 then c.at_ 7 else if c.st = 5 then c.lin t else c

set_option maxHeartbeats 1600000 in
theorem linger_any (h : Fa w b c) (t : Int) : Calls Tryz.prog 380 #[ptr b, .int .i64 t] w (Did w b (c.lin t)) := by
  have H := Lib.hid h
  have c5 := h.c5
  have c8 := h.c8
  have c9 := h.c9
  have f5 := h.fz 5
  have f8 := h.fz 8
  have f9 := h.fz 9
  clear h
  unfold ptr
  go_enter Tryz.func380, Tryz.ntmps380
  go_wp2_with fail
  go_end0
  exact ⟨rfl, ((H.out.set 5 _ (c.at_ 9) rfl).set 8 _ { c.at_ 9 with df := t } rfl).set 9 _ _ rfl, ((ch_set w b 5 _).set 8 _).set 9 _⟩

set_option maxHeartbeats 1600000 in
theorem end_any (h : Fa w b c) (s : Nat) : Calls Tryz.prog 250 #[ptr b, .int .i64 (s : Int)] w (Did w b (c.fin_ s)) := by
  have H := Lib.hid h
  have c5 := h.c5
  have c8 := h.c8
  have c9 := h.c9
  have f5 := h.fz 5
  have f8 := h.fz 8
  have f9 := h.fz 9
  clear h
  unfold ptr
  go_enter Tryz.func250, Tryz.ntmps250
  go_wp2_with fail
  go_end0
  exact ⟨rfl, ((H.out.set 5 _ (c.at_ s) rfl).set 8 _ { c.at_ s with df := 0 } rfl).set 9 _ _ rfl, ((ch_set w b 5 _).set 8 _).set 9 _⟩

theorem Did.same (h : Fa w b c) : Did w b c (.returned (.tuple #[])) w := ⟨rfl, h, Ch.refl _ _⟩

set_option maxHeartbeats 1600000 in
theorem finAcked_any (h : Fa w b c) (t : Int) : Calls Tryz.prog 320 #[ptr b, .int .i64 t] w (Did w b (c.fina t)) := by
  have H := Lib.hid h
  have HL := Lib.hid (linger_any h t)
  have HE := Lib.hid (end_any h 10)
  have c5 := h.c5
  have f5 := h.fz 5
  clear h
  unfold Fc.fina
  generalize hs : c.st = s at *
  unfold ptr at *
  by_cases h1 : s = 4
  · subst h1
    rw [if_pos rfl]
    go_enter Tryz.func320, Tryz.ntmps320
    go_wp2_with fail
    go_end0
    exact ⟨rfl, H.out.set 5 _ _ rfl, ch_set w b 5 _⟩
  · rw [if_neg h1]
    have n1 : ((s : Int) == 4) = false := by rw [beq_eq_false_iff_ne]; omega
    by_cases h2 : s = 7
    · subst h2
      rw [if_pos rfl]
      go_enter Tryz.func320, Tryz.ntmps320
      go_wp2_with fail
      refine HL.out.mono ?_
      rintro e w1 ⟨rfl, d1, d2⟩
      go_wp2_with fail
      go_end0
      exact ⟨rfl, d1, d2⟩
    · rw [if_neg h2]
      have n2 : ((s : Int) == 7) = false := by rw [beq_eq_false_iff_ne]; omega
      by_cases h3 : s = 8
      · subst h3
        rw [if_pos rfl]
        go_enter Tryz.func320, Tryz.ntmps320
        go_wp2_with fail
        refine HE.out.mono ?_
        rintro e w1 ⟨rfl, d1, d2⟩
        go_wp2_with fail
        go_end0
        exact ⟨rfl, d1, d2⟩
      · rw [if_neg h3]
        have n3 : ((s : Int) == 8) = false := by rw [beq_eq_false_iff_ne]; omega
        go_enter Tryz.func320, Tryz.ntmps320
        go_wp2_with fail
        go_end0
        exact Did.same H.out

set_option maxHeartbeats 1600000 in
theorem finCame_any (h : Fa w b c) (t : Int) : Calls Tryz.prog 323 #[ptr b, .int .i64 t] w (Did w b (c.finc t)) := by
  have H := Lib.hid h
  have HL := Lib.hid (linger_any h t)
  have c5 := h.c5
  have f5 := h.fz 5
  clear h
  unfold Fc.finc
  generalize hs : c.st = s at *
  unfold ptr at *
  by_cases h1 : s = 3
  · subst h1
    rw [if_pos rfl]
    go_enter Tryz.func323, Tryz.ntmps323
    go_wp2_with fail
    go_end0
    exact ⟨rfl, H.out.set 5 _ _ rfl, ch_set w b 5 _⟩
  · rw [if_neg h1]
    have n1 : ((s : Int) == 3) = false := by rw [beq_eq_false_iff_ne]; omega
    by_cases h2 : s = 4
    · subst h2
      rw [if_pos rfl]
      go_enter Tryz.func323, Tryz.ntmps323
      go_wp2_with fail
      go_end0
      exact ⟨rfl, H.out.set 5 _ _ rfl, ch_set w b 5 _⟩
    · rw [if_neg h2]
      have n2 : ((s : Int) == 4) = false := by rw [beq_eq_false_iff_ne]; omega
      by_cases h3 : s = 5
      · subst h3
        rw [if_pos rfl]
        go_enter Tryz.func323, Tryz.ntmps323
        go_wp2_with fail
        refine HL.out.mono ?_
        rintro e w1 ⟨rfl, d1, d2⟩
        go_wp2_with fail
        go_end0
        exact ⟨rfl, d1, d2⟩
      · rw [if_neg h3]
        have n3 : ((s : Int) == 5) = false := by rw [beq_eq_false_iff_ne]; omega
        go_enter Tryz.func323, Tryz.ntmps323
        go_wp2_with fail
        go_end0
        exact Did.same H.out
end
end Go.Proofs.YtlcegchdkigibaaGreatDoor.LF

namespace Go.Proofs.YtlcegchdkigibaaGreatDoor.LF
set_option linter.unusedVariables false
set_option linter.unusedSimpArgs false
set_option maxRecDepth 20000
open Go.RowKit Go.Lib

/-- What is to be sent, as it says. -/
structure Ou where
  k : Ky
  ack : Nat
  acks : Bool
  rst : Bool
/-- .. with its piece. -/
structure Oc where
  p : Pc
  ack : Nat
  acks : Bool
  rst : Bool
def Oc.key (o : Oc) : Ou := ⟨o.p.key, o.ack, o.acks, o.rst⟩
def Oc.vals (o : Oc) : List Value := o.p.vals ++ [.int .u32 (o.ack : Int), .bool o.acks, .bool o.rst]
theorem Oc.vals_length (o : Oc) : o.vals.length = 9 := rfl
theorem oc_one (o : Oc) : ∀ u ∈ o.vals, u.oneCell' = true := by
  intro u hu
  simp only [Oc.vals, Pc.vals, List.mem_append, List.mem_cons, List.not_mem_nil, or_false] at hu
  rcases hu with (rfl | rfl | rfl | rfl | rfl | rfl) | rfl | rfl | rfl <;> rfl
def zO : Oc := ⟨zP, 0, false, false⟩
/-- All of them, as cells. -/
def ov (l : List Oc) : List Value := l.flatMap Oc.vals
theorem ov_append (l r : List Oc) : ov (l ++ r) = ov l ++ ov r := by simp [ov]
theorem ov_one1 (o : Oc) : ov [o] = o.vals := by simp [ov]
theorem ov_length (l : List Oc) : (ov l).length = l.length * 9 := by
  induction l with
  | nil => rfl
  | cons o r ih =>
    have : ov (o :: r) = o.vals ++ ov r := rfl
    rw [this, List.length_append, ih, o.vals_length, List.length_cons]
    omega
theorem ov_one (l : List Oc) : ∀ u ∈ ov l, u.oneCell' = true := by
  intro u hu
  obtain ⟨p, _, hp⟩ := List.mem_flatMap.1 hu
  exact oc_one p u hp
theorem ov_at (l : List Oc) : ∀ (j i : Nat), j < l.length → i < 9 → (ov l)[j * 9 + i]? = (l.getD j zO).vals[i]? := by
  induction l with
  | nil => intro j i hj; simp at hj
  | cons o r ih =>
    intro j i hj hi
    have e : ov (o :: r) = o.vals ++ ov r := rfl
    rw [e]
    cases j with
    | zero =>
      rw [List.getElem?_append_left (by rw [o.vals_length]; omega), Nat.zero_mul, Nat.zero_add]
      rfl
    | succ j =>
      rw [List.getElem?_append_right (by rw [o.vals_length]; omega), o.vals_length, show (j + 1) * 9 + i - 9 = j * 9 + i from by omega, ih j i (by simpa using hj) hi]
      rfl
/-- One of a row that holds them. -/
theorem own_rangeO {w : World} {base g n c j : Nat} {l : List Oc} (h : w.ownsRow base 211 9 (.slice (some ⟨g, 0, none⟩) n c) n (ov l)) (hj : j < n) : w.rangeAt g (j * 9) (l.getD j zO).vals := by
  have hl : l.length = n := by have := h.1; rw [ov_length] at this; omega
  intro i u hu
  have hi : i < 9 := (List.getElem?_eq_some_iff.1 hu).1
  rw [World.ownsRow.cellAt h (j * 9 + i) (by omega), ov_at l j i (by omega) hi]
  exact hu
theorem infoOc : (Tryz.prog.info? 211).map (fun i => (i.zero, i.size, i.bytes)) = some (some (.agg zO.vals.toArray), 9, 56) := by kernel_rfl
theorem sizeOc : (Tryz.prog.info? 211).map (·.size) = some 9 := by kernel_rfl
theorem litO (w : World) (o : Oc) : (Instr.buildSlice 204 1 #[(0, .agg o.vals.toArray)]).run Tryz.prog w = .ok (.slice (some ⟨w.heap.size, 0, none⟩) 1 1) (w.alloc (.cells o.vals.toArray 211)) := by kernel_rfl

/-- A flow: the estimate, the state, what it awaits, how often it tried, its deadline, when its first ones were sent and whether that still counts; its pieces, from b to en; what is to be sent. -/
structure F where
  E : Es
  st : Nat
  rcv : Nat
  tries : Nat
  df : Int
  dw : Int
  bg : Int
  tm : Bool
  b : Nat
  ks : List Ky
  en : Nat
  os : List Ou
def F.fc (x : F) (qb : Nat) (v : Value) : Fc := ⟨qb, x.E, x.st, x.rcv, x.tries, x.df, x.dw, x.bg, x.tm, v⟩
/-- Where it lies: its struct, its queue, the queue's row and pieces, the row of what is to be sent. -/
structure Sh where
  fb : Nat
  qb : Nat
  v : Value
  l : List Pc
  ov : Value
  ol : List Oc
/-- The blocks that are a flow's. -/
def Sh.T (s : Sh) (g : Nat) : Prop := g = s.fb ∨ Qb s.qb s.v s.l g ∨ s.ov.ownBlock = some g ∨ ∃ o ∈ s.ol, o.p.blk = some g
/-- A flow x stands in w, and lies so. -/
structure Fl (base : Nat) (w : World) (s : Sh) (x : F) : Prop where
  fa : Fa w s.fb (x.fc s.qb s.ov)
  lo : base ≤ s.fb
  qu : Qu 268 base w s.qb s.v s.l x.en
  ky : s.l.map Pc.key = x.ks
  cn : Chn x.b x.ks x.en
  lt : x.b < 4294967296
  row : w.ownsRow base 211 9 s.ov s.ol.length (ov s.ol)
  os : s.ol.map Oc.key = x.os
  og : ∀ o ∈ s.ol, PO base w o.p ∧ o.ack < 4294967296
  ap : ∀ o ∈ s.ol, ∀ g, o.p.blk = some g → ¬ Qb s.qb s.v s.l g
  rcv : x.rcv < 4294967296
section
variable {base : Nat} {w w' : World} {s : Sh} {x x' : F}
theorem Fl.in_ (h : Fl base w s x) {g : Nat} (hg : s.T g) : base ≤ g ∧ g < w.heap.size := by
  rcases hg with rfl | hg | hg | ⟨o, ho, hg⟩
  · exact ⟨h.lo, h.fa.lt⟩
  · exact h.qu.in_ hg
  · exact own_in h.row hg
  · exact (h.og o ho).1.lt hg
theorem Fl.frame (h : Fl base w s x) {m : Nat → Prop} (c : Ch w w' m) (hm : ∀ g, s.T g → ¬ m g) : Fl base w' s x :=
  ⟨h.fa.ch c (hm _ (.inl rfl)), h.lo, h.qu.frame c (fun g hg => hm g (.inr (.inl hg))), h.ky, h.cn, h.lt, own_ch2 h.row c (fun g hg => hm g (.inr (.inr (.inl hg)))), h.os,
    fun o ho => ⟨(h.og o ho).1.ch c (fun g hg => hm g (.inr (.inr (.inr ⟨o, ho, hg⟩)))), (h.og o ho).2⟩, h.ap, h.rcv⟩
theorem Fl.below (h : Fl base w s x) (b : Below w.heap.size w w') : Fl base w' s x := h.frame (Ch.of_below (fun _ => False) b) (fun _ _ e => e)
/-- Blocks of unlike types. -/
theorem two_types {w : World} {g : Nat} {cs cs' : Array Value} {t t' : TypeId} {f f' : Nat × Nat} (h : w.heap[g]? = some (.cells cs t f)) (h' : w.heap[g]? = some (.cells cs' t' f')) : t = t' := by
  rw [h] at h'
  injection h' with h'
  injection h'
theorem Fl.queue_obj (h : Fl base w s x) {g : Nat} (hg : Qb s.qb s.v s.l g) : ∃ cs t, w.heap[g]? = some (.cells cs t (0, 0)) ∧ (t = 268 ∨ t = 209 ∨ t = 5) := by
  rcases hg with rfl | hg | ⟨p, hp, hg⟩
  · exact ⟨_, _, h.qu.obj, .inl rfl⟩
  · obtain ⟨cs, e⟩ := h.qu.row.obj hg
    exact ⟨cs, _, e, .inr (.inl rfl)⟩
  · obtain ⟨cs, e⟩ := (h.qu.ok p hp).obj hg
    exact ⟨cs, _, e, .inr (.inr rfl)⟩
theorem Fl.ne_queue (h : Fl base w s x) : ¬ Qb s.qb s.v s.l s.fb := fun hg => by
  obtain ⟨cs, t, e, ht⟩ := h.queue_obj hg
  have := two_types h.fa e
  subst this
  rcases ht with ht | ht | ht <;> exact absurd ht (by decide)
theorem Fl.ne_row (h : Fl base w s x) : s.ov.ownBlock ≠ some s.fb := fun hg => by
  obtain ⟨cs, e⟩ := ch_ownrow h.row hg
  exact absurd (two_types h.fa e) (by decide)
theorem Fl.ne_data (h : Fl base w s x) {o : Oc} (ho : o ∈ s.ol) : o.p.blk ≠ some s.fb := fun hg => by
  obtain ⟨cs, e⟩ := (h.og o ho).1.obj hg
  exact absurd (two_types h.fa e) (by decide)
theorem Fl.row_queue (h : Fl base w s x) {g : Nat} (hg : s.ov.ownBlock = some g) : ¬ Qb s.qb s.v s.l g := fun hq => by
  obtain ⟨cs, t, e, ht⟩ := h.queue_obj hq
  obtain ⟨cs', e'⟩ := ch_ownrow h.row hg
  have := two_types e' e
  subst this
  rcases ht with ht | ht | ht <;> exact absurd ht (by decide)
theorem Fl.row_data (h : Fl base w s x) {g : Nat} (hg : s.ov.ownBlock = some g) {o : Oc} (ho : o ∈ s.ol) : o.p.blk ≠ some g := fun hd => by
  obtain ⟨cs, e⟩ := (h.og o ho).1.obj hd
  obtain ⟨cs', e'⟩ := ch_ownrow h.row hg
  exact absurd (two_types e' e) (by decide)
/-- Only the struct's own cells have changed. -/
theorem Fl.did (h : Fl base w s x) {c' : Fc} (d : Fa w' s.fb c') (k : Ch w w' (fun g => g = s.fb)) (he : c' = x'.fc s.qb s.ov) (h1 : x'.b = x.b) (h2 : x'.ks = x.ks) (h3 : x'.en = x.en) (h4 : x'.os = x.os) (h5 : x'.rcv < 4294967296) : Fl base w' s x' :=
  ⟨he ▸ d, h.lo, h3 ▸ h.qu.frame k (fun g hg e => h.ne_queue (e ▸ hg)), h2 ▸ h.ky, by rw [h1, h2, h3]; exact h.cn, h1 ▸ h.lt, own_ch2 h.row k (fun g hg e => h.ne_row (e ▸ hg)), h4 ▸ h.os,
    fun o ho => ⟨(h.og o ho).1.ch k (fun g hg e => h.ne_data ho (e ▸ hg)), (h.og o ho).2⟩, h.ap, h5⟩
end
/-- What a call on a flow leaves: the flow x' stands, at the same place, and nothing has changed but what was its. -/
def Left (base : Nat) (w : World) (s : Sh) (x' : F) (w' : World) : Prop :=
  ∃ s' : Sh, s'.fb = s.fb ∧ Fl base w' s' x' ∧ Ch w w' s.T ∧ ∀ g, s'.T g → s.T g ∨ w.heap.size ≤ g
section
variable {base : Nat} {w w' : World} {s : Sh} {x x' : F}
theorem Fl.left (h : Fl base w s x) {c' : Fc} (d : Fa w' s.fb c') (k : Ch w w' (fun g => g = s.fb)) (he : c' = x'.fc s.qb s.ov) (h1 : x'.b = x.b) (h2 : x'.ks = x.ks) (h3 : x'.en = x.en) (h4 : x'.os = x.os) (h5 : x'.rcv < 4294967296) : Left base w s x' w' :=
  ⟨s, rfl, h.did d k he h1 h2 h3 h4 h5, k.mono (fun g _ e => .inl e), fun g hg => .inl hg⟩
theorem Left.same (h : Fl base w s x) (b : Below w.heap.size w w') : Left base w s x w' := ⟨s, rfl, h.below b, Ch.of_below _ b, fun g hg => .inl hg⟩
/-- One call behind the other. -/
theorem Left.then_ {w1 w2 : World} {s1 : Sh} {x2 : F} (hs : s1.fb = s.fb) (c : Ch w w1 s.T) (n : ∀ g, s1.T g → s.T g ∨ w.heap.size ≤ g) (h : Left base w1 s1 x2 w2) : Left base w s x2 w2 := by
  obtain ⟨s2, e2, f2, c2, n2⟩ := h
  refine ⟨s2, e2.trans hs, f2, c.trans c2 (fun _ _ h => h) (fun g hg h => ?_), fun g hg => ?_⟩
  · rcases n g h with h | h
    · exact h
    · omega
  · rcases n2 g hg with h | h
    · exact n g h
    · exact .inr (Nat.le_trans c.size h)
end
end Go.Proofs.YtlcegchdkigibaaGreatDoor.LF

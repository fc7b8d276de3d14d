/- A path manager: how many flows there are, and whether there may be more; its pairs; its addresses. Conditions: the manager stands. -/
import Derived.Test.YtpkhalneclmoeaaPaC
import Derived.Deep.RegionHeld3
namespace Go.Proofs.Ytpkhalneclmoeaa
set_option linter.unusedVariables false
set_option linter.unusedSimpArgs false
open Go.RowKit Go.Lib

def Pm.cnt (p : Pm) : Nat := (prs p.fl 16).length
def Pm.full (p : Pm) : Bool := decide (p.mo ≤ p.cnt)
theorem inJoined (args : Array Value) (w : World) : (callFunc 36 args).run Try.prog w = .ok (.enter 36 args) w := callFunc_in (fn := Try.f36) (by kernel_rfl) (by kernel_rfl) rfl args w
theorem joins_any {w : World} {pb : Nat} {p : Pm} (h : St w pb p) : Calls Try.prog 34 #[.func (.func 36) #[ptr pb] #[]] w fun e w' => ∃ A n c, e = .returned (.slice A n c) ∧ w'.ownsRow w.heap.size 45 2 (.slice A n c) n (pv (prs p.fl 16)) ∧ Below w.heap.size w w' :=
  pairs_any inJoined fun w' b i j hi hj => joined_any (h.below b) hi hj

theorem own_pairs {w : World} {base : Nat} {e : TypeId} {A : Option Addr} {n c : Nat} {l : List (Int × Int)} (h : w.ownsRow base e 2 (.slice A n c) n (pv l)) : l.length = n ∧ n ≤ c ∧ c ≤ 9223372036854775807 := by
  obtain ⟨A', c', e', h1, h2, h3, -⟩ := PS.of_own h
  injection e' with _ _ e'
  subst e'
  exact ⟨h1, h2, h3⟩

set_option maxHeartbeats 1600000 in
theorem full_any {w : World} {pb : Nat} {p : Pm} (h : St w pb p) : Calls Try.prog 39 #[ptr pb] w fun e w' => e = .returned (.bool p.full) ∧ Below w.heap.size w w' := by
  have HP := Lib.hid (fun n => joins_any (h.drewN n))
  have c0 := h.m
  have HC : Hid (∀ w', Below w.heap.size w w' → w'.cell? ⟨pb, 24, none⟩ = some (.int .i64 (p.mo : Int))) := Lib.hid fun w' b => (h.below b).m
  have HBD := Lib.hid (fun n => below_dn (Below.refl w.heap.size w) n)
  have HL : Hid ((prs p.fl 16).length = p.cnt) := Lib.hid rfl
  have HFU : Hid (p.full = decide (p.mo ≤ p.cnt)) := Lib.hid rfl
  rw [HFU.out]
  have hmf : ∀ (fn : Fn) (first cap : Array Value) (w : World), (Instr.makeFunc fn first cap).run Try.prog w = .ok (.func fn first cap) w := fun _ _ _ _ => rfl
  unfold ptr at *
  clear h HFU
  generalize prs p.fl 16 = l at *
  generalize p.cnt = k at *
  generalize p.mo = mo at *
  go_enter Try.func39, Try.ntmps39
  go_wp2_with fail
  go_region_held3 (fun V => V.cell? ⟨pb, 24, none⟩ = some (.int .i64 (mo : Int)))
    (first | exact c0 | exact c1)
    (first
      | (go_at_call 34; refine (HP.out 1).mono ?_; rintro e w1 ⟨A, n, c, rfl, o1, b1⟩; have c1 := HC.out w1 ((HBD.out 1).trans b1); have hn := own_pairs o1; obtain ⟨hn1, hn2, hn3⟩ := hn; have HB1 := Lib.hid ((HBD.out 1).trans b1); clear o1 b1))
  obtain rfl : n = k := hn1.symm.trans HL.out
  go_wp2_with fail
  go_ret
  exact ⟨rfl, HB1.out⟩

theorem Pairs_any {w : World} {pb : Nat} {p : Pm} (h : St w pb p) : Calls Try.prog 28 #[ptr pb] w fun e w' => ∃ A n c, e = .returned (.slice A n c) ∧ w'.ownsRow w.heap.size 45 2 (.slice A n c) n (pv (prs p.fl 16)) ∧ Below w.heap.size w w' := by
  have HP := Lib.hid (joins_any h)
  have hmf : ∀ (fn : Fn) (first cap : Array Value) (w : World), (Instr.makeFunc fn first cap).run Try.prog w = .ok (.func fn first cap) w := fun _ _ _ _ => rfl
  unfold ptr at *
  clear h
  go_enter Try.func28, Try.ntmps28
  go_wp2_with fail
  refine (HP.out).mono ?_
  rintro e w1 ⟨A, n, c, rfl, o1, b1⟩
  have HO := Lib.hid o1
  have HB := Lib.hid b1
  clear o1 b1
  go_wp2_with fail
  go_ret
  exact ⟨A, n, c, rfl, HO.out, HB.out⟩

theorem infoInt : (Try.prog.info? 3).map (fun i => (i.zero, i.size, i.bytes)) = some (some (.int .i64 0), 1, 8) := by kernel_rfl
theorem RI.lit1 (w : World) (x : Int) (t : TypeId) : RI .i64 (w.alloc (.cells #[.int .i64 x] t)) (some ⟨w.heap.size, 0, none⟩) 1 1 [x] := RI.lit .i64 w [x] t (by show 1 ≤ 9223372036854775807; decide)
def ags (f : Nat → Bool) : Value := .agg #[.bool (f 0), .bool (f 1), .bool (f 2), .bool (f 3)]
theorem idx_ags (f : Nat → Bool) {q : Nat} (hq : q < 4) (w : World) : (Instr.index 64 (ags f) (.int .i64 (q : Int))).run Try.prog w = .ok (.bool (f q)) w :=
  four (P := fun q => (Instr.index 64 (ags f) (.int .i64 (q : Int))).run Try.prog w = .ok (.bool (f q)) w) (by kernel_rfl) (by kernel_rfl) (by kernel_rfl) (by kernel_rfl) hq

set_option maxHeartbeats 1600000 in
theorem rising_any (f : Nat → Bool) (w : World) : Calls Try.prog 42 #[ags f] w fun e w' => ∃ A n c, e = .returned (.slice A n c) ∧ w'.ownsRow w.heap.size 3 1 (.slice A n c) n (iv .i64 (adr f 4)) ∧ Below w.heap.size w w' := by
  have HI := Lib.hid (fun (q : Nat) (hq : q < 4) (w : World) => idx_ags f hq w)
  have hb := below_a w (.cells #[.bool (f 0), .bool (f 1), .bool (f 2), .bool (f 3)] 64)
  have HB := Lib.hid hb
  clear hb
  unfold ags at *
  go_enter Try.func42, Try.ntmps42
  go_wp2_with fail
  go_loopw [3, 7] (fun s3 ix wr => ∃ (q : Nat) (A' : Option Addr) (m c' : Nat), q ≤ 4 ∧ s3 = .slice A' m c' ∧ ix = .int .i64 (q : Int) ∧ wr.ownsRow w.heap.size 3 1 (.slice A' m c') m (iv .i64 (adr f q)) ∧ Below w.heap.size w wr) (fun _ ix _ => 4 - (intOf ix).toNat)
  case atStart => exact ⟨0, none, 0, 0, Nat.zero_le _, rfl, rfl, World.ownsRow_nil _ _ _ _, HB.out⟩
  case round =>
    obtain ⟨q, A1, m, c1, hq, rfl, rfl, hO, B⟩ := hrel
    have HM : Hid (m ≤ 4) := Lib.hid (by
      have h1 := hO.1
      rw [iv_length] at h1
      have := adr_len f q
      omega)
    have HO := Lib.hid hO
    have HB1 := Lib.hid B
    clear hO B HB
    by_cases hqn : q < 4
    · have HQ := Lib.hid hqn
      have hix := fun w => HI.out q hqn w
      cases hr : f q
      · have HE := Lib.hid (adr_no hr)
        rw [hr] at hix
        clear hr
        go_wp2_with fail
        go_roundw
        case rel => exact ⟨q + 1, A1, m, c1, HQ.out, rfl, by go_num, by rw [HE.out]; exact HO.out, HB1.out⟩
        case measure => have := HQ.out; simp [intOf]; omega
      · have HE := Lib.hid (adr_yes hr)
        rw [hr] at hix
        clear hr
        go_wp2_with (at_builtin; refine wpList_appi (W := w) rfl _ _ .i64 53 3 8 rfl Try.underlying53 infoInt (by decide) _ _ _ rfl (own_below HO.out (below_a _ _)) (HB1.out.alloc HB1.out.size _) _ 1 1 [(q : Int)] rfl (RI.lit1 _ _ _) (by have := HM.out; omega) ?_; intro A3 c3 w5 r5 o5 b5; clear r5)
        go_roundw
        case rel => exact ⟨q + 1, A3, m + 1, c3, HQ.out, rfl, by go_num, by rw [HE.out]; exact o5, b5⟩
        case measure => have := HQ.out; simp [intOf]; omega
    · obtain rfl : q = 4 := by omega
      go_wp2_with fail
      go_ret
      exact ⟨A1, m, c1, rfl, HO.out, HB1.out⟩

theorem Own_any {w : World} {pb : Nat} {p : Pm} (h : St w pb p) : Calls Try.prog 26 #[ptr pb] w fun e w' => ∃ A n c, e = .returned (.slice A n c) ∧ w'.ownsRow w.heap.size 3 1 (.slice A n c) n (iv .i64 (adr p.ow 4)) ∧ Below w.heap.size w w' := by
  have HP := Lib.hid (rising_any p.ow w)
  have c0 : w.cell? ⟨pb, 0, none⟩ = _ := h.o (i := 0) (by decide)
  have c1 : w.cell? ⟨pb, 1, none⟩ = _ := h.o (i := 1) (by decide)
  have c2 : w.cell? ⟨pb, 2, none⟩ = _ := h.o (i := 2) (by decide)
  have c3 : w.cell? ⟨pb, 3, none⟩ = _ := h.o (i := 3) (by decide)
  unfold ptr
  unfold ags at HP
  clear h
  go_enter Try.func26, Try.ntmps26
  go_wp2_with fail
  refine (HP.out).mono ?_
  rintro e w1 ⟨A, n, c, rfl, o1, b1⟩
  have HO := Lib.hid o1
  have HB := Lib.hid b1
  clear o1 b1
  go_wp2_with fail
  go_ret
  exact ⟨A, n, c, rfl, HO.out, HB.out⟩
theorem Other_any {w : World} {pb : Nat} {p : Pm} (h : St w pb p) : Calls Try.prog 27 #[ptr pb] w fun e w' => ∃ A n c, e = .returned (.slice A n c) ∧ w'.ownsRow w.heap.size 3 1 (.slice A n c) n (iv .i64 (adr p.ot 4)) ∧ Below w.heap.size w w' := by
  have HP := Lib.hid (rising_any p.ot w)
  have c0 : w.cell? ⟨pb, 4, none⟩ = _ := h.t (i := 0) (by decide)
  have c1 : w.cell? ⟨pb, 5, none⟩ = _ := h.t (i := 1) (by decide)
  have c2 : w.cell? ⟨pb, 6, none⟩ = _ := h.t (i := 2) (by decide)
  have c3 : w.cell? ⟨pb, 7, none⟩ = _ := h.t (i := 3) (by decide)
  unfold ptr
  unfold ags at HP
  clear h
  go_enter Try.func27, Try.ntmps27
  go_wp2_with fail
  refine (HP.out).mono ?_
  rintro e w1 ⟨A, n, c, rfl, o1, b1⟩
  have HO := Lib.hid o1
  have HB := Lib.hid b1
  clear o1 b1
  go_wp2_with fail
  go_ret
  exact ⟨A, n, c, rfl, HO.out, HB.out⟩
end Go.Proofs.Ytpkhalneclmoeaa

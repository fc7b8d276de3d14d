/- The law CloseEnds. Condition: the package's variable holds the moves; the argument is a slice of bytes. -/
import Derived.Test.YtpjjamlblnphdaaDoorClD
namespace Go.Proofs.YtpjjamlblnphdaaDoor
set_option linter.unusedVariables false
set_option linter.unusedSimpArgs false
open Go.RowKit Go.Lib

/-- A state other than the first one. -/
def St8 (s : Int) : Prop := 1 ≤ s ∧ s ≤ 8
theorem St8.cases {s : Int} (h : St8 s) : s = 1 ∨ s = 2 ∨ s = 3 ∨ s = 4 ∨ s = 5 ∨ s = 6 ∨ s = 7 ∨ s = 8 := by
  unfold St8 at h
  omega
theorem St8.nx {s e : Int} (h : St8 s) (he : 1 ≤ e ∧ e ≤ 4) : St8 (nx s e) := by
  have he' : e = 1 ∨ e = 2 ∨ e = 3 ∨ e = 4 := by omega
  rcases h.cases with rfl | rfl | rfl | rfl | rfl | rfl | rfl | rfl <;> rcases he' with rfl | rfl | rfl | rfl <;> exact ⟨by decide, by decide⟩
/-- What is left of a round: from e on. -/
def rest_ (s : Int) : Nat → Int
  | 0 => s
  | 1 => nx s 4
  | 2 => nx (nx s 3) 4
  | 3 => nx (nx (nx s 2) 3) 4
  | _ => nx (nx (nx (nx s 1) 2) 3) 4
def rnd_ (s : Int) : Int := rest_ s 4
def rnds : Nat → Int → Int
  | 0, s => s
  | k + 1, s => rnds k (rnd_ s)
theorem rnds_end {s : Int} (h : St8 s) : rnds 6 s = 8 := by
  rcases h.cases with rfl | rfl | rfl | rfl | rfl | rfl | rfl | rfl <;> decide
theorem rest_step {s : Int} {e f : Nat} (he : 1 ≤ e) (h : e + (f + 1) = 5) : rest_ s (f + 1) = rest_ (nx s (e : Int)) f := by
  have hc : (e = 1 ∧ f = 3) ∨ (e = 2 ∧ f = 2) ∨ (e = 3 ∧ f = 1) ∨ (e = 4 ∧ f = 0) := by omega
  rcases hc with ⟨rfl, rfl⟩ | ⟨rfl, rfl⟩ | ⟨rfl, rfl⟩ | ⟨rfl, rfl⟩ <;> rfl
theorem stays (e : Int) : nx 8 e = 8 ∧ mvd 8 e = false := by
  unfold nx mvd
  rw [fnd_out (by omega)]
  exact ⟨rfl, rfl⟩

theorem infoInt : (Tryd.prog.info? 3).map (fun i => (i.zero, i.size, i.bytes)) = some (some (.int .i64 0), 1, 8) := by kernel_rfl
theorem RI.lit1 (w : World) (x : Int) (t : TypeId) : RI .i64 (w.alloc (.cells #[.int .i64 x] t)) (some ⟨w.heap.size, 0, none⟩) 1 1 [x] := RI.lit .i64 w [x] t (by show 1 ≤ 9223372036854775807; decide)
theorem own_lit1 (w : World) (x : Int) (t : TypeId) (base : Nat) (hb : base ≤ w.heap.size) : (w.alloc (.cells #[.int .i64 x] t)).ownsRow base t 1 (.slice (some ⟨w.heap.size, 0, none⟩) 1 1) 1 (iv .i64 [x]) :=
  World.ownsRow_lit w #[.int .i64 x] 1 hb (by decide) rfl

/-- The path so far: it ends at s. -/
def Pt (l : List Int) (n : Nat) (s : Int) : Prop := l.length = n ∧ ∃ r, l = r ++ [s] ∧ pth l = true
theorem Pt.one (s : Int) : Pt [s] 1 s := ⟨rfl, [], rfl, rfl⟩
theorem Pt.step {l : List Int} {n : Nat} {s : Int} (h : Pt l n s) (e : Int) : Pt (l ++ [nx s e]) (n + 1) (nx s e) := by
  obtain ⟨hl, r, rfl, hp⟩ := h
  exact ⟨by rw [List.length_append, hl]; rfl, r ++ [s], rfl, pth_snoc hp (ld_nx s e)⟩
theorem Pt.good {l : List Int} {n : Nat} {s : Int} (h : Pt l n s) : pth l = true := by
  obtain ⟨_, r, _, hp⟩ := h
  exact hp

set_option maxHeartbeats 6400000 in
theorem Ends_any (m : Nat) (A : Option Addr) (n c : Nat) (l : List UInt8) (W : World) (hm : m < 256) (h : RB W A n c l) (hT : Tab W) : Calls Tryd.prog 5 #[.int .u8 (m : Int), .slice A n c] W (Held W) := by
  have HW := Lib.hid (wakes_any W hT)
  have HT := Lib.hid hT
  have HL := Lib.hid h
  have hcp := h.cap
  have hmx := h.max
  clear h hT
  by_cases hlong : 50 < n
  · go_enter Tryd.func5, Tryd.ntmps5
    go_wp2_with fail
    refine (HW.out).mono ?_
    rintro e w1 ⟨rfl, b1⟩
    have B1 := Lib.hid b1
    clear b1
    go_wp2_with fail
    go_ret
    exact ⟨rfl, B1.out⟩
  · have H50 : Hid (n ≤ 50) := Lib.hid (by omega)
    have hwm : IntKind.i64.wrap (m : Int) = (m : Int) := by rw [IntKind.wrap_i64]; omega
    have htm : (m : Int).tmod 8 = ((m % 8 : Nat) : Int) := rfl
    have hem : (m : Int) % 8 = ((m % 8 : Nat) : Int) := by omega
    have hw8 : IntKind.i64.wrap ((m % 8 : Nat) : Int) = ((m % 8 : Nat) : Int) := by rw [IntKind.wrap_i64]; omega
    have hw9 : IntKind.i64.wrap (1 + ((m % 8 : Nat) : Int)) = 1 + ((m % 8 : Nat) : Int) := by rw [IntKind.wrap_i64]; omega
    have hx : ∃ x : Int, x = 1 + ((m % 8 : Nat) : Int) ∧ St8 x := ⟨_, rfl, by unfold St8; omega⟩
    generalize m % 8 = m8 at *
    obtain ⟨x, hx, hx8⟩ := hx
    rw [← hx] at hw9
    have HX8 := Lib.hid hx8
    have hxe := hx.symm
    clear hm hx hx8
    go_enter Tryd.func5, Tryd.ntmps5
    go_wp2_with fail
    refine (HW.out).mono ?_
    rintro e w1 ⟨rfl, b1⟩
    have HB1 := Lib.hid b1
    clear b1 HW
    go_wp2_with fail
    have HO1 := Lib.hid (own_lit1 w1 x 3 W.heap.size HB1.out.size)
    have HB2 := Lib.hid (HB1.out.alloc HB1.out.size (.cells #[.int .i64 x] 3))
    have HPT := Lib.hid (Pt.one x)
    clear hwm htm hem hw8 hw9 hxe HB1
    generalize w1.alloc (.cells #[.int .i64 x] 3) = w2 at *
    generalize (Value.slice (some ⟨w1.heap.size, 0, none⟩) 1 1) = v1 at *
    go_loopw [5, 6, 26] (fun sx px ix wr => ∃ (q : Nat) (s : Int) (p : List Int) (v : Value), q ≤ n ∧ sx = .int .i64 s ∧ px = v ∧ ix = .int .i64 (q : Int) ∧ St8 s ∧ Pt p (q + 1) s ∧ wr.ownsRow W.heap.size 3 1 v (q + 1) (iv .i64 p) ∧ Below W.heap.size W wr) (fun _ _ ix _ => n - (intOf ix).toNat)
    case atStart => exact ⟨0, x, [x], v1, Nat.zero_le _, rfl, rfl, rfl, HX8.out, HPT.out, HO1.out, HB2.out⟩
    case round =>
      obtain ⟨q, s, p, v, hq, rfl, rfl, rfl, h8, hpt, ho, hb⟩ := hrel
      have HS8 := Lib.hid h8
      have HP := Lib.hid hpt
      have HO := Lib.hid ho
      have HB := Lib.hid hb
      clear h8 hpt ho hb HO1 HB2 HPT
      by_cases hqn : q < n
      · have HQ := Lib.hid hqn
        obtain ⟨g, o, rfl, k0⟩ := (HL.out.below HB.out).at_ hqn
        have hy := (l.getD q 0).toNat_lt
        generalize (l.getD q 0).toNat = y at *
        have hwy : IntKind.i64.wrap (y : Int) = (y : Int) := by rw [IntKind.wrap_i64]; omega
        have hty : (y : Int).tmod 4 = ((y % 4 : Nat) : Int) := rfl
        have hey : (y : Int) % 4 = ((y % 4 : Nat) : Int) := by omega
        have hw4 : IntKind.i64.wrap ((y % 4 : Nat) : Int) = ((y % 4 : Nat) : Int) := by rw [IntKind.wrap_i64]; omega
        have hw5 : IntKind.i64.wrap (1 + ((y % 4 : Nat) : Int)) = 1 + ((y % 4 : Nat) : Int) := by rw [IntKind.wrap_i64]; omega
        have he : ∃ e : Int, e = 1 + ((y % 4 : Nat) : Int) ∧ 1 ≤ e ∧ e ≤ 4 := ⟨_, rfl, by omega, by omega⟩
        generalize y % 4 = y4 at *
        obtain ⟨e, hee, he1, he2⟩ := he
        rw [← hee] at hw5
        have hee2 := hee.symm
        have HN8 := Lib.hid (HS8.out.nx ⟨he1, he2⟩)
        have HPN := Lib.hid (HP.out.step e)
        have HST := Lib.hid (Step_any s e wr (HT.out.below HB.out))
        clear hee he1 he2 hy
        generalize nx s e = z at *
        go_wp2_with fail
        refine (HST.out).mono ?_
        rintro r w3 ⟨rfl, b3⟩
        have HO3 := Lib.hid (own_below HO.out b3)
        have HB3 := Lib.hid (HB.out.trans (b3.mono HB.out.size))
        clear b3 HST HO HB k0
        go_wp2_with (at_builtin; refine wpList_appi (W := W) rfl _ _ .i64 28 3 8 rfl Tryd.underlying28 infoInt (by decide) _ _ _ rfl (own_below HO3.out (below_a _ _)) (HB3.out.alloc HB3.out.size _) _ 1 1 [z] rfl (RI.lit1 _ _ _) (by have := HQ.out; have := H50.out; omega) ?_; intro A4 c4 w4 r4 o4 b4; clear r4)
        go_roundw
        case rel => exact ⟨q + 1, z, _, _, HQ.out, rfl, rfl, by go_num, HN8.out, HPN.out, o4, b4⟩
        case measure => have := HQ.out; simp [intOf]; omega
      · obtain rfl : q = n := by omega
        have HJ0 := Lib.hid (rnds_end HS8.out)
        clear hqn
        go_wp2_with fail
        go_loopw [5, 6, 44] (fun sx px ix wr => ∃ (k j L : Nat) (s : Int) (p : List Int) (v : Value), k + j = 6 ∧ L = q + 1 + 4 * k ∧ sx = .int .i64 s ∧ px = v ∧ ix = .int .i64 (k : Int) ∧ rnds j s = 8 ∧ Pt p L s ∧ wr.ownsRow W.heap.size 3 1 v L (iv .i64 p) ∧ Below W.heap.size W wr) (fun _ _ ix _ => 6 - (intOf ix).toNat)
        case atStart => exact ⟨0, 6, q + 1, s, p, _, rfl, rfl, rfl, rfl, rfl, HJ0.out, HP.out, HO.out, HB.out⟩
        case round =>
          clear HJ0 HP HO HB HS8 HX8
          obtain ⟨k, j, L, s, p, v, hkj, hL, rfl, rfl, rfl, hj, hpt, ho, hb⟩ := hrel
          have HJ := Lib.hid hj
          have HP := Lib.hid hpt
          have HO := Lib.hid ho
          have HB := Lib.hid hb
          have HKJ := Lib.hid (And.intro hkj hL)
          clear hj hpt ho hb hL
          by_cases hk6 : k < 6
          · have HK := Lib.hid hk6
            obtain ⟨j1, rfl⟩ : ∃ j1, j = j1 + 1 := ⟨j - 1, by omega⟩
            have HJ1 : Hid (rnds j1 (rest_ s 4) = 8) := Lib.hid HJ.out
            have hk6' : (k : Int) < 6 := by omega
            clear hkj HJ hk6
            go_wp2_with fail
            go_loopw [5, 6, 9] (fun sx px ex wz => ∃ (e f L2 : Nat) (s2 : Int) (p2 : List Int) (v2 : Value), e + f = 5 ∧ 1 ≤ e ∧ L2 + 1 = L + e ∧ sx = .int .i64 s2 ∧ px = v2 ∧ ex = .int .i64 (e : Int) ∧ rnds j1 (rest_ s2 f) = 8 ∧ Pt p2 L2 s2 ∧ wz.ownsRow W.heap.size 3 1 v2 L2 (iv .i64 p2) ∧ Below W.heap.size W wz) (fun _ _ ex _ => 5 - (intOf ex).toNat)
            case atStart => exact ⟨1, 4, L, s, p, _, rfl, Nat.le_refl _, rfl, rfl, rfl, rfl, HJ1.out, HP.out, HO.out, HB.out⟩
            case round =>
              clear HJ1 HP HO HB hk6'
              obtain ⟨e, f, L2, s2, p2, v2, hef, he1, hL2, rfl, rfl, rfl, hr, hpt, ho, hb⟩ := hrel
              have HR := Lib.hid hr
              have HP := Lib.hid hpt
              have HO := Lib.hid ho
              have HB := Lib.hid hb
              have HE := Lib.hid (And.intro hef (And.intro he1 hL2))
              clear hr hpt ho hb hL2
              by_cases he4 : e ≤ 4
              · obtain ⟨f1, rfl⟩ : ∃ f1, f = f1 + 1 := ⟨f - 1, by omega⟩
                have HR1 : Hid (rnds j1 (rest_ (nx s2 (e : Int)) f1) = 8) := Lib.hid (by
                  have := HR.out
                  rwa [rest_step (by omega) hef] at this)
                have HPN := Lib.hid (HP.out.step (e : Int))
                have HST := Lib.hid (Step_any s2 (e : Int) wr (HT.out.below HB.out))
                have HE4 := Lib.hid he4
                have he4' : (e : Int) ≤ 4 := by omega
                clear hef he1 HR HP he4
                generalize nx s2 (e : Int) = z at *
                go_wp2_with fail
                refine (HST.out).mono ?_
                rintro r w3 ⟨rfl, b3⟩
                have HO3 := Lib.hid (own_below HO.out b3)
                have HB3 := Lib.hid (HB.out.trans (b3.mono HB.out.size))
                clear b3 HST HO HB
                go_wp2_with (at_builtin; refine wpList_appi (W := W) rfl _ _ .i64 28 3 8 rfl Tryd.underlying28 infoInt (by decide) _ _ _ rfl (own_below HO3.out (below_a _ _)) (HB3.out.alloc HB3.out.size _) _ 1 1 [z] rfl (RI.lit1 _ _ _) (by have := HE.out; have := HKJ.out; have := H50.out; have := HE4.out; have := HK.out; omega) ?_; intro A4 c4 w4 r4 o4 b4; clear r4)
                go_roundw
                case rel => exact ⟨e + 1, f1, L2 + 1, z, _, _, by have := HE.out; omega, by omega, by have := HE.out; omega, rfl, rfl, by go_num, HR1.out, HPN.out, o4, b4⟩
                case measure => have := HE4.out; simp [intOf]; omega
              · obtain rfl : e = 5 := by omega
                obtain rfl : f = 0 := by omega
                clear he4 hef he1
                have hwk : IntKind.i64.wrap ((k : Int) + 1) = (k : Int) + 1 := by have := HK.out; rw [IntKind.wrap_i64]; omega
                go_wp2_with fail
                go_roundw
                case rel => exact ⟨k + 1, j1, L2, s2, p2, _, by have := HKJ.out; omega, by have := HKJ.out; have := HE.out; omega, rfl, rfl, by go_num, HR.out, HP.out, HO.out, HB.out⟩
                case measure => have := HK.out; simp [intOf]; omega
          · obtain rfl : k = 6 := by omega
            obtain rfl : j = 0 := by omega
            obtain rfl : s = 8 := HJ.out
            obtain ⟨A5, c5, rfl, hri, -⟩ := RI.of_own HO.out
            have HPA := Lib.hid (Path_any hri (HT.out.below HB.out))
            rw [HP.out.good] at HPA
            clear hri hkj hk6 HJ
            go_wp2_with fail
            refine (HPA.out).mono ?_
            rintro r w5 ⟨rfl, b5⟩
            have HB5 := Lib.hid (HB.out.trans (b5.mono HB.out.size))
            clear b5 HPA HB HO HP
            go_wp2_with fail
            go_loopw [10] (fun ex wr => ∃ z : Int, -1 ≤ z ∧ z ≤ 8 ∧ ex = .int .i64 z ∧ Below W.heap.size W wr) (fun ex _ => (8 - intOf ex).toNat)
            case atStart => exact ⟨-1, by decide, by decide, rfl, HB5.out⟩
            case round =>
              clear HB5
              obtain ⟨z, hz1, hz2, rfl, hb⟩ := hrel
              have HB := Lib.hid hb
              clear hb
              by_cases hz : z < 8
              · have HZ := Lib.hid (And.intro hz1 hz)
                have HST := Lib.hid (Step_any 8 z wr (HT.out.below HB.out))
                rw [(stays z).1, (stays z).2] at HST
                have hwz : IntKind.i64.wrap (z + 1) = z + 1 := by rw [IntKind.wrap_i64]; omega
                clear hz1 hz2
                go_wp2_with fail
                refine (HST.out).mono ?_
                rintro r w6 ⟨rfl, b6⟩
                have HB6 := Lib.hid (HB.out.trans (b6.mono HB.out.size))
                clear b6 HST HB
                go_wp2_with fail
                go_roundw
                case rel => exact ⟨z + 1, by have := HZ.out; omega, by have := HZ.out; omega, rfl, HB6.out⟩
                case measure => have := HZ.out; simp [intOf]; omega
              · go_wp2_with fail
                go_ret
                exact ⟨rfl, HB.out⟩
end Go.Proofs.YtpjjamlblnphdaaDoor

/- The law SpanAny. Conditions: the acts lie where the slice says; whole numbers of 64 bits. -/
import Derived.Test.YteiojdmnfjcagaaSpR
namespace Go.Proofs.Yteiojdmnfjcagaa
set_option linter.unusedVariables false
set_option linter.unusedSimpArgs false
open Go.RowKit Go.Lib

theorem inR_ok2 {r : Rn} (h : 0 ≤ r.1 ∧ 1 ≤ r.2 ∧ r.1 + r.2 ≤ 4294967296) : inR r.1 r.2 = r := by
  unfold inR
  rw [if_neg (by omega)]
  refine Prod.ext rfl ?_
  dsimp only
  omega
theorem newR {W w : World} {u : Value} {l : List Rn} (h : Row w u l) (ht : Tid 0 l) (hb : Below W.heap.size W w) : Calls Try.prog 9 #[u] w fun e w' => ∃ (sb : Nat) (v : Value), e = .returned (ptr sb) ∧ Sg W w' sb v l ∧ Below w.heap.size w w' := by
  refine (New_any h (by have := tid_len ht; omega) (fun r hr => by have := tid_ge ht r hr; exact ⟨⟨by omega, by omega⟩, ⟨by omega, by omega⟩⟩)).mono fun e w' h => ?_
  obtain ⟨sb, v, l', rfl, S, hh, b, h1, h2⟩ := h
  have hl : l' = l := tid_ext S.tid ht fun n => by
    rw [hh]
    constructor
    · rintro ⟨r, hr, hc⟩
      unfold Cov at hc
      rw [inR_ok2 (tid_ge ht r hr)] at hc
      exact ⟨r, hr, hc⟩
    · rintro ⟨r, hr, hc⟩
      refine ⟨r, hr, ?_⟩
      unfold Cov
      rw [inR_ok2 (tid_ge ht r hr)]
      exact hc
  subst hl
  exact ⟨sb, v, rfl, ⟨S, hb.trans (b.mono hb.size), Nat.le_trans hb.size h1, fun k hk => Nat.le_trans hb.size (h2 k hk)⟩, b⟩
theorem add_again {l l' l'' : List Rn} {R : Rn} (h : AddR l R l') (h' : AddR l' R l'') : l'' = l' := tid_ext h'.tid h.tid fun n => by
  rw [h'.has, h.has]
  constructor
  · rintro (h | h)
    · exact h
    · exact .inr h
  · exact .inl
theorem add_first {l l' : List Rn} {f g : Int} (h : AddR l (inR f g) l') (hf : 0 ≤ f) (hf2 : f < 4294967296) (hg : 0 < g) : Has l' f := by
  rw [h.has]
  right
  unfold inR
  rw [if_neg (by omega)]
  dsimp only
  omega

set_option maxRecDepth 8000 in
set_option maxHeartbeats 8000000 in
theorem Any_any (A : Option Addr) (na ca : Nat) (ac : List (Int × Int × Int)) (n : Int) (W : World) (hA : Tri W A na ca ac) (hni : isI n) :
    Calls Try.prog 4 #[.slice A na ca, .int .i64 n] W (Held W) := by
  have HW := Lib.hid (wakes_any W)
  have HA := Lib.hid hA
  have hcap := hA.cap
  have hmax := hA.max
  have HNI := Lib.hid hni
  clear hA hni
  go_enter Try.func4, Try.ntmps4
  go_wp2_with fail
  refine (HW.out).mono ?_
  rintro e w1 ⟨rfl, b1⟩
  have B1 := Lib.hid b1
  clear b1 HW
  by_cases hn : 60 < na
  · have hn1 : (60 : Int) < (na : Int) := by omega
    go_wp2_with fail
    go_ret
    exact ⟨rfl, B1.out⟩
  have hn1 : ¬ (60 : Int) < (na : Int) := by omega
  have HN := Lib.hid (newS W w1 B1.out)
  go_wp2_with fail
  refine (HN.out).mono ?_
  rintro e w2 ⟨sb, v2, rfl, S2, _, _, _⟩
  have HS2 := Lib.hid S2
  clear S2 HN
  unfold ptr
  go_wp2_with fail
  go_loopw [20] (fun ix wr => ∃ (q : Nat) (vs : Value) (ls : List Rn), q ≤ na ∧ ix = .int .i64 (q : Int) ∧ Sg W wr sb vs ls) (fun ix _ => na - (intOf ix).toNat)
  case atStart => exact ⟨0, _, _, Nat.zero_le _, rfl, HS2.out⟩
  case round =>
    obtain ⟨q, vs, ls, hq, rfl, S⟩ := hrel
    have HS := Lib.hid S
    by_cases hqn : q < na
    · obtain ⟨g, o, rfl, hce⟩ := (HA.out.below S.bel).mem (by omega)
      obtain ⟨x0, x1, x2⟩ := hce q hqn
      obtain ⟨_, hfi, hgi⟩ := HA.out.elem hqn
      generalize ac.getD q z3 = r at *
      obtain ⟨kd, f, gg⟩ := r
      dsimp only at *
      have HT := Lib.hid (S.below (below_a wr (.cells #[.int .i64 kd, .int .i64 f, .int .i64 gg] 29)))
      obtain ⟨e0, e1, e2⟩ := cell3 wr (.int .i64 kd) (.int .i64 f) (.int .i64 gg) 29
      have HMA := Lib.hid (Many_any HT.out.st)
      unfold ptr at HMA
      have hab : W.heap.size ≤ wr.heap.size := S.bel.size
      have hm0 := tid_many S.st.tid
      have HNE : Hid (∀ k, k = wr.heap.size → ¬ (k = sb ∨ vs.ownBlock = some k)) := Lib.hid (fun k e h => by
        rcases h with h | h
        · have := HS.out.st.lt; omega
        · have := HS.out.st.row.lt h; omega)
      clear S hce
      go_upto_region 9 with (fail)
      clear x0 x1 x2
      generalize wr.alloc (.cells #[.int .i64 kd, .int .i64 f, .int .i64 gg] 29) = w4 at *
      generalize hrs : wr.heap.size = ab at *
      go_wp2_with fail
      refine (HMA.out).mono ?_
      rintro e w5 ⟨rfl, b5⟩
      have HT5 := Lib.hid (HT.out.below b5)
      replace e0 := keepc b5 e0
      replace e1 := keepc b5 e1
      replace e2 := keepc b5 e2
      clear HMA b5
      by_cases hk : kd = 1
      · subst hk
        have HD := Lib.hid (Drop_any HT5.out.st hfi)
        unfold ptr at HD
        go_wp2_with fail
        refine (HD.out).mono ?_
        rintro e w6 ⟨v6, l6, rfl, s6, d6, hg6, c6, o6⟩
        have HT6 := Lib.hid (HT5.out.step s6 c6 o6)
        have f1 := c6.cell e1 (HNE.out ab rfl)
        have HD6 := Lib.hid d6
        have hm6 := tid_many s6.tid
        have HMB := Lib.hid (Many_any HT6.out.st)
        unfold ptr at HMB
        clear s6 d6 c6 o6 HD e0 e1 e2
        generalize many ls = m0 at *
        generalize many l6 = m6 at *
        have hw1 : IntKind.i64.wrap (m0 - (m0 - m6)) = m6 := by rw [IntKind.wrap_i64]; omega
        have hw1' : m0 - (m0 - m6) = m6 := by omega
        have hw2 : IntKind.i64.wrap m6 = m6 := by rw [IntKind.wrap_i64]; omega
        go_wp2_with fail
        refine (HMB.out).mono ?_
        rintro e w7 ⟨rfl, b7⟩
        have HT7 := Lib.hid (HT6.out.below b7)
        have f2 := keepc b7 f1
        clear b7 HMB f1
        obtain ⟨z, hz⟩ : ∃ z, IntKind.i64.wrap (min f 1099511627776 - 1) = z := ⟨_, rfl⟩
        have hzf : isI z ∧ (z = min f 1099511627776 - 1 ∨ z = 9223372036854775807) := by
          have h1 := hfi.1
          have h2 := hfi.2
          rw [IntKind.wrap_i64] at hz
          unfold isI
          omega
        have HH := Lib.hid (Has_any HT7.out.st hzf.1)
        unfold ptr at HH
        have hno : ¬ Has l6 z := fun h => by
          have h1 := has_ge HT7.out.st.tid h
          have h2 := ((HD6.out.has z).1 h).2
          omega
        have HNO := Lib.hid hno
        clear hno hzf
        go_wp2_with fail
        refine (HH.out).mono ?_
        rintro e w8 ⟨b, rfl, hb, b8⟩
        obtain rfl : b = false := by
          cases b with
          | false => rfl
          | true => exact absurd (hb.1 rfl) HNO.out
        have HT8 := Lib.hid (HT7.out.below b8)
        have HRU := Lib.hid (Runs_any HT8.out.st)
        unfold ptr at HRU
        clear hb b8 HH HT7
        go_wp2_with fail
        refine (HRU.out).mono ?_
        rintro e w9 ⟨u9, rfl, r9, _, b9⟩
        have HT9 := Lib.hid (HT8.out.below b9)
        have HTI := Lib.hid (tidy_any r9 HT8.out.st.tid)
        clear r9 b9 HRU
        go_wp2_with fail
        refine (HTI.out).mono ?_
        rintro e w10 ⟨rfl, b10⟩
        have HT10 := Lib.hid (HT9.out.below b10)
        clear b10 HTI
        go_wp2_with fail
        go_roundw
        case rel => exact ⟨q + 1, _, _, by omega, by go_num, HT10.out⟩
        case measure => simp [intOf]; omega
      · have hk1 : (kd == 1) = false := by simpa using hk
        have HD := Lib.hid (HT5.out.add hfi hgi)
        unfold ptr at HD
        go_wp2_with fail
        refine (HD.out).mono ?_
        rintro e w6 ⟨v6, l6, rfl, s6, d6, hg6, c6, o6⟩
        have HT6 := Lib.hid (HT5.out.step s6 c6 o6)
        have f1 := c6.cell e1 (HNE.out ab rfl)
        have f2 := c6.cell e2 (HNE.out ab rfl)
        have HNE6 : Hid (∀ k, k = ab → ¬ (k = sb ∨ v6.ownBlock = some k)) := Lib.hid (fun k e h => by
          rcases h with h | h
          · exact HNE.out k e (.inl h)
          · rcases o6 k h with h | h
            · exact HNE.out k e (.inr h)
            · have := World.block_lt_of_cell? _ _ e0
              dsimp only at this
              omega)
        have HD6 := Lib.hid d6
        have hm6 := tid_many s6.tid
        have HMB := Lib.hid (Many_any HT6.out.st)
        unfold ptr at HMB
        clear s6 d6 c6 o6 HD e0 e1 e2
        generalize hmm0 : many ls = m0 at *
        generalize hmm6 : many l6 = m6 at *
        have HM6 := Lib.hid hmm6
        have hw1 : IntKind.i64.wrap (m0 + (m6 - m0)) = m6 := by rw [IntKind.wrap_i64]; omega
        have hw1' : m0 + (m6 - m0) = m6 := by omega
        have hw2 : IntKind.i64.wrap m6 = m6 := by rw [IntKind.wrap_i64]; omega
        have hlt : decide (m6 - m0 < 0) = false := decide_eq_false (by omega)
        have hlt2 : ¬ m6 - m0 < 0 := by omega
        clear hmm0 hmm6
        go_wp2_with fail
        refine (HMB.out).mono ?_
        rintro e w7 ⟨rfl, b7⟩
        have HT7 := Lib.hid (HT6.out.below b7)
        have g1 := keepc b7 f1
        have g2 := keepc b7 f2
        have HD2 := Lib.hid (HT7.out.add hfi hgi)
        unfold ptr at HD2
        clear b7 HMB f1 f2
        go_wp2_with fail
        refine (HD2.out).mono ?_
        rintro e w8 ⟨v8, l8, rfl, s8, d8, hg8, c8, o8⟩
        have HT8 := Lib.hid (HT7.out.step s8 c8 o8)
        obtain rfl : l8 = l6 := add_again HD6.out d8
        have f1 := c8.cell g1 (HNE6.out ab rfl)
        have f2 := c8.cell g2 (HNE6.out ab rfl)
        rw [Int.sub_self]
        clear s8 d8 c8 o8 HD2 g1 g2 hg8
        have HEND : Hid (∀ w9, Below w8.heap.size w8 w9 → _ ∧ _) := Lib.hid (fun w9 b9 => And.intro (HT8.out.below b9) (Runs_any (HT8.out.below b9).st))
        have hff := Lib.hid (fun h1 h2 h3 => add_first HD6.out h1 h2 h3)
        have HHX := Lib.hid (Has_any HT8.out.st hfi)
        unfold ptr at HHX HEND
        have hfin : ∀ w9 : World, Below w8.heap.size w8 w9 → True := fun _ _ => trivial
        by_cases k1 : 0 ≤ f
        · by_cases k2 : f < 4294967296
          · by_cases k3 : 0 < gg
            · go_wp2_with fail
              refine (HHX.out).mono ?_
              rintro e w9 ⟨b, rfl, hb, b9⟩
              obtain rfl : b = true := hb.2 (hff.out k1 k2 k3)
              have HT9 := Lib.hid (HEND.out w9 b9).1
              have HRU := Lib.hid (HEND.out w9 b9).2
              clear hb b9 HHX HEND f1 f2
              go_wp2_with fail
              refine (HRU.out).mono ?_
              rintro e w9 ⟨u9, rfl, r9, _, b9⟩
              have HT10 := Lib.hid (HT9.out.below b9)
              have HTI := Lib.hid (tidy_any r9 HT9.out.st.tid)
              clear r9 b9 HRU
              go_wp2_with fail
              refine (HTI.out).mono ?_
              rintro e w10 ⟨rfl, b10⟩
              have HT11 := Lib.hid (HT10.out.below b10)
              clear b10 HTI
              go_wp2_with fail
              go_roundw
              case rel => exact ⟨q + 1, _, _, by omega, by go_num, HT11.out⟩
              case measure => simp [intOf]; omega
            · have HRU := Lib.hid (HEND.out w8 (Below.refl _ _)).2
              clear HHX HEND
              go_wp2_with fail
              refine (HRU.out).mono ?_
              rintro e w9 ⟨u9, rfl, r9, _, b9⟩
              have HT10 := Lib.hid (HT8.out.below b9)
              have HTI := Lib.hid (tidy_any r9 HT8.out.st.tid)
              clear r9 b9 HRU f1 f2
              go_wp2_with fail
              refine (HTI.out).mono ?_
              rintro e w10 ⟨rfl, b10⟩
              have HT11 := Lib.hid (HT10.out.below b10)
              clear b10 HTI
              go_wp2_with fail
              go_roundw
              case rel => exact ⟨q + 1, _, _, by omega, by go_num, HT11.out⟩
              case measure => simp [intOf]; omega
          · have HRU := Lib.hid (HEND.out w8 (Below.refl _ _)).2
            clear HHX HEND
            go_wp2_with fail
            refine (HRU.out).mono ?_
            rintro e w9 ⟨u9, rfl, r9, _, b9⟩
            have HT10 := Lib.hid (HT8.out.below b9)
            have HTI := Lib.hid (tidy_any r9 HT8.out.st.tid)
            clear r9 b9 HRU f1 f2
            go_wp2_with fail
            refine (HTI.out).mono ?_
            rintro e w10 ⟨rfl, b10⟩
            have HT11 := Lib.hid (HT10.out.below b10)
            clear b10 HTI
            go_wp2_with fail
            go_roundw
            case rel => exact ⟨q + 1, _, _, by omega, by go_num, HT11.out⟩
            case measure => simp [intOf]; omega
        · have HRU := Lib.hid (HEND.out w8 (Below.refl _ _)).2
          clear HHX HEND
          go_wp2_with fail
          refine (HRU.out).mono ?_
          rintro e w9 ⟨u9, rfl, r9, _, b9⟩
          have HT10 := Lib.hid (HT8.out.below b9)
          have HTI := Lib.hid (tidy_any r9 HT8.out.st.tid)
          clear r9 b9 HRU f1 f2
          go_wp2_with fail
          refine (HTI.out).mono ?_
          rintro e w10 ⟨rfl, b10⟩
          have HT11 := Lib.hid (HT10.out.below b10)
          clear b10 HTI
          go_wp2_with fail
          go_roundw
          case rel => exact ⟨q + 1, _, _, by omega, by go_num, HT11.out⟩
          case measure => simp [intOf]; omega
    · obtain rfl : q = na := by omega
      have HRU := Lib.hid (Runs_any S.st)
      unfold ptr at HRU
      clear S
      go_wp2_with fail
      refine (HRU.out).mono ?_
      rintro e w3 ⟨u3, rfl, r3, o3, b3⟩
      have HS3 := Lib.hid (HS.out.below b3)
      have HNR := Lib.hid (newR r3 HS3.out.st.tid HS3.out.bel)
      clear r3 o3 b3 HRU
      go_wp2_with fail
      refine (HNR.out).mono ?_
      rintro e w4 ⟨xb, vx, rfl, SX, b4⟩
      have HX4 := Lib.hid SX
      have HS4 := Lib.hid (HS3.out.below b4)
      have HM1 := Lib.hid (Many_any HX4.out.st)
      unfold ptr at HM1 ⊢
      clear SX b4 HNR
      go_wp2_with fail
      refine (HM1.out).mono ?_
      rintro e w5 ⟨rfl, b5⟩
      have HX5 := Lib.hid (HX4.out.below b5)
      have HS5 := Lib.hid (HS4.out.below b5)
      have HM2 := Lib.hid (Many_any HS5.out.st)
      unfold ptr at HM2
      clear b5 HM1
      go_wp2_with fail
      refine (HM2.out).mono ?_
      rintro e w6 ⟨rfl, b6⟩
      have HX6 := Lib.hid (HX5.out.below b6)
      have HS6 := Lib.hid (HS5.out.below b6)
      have HR1 := Lib.hid (Runs_any HX6.out.st)
      unfold ptr at HR1
      clear b6 HM2
      go_wp2_with fail
      refine (HR1.out).mono ?_
      rintro e w7 ⟨u7, rfl, r7, _, b7⟩
      have HS7 := Lib.hid (HS6.out.below b7)
      obtain ⟨A7, c7, rfl, _, _⟩ := r7.slice
      have HR2 := Lib.hid (Runs_any HS7.out.st)
      unfold ptr at HR2
      clear r7 b7 HR1
      go_wp2_with fail
      refine (HR2.out).mono ?_
      rintro e w8 ⟨u8, rfl, r8, _, b8⟩
      have HS8 := Lib.hid (HS7.out.below b8)
      obtain ⟨A8, c8, rfl, _, _⟩ := r8.slice
      have HNX := Lib.hid (Next_any HS8.out.st HNI.out)
      unfold ptr at HNX
      clear r8 b8 HR2
      go_wp2_with fail
      refine (HNX.out).mono ?_
      rintro e w9 ⟨x, rfl, hx, b9⟩
      have HS9 := Lib.hid (HS8.out.below b9)
      obtain ⟨hx1, hx2, hx3, hx4⟩ := hx
      have HHA := Lib.hid (Has_any HS9.out.st hx4)
      unfold ptr at HHA
      have HX2 := Lib.hid hx2
      have HX3 := Lib.hid hx3
      have HX4' := Lib.hid hx4
      clear hx2 hx3 b9 HNX
      have hd1 : decide (max n 0 ≤ x) = true := decide_eq_true hx1
      go_wp2_with fail
      refine (HHA.out).mono ?_
      rintro e w10 ⟨b, rfl, hb, b10⟩
      obtain rfl : b = false := by
        cases b with
        | false => rfl
        | true => exact absurd (hb.1 rfl) HX2.out
      have HS10 := Lib.hid (HS9.out.below b10)
      clear hb b10 HHA
      by_cases he : x = max n 0
      · subst he
        go_wp2_with fail
        go_ret
        exact ⟨rfl, HS10.out.bel⟩
      · have hne : (x == max n 0) = false := by simpa using he
        have hxp : isI (x - 1) := by
          have h1 := HX4'.out
          unfold isI at *
          omega
        have hw : IntKind.i64.wrap (x - 1) = x - 1 := by
          rw [IntKind.wrap_i64]
          unfold isI at hxp
          omega
        have HHB := Lib.hid (Has_any HS10.out.st hxp)
        unfold ptr at HHB
        have hin := HX3.out (x - 1) (by omega) (by omega)
        have HIN := Lib.hid hin
        clear hin hxp hx4
        go_wp2_with fail
        refine (HHB.out).mono ?_
        rintro e w11 ⟨b, rfl, hb, b11⟩
        obtain rfl : b = true := hb.2 HIN.out
        have HS11 := Lib.hid (HS10.out.below b11)
        clear hb b11 HHB
        go_wp2_with fail
        go_ret
        exact ⟨rfl, HS11.out.bel⟩
end Go.Proofs.Yteiojdmnfjcagaa

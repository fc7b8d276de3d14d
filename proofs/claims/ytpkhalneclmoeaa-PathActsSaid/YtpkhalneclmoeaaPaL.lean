/- The law PathJoins. Conditions: the arguments are slices of bytes. -/
import Derived.Test.YtpkhalneclmoeaaPaK
import Derived.Test.YtpkhalneclmoeaaPaJ
import Derived.Deep.LoopGhost
namespace Go.Proofs.Ytpkhalneclmoeaa
set_option linter.unusedVariables false
set_option linter.unusedSimpArgs false
open Go.RowKit Go.Lib

theorem modU (x : UInt8) : ∃ k : Nat, k < 4 ∧ Int.tmod (x.toNat : Int) 4 = (k : Int) ∧ (x.toNat : Int) % 4 = (k : Int) ∧ IntKind.i64.wrap (x.toNat : Int) = (x.toNat : Int) ∧ IntKind.i64.wrap (k : Int) = (k : Int) := by
  have hx : x.toNat < 256 := x.toNat_lt
  refine ⟨x.toNat % 4, Nat.mod_lt _ (by decide), ?_, by omega, ?_, ?_⟩
  · rw [Int.tmod_eq_emod_of_nonneg (by omega)]
    omega
  · rw [IntKind.wrap_i64]
    omega
  · rw [IntKind.wrap_i64]
    omega

/-- The manager, in memory newer than W. -/
structure Jo (W w : World) (pb : Nat) (mo : Nat) (p : Pm) : Prop where
  st : St w pb p
  fit : p.Fit
  mo : p.mo = mo
  bl : Below W.heap.size W w
theorem Jo.did {W w w' : World} {pb mo : Nat} {p p' : Pm} (h : Jo W w pb mo p) (s : St w' pb p') (f : p'.Fit) (m : p'.mo = p.mo) (c : Ch w w' (fun k => k = pb)) (hg : W.heap.size ≤ pb) : Jo W w' pb mo p' :=
  ⟨s, f, m.trans h.mo, did_below h.bl c hg⟩
theorem Jo.below {W w w' : World} {pb mo : Nat} {p : Pm} (h : Jo W w pb mo p) (b : Below w.heap.size w w') : Jo W w' pb mo p := ⟨h.st.below b, h.fit, h.mo, h.bl.trans (b.mono h.bl.size)⟩

set_option maxHeartbeats 6400000 in
theorem Joins_any (A : Option Addr) (n c : Nat) (l : List UInt8) (A2 : Option Addr) (n2 c2 : Nat) (l2 : List UInt8) (m : Nat) (W : World) (hl : RB W A n c l) (hl2 : RB W A2 n2 c2 l2) (hm : m < 256) : Calls Try.prog 4 #[.slice A n c, .slice A2 n2 c2, .int .u8 (m : Int)] W (Held W) := by
  have HW := Lib.hid (wakes_any W)
  have HN := Lib.hid (fun w => new_good (i := 0) (j := 0) (by decide) (by decide) (m : Int) w)
  have HL := Lib.hid hl
  have HL2 := Lib.hid hl2
  have hcp := hl.cap
  have hmx := hl.max
  have hcp2 := hl2.cap
  have hmx2 := hl2.max
  have hwm : IntKind.i64.wrap (m : Int) = (m : Int) := by rw [IntKind.wrap_i64]; omega
  have HF := Lib.hid (fit_new (m : Int))
  have hme := most_eq (m : Int)
  have HME : Hid (1 ≤ most (m : Int) ∧ most (m : Int) ≤ 8) := Lib.hid (most_bd _)
  have HMO : Hid ((Pm.new 0 0 (most (m : Int))).mo = most (m : Int)) := Lib.hid rfl
  clear hl hl2 hm
  generalize Pm.new 0 0 (most (m : Int)) = p0 at *
  generalize most (m : Int) = mo at *
  unfold ptr at HN
  by_cases h20 : 20 < n
  · have h20' : (20 : Int) < (n : Int) := by omega
    go_enter Try.func4, Try.ntmps4
    go_wp2_with fail
    refine (HW.out).mono ?_
    rintro e w1 ⟨rfl, b1⟩
    have B1 := Lib.hid b1
    clear b1
    go_wp2_with fail
    go_ret
    exact ⟨rfl, B1.out⟩
  · by_cases h21 : 20 < n2
    · have h20' : ¬ (20 : Int) < (n : Int) := by omega
      have h21' : (20 : Int) < (n2 : Int) := by omega
      go_enter Try.func4, Try.ntmps4
      go_wp2_with fail
      refine (HW.out).mono ?_
      rintro e w1 ⟨rfl, b1⟩
      have B1 := Lib.hid b1
      clear b1
      go_wp2_with fail
      go_ret
      exact ⟨rfl, B1.out⟩
    · have h20' : ¬ (20 : Int) < (n : Int) := by omega
      have h21' : ¬ (20 : Int) < (n2 : Int) := by omega
      go_enter Try.func4, Try.ntmps4
      go_wp2_with fail
      refine (HW.out).mono ?_
      rintro e w1 ⟨rfl, b1⟩
      have B1 := Lib.hid b1
      clear b1
      go_wp2_with fail
      refine (HN.out _).mono ?_
      rintro e w2 ⟨pb, rfl, S2, b2, hg⟩
      have HJ2 : Hid (Jo W w2 pb mo p0) := Lib.hid ⟨S2, HF.out, HMO.out, B1.out.trans (b2.mono B1.out.size)⟩
      have HG : Hid (W.heap.size ≤ pb) := Lib.hid (Nat.le_trans B1.out.size hg)
      clear S2 b2 hg HN HW HF HMO
      go_wp2_with fail
      go_loopw [36] (fun ix wr => ∃ (q : Nat) (p : Pm), q ≤ n ∧ ix = .int .i64 (q : Int) ∧ Jo W wr pb mo p) (fun ix _ => n - (intOf ix).toNat)
      case atStart => exact ⟨0, p0, Nat.zero_le _, rfl, HJ2.out⟩
      case round =>
        obtain ⟨q, p, hq, rfl, hJ⟩ := hrel
        have HJ := Lib.hid hJ
        clear hJ HJ2
        by_cases hqn : q < n
        · have HQ := Lib.hid hqn
          obtain ⟨g, o, rfl, x0⟩ := (HL.out.below HJ.out.bl).at_ hqn
          obtain ⟨k, hk, e1, e2, e3, e4⟩ := modU (l.getD q 0)
          have HT := Lib.hid (tell_any HJ.out.st (k : Int))
          have HFT := Lib.hid (HJ.out.fit.tell hk)
          unfold ptr at HT
          clear hk
          generalize ((l.getD q 0).toNat : Int) = xz at *
          go_wp2_with fail
          refine (HT.out).mono ?_
          rintro e w3 ⟨rfl, S3, c3⟩
          have HJ3 := Lib.hid (HJ.out.did S3 HFT.out.1 HFT.out.2 c3 HG.out)
          clear S3 c3 HT HFT x0 e1 e2 e3 e4
          go_wp2_with fail
          go_roundw
          case rel => exact ⟨q + 1, _, HQ.out, by go_num, HJ3.out⟩
          case measure => have := HQ.out; simp [intOf]; omega
        · obtain rfl : q = n := by omega
          go_wp2_with fail
          clear hqn hq h20 h20' hcp
          go_loopw [48] (fun ix wr => ∃ (q : Nat) (p : Pm), q ≤ n2 ∧ ix = .int .i64 (q : Int) ∧ Jo W wr pb mo p) (fun ix _ => n2 - (intOf ix).toNat)
          case atStart => exact ⟨0, p, Nat.zero_le _, rfl, HJ.out⟩
          case round =>
            obtain ⟨r, p2, hr, rfl, hJ⟩ := hrel
            have HJ2 := Lib.hid hJ
            clear hJ HJ
            by_cases hrn : r < n2
            · have HR := Lib.hid hrn
              obtain ⟨g, o, rfl, x0⟩ := (HL2.out.below HJ2.out.bl).at_ hrn
              obtain ⟨k, hk, e1, e2, e3, e4⟩ := modU (l2.getD r 0)
              have HT := Lib.hid (told_any HJ2.out.st (k : Int))
              have HFT := Lib.hid (HJ2.out.fit.told hk)
              unfold ptr at HT
              clear hk
              generalize ((l2.getD r 0).toNat : Int) = xz at *
              go_wp2_with fail
              refine (HT.out).mono ?_
              rintro e w3 ⟨⟨v, rfl⟩, S3, c3⟩
              have HJ3 := Lib.hid (HJ2.out.did S3 HFT.out.1 HFT.out.2 c3 HG.out)
              clear S3 c3 HT HFT x0 e1 e2 e3 e4
              go_wp2_with fail
              go_roundw
              case rel => exact ⟨r + 1, _, HR.out, by go_num, HJ3.out⟩
              case measure => have := HR.out; simp [intOf]; omega
            · obtain rfl : r = n2 := by omega
              have HNX := Lib.hid (Next_any HJ2.out.st)
              unfold ptr pr at HNX
              clear hrn hr h21 h21' hcp2
              go_wp2_with fail
              refine (HNX.out).mono ?_
              rintro e w4 ⟨rfl, b4⟩
              have hb := below_a w4 (.cells #[.int .i64 p2.nxP.1, .int .i64 p2.nxP.2] 45)
              have HJ4 := Lib.hid ((HJ2.out.below b4).below hb)
              have HK4 := Lib.hid (Bk.new w4 45 [.int .i64 p2.nxP.1, .int .i64 p2.nxP.2])
              have HG4 : Hid (w4.heap.size ≠ pb ∧ W.heap.size ≤ w4.heap.size) := Lib.hid ⟨fun e => by have := (HJ2.out.below b4).st.lt; omega, (HJ2.out.below b4).bl.size⟩
              clear b4 hb HNX
              go_wp2_with fail
              generalize w4.alloc (.cells #[.int .i64 p2.nxP.1, .int .i64 p2.nxP.2] 45) = w5 at *
              generalize w4.heap.size = g4 at *
              go_loopg [13, 14] mo (fun kx s13 s14 wr => ∃ (p : Pm) (g : Nat), s13 = .pointer (some ⟨g, 0, none⟩) ∧ s14 = .bool p.nxB ∧ Jo W wr pb mo p ∧ mo - p.cnt ≤ kx ∧ Bk wr g 45 [.int .i64 p.nxP.1, .int .i64 p.nxP.2] ∧ g ≠ pb ∧ W.heap.size ≤ g)
              case atStart => exact ⟨p2, g4, rfl, rfl, HJ4.out, Nat.sub_le _ _, HK4.out, HG4.out.1, HG4.out.2⟩
              case round =>
                obtain ⟨p5, g, rfl, rfl, J5, hkx, K5, hg1, hg2⟩ := hrel
                have HJ5 := Lib.hid J5
                have HK5 := Lib.hid K5
                have HGG := Lib.hid (And.intro hg1 hg2)
                have HKX := Lib.hid hkx
                clear J5 K5 hg1 hg2 hkx HJ4 HK4 HG4
                cases hb : p5.nxB
                · have HB := Lib.hid hb
                  have HEN := Lib.hid (HJ5.out.fit.end_ hb)
                  have HP := Lib.hid (Pairs_any HJ5.out.st)
                  have HO := Lib.hid (fun w' (b : Below wr.heap.size wr w') => Own_any (HJ5.out.st.below b))
                  have HT := Lib.hid (fun w' (b : Below wr.heap.size wr w') => Other_any (HJ5.out.st.below b))
                  have HMM : Hid (p5.mo = mo) := Lib.hid HJ5.out.mo
                  have HCC : Hid ((prs p5.fl 16).length = p5.cnt) := Lib.hid rfl
                  have HA1 := Lib.hid (adr_len p5.ow 4)
                  have HA2 := Lib.hid (adr_len p5.ot 4)
                  clear hb
                  unfold ptr at HP HO HT
                  generalize prs p5.fl 16 = ps at *
                  generalize p5.cnt = ct at *
                  generalize adr p5.ow 4 = lo at *
                  generalize adr p5.ot 4 = lt at *
                  go_wp2_with fail
                  refine (HP.out).mono ?_
                  rintro e w6 ⟨A6, n6, c6, rfl, o6, b6⟩
                  have hn6 := own_pairs o6
                  obtain ⟨hn61, hn62, hn63⟩ := hn6
                  have HN6 : Hid (n6 = ct) := Lib.hid (hn61.symm.trans HCC.out)
                  have HO6 := Lib.hid (HO.out w6 b6)
                  have HT6 := Lib.hid (fun w' (b : Below w6.heap.size w6 w') => HT.out w' (b6.trans (b.mono b6.size)))
                  have HB6 := Lib.hid (HJ5.out.bl.trans (b6.mono HJ5.out.bl.size))
                  clear o6 b6 hn61 HP HO HT
                  go_wp2_with fail
                  refine (HO6.out).mono ?_
                  rintro e w7 ⟨A7, n7, c7, rfl, o7, b7⟩
                  obtain ⟨A7', c7', e7, r7, -⟩ := RI.of_own o7
                  have hn71 := r7.len
                  have hn72 := r7.cap
                  have hn73 := r7.max
                  obtain ⟨rfl, rfl⟩ : A7 = A7' ∧ c7 = c7' := by injection e7 with e1 _ e2; exact ⟨e1, e2⟩
                  have HN7 := Lib.hid hn71
                  have HT7 := Lib.hid (HT6.out w7 b7)
                  have HB7 := Lib.hid (HB6.out.trans (b7.mono HB6.out.size))
                  clear o7 b7 r7 e7 hn71 HO6 HT6
                  go_wp2_with fail
                  refine (HT7.out).mono ?_
                  rintro e w8 ⟨A8, n8, c8, rfl, o8, b8⟩
                  obtain ⟨A8', c8', e8, r8, -⟩ := RI.of_own o8
                  have hn81 := r8.len
                  have hn82 := r8.cap
                  have hn83 := r8.max
                  obtain ⟨rfl, rfl⟩ : A8 = A8' ∧ c8 = c8' := by injection e8 with e1 _ e2; exact ⟨e1, e2⟩
                  have HB8 := Lib.hid (HB7.out.trans (b8.mono HB7.out.size))
                  obtain ⟨pp, hpp⟩ : ∃ pp : Nat, pp = n7 * n8 := ⟨_, rfl⟩
                  have hp16 : pp ≤ 16 := by
                    rw [hpp]
                    exact Nat.mul_le_mul (show n7 ≤ 4 by have := HA1.out; have := HN7.out; omega) (show n8 ≤ 4 by have := HA2.out; omega)
                  have hpi : (n7 : Int) * (n8 : Int) = (pp : Int) := by rw [hpp]; exact (Int.natCast_mul _ _).symm
                  have hwp : IntKind.i64.wrap ((n7 : Int) * (n8 : Int)) = (pp : Int) := by rw [hpi, IntKind.wrap_i64]; omega
                  have hmn : min (mo : Int) (pp : Int) = (n6 : Int) := by
                    have h := HEN.out
                    rw [HMM.out, HN7.out, hn81, ← hpp] at h
                    have := HN6.out
                    omega
                  clear o8 b8 r8 e8 hn81 HT7 hpp hpi hp16
                  go_wp2_with fail
                  go_ret
                  exact ⟨rfl, HB8.out⟩
                · obtain ⟨i, j, hi, hj, hx, hE, hF, hct, hmo, hle⟩ := HJ5.out.fit.next hb
                  have k0 : wr.cell? ⟨g, 0, none⟩ = some (.int .i64 (i : Int)) := by rw [HK5.out.cell 0, hx]; rfl
                  have k1 : wr.cell? ⟨g, 1, none⟩ = some (.int .i64 (j : Int)) := by rw [HK5.out.cell 1, hx]; rfl
                  have HJN := Lib.hid (join_any HJ5.out.st (i : Int) (j : Int))
                  rw [hE] at HJN
                  have HB := Lib.hid hb
                  have HFF := Lib.hid (And.intro hF (And.intro hct (And.intro hmo hle)))
                  clear hE hF hct hmo hle hx hi hj hb
                  generalize p5.joinS (i : Int) (j : Int) = p6 at *
                  unfold ptr at HJN
                  go_wp2_with fail
                  refine (HJN.out).mono ?_
                  rintro e w6 ⟨rfl, S6, c6⟩
                  have HJ6 := Lib.hid (HJ5.out.did S6 HFF.out.1 HFF.out.2.2.1 c6 HG.out)
                  have k0 : w6.cell? ⟨g, 0, none⟩ = some (.int .i64 (i : Int)) := c6.cell k0 (fun e => HGG.out.1 e)
                  have k1 : w6.cell? ⟨g, 1, none⟩ = some (.int .i64 (j : Int)) := c6.cell k1 (fun e => HGG.out.1 e)
                  have hb7 := below_a w6 (.cells #[.int .i64 (i : Int), .int .i64 (j : Int)] 45)
                  have HJ7 := Lib.hid (HJ6.out.below hb7)
                  have HK7 := Lib.hid (Bk.new w6 45 [.int .i64 (i : Int), .int .i64 (j : Int)])
                  have HG7 : Hid (w6.heap.size ≠ pb ∧ W.heap.size ≤ w6.heap.size) := Lib.hid ⟨fun e => by have := HJ6.out.st.lt; omega, HJ6.out.bl.size⟩
                  have HNX := Lib.hid (Next_any HJ7.out.st)
                  clear S6 c6 hb7 HJN HK5
                  unfold ptr pr at HNX
                  go_wp2_with fail
                  refine (HNX.out).mono ?_
                  rintro e w8 ⟨rfl, b8⟩
                  have HJ8 := Lib.hid (HJ7.out.below b8)
                  have HK8 := Lib.hid (HK7.out.below b8)
                  have q0 := (HK8.out.cell 0).trans (show _ = some (Value.int .i64 (i : Int)) from rfl)
                  have q1 := (HK8.out.cell 1).trans (show _ = some (Value.int .i64 (j : Int)) from rfl)
                  have z0 := HK8.out.fz 0
                  have z1 := HK8.out.fz 1
                  have HK9 := Lib.hid ((HK8.out.set 0 (.int .i64 p6.nxP.1)).set 1 (.int .i64 p6.nxP.2))
                  have HJ9 : Hid (Jo W ((w8.setCell ⟨w6.heap.size, 0, none⟩ (.int .i64 p6.nxP.1)).setCell ⟨w6.heap.size, 1, none⟩ (.int .i64 p6.nxP.2)) pb mo p6) := Lib.hid
                    ⟨HJ8.out.st.ch ((ch_set (b := w6.heap.size)).then_ ch_set) (fun e => HG7.out.1 e.symm), HJ8.out.fit, HJ8.out.mo, (((Ch.of_below (fun k => k = w6.heap.size) HJ8.out.bl).then_ ch_set).then_ ch_set).below (fun k hk e => by have := HG7.out.2; omega)⟩
                  clear b8 HNX HK7 HJ7 k0 k1
                  generalize w6.heap.size = g7 at *
                  go_wp2_with fail
                  go_roundg (mo - p6.cnt)
                  case measure => have := HFF.out.2.1; have := HFF.out.2.2.2; have := HKX.out; have := HJ5.out.mo; omega
                  case rel => exact ⟨p6, g7, rfl, rfl, HJ9.out, Nat.le_refl _, HK9.out, HG7.out.1, HG7.out.2⟩
end Go.Proofs.Ytpkhalneclmoeaa

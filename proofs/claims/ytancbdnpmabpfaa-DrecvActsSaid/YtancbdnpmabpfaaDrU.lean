/- The document's Put, walked. Conditions: as in the text before it. -/
import Derived.Test.YtancbdnpmabpfaaDrT
namespace Go.Proofs.Ytancbdnpmabpfaa
set_option linter.unusedVariables false
set_option linter.unusedSimpArgs false
open Go.RowKit Go.Lib

theorem hits_le_n (d : Dr) (x : Int) : ∀ k : Nat, d.hits x k ≤ k
  | 0 => Nat.le_refl _
  | k + 1 => by
    have := hits_le_n d x k
    show d.hits x k + _ ≤ _
    split <;> omega
theorem hits_no {d : Dr} {x : Int} {k : Nat} (h : d.newAt (x + (k : Int)) = false) : d.hits x (k + 1) = d.hits x k := by
  show d.hits x k + _ = _
  rw [h]
  rfl
theorem hits_yes {d : Dr} {x : Int} {k : Nat} (h : d.newAt (x + (k : Int)) = true) : d.hits x (k + 1) = d.hits x k + 1 := by
  show d.hits x k + _ = _
  rw [h]
  rfl
def RPutP (base : Nat) (w : World) (xb : Nat) (y : Ry) (d : Dr) (x : Int) (b : List UInt8) (e : Ending) (w' : World) : Prop := e = .returned (.int .i64 (d.hits x b.length : Int)) ∧ ∃ y', LeftR base w xb y (d.put x b) w' y'
theorem putM_here {d : Dr} {x : Int} {b : List UInt8} {i j : Nat} (h : ((j + 1 : Nat) : Int) = x + (i : Int)) : d.putM x b i (j + 1) = d.M (j + 1) := by
  unfold Dr.putM
  rw [decide_eq_false (by omega), Bool.and_false]
  rfl
section
variable {W w w' : World} {xb : Nat} {y y' : Ry} {d d' : Dr}
set_option maxRecDepth 20000 in
set_option maxHeartbeats 12800000 in
theorem rput_any (H : Xv W w xb y d) (hok : d.ok) (ht : d.t ≤ 1000) {x : Int} (hx : -1000 ≤ x ∧ x ≤ 2147483648) {A : Option Addr} {n c : Nat} {b : List UInt8} (R : RB W A n c b) (hn : n ≤ 1000) : Calls Try.prog 14 #[ptr xb, .int .i64 x, .slice A n c] w (RPutP W.heap.size w xb y d x b) := by
  have h1 := hok.lo
  have h2 := hok.cap
  have h4 := hok.nx_le
  have hlen := R.len
  have HC := Lib.hid (And.intro h1 (And.intro h2 (And.intro h4 (And.intro ht (And.intro hn hlen)))))
  have HX := Lib.hid hx
  have HOK := Lib.hid hok
  have HH := Lib.hid H
  have HRB := Lib.hid R
  have hcc := R.cap
  have HRD : Hid (d.rd ≤ 33000) := Lib.hid (by omega)
  have HEB : Hid (d.bound = (if d.en = 0 then d.rd + 33 else d.en) ∧ (d.en ≠ 0 → d.en ≤ d.rd + 33)) := Lib.hid ⟨rfl, fun h => (hok.e1 h).2⟩
  obtain ⟨ed, hed⟩ : ∃ ed, ed = d.rd + 33 := ⟨_, rfl⟩
  have HED := Lib.hid hed
  clear H hok ht hx R hn h1 h2 h4 hlen hed
  unfold ptr at *
  go_enter Try.func14, Try.ntmps14
  go_wp2_with fail
  go_loopg [13] ed (fun kx s13 wr => ∃ y1 : Ry, ed - y1.li.length ≤ kx ∧ LeftR W.heap.size w xb y d wr y1)
  case atStart => exact ⟨y, by omega, LeftR.refl HH.out.s⟩
  case round =>
    obtain ⟨⟨av, iv, lb, li⟩, hkx, L1⟩ := hrel
    have HL1 := Lib.hid L1
    have HKX := Lib.hid hkx
    obtain ⟨iA, ic, hiv, hic, -⟩ := own_slice L1.s.i
    have hiv' : iv = .slice iA li.length ic := hiv
    subst hiv'
    have x1 : wr.cell? ⟨xb, 1, none⟩ = some (.slice iA li.length ic) := L1.s.cell 1
    have HE := Lib.hid (fun q => redge_any (L1.s.dn q) (by have := HRD.out; omega))
    rw [← HED.out] at HE
    have hcap : li.length ≤ ed := by have := L1.s.cap; have h2 : li.length ≤ d.rd + 33 := this; have := HED.out; omega
    have hlen1 : lb.length = li.length := L1.s.len
    have HXV := Lib.hid (HH.out.step L1)
    have HSTP := Lib.hid (fun (w5 : World) (b : Below wr.heap.size wr w5) => L1.after b)
    clear L1 hkx hiv hic
    generalize hln : li.length = ln at *
    have HLN := Lib.hid hln
    clear hln
    unfold ptr at *
    by_cases hlt : ln < ed
    · have hltI : (ln : Int) < (ed : Int) := by omega
      have HLT := Lib.hid hlt
      clear hlt
      go_upto_region 2 with (fail)
      go_quiet (first | (go_at_call 31; exact Calls.quiet_of_same (HE.out _)))
      have HL5 := Lib.hid (HSTP.out _ (below_dn (Below.refl _ _) nq))
      generalize wr.drewN nq = w5 at *
      have y1 : w5.cell? ⟨xb, 1, none⟩ = some (.slice iA ln ic) := by have h := HL5.out.s.cell 1; rw [show rcells (⟨av, .slice iA ln ic, lb, li⟩ : Ry) d.rd d.en = #[av, .slice iA ln ic, .int .i64 (d.rd : Int), .int .i64 (d.en : Int)] from rfl] at h; exact h
      have HOI : Hid ((w5.alloc (.cells #[.bool false] 4)).ownsRow W.heap.size 4 1 (.slice iA ln ic) ln (bo li)) := Lib.hid (by have h := HL5.out.s.i; rw [HLN.out] at h; exact own_below h (below_a w5 _))
      have HSRC := Lib.hid (rb_bool w5)
      have HB8 := Lib.hid (below_a w5 (.cells #[.bool false] 4))
      have HBS : Hid (W.heap.size ≤ w5.heap.size) := Lib.hid (Nat.le_trans HH.out.bel.size HL5.out.ch.size)
      have HLE : Hid (ln + 1 ≤ 1099511627776) := Lib.hid (by have := HLT.out; have := HED.out; have := HRD.out; omega)
      have HPD := Lib.hid (fun (w9 : World) (iv' : Value) (g9 : (w5.alloc (.cells #[.bool false] 4)).grownBy w9 (Value.slice iA ln ic).ownBlock) => HL5.out.s.pad0 (iv := iv') HB8.out g9)
      clear x1 HE HSTP
      go_upto_region 4 with (first
        | (at_builtin; refine wpList_appG rfl (.tmp 22) (.tmp 23) 51 4 rfl (.bool false) 1 1 Try.underlying51 infoBool rfl (by decide) (by decide) W.heap.size (.slice iA ln ic) ln (bo li) rfl HOI.out (some ⟨w5.heap.size, 0, none⟩) 1 1 (bo [false]) rfl HSRC.out HLE.out (by have := HBS.out; have := HB8.out.size; omega) ?_; intro v9 w9 o9 g9 h9; have HO9 := Lib.hid (And.intro o9 (And.intro g9 h9)); have z1 := (HPD.out w9 v9 g9).1; have zf := (HPD.out w9 v9 g9).2.1; obtain ⟨A9, k9, rfl, -, -⟩ := own_slice o9; clear o9 g9 h9))
      obtain ⟨w10, hw10⟩ : ∃ w10, w10 = w9.setCell ⟨xb, 1, none⟩ (.slice A9 (ln + 1) k9) := ⟨_, rfl⟩
      have HW10 := Lib.hid hw10
      have HP := Lib.hid ((HPD.out w9 (.slice A9 (ln + 1) k9) HO9.out.2.1).2.2.2 w10 hw10)
      rw [← hw10]
      clear hw10 z1 zf y1 HPD HOI HSRC
      obtain ⟨aA, ac, hav, -, -⟩ := own_slice HP.out.2.2.1
      have hav' : av = .slice aA ln ac := by have h : av = .slice aA lb.length ac := hav; rw [hlen1] at h; exact h
      subst hav'
      have u0 : w10.cell? ⟨xb, 0, none⟩ = some (.slice aA ln ac) := HP.out.1
      have uf : w10.frozen? ⟨xb, 0, none⟩ = false := HP.out.2.1
      have HB11 := Lib.hid (below_a w10 (.cells #[.int .u8 0] 5))
      have HOB : Hid ((w10.alloc (.cells #[.int .u8 0] 5)).ownsRow W.heap.size 5 1 (.slice aA ln ac) ln (bv lb)) := Lib.hid (by have h := HP.out.2.2.1; have h2 : w10.ownsRow W.heap.size 5 1 (.slice aA ln ac) lb.length (bv lb) := h; rw [hlen1] at h2; exact own_below h2 HB11.out)
      have HR11 : Hid (RB (w10.alloc (.cells #[.int .u8 0] 5)) (some ⟨w10.heap.size, 0, none⟩) 1 1 [0]) := Lib.hid (RB.lit1 w10 0 0 5 rfl)
      have HBS10 : Hid (W.heap.size ≤ (w10.alloc (.cells #[.int .u8 0] 5)).heap.size) := Lib.hid (by have := HBS.out; have := HP.out.2.2.2; have := HB11.out.size; omega)
      have v0 := keepc HB11.out u0
      have HNX : Hid (some xb ≠ (Value.slice aA ln ac).ownBlock ∧ xb < w10.heap.size) := Lib.hid ⟨fun e => HL5.out.s.apart.1 e.symm, World.block_lt_of_cell? _ _ u0⟩
      clear hav
      go_wp2_with (first
        | (at_builtin; refine wpList_app _ rfl (.tmp 31) (.tmp 32) 28 5 rfl undByte infoByte W.heap.size (.slice aA ln ac) ln lb rfl HOB.out (some ⟨w10.heap.size, 0, none⟩) 1 1 [0] rfl HR11.out HLE.out HBS10.out ?_; intro v12 w12 o12 g12 h12; have HO12 := Lib.hid (And.intro o12 (And.intro g12 h12)); have z0 : w12.cell? ⟨xb, 0, none⟩ = some (.slice aA ln ac) := g12.cell v0 HNX.out.1; have zf : w12.frozen? ⟨xb, 0, none⟩ = false := (World.frozen?_of_block (g12.block xb (Nat.lt_of_lt_of_le HNX.out.2 HB11.out.size) HNX.out.1)).trans ((World.frozen?_of_block (HB11.out.block xb HNX.out.2)).trans uf); obtain ⟨A12, k12, rfl, -, -⟩ := own_slice o12; clear o12 g12 h12))
      have HS := Lib.hid (HL5.out.s.pad (by have := HLT.out; have := HED.out; have := HLN.out; show li.length < d.rd + 33; omega) (iv := .slice A9 (ln + 1) k9) (av := .slice A12 (ln + 1) k12) HB8.out (by show World.ownsRow _ _ _ _ _ (li.length + 1) _; rw [HLN.out]; exact HO9.out.1) HO9.out.2.1 HO9.out.2.2 HW10.out HB11.out (by show World.ownsRow _ _ _ _ _ (lb.length + 1) _; rw [hlen1]; exact HO12.out.1) HO12.out.2.1 HO12.out.2.2 rfl)
      go_roundg (ed - (ln + 1))
      case measure => have := HLT.out; have := HKX.out; omega
      case rel => exact ⟨_, by show ed - (li ++ [false]).length ≤ _; rw [List.length_append, HLN.out]; exact Nat.le_refl _, HL5.out.then_ ⟨HS.out.1, HS.out.2.1, HS.out.2.2⟩⟩
    · obtain rfl : ln = ed := by omega
      have hltI : ¬ (ln : Int) < (ln : Int) := by omega
      have hxx : ¬ x < -1000 := by have := HX.out; omega
      clear hlt hcap
      go_upto_region 2 with (fail)
      go_quiet (first | (go_at_call 31; exact Calls.quiet_of_same (HE.out _)))
      have HL5 := Lib.hid (HSTP.out _ (below_dn (Below.refl _ _) nq))
      generalize wr.drewN nq = w5 at *
      have hl1 : 0 < li.length := by have := HED.out; have := HLN.out; omega
      obtain ⟨ig, ic2, hiv2, -, hic2, hic3, -, -, -⟩ := own_bool HL5.out.s.i (j := 0) hl1
      have hiv3 : Value.slice iA ln ic = .slice (some ⟨ig, 0, none⟩) li.length ic2 := hiv2
      injection hiv3 with e1 e2 e3
      subst e1
      subst e3
      obtain ⟨ag, ac, hav, -, hac1, hac2, -, -⟩ := own_at HL5.out.s.b (j := 0) (by show 0 < lb.length; omega)
      have hav' : av = .slice (some ⟨ag, 0, none⟩) ln ac := by have h : av = .slice (some ⟨ag, 0, none⟩) lb.length ac := hav; rw [hlen1] at h; exact h
      subst hav'
      have hlnc : ln ≤ ic := by rw [HLN.out] at hic2; exact hic2
      have hlna : ln ≤ ac := by have h : lb.length ≤ ac := hac2; omega
      clear HE HSTP x1 hiv2 hav hic2 hic3 hac1 hac2 e2 hl1
      go_wp2_with fail
      go_loopw [7, 8] (fun mx ix wr => ∃ (i : Nat) (lb2 : List UInt8) (li2 : List Bool), mx = .int .i64 (d.hits x i : Int) ∧ ix = .int .i64 (i : Int) ∧ i ≤ n ∧ li2.length = ln ∧ LeftR W.heap.size w xb y { d with M := d.putM x b i } wr ⟨.slice (some ⟨ag, 0, none⟩) ln ac, .slice (some ⟨ig, 0, none⟩) ln ic, lb2, li2⟩) (fun _ ix _ => n - (intOf ix).toNat)
      case atStart => exact ⟨0, lb, li, rfl, rfl, Nat.zero_le _, HLN.out, by rw [Dr.putM_zero]; exact HL5.out⟩
      case round =>
        obtain ⟨i, lb2, li2, rfl, rfl, hin, hl2, L2⟩ := hrel
        have HL2 := Lib.hid L2
        have HLI2 := Lib.hid hl2
        have HIN := Lib.hid hin
        have hlb2 : lb2.length = ln := by have h := L2.s.len; have h2 : lb2.length = li2.length := h; omega
        have HLB2 := Lib.hid hlb2
        clear hl2 hin hlb2
        by_cases hi : i < n
        · have hiI : (i : Int) < (n : Int) := by omega
          have HI := Lib.hid hi
          obtain ⟨v, hv⟩ : ∃ v, v = x + (i : Int) := ⟨_, rfl⟩
          have hwv : IntKind.i64.wrap (x + (i : Int)) = v := by have := HX.out; have := HC.out; rw [IntKind.wrap_i64]; omega
          have HV := Lib.hid hv
          have hwi : IntKind.i64.wrap ((i : Int) + 1) = ((i + 1 : Nat) : Int) := by have := HC.out; rw [IntKind.wrap_i64]; omega
          obtain ⟨i1, hi1⟩ : ∃ i1, i1 = i + 1 := ⟨_, rfl⟩
          rw [← hi1] at hwi
          have HI1 := Lib.hid hi1
          have x3 : wr.cell? ⟨xb, 3, none⟩ = some (.int .i64 (d.en : Int)) := L2.s.cell 3
          have x1 : wr.cell? ⟨xb, 1, none⟩ = some (.slice (some ⟨ig, 0, none⟩) ln ic) := L2.s.cell 1
          have x0 : wr.cell? ⟨xb, 0, none⟩ = some (.slice (some ⟨ag, 0, none⟩) ln ac) := L2.s.cell 0
          have HE9 := Lib.hid (redge_any L2.s (by have := HRD.out; show d.rd ≤ 100000; omega))
          have HE9 : Hid (Calls Try.prog 31 #[.pointer (some ⟨xb, 0, none⟩)] wr fun e w' => e = .returned (.int .i64 (ln : Int)) ∧ w' = wr) := Lib.hid (by have h := HE9.out; rw [HED.out]; exact h)
          have HNO : Hid (d.newAt v = false → d.hits x i1 = d.hits x i ∧ LeftR W.heap.size w xb y { d with M := d.putM x b i1 } wr ⟨.slice (some ⟨ag, 0, none⟩) ln ac, .slice (some ⟨ig, 0, none⟩) ln ic, lb2, li2⟩) := Lib.hid (fun h => by
            rw [HV.out] at h
            rw [HI1.out]
            refine ⟨hits_no h, ?_⟩
            rw [Dr.putM_no h]
            exact HL2.out)
          have HNF : Hid ((¬ (1 ≤ v ∧ v < (d.bound : Int) ∧ d.M v.toNat = none)) → d.newAt v = false) := Lib.hid (fun h => by
            cases hc : d.newAt v with
            | false => rfl
            | true => exact absurd (Dr.newAt_iff.1 hc) h)
          clear L2 hi hv hi1
          by_cases c1 : v < 1
          · have c1b : decide (v < 1) = true := decide_eq_true c1
            have HN := Lib.hid (HNO.out (HNF.out (fun h => by omega)))
            clear x0 x1 x3 HE9
            go_wp2_with fail
            go_roundw
            case rel => exact ⟨i + 1, lb2, li2, by rw [← HI1.out, HN.out.1], by rw [HI1.out], by have := HI.out; omega, HLI2.out, by rw [← HI1.out]; exact HN.out.2⟩
            case measure =>
              show n - (i1 : Int).toNat < n - (i : Int).toNat
              have := HI.out
              have := HI1.out
              omega
          · have c1b : decide (v < 1) = false := decide_eq_false c1
            by_cases c2 : (ln : Int) ≤ v
            · have c2b : decide ((ln : Int) ≤ v) = true := decide_eq_true c2
              have HN := Lib.hid (HNO.out (HNF.out (fun h => by
                obtain ⟨e1, e2⟩ := HEB.out
                have := HED.out
                by_cases h0 : d.en = 0
                · rw [if_pos h0] at e1
                  omega
                · rw [if_neg h0] at e1
                  have := e2 h0
                  omega)))
              clear x0 x1 x3
              go_wp2_with fail
              refine (HE9.out).mono ?_
              rintro e w9 ⟨rfl, hw9⟩
              subst hw9
              go_wp2_with fail
              go_roundw
              case rel => exact ⟨i + 1, lb2, li2, by rw [← HI1.out, HN.out.1], by rw [HI1.out], by have := HI.out; omega, HLI2.out, by rw [← HI1.out]; exact HN.out.2⟩
              case measure =>
                show n - (i1 : Int).toNat < n - (i : Int).toNat
                have := HI.out
                have := HI1.out
                omega
            · have c2b : decide ((ln : Int) ≤ v) = false := decide_eq_false c2
              obtain ⟨j, hj⟩ : ∃ j : Nat, ((j + 1 : Nat) : Int) = v := ⟨(v - 1).toNat, by omega⟩
              have hjl : j < ln := by omega
              have hjlI : (j : Int) < (ln : Int) := by omega
              have hwj : IntKind.i64.wrap (v - 1) = (j : Int) := by have := HED.out; have := HRD.out; rw [IntKind.wrap_i64]; omega
              have HJ := Lib.hid hj
              have hvt : v.toNat = j + 1 := by omega
              have HVT := Lib.hid hvt
              have hig : wr.cell? ⟨ig, j, none⟩ = some (.bool (inM d.M (j + 1))) := by
                obtain ⟨g', cap', hv', -, -, -, xj', -, -⟩ := own_bool HL2.out.s.i (j := j) (by show j < li2.length; have := HLI2.out; omega)
                have e : Value.slice (some ⟨ig, 0, none⟩) ln ic = .slice (some ⟨g', 0, none⟩) li2.length cap' := hv'
                injection e with e1 e2 e3
                injection e1 with e1
                injection e1 with e1
                subst e1
                have hri := HL2.out.s.ri j (by show j < li2.length; have := HLI2.out; omega)
                have hri' : li2.getD j false = inM (d.putM x b i) (j + 1) := hri
                have xj2 : wr.cell? ⟨ig, j, none⟩ = some (.bool (li2.getD j false)) := xj'
                rw [xj2, hri']
                unfold inM
                rw [putM_here (by rw [HJ.out, HV.out])]
              have higf : wr.frozen? ⟨ig, j, none⟩ = false := by
                obtain ⟨g', cap', hv', -, -, -, -, xf', -⟩ := own_bool HL2.out.s.i (j := j) (by show j < li2.length; have := HLI2.out; omega)
                have e : Value.slice (some ⟨ig, 0, none⟩) ln ic = .slice (some ⟨g', 0, none⟩) li2.length cap' := hv'
                injection e with e1 e2 e3
                injection e1 with e1
                injection e1 with e1
                subst e1
                exact xf' j
              clear hj hvt
              by_cases h0 : d.en = 0
              · rw [h0] at x3
                have x3 : wr.cell? ⟨xb, 3, none⟩ = some (.int .i64 0) := x3
                have HBD : Hid (d.bound = ln) := Lib.hid (by rw [HEB.out.1, if_pos h0, HED.out])
                clear h0
                have HBV : Hid (v < (d.bound : Int)) := Lib.hid (by have := HBD.out; omega)
                cases hM : d.M (j + 1) with
                | some bb =>
                  have hMs : inM d.M (j + 1) = true := by unfold inM; rw [hM]; rfl
                  rw [hMs] at hig
                  have HN := Lib.hid (HNO.out (HNF.out (fun h => by have := h.2.2; rw [HVT.out, hM] at this; cases this)))
                  clear hMs hM x0
                  go_wp2_with fail
                  refine (HE9.out).mono ?_
                  rintro e w9 ⟨rfl, hw9⟩
                  subst hw9
                  go_wp2_with fail
                  go_roundw
                  case rel => exact ⟨i + 1, lb2, li2, by rw [← HI1.out, HN.out.1], by rw [HI1.out], by have := HI.out; omega, HLI2.out, by rw [← HI1.out]; exact HN.out.2⟩
                  case measure =>
                    show n - (i1 : Int).toNat < n - (i : Int).toNat
                    have := HI.out
                    have := HI1.out
                    omega
                | none =>
                  have hMs : inM d.M (j + 1) = false := by unfold inM; rw [hM]; rfl
                  rw [hMs] at hig
                  have hnew : d.newAt v = true := Dr.newAt_iff.2 ⟨by omega, HBV.out, by rw [HVT.out]; exact hM⟩
                  have HNW := Lib.hid hnew
                  obtain ⟨bg, bo', rfl, xb0⟩ := (HRB.out.below (HH.out.step HL2.out).bel).at_ (j := i) HI.out
                  have HBG : Hid (bg < W.heap.size) := Lib.hid (by
                    obtain ⟨b', o', e, hc⟩ := HRB.out.at_ (j := i) HI.out
                    injection e with e
                    injection e with e1 e2
                    rw [e1]
                    exact World.block_lt_of_cell? _ _ hc)
                  have hpy : d.putM x b (i + 1) = fun k => if k = j + 1 then some (b.getD i 0) else d.putM x b i k := by
                    have h := HNW.out
                    rw [HV.out] at h
                    have h2 := Dr.putM_yes (b := b) h
                    rw [← HV.out, HVT.out] at h2
                    exact h2
                  have HPY := Lib.hid hpy
                  generalize hbt : b.getD i 0 = bt at *
                  have HBT := Lib.hid hbt
                  have HP0 := Lib.hid (HL2.out.s.put0 (j := j) (ig := ig) (ag := ag) (ic := ic) (ac := ac) (by show Value.slice _ ln ic = .slice _ li2.length ic; rw [HLI2.out]) (by show Value.slice _ ln ac = .slice _ lb2.length ac; rw [HLB2.out]) (by show j < lb2.length; have := HLB2.out; omega) _ rfl)
                  have HP1 := Lib.hid (HL2.out.s.put1 (j := j) (ig := ig) (ag := ag) (ic := ic) (ac := ac) (by show Value.slice _ ln ic = .slice _ li2.length ic; rw [HLI2.out]) (by show Value.slice _ ln ac = .slice _ lb2.length ac; rw [HLB2.out]) (by show j < li2.length; have := HLI2.out; omega) bt HPY.out)
                  have hwm : IntKind.i64.wrap ((d.hits x i : Int) + 1) = (d.hits x i1 : Int) := by
                    have h1 := hits_le_n d x i
                    have h2 := HC.out
                    have h3 := HI.out
                    have h4 := HNW.out
                    rw [HV.out] at h4
                    rw [HI1.out, hits_yes h4, IntKind.wrap_i64]
                    omega
                  have HBX : Hid ((wr.setCell ⟨ig, j, none⟩ (.bool true)).cell? ⟨bg, bo' + i, none⟩ = some (.int .u8 (bt.toNat : Int))) := Lib.hid (by
                    have c : Ch wr (wr.setCell ⟨ig, j, none⟩ (.bool true)) (fun k => k = ig) := Ch.setCell (m := fun k => k = ig) (Ch.refl wr _) (fun _ => rfl) _
                    refine c.cell xb0 (fun e => ?_)
                    have e' : bg = ig := e
                    have := (HL2.out.s.in_ (k := ig) (.inr (.inr rfl))).1
                    have := HBG.out
                    omega)
                  clear hnew hpy hbt hM hMs xb0
                  go_wp2_with fail
                  refine (HE9.out).mono ?_
                  rintro e w9 ⟨rfl, hw9⟩
                  subst hw9
                  go_upto_region 13 with (fail)
                  have z0 : (w9.setCell ⟨ig, j, none⟩ (.bool true)).cell? ⟨xb, 0, none⟩ = some (.slice (some ⟨ag, 0, none⟩) ln ac) := by have h := HP0.out.1; have h2 : (w9.setCell ⟨ig, j, none⟩ (.bool true)).cell? ⟨xb, 0, none⟩ = some (.slice (some ⟨ag, 0, none⟩) lb2.length ac) := h; rw [HLB2.out] at h2; exact h2
                  have zb := HBX.out
                  obtain ⟨u, zu⟩ := HP0.out.2.1
                  have zu' : (w9.setCell ⟨ig, j, none⟩ (.bool true)).cell? ⟨ag, j, none⟩ = some (.int .u8 u) := zu
                  have zf : (w9.setCell ⟨ig, j, none⟩ (.bool true)).frozen? ⟨ag, j, none⟩ = false := HP0.out.2.2.1
                  clear x0 x1 x3 hig higf HBX HP0 zu
                  generalize w9.setCell ⟨ig, j, none⟩ (.bool true) = w5 at *
                  go_still_tail 11, (by kernel_rfl)
                  change wpList _ _ _ _ _ w5.drew
                  have q0 : w5.drew.cell? ⟨ag, j, none⟩ = some (.int .u8 u) := zu'
                  have qf : w5.drew.frozen? ⟨ag, j, none⟩ = false := zf
                  clear z0 zb zu' zf
                  generalize w5.drew = w6 at *
                  go_wp2_with fail
                  go_roundw
                  case rel => exact ⟨i + 1, _, _, by rw [HI1.out], by rw [HI1.out], by have := HI.out; omega, by show (li2.set j true).length = ln; rw [List.length_set]; exact HLI2.out, ⟨HP1.out.1, (HL2.out.ch).trans HP1.out.2 (fun _ _ h => h) (fun k hk h => (HL2.out.new k h).elim id (fun q => absurd hk (by omega))), HL2.out.new⟩⟩
                  case measure =>
                    show n - (i1 : Int).toNat < n - (i : Int).toNat
                    have := HI.out
                    have := HI1.out
                    omega
              · have g0 : (0 : Int) < (d.en : Int) := by omega
                have g0b : decide ((0 : Int) < (d.en : Int)) = true := decide_eq_true g0
                have HBD : Hid (d.bound = d.en) := Lib.hid (by rw [HEB.out.1, if_neg h0])
                by_cases c3 : (d.en : Int) ≤ v
                · have c3b : decide ((d.en : Int) ≤ v) = true := decide_eq_true c3
                  have HN := Lib.hid (HNO.out (HNF.out (fun h => by have := HBD.out; omega)))
                  clear x0 x1 hig higf
                  generalize (d.en : Int) = E at *
                  go_wp2_with fail
                  refine (HE9.out).mono ?_
                  rintro e w9 ⟨rfl, hw9⟩
                  subst hw9
                  go_wp2_with fail
                  go_roundw
                  case rel => exact ⟨i + 1, lb2, li2, by rw [← HI1.out, HN.out.1], by rw [HI1.out], by have := HI.out; omega, HLI2.out, by rw [← HI1.out]; exact HN.out.2⟩
                  case measure =>
                    show n - (i1 : Int).toNat < n - (i : Int).toNat
                    have := HI.out
                    have := HI1.out
                    omega
                · have c3b : decide ((d.en : Int) ≤ v) = false := decide_eq_false c3
                  have HBV : Hid (v < (d.bound : Int)) := Lib.hid (by have := HBD.out; omega)
                  generalize (d.en : Int) = E at *
                  clear h0
                  cases hM : d.M (j + 1) with
                  | some bb =>
                    have hMs : inM d.M (j + 1) = true := by unfold inM; rw [hM]; rfl
                    rw [hMs] at hig
                    have HN := Lib.hid (HNO.out (HNF.out (fun h => by have := h.2.2; rw [HVT.out, hM] at this; cases this)))
                    clear hMs hM x0
                    go_wp2_with fail
                    refine (HE9.out).mono ?_
                    rintro e w9 ⟨rfl, hw9⟩
                    subst hw9
                    go_wp2_with fail
                    go_roundw
                    case rel => exact ⟨i + 1, lb2, li2, by rw [← HI1.out, HN.out.1], by rw [HI1.out], by have := HI.out; omega, HLI2.out, by rw [← HI1.out]; exact HN.out.2⟩
                    case measure =>
                      show n - (i1 : Int).toNat < n - (i : Int).toNat
                      have := HI.out
                      have := HI1.out
                      omega
                  | none =>
                    have hMs : inM d.M (j + 1) = false := by unfold inM; rw [hM]; rfl
                    rw [hMs] at hig
                    have hnew : d.newAt v = true := Dr.newAt_iff.2 ⟨by omega, HBV.out, by rw [HVT.out]; exact hM⟩
                    have HNW := Lib.hid hnew
                    obtain ⟨bg, bo', rfl, xb0⟩ := (HRB.out.below (HH.out.step HL2.out).bel).at_ (j := i) HI.out
                    have HBG : Hid (bg < W.heap.size) := Lib.hid (by
                      obtain ⟨b', o', e, hc⟩ := HRB.out.at_ (j := i) HI.out
                      injection e with e
                      injection e with e1 e2
                      rw [e1]
                      exact World.block_lt_of_cell? _ _ hc)
                    have hpy : d.putM x b (i + 1) = fun k => if k = j + 1 then some (b.getD i 0) else d.putM x b i k := by
                      have h := HNW.out
                      rw [HV.out] at h
                      have h2 := Dr.putM_yes (b := b) h
                      rw [← HV.out, HVT.out] at h2
                      exact h2
                    have HPY := Lib.hid hpy
                    generalize hbt : b.getD i 0 = bt at *
                    have HBT := Lib.hid hbt
                    have HP0 := Lib.hid (HL2.out.s.put0 (j := j) (ig := ig) (ag := ag) (ic := ic) (ac := ac) (by show Value.slice _ ln ic = .slice _ li2.length ic; rw [HLI2.out]) (by show Value.slice _ ln ac = .slice _ lb2.length ac; rw [HLB2.out]) (by show j < lb2.length; have := HLB2.out; omega) _ rfl)
                    have HP1 := Lib.hid (HL2.out.s.put1 (j := j) (ig := ig) (ag := ag) (ic := ic) (ac := ac) (by show Value.slice _ ln ic = .slice _ li2.length ic; rw [HLI2.out]) (by show Value.slice _ ln ac = .slice _ lb2.length ac; rw [HLB2.out]) (by show j < li2.length; have := HLI2.out; omega) bt HPY.out)
                    have hwm : IntKind.i64.wrap ((d.hits x i : Int) + 1) = (d.hits x i1 : Int) := by
                      have h1 := hits_le_n d x i
                      have h2 := HC.out
                      have h3 := HI.out
                      have h4 := HNW.out
                      rw [HV.out] at h4
                      rw [HI1.out, hits_yes h4, IntKind.wrap_i64]
                      omega
                    have HBX : Hid ((wr.setCell ⟨ig, j, none⟩ (.bool true)).cell? ⟨bg, bo' + i, none⟩ = some (.int .u8 (bt.toNat : Int))) := Lib.hid (by
                      have c : Ch wr (wr.setCell ⟨ig, j, none⟩ (.bool true)) (fun k => k = ig) := Ch.setCell (m := fun k => k = ig) (Ch.refl wr _) (fun _ => rfl) _
                      refine c.cell xb0 (fun e => ?_)
                      have e' : bg = ig := e
                      have := (HL2.out.s.in_ (k := ig) (.inr (.inr rfl))).1
                      have := HBG.out
                      omega)
                    clear hnew hpy hbt hM hMs xb0
                    go_wp2_with fail
                    refine (HE9.out).mono ?_
                    rintro e w9 ⟨rfl, hw9⟩
                    subst hw9
                    go_upto_region 13 with (fail)
                    have z0 : (w9.setCell ⟨ig, j, none⟩ (.bool true)).cell? ⟨xb, 0, none⟩ = some (.slice (some ⟨ag, 0, none⟩) ln ac) := by have h := HP0.out.1; have h2 : (w9.setCell ⟨ig, j, none⟩ (.bool true)).cell? ⟨xb, 0, none⟩ = some (.slice (some ⟨ag, 0, none⟩) lb2.length ac) := h; rw [HLB2.out] at h2; exact h2
                    have zb := HBX.out
                    obtain ⟨u, zu⟩ := HP0.out.2.1
                    have zu' : (w9.setCell ⟨ig, j, none⟩ (.bool true)).cell? ⟨ag, j, none⟩ = some (.int .u8 u) := zu
                    have zf : (w9.setCell ⟨ig, j, none⟩ (.bool true)).frozen? ⟨ag, j, none⟩ = false := HP0.out.2.2.1
                    clear x0 x1 x3 hig higf HBX HP0 zu
                    generalize w9.setCell ⟨ig, j, none⟩ (.bool true) = w5 at *
                    go_still_tail 11, (by kernel_rfl)
                    change wpList _ _ _ _ _ w5.drew
                    have q0 : w5.drew.cell? ⟨ag, j, none⟩ = some (.int .u8 u) := zu'
                    have qf : w5.drew.frozen? ⟨ag, j, none⟩ = false := zf
                    clear z0 zb zu' zf
                    generalize w5.drew = w6 at *
                    go_wp2_with fail
                    go_roundw
                    case rel => exact ⟨i + 1, _, _, by rw [HI1.out], by rw [HI1.out], by have := HI.out; omega, by show (li2.set j true).length = ln; rw [List.length_set]; exact HLI2.out, ⟨HP1.out.1, (HL2.out.ch).trans HP1.out.2 (fun _ _ h => h) (fun k hk h => (HL2.out.new k h).elim id (fun q => absurd hk (by omega))), HL2.out.new⟩⟩
                    case measure =>
                      show n - (i1 : Int).toNat < n - (i : Int).toNat
                      have := HI.out
                      have := HI1.out
                      omega
        · obtain rfl : i = n := by have := HIN.out; omega
          have hiI : ¬ (i : Int) < (i : Int) := by omega
          have HF : Hid (RPutP W.heap.size w xb y d x b (.returned (.int .i64 (d.hits x i : Int))) wr) := Lib.hid (by
            have hb : b.length = i := HC.out.2.2.2.2.2
            have h := HL2.out
            rw [← hb] at h ⊢
            exact ⟨rfl, _, ⟨h.s, h.ch, h.new⟩⟩)
          clear L2 hi
          go_wp2_with fail
          go_ret
          exact HF.out
end
end Go.Proofs.Ytancbdnpmabpfaa

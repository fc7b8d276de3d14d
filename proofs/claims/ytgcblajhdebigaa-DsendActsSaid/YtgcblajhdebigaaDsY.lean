/- The document's Take. Conditions: its sender stands, with at most 10^9 data in all. -/
import Derived.Test.YtgcblajhdebigaaDsX
import Derived.Deep.LoopGhost
namespace Go.Proofs.Ytgcblajhdebigaa
set_option linter.unusedVariables false
set_option linter.unusedSimpArgs false
open Go.RowKit Go.Lib

def RTakeP (base : Nat) (w : World) (xb : Nat) (y : Ry) (d : Dq) (M : Nat) (e : Ending) (w' : World) : Prop :=
  ∃ v y', e = .returned (.agg #[.int .i64 (d.dsn M : Int), v]) ∧ (∃ A c, v = .slice A (d.most M) c ∧ RB w' A (d.most M) c (d.got M)) ∧ LeftR base w xb y (d.take M) w' y'
section
variable {base : Nat} {w wr : World} {xb : Nat} {y : Ry} {r tb : Nat} {d : Dq} {lb : List Bool} {M n i dn : Nat} {v : Value}
/-- What is gathered behind i. -/
def Dq.pre (d : Dq) (i : Nat) : List UInt8 := (d.all.drop (d.from_ - 1)).take i
theorem pre_len (hok : d.ok) (h : d.from_ + i ≤ d.fin) : (d.pre i).length = i := by
  have h1 := hok.from_.1
  have h2 := hok.u1
  unfold Dq.fin at h
  unfold Dq.pre
  rw [List.length_take, List.length_drop]
  omega
theorem run_fin (h : d.At M n i) (hok : d.ok) : d.from_ + i ≤ d.fin := by
  have h1 := h.hi
  have h2 := hok.ne
  have h3 := hok.from_.2.1
  rcases Nat.eq_zero_or_pos i with h0 | h0
  · omega
  · have := h.eq h0
    omega
theorem lost_done (h : Tk base w wr xb y r tb (d.cutL i) lb dn v (d.pre i)) (hdn : dn = if i = 0 then 0 else d.from_) (ha : d.At M n i) (hok : d.ok) (h0 : 0 < i) (he : i = M ∨ d.L n = false) :
    ((wr.setCell ⟨r, 0, none⟩ (.int .i64 (dn : Int))).setCell ⟨r, 1, none⟩ v).rangeAt r 0 [.int .i64 (dn : Int), v] ∧ RTakeP base w xb y d M (.returned (.agg #[.int .i64 (dn : Int), v])) ((wr.setCell ⟨r, 0, none⟩ (.int .i64 (dn : Int))).setCell ⟨r, 1, none⟩ v) := by
  obtain ⟨q1, q2, A, c, q3, q4⟩ := h.fin_
  obtain ⟨m1, m2, m3⟩ := At.done ha hok h0 he
  rw [pre_len hok (run_fin ha hok)] at q3 q4
  have hg : d.got M = d.pre i := by unfold Dq.got Dq.pre; rw [m1]
  refine ⟨q1, v, _, ?_, ⟨A, c, by rw [m1]; exact q3, by rw [m1, hg]; exact q4⟩, by rw [m3]; exact q2⟩
  rw [hdn, if_neg (by omega), m2]
theorem cut_rel {lb : List Bool} (h : d.At M n i) (hok : d.ok) (hL : d.L n = true) (hn : n < d.next) (hl : n - 1 < lb.length) (hr : ∀ k, d.una ≤ k → k < d.fin → lb.getD (k - 1) false = (d.cutL i).L k) :
    ∀ k, (d.cutL (i + 1)).una ≤ k → k < (d.cutL (i + 1)).fin → (lb.set (n - 1) false).getD (k - 1) false = (d.cutL (i + 1)).L k := by
  intro k k1 k2
  have k1' : d.una ≤ k := k1
  have hu := hok.u1
  have hlo := h.lo
  have e := At.here h hok hL
  show _ = (d.L k && !decide (d.from_ ≤ k ∧ k < d.from_ + (i + 1)))
  rw [rel_set hl]
  by_cases hk : k = n
  · subst hk
    rw [if_pos rfl, decide_eq_true (by omega), Bool.not_true, Bool.and_false]
  · rw [if_neg (by omega), hr k k1 k2]
    show (d.L k && !decide (d.from_ ≤ k ∧ k < d.from_ + i)) = _
    by_cases hh : d.from_ ≤ k ∧ k < d.from_ + i
    · rw [decide_eq_true hh, decide_eq_true (by omega)]
    · rw [decide_eq_false hh, decide_eq_false (by omega)]
theorem fresh_done (h : Tk base w wr xb y r tb { d with next := d.next + i } lb dn v (d.pre i)) (hdn : dn = if i = 0 then 0 else d.next) (hok : d.ok) (hf : d.from_ = d.next) (hi : i = min M (min d.edge d.fin - d.next)) :
    ((wr.setCell ⟨r, 0, none⟩ (.int .i64 (dn : Int))).setCell ⟨r, 1, none⟩ v).rangeAt r 0 [.int .i64 (dn : Int), v] ∧ RTakeP base w xb y d M (.returned (.agg #[.int .i64 (dn : Int), v])) ((wr.setCell ⟨r, 0, none⟩ (.int .i64 (dn : Int))).setCell ⟨r, 1, none⟩ v) := by
  obtain ⟨m1, m2, e1, e2, e3, e4, e5, e6, e7⟩ := next_done hok hf hi
  have hne := hok.ne
  have h2 : Tk base w wr xb y r tb (d.take M) lb dn v (d.pre i) := h.relL (d2 := d.take M) (by
    show #[y.av, y.lv, .int .i64 ((d.take M).una : Int), .int .i64 ((d.take M).next : Int), .int .i64 ((d.take M).edge : Int), .bool (d.take M).told, .bool (d.take M).done] = _
    rw [e2, e3, e4, e5, e6]
    rfl) e1 e2 (fun k _ _ => e7 k)
  obtain ⟨q1, q2, A, c, q3, q4⟩ := h2.fin_
  rw [pre_len hok (by rw [hf]; omega)] at q3 q4
  have hg : d.got M = d.pre i := by unfold Dq.got Dq.pre; rw [m1]
  refine ⟨q1, v, _, ?_, ⟨A, c, by rw [m1]; exact q3, by rw [m1, hg]; exact q4⟩, q2⟩
  rw [hdn, m2]

theorem all_cell {d2 : Dq} {bs : List UInt8} {j ag ac : Nat} (hav : y.av = .slice (some ⟨ag, 0, none⟩) d2.all.length ac) (hj : j < d2.all.length) (h : Tk base w wr xb y r tb d2 lb dn v bs) : wr.cell? ⟨xb, 0, none⟩ = some (.slice (some ⟨ag, 0, none⟩) d2.all.length ac) ∧ wr.cell? ⟨ag, j, none⟩ = some (.int .u8 ((d2.all.getD j 0).toNat : Int)) ∧ xb < w.heap.size ∧ ag < w.heap.size := by
  obtain ⟨g, c, hv, -, -, -, hx, -⟩ := own_at h.x.s.all (j := j) hj
  have hv' : y.av = .slice (some ⟨g, 0, none⟩) d2.all.length c := hv
  have e := hav.symm.trans hv'
  injection e with e1 e2 e3
  injection e1 with e1
  injection e1 with e1
  subst e1
  have hc : wr.cell? ⟨xb, 0, none⟩ = some y.av := h.x.s.cell 0
  rw [hav] at hc
  exact ⟨hc, hx, h.tlt xb (.inl rfl), h.tlt ag (.inr (.inl (by rw [hav]; rfl)))⟩

set_option maxRecDepth 20000 in
set_option maxHeartbeats 12800000 in
theorem rtake_any (H : Rf base w xb y d) (hok : d.ok) (hc : d.fin ≤ 1000000000) (hed : d.edge ≤ 2147483648) (hb : base ≤ w.heap.size) {m : Int} : Calls Try.prog 14 #[ptr xb, .int .i64 m] w (RTakeP base w xb y d (mostOf m)) := by
  obtain ⟨M, hM⟩ : ∃ M, M = mostOf m := ⟨_, rfl⟩
  have hM1 : (M : Int) = min (max m 1) 8 := by rw [hM]; unfold mostOf; omega
  rw [← hM]
  obtain ⟨z, hz⟩ : ∃ z, z = max m 1 := ⟨_, rfl⟩
  have hm : (m < 1 ∧ z = 1) ∨ (¬ m < 1 ∧ z = m) := by omega
  have hh : (8 < z ∧ (M : Int) = 8) ∨ (¬ 8 < z ∧ (M : Int) = z) := by omega
  have HMB : Hid (1 ≤ M ∧ M ≤ 8) := Lib.hid (by omega)
  have hT0 : Tk base w ((w.alloc (.cells #[.int .i64 0, .slice none 0 0] 40)).alloc (.cells #[.int .i64 0, .slice none 0 0] 40)) xb y w.heap.size (w.heap.size + 1) (d.cutL 0) y.lb 0 (.slice none 0 0) (d.pre 0) := by
    have hb2 : Below w.heap.size w ((w.alloc (.cells #[.int .i64 0, .slice none 0 0] 40)).alloc (.cells #[.int .i64 0, .slice none 0 0] 40)) := below_a2 w _ _
    have l := LeftR.of_below H hb2
    refine ⟨⟨l.s.relL (fun k _ _ => ?_), l.ch, l.new⟩, (Below.heap_alloc _ _ _ (by simp)).trans (heap_alloc_new w _), ?_, World.ownsRow_nil _ _ _ _, ⟨Nat.le_refl _, Nat.lt_succ_self _⟩, fun k hk => (H.in_ hk).2⟩
    · rw [decide_eq_false (by omega), Bool.not_false, Bool.and_true]
    · have := heap_alloc_new (w.alloc (.cells #[.int .i64 0, .slice none 0 0] 40)) (.cells #[.int .i64 0, .slice none 0 0] 40)
      rwa [World.size_alloc] at this
  have HT0 := Lib.hid hT0
  have HOK := Lib.hid hok
  have hun := hok.un
  have hne := hok.ne
  have hng := hok.ng
  have hu1 := hok.u1
  have HN := Lib.hid (And.intro hu1 (And.intro hun (And.intro hne (And.intro hng (And.intro hc hed)))))
  have HBB := Lib.hid hb
  clear hM hM1 hT0 H hok hz
  unfold ptr at *
  go_enter Try.func14, Try.ntmps14
  go_upto_if 8 with (fail)
  go_cut [1] from 7 (fun a wx => a = .int .i64 z ∧ wx = w.alloc (.cells #[.int .i64 0, .slice none 0 0] 40))
  case first =>
    rcases hm with ⟨t0, rfl⟩ | ⟨t0, rfl⟩
    · go_wp2_with fail
      go_meet
      case rel => exact ⟨rfl, rfl⟩
    · go_wp2_with fail
      go_meet
      case rel => exact ⟨rfl, rfl⟩
  case rest =>
    obtain ⟨rfl, rfl⟩ := hcut
    clear hm
    go_upto_if 10 with (fail)
    go_cut [1] from 9 (fun a w2 => a = .int .i64 (M : Int) ∧ w2 = w.alloc (.cells #[.int .i64 0, .slice none 0 0] 40))
    case first =>
      rcases hh with ⟨t0, h8⟩ | ⟨t0, h8⟩
      · have H8 := Lib.hid h8
        clear h8
        go_wp2_with fail
        go_meet
        case rel => exact ⟨by rw [H8.out], rfl⟩
      · have H8 := Lib.hid h8
        clear h8
        go_wp2_with fail
        go_meet
        case rel => exact ⟨by rw [H8.out], rfl⟩
    case rest =>
      obtain ⟨rfl, rfl⟩ := hcut
      clear hh
      go_upto_region 6 with (fail)
      obtain ⟨rb, hrb⟩ : ∃ rb, rb = w.heap.size := ⟨_, rfl⟩
      obtain ⟨tb, htb⟩ : ∃ tb, tb = w.heap.size + 1 := ⟨_, rfl⟩
      rw [← htb, ← hrb]
      rw [← htb, ← hrb] at HT0
      clear hrb htb
      generalize (w.alloc (.cells #[.int .i64 0, .slice none 0 0] 40)).alloc (.cells #[.int .i64 0, .slice none 0 0] 40) = w2 at *
      have d2 : w2.cell? ⟨xb, 2, none⟩ = some (.int .i64 (d.una : Int)) := HT0.out.x.s.cell 2
      go_wp2_with fail
      go_loopw [6] (fun ix wr => ∃ (n i dn : Nat) (lb : List Bool) (v : Value), ix = .int .i64 (n : Int) ∧ d.At M n i ∧ (dn = if i = 0 then 0 else d.from_) ∧ Tk base w wr xb y rb tb (d.cutL i) lb dn v (d.pre i)) (fun ix _ => d.next - (intOf ix).toNat)
      case atStart => exact ⟨d.una, 0, 0, y.lb, _, rfl, At.start HOK.out, rfl, HT0.out⟩
      case round =>
        obtain ⟨n, i, dn, lb, v, rfl, hat, hdn, T1⟩ := hrel
        have HAT := Lib.hid hat
        have HDN := Lib.hid hdn
        have HT := Lib.hid T1
        have hpl : (d.pre i).length = i := pre_len HOK.out (run_fin hat HOK.out)
        have hnn : d.una ≤ n ∧ n ≤ d.next ∧ i ≤ M := ⟨hat.lo, hat.hi, hat.le⟩
        have c3 : wr.cell? ⟨xb, 3, none⟩ = some (.int .i64 (d.next : Int)) := T1.x.s.cell 3
        have c1 : wr.cell? ⟨xb, 1, none⟩ = some y.lv := T1.x.s.cell 1
        have c0 : wr.cell? ⟨xb, 0, none⟩ = some y.av := T1.x.s.cell 0
        have t0 := T1.t0
        have t1 := T1.t1
        have tf := T1.tf
        have r0 := T1.r0
        have r1 := T1.r1
        have rf := T1.rf
        obtain ⟨vA, vc, rfl, -, -⟩ := RB.of_own T1.own
        rw [hpl] at t1 HT
        have HPL := Lib.hid hpl
        clear hat hdn T1 hpl d2
        by_cases hlt : n < d.next
        · have hltI : (n : Int) < (d.next : Int) := by omega
          by_cases hiM : i < M
          · have hiMI : (i : Int) < (M : Int) := by omega
            obtain ⟨lg, lc, hlv, -, hlc1, hlc2, x0, xf, -⟩ := own_bool HT.out.x.s.lost (j := n - 1) (by show n - 1 < d.all.length; unfold Dq.fin at hne; omega)
            have hlv' : y.lv = .slice (some ⟨lg, 0, none⟩) d.all.length lc := hlv
            rw [hlv'] at c1
            have hrel : lb.getD (n - 1) false = d.L n := (HT.out.x.s.rel n hnn.1 (by show n < d.fin; omega)).trans (cutL_at HAT.out)
            rw [hrel] at x0
            have hnm : n - 1 < d.all.length := by unfold Dq.fin at hne; omega
            have hwn : IntKind.i64.wrap ((n : Int) - 1) = ((n - 1 : Nat) : Int) := by rw [IntKind.wrap_i64]; omega
            have hll : d.all.length ≤ lc := hlc1
            clear hrel hlv hlc1
            cases hL : d.L n with
            | true =>
              have hdn2 : Hid (d.At M (n + 1) (i + 1)) := Lib.hid (At.took HAT.out HOK.out hL hiM hlt)
              have HE := Lib.hid (At.here HAT.out HOK.out hL)
              have HCR := Lib.hid (cut_rel (lb := lb) HAT.out HOK.out hL hlt (by have h := HT.out.x.s.lens; have h' : lb.length = d.all.length := h; omega) HT.out.x.s.rel)
              rw [hL] at x0
              obtain ⟨ag, ac, hav, -, hac1, hac2, xa, -⟩ := own_at (own_mono HT.out.x.s.all (Nat.zero_le _)) (j := n - 1) hnm
              have hav' : y.av = .slice (some ⟨ag, 0, none⟩) d.all.length ac := hav
              rw [hav'] at c0
              have HLT := Lib.hid (And.intro hlt hiM)
              have HLV := Lib.hid hlv'
              have HGS : Hid (d.pre (i + 1) = d.pre i ++ [d.all.getD (n - 1) 0]) := Lib.hid (by
                have := HE.out
                have hf := HOK.out.from_.1
                have e : d.from_ - 1 + i = n - 1 := by omega
                unfold Dq.pre
                rw [got_snoc (by rw [e]; exact hnm), e])
              have hacl : d.all.length ≤ ac := hac2
              have HAV := Lib.hid hav'
              clear hav hav' hlv' hL hac1 hac2
              have xfn := xf (n - 1)
              have HSM : Hid (∀ w10 v', Tk base w w10 xb y rb tb (d.cutL i) lb d.from_ v' (d.pre i ++ [d.all.getD (n - 1) 0]) → Tk base w (w10.setCell ⟨lg, n - 1, none⟩ (.bool false)) xb y rb tb (d.cutL (i + 1)) (lb.set (n - 1) false) d.from_ v' (d.pre (i + 1))) := Lib.hid (fun w10 v' h => by
                rw [HGS.out]
                obtain ⟨lg2, lc2, hv2, -, -, -, -, -, ho⟩ := own_bool h.x.s.lost (j := n - 1) hnm
                have hv2' : y.lv = .slice (some ⟨lg2, 0, none⟩) d.all.length lc2 := hv2
                have e := HLV.out.symm.trans hv2'
                injection e with e1 e2 e3
                injection e1 with e1
                injection e1 with e1
                subst e1
                exact h.lost (d2 := d.cutL (i + 1)) hv2' (ho false) rfl rfl HCR.out)
              have HXL : Hid (∀ w10 v' dn', Tk base w w10 xb y rb tb (d.cutL i) lb dn' v' (d.pre i ++ [d.all.getD (n - 1) 0]) → w10.cell? ⟨xb, 1, none⟩ = some (.slice (some ⟨lg, 0, none⟩) d.all.length lc) ∧ w10.cell? ⟨lg, n - 1, none⟩ = some (.bool (lb.getD (n - 1) false)) ∧ w10.frozen? ⟨lg, n - 1, none⟩ = false) := Lib.hid (fun w10 v' dn' h => by
                obtain ⟨lg2, lc2, hv2, -, -, -, hx2, hxf, -⟩ := own_bool h.x.s.lost (j := n - 1) hnm
                have hv2' : y.lv = .slice (some ⟨lg2, 0, none⟩) d.all.length lc2 := hv2
                have e := HLV.out.symm.trans hv2'
                injection e with e1 e2 e3
                injection e1 with e1
                injection e1 with e1
                subst e1
                have hc1 : w10.cell? ⟨xb, 1, none⟩ = some y.lv := h.x.s.cell 1
                rw [HLV.out] at hc1
                exact ⟨hc1, hx2, hxf _⟩)
              have HXA : Hid (∀ w10 v' dn' bs', Tk base w w10 xb y rb tb (d.cutL i) lb dn' v' bs' → w10.cell? ⟨xb, 0, none⟩ = some (.slice (some ⟨ag, 0, none⟩) d.all.length ac) ∧ w10.cell? ⟨ag, n - 1, none⟩ = some (.int .u8 ((d.all.getD (n - 1) 0).toNat : Int)) ∧ xb < w.heap.size ∧ ag < w.heap.size) := Lib.hid (fun w10 v' dn' bs' h => by
                have hx := all_cell (d2 := d.cutL i) HAV.out hnm h
                exact hx)
              generalize lb.getD (n - 1) false = bx at *
              generalize d.all.getD (n - 1) 0 = bt at *
              generalize d.all.length = N at *
              generalize hnk : n - 1 = nm at *
              have HNK := Lib.hid hnk
              clear hnk
              have hnmN : nm < N := hnm
              by_cases i0 : i = 0
              · subst i0
                have HT5 : Hid (Tk base w (wr.setCell ⟨tb, 0, none⟩ (.int .i64 (n : Int))) xb y rb tb (d.cutL 0) lb d.from_ (.slice vA 0 vc) (d.pre 0)) := by
                  have h := HT.out.set0 n
                  have e : n = d.from_ := by have := HE.out; omega
                  rw [show Tk base w (wr.setCell ⟨tb, 0, none⟩ (.int .i64 (n : Int))) xb y rb tb (d.cutL 0) lb d.from_ (.slice vA 0 vc) (d.pre 0) = Tk base w (wr.setCell ⟨tb, 0, none⟩ (.int .i64 (n : Int))) xb y rb tb (d.cutL 0) lb n (.slice vA 0 vc) (d.pre 0) from by rw [← e]]
                  exact Lib.hid h
                go_upto_region 12 with (fail)
                generalize wr.setCell ⟨tb, 0, none⟩ (.int .i64 (n : Int)) = w5 at *
                clear t0 t1 tf r0 r1 rf c3 HT x0 xf xa xfn c0 c1
                have HXA5 := Lib.hid (HXA.out _ _ _ _ HT5.out)
                have e0 : w5.drew.cell? ⟨tb, 1, none⟩ = some (.slice vA 0 vc) := HT5.out.t1
                have e1 : w5.drew.cell? ⟨xb, 0, none⟩ = some (.slice (some ⟨ag, 0, none⟩) N ac) := HXA5.out.1
                have e2 : w5.drew.cell? ⟨ag, nm, none⟩ = some (.int .u8 (bt.toNat : Int)) := HXA5.out.2.1
                refine wp_region_noPanic ?_
                refine until_start (fun W => W.cell? ⟨tb, 1, none⟩ = some (.slice vA 0 vc) ∧ W.cell? ⟨xb, 0, none⟩ = some (.slice (some ⟨ag, 0, none⟩) N ac) ∧ W.cell? ⟨ag, nm, none⟩ = some (.int .u8 (bt.toNat : Int))) 13 (by kernel_rfl) ⟨e0, e1, e2⟩ (fun _ => ?_)
                refine until_take (i := 0) (v := .pointer (some ⟨tb, 1, none⟩)) (some 45) [13] rfl rfl (by kernel_rfl) (by kernel_rfl) (by kernel_rfl) (by kernel_rfl) rfl rfl (fun _ _ _ h => h) (Or.inl ⟨by rfl, fun W hW => by go_simp⟩) ⟨e0, e1, e2⟩ ?_
                simp only [Act.put, List.setIfInBounds_toArray, List.set_cons_zero, List.set_cons_succ]
                refine until_take (i := 2) (v := .pointer (some ⟨xb, 0, none⟩)) (some 47) [13] rfl rfl (by kernel_rfl) (by kernel_rfl) (by kernel_rfl) (by kernel_rfl) rfl rfl (fun _ _ _ h => h) (Or.inl ⟨by rfl, fun W hW => by go_simp⟩) ⟨e0, e1, e2⟩ ?_
                simp only [Act.put, List.setIfInBounds_toArray, List.set_cons_zero, List.set_cons_succ]
                refine until_take (i := 6) (v := .int .i64 (n : Int)) (some 51) [13] rfl rfl (by kernel_rfl) (by kernel_rfl) (by kernel_rfl) (by kernel_rfl) rfl rfl (fun _ _ _ h => h) (Or.inl ⟨by rfl, fun W hW => by go_simp⟩) ⟨e0, e1, e2⟩ ?_
                simp only [Act.put, List.setIfInBounds_toArray, List.set_cons_zero, List.set_cons_succ]
                refine until_take (i := 1) (v := .slice vA 0 vc) (some 46) [13] rfl rfl (by kernel_rfl) (by kernel_rfl) (by kernel_rfl) (by kernel_rfl) rfl rfl (fun _ _ _ h => h) (Or.inl ⟨by rfl, fun W hW => by have hc := hW.1; go_simp⟩) ⟨e0, e1, e2⟩ ?_
                simp only [Act.put, List.setIfInBounds_toArray, List.set_cons_zero, List.set_cons_succ]
                refine until_take (i := 3) (v := .pointer (some ⟨xb, 0, none⟩)) (some 48) [13] rfl rfl (by kernel_rfl) (by kernel_rfl) (by kernel_rfl) (by kernel_rfl) rfl rfl (fun _ _ _ h => h) (Or.inl ⟨by rfl, fun W hW => by go_simp⟩) ⟨e0, e1, e2⟩ ?_
                simp only [Act.put, List.setIfInBounds_toArray, List.set_cons_zero, List.set_cons_succ]
                refine until_take (i := 7) (v := .int .i64 (nm : Int)) (some 52) [13] rfl rfl (by kernel_rfl) (by kernel_rfl) (by kernel_rfl) (by kernel_rfl) rfl rfl (fun _ _ _ h => h) (Or.inl ⟨by rfl, fun W hW => by have hc := hwn; go_simp⟩) ⟨e0, e1, e2⟩ ?_
                simp only [Act.put, List.setIfInBounds_toArray, List.set_cons_zero, List.set_cons_succ]
                refine until_take (i := 4) (v := .pointer (some ⟨xb, 0, none⟩)) (some 49) [13] rfl rfl (by kernel_rfl) (by kernel_rfl) (by kernel_rfl) (by kernel_rfl) rfl rfl (fun _ _ _ h => h) (Or.inl ⟨by rfl, fun W hW => by go_simp⟩) ⟨e0, e1, e2⟩ ?_
                simp only [Act.put, List.setIfInBounds_toArray, List.set_cons_zero, List.set_cons_succ]
                refine until_take (i := 5) (v := .slice (some ⟨ag, 0, none⟩) N ac) (some 50) [13] rfl rfl (by kernel_rfl) (by kernel_rfl) (by kernel_rfl) (by kernel_rfl) rfl rfl (fun _ _ _ h => h) (Or.inl ⟨by rfl, fun W hW => by have hc := hW.2.1; go_simp⟩) ⟨e0, e1, e2⟩ ?_
                simp only [Act.put, List.setIfInBounds_toArray, List.set_cons_zero, List.set_cons_succ]
                refine until_take (i := 8) (v := .pointer (some ⟨ag, nm, none⟩)) (some 53) [13] rfl rfl (by kernel_rfl) (by kernel_rfl) (by kernel_rfl) (by kernel_rfl) rfl rfl (fun _ _ _ h => h) (Or.inl ⟨by rfl, fun W hW => by have hc := hnmN; go_simp⟩) ⟨e0, e1, e2⟩ ?_
                simp only [Act.put, List.setIfInBounds_toArray, List.set_cons_zero, List.set_cons_succ]
                refine until_take (i := 9) (v := .int .u8 (bt.toNat : Int)) (some 54) [13] rfl rfl (by kernel_rfl) (by kernel_rfl) (by kernel_rfl) (by kernel_rfl) rfl rfl (fun _ _ _ h => h) (Or.inl ⟨by rfl, fun W hW => by have hc := hW.2.2; go_simp⟩) ⟨e0, e1, e2⟩ ?_
                simp only [Act.put, List.setIfInBounds_toArray, List.set_cons_zero, List.set_cons_succ]
                refine until_step (i := 10) (by kernel_rfl) rfl rfl (fun K hK => ?_)
                go_simp
                have HB8 := Lib.hid (below_a w5.drew (.cells #[.int .u8 (bt.toNat : Int)] 5))
                have hr8 := RB.lit1 w5.drew (bt.toNat : Int) bt 5 rfl
                have e8 : (w5.drew.alloc (.cells #[.int .u8 (bt.toNat : Int)] 5)).cell? ⟨tb, 1, none⟩ = some (.slice vA 0 vc) ∧ (w5.drew.alloc (.cells #[.int .u8 (bt.toNat : Int)] 5)).cell? ⟨xb, 0, none⟩ = some (.slice (some ⟨ag, 0, none⟩) N ac) ∧ (w5.drew.alloc (.cells #[.int .u8 (bt.toNat : Int)] 5)).cell? ⟨ag, nm, none⟩ = some (.int .u8 (bt.toNat : Int)) := ⟨keepc HB8.out e0, keepc HB8.out e1, keepc HB8.out e2⟩
                have ho8 : (w5.drew.alloc (.cells #[.int .u8 (bt.toNat : Int)] 5)).ownsRow w.heap.size 5 1 (.slice vA 0 vc) 0 (bv (d.pre 0)) := own_below (w := w5.drew) (by have h := HT5.out.own; rw [HPL.out] at h; exact h) HB8.out
                have hs8 : w.heap.size ≤ (w5.drew.alloc (.cells #[.int .u8 (bt.toNat : Int)] 5)).heap.size := Nat.le_trans (HT5.out.x.ch.size) HB8.out.size
                obtain ⟨g8, hg8⟩ : ∃ g8, g8 = w5.heap.size := ⟨_, rfl⟩
                have hd8 : w5.drew.heap.size = g8 := hg8.symm
                rw [hd8] at hr8
                obtain ⟨w8, hw8⟩ : ∃ w8, w8 = (w5.alloc (.cells #[.int .u8 (bt.toNat : Int)] 5)).drew := ⟨_, rfl⟩
                rw [show w5.drew.alloc (.cells #[.int .u8 (bt.toNat : Int)] 5) = w8 from hw8.symm] at HB8 hr8 e8 ho8 hs8
                have HB9 : Hid (Below w5.heap.size w5 w8) := Lib.hid ⟨HB8.out.os, HB8.out.tape, HB8.out.output, HB8.out.size, HB8.out.block⟩
                rw [← hw8, ← hg8]
                clear hd8 hg8 hw8
                refine hK.out _ _ e8 (fun _ => ?_)
                clear hK
                try simp only [Act.put, List.setIfInBounds_toArray, List.set_cons_zero, List.set_cons_succ]
                refine until_step (i := 11) (by kernel_rfl) rfl rfl (fun K hK => ?_)
                refine step_app _ rfl (.tmp 46) (.tmp 55) 28 5 rfl undByte infoByte w.heap.size (.slice vA 0 vc) 0 _ rfl ho8 (some ⟨g8, 0, none⟩) 1 1 [bt] rfl hr8 (by have := HMB.out; omega) hs8 ?_
                intro v9 w9 r9 g9 o9
                have hk9 : ∀ k, k < w.heap.size → some k ≠ (Value.slice vA 0 vc).ownBlock := fun k hk e => by have := (HT5.out.vlo e.symm).1; omega
                have ht9 : some tb ≠ (Value.slice vA 0 vc).ownBlock := fun e => (HT5.out.vlo e.symm).2.2.2 rfl
                have e9 : w9.cell? ⟨tb, 1, none⟩ = some (.slice vA 0 vc) ∧ w9.cell? ⟨xb, 0, none⟩ = some (.slice (some ⟨ag, 0, none⟩) N ac) ∧ w9.cell? ⟨ag, nm, none⟩ = some (.int .u8 (bt.toNat : Int)) := ⟨g9.cell e8.1 ht9, g9.cell e8.2.1 (hk9 _ HXA5.out.2.2.1), g9.cell e8.2.2 (hk9 _ HXA5.out.2.2.2)⟩
                have hx8 : tb < w8.heap.size := Nat.lt_of_lt_of_le (Array.getElem?_eq_some_iff.1 HT5.out.tblk).1 HB9.out.size
                have f9 : w9.frozen? ⟨tb, 1, none⟩ = false := (World.frozen?_of_block (g9.block tb hx8 ht9)).trans ((World.frozen?_of_block (HB9.out.block tb (Array.getElem?_eq_some_iff.1 HT5.out.tblk).1)).trans (HT5.out.tf 1))
                have HO9 := Lib.hid (And.intro r9 (And.intro g9 o9))
                obtain ⟨A9, k9, rfl, -, -⟩ := RB.of_own r9
                clear r9 g9 o9 e8 ho8 hs8 hr8 hk9 ht9 hx8
                show K (Act.put _ (some 56) _) _
                refine hK.out _ _ e9 (fun _ => ?_)
                clear hK
                try simp only [Act.put, List.setIfInBounds_toArray, List.set_cons_zero, List.set_cons_succ]
                refine until_take (i := 12) (v := .pointer (some ⟨tb, 1, none⟩)) (some 57) [13] rfl rfl (by kernel_rfl) (by kernel_rfl) (by kernel_rfl) (by kernel_rfl) rfl rfl (fun _ _ _ h => h) (Or.inl ⟨by rfl, fun W hW => by go_simp⟩) e9 ?_
                simp only [Act.put, List.setIfInBounds_toArray, List.set_cons_zero, List.set_cons_succ]
                refine until_last (by kernel_rfl) rfl (fun K hK => ?_)
                go_simp
                have HT10 := Lib.hid (HT5.out.app (x := bt) (v' := .slice A9 (0 + 1) k9) HB9.out (by have h := HO9.out.1; rw [HPL.out]; exact h) HO9.out.2.1 HO9.out.2.2)
                generalize w9.setCell ⟨tb, 1, none⟩ (.slice A9 (0 + 1) k9) = w10 at *
                clear e9 f9
                refine hK.out _ _ ?_
                clear hK
                try simp only [Act.put, List.setIfInBounds_toArray, List.set_cons_zero, List.set_cons_succ]
                refine wpAnyH_done (by kernel_rfl) ?_ _
                refine NoPanic.normal ?_
                clear e0 e1 e2
                obtain ⟨z1, z2, z3⟩ := HXL.out w10 _ _ HT10.out
                go_wp2_with fail
                go_roundw
                case rel => exact ⟨n + 1, 0 + 1, d.from_, _, _, by go_num, hdn2.out, (if_neg (Nat.succ_ne_zero _)).symm, HSM.out w10 _ HT10.out⟩
                case measure => have := HLT.out; simp [intOf]; omega
              · have HT5 : Hid (Tk base w wr xb y rb tb (d.cutL i) lb d.from_ (.slice vA i vc) (d.pre i)) := by
                  have h := HT.out
                  have e : dn = d.from_ := by rw [HDN.out, if_neg i0]
                  rw [e] at h
                  exact Lib.hid h
                have i0i : ¬ ((i : Int) = 0) := by omega
                have i0b : ((i : Int) == 0) = false := by simp; omega
                go_upto_region 12 with (fail)
                clear t0 t1 tf r0 r1 rf c3 HT x0 xf xa xfn c0 c1
                have HXA5 := Lib.hid (HXA.out _ _ _ _ HT5.out)
                have e0 : wr.drew.cell? ⟨tb, 1, none⟩ = some (.slice vA i vc) := HT5.out.t1
                have e1 : wr.drew.cell? ⟨xb, 0, none⟩ = some (.slice (some ⟨ag, 0, none⟩) N ac) := HXA5.out.1
                have e2 : wr.drew.cell? ⟨ag, nm, none⟩ = some (.int .u8 (bt.toNat : Int)) := HXA5.out.2.1
                refine wp_region_noPanic ?_
                refine until_start (fun W => W.cell? ⟨tb, 1, none⟩ = some (.slice vA i vc) ∧ W.cell? ⟨xb, 0, none⟩ = some (.slice (some ⟨ag, 0, none⟩) N ac) ∧ W.cell? ⟨ag, nm, none⟩ = some (.int .u8 (bt.toNat : Int))) 13 (by kernel_rfl) ⟨e0, e1, e2⟩ (fun _ => ?_)
                refine until_take (i := 0) (v := .pointer (some ⟨tb, 1, none⟩)) (some 45) [13] rfl rfl (by kernel_rfl) (by kernel_rfl) (by kernel_rfl) (by kernel_rfl) rfl rfl (fun _ _ _ h => h) (Or.inl ⟨by rfl, fun W hW => by go_simp⟩) ⟨e0, e1, e2⟩ ?_
                simp only [Act.put, List.setIfInBounds_toArray, List.set_cons_zero, List.set_cons_succ]
                refine until_take (i := 2) (v := .pointer (some ⟨xb, 0, none⟩)) (some 47) [13] rfl rfl (by kernel_rfl) (by kernel_rfl) (by kernel_rfl) (by kernel_rfl) rfl rfl (fun _ _ _ h => h) (Or.inl ⟨by rfl, fun W hW => by go_simp⟩) ⟨e0, e1, e2⟩ ?_
                simp only [Act.put, List.setIfInBounds_toArray, List.set_cons_zero, List.set_cons_succ]
                refine until_take (i := 6) (v := .int .i64 (n : Int)) (some 51) [13] rfl rfl (by kernel_rfl) (by kernel_rfl) (by kernel_rfl) (by kernel_rfl) rfl rfl (fun _ _ _ h => h) (Or.inl ⟨by rfl, fun W hW => by go_simp⟩) ⟨e0, e1, e2⟩ ?_
                simp only [Act.put, List.setIfInBounds_toArray, List.set_cons_zero, List.set_cons_succ]
                refine until_take (i := 1) (v := .slice vA i vc) (some 46) [13] rfl rfl (by kernel_rfl) (by kernel_rfl) (by kernel_rfl) (by kernel_rfl) rfl rfl (fun _ _ _ h => h) (Or.inl ⟨by rfl, fun W hW => by have hc := hW.1; go_simp⟩) ⟨e0, e1, e2⟩ ?_
                simp only [Act.put, List.setIfInBounds_toArray, List.set_cons_zero, List.set_cons_succ]
                refine until_take (i := 3) (v := .pointer (some ⟨xb, 0, none⟩)) (some 48) [13] rfl rfl (by kernel_rfl) (by kernel_rfl) (by kernel_rfl) (by kernel_rfl) rfl rfl (fun _ _ _ h => h) (Or.inl ⟨by rfl, fun W hW => by go_simp⟩) ⟨e0, e1, e2⟩ ?_
                simp only [Act.put, List.setIfInBounds_toArray, List.set_cons_zero, List.set_cons_succ]
                refine until_take (i := 7) (v := .int .i64 (nm : Int)) (some 52) [13] rfl rfl (by kernel_rfl) (by kernel_rfl) (by kernel_rfl) (by kernel_rfl) rfl rfl (fun _ _ _ h => h) (Or.inl ⟨by rfl, fun W hW => by have hc := hwn; go_simp⟩) ⟨e0, e1, e2⟩ ?_
                simp only [Act.put, List.setIfInBounds_toArray, List.set_cons_zero, List.set_cons_succ]
                refine until_take (i := 4) (v := .pointer (some ⟨xb, 0, none⟩)) (some 49) [13] rfl rfl (by kernel_rfl) (by kernel_rfl) (by kernel_rfl) (by kernel_rfl) rfl rfl (fun _ _ _ h => h) (Or.inl ⟨by rfl, fun W hW => by go_simp⟩) ⟨e0, e1, e2⟩ ?_
                simp only [Act.put, List.setIfInBounds_toArray, List.set_cons_zero, List.set_cons_succ]
                refine until_take (i := 5) (v := .slice (some ⟨ag, 0, none⟩) N ac) (some 50) [13] rfl rfl (by kernel_rfl) (by kernel_rfl) (by kernel_rfl) (by kernel_rfl) rfl rfl (fun _ _ _ h => h) (Or.inl ⟨by rfl, fun W hW => by have hc := hW.2.1; go_simp⟩) ⟨e0, e1, e2⟩ ?_
                simp only [Act.put, List.setIfInBounds_toArray, List.set_cons_zero, List.set_cons_succ]
                refine until_take (i := 8) (v := .pointer (some ⟨ag, nm, none⟩)) (some 53) [13] rfl rfl (by kernel_rfl) (by kernel_rfl) (by kernel_rfl) (by kernel_rfl) rfl rfl (fun _ _ _ h => h) (Or.inl ⟨by rfl, fun W hW => by have hc := hnmN; go_simp⟩) ⟨e0, e1, e2⟩ ?_
                simp only [Act.put, List.setIfInBounds_toArray, List.set_cons_zero, List.set_cons_succ]
                refine until_take (i := 9) (v := .int .u8 (bt.toNat : Int)) (some 54) [13] rfl rfl (by kernel_rfl) (by kernel_rfl) (by kernel_rfl) (by kernel_rfl) rfl rfl (fun _ _ _ h => h) (Or.inl ⟨by rfl, fun W hW => by have hc := hW.2.2; go_simp⟩) ⟨e0, e1, e2⟩ ?_
                simp only [Act.put, List.setIfInBounds_toArray, List.set_cons_zero, List.set_cons_succ]
                refine until_step (i := 10) (by kernel_rfl) rfl rfl (fun K hK => ?_)
                go_simp
                have HB8 := Lib.hid (below_a wr.drew (.cells #[.int .u8 (bt.toNat : Int)] 5))
                have hr8 := RB.lit1 wr.drew (bt.toNat : Int) bt 5 rfl
                have e8 : (wr.drew.alloc (.cells #[.int .u8 (bt.toNat : Int)] 5)).cell? ⟨tb, 1, none⟩ = some (.slice vA i vc) ∧ (wr.drew.alloc (.cells #[.int .u8 (bt.toNat : Int)] 5)).cell? ⟨xb, 0, none⟩ = some (.slice (some ⟨ag, 0, none⟩) N ac) ∧ (wr.drew.alloc (.cells #[.int .u8 (bt.toNat : Int)] 5)).cell? ⟨ag, nm, none⟩ = some (.int .u8 (bt.toNat : Int)) := ⟨keepc HB8.out e0, keepc HB8.out e1, keepc HB8.out e2⟩
                have ho8 : (wr.drew.alloc (.cells #[.int .u8 (bt.toNat : Int)] 5)).ownsRow w.heap.size 5 1 (.slice vA i vc) i (bv (d.pre i)) := own_below (w := wr.drew) (by have h := HT5.out.own; rw [HPL.out] at h; exact h) HB8.out
                have hs8 : w.heap.size ≤ (wr.drew.alloc (.cells #[.int .u8 (bt.toNat : Int)] 5)).heap.size := Nat.le_trans (HT5.out.x.ch.size) HB8.out.size
                obtain ⟨g8, hg8⟩ : ∃ g8, g8 = wr.heap.size := ⟨_, rfl⟩
                have hd8 : wr.drew.heap.size = g8 := hg8.symm
                rw [hd8] at hr8
                obtain ⟨w8, hw8⟩ : ∃ w8, w8 = (wr.alloc (.cells #[.int .u8 (bt.toNat : Int)] 5)).drew := ⟨_, rfl⟩
                rw [show wr.drew.alloc (.cells #[.int .u8 (bt.toNat : Int)] 5) = w8 from hw8.symm] at HB8 hr8 e8 ho8 hs8
                have HB9 : Hid (Below wr.heap.size wr w8) := Lib.hid ⟨HB8.out.os, HB8.out.tape, HB8.out.output, HB8.out.size, HB8.out.block⟩
                rw [← hw8, ← hg8]
                clear hd8 hg8 hw8
                refine hK.out _ _ e8 (fun _ => ?_)
                clear hK
                try simp only [Act.put, List.setIfInBounds_toArray, List.set_cons_zero, List.set_cons_succ]
                refine until_step (i := 11) (by kernel_rfl) rfl rfl (fun K hK => ?_)
                refine step_app _ rfl (.tmp 46) (.tmp 55) 28 5 rfl undByte infoByte w.heap.size (.slice vA i vc) i _ rfl ho8 (some ⟨g8, 0, none⟩) 1 1 [bt] rfl hr8 (by have := HMB.out; omega) hs8 ?_
                intro v9 w9 r9 g9 o9
                have hk9 : ∀ k, k < w.heap.size → some k ≠ (Value.slice vA i vc).ownBlock := fun k hk e => by have := (HT5.out.vlo e.symm).1; omega
                have ht9 : some tb ≠ (Value.slice vA i vc).ownBlock := fun e => (HT5.out.vlo e.symm).2.2.2 rfl
                have e9 : w9.cell? ⟨tb, 1, none⟩ = some (.slice vA i vc) ∧ w9.cell? ⟨xb, 0, none⟩ = some (.slice (some ⟨ag, 0, none⟩) N ac) ∧ w9.cell? ⟨ag, nm, none⟩ = some (.int .u8 (bt.toNat : Int)) := ⟨g9.cell e8.1 ht9, g9.cell e8.2.1 (hk9 _ HXA5.out.2.2.1), g9.cell e8.2.2 (hk9 _ HXA5.out.2.2.2)⟩
                have hx8 : tb < w8.heap.size := Nat.lt_of_lt_of_le (Array.getElem?_eq_some_iff.1 HT5.out.tblk).1 HB9.out.size
                have f9 : w9.frozen? ⟨tb, 1, none⟩ = false := (World.frozen?_of_block (g9.block tb hx8 ht9)).trans ((World.frozen?_of_block (HB9.out.block tb (Array.getElem?_eq_some_iff.1 HT5.out.tblk).1)).trans (HT5.out.tf 1))
                have HO9 := Lib.hid (And.intro r9 (And.intro g9 o9))
                obtain ⟨A9, k9, rfl, -, -⟩ := RB.of_own r9
                clear r9 g9 o9 e8 ho8 hs8 hr8 hk9 ht9 hx8
                show K (Act.put _ (some 56) _) _
                refine hK.out _ _ e9 (fun _ => ?_)
                clear hK
                try simp only [Act.put, List.setIfInBounds_toArray, List.set_cons_zero, List.set_cons_succ]
                refine until_take (i := 12) (v := .pointer (some ⟨tb, 1, none⟩)) (some 57) [13] rfl rfl (by kernel_rfl) (by kernel_rfl) (by kernel_rfl) (by kernel_rfl) rfl rfl (fun _ _ _ h => h) (Or.inl ⟨by rfl, fun W hW => by go_simp⟩) e9 ?_
                simp only [Act.put, List.setIfInBounds_toArray, List.set_cons_zero, List.set_cons_succ]
                refine until_last (by kernel_rfl) rfl (fun K hK => ?_)
                go_simp
                have HT10 := Lib.hid (HT5.out.app (x := bt) (v' := .slice A9 (i + 1) k9) HB9.out (by have h := HO9.out.1; rw [HPL.out]; exact h) HO9.out.2.1 HO9.out.2.2)
                generalize w9.setCell ⟨tb, 1, none⟩ (.slice A9 (i + 1) k9) = w10 at *
                clear e9 f9
                refine hK.out _ _ ?_
                clear hK
                try simp only [Act.put, List.setIfInBounds_toArray, List.set_cons_zero, List.set_cons_succ]
                refine wpAnyH_done (by kernel_rfl) ?_ _
                refine NoPanic.normal ?_
                clear e0 e1 e2
                obtain ⟨z1, z2, z3⟩ := HXL.out w10 _ _ HT10.out
                go_wp2_with fail
                go_roundw
                case rel => exact ⟨n + 1, i + 1, d.from_, _, _, by go_num, hdn2.out, (if_neg (Nat.succ_ne_zero _)).symm, HSM.out w10 _ HT10.out⟩
                case measure => have := HLT.out; simp [intOf]; omega
            | false =>
              rw [hL] at x0
              have HL := Lib.hid hL
              clear hL
              by_cases i0 : i = 0
              · subst i0
                have HP := Lib.hid (At.pass HAT.out HOK.out HL.out hlt)
                go_wp2_with fail
                go_roundw
                case rel => exact ⟨n + 1, 0, dn, lb, _, by go_num, HP.out, HDN.out, HT.out⟩
                case measure => simp [intOf]; omega
              · have hi0 : (0 : Int) < (i : Int) := by omega
                have HD := Lib.hid (lost_done HT.out HDN.out HAT.out HOK.out (by omega) (.inr HL.out))
                go_wp2_with fail
                exact bodyPost_ret (results_c0 rfl _ _ rb _ _ rfl HD.out.1 Try.underlying40 rfl szTook) rfl HD.out.2
          · have hiMI : ¬ ((i : Int) < (M : Int)) := by omega
            have hi0 : (0 : Int) < (i : Int) := by have := HMB.out; omega
            have HD := Lib.hid (lost_done HT.out HDN.out HAT.out HOK.out (by omega) (.inl (by omega)))
            go_wp2_with fail
            exact bodyPost_ret (results_c0 rfl _ _ rb _ _ rfl HD.out.1 Try.underlying40 rfl szTook) rfl HD.out.2
        · obtain rfl : n = d.next := by omega
          have hltI : ¬ ((d.next : Int) < (d.next : Int)) := by omega
          by_cases i0 : i = 0
          · subst i0
            have hfn : d.from_ = d.next := by have h1 := HAT.out.up; have h2 := HOK.out.from_.2.1; omega
            have HFN := Lib.hid hfn
            have HTN : Hid (Tk base w wr xb y rb tb { d with next := d.next + 0 } lb dn (.slice vA 0 vc) (d.pre 0)) := Lib.hid (HT.out.relL rfl rfl rfl (fun k _ _ => by
              show (d.L k && !decide (d.from_ ≤ k ∧ k < d.from_ + 0)) = d.L k
              rw [decide_eq_false (by omega), Bool.not_false, Bool.and_true]))
            have hdn0 : dn = if 0 = 0 then 0 else d.next := by rw [HDN.out]; rfl
            have HDN0 := Lib.hid hdn0
            obtain ⟨T, hT⟩ : ∃ T, T = min M (min d.edge d.fin - d.next) := ⟨_, rfl⟩
            have HTT := Lib.hid hT
            have HLA := Lib.hid (fun (w9 : World) (i9 dn9 : Nat) (v9 : Value) (bs9 : List UInt8) (h : Tk base w w9 xb y rb tb { d with next := d.next + i9 } lb dn9 v9 bs9) (q : Nat) => last_any (h.x.s.below (below_dn (Below.refl _ _) q)) (show d.fin ≤ 1073741824 by omega))
            clear hT hdn0 hfn HT HAT HDN HPL
            go_wp2_with fail
            clear hltI hlt c1 c0 t0 t1 tf r0 r1 rf c3
            go_loopg [75] T (fun kx s6 wr => ∃ (i dn : Nat) (v : Value), i ≤ T ∧ T - i ≤ kx ∧ (dn = if i = 0 then 0 else d.next) ∧ Tk base w wr xb y rb tb { d with next := d.next + i } lb dn v (d.pre i))
            case atStart => exact ⟨0, dn, _, Nat.zero_le _, Nat.le_refl _, HDN0.out, HTN.out⟩
            case round =>
              obtain ⟨i, dn, v, hiT, hkx, hdn, T1⟩ := hrel
              have HDN := Lib.hid hdn
              have HT := Lib.hid T1
              have HKX := Lib.hid hkx
              have hpl : (d.pre i).length = i := pre_len HOK.out (by have := HTT.out; have := HFN.out; omega)
              have c3 : wr.cell? ⟨xb, 3, none⟩ = some (.int .i64 ((d.next + i : Nat) : Int)) := T1.x.s.cell 3
              have c4 : wr.cell? ⟨xb, 4, none⟩ = some (.int .i64 (d.edge : Int)) := T1.x.s.cell 4
              have t0 := T1.t0
              have t1 := T1.t1
              have tf := T1.tf
              have r0 := T1.r0
              have r1 := T1.r1
              have rf := T1.rf
              obtain ⟨vA, vc, rfl, -, -⟩ := RB.of_own T1.own
              rw [hpl] at t1 HT
              have HPL := Lib.hid hpl
              have HL9 := Lib.hid (fun q => HLA.out wr i dn _ _ T1 q)
              unfold ptr at HL9
              obtain ⟨nx, hnx⟩ : ∃ nx, nx = d.next + i := ⟨_, rfl⟩
              rw [← hnx] at c3
              have HNX := Lib.hid hnx
              have hfin9 : ∀ i9 : Nat, ({ d with next := d.next + i9 } : Dq).fin = d.fin := fun _ => rfl
              rw [hfin9] at HL9
              clear hdn T1 hpl hnx hkx hfin9
              by_cases hlt : i < T
              · have g1 : (i : Int) < (M : Int) := by have := HTT.out; omega
                have g2 : (nx : Int) < (d.fin : Int) := by have := HTT.out; have := HNX.out; omega
                have g3 : (nx : Int) < (d.edge : Int) := by have := HTT.out; have := HNX.out; omega
                have g2d : decide ((nx : Int) < (d.fin : Int)) = true := decide_eq_true g2
                have g1d : decide ((i : Int) < (M : Int)) = true := decide_eq_true g1
                have g3d : decide ((nx : Int) < (d.edge : Int)) = true := decide_eq_true g3
                have hnx1 : 1 ≤ nx := by have := HNX.out; omega
                have hwn : IntKind.i64.wrap ((nx : Int) - 1) = ((nx - 1 : Nat) : Int) := by rw [IntKind.wrap_i64]; omega
                have hwp : IntKind.i64.wrap ((nx : Int) + 1) = ((nx + 1 : Nat) : Int) := by rw [IntKind.wrap_i64]; omega
                have hnm : nx - 1 < d.all.length := by have h := g2; unfold Dq.fin at h; omega
                have HGS : Hid (d.pre (i + 1) = d.pre i ++ [d.all.getD (nx - 1) 0]) := Lib.hid (by
                  have hf := HFN.out
                  have hn := HNX.out
                  have e : d.from_ - 1 + i = nx - 1 := by omega
                  unfold Dq.pre
                  rw [got_snoc (by rw [e]; exact hnm), e])
                obtain ⟨ag, ac, hav, -, hac1, hac2, -, -⟩ := own_at (own_mono HT.out.x.s.all (Nat.zero_le _)) (j := nx - 1) hnm
                have hav' : y.av = .slice (some ⟨ag, 0, none⟩) d.all.length ac := hav
                have HAV := Lib.hid hav'
                have hacl : d.all.length ≤ ac := hac2
                have hacm : ac ≤ 9223372036854775807 := hac1
                have HXA : Hid (∀ w10 v' dn' bs', Tk base w w10 xb y rb tb { d with next := d.next + i } lb dn' v' bs' → w10.cell? ⟨xb, 0, none⟩ = some (.slice (some ⟨ag, 0, none⟩) d.all.length ac) ∧ w10.cell? ⟨ag, nx - 1, none⟩ = some (.int .u8 ((d.all.getD (nx - 1) 0).toNat : Int)) ∧ xb < w.heap.size ∧ ag < w.heap.size) := Lib.hid (fun w10 v' dn' bs' h => all_cell (d2 := { d with next := d.next + i }) HAV.out hnm h)
                have HNT : Hid (∀ w10 v' bs', Tk base w w10 xb y rb tb { d with next := d.next + i } lb d.next v' bs' → Tk base w (w10.setCell ⟨xb, 3, none⟩ (.int .i64 ((nx + 1 : Nat) : Int))) xb y rb tb { d with next := d.next + (i + 1) } lb d.next v' bs' ∧ w10.cell? ⟨xb, 3, none⟩ = some (.int .i64 (nx : Int)) ∧ ∀ j, w10.frozen? ⟨xb, j, none⟩ = false) := Lib.hid (fun w10 v' bs' h => by
                  have h2 := h.next (nx + 1)
                  have e : nx + 1 = d.next + (i + 1) := by rw [HNX.out]; omega
                  rw [← e]
                  refine ⟨h2, ?_, fun j => h.x.s.fz j⟩
                  rw [HNX.out]
                  exact h.x.s.cell 3)
                have HC3 : Hid (∀ w10 v' dn' bs', Tk base w w10 xb y rb tb { d with next := d.next + i } lb dn' v' bs' → w10.cell? ⟨xb, 3, none⟩ = some (.int .i64 (nx : Int))) := Lib.hid (fun w10 v' dn' bs' h => by
                  rw [HNX.out]
                  exact h.x.s.cell 3)
                have HLT := Lib.hid hlt
                clear hav hav' hac1 hac2
                generalize d.all.getD (nx - 1) 0 = bt at *
                generalize d.all.length = N at *
                generalize hnk : nx - 1 = nm at *
                clear hnk
                have hnmN : nm < N := hnm
                by_cases i0 : i = 0
                · subst i0
                  have HT5 : Hid (Tk base w (wr.setCell ⟨tb, 0, none⟩ (.int .i64 (nx : Int))) xb y rb tb { d with next := d.next + 0 } lb d.next (.slice vA 0 vc) (d.pre 0)) := by
                    have h := HT.out.set0 nx
                    have e : nx = d.next := by have := HNX.out; omega
                    rw [show Tk base w (wr.setCell ⟨tb, 0, none⟩ (.int .i64 (nx : Int))) xb y rb tb { d with next := d.next + 0 } lb d.next (.slice vA 0 vc) (d.pre 0) = Tk base w (wr.setCell ⟨tb, 0, none⟩ (.int .i64 (nx : Int))) xb y rb tb { d with next := d.next + 0 } lb nx (.slice vA 0 vc) (d.pre 0) from by rw [← e]]
                    exact Lib.hid h
                  have HTX := Lib.hid (fun q : Nat => HT5.out.below (below_dn (Below.refl _ _) q))
                  have g1n : decide (0 < M) = true := decide_eq_true (by have := HMB.out; omega)
                  have g1e : decide ((0 : Int) < (M : Int)) = true := g1d
                  have g1f : (0 : Int) < (M : Int) := g1
                  clear g1d g1
                  go_wp2_with fail
                  go_quiet (first | (go_at_call 30; exact Calls.quiet_of_same (HL9.out _)))
                  have HT5 : Hid (Tk base w ((wr.drewN nq).setCell ⟨tb, 0, none⟩ (.int .i64 (nx : Int))) xb y rb tb { d with next := d.next + 0 } lb d.next (.slice vA 0 vc) (d.pre 0)) := by
                    have h := (HT.out.below (below_dn (Below.refl _ _) nq)).set0 nx
                    have e : nx = d.next := by have := HNX.out; omega
                    rw [show Tk base w ((wr.drewN nq).setCell ⟨tb, 0, none⟩ (.int .i64 (nx : Int))) xb y rb tb { d with next := d.next + 0 } lb d.next (.slice vA 0 vc) (d.pre 0) = Tk base w ((wr.drewN nq).setCell ⟨tb, 0, none⟩ (.int .i64 (nx : Int))) xb y rb tb { d with next := d.next + 0 } lb nx (.slice vA 0 vc) (d.pre 0) from by rw [← e]]
                    exact Lib.hid h
                  go_upto_region 21 with (fail)
                  generalize (wr.drewN nq).setCell ⟨tb, 0, none⟩ (.int .i64 (nx : Int)) = w5 at *
                  clear t0 t1 tf r0 r1 rf c3 c4 HT HTX HL9
                  have HXA5 := Lib.hid (HXA.out _ _ _ _ HT5.out)
                  have HC35 := Lib.hid (HC3.out _ _ _ _ HT5.out)
                  have e0 : w5.drew.cell? ⟨tb, 1, none⟩ = some (.slice vA 0 vc) := HT5.out.t1
                  have e1 : w5.drew.cell? ⟨xb, 0, none⟩ = some (.slice (some ⟨ag, 0, none⟩) N ac) := HXA5.out.1
                  have e2 : w5.drew.cell? ⟨xb, 3, none⟩ = some (.int .i64 (nx : Int)) := HC35.out
                  have e3 : w5.drew.cell? ⟨ag, nm, none⟩ = some (.int .u8 (bt.toNat : Int)) := HXA5.out.2.1
                  refine wp_region_noPanic ?_
                  refine until_start (fun W => W.cell? ⟨tb, 1, none⟩ = some (.slice vA 0 vc) ∧ W.cell? ⟨xb, 0, none⟩ = some (.slice (some ⟨ag, 0, none⟩) N ac) ∧ W.cell? ⟨xb, 3, none⟩ = some (.int .i64 (nx : Int)) ∧ W.cell? ⟨ag, nm, none⟩ = some (.int .u8 (bt.toNat : Int))) 16 (by kernel_rfl) ⟨e0, e1, e2, e3⟩ (fun _ => ?_)
                  refine until_take (i := 0) (v := .pointer (some ⟨tb, 1, none⟩)) (some 109) [16] rfl rfl (by kernel_rfl) (by kernel_rfl) (by kernel_rfl) (by kernel_rfl) rfl rfl (fun _ _ _ h => h) (Or.inl ⟨by rfl, fun W hW => by go_simp⟩) ⟨e0, e1, e2, e3⟩ ?_
                  simp only [Act.put, List.setIfInBounds_toArray, List.set_cons_zero, List.set_cons_succ]
                  refine until_take (i := 2) (v := .pointer (some ⟨xb, 0, none⟩)) (some 111) [16] rfl rfl (by kernel_rfl) (by kernel_rfl) (by kernel_rfl) (by kernel_rfl) rfl rfl (fun _ _ _ h => h) (Or.inl ⟨by rfl, fun W hW => by go_simp⟩) ⟨e0, e1, e2, e3⟩ ?_
                  simp only [Act.put, List.setIfInBounds_toArray, List.set_cons_zero, List.set_cons_succ]
                  refine until_take (i := 6) (v := .pointer (some ⟨xb, 0, none⟩)) (some 115) [16] rfl rfl (by kernel_rfl) (by kernel_rfl) (by kernel_rfl) (by kernel_rfl) rfl rfl (fun _ _ _ h => h) (Or.inl ⟨by rfl, fun W hW => by go_simp⟩) ⟨e0, e1, e2, e3⟩ ?_
                  simp only [Act.put, List.setIfInBounds_toArray, List.set_cons_zero, List.set_cons_succ]
                  refine until_take (i := 1) (v := .slice vA 0 vc) (some 110) [16] rfl rfl (by kernel_rfl) (by kernel_rfl) (by kernel_rfl) (by kernel_rfl) rfl rfl (fun _ _ _ h => h) (Or.inl ⟨by rfl, fun W hW => by have hc := hW.1; go_simp⟩) ⟨e0, e1, e2, e3⟩ ?_
                  simp only [Act.put, List.setIfInBounds_toArray, List.set_cons_zero, List.set_cons_succ]
                  refine until_take (i := 3) (v := .pointer (some ⟨xb, 0, none⟩)) (some 112) [16] rfl rfl (by kernel_rfl) (by kernel_rfl) (by kernel_rfl) (by kernel_rfl) rfl rfl (fun _ _ _ h => h) (Or.inl ⟨by rfl, fun W hW => by go_simp⟩) ⟨e0, e1, e2, e3⟩ ?_
                  simp only [Act.put, List.setIfInBounds_toArray, List.set_cons_zero, List.set_cons_succ]
                  refine until_take (i := 7) (v := .pointer (some ⟨xb, 0, none⟩)) (some 116) [16] rfl rfl (by kernel_rfl) (by kernel_rfl) (by kernel_rfl) (by kernel_rfl) rfl rfl (fun _ _ _ h => h) (Or.inl ⟨by rfl, fun W hW => by go_simp⟩) ⟨e0, e1, e2, e3⟩ ?_
                  simp only [Act.put, List.setIfInBounds_toArray, List.set_cons_zero, List.set_cons_succ]
                  refine until_take (i := 4) (v := .pointer (some ⟨xb, 0, none⟩)) (some 113) [16] rfl rfl (by kernel_rfl) (by kernel_rfl) (by kernel_rfl) (by kernel_rfl) rfl rfl (fun _ _ _ h => h) (Or.inl ⟨by rfl, fun W hW => by go_simp⟩) ⟨e0, e1, e2, e3⟩ ?_
                  simp only [Act.put, List.setIfInBounds_toArray, List.set_cons_zero, List.set_cons_succ]
                  refine until_take (i := 8) (v := .pointer (some ⟨xb, 3, none⟩)) (some 117) [16] rfl rfl (by kernel_rfl) (by kernel_rfl) (by kernel_rfl) (by kernel_rfl) rfl rfl (fun _ _ _ h => h) (Or.inl ⟨by rfl, fun W hW => by go_simp⟩) ⟨e0, e1, e2, e3⟩ ?_
                  simp only [Act.put, List.setIfInBounds_toArray, List.set_cons_zero, List.set_cons_succ]
                  refine until_take (i := 5) (v := .slice (some ⟨ag, 0, none⟩) N ac) (some 114) [16] rfl rfl (by kernel_rfl) (by kernel_rfl) (by kernel_rfl) (by kernel_rfl) rfl rfl (fun _ _ _ h => h) (Or.inl ⟨by rfl, fun W hW => by have hc := hW.2.1; go_simp⟩) ⟨e0, e1, e2, e3⟩ ?_
                  simp only [Act.put, List.setIfInBounds_toArray, List.set_cons_zero, List.set_cons_succ]
                  refine until_take (i := 9) (v := .int .i64 (nx : Int)) (some 118) [16] rfl rfl (by kernel_rfl) (by kernel_rfl) (by kernel_rfl) (by kernel_rfl) rfl rfl (fun _ _ _ h => h) (Or.inl ⟨by rfl, fun W hW => by have hc := hW.2.2.1; go_simp⟩) ⟨e0, e1, e2, e3⟩ ?_
                  simp only [Act.put, List.setIfInBounds_toArray, List.set_cons_zero, List.set_cons_succ]
                  refine until_take (i := 10) (v := .int .i64 (nm : Int)) (some 119) [16] rfl rfl (by kernel_rfl) (by kernel_rfl) (by kernel_rfl) (by kernel_rfl) rfl rfl (fun _ _ _ h => h) (Or.inl ⟨by rfl, fun W hW => by have hc := hwn; go_simp⟩) ⟨e0, e1, e2, e3⟩ ?_
                  simp only [Act.put, List.setIfInBounds_toArray, List.set_cons_zero, List.set_cons_succ]
                  refine until_take (i := 11) (v := .pointer (some ⟨ag, nm, none⟩)) (some 120) [16] rfl rfl (by kernel_rfl) (by kernel_rfl) (by kernel_rfl) (by kernel_rfl) rfl rfl (fun _ _ _ h => h) (Or.inl ⟨by rfl, fun W hW => by have hc := hnmN; go_simp⟩) ⟨e0, e1, e2, e3⟩ ?_
                  simp only [Act.put, List.setIfInBounds_toArray, List.set_cons_zero, List.set_cons_succ]
                  refine until_take (i := 12) (v := .int .u8 (bt.toNat : Int)) (some 121) [16] rfl rfl (by kernel_rfl) (by kernel_rfl) (by kernel_rfl) (by kernel_rfl) rfl rfl (fun _ _ _ h => h) (Or.inl ⟨by rfl, fun W hW => by have hc := hW.2.2.2; go_simp⟩) ⟨e0, e1, e2, e3⟩ ?_
                  simp only [Act.put, List.setIfInBounds_toArray, List.set_cons_zero, List.set_cons_succ]
                  refine until_step (i := 13) (by kernel_rfl) rfl rfl (fun K hK => ?_)
                  go_simp
                  have HB8 := Lib.hid (below_a w5.drew (.cells #[.int .u8 (bt.toNat : Int)] 5))
                  have hr8 := RB.lit1 w5.drew (bt.toNat : Int) bt 5 rfl
                  have e8 : (w5.drew.alloc (.cells #[.int .u8 (bt.toNat : Int)] 5)).cell? ⟨tb, 1, none⟩ = some (.slice vA 0 vc) ∧ (w5.drew.alloc (.cells #[.int .u8 (bt.toNat : Int)] 5)).cell? ⟨xb, 0, none⟩ = some (.slice (some ⟨ag, 0, none⟩) N ac) ∧ (w5.drew.alloc (.cells #[.int .u8 (bt.toNat : Int)] 5)).cell? ⟨xb, 3, none⟩ = some (.int .i64 (nx : Int)) ∧ (w5.drew.alloc (.cells #[.int .u8 (bt.toNat : Int)] 5)).cell? ⟨ag, nm, none⟩ = some (.int .u8 (bt.toNat : Int)) := ⟨keepc HB8.out e0, keepc HB8.out e1, keepc HB8.out e2, keepc HB8.out e3⟩
                  have ho8 : (w5.drew.alloc (.cells #[.int .u8 (bt.toNat : Int)] 5)).ownsRow w.heap.size 5 1 (.slice vA 0 vc) 0 (bv (d.pre 0)) := own_below (w := w5.drew) (by have h := HT5.out.own; rw [HPL.out] at h; exact h) HB8.out
                  have hs8 : w.heap.size ≤ (w5.drew.alloc (.cells #[.int .u8 (bt.toNat : Int)] 5)).heap.size := Nat.le_trans (HT5.out.x.ch.size) HB8.out.size
                  obtain ⟨g8, hg8⟩ : ∃ g8, g8 = w5.heap.size := ⟨_, rfl⟩
                  have hd8 : w5.drew.heap.size = g8 := hg8.symm
                  rw [hd8] at hr8
                  obtain ⟨w8, hw8⟩ : ∃ w8, w8 = (w5.alloc (.cells #[.int .u8 (bt.toNat : Int)] 5)).drew := ⟨_, rfl⟩
                  rw [show w5.drew.alloc (.cells #[.int .u8 (bt.toNat : Int)] 5) = w8 from hw8.symm] at HB8 hr8 e8 ho8 hs8
                  have HB9 : Hid (Below w5.heap.size w5 w8) := Lib.hid ⟨HB8.out.os, HB8.out.tape, HB8.out.output, HB8.out.size, HB8.out.block⟩
                  rw [← hw8, ← hg8]
                  clear hd8 hg8 hw8
                  refine hK.out _ _ e8 (fun _ => ?_)
                  clear hK
                  try simp only [Act.put, List.setIfInBounds_toArray, List.set_cons_zero, List.set_cons_succ]
                  refine until_step (i := 14) (by kernel_rfl) rfl rfl (fun K hK => ?_)
                  refine step_app _ rfl (.tmp 110) (.tmp 122) 28 5 rfl undByte infoByte w.heap.size (.slice vA 0 vc) 0 _ rfl ho8 (some ⟨g8, 0, none⟩) 1 1 [bt] rfl hr8 (by have := HMB.out; omega) hs8 ?_
                  intro v9 w9 r9 g9 o9
                  have hk9 : ∀ k, k < w.heap.size → some k ≠ (Value.slice vA 0 vc).ownBlock := fun k hk e => by have := (HT5.out.vlo e.symm).1; omega
                  have ht9 : some tb ≠ (Value.slice vA 0 vc).ownBlock := fun e => (HT5.out.vlo e.symm).2.2.2 rfl
                  have e9 : w9.cell? ⟨tb, 1, none⟩ = some (.slice vA 0 vc) ∧ w9.cell? ⟨xb, 0, none⟩ = some (.slice (some ⟨ag, 0, none⟩) N ac) ∧ w9.cell? ⟨xb, 3, none⟩ = some (.int .i64 (nx : Int)) ∧ w9.cell? ⟨ag, nm, none⟩ = some (.int .u8 (bt.toNat : Int)) := ⟨g9.cell e8.1 ht9, g9.cell e8.2.1 (hk9 _ HXA5.out.2.2.1), g9.cell e8.2.2.1 (hk9 _ HXA5.out.2.2.1), g9.cell e8.2.2.2 (hk9 _ HXA5.out.2.2.2)⟩
                  have hx8 : tb < w8.heap.size := Nat.lt_of_lt_of_le (Array.getElem?_eq_some_iff.1 HT5.out.tblk).1 HB9.out.size
                  have f9 : w9.frozen? ⟨tb, 1, none⟩ = false := (World.frozen?_of_block (g9.block tb hx8 ht9)).trans ((World.frozen?_of_block (HB9.out.block tb (Array.getElem?_eq_some_iff.1 HT5.out.tblk).1)).trans (HT5.out.tf 1))
                  have HO9 := Lib.hid (And.intro r9 (And.intro g9 o9))
                  obtain ⟨A9, k9, rfl, -, -⟩ := RB.of_own r9
                  clear r9 g9 o9 e8 ho8 hs8 hr8 hk9 ht9 hx8
                  show K (Act.put _ (some 123) _) _
                  refine hK.out _ _ e9 (fun _ => ?_)
                  clear hK
                  try simp only [Act.put, List.setIfInBounds_toArray, List.set_cons_zero, List.set_cons_succ]
                  refine until_take (i := 15) (v := .pointer (some ⟨tb, 1, none⟩)) (some 124) [16] rfl rfl (by kernel_rfl) (by kernel_rfl) (by kernel_rfl) (by kernel_rfl) rfl rfl (fun _ _ _ h => h) (Or.inl ⟨by rfl, fun W hW => by go_simp⟩) e9 ?_
                  simp only [Act.put, List.setIfInBounds_toArray, List.set_cons_zero, List.set_cons_succ]
                  refine until_last (by kernel_rfl) rfl (fun K hK => ?_)
                  go_simp
                  have HT10 := Lib.hid (HT5.out.app (x := bt) (v' := .slice A9 (0 + 1) k9) HB9.out (by have h := HO9.out.1; rw [HPL.out]; exact h) HO9.out.2.1 HO9.out.2.2)
                  generalize w9.setCell ⟨tb, 1, none⟩ (.slice A9 (0 + 1) k9) = w10 at *
                  clear e9 f9
                  refine hK.out _ _ ?_
                  clear hK
                  try simp only [Act.put, List.setIfInBounds_toArray, List.set_cons_zero, List.set_cons_succ]
                  refine wpAnyH_done (by kernel_rfl) ?_ _
                  refine NoPanic.normal ?_
                  clear e0 e1 e2 e3
                  obtain ⟨z1, z2, z3⟩ := HNT.out w10 _ _ HT10.out
                  have HZ1 := Lib.hid z1
                  clear z1
                  go_wp2_with fail
                  go_roundg (T - (0 + 1))
                  case measure => have := HLT.out; have := HKX.out; omega
                  case rel => exact ⟨0 + 1, d.next, _, by have := HLT.out; omega, Nat.le_refl _, (if_neg (Nat.succ_ne_zero _)).symm, by rw [HGS.out]; exact HZ1.out⟩
                · have i0b : ((i : Int) == 0) = false := by simp; omega
                  have i0i : ¬ ((i : Int) = 0) := by omega
                  go_wp2_with fail
                  go_quiet (first | (go_at_call 30; exact Calls.quiet_of_same (HL9.out _)))
                  have HT5 : Hid (Tk base w (wr.drewN nq) xb y rb tb { d with next := d.next + i } lb d.next (.slice vA i vc) (d.pre i)) := by
                    have h := HT.out.below (below_dn (Below.refl _ _) nq)
                    have e : dn = d.next := by rw [HDN.out, if_neg i0]
                    rw [e] at h
                    exact Lib.hid h
                  go_upto_region 21 with (fail)
                  generalize wr.drewN nq = w5 at *
                  clear t0 t1 tf r0 r1 rf c3 c4 HT HL9
                  have HXA5 := Lib.hid (HXA.out _ _ _ _ HT5.out)
                  have HC35 := Lib.hid (HC3.out _ _ _ _ HT5.out)
                  have e0 : w5.drew.cell? ⟨tb, 1, none⟩ = some (.slice vA i vc) := HT5.out.t1
                  have e1 : w5.drew.cell? ⟨xb, 0, none⟩ = some (.slice (some ⟨ag, 0, none⟩) N ac) := HXA5.out.1
                  have e2 : w5.drew.cell? ⟨xb, 3, none⟩ = some (.int .i64 (nx : Int)) := HC35.out
                  have e3 : w5.drew.cell? ⟨ag, nm, none⟩ = some (.int .u8 (bt.toNat : Int)) := HXA5.out.2.1
                  refine wp_region_noPanic ?_
                  refine until_start (fun W => W.cell? ⟨tb, 1, none⟩ = some (.slice vA i vc) ∧ W.cell? ⟨xb, 0, none⟩ = some (.slice (some ⟨ag, 0, none⟩) N ac) ∧ W.cell? ⟨xb, 3, none⟩ = some (.int .i64 (nx : Int)) ∧ W.cell? ⟨ag, nm, none⟩ = some (.int .u8 (bt.toNat : Int))) 16 (by kernel_rfl) ⟨e0, e1, e2, e3⟩ (fun _ => ?_)
                  refine until_take (i := 0) (v := .pointer (some ⟨tb, 1, none⟩)) (some 109) [16] rfl rfl (by kernel_rfl) (by kernel_rfl) (by kernel_rfl) (by kernel_rfl) rfl rfl (fun _ _ _ h => h) (Or.inl ⟨by rfl, fun W hW => by go_simp⟩) ⟨e0, e1, e2, e3⟩ ?_
                  simp only [Act.put, List.setIfInBounds_toArray, List.set_cons_zero, List.set_cons_succ]
                  refine until_take (i := 2) (v := .pointer (some ⟨xb, 0, none⟩)) (some 111) [16] rfl rfl (by kernel_rfl) (by kernel_rfl) (by kernel_rfl) (by kernel_rfl) rfl rfl (fun _ _ _ h => h) (Or.inl ⟨by rfl, fun W hW => by go_simp⟩) ⟨e0, e1, e2, e3⟩ ?_
                  simp only [Act.put, List.setIfInBounds_toArray, List.set_cons_zero, List.set_cons_succ]
                  refine until_take (i := 6) (v := .pointer (some ⟨xb, 0, none⟩)) (some 115) [16] rfl rfl (by kernel_rfl) (by kernel_rfl) (by kernel_rfl) (by kernel_rfl) rfl rfl (fun _ _ _ h => h) (Or.inl ⟨by rfl, fun W hW => by go_simp⟩) ⟨e0, e1, e2, e3⟩ ?_
                  simp only [Act.put, List.setIfInBounds_toArray, List.set_cons_zero, List.set_cons_succ]
                  refine until_take (i := 1) (v := .slice vA i vc) (some 110) [16] rfl rfl (by kernel_rfl) (by kernel_rfl) (by kernel_rfl) (by kernel_rfl) rfl rfl (fun _ _ _ h => h) (Or.inl ⟨by rfl, fun W hW => by have hc := hW.1; go_simp⟩) ⟨e0, e1, e2, e3⟩ ?_
                  simp only [Act.put, List.setIfInBounds_toArray, List.set_cons_zero, List.set_cons_succ]
                  refine until_take (i := 3) (v := .pointer (some ⟨xb, 0, none⟩)) (some 112) [16] rfl rfl (by kernel_rfl) (by kernel_rfl) (by kernel_rfl) (by kernel_rfl) rfl rfl (fun _ _ _ h => h) (Or.inl ⟨by rfl, fun W hW => by go_simp⟩) ⟨e0, e1, e2, e3⟩ ?_
                  simp only [Act.put, List.setIfInBounds_toArray, List.set_cons_zero, List.set_cons_succ]
                  refine until_take (i := 7) (v := .pointer (some ⟨xb, 0, none⟩)) (some 116) [16] rfl rfl (by kernel_rfl) (by kernel_rfl) (by kernel_rfl) (by kernel_rfl) rfl rfl (fun _ _ _ h => h) (Or.inl ⟨by rfl, fun W hW => by go_simp⟩) ⟨e0, e1, e2, e3⟩ ?_
                  simp only [Act.put, List.setIfInBounds_toArray, List.set_cons_zero, List.set_cons_succ]
                  refine until_take (i := 4) (v := .pointer (some ⟨xb, 0, none⟩)) (some 113) [16] rfl rfl (by kernel_rfl) (by kernel_rfl) (by kernel_rfl) (by kernel_rfl) rfl rfl (fun _ _ _ h => h) (Or.inl ⟨by rfl, fun W hW => by go_simp⟩) ⟨e0, e1, e2, e3⟩ ?_
                  simp only [Act.put, List.setIfInBounds_toArray, List.set_cons_zero, List.set_cons_succ]
                  refine until_take (i := 8) (v := .pointer (some ⟨xb, 3, none⟩)) (some 117) [16] rfl rfl (by kernel_rfl) (by kernel_rfl) (by kernel_rfl) (by kernel_rfl) rfl rfl (fun _ _ _ h => h) (Or.inl ⟨by rfl, fun W hW => by go_simp⟩) ⟨e0, e1, e2, e3⟩ ?_
                  simp only [Act.put, List.setIfInBounds_toArray, List.set_cons_zero, List.set_cons_succ]
                  refine until_take (i := 5) (v := .slice (some ⟨ag, 0, none⟩) N ac) (some 114) [16] rfl rfl (by kernel_rfl) (by kernel_rfl) (by kernel_rfl) (by kernel_rfl) rfl rfl (fun _ _ _ h => h) (Or.inl ⟨by rfl, fun W hW => by have hc := hW.2.1; go_simp⟩) ⟨e0, e1, e2, e3⟩ ?_
                  simp only [Act.put, List.setIfInBounds_toArray, List.set_cons_zero, List.set_cons_succ]
                  refine until_take (i := 9) (v := .int .i64 (nx : Int)) (some 118) [16] rfl rfl (by kernel_rfl) (by kernel_rfl) (by kernel_rfl) (by kernel_rfl) rfl rfl (fun _ _ _ h => h) (Or.inl ⟨by rfl, fun W hW => by have hc := hW.2.2.1; go_simp⟩) ⟨e0, e1, e2, e3⟩ ?_
                  simp only [Act.put, List.setIfInBounds_toArray, List.set_cons_zero, List.set_cons_succ]
                  refine until_take (i := 10) (v := .int .i64 (nm : Int)) (some 119) [16] rfl rfl (by kernel_rfl) (by kernel_rfl) (by kernel_rfl) (by kernel_rfl) rfl rfl (fun _ _ _ h => h) (Or.inl ⟨by rfl, fun W hW => by have hc := hwn; go_simp⟩) ⟨e0, e1, e2, e3⟩ ?_
                  simp only [Act.put, List.setIfInBounds_toArray, List.set_cons_zero, List.set_cons_succ]
                  refine until_take (i := 11) (v := .pointer (some ⟨ag, nm, none⟩)) (some 120) [16] rfl rfl (by kernel_rfl) (by kernel_rfl) (by kernel_rfl) (by kernel_rfl) rfl rfl (fun _ _ _ h => h) (Or.inl ⟨by rfl, fun W hW => by have hc := hnmN; go_simp⟩) ⟨e0, e1, e2, e3⟩ ?_
                  simp only [Act.put, List.setIfInBounds_toArray, List.set_cons_zero, List.set_cons_succ]
                  refine until_take (i := 12) (v := .int .u8 (bt.toNat : Int)) (some 121) [16] rfl rfl (by kernel_rfl) (by kernel_rfl) (by kernel_rfl) (by kernel_rfl) rfl rfl (fun _ _ _ h => h) (Or.inl ⟨by rfl, fun W hW => by have hc := hW.2.2.2; go_simp⟩) ⟨e0, e1, e2, e3⟩ ?_
                  simp only [Act.put, List.setIfInBounds_toArray, List.set_cons_zero, List.set_cons_succ]
                  refine until_step (i := 13) (by kernel_rfl) rfl rfl (fun K hK => ?_)
                  go_simp
                  have HB8 := Lib.hid (below_a w5.drew (.cells #[.int .u8 (bt.toNat : Int)] 5))
                  have hr8 := RB.lit1 w5.drew (bt.toNat : Int) bt 5 rfl
                  have e8 : (w5.drew.alloc (.cells #[.int .u8 (bt.toNat : Int)] 5)).cell? ⟨tb, 1, none⟩ = some (.slice vA i vc) ∧ (w5.drew.alloc (.cells #[.int .u8 (bt.toNat : Int)] 5)).cell? ⟨xb, 0, none⟩ = some (.slice (some ⟨ag, 0, none⟩) N ac) ∧ (w5.drew.alloc (.cells #[.int .u8 (bt.toNat : Int)] 5)).cell? ⟨xb, 3, none⟩ = some (.int .i64 (nx : Int)) ∧ (w5.drew.alloc (.cells #[.int .u8 (bt.toNat : Int)] 5)).cell? ⟨ag, nm, none⟩ = some (.int .u8 (bt.toNat : Int)) := ⟨keepc HB8.out e0, keepc HB8.out e1, keepc HB8.out e2, keepc HB8.out e3⟩
                  have ho8 : (w5.drew.alloc (.cells #[.int .u8 (bt.toNat : Int)] 5)).ownsRow w.heap.size 5 1 (.slice vA i vc) i (bv (d.pre i)) := own_below (w := w5.drew) (by have h := HT5.out.own; rw [HPL.out] at h; exact h) HB8.out
                  have hs8 : w.heap.size ≤ (w5.drew.alloc (.cells #[.int .u8 (bt.toNat : Int)] 5)).heap.size := Nat.le_trans (HT5.out.x.ch.size) HB8.out.size
                  obtain ⟨g8, hg8⟩ : ∃ g8, g8 = w5.heap.size := ⟨_, rfl⟩
                  have hd8 : w5.drew.heap.size = g8 := hg8.symm
                  rw [hd8] at hr8
                  obtain ⟨w8, hw8⟩ : ∃ w8, w8 = (w5.alloc (.cells #[.int .u8 (bt.toNat : Int)] 5)).drew := ⟨_, rfl⟩
                  rw [show w5.drew.alloc (.cells #[.int .u8 (bt.toNat : Int)] 5) = w8 from hw8.symm] at HB8 hr8 e8 ho8 hs8
                  have HB9 : Hid (Below w5.heap.size w5 w8) := Lib.hid ⟨HB8.out.os, HB8.out.tape, HB8.out.output, HB8.out.size, HB8.out.block⟩
                  rw [← hw8, ← hg8]
                  clear hd8 hg8 hw8
                  refine hK.out _ _ e8 (fun _ => ?_)
                  clear hK
                  try simp only [Act.put, List.setIfInBounds_toArray, List.set_cons_zero, List.set_cons_succ]
                  refine until_step (i := 14) (by kernel_rfl) rfl rfl (fun K hK => ?_)
                  refine step_app _ rfl (.tmp 110) (.tmp 122) 28 5 rfl undByte infoByte w.heap.size (.slice vA i vc) i _ rfl ho8 (some ⟨g8, 0, none⟩) 1 1 [bt] rfl hr8 (by have := HMB.out; omega) hs8 ?_
                  intro v9 w9 r9 g9 o9
                  have hk9 : ∀ k, k < w.heap.size → some k ≠ (Value.slice vA i vc).ownBlock := fun k hk e => by have := (HT5.out.vlo e.symm).1; omega
                  have ht9 : some tb ≠ (Value.slice vA i vc).ownBlock := fun e => (HT5.out.vlo e.symm).2.2.2 rfl
                  have e9 : w9.cell? ⟨tb, 1, none⟩ = some (.slice vA i vc) ∧ w9.cell? ⟨xb, 0, none⟩ = some (.slice (some ⟨ag, 0, none⟩) N ac) ∧ w9.cell? ⟨xb, 3, none⟩ = some (.int .i64 (nx : Int)) ∧ w9.cell? ⟨ag, nm, none⟩ = some (.int .u8 (bt.toNat : Int)) := ⟨g9.cell e8.1 ht9, g9.cell e8.2.1 (hk9 _ HXA5.out.2.2.1), g9.cell e8.2.2.1 (hk9 _ HXA5.out.2.2.1), g9.cell e8.2.2.2 (hk9 _ HXA5.out.2.2.2)⟩
                  have hx8 : tb < w8.heap.size := Nat.lt_of_lt_of_le (Array.getElem?_eq_some_iff.1 HT5.out.tblk).1 HB9.out.size
                  have f9 : w9.frozen? ⟨tb, 1, none⟩ = false := (World.frozen?_of_block (g9.block tb hx8 ht9)).trans ((World.frozen?_of_block (HB9.out.block tb (Array.getElem?_eq_some_iff.1 HT5.out.tblk).1)).trans (HT5.out.tf 1))
                  have HO9 := Lib.hid (And.intro r9 (And.intro g9 o9))
                  obtain ⟨A9, k9, rfl, -, -⟩ := RB.of_own r9
                  clear r9 g9 o9 e8 ho8 hs8 hr8 hk9 ht9 hx8
                  show K (Act.put _ (some 123) _) _
                  refine hK.out _ _ e9 (fun _ => ?_)
                  clear hK
                  try simp only [Act.put, List.setIfInBounds_toArray, List.set_cons_zero, List.set_cons_succ]
                  refine until_take (i := 15) (v := .pointer (some ⟨tb, 1, none⟩)) (some 124) [16] rfl rfl (by kernel_rfl) (by kernel_rfl) (by kernel_rfl) (by kernel_rfl) rfl rfl (fun _ _ _ h => h) (Or.inl ⟨by rfl, fun W hW => by go_simp⟩) e9 ?_
                  simp only [Act.put, List.setIfInBounds_toArray, List.set_cons_zero, List.set_cons_succ]
                  refine until_last (by kernel_rfl) rfl (fun K hK => ?_)
                  go_simp
                  have HT10 := Lib.hid (HT5.out.app (x := bt) (v' := .slice A9 (i + 1) k9) HB9.out (by have h := HO9.out.1; rw [HPL.out]; exact h) HO9.out.2.1 HO9.out.2.2)
                  generalize w9.setCell ⟨tb, 1, none⟩ (.slice A9 (i + 1) k9) = w10 at *
                  clear e9 f9
                  refine hK.out _ _ ?_
                  clear hK
                  try simp only [Act.put, List.setIfInBounds_toArray, List.set_cons_zero, List.set_cons_succ]
                  refine wpAnyH_done (by kernel_rfl) ?_ _
                  refine NoPanic.normal ?_
                  clear e0 e1 e2 e3
                  obtain ⟨z1, z2, z3⟩ := HNT.out w10 _ _ HT10.out
                  have HZ1 := Lib.hid z1
                  clear z1
                  go_wp2_with fail
                  go_roundg (T - (i + 1))
                  case measure => have := HLT.out; have := HKX.out; omega
                  case rel => exact ⟨i + 1, d.next, _, by have := HLT.out; omega, Nat.le_refl _, (if_neg (Nat.succ_ne_zero _)).symm, by rw [HGS.out]; exact HZ1.out⟩
              · have hie : i = T := by omega
                have HD := Lib.hid (fun q : Nat => fresh_done (M := M) (HT.out.below (below_dn (Below.refl _ _) q)) HDN.out HOK.out HFN.out (hie.trans HTT.out))
                have hcas : ¬ i < M ∨ (i < M ∧ ¬ nx < d.fin) ∨ (i < M ∧ nx < d.fin ∧ ¬ nx < d.edge) := by have := HTT.out; have := HNX.out; omega
                clear hie
                rcases hcas with h1 | ⟨h1, h2⟩ | ⟨h1, h2, h3⟩
                · have g1d : decide ((i : Int) < (M : Int)) = false := decide_eq_false (by omega)
                  go_wp2_with fail
                  go_quiet (first | (go_at_call 30; exact Calls.quiet_of_same (HL9.out _)))
                  have HDQ := Lib.hid (HD.out nq)
                  go_wp2_with fail
                  exact bodyPost_ret (results_c0 rfl _ _ rb _ _ rfl HDQ.out.1 Try.underlying40 rfl szTook) rfl HDQ.out.2
                · have g1d : decide ((i : Int) < (M : Int)) = true := decide_eq_true (by omega)
                  have g2d : decide ((nx : Int) < (d.fin : Int)) = false := decide_eq_false (by omega)
                  go_wp2_with fail
                  go_quiet (first | (go_at_call 30; exact Calls.quiet_of_same (HL9.out _)))
                  have HDQ := Lib.hid (HD.out nq)
                  go_wp2_with fail
                  exact bodyPost_ret (results_c0 rfl _ _ rb _ _ rfl HDQ.out.1 Try.underlying40 rfl szTook) rfl HDQ.out.2
                · have g1d : decide ((i : Int) < (M : Int)) = true := decide_eq_true (by omega)
                  have g2d : decide ((nx : Int) < (d.fin : Int)) = true := decide_eq_true (by omega)
                  have g3d : decide ((nx : Int) < (d.edge : Int)) = false := decide_eq_false (by omega)
                  go_wp2_with fail
                  go_quiet (first | (go_at_call 30; exact Calls.quiet_of_same (HL9.out _)))
                  have HDQ := Lib.hid (HD.out nq)
                  go_wp2_with fail
                  exact bodyPost_ret (results_c0 rfl _ _ rb _ _ rfl HDQ.out.1 Try.underlying40 rfl szTook) rfl HDQ.out.2
          · have hi0 : (0 : Int) < (i : Int) := by omega
            have HD := Lib.hid (lost_done HT.out HDN.out HAT.out HOK.out (by omega) (.inr (by
              cases hb : d.L d.next with
              | false => rfl
              | true => exact absurd (HOK.out.lost _ hb).2 (Nat.lt_irrefl _))))
            go_wp2_with fail
            exact bodyPost_ret (results_c0 rfl _ _ rb _ _ rfl HD.out.1 Try.underlying40 rfl szTook) rfl HD.out.2
end
end Go.Proofs.Ytgcblajhdebigaa

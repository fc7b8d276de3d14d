/- The document's manager: Join and New. Conditions: it stands. -/
import Derived.Test.YtpkhalneclmoeaaPaR
import Derived.Deep.Cut
namespace Go.Proofs.Ytpkhalneclmoeaa
set_option linter.unusedVariables false
set_option linter.unusedSimpArgs false
open Go.RowKit Go.Lib

theorem setF_mem {p : Pm} {L : List (Int × Int)} (h : ∀ u, u ∈ L ↔ u ∈ prs p.fl 16) {i j : Nat} (hi : i < 4) (hj : j < 4) : ∀ u, u ∈ L ++ [((i : Int), (j : Int))] ↔ u ∈ prs (p.setF i j true).fl 16 := fun u => by
  rw [List.mem_append, List.mem_singleton, h u, prs_mem, prs_mem]
  constructor
  · rintro (⟨a, b, ha, hb, hab, rfl⟩ | rfl)
    · refine ⟨a, b, ha, hb, ?_, rfl⟩
      show upd2 p.fl i j true a b = true
      unfold upd2
      split
      · rfl
      · exact hab
    · refine ⟨i, j, hi, hj, ?_, rfl⟩
      show upd2 p.fl i j true i j = true
      unfold upd2
      rw [if_pos ⟨rfl, rfl⟩]
  · rintro ⟨a, b, ha, hb, hab, rfl⟩
    have hab : upd2 p.fl i j true a b = true := hab
    unfold upd2 at hab
    by_cases e : a = i ∧ b = j
    · exact .inr (by rw [e.1, e.2])
    · rw [if_neg e] at hab
      exact .inl ⟨a, b, ha, hb, hab, rfl⟩

/-- A pair was put behind its pairs. -/
theorem Rf.appended {base : Nat} {w w' : World} {xb : Nat} {p : Pm} {L : List (Int × Int)} {y : Rx} (h : Rf base w xb p L y) (k : Ch w w' (fun k => (Value.slice y.lA y.ln y.lc).ownBlock = some k)) {A : Option Addr} {n c : Nat} {q : Pm} {M : List (Int × Int)} (o : w'.ownsRow base 48 2 (.slice A n c) n (pv M)) (nd : M.Nodup) (mem : ∀ u, u ∈ M ↔ u ∈ prs q.fl 16) (e1 : q.ow = p.ow) (e2 : q.ot = p.ot) (e3 : q.mo = p.mo) : Rf base (w'.setCell ⟨xb, 2, none⟩ (.slice A n c)) xb q M { y with lA := A, ln := n, lc := c } ∧ Ch w (w'.setCell ⟨xb, 2, none⟩ (.slice A n c)) (y.T xb) := by
  have hB := h.blk.ch k (fun e => own_type h.l h.blk (by decide) e)
  have h1 := own_ch2 h.o k (fun g hg e => own_apart h.o h.l (by decide) hg e)
  have h2 := own_ch2 h.t k (fun g hg e => own_apart h.t h.l (by decide) hg e)
  refine ⟨⟨?_, ?_, ?_, ?_, nd, mem⟩, (k.mono fun _ _ e => .inr e).then_ ((ch_set (b := xb)).mono fun _ _ e => .inl e)⟩
  · rw [e3]
    exact hB.set 2 (.slice A n c)
  · rw [e1]
    exact own_ch2 h1 ch_set (fun g hg e => own_type h1 hB (by decide) (by rw [hg, e]))
  · rw [e2]
    exact own_ch2 h2 ch_set (fun g hg e => own_type h2 hB (by decide) (by rw [hg, e]))
  · exact own_ch2 o ch_set (fun g hg e => own_type o hB (by decide) (by rw [hg, e]))

set_option maxHeartbeats 3200000 in
theorem rjoin_any {base : Nat} {w : World} {xb : Nat} {p : Pm} {L : List (Int × Int)} {y : Rx} (h : Rf base w xb p L y) (hb : base ≤ w.heap.size) (x z : Int) : Calls Try.prog 20 #[ptr xb, .int .i64 x, .int .i64 z] w (DidR base w xb y (.int .i64 (p.joinE x z)) (p.joinS x z)) := by
  have HX := Lib.hid (rmay_any x w)
  have HZ := Lib.hid (rmay_any z w)
  have HR := Lib.hid h
  have HBB := Lib.hid hb
  unfold ptr
  cases hm : mb x
  · rw [hm] at HX
    have hm2 : (mb x && mb z) = false := by rw [hm]; rfl
    rw [joinS_bad hm2, joinE_bad hm2]
    clear h hm hm2 hb
    go_enter Try.func20, Try.ntmps20
    go_wp2_with fail
    refine (HX.out).mono ?_
    rintro e w1 ⟨rfl, rfl⟩
    go_wp2_with fail
    go_ret
    exact ⟨rfl, L, y, HR.out, Ch.refl _ _⟩
  · rw [hm] at HX
    cases hz : mb z
    · rw [hz] at HZ
      have hm2 : (mb x && mb z) = false := by rw [hz, Bool.and_false]
      rw [joinS_bad hm2, joinE_bad hm2]
      clear h hm hz hm2 hb
      go_enter Try.func20, Try.ntmps20
      go_wp2_with fail
      refine (HX.out).mono ?_
      rintro e w1 ⟨rfl, rfl⟩
      go_wp2_with fail
      refine (HZ.out).mono ?_
      rintro e w1 ⟨rfl, rfl⟩
      go_wp2_with fail
      go_ret
      exact ⟨rfl, L, y, HR.out, Ch.refl _ _⟩
    · rw [hz] at HZ
      obtain ⟨i, rfl, hi⟩ := mb_nat hm
      obtain ⟨j, rfl, hj⟩ := mb_nat hz
      have HHO := Lib.hid (h.has_o hi)
      have HHT := Lib.hid (h.has_t hj)
      have HF := Lib.hid (rflow_any h (i : Int) (j : Int))
      have hgb : p.goneB (i : Int) (j : Int) = p.fl i j := goneB_good hi hj
      rw [h.flow, hgb] at HF
      have c0 := h.c0
      have c1 := h.c1
      have c2 := h.c2
      have c3 := h.c3
      have f2 := h.blk.fz 2
      have hln := h.ln
      have h16 := cnt_le p
      have hcp := h.rl.2.1
      have hmx := h.rl.2.2.1
      have HL := Lib.hid h.l
      have HM16 : Hid (y.ln ≤ 16) := Lib.hid (by omega)
      have H6 := Lib.hid (@join6 p i j hi hj)
      have H8 := Lib.hid (@join8 p i j hi hj)
      have H7 := Lib.hid (@join7 p i j hi hj)
      have H0 := Lib.hid (@join0 p i j hi hj)
      have HSN := Lib.hid (@joinS_no p (i : Int) (j : Int))
      have HSY := Lib.hid (@joinS_yes p i j)
      have HFU : Hid (p.full = decide (p.mo ≤ y.ln)) := Lib.hid (by rw [hln]; rfl)
      have HNI : Hid (p.fl i j = false → (L ++ [((i : Int), (j : Int))]).Nodup) := Lib.hid (fun hf => by
        rw [List.nodup_append]
        refine ⟨h.nd, List.pairwise_singleton _ _, fun a ha b hbb => ?_⟩
        rw [List.mem_singleton] at hbb
        rw [hbb]
        rintro rfl
        rw [h.mem, prs_at hi hj, hf] at ha
        cases ha)
      have HMEM := Lib.hid (setF_mem h.mem hi hj)
      obtain ⟨oA, on, oc, tA, tn, tc, A, n, c⟩ := y
      dsimp only at HHO HHT c0 c1 c2 hcp hmx HL HM16 HFU
      clear h hm hz hb hgb hln h16 hi hj
      cases hu : p.ow i
      · have hu2 : (p.ow i && p.ot j) = false := by rw [hu]; rfl
        rw [HSN.out (by rw [H6.out hu2]; decide), H6.out hu2]
        rw [hu] at HHO
        clear hu hu2
        go_enter Try.func20, Try.ntmps20
        go_wp2_with fail
        refine (HX.out).mono ?_
        rintro e w1 ⟨rfl, rfl⟩
        go_wp2_with fail
        refine (HZ.out).mono ?_
        rintro e w1 ⟨rfl, rfl⟩
        go_wp2_with fail
        refine (HHO.out).mono ?_
        rintro e w1 ⟨rfl, rfl⟩
        go_wp2_with fail
        go_ret
        exact ⟨rfl, L, _, HR.out, Ch.refl _ _⟩
      · rw [hu] at HHO
        cases hv : p.ot j
        · have hu2 : (p.ow i && p.ot j) = false := by rw [hv, Bool.and_false]
          rw [HSN.out (by rw [H6.out hu2]; decide), H6.out hu2]
          rw [hv] at HHT
          clear hu hv hu2
          go_enter Try.func20, Try.ntmps20
          go_wp2_with fail
          refine (HX.out).mono ?_
          rintro e w1 ⟨rfl, rfl⟩
          go_wp2_with fail
          refine (HZ.out).mono ?_
          rintro e w1 ⟨rfl, rfl⟩
          go_wp2_with fail
          refine (HHO.out).mono ?_
          rintro e w1 ⟨rfl, rfl⟩
          go_wp2_with fail
          refine (HHT.out).mono ?_
          rintro e w1 ⟨rfl, rfl⟩
          go_wp2_with fail
          go_ret
          exact ⟨rfl, L, _, HR.out, Ch.refl _ _⟩
        · have hu2 : (p.ow i && p.ot j) = true := by rw [hu, hv]; rfl
          rw [hv] at HHT
          clear hu hv
          cases hf : p.fl i j
          · rw [hf] at HF
            cases hfu : p.full
            · rw [hfu] at HFU
              rw [HSY.out (H0.out hu2 hf hfu), H0.out hu2 hf hfu]
              have HNI := Lib.hid (HNI.out hf)
              have hd : decide (p.mo ≤ n) = false := HFU.out.symm
              have hd2 : ¬ p.mo ≤ n := of_decide_eq_false hd
              have hd3 : ¬ (p.mo : Int) ≤ (n : Int) := by omega
              have hd4 : decide ((p.mo : Int) ≤ (n : Int)) = false := decide_eq_false hd3
              clear hf hfu hu2
              go_enter Try.func20, Try.ntmps20
              go_wp2_with fail
              refine (HX.out).mono ?_
              rintro e w1 ⟨rfl, rfl⟩
              go_wp2_with fail
              refine (HZ.out).mono ?_
              rintro e w1 ⟨rfl, rfl⟩
              go_wp2_with fail
              refine (HHO.out).mono ?_
              rintro e w1 ⟨rfl, rfl⟩
              go_wp2_with fail
              refine (HHT.out).mono ?_
              rintro e w1 ⟨rfl, rfl⟩
              go_wp2_with fail
              refine (HF.out).mono ?_
              rintro e w1 ⟨rfl, rfl⟩
              go_wp2_with fail
              go_quiet (fail)
              have HRQ := Lib.hid (HR.out.drewN nq)
              have c2 := HRQ.out.c2
              clear c0 c1 c3 f2
              have HCQ : Hid (Ch w1 (w1.drewN nq) (fun k => k = xb)) := Lib.hid ((Ch.refl _ _).drewN nq)
              have HSQ : Hid (base ≤ (w1.drewN nq).heap.size) := Lib.hid HBB.out
              generalize w1.drewN nq = w2 at *
              go_wp2_with (at_builtin; refine wpList_app3 (base := base) rfl _ _ 39 48 rfl Try.underlying39 infoPairR (Value.slice A n c) n L rfl HRQ.out.l HSQ.out (i : Int) (j : Int) rfl (by have := HM16.out; omega) ?_; intro A6 c6 w6 o6 k6 n6; have c6a := k6.cell c2 (fun e => own_type HRQ.out.l HRQ.out.blk (by decide) e); have HB6 := Lib.hid (HRQ.out.blk.ch k6 (fun e => own_type HRQ.out.l HRQ.out.blk (by decide) e)); have f6 := HB6.out.fz 2)
              go_ret
              obtain ⟨r1, r2⟩ := HRQ.out.appended k6 o6 HNI.out HMEM.out rfl rfl rfl
              exact ⟨rfl, _, _, r1, (HCQ.out.mono fun _ _ e => .inl e).then_ r2⟩
            · rw [hfu] at HFU
              rw [HSN.out (by rw [H7.out hu2 hf hfu]; decide), H7.out hu2 hf hfu]
              have hd : decide (p.mo ≤ n) = true := HFU.out.symm
              have hd2 : p.mo ≤ n := of_decide_eq_true hd
              have hd3 : (p.mo : Int) ≤ (n : Int) := by omega
              have hd4 : decide ((p.mo : Int) ≤ (n : Int)) = true := decide_eq_true hd3
              clear hf hfu hu2
              go_enter Try.func20, Try.ntmps20
              go_wp2_with fail
              refine (HX.out).mono ?_
              rintro e w1 ⟨rfl, rfl⟩
              go_wp2_with fail
              refine (HZ.out).mono ?_
              rintro e w1 ⟨rfl, rfl⟩
              go_wp2_with fail
              refine (HHO.out).mono ?_
              rintro e w1 ⟨rfl, rfl⟩
              go_wp2_with fail
              refine (HHT.out).mono ?_
              rintro e w1 ⟨rfl, rfl⟩
              go_wp2_with fail
              refine (HF.out).mono ?_
              rintro e w1 ⟨rfl, rfl⟩
              go_wp2_with fail
              go_quiet (fail)
              go_wp2_with fail
              go_ret
              exact ⟨rfl, L, _, HR.out.drewN _, (Ch.refl _ _).drewN _⟩
          · rw [hf] at HF
            rw [HSN.out (by rw [H8.out hu2 hf]; decide), H8.out hu2 hf]
            clear hf hu2
            go_enter Try.func20, Try.ntmps20
            go_wp2_with fail
            refine (HX.out).mono ?_
            rintro e w1 ⟨rfl, rfl⟩
            go_wp2_with fail
            refine (HZ.out).mono ?_
            rintro e w1 ⟨rfl, rfl⟩
            go_wp2_with fail
            refine (HHO.out).mono ?_
            rintro e w1 ⟨rfl, rfl⟩
            go_wp2_with fail
            refine (HHT.out).mono ?_
            rintro e w1 ⟨rfl, rfl⟩
            go_wp2_with fail
            refine (HF.out).mono ?_
            rintro e w1 ⟨rfl, rfl⟩
            go_wp2_with fail
            go_ret
            exact ⟨rfl, L, _, HR.out, Ch.refl _ _⟩

theorem adr_none (i : Nat) : adr (mor [] (i : Int)) 4 = adr (upd (fun _ => false) i true) 4 := adr_congr fun k hk => by
  unfold mor upd
  by_cases e : k = i
  · rw [if_pos e, decide_eq_true (by omega)]
    rfl
  · rw [if_neg e, decide_eq_false (by omega)]
    rfl
def y0 : Rx := ⟨none, 0, 0, none, 0, 0, none, 0, 0⟩
theorem rnone {base : Nat} {w : World} {xb m : Nat} (h : Bk w xb 56 (y0.vals m)) : Rf base w xb (Pm.none m) [] y0 :=
  ⟨h, World.ownsRow_nil _ _ _ _, World.ownsRow_nil _ _ _ _, World.ownsRow_nil _ _ _ _, List.Pairwise.nil, fun u => by
    rw [prs_mem]
    constructor
    · intro h
      cases h
    · rintro ⟨_, _, _, _, h, _⟩
      cases h⟩

set_option maxHeartbeats 6400000 in
theorem rnew_any {base : Nat} {w : World} (hb : base ≤ w.heap.size) {i j : Nat} (hi : i < 4) (hj : j < 4) (x : Int) : Calls Try.prog 9 #[.int .i64 (i : Int), .int .i64 (j : Int), .int .i64 x] w fun e w' => ∃ xb L y, e = .returned (ptr xb) ∧ Rf base w' xb (Pm.new i j (most x)) L y ∧ Below w.heap.size w w' ∧ w.heap.size ≤ xb := by
  have HO := Lib.hid (fun (w : World) => more_any (RI.nil_ .i64 w) (i : Int))
  have HT := Lib.hid (fun (w : World) => more_any (RI.nil_ .i64 w) (j : Int))
  rw [adr_none] at HO HT
  have HBB := Lib.hid hb
  have HNN := Lib.hid (fun (p : Pm) (h : ∀ u, u ∈ ([] : List (Int × Int)) ↔ u ∈ prs p.fl 16) => setF_mem h hi hj)
  unfold ptr Pm.new
  obtain ⟨m, hm⟩ : ∃ m, m = most x := ⟨_, rfl⟩
  rw [← hm]
  have hmx := most_eq x
  rw [← hm] at hmx
  have HB0 := Lib.hid (Bk.new w 56 (y0.vals m))
  have HBA := Lib.hid (below_a w (.cells (y0.vals m).toArray 56))
  have HE : Hid ((y0.vals m).toArray = #[.slice none 0 0, .slice none 0 0, .slice none 0 0, .int .i64 (m : Int)]) := Lib.hid rfl
  rw [HE.out] at HB0 HBA
  clear hb hi hj hm HE
  by_cases h1 : x < 1
  · have hmv : (m : Int) = 1 := by omega
    rw [hmv] at HB0 HBA
    clear hmv hmx
    go_enter Try.func9, Try.ntmps9
    go_wp2_with fail
    have hxg : ∃ g, g = w.heap.size := ⟨_, rfl⟩
    refine (HO.out _).mono ?_
    rintro e w2 ⟨A, n, c, rfl, o2, b2⟩
    have HSZ : Hid (base ≤ (w.alloc (.cells #[.slice none 0 0, .slice none 0 0, .slice none 0 0, .int .i64 1] 56)).heap.size) := Lib.hid (Nat.le_trans HBB.out HBA.out.size)
    have HR2 := Lib.hid ((rnone (base := base) HB0.out).below b2)
    have HO2 := Lib.hid (own_mono2 o2 HSZ.out)
    have HB2 := Lib.hid (HBA.out.trans (b2.mono HBA.out.size))
    have d0 := (HR2.out.blk.cell 0).trans (show _ = some (Value.slice none 0 0) from rfl)
    have f0 := HR2.out.blk.fz 0
    clear o2 b2 HO HB0 HBA HSZ hxg
    go_wp2_with fail
    have HR3 := Lib.hid (HR2.out.setO (i := i) (b := true) HO2.out)
    have HC3 : Hid (Ch w (w2.setCell ⟨w.heap.size, 0, none⟩ (.slice A n c)) (fun k => k = w.heap.size)) := Lib.hid ((Ch.of_below _ HB2.out).then_ ch_set)
    clear d0 f0 HR2 HO2 HB2
    generalize w2.setCell ⟨w.heap.size, 0, none⟩ (.slice A n c) = w3 at *
    refine (HT.out _).mono ?_
    rintro e w4 ⟨A4, n4, c4, rfl, o4, b4⟩
    have HR4 := Lib.hid (HR3.out.below b4)
    have HO4 := Lib.hid (own_mono2 o4 (Nat.le_trans HBB.out HC3.out.size))
    have HC4 := Lib.hid (HC3.out.then_ (Ch.of_below _ b4))
    have d1 := (HR4.out.blk.cell 1).trans (show _ = some (Value.slice none 0 0) from rfl)
    have f1 := HR4.out.blk.fz 1
    have HR5 := Lib.hid (HR4.out.setT (i := j) (b := true) HO4.out)
    have HC5 : Hid (Ch w (w4.setCell ⟨w.heap.size, 1, none⟩ (.slice A4 n4 c4)) (fun k => k = w.heap.size)) := Lib.hid (HC4.out.then_ ch_set)
    have d2 := (HR5.out.blk.cell 2).trans (show _ = some (Value.slice none 0 0) from rfl)
    clear o4 b4 HT HR3 HC3 HR4 HO4 HC4
    go_upto_region 8 with (fail)
    generalize w4.setCell ⟨w.heap.size, 1, none⟩ (.slice A4 n4 c4) = w5 at *
    go_wp2_with (at_builtin; refine wpList_app3 (base := base) rfl _ _ 39 48 rfl Try.underlying39 infoPairR (Value.slice none 0 0) 0 [] rfl HR5.out.l (Nat.le_trans HBB.out HC5.out.size) (i : Int) (j : Int) rfl (by decide) ?_; intro A6 c6 w6 o6 k6 n6; have c6a := k6.cell d2 (fun e => by cases e); have HB6 := Lib.hid (HR5.out.blk.ch k6 (fun e => by cases e)); have f6 := HB6.out.fz 2)
    go_ret
    obtain ⟨r1, r2⟩ := HR5.out.appended k6 o6 (List.pairwise_singleton _ _) (HNN.out _ HR5.out.mem) rfl rfl rfl
    exact ⟨_, _, _, rfl, r1, ((HC5.out.then_ (k6.mono fun k hk e => by cases e)).then_ ch_set).below (fun k hk e => by omega), Nat.le_refl _⟩
  · by_cases h8 : 8 < x
    · have hmv : (m : Int) = 8 := by omega
      rw [hmv] at HB0 HBA
      clear hmv hmx
      go_enter Try.func9, Try.ntmps9
      go_wp2_with fail
      have hxg : ∃ g, g = w.heap.size := ⟨_, rfl⟩
      refine (HO.out _).mono ?_
      rintro e w2 ⟨A, n, c, rfl, o2, b2⟩
      have HSZ : Hid (base ≤ (w.alloc (.cells #[.slice none 0 0, .slice none 0 0, .slice none 0 0, .int .i64 8] 56)).heap.size) := Lib.hid (Nat.le_trans HBB.out HBA.out.size)
      have HR2 := Lib.hid ((rnone (base := base) HB0.out).below b2)
      have HO2 := Lib.hid (own_mono2 o2 HSZ.out)
      have HB2 := Lib.hid (HBA.out.trans (b2.mono HBA.out.size))
      have d0 := (HR2.out.blk.cell 0).trans (show _ = some (Value.slice none 0 0) from rfl)
      have f0 := HR2.out.blk.fz 0
      clear o2 b2 HO HB0 HBA HSZ hxg
      go_wp2_with fail
      have HR3 := Lib.hid (HR2.out.setO (i := i) (b := true) HO2.out)
      have HC3 : Hid (Ch w (w2.setCell ⟨w.heap.size, 0, none⟩ (.slice A n c)) (fun k => k = w.heap.size)) := Lib.hid ((Ch.of_below _ HB2.out).then_ ch_set)
      clear d0 f0 HR2 HO2 HB2
      generalize w2.setCell ⟨w.heap.size, 0, none⟩ (.slice A n c) = w3 at *
      refine (HT.out _).mono ?_
      rintro e w4 ⟨A4, n4, c4, rfl, o4, b4⟩
      have HR4 := Lib.hid (HR3.out.below b4)
      have HO4 := Lib.hid (own_mono2 o4 (Nat.le_trans HBB.out HC3.out.size))
      have HC4 := Lib.hid (HC3.out.then_ (Ch.of_below _ b4))
      have d1 := (HR4.out.blk.cell 1).trans (show _ = some (Value.slice none 0 0) from rfl)
      have f1 := HR4.out.blk.fz 1
      have HR5 := Lib.hid (HR4.out.setT (i := j) (b := true) HO4.out)
      have HC5 : Hid (Ch w (w4.setCell ⟨w.heap.size, 1, none⟩ (.slice A4 n4 c4)) (fun k => k = w.heap.size)) := Lib.hid (HC4.out.then_ ch_set)
      have d2 := (HR5.out.blk.cell 2).trans (show _ = some (Value.slice none 0 0) from rfl)
      clear o4 b4 HT HR3 HC3 HR4 HO4 HC4
      go_upto_region 8 with (fail)
      generalize w4.setCell ⟨w.heap.size, 1, none⟩ (.slice A4 n4 c4) = w5 at *
      go_wp2_with (at_builtin; refine wpList_app3 (base := base) rfl _ _ 39 48 rfl Try.underlying39 infoPairR (Value.slice none 0 0) 0 [] rfl HR5.out.l (Nat.le_trans HBB.out HC5.out.size) (i : Int) (j : Int) rfl (by decide) ?_; intro A6 c6 w6 o6 k6 n6; have c6a := k6.cell d2 (fun e => by cases e); have HB6 := Lib.hid (HR5.out.blk.ch k6 (fun e => by cases e)); have f6 := HB6.out.fz 2)
      go_ret
      obtain ⟨r1, r2⟩ := HR5.out.appended k6 o6 (List.pairwise_singleton _ _) (HNN.out _ HR5.out.mem) rfl rfl rfl
      exact ⟨_, _, _, rfl, r1, ((HC5.out.then_ (k6.mono fun k hk e => by cases e)).then_ ch_set).below (fun k hk e => by omega), Nat.le_refl _⟩
    · have hmv : (m : Int) = x := by omega
      rw [hmv] at HB0 HBA
      clear hmv hmx
      go_enter Try.func9, Try.ntmps9
      go_wp2_with fail
      have hxg : ∃ g, g = w.heap.size := ⟨_, rfl⟩
      refine (HO.out _).mono ?_
      rintro e w2 ⟨A, n, c, rfl, o2, b2⟩
      have HSZ : Hid (base ≤ (w.alloc (.cells #[.slice none 0 0, .slice none 0 0, .slice none 0 0, .int .i64 x] 56)).heap.size) := Lib.hid (Nat.le_trans HBB.out HBA.out.size)
      have HR2 := Lib.hid ((rnone (base := base) HB0.out).below b2)
      have HO2 := Lib.hid (own_mono2 o2 HSZ.out)
      have HB2 := Lib.hid (HBA.out.trans (b2.mono HBA.out.size))
      have d0 := (HR2.out.blk.cell 0).trans (show _ = some (Value.slice none 0 0) from rfl)
      have f0 := HR2.out.blk.fz 0
      clear o2 b2 HO HB0 HBA HSZ hxg
      go_wp2_with fail
      have HR3 := Lib.hid (HR2.out.setO (i := i) (b := true) HO2.out)
      have HC3 : Hid (Ch w (w2.setCell ⟨w.heap.size, 0, none⟩ (.slice A n c)) (fun k => k = w.heap.size)) := Lib.hid ((Ch.of_below _ HB2.out).then_ ch_set)
      clear d0 f0 HR2 HO2 HB2
      generalize w2.setCell ⟨w.heap.size, 0, none⟩ (.slice A n c) = w3 at *
      refine (HT.out _).mono ?_
      rintro e w4 ⟨A4, n4, c4, rfl, o4, b4⟩
      have HR4 := Lib.hid (HR3.out.below b4)
      have HO4 := Lib.hid (own_mono2 o4 (Nat.le_trans HBB.out HC3.out.size))
      have HC4 := Lib.hid (HC3.out.then_ (Ch.of_below _ b4))
      have d1 := (HR4.out.blk.cell 1).trans (show _ = some (Value.slice none 0 0) from rfl)
      have f1 := HR4.out.blk.fz 1
      have HR5 := Lib.hid (HR4.out.setT (i := j) (b := true) HO4.out)
      have HC5 : Hid (Ch w (w4.setCell ⟨w.heap.size, 1, none⟩ (.slice A4 n4 c4)) (fun k => k = w.heap.size)) := Lib.hid (HC4.out.then_ ch_set)
      have d2 := (HR5.out.blk.cell 2).trans (show _ = some (Value.slice none 0 0) from rfl)
      clear o4 b4 HT HR3 HC3 HR4 HO4 HC4
      go_upto_region 8 with (fail)
      generalize w4.setCell ⟨w.heap.size, 1, none⟩ (.slice A4 n4 c4) = w5 at *
      go_wp2_with (at_builtin; refine wpList_app3 (base := base) rfl _ _ 39 48 rfl Try.underlying39 infoPairR (Value.slice none 0 0) 0 [] rfl HR5.out.l (Nat.le_trans HBB.out HC5.out.size) (i : Int) (j : Int) rfl (by decide) ?_; intro A6 c6 w6 o6 k6 n6; have c6a := k6.cell d2 (fun e => by cases e); have HB6 := Lib.hid (HR5.out.blk.ch k6 (fun e => by cases e)); have f6 := HB6.out.fz 2)
      go_ret
      obtain ⟨r1, r2⟩ := HR5.out.appended k6 o6 (List.pairwise_singleton _ _) (HNN.out _ HR5.out.mem) rfl rfl rfl
      exact ⟨_, _, _, rfl, r1, ((HC5.out.then_ (k6.mono fun k hk e => by cases e)).then_ ch_set).below (fun k hk e => by omega), Nat.le_refl _⟩
end Go.Proofs.Ytpkhalneclmoeaa

/- The document's manager: Next. Conditions: it stands. -/
import Derived.Test.YtpkhalneclmoeaaPaS
namespace Go.Proofs.Ytpkhalneclmoeaa
set_option linter.unusedVariables false
set_option linter.unusedSimpArgs false
open Go.RowKit Go.Lib

theorem getD_in {a : List Int} {i : Nat} (h : i < a.length) : a.getD i 0 ∈ a := by
  rw [List.getD_eq_getElem?_getD, List.getElem?_eq_getElem h]
  exact List.getElem_mem _
theorem in_getD {a : List Int} {x : Int} (h : x ∈ a) : ∃ i, i < a.length ∧ a.getD i 0 = x := by
  obtain ⟨i, hi, e⟩ := List.mem_iff_getElem.1 h
  exact ⟨i, hi, by rw [List.getD_eq_getElem?_getD, List.getElem?_eq_getElem hi]; exact e⟩
theorem rises_at {a : List Int} (h : a.Pairwise (· < ·)) {i j : Nat} (hij : i < j) (hj : j < a.length) : a.getD i 0 < a.getD j 0 := by
  rw [List.getD_eq_getElem?_getD, List.getD_eq_getElem?_getD, List.getElem?_eq_getElem hj, List.getElem?_eq_getElem (by omega)]
  exact List.pairwise_iff_getElem.1 h i j (by omega) hj hij
theorem lx_first {l : List (Int × Int)} (h : l.Pairwise lx) {u : Int × Int} (hu : u ∈ l) : l.getD 0 zp = u ∨ lx (l.getD 0 zp) u := by
  cases l with
  | nil => cases hu
  | cons v r =>
    rw [List.mem_cons] at hu
    rcases hu with rfl | hu
    · exact .inl rfl
    · exact .inr ((List.pairwise_cons.1 h).1 u hu)
theorem frs_mem {p : Pm} {u : Int × Int} : u ∈ p.frs ↔ u.1 ∈ adr p.ow 4 ∧ u.2 ∈ adr p.ot 4 ∧ u ∉ prs p.fl 16 := by
  unfold Pm.frs
  rw [prs_mem, adr_mem, adr_mem]
  constructor
  · rintro ⟨i, j, hi, hj, hg, rfl⟩
    unfold Pm.fre at hg
    rw [Bool.and_eq_true, Bool.and_eq_true] at hg
    refine ⟨⟨i, hi, hg.1.1, rfl⟩, ⟨j, hj, hg.1.2, rfl⟩, fun hm => ?_⟩
    rw [prs_at hi hj] at hm
    have := hg.2
    rw [hm] at this
    cases this
  · rintro ⟨⟨i, hi, h1, e1⟩, ⟨j, hj, h2, e2⟩, h3⟩
    obtain ⟨a, b⟩ := u
    dsimp only at e1 e2
    subst e1 e2
    rw [prs_at hi hj] at h3
    refine ⟨i, j, hi, hj, ?_, rfl⟩
    unfold Pm.fre
    rw [h1, h2]
    cases hf : p.fl i j
    · rfl
    · exact absurd hf h3
theorem nx_full {p : Pm} (h : p.full = true) : p.nxP = zp ∧ p.nxB = false := by
  unfold Pm.nxP Pm.nxB
  rw [h]
  exact ⟨rfl, rfl⟩
theorem nx_none {p : Pm} {L : List (Int × Int)} (hL : ∀ u, u ∈ L ↔ u ∈ prs p.fl 16) (h : p.full = false) (hn : ∀ i, i < (adr p.ow 4).length → ∀ k, k < (adr p.ot 4).length → ((adr p.ow 4).getD i 0, (adr p.ot 4).getD k 0) ∈ L) : p.nxP = zp ∧ p.nxB = false := by
  have h0 : p.frs = [] := by
    rw [List.eq_nil_iff_forall_not_mem]
    intro u hu
    obtain ⟨h1, h2, h3⟩ := frs_mem.1 hu
    obtain ⟨i, hi, e1⟩ := in_getD h1
    obtain ⟨k, hk, e2⟩ := in_getD h2
    have := hn i hi k hk
    rw [e1, e2, hL] at this
    exact h3 this
  unfold Pm.nxP Pm.nxB
  rw [h, h0]
  exact ⟨rfl, rfl⟩
theorem nx_found {p : Pm} {L : List (Int × Int)} (hL : ∀ u, u ∈ L ↔ u ∈ prs p.fl 16) (h : p.full = false) {i k : Nat} (hi : i < (adr p.ow 4).length) (hk : k < (adr p.ot 4).length)
    (hn : ((adr p.ow 4).getD i 0, (adr p.ot 4).getD k 0) ∉ L) (h1 : ∀ a, a < i → ∀ b, b < (adr p.ot 4).length → ((adr p.ow 4).getD a 0, (adr p.ot 4).getD b 0) ∈ L) (h2 : ∀ b, b < k → ((adr p.ow 4).getD i 0, (adr p.ot 4).getD b 0) ∈ L) : p.nxP = ((adr p.ow 4).getD i 0, (adr p.ot 4).getD k 0) ∧ p.nxB = true := by
  have hu : ((adr p.ow 4).getD i 0, (adr p.ot 4).getD k 0) ∈ p.frs := frs_mem.2 ⟨getD_in hi, getD_in hk, fun e => hn ((hL _).2 e)⟩
  have hp := List.length_pos_of_mem hu
  have hv : p.frs.getD 0 zp ∈ p.frs := by
    rw [List.getD_eq_getElem?_getD, List.getElem?_eq_getElem hp]
    exact List.getElem_mem _
  have he : p.frs.getD 0 zp = ((adr p.ow 4).getD i 0, (adr p.ot 4).getD k 0) := by
    rcases lx_first (prs_rises p.fre 16) hu with e | e
    · exact e
    · exfalso
      have e : lx (p.frs.getD 0 zp) ((adr p.ow 4).getD i 0, (adr p.ot 4).getD k 0) := e
      obtain ⟨g1, g2, g3⟩ := frs_mem.1 hv
      rw [← hL] at g3
      obtain ⟨a, ha, e1⟩ := in_getD g1
      obtain ⟨b, hb, e2⟩ := in_getD g2
      generalize p.frs.getD 0 zp = v at *
      obtain ⟨v1, v2⟩ := v
      dsimp only at e1 e2
      subst e1 e2
      unfold lx at e
      dsimp only at e
      rcases Nat.lt_trichotomy a i with q | q | q
      · exact g3 (h1 a q b hb)
      · subst q
        rcases Nat.lt_trichotomy b k with r | r | r
        · exact g3 (h2 b r)
        · subst r
          omega
        · have := rises_at (adr_rises p.ot 4) r hb
          omega
      · have := rises_at (adr_rises p.ow 4) q ha
        omega
  unfold Pm.nxP Pm.nxB
  rw [h, decide_eq_true hp]
  exact ⟨he, rfl⟩

theorem infoFound3 : (Try.prog.info? 50).map (·.size) = some 3 := by kernel_rfl
theorem set3_below {w w' : World} {r : Nat} (b : Below w.heap.size w w') (hr : w.heap.size ≤ r) (x y z : Value) : Below w.heap.size w (((w'.setCell ⟨r, 0, none⟩ x).setCell ⟨r, 1, none⟩ y).setCell ⟨r, 2, none⟩ z) :=
  ((((Ch.of_below (fun k => k = r) b).then_ ch_set).then_ ch_set).then_ ch_set).below fun k hk e => by omega

set_option maxHeartbeats 6400000 in
theorem rnext_any {base : Nat} {w : World} {xb : Nat} {p : Pm} {L : List (Int × Int)} {y : Rx} (h : Rf base w xb p L y) : Calls Try.prog 24 #[ptr xb] w fun e w' => e = .returned (.agg #[.int .i64 p.nxP.1, .int .i64 p.nxP.2, .bool p.nxB]) ∧ Below w.heap.size w w' := by
  have hb := below_a w (.cells #[.int .i64 0, .int .i64 0, .bool false] 50)
  have HB := Lib.hid hb
  have HK : Hid (Bk (w.alloc (.cells #[.int .i64 0, .int .i64 0, .bool false] 50)) w.heap.size 50 [.int .i64 0, .int .i64 0, .bool false]) := Lib.hid (Bk.new w _ _)
  have HR := Lib.hid (h.below hb)
  have hln := h.ln
  have HFU : Hid (p.full = decide (p.mo ≤ y.ln)) := Lib.hid (by rw [hln]; rfl)
  have HRO := Lib.hid (fun w' (b : Below w.heap.size w w') => (h.below b).ro)
  have HRT := Lib.hid (fun w' (b : Below w.heap.size w w') => (h.below b).rt)
  have ho1 := h.ro.len
  have ho2 := h.ro.cap
  have ho3 := h.ro.max
  have ht1 := h.rt.len
  have ht2 := h.rt.cap
  have ht3 := h.rt.max
  have hl2 := h.rl.2.1
  have hl3 := h.rl.2.2.1
  have HLO := Lib.hid ho1
  have HLT := Lib.hid ht1
  have HNF := Lib.hid (@nx_full p)
  have HNN := Lib.hid (@nx_none p L h.mem)
  have HNY := Lib.hid (fun i k => @nx_found p L h.mem (i := i) (k := k))
  have HFW := Lib.hid (fun w' (b : Below w.heap.size w w') => @rflow_any base w' xb p L y (h.below b))
  have HRB := Lib.hid (fun w' (b : Below w.heap.size w w') => h.below b)
  obtain ⟨oA, on, oc, tA, tn, tc, A, n, c⟩ := y
  dsimp only at HFU ho1 ho2 ho3 ht1 ht2 ht3 hl2 hl3 HLO HLT HRO HRT
  have HXL := Lib.hid h.blk.lt
  clear h hb hln ho1 ht1
  unfold ptr at *
  have c0 := HR.out.c0
  have c1 := HR.out.c1
  have c2 := HR.out.c2
  have c3 := HR.out.c3
  cases hf : p.full
  · rw [hf] at HFU
    have hd : decide (p.mo ≤ n) = false := HFU.out.symm
    have hd2 : ¬ p.mo ≤ n := of_decide_eq_false hd
    have hd3 : ¬ (p.mo : Int) ≤ (n : Int) := by omega
    have hd4 : decide ((p.mo : Int) ≤ (n : Int)) = false := decide_eq_false hd3
    replace HNN := Lib.hid (HNN.out hf)
    replace HNY := Lib.hid (fun i k => HNY.out i k hf)
    clear hf HNF
    generalize p.nxP = nP at *
    generalize p.nxB = nB at *
    generalize adr p.ow 4 = lo at *
    generalize adr p.ot 4 = lt at *
    go_enter Try.func24, Try.ntmps24
    go_wp2_with fail
    go_quiet (fail)
    have HB1 : Hid (Below w.heap.size w ((w.alloc (.cells #[.int .i64 0, .int .i64 0, .bool false] 50)).drewN nq)) := Lib.hid (below_dn HB.out nq)
    have HK1 : Hid (Bk ((w.alloc (.cells #[.int .i64 0, .int .i64 0, .bool false] 50)).drewN nq) w.heap.size 50 [.int .i64 0, .int .i64 0, .bool false]) := Lib.hid HK.out
    clear c0 c1 c2 c3 HB HK hd hd2 hd3 hd4 HR
    go_upto_region 4 with (fail)
    generalize (w.alloc (.cells #[.int .i64 0, .int .i64 0, .bool false] 50)).drewN nq = W1 at *
    clear HFU hl2 hl3
    go_loopw [3] (fun ix wr => ∃ i : Nat, i ≤ on ∧ ix = .int .i64 (i : Int) ∧ (∀ a, a < i → ∀ b, b < lt.length → (lo.getD a 0, lt.getD b 0) ∈ L) ∧ Below w.heap.size w wr ∧ Bk wr w.heap.size 50 [.int .i64 0, .int .i64 0, .bool false]) (fun ix _ => on - (intOf ix).toNat)
    case atStart => exact ⟨0, Nat.zero_le _, rfl, fun a ha => absurd ha (by omega), HB1.out, HK1.out⟩
    case round =>
      obtain ⟨i, hi, rfl, hno, hb, hk⟩ := hrel
      have HNO := Lib.hid hno
      have HB2 := Lib.hid hb
      have HK2 := Lib.hid hk
      have c0 : wr.cell? ⟨xb, 0, none⟩ = some (.slice oA on oc) := (HRB.out _ hb).c0
      have c1 : wr.cell? ⟨xb, 1, none⟩ = some (.slice tA tn tc) := (HRB.out _ hb).c1
      clear hno hb hk HB1 HK1
      by_cases hin : i < on
      · have HI := Lib.hid hin
        go_wp2_with fail
        clear hin
        generalize decide ((i : Int) < (on : Int)) = d22
        obtain ⟨wx, rfl⟩ : ∃ wx, wx = wr := ⟨_, rfl⟩
        clear c0 c1
        go_loopw [4] (fun ix wr => ∃ k : Nat, k ≤ tn ∧ ix = .int .i64 (k : Int) ∧ (∀ b, b < k → (lo.getD i 0, lt.getD b 0) ∈ L) ∧ Below w.heap.size w wr ∧ Bk wr w.heap.size 50 [.int .i64 0, .int .i64 0, .bool false]) (fun ix _ => tn - (intOf ix).toNat)
        case atStart => exact ⟨0, Nat.zero_le _, rfl, fun a ha => absurd ha (by omega), HB2.out, HK2.out⟩
        case round =>
          obtain ⟨k, hk, rfl, hnk, hb, hkk⟩ := hrel
          have HNK := Lib.hid hnk
          have HB3 := Lib.hid hb
          have HK3 := Lib.hid hkk
          have c0 : wr.cell? ⟨xb, 0, none⟩ = some (.slice oA on oc) := (HRB.out _ hb).c0
          have c1 : wr.cell? ⟨xb, 1, none⟩ = some (.slice tA tn tc) := (HRB.out _ hb).c1
          clear hnk hb hkk HB2 HK2
          by_cases hkn : k < tn
          · have HKN := Lib.hid hkn
            obtain ⟨g1, o1, rfl, x1⟩ := (HRO.out _ HB3.out).at_ HI.out
            obtain ⟨g2, o2, rfl, x2⟩ := (HRT.out _ HB3.out).at_ hkn
            have hi1 := HI.out
            have HFL := Lib.hid (fun q => HFW.out (wr.drewN q) (below_dn HB3.out q) (lo.getD i 0) (lt.getD k 0))
            have HNI := Lib.hid (HNY.out i k (by rw [HLO.out]; exact HI.out) (by rw [HLT.out]; exact hkn))
            generalize hx : lo.getD i 0 = xo at *
            generalize hz : lt.getD k 0 = xt at *
            have HX := Lib.hid hx
            have HZ := Lib.hid hz
            clear hx hz
            have hic : i < oc := by omega
            have hkc : k < tc := by omega
            cases hfl : decide ((xo, xt) ∈ L)
            · rw [hfl] at HFL
              have HNF := Lib.hid (of_decide_eq_false hfl)
              clear hfl
              go_wp2_with fail
              go_quiet (first | (go_at_call 40; exact Calls.quiet_of_same (HFL.out _)))
              go_upto_region 10 with (fail)
              have HG1 : Hid (g1 < w.heap.size) := Lib.hid (World.block_lt_of_cell? _ _ ((HRO.out w (Below.refl _ _)).cell HI.out))
              have HG2 : Hid (g2 < w.heap.size) := Lib.hid (World.block_lt_of_cell? _ _ ((HRT.out w (Below.refl _ _)).cell HKN.out))
              have HK6 : Hid (Bk (wr.drewN nq).drew w.heap.size 50 [.int .i64 0, .int .i64 0, .bool false]) := Lib.hid HK3.out
              have HB6 : Hid (Below w.heap.size w (wr.drewN nq).drew) := Lib.hid (below_dn HB3.out nq).drew
              have z1 : (wr.drewN nq).drew.cell? ⟨xb, 0, none⟩ = some (.slice (some ⟨g1, o1, none⟩) on oc) ∧ (wr.drewN nq).drew.cell? ⟨xb, 1, none⟩ = some (.slice (some ⟨g2, o2, none⟩) tn tc) ∧ (wr.drewN nq).drew.cell? ⟨g1, o1 + i, none⟩ = some (.int .i64 xo) ∧ (wr.drewN nq).drew.cell? ⟨g2, o2 + k, none⟩ = some (.int .i64 xt) := ⟨c0, c1, x1, x2⟩
              have HNP := Lib.hid (HNI.out HNF.out HNO.out HNK.out)
              clear c0 c1 x1 x2 HFL HNI
              refine wp_region_noPanic ?_
              refine wp_region_held_drew (S := fun W => W.cell? ⟨xb, 0, none⟩ = some (.slice (some ⟨g1, o1, none⟩) on oc) ∧ W.cell? ⟨xb, 1, none⟩ = some (.slice (some ⟨g2, o2, none⟩) tn tc) ∧ W.cell? ⟨g1, o1 + i, none⟩ = some (.int .i64 xo) ∧ W.cell? ⟨g2, o2 + k, none⟩ = some (.int .i64 xt)) (by kernel_rfl) z1 (fun _ => ?_)
              generalize (wr.drewN nq).drew = W6 at *
              have q0 := (HK6.out.cell 0).trans (show _ = some (Value.int .i64 0) from rfl)
              have q1 := (HK6.out.cell 1).trans (show _ = some (Value.int .i64 0) from rfl)
              have q2 := (HK6.out.cell 2).trans (show _ = some (Value.bool false) from rfl)
              have s0 := HK6.out.fz 0
              have s1 := HK6.out.fz 1
              have s2 := HK6.out.fz 2
              refine held_take (i := 0) (v := .pointer (some ⟨xb, 0, none⟩)) (some 51) rfl rfl (by kernel_rfl) (by kernel_rfl) (by kernel_rfl) (fun _ _ _ h => h) (Or.inl ⟨by rfl, fun W hW => by go_simp⟩) z1 ?_
              simp only [Act.put, List.setIfInBounds_toArray, List.set_cons_zero, List.set_cons_succ]
              refine held_take (i := 4) (v := .int .i64 (i : Int)) (some 55) rfl rfl (by kernel_rfl) (by kernel_rfl) (by kernel_rfl) (fun _ _ _ h => h) (Or.inl ⟨by rfl, fun W hW => by go_simp⟩) z1 ?_
              simp only [Act.put, List.setIfInBounds_toArray, List.set_cons_zero, List.set_cons_succ]
              refine held_take (i := 7) (v := .pointer (some ⟨xb, 0, none⟩)) (some 58) rfl rfl (by kernel_rfl) (by kernel_rfl) (by kernel_rfl) (fun _ _ _ h => h) (Or.inl ⟨by rfl, fun W hW => by go_simp⟩) z1 ?_
              simp only [Act.put, List.setIfInBounds_toArray, List.set_cons_zero, List.set_cons_succ]
              refine held_take (i := 11) (v := .int .i64 (k : Int)) (some 62) rfl rfl (by kernel_rfl) (by kernel_rfl) (by kernel_rfl) (fun _ _ _ h => h) (Or.inl ⟨by rfl, fun W hW => by go_simp⟩) z1 ?_
              simp only [Act.put, List.setIfInBounds_toArray, List.set_cons_zero, List.set_cons_succ]
              refine held_take (i := 1) (v := .pointer (some ⟨xb, 0, none⟩)) (some 52) rfl rfl (by kernel_rfl) (by kernel_rfl) (by kernel_rfl) (fun _ _ _ h => h) (Or.inl ⟨by rfl, fun W hW => by go_simp⟩) z1 ?_
              simp only [Act.put, List.setIfInBounds_toArray, List.set_cons_zero, List.set_cons_succ]
              refine held_take (i := 8) (v := .pointer (some ⟨xb, 0, none⟩)) (some 59) rfl rfl (by kernel_rfl) (by kernel_rfl) (by kernel_rfl) (fun _ _ _ h => h) (Or.inl ⟨by rfl, fun W hW => by go_simp⟩) z1 ?_
              simp only [Act.put, List.setIfInBounds_toArray, List.set_cons_zero, List.set_cons_succ]
              refine held_take (i := 2) (v := .pointer (some ⟨xb, 0, none⟩)) (some 53) rfl rfl (by kernel_rfl) (by kernel_rfl) (by kernel_rfl) (fun _ _ _ h => h) (Or.inl ⟨by rfl, fun W hW => by go_simp⟩) z1 ?_
              simp only [Act.put, List.setIfInBounds_toArray, List.set_cons_zero, List.set_cons_succ]
              refine held_take (i := 9) (v := .pointer (some ⟨xb, 1, none⟩)) (some 60) rfl rfl (by kernel_rfl) (by kernel_rfl) (by kernel_rfl) (fun _ _ _ h => h) (Or.inl ⟨by rfl, fun W hW => by go_simp⟩) z1 ?_
              simp only [Act.put, List.setIfInBounds_toArray, List.set_cons_zero, List.set_cons_succ]
              refine held_take (i := 3) (v := .slice (some ⟨g1, o1, none⟩) on oc) (some 54) rfl rfl (by kernel_rfl) (by kernel_rfl) (by kernel_rfl) (fun _ _ _ h => h) (Or.inl ⟨by rfl, fun W hW => by have hc := hW.1; go_simp⟩) z1 ?_
              simp only [Act.put, List.setIfInBounds_toArray, List.set_cons_zero, List.set_cons_succ]
              refine held_take (i := 10) (v := .slice (some ⟨g2, o2, none⟩) tn tc) (some 61) rfl rfl (by kernel_rfl) (by kernel_rfl) (by kernel_rfl) (fun _ _ _ h => h) (Or.inl ⟨by rfl, fun W hW => by have hc := hW.2.1; go_simp⟩) z1 ?_
              simp only [Act.put, List.setIfInBounds_toArray, List.set_cons_zero, List.set_cons_succ]
              refine held_take (i := 5) (v := .pointer (some ⟨g1, o1 + i, none⟩)) (some 56) rfl rfl (by kernel_rfl) (by kernel_rfl) (by kernel_rfl) (fun _ _ _ h => h) (Or.inl ⟨by rfl, fun W hW => by go_simp⟩) z1 ?_
              simp only [Act.put, List.setIfInBounds_toArray, List.set_cons_zero, List.set_cons_succ]
              refine held_take (i := 12) (v := .pointer (some ⟨g2, o2 + k, none⟩)) (some 63) rfl rfl (by kernel_rfl) (by kernel_rfl) (by kernel_rfl) (fun _ _ _ h => h) (Or.inl ⟨by rfl, fun W hW => by go_simp⟩) z1 ?_
              simp only [Act.put, List.setIfInBounds_toArray, List.set_cons_zero, List.set_cons_succ]
              refine held_take (i := 6) (v := .int .i64 xo) (some 57) rfl rfl (by kernel_rfl) (by kernel_rfl) (by kernel_rfl) (fun _ _ _ h => h) (Or.inl ⟨by rfl, fun W hW => by have hc := hW.2.2.1; go_simp⟩) z1 ?_
              simp only [Act.put, List.setIfInBounds_toArray, List.set_cons_zero, List.set_cons_succ]
              refine held_take (i := 13) (v := .int .i64 xt) (some 64) rfl rfl (by kernel_rfl) (by kernel_rfl) (by kernel_rfl) (fun _ _ _ h => h) (Or.inl ⟨by rfl, fun W hW => by have hc := hW.2.2.2; go_simp⟩) z1 ?_
              simp only [Act.put, List.setIfInBounds_toArray, List.set_cons_zero, List.set_cons_succ]
              refine held_take (i := 14) (v := .agg #[.int .i64 xo, .int .i64 xt]) (some 65) rfl rfl (by kernel_rfl) (by kernel_rfl) (by kernel_rfl) (fun _ _ _ h => h) (Or.inl ⟨by rfl, fun W hW => by go_simp⟩) z1 ?_
              simp only [Act.put, List.setIfInBounds_toArray, List.set_cons_zero, List.set_cons_succ]
              refine held_take (i := 15) (v := .agg #[.int .i64 xo, .int .i64 xt, .bool true]) (some 66) rfl rfl (by kernel_rfl) (by kernel_rfl) (by kernel_rfl) (fun _ _ _ h => h) (Or.inl ⟨by rfl, fun W hW => by go_simp⟩) z1 ?_
              simp only [Act.put, List.setIfInBounds_toArray, List.set_cons_zero, List.set_cons_succ]
              refine wpAnyH_ready (rs := [16]) (by kernel_rfl) (by simp) ?_
              refine AllReadyH.cons rfl (fun K hK => ?_) AllReadyH.nil
              go_simp
              have hch : Ch W6 (((W6.setCell ⟨w.heap.size, 0, none⟩ (.int .i64 xo)).setCell ⟨w.heap.size, 1, none⟩ (.int .i64 xt)).setCell ⟨w.heap.size, 2, none⟩ (.bool true)) (fun k => k = w.heap.size) := (ch_set.then_ ch_set).then_ ch_set
              have z7 : (((W6.setCell ⟨w.heap.size, 0, none⟩ (.int .i64 xo)).setCell ⟨w.heap.size, 1, none⟩ (.int .i64 xt)).setCell ⟨w.heap.size, 2, none⟩ (.bool true)).cell? ⟨xb, 0, none⟩ = some (.slice (some ⟨g1, o1, none⟩) on oc) ∧ (((W6.setCell ⟨w.heap.size, 0, none⟩ (.int .i64 xo)).setCell ⟨w.heap.size, 1, none⟩ (.int .i64 xt)).setCell ⟨w.heap.size, 2, none⟩ (.bool true)).cell? ⟨xb, 1, none⟩ = some (.slice (some ⟨g2, o2, none⟩) tn tc) ∧ (((W6.setCell ⟨w.heap.size, 0, none⟩ (.int .i64 xo)).setCell ⟨w.heap.size, 1, none⟩ (.int .i64 xt)).setCell ⟨w.heap.size, 2, none⟩ (.bool true)).cell? ⟨g1, o1 + i, none⟩ = some (.int .i64 xo) ∧ (((W6.setCell ⟨w.heap.size, 0, none⟩ (.int .i64 xo)).setCell ⟨w.heap.size, 1, none⟩ (.int .i64 xt)).setCell ⟨w.heap.size, 2, none⟩ (.bool true)).cell? ⟨g2, o2 + k, none⟩ = some (.int .i64 xt) := ⟨hch.cell z1.1 (fun e => by have := HXL.out; have e : xb = w.heap.size := e; omega), hch.cell z1.2.1 (fun e => by have := HXL.out; have e : xb = w.heap.size := e; omega), hch.cell z1.2.2.1 (fun e => by have := HG1.out; have e : g1 = w.heap.size := e; omega), hch.cell z1.2.2.2 (fun e => by have := HG2.out; have e : g2 = w.heap.size := e; omega)⟩
              have HK7 := Lib.hid (((HK6.out.set 0 (.int .i64 xo)).set 1 (.int .i64 xt)).set 2 (.bool true))
              have HB7 := Lib.hid (set3_below HB6.out (Nat.le_refl _) (.int .i64 xo) (.int .i64 xt) (.bool true))
              clear hch z1 q0 q1 q2 s0 s1 s2
              generalize ((W6.setCell ⟨w.heap.size, 0, none⟩ (.int .i64 xo)).setCell ⟨w.heap.size, 1, none⟩ (.int .i64 xt)).setCell ⟨w.heap.size, 2, none⟩ (.bool true) = W7 at *
              refine hK.out _ _ z7 (fun _ => ?_)
              clear hK
              try simp only [Act.put, List.setIfInBounds_toArray, List.set_cons_zero, List.set_cons_succ]
              refine wpAnyH_done (by kernel_rfl) ?_ _
              refine NoPanic.normal ?_
              go_wp2_with fail
              refine bodyPost_ret (results_c0 rfl _ _ w.heap.size [.int .i64 xo, .int .i64 xt, .bool true] _ rfl HK7.out.range Try.underlying50 rfl infoFound3) rfl ⟨by rw [HNP.out.1, HNP.out.2], HB7.out⟩
            · rw [hfl] at HFL
              have HIN := Lib.hid (of_decide_eq_true hfl)
              clear hfl
              go_wp2_with fail
              go_quiet (first | (go_at_call 40; exact Calls.quiet_of_same (HFL.out _)))
              go_wp2_with fail
              go_roundw
              case rel => exact ⟨k + 1, HKN.out, by go_num, fun b hb => by
                rcases Nat.lt_succ_iff_lt_or_eq.1 hb with h | rfl
                · exact HNK.out b h
                · rw [HZ.out]; exact HIN.out, below_dn HB3.out _, HK3.out⟩
              case measure => have := HKN.out; simp [intOf]; omega
          · obtain rfl : k = tn := by omega
            have hin := HI.out
            go_wp2_with fail
            go_roundw
            case rel => exact ⟨i + 1, HI.out, by go_num, fun a ha b hb => by
              rcases Nat.lt_succ_iff_lt_or_eq.1 ha with h | rfl
              · exact HNO.out a h b hb
              · exact HNK.out b (by rw [← HLT.out]; exact hb), HB3.out, HK3.out⟩
            case measure => have := HI.out; simp [intOf]; omega
      · obtain rfl : i = on := by omega
        have hN := HNN.out (fun a ha b hb => HNO.out a (by rw [← HLO.out]; exact ha) b hb)
        obtain ⟨rfl, rfl⟩ := hN
        have q0 := (HK2.out.cell 0).trans (show _ = some (Value.int .i64 0) from rfl)
        have q1 := (HK2.out.cell 1).trans (show _ = some (Value.int .i64 0) from rfl)
        have q2 := (HK2.out.cell 2).trans (show _ = some (Value.bool false) from rfl)
        have z0 := HK2.out.fz 0
        have z1 := HK2.out.fz 1
        have z2 := HK2.out.fz 2
        go_wp2_with fail
        refine bodyPost_ret (results_c0 rfl _ _ w.heap.size [.int .i64 0, .int .i64 0, .bool false] _ rfl (((HK2.out.set 0 (.int .i64 0)).set 1 (.int .i64 0)).set 2 (.bool false)).range Try.underlying50 rfl infoFound3) rfl ⟨rfl, set3_below HB2.out (Nat.le_refl _) _ _ _⟩
  · rw [hf] at HFU
    have hd : decide (p.mo ≤ n) = true := HFU.out.symm
    have hd2 : p.mo ≤ n := of_decide_eq_true hd
    have hd3 : (p.mo : Int) ≤ (n : Int) := by omega
    have hd4 : decide ((p.mo : Int) ≤ (n : Int)) = true := decide_eq_true hd3
    replace HNF := Lib.hid (HNF.out hf)
    clear hf HNN HNY HFU
    generalize p.nxP = nP at *
    generalize p.nxB = nB at *
    obtain ⟨rfl, rfl⟩ := HNF.out
    go_enter Try.func24, Try.ntmps24
    go_wp2_with fail
    go_quiet (fail)
    have HB1 : Hid (Below w.heap.size w ((w.alloc (.cells #[.int .i64 0, .int .i64 0, .bool false] 50)).drewN nq)) := Lib.hid (below_dn HB.out nq)
    have HK1 : Hid (Bk ((w.alloc (.cells #[.int .i64 0, .int .i64 0, .bool false] 50)).drewN nq) w.heap.size 50 [.int .i64 0, .int .i64 0, .bool false]) := Lib.hid HK.out
    go_upto_region 2 with (fail)
    clear c0 c1 c2 c3 HB HK hd hd2 hd3 hd4 HR
    generalize (w.alloc (.cells #[.int .i64 0, .int .i64 0, .bool false] 50)).drewN nq = W1 at *
    have q0 := (HK1.out.cell 0).trans (show _ = some (Value.int .i64 0) from rfl)
    have q1 := (HK1.out.cell 1).trans (show _ = some (Value.int .i64 0) from rfl)
    have q2 := (HK1.out.cell 2).trans (show _ = some (Value.bool false) from rfl)
    have z0 := HK1.out.fz 0
    have z1 := HK1.out.fz 1
    have z2 := HK1.out.fz 2
    go_wp2_with fail
    refine bodyPost_ret (results_c0 rfl _ _ w.heap.size [.int .i64 0, .int .i64 0, .bool false] _ rfl (((HK1.out.set 0 (.int .i64 0)).set 1 (.int .i64 0)).set 2 (.bool false)).range Try.underlying50 rfl infoFound3) rfl ⟨rfl, set3_below HB1.out (Nat.le_refl _) _ _ _⟩
end Go.Proofs.Ytpkhalneclmoeaa

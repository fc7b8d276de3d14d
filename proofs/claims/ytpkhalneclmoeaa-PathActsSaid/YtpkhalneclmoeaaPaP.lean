/- The document's manager: Gone and Untold. Conditions: it stands. -/
import Derived.Test.YtpkhalneclmoeaaPaO
namespace Go.Proofs.Ytpkhalneclmoeaa
set_option linter.unusedVariables false
set_option linter.unusedSimpArgs false
open Go.RowKit Go.Lib

theorem prs_gone {p : Pm} {x z : Int} : (x, z) ∈ prs p.fl 16 ↔ p.goneB x z = true := by
  cases hm : mb x && mb z
  · rw [goneB_bad hm]
    constructor
    · intro h
      obtain ⟨i, j, hi, hj, _, e⟩ := prs_mem.1 h
      simp only [Prod.mk.injEq] at e
      rw [e.1, e.2, mb2_of hi hj] at hm
      cases hm
    · intro h
      cases h
  · obtain ⟨i, j, rfl, rfl, hi, hj⟩ := mb2_nat hm
    rw [goneB_good hi hj]
    exact prs_at hi hj
theorem Rf.flow {base : Nat} {w : World} {xb : Nat} {p : Pm} {L : List (Int × Int)} {y : Rx} (h : Rf base w xb p L y) (x z : Int) : decide ((x, z) ∈ L) = p.goneB x z := by
  have := (h.mem (x, z)).trans prs_gone
  cases hg : p.goneB x z
  · exact decide_eq_false fun hh => by rw [this.1 hh] at hg; cases hg
  · exact decide_eq_true (this.2 hg)
/-- The pairs but one. -/
def wo (L : List (Int × Int)) (x z : Int) : List (Int × Int) := L.filter fun u => !decide (u = (x, z))
theorem wo_mem {L : List (Int × Int)} {p : Pm} (h : ∀ u, u ∈ L ↔ u ∈ prs p.fl 16) (x z : Int) : ∀ u, u ∈ wo L x z ↔ u ∈ prs (p.goneS x z).fl 16 := fun u => by
  unfold wo
  rw [List.mem_filter, h u]
  cases hg : p.goneB x z
  · rw [goneS_no hg]
    constructor
    · exact fun k => k.1
    · intro k
      refine ⟨k, ?_⟩
      by_cases e : u = (x, z)
      · rw [e, prs_gone, hg] at k
        cases k
      · rw [Bool.not_eq_true']
        exact decide_eq_false e
  · have hm : (mb x && mb z) = true := by
      cases hm : mb x && mb z
      · rw [goneB_bad hm] at hg
        cases hg
      · rfl
    obtain ⟨i, j, rfl, rfl, hi, hj⟩ := mb2_nat hm
    rw [goneS_yes hg, prs_mem, prs_mem]
    constructor
    · rintro ⟨⟨a, b, ha, hb, hab, rfl⟩, hne⟩
      refine ⟨a, b, ha, hb, ?_, rfl⟩
      show upd2 p.fl i j false a b = true
      unfold upd2
      have hne : ¬ (((a : Int), (b : Int)) = ((i : Int), (j : Int))) := of_decide_eq_false (by rw [Bool.not_eq_true'] at hne; exact hne)
      rw [if_neg (fun e => hne (by rw [e.1, e.2]))]
      exact hab
    · rintro ⟨a, b, ha, hb, hab, rfl⟩
      have hab : upd2 p.fl i j false a b = true := hab
      unfold upd2 at hab
      by_cases e : a = i ∧ b = j
      · rw [if_pos e] at hab
        cases hab
      · rw [if_neg e] at hab
        refine ⟨⟨a, b, ha, hb, hab, rfl⟩, ?_⟩
        have hne : ¬ (((a : Int), (b : Int)) = ((i : Int), (j : Int))) := fun k => e (by simp only [Prod.mk.injEq] at k; omega)
        rw [Bool.not_eq_true']
        exact decide_eq_false hne
theorem wo_step {L : List (Int × Int)} {q : Nat} (hq : q < L.length) (x z : Int) : wo (L.take (q + 1)) x z = wo (L.take q) x z ++ (if L.getD q zp = (x, z) then [] else [L.getD q zp]) := by
  unfold wo
  rw [List.take_add_one, List.filter_append, List.getElem?_eq_getElem hq, List.getD_eq_getElem?_getD, List.getElem?_eq_getElem hq]
  congr 1
  by_cases e : L[q] = (x, z)
  · simp [e]
  · simp [e]
theorem goneS_mo (p : Pm) (x z : Int) : (p.goneS x z).mo = p.mo := by unfold Pm.goneS; split <;> rfl
theorem goneS_ow (p : Pm) (x z : Int) : (p.goneS x z).ow = p.ow := by unfold Pm.goneS; split <;> rfl
theorem goneS_ot (p : Pm) (x z : Int) : (p.goneS x z).ot = p.ot := by unfold Pm.goneS; split <;> rfl
theorem infoPairR : (Try.prog.info? 48).map (fun i => (i.zero, i.size, i.bytes)) = some (some (.agg #[.int .i64 0, .int .i64 0]), 2, 16) := by kernel_rfl
/-- Its pairs were put into another row. -/
theorem Rf.setL {base : Nat} {w : World} {xb : Nat} {p : Pm} {L : List (Int × Int)} {y : Rx} (h : Rf base w xb p L y) {A : Option Addr} {n c : Nat} {q : Pm} {M : List (Int × Int)} (o : w.ownsRow base 48 2 (.slice A n c) n (pv M)) (nd : M.Nodup) (mem : ∀ u, u ∈ M ↔ u ∈ prs q.fl 16) (e1 : q.ow = p.ow) (e2 : q.ot = p.ot) (e3 : q.mo = p.mo) : Rf base (w.setCell ⟨xb, 2, none⟩ (.slice A n c)) xb q M { y with lA := A, ln := n, lc := c } := by
  obtain ⟨h1, h2, h3⟩ := h.own_far (ch_set (b := xb) (k := 2) (v := .slice A n c))
  refine ⟨?_, by rw [e1]; exact h1, by rw [e2]; exact h2, own_ch2 o ch_set (fun g hg e => own_type o h.blk (by decide) (by rw [hg, e])), nd, mem⟩
  rw [e3]
  exact h.blk.set 2 (.slice A n c)

/-- What Gone leaves. -/
def DidG (base : Nat) (w : World) (xb : Nat) (v : Value) (p' : Pm) (e : Ending) (w' : World) : Prop := e = .returned v ∧ ∃ L' y', Rf base w' xb p' L' y' ∧ Ch w w' (fun k => k = xb) ∧ ∀ g, (Value.slice y'.lA y'.ln y'.lc).ownBlock = some g → w.heap.size ≤ g

set_option maxHeartbeats 3200000 in
theorem rgone_any {base : Nat} {w : World} {xb : Nat} {p : Pm} {L : List (Int × Int)} {y : Rx} (h : Rf base w xb p L y) (hb : base ≤ w.heap.size) (x z : Int) : Calls Try.prog 22 #[ptr xb, .int .i64 x, .int .i64 z] w (DidG base w xb (.bool (p.goneB x z)) (p.goneS x z)) := by
  have HF := Lib.hid (rflow_any h x z)
  rw [h.flow] at HF
  have HH := Lib.hid h
  have HBB := Lib.hid hb
  have HR := Lib.hid h.rl
  have HLN := Lib.hid h.rl.1
  have HL16 : Hid (y.ln ≤ 16) := Lib.hid (by have := h.ln; have := cnt_le p; omega)
  have hcp := h.rl.2.1
  have hmx := h.rl.2.2.1
  have HND : Hid ((wo L x z).Nodup) := Lib.hid (h.nd.filter _)
  have HME := Lib.hid (wo_mem h.mem x z)
  obtain ⟨oA, on, oc, tA, tn, tc, A, n, c⟩ := y
  dsimp only at HR HLN HL16 hcp hmx
  clear h hb
  unfold ptr at *
  go_enter Try.func22, Try.ntmps22
  go_wp2_with fail
  refine (HF.out).mono ?_
  rintro e w1 ⟨rfl, rfl⟩
  clear HF
  generalize hgb : p.goneB x z = gb at *
  have HGB := Lib.hid hgb
  clear hgb
  go_wp2_with fail
  go_loopw [8, 9] (fun s8 ix wr => ∃ (q : Nat) (A' : Option Addr) (m c' : Nat), q ≤ n ∧ s8 = .slice A' m c' ∧ ix = .int .i64 (q : Int) ∧ wr.ownsRow w1.heap.size 48 2 (.slice A' m c') m (pv (wo (L.take q) x z)) ∧ Below w1.heap.size w1 wr) (fun _ ix _ => n - (intOf ix).toNat)
  case atStart => exact ⟨0, none, 0, 0, Nat.zero_le _, rfl, rfl, World.ownsRow_nil _ _ _ _, Below.refl _ _⟩
  case round =>
    obtain ⟨q, A1, m, c1, hq, rfl, rfl, hO, B⟩ := hrel
    have HM : Hid (m ≤ 16) := Lib.hid (by
      have h1 := hO.1
      rw [pv_length] at h1
      have := List.length_filter_le (fun u => !decide (u = (x, z))) (L.take q)
      rw [List.length_take] at this
      have := HL16.out
      unfold wo at h1
      omega)
    have HO := Lib.hid hO
    have HB := Lib.hid B
    have HRR := Lib.hid (HH.out.below B)
    have c0 : wr.cell? ⟨xb, 2, none⟩ = some (.slice A n c) := HRR.out.c2
    clear hO B
    by_cases hqn : q < n
    · have HQ := Lib.hid hqn
      obtain ⟨g, o, rfl, k0, k1⟩ := (HR.out.below HB.out).at_ hqn
      have HS := Lib.hid (wo_step (q := q) (L := L) (by rw [HLN.out]; exact hqn) x z)
      generalize L.getD q zp = u at *
      obtain ⟨u1, u2⟩ := u
      dsimp only at k0 k1
      by_cases e1 : u1 = x
      · by_cases e2 : u2 = z
        · subst e1 e2
          have HE : Hid ((if (u1, u2) = (u1, u2) then ([] : List (Int × Int)) else [(u1, u2)]) = []) := Lib.hid (if_pos rfl)
          go_wp2_with fail
          go_roundw
          case rel => exact ⟨q + 1, A1, m, c1, HQ.out, rfl, by go_num, by rw [HS.out, HE.out, List.append_nil]; exact HO.out, HB.out⟩
          case measure => have := HQ.out; simp [intOf]; omega
        · have HE : Hid ((if (u1, u2) = (x, z) then ([] : List (Int × Int)) else [(u1, u2)]) = [(u1, u2)]) := Lib.hid (if_neg (fun k => e2 (congrArg Prod.snd k)))
          have he2 : (u2 == z) = false := by simpa using e2
          clear e2
          subst e1
          go_wp2_with (at_builtin; refine wpList_app2 (W := w1) rfl _ _ 39 48 rfl Try.underlying39 infoPairR _ m _ rfl HO.out HB.out u1 u2 rfl (by have := HM.out; omega) ?_; intro A5 c5 w5 o5 b5)
          go_roundw
          case rel => exact ⟨q + 1, A5, m + 1, c5, HQ.out, rfl, by go_num, by rw [HS.out, HE.out]; exact o5, b5⟩
          case measure => have := HQ.out; simp [intOf]; omega
      · have HE : Hid ((if (u1, u2) = (x, z) then ([] : List (Int × Int)) else [(u1, u2)]) = [(u1, u2)]) := Lib.hid (if_neg (fun k => e1 (congrArg Prod.fst k)))
        have he1 : (u1 == x) = false := by simpa using e1
        clear e1
        go_wp2_with (at_builtin; refine wpList_app2 (W := w1) rfl _ _ 39 48 rfl Try.underlying39 infoPairR _ m _ rfl HO.out HB.out u1 u2 rfl (by have := HM.out; omega) ?_; intro A5 c5 w5 o5 b5)
        go_roundw
        case rel => exact ⟨q + 1, A5, m + 1, c5, HQ.out, rfl, by go_num, by rw [HS.out, HE.out]; exact o5, b5⟩
        case measure => have := HQ.out; simp [intOf]; omega
    · obtain rfl : q = n := by omega
      have HT : Hid (L.take q = L) := Lib.hid (List.take_of_length_le (by rw [HLN.out]; exact Nat.le_refl _))
      have f0 := HRR.out.blk.fz 2
      have HMO := Lib.hid (goneS_mo p x z)
      have HW := Lib.hid (goneS_ow p x z)
      have HTT := Lib.hid (goneS_ot p x z)
      go_wp2_with fail
      go_ret
      refine ⟨rfl, wo L x z, _, HRR.out.setL (own_mono2 (by have := HO.out; rw [HT.out] at this; exact this) HBB.out) HND.out HME.out HW.out HTT.out HMO.out, (Ch.of_below _ HB.out).then_ ch_set, fun g hg => (own_in HO.out hg).1⟩
end Go.Proofs.Ytpkhalneclmoeaa

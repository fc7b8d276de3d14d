/- The document's wheel: its Advance. Conditions: each handle stands once; all are due later than the wheel's tick; the list has at most 2^40 members; the tick is below 2^62 - 20000. -/
import Derived.Test.YtkmhgcdjmfafhaaWiD
namespace Go.Proofs.Ytkmhgcdjmfafhaa
set_option linter.unusedVariables false
set_option linter.unusedSimpArgs false
open Go.RowKit

theorem Rf.grown {w w' : World} {xb n : Nat} {v : Value} {l : List (Int × Int)} (h : Rf w xb v n l) {row : Option Nat} (hg : w.grownBy w' row) (h1 : row ≠ some xb) (h2 : ∀ g, v.ownBlock = some g → row ≠ some g) : Rf w' xb v n l :=
  h.ch (m := fun k => row = some k) ((Ch.refl w _).grown hg fun k e _ => e) h1 h2

/-- The document's wheel goes on to tick T: what was due so far stands in the row vo, the rest in the wheel's list; k is the place of the one that is due first. -/
def AR (w : World) (xb n : Nat) (v : Value) (l : List (Int × Int)) (T : Int) (kx : Nat) (vo kv : Value) (wi : World) : Prop :=
  ∃ (vr : Value) (out r : List (Int × Int)) (k : Int), kv = .int .i64 k ∧ wi.ownsRow w.heap.size 47 2 vo out.length (dv out) ∧ Rf wi xb vr n r ∧ Ch w wi (fun k => k = xb) ∧ (∀ g, vr.ownBlock = some g → v.ownBlock = some g ∨ w.heap.size ≤ g) ∧
    (∀ g, vr.ownBlock = some g → vo.ownBlock ≠ some g) ∧ Adv l T out r ∧ (r = [] ∧ k = -1 ∨ ∃ j : Nat, k = j ∧ j < r.length ∧ ∀ i, i < r.length → LeD (r.getD j (0, 0)) (r.getD i (0, 0))) ∧ r.length ≤ kx

theorem led_all {r : List (Int × Int)} {j : Nat} (h : ∀ i, i < r.length → LeD (r.getD j (0, 0)) (r.getD i (0, 0))) : ∀ q ∈ r, LeD (r.getD j (0, 0)) q := fun q hq => by
  obtain ⟨i, hi, rfl⟩ := List.getElem_of_mem hq
  have := h i hi
  rwa [List.getD_eq_getElem?_getD (l := r) (i := i), List.getElem?_eq_getElem hi] at this
theorem getD_mem {r : List (Int × Int)} {j : Nat} (h : j < r.length) : r.getD j (0, 0) ∈ r := by
  rw [List.getD_eq_getElem?_getD, List.getElem?_eq_getElem h]
  exact List.getElem_mem _

/-- What the document's Advance leaves: what was due, in order; the rest. -/
def RAd (w : World) (xb : Nat) (v : Value) (l : List (Int × Int)) (np : Nat) (e : Ending) (w' : World) : Prop :=
  ∃ vo v' out, e = .returned vo ∧ w'.ownsRow w.heap.size 47 2 vo out.length (dv out) ∧ Rf w' xb v' np (l.filter fun p => decide ((np : Int) < p.2)) ∧ Ch w w' (fun k => k = xb) ∧
    (∀ g, v'.ownBlock = some g → v.ownBlock = some g ∨ w.heap.size ≤ g) ∧ OrdL out ∧ ∀ p, p ∈ out ↔ p ∈ l ∧ p.2 ≤ (np : Int)

set_option maxRecDepth 20000 in
set_option maxHeartbeats 400000 in
theorem radv_any {w : World} {xb n : Nat} {v : Value} {l : List (Int × Int)} (R : Rf w xb v n l) (hd : ∀ p q, p ∈ l → q ∈ l → p.1 = q.1 → p = q) (hI : ∀ p ∈ l, isI p.1) (hdue : ∀ p ∈ l, (n : Int) < p.2) {t : Int} (ht : isI t) (hn : n + 20000 ≤ 4611686018427387904) (hU : l.length ≤ 1099511627775)
    (np : Nat) (h1 : t ≤ n → np = n) (h2 : (n : Int) < t → t ≤ (n : Int) + 10000 → (np : Int) = t) (h3 : (n : Int) + 10000 < t → (np : Int) = (n : Int) + 10000) :
    Calls Try.prog 19 #[ptr xb, .int .i64 t] w (RAd w xb v l np) := by
  have c0 := R.c0
  have hlt := R.lt
  unfold isI at ht
  by_cases hc : t ≤ (n : Int)
  · have e := h1 hc
    subst e
    have hres : l.filter (fun p => decide ((np : Int) < p.2)) = l := List.filter_eq_self.2 fun p hp => by simpa using hdue p hp
    have HR := Lib.hid R
    have HD := Lib.hid hdue
    have HE := Lib.hid hres
    clear R hdue hres hd hI h1 h2 h3
    unfold ptr
    go_enter Try.func19, Try.ntmps19
    go_wp2_with fail
    go_ret
    exact ⟨.slice none 0 0, v, [], rfl, World.ownsRow_nil _ _ _ _, by rw [HE.out]; exact HR.out, Ch.refl _ _, fun g h => .inl h, List.Pairwise.nil, fun p => ⟨fun h => (by cases h), fun h => absurd (HD.out p h.1) (by omega)⟩⟩
  · have HR := Lib.hid R
    have HDI := Lib.hid hd
    have HI := Lib.hid hI
    have HDU := Lib.hid hdue
    clear R hdue hd hI h1
    have hnp : (n : Int) ≤ np ∧ (np : Int) ≤ (n : Int) + 10000 := by
      by_cases hf : (n : Int) + 10000 < t
      · have := h3 hf; omega
      · have := h2 (by omega) (by omega); omega
    unfold ptr at *
    go_enter Try.func19, Try.ntmps19
    go_upto_if 20 with (fail)
    go_cut [1] from 7 (fun u wx => u = .int .i64 (np : Int) ∧ wx = w)
    case first =>
      by_cases hf : (n : Int) + 10000 < t
      · have e := h3 hf
        have hx : decide (10000 < t - (n : Int)) = true := decide_eq_true (by omega)
        go_wp2_with fail
        go_meet
        case rel => exact ⟨by rw [e], rfl⟩
      · have e := h2 (by omega) (by omega)
        have hx : decide (10000 < t - (n : Int)) = false := decide_eq_false (by omega)
        go_wp2_with fail
        go_meet
        case rel => exact ⟨by rw [e], rfl⟩
    case rest =>
      obtain ⟨rfl, rfl⟩ := hcut
      have HF := Lib.hid (rfirst_any HR.out (by omega))
      clear h2 h3 ht hc
      go_wp2_with fail
      refine (HF.out).mono ?_
      rintro e w1 ⟨k, rfl, S1, hk⟩
      have R1 : Rf w1 xb v n l := HR.out.ch (S1.ch fun _ => False) (fun h => h) fun _ _ h => h
      have HST : Hid (AR wc xb n v l (np : Int) l.length (.slice none 0 0) (.int .i64 k) w1) := Lib.hid ⟨v, [], l, k, rfl, World.ownsRow_nil _ _ _ _, R1, S1.ch _, fun g h => .inl h, fun g _ h => (by cases h), Adv.start _ _, hk, Nat.le_refl _⟩
      clear R1 S1 hk HF
      go_wp2_with fail
      go_loopg [5, 6] l.length (fun kx vo kv wi => AR wc xb n v l (np : Int) kx vo kv wi)
      case atStart => exact HST.out
      case round =>
        obtain ⟨vr, out, r, k, rfl, own, R2, ch, hfr, hap, ad, hk, hkx⟩ := hrel
        obtain ⟨A2, c2, hv2, hcc, hcm⟩ := own_slice R2.row
        subst hv2
        have k0 := R2.c0
        have k1 := R2.c1
        have kf := R2.fz 0
        have HAD := Lib.hid ad
        rcases hk with ⟨hr, rfl⟩ | ⟨j, rfl, hjr, hle⟩
        · subst hr
          have hdn := ad.done (by simp)
          have HDN := Lib.hid hdn
          have HW := Lib.hid (R2.tick np)
          have HOW := Lib.hid own
          have HCH := Lib.hid ch
          have HFR := Lib.hid hfr
          clear R2 own ch hfr hap ad hdn hkx
          go_wp2_with fail
          go_ret
          refine ⟨_, _, out, rfl, ?_, by rw [← HDN.out.1]; exact HW.out, HCH.out.setCell (p := ⟨xb, 0, none⟩) (fun _ => rfl) _, HFR.out, HAD.out.ord, HDN.out.2⟩
          exact own_ch2 HOW.out ((Ch.refl _ (fun k => k = xb)).setCell (p := ⟨xb, 0, none⟩) (fun _ => rfl) _) fun g hg e => by have := (own_ge HOW.out hg).1; omega
        · have hr := R2.row
          obtain ⟨g, hA, x0, x1⟩ := own_cells hr hjr
          subst hA
          have hmr := getD_mem hjr
          have hml : r.getD j (0, 0) ∈ l := (ad.part _).2 (.inr hmr)
          have hix := HI.out _ hml
          have hrl : r.length ≤ l.length := by
            obtain ⟨f, hf⟩ := ad.rest
            rw [hf]
            exact List.length_filter_le _ _
          by_cases hT : (r.getD j (0, 0)).2 ≤ (np : Int)
          · have hstep := ad.step HDI.out hmr (led_all hle) hT
            have hlt2 := woL_lt hmr
            have hwm : (woL r (r.getD j (0, 0)).1).length ≤ 1099511627776 := by omega
            have hol : out.length ≤ 1099511627776 := by
              have h9 := nodup_lenA out l ad.ord.nodup fun p hp => (ad.part p).2 (.inl hp)
              omega
            have HSTEP := Lib.hid hstep
            have HLT2 := Lib.hid hlt2
            have HWM := Lib.hid hwm
            have HRL := Lib.hid hrl
            have HIX := Lib.hid hix
            have HR2 := Lib.hid R2
            have HOW := Lib.hid own
            have HCH := Lib.hid ch
            have HAP := Lib.hid hap
            have hgl := R2.lt
            clear hstep hlt2 hwm hrl hix R2 own ch hfr hap hr hmr hml hle HAD ad kf
            generalize hp1 : (r.getD j (0, 0)).1 = p1 at *
            generalize hp2 : (r.getD j (0, 0)).2 = p2 at *
            have HP1 := Lib.hid hp1
            have HP2 := Lib.hid hp2
            have HPP : Hid (r.getD j (0, 0) = (p1, p2)) := Lib.hid (by rw [← hp1, ← hp2])
            clear hp1 hp2
            obtain ⟨d0, d1⟩ := d_cells wr (.int .i64 p1) (.int .i64 p2) 47
            have HD0 := Lib.hid d0
            have HD1 := Lib.hid d1
            have HO4 := Lib.hid (HOW.out.alloc (.cells #[.int .i64 p1, .int .i64 p2] 47))
            have HBL : Hid (wc.heap.size ≤ (wr.alloc (.cells #[.int .i64 p1, .int .i64 p2] 47)).heap.size) := Lib.hid (by
              have := HCH.out.size
              rw [World.size_alloc]
              omega)
            have hAL : Hid (∀ (w4 : World) (row : Option Nat), (wr.alloc (.cells #[.int .i64 p1, .int .i64 p2] 47)).grownBy w4 u5.ownBlock → Rf w4 xb (.slice (some ⟨g, 0, none⟩) r.length c2) n r ∧ Ch wc w4 (fun k => k = xb)) := Lib.hid (by
              intro w4 row gr4
              refine ⟨(HR2.out.ch (m := fun _ => False) ((Ch.refl _ _).alloc _) (fun h => h) fun _ _ h => h).grown gr4 (fun e => by have := (own_ge HOW.out e).1; omega) (fun g' hg' => HAP.out g' hg'), (HCH.out.alloc _).grown gr4 fun k hk hkl => ?_⟩
              have := (own_ge HOW.out hk).1
              omega)
            clear d0 d1
            go_wp2_with (first | (at_builtin; refine wpList_app2 rfl _ _ 35 47 rfl Try.underlying35 infoRDue wc.heap.size _ _ _ rfl HO4.out HBL.out _ _ _ rfl HD0.out HD1.out hol ?_; intro v4 w4 own4 gr4 at4; obtain ⟨R4, ch4⟩ := hAL.out w4 none gr4; have k4 := R4.c1; obtain ⟨g', hg', y0, y1⟩ := own_cells R4.row hjr; injection hg' with hg'; injection hg' with hg' _ _; subst hg'; rw [HP1.out] at y0; rw [HP2.out] at y1; have HR4 := Lib.hid R4; have HC4 := Lib.hid ch4; have HO5 := Lib.hid own4; clear R4 ch4 own4 gr4 at4 k1 x0 x1))
            refine (rcancel_any HR4.out HIX.out (by have := HRL.out; omega)).mono ?_
            rintro e w5 ⟨b, v5, rfl, _, R5, ch5, fr5⟩
            have HF2 := Lib.hid (rfirst_any R5 HWM.out)
            have HR5 := Lib.hid R5
            have HC5 := Lib.hid ch5
            have HFR5 := Lib.hid fr5
            clear R5 ch5 fr5 y0 y1 k4
            go_wp2_with fail
            refine (HF2.out).mono ?_
            rintro e w6 ⟨k6, rfl, S6, hk6⟩
            have HS6 := Lib.hid S6
            have HK6 := Lib.hid hk6
            clear S6 hk6 HF2
            go_wp2_with fail
            go_roundg (woL r p1).length
            case rel =>
              have hs45 := HC5.out.size
              have ow5 := own_ch2 HO5.out HC5.out fun g' hg' e => by have := (own_ge HO5.out hg').1; omega
              have hstep := HSTEP.out
              rw [HPP.out] at hstep
              refine ⟨v5, out ++ [(p1, p2)], woL r p1, k6, rfl, ?_, HR5.out.ch (HS6.out.ch fun _ => False) (fun h => h) (fun _ _ h => h), (HC4.out.trans HC5.out (m'' := fun k => k = xb) (fun _ _ h => h) (fun _ _ h => h)).trans (HS6.out.ch fun _ => False) (fun _ _ h => h) (fun _ _ h => h.elim), fun g' hg' => .inr (Nat.le_trans HC4.out.size (HFR5.out g' hg')), fun g' hg' e => ?_, hstep, HK6.out, Nat.le_refl _⟩
              · rw [List.length_append]
                exact own_ch2 ow5 (HS6.out.ch fun _ => False) fun _ _ h => h
              · have h1 := HFR5.out g' hg'
                have h2 := (own_ge HO5.out e).2
                omega
            case measure => exact Nat.lt_of_lt_of_le HLT2.out hkx
          · have hdn := ad.done fun p hp => by
              have h9 := led_all hle p hp
              unfold LeD at h9
              omega
            have HDN := Lib.hid hdn
            have HW := Lib.hid (R2.tick np)
            have HOW := Lib.hid own
            have HCH := Lib.hid ch
            have HFR := Lib.hid hfr
            clear R2 own ch hfr hap ad hdn hkx hr hmr hml hix hrl hle
            generalize (r.getD j (0, 0)).1 = p1 at *
            generalize (r.getD j (0, 0)).2 = p2 at *
            have hT2 : decide (p2 ≤ (np : Int)) = false := decide_eq_false hT
            go_wp2_with fail
            go_ret
            refine ⟨_, _, out, rfl, ?_, by rw [← HDN.out.1]; exact HW.out, HCH.out.setCell (p := ⟨xb, 0, none⟩) (fun _ => rfl) _, HFR.out, HAD.out.ord, HDN.out.2⟩
            exact own_ch2 HOW.out ((Ch.refl _ (fun k => k = xb)).setCell (p := ⟨xb, 0, none⟩) (fun _ => rfl) _) fun g' hg' e => by have := (own_ge HOW.out hg').1; omega

end Go.Proofs.Ytkmhgcdjmfafhaa

/- Which paths are able, and which is picked: the document's own answers. Conditions: the slice is not longer than 2^40; whole numbers of 64 bits. -/
import Derived.Test.YtanigkmcmefpaaaScB
namespace Go.Proofs.Ytanigkmcmefpaaa
set_option linter.unusedVariables false
set_option linter.unusedSimpArgs false
open Go.RowKit Go.Lib

/-- No path up to q spares the backup at i. -/
def Nob (l : List Pa) (i q : Nat) : Prop := ∀ j, j < q → ((l.getD i p0).bk && spr (l.getD j p0)) = false
theorem abl_end {l : List Pa} {i : Nat} (h : Nob l i l.length) (hm : may (l.getD i p0) = true) : abl l i = true := by
  unfold abl
  rw [hm]
  cases hb : (l.getD i p0).bk
  · rfl
  · rw [spd_false fun j hj => by have := h j hj; rw [hb] at this; simpa using this]
    rfl
theorem abl_hit {l : List Pa} {i q : Nat} (hq : q < l.length) (h : ((l.getD i p0).bk && spr (l.getD q p0)) = true) : abl l i = false := by
  rw [Bool.and_eq_true] at h
  unfold abl
  rw [h.1, spd_true hq h.2]
  simp

set_option maxHeartbeats 3200000 in
theorem rable_any {w : World} {A : Option Addr} {n c : Nat} {l : List Pa} (h : Pas w A n c l) {i : Nat} (hi : i < n) :
    Calls Try.prog 16 #[.slice A n c, .int .i64 (i : Int)] w fun e w' => e = .returned (.bool (abl l i)) ∧ w' = w := by
  have HL := Lib.hid h
  have HN := Lib.hid h.len
  have HI := Lib.hid hi
  have hcp := h.cap
  have hmx := h.max
  obtain ⟨gl, ol, rfl, hmem⟩ := h.mem (by omega)
  obtain ⟨x0, x1, x2, x3⟩ := hmem i hi
  have HMEM := Lib.hid hmem
  have HM : Hid (may (l.getD i p0) = ((l.getD i p0).rd && decide ((l.getD i p0).lf < 4))) := Lib.hid rfl
  have HA : Hid (abl l i = (may (l.getD i p0) && !((l.getD i p0).bk && spd l))) := Lib.hid rfl
  have HE := Lib.hid (@abl_end l i)
  have HH := Lib.hid (fun q => @abl_hit l i q)
  have HO : Hid (Nob l i 0) := Lib.hid (fun j hj => absurd hj (by omega))
  have HS : Hid (∀ q, Nob l i q → ((l.getD i p0).bk && spr (l.getD q p0)) = false → Nob l i (q + 1)) := Lib.hid (fun q h1 h2 j hj => by
    rcases Nat.lt_succ_iff_lt_or_eq.1 hj with h | rfl
    · exact h1 j h
    · exact h2)
  clear h hmem x2
  generalize hp : l.getD i p0 = p at *
  clear hp
  obtain ⟨a, b, sm, lf⟩ := p
  dsimp only at *
  cases a
  · rw [show abl l i = false from by rw [HA.out, HM.out]; rfl]
    go_enter Try.func16, Try.ntmps16
    go_wp2_with fail
    go_ret
    exact ⟨rfl, rfl⟩
  · by_cases h4 : lf < 4
    · have h4' : ¬ (4 : Int) ≤ lf := by omega
      have HMT : Hid (may ⟨true, b, sm, lf⟩ = true) := Lib.hid (by rw [HM.out]; simpa using h4)
      clear HM
      go_enter Try.func16, Try.ntmps16
      go_wp2_with fail
      go_loopw [5] (fun ix wr => ∃ q : Nat, q ≤ n ∧ ix = .int .i64 (q : Int) ∧ Nob l i q ∧ wr = w) (fun ix _ => n - (intOf ix).toNat)
      case atStart => exact ⟨0, Nat.zero_le _, rfl, HO.out, rfl⟩
      case round =>
        obtain ⟨q, hq, rfl, hno, hwr⟩ := hrel
        subst hwr
        have HNO := Lib.hid hno
        clear hno
        by_cases hqn : q < n
        · have HQ := Lib.hid hqn
          obtain ⟨y0, y1, y2, y3⟩ := HMEM.out q hqn
          have HHQ := Lib.hid (HH.out q (by rw [HN.out]; exact hqn))
          have HSQ := Lib.hid (HS.out q HNO.out)
          clear y2 y3
          generalize l.getD q p0 = k at *
          obtain ⟨ka, kb, ks, kl⟩ := k
          unfold spr at HHQ HSQ
          dsimp only at *
          cases b <;> cases ka <;> cases kb
          · go_wp2_with fail
            go_roundw
            case rel => exact ⟨q + 1, by have := HQ.out; omega, by go_num, HSQ.out rfl, trivial⟩
            case measure => have := HQ.out; simp [intOf]; omega
          · go_wp2_with fail
            go_roundw
            case rel => exact ⟨q + 1, by have := HQ.out; omega, by go_num, HSQ.out rfl, trivial⟩
            case measure => have := HQ.out; simp [intOf]; omega
          · go_wp2_with fail
            go_roundw
            case rel => exact ⟨q + 1, by have := HQ.out; omega, by go_num, HSQ.out rfl, trivial⟩
            case measure => have := HQ.out; simp [intOf]; omega
          · go_wp2_with fail
            go_roundw
            case rel => exact ⟨q + 1, by have := HQ.out; omega, by go_num, HSQ.out rfl, trivial⟩
            case measure => have := HQ.out; simp [intOf]; omega
          · go_wp2_with fail
            go_roundw
            case rel => exact ⟨q + 1, by have := HQ.out; omega, by go_num, HSQ.out rfl, trivial⟩
            case measure => have := HQ.out; simp [intOf]; omega
          · go_wp2_with fail
            go_roundw
            case rel => exact ⟨q + 1, by have := HQ.out; omega, by go_num, HSQ.out rfl, trivial⟩
            case measure => have := HQ.out; simp [intOf]; omega
          · go_wp2_with fail
            go_ret
            exact ⟨by rw [HHQ.out rfl]; rfl, rfl⟩
          · go_wp2_with fail
            go_roundw
            case rel => exact ⟨q + 1, by have := HQ.out; omega, by go_num, HSQ.out rfl, trivial⟩
            case measure => have := HQ.out; simp [intOf]; omega
        · obtain rfl : q = n := by omega
          go_wp2_with fail
          go_ret
          exact ⟨by rw [HE.out (by rw [HN.out]; exact HNO.out) HMT.out]; rfl, rfl⟩
    · have h4' : (4 : Int) ≤ lf := by omega
      rw [show abl l i = false from by rw [HA.out, HM.out, decide_eq_false h4]; rfl]
      go_enter Try.func16, Try.ntmps16
      go_wp2_with fail
      go_ret
      exact ⟨rfl, rfl⟩

set_option maxHeartbeats 3200000 in
theorem rAble_any {w : World} {A : Option Addr} {n c : Nat} {l : List Pa} (h : Pas w A n c l) (h40 : n ≤ 1099511627776) :
    Calls Try.prog 10 #[.slice A n c] w fun e w' => ∃ A' m c', e = .returned (.slice A' m c') ∧ RI .i64 w' A' m c' (ables l n) ∧ Below w.heap.size w w' := by
  have HL := Lib.hid h
  have HB := Lib.hid (Below.refl w.heap.size w)
  have H40 := Lib.hid h40
  have hcp := h.cap
  have hmx := h.max
  clear h h40
  go_enter Try.func10, Try.ntmps10
  go_wp2_with fail
  go_loopw [3, 4] (fun s4 ix wr => ∃ (q : Nat) (A' : Option Addr) (m c' : Nat), q ≤ n ∧ s4 = .slice A' m c' ∧ ix = .int .i64 (q : Int) ∧ RI .i64 wr A' m c' (ables l q) ∧ wr.ownsRow w.heap.size 3 1 (.slice A' m c') m (iv .i64 (ables l q)) ∧ Below w.heap.size w wr) (fun _ ix _ => n - (intOf ix).toNat)
  case atStart => exact ⟨0, none, 0, 0, Nat.zero_le _, rfl, rfl, RI.nil_ _ _, World.ownsRow_nil _ _ _ _, HB.out⟩
  case round =>
    obtain ⟨q, A1, m, c1, hq, rfl, rfl, hR, hO, B⟩ := hrel
    have HR := Lib.hid hR
    have HO := Lib.hid hO
    have HB1 := Lib.hid B
    have HML := Lib.hid (hR.len ▸ ables_len l q : m ≤ q)
    clear hR hO B HB
    by_cases hqn : q < n
    · have HQ := Lib.hid hqn
      have HAB := Lib.hid (rable_any (HL.out.below HB1.out) hqn)
      go_wp2_with fail
      refine (HAB.out).mono ?_
      rintro e w3 ⟨rfl, rfl⟩
      clear HAB
      cases hr : abl l q
      · have HE := Lib.hid hr
        clear hr
        go_wp2_with fail
        go_roundw
        case rel => exact ⟨q + 1, A1, m, c1, by have := HQ.out; omega, rfl, by go_num, by rw [ables_no HE.out]; exact HR.out, by rw [ables_no HE.out]; exact HO.out, HB1.out⟩
        case measure => have := HQ.out; simp [intOf]; omega
      · have HE := Lib.hid hr
        clear hr
        go_wp2_with (at_builtin; refine wpList_appi (W := w) rfl _ _ .i64 25 3 8 rfl Try.underlying25 infoInt (by decide) _ _ _ rfl (own_below HO.out (below_a _ _)) (HB1.out.alloc HB1.out.size _) _ 1 1 [(q : Int)] rfl (RI.lit1 _ _ _) (by have := HML.out; have := H40.out; have := HQ.out; omega) ?_; intro A3 c3 w5 r5 o5 b5)
        go_roundw
        case rel => exact ⟨q + 1, A3, m + 1, c3, by have := HQ.out; omega, rfl, by go_num, by rw [ables_yes HE.out]; exact r5, by rw [ables_yes HE.out]; exact o5, b5⟩
        case measure => have := HQ.out; simp [intOf]; omega
    · obtain rfl : q = n := by omega
      go_wp2_with fail
      go_ret
      exact ⟨A1, m, c1, rfl, HR.out, HB1.out⟩
end Go.Proofs.Ytanigkmcmefpaaa

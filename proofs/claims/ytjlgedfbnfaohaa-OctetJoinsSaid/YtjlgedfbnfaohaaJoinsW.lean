/- The walk of the law OctetJoins: for every slice of slices that hold bytes it returns true, and writes nothing that was there. -/
import Derived.Test.YtjlgedfbnfaohaaStep
namespace Go.Proofs.Ytjlgedfbnfaohaa
set_option linter.unusedVariables false
open Go.RowKit

/-- A row of bytes of the call's own, of which one was written. -/
theorem own_set {w : World} {base g n cap j : Nat} {e : TypeId} {l : List UInt8} {x : Int} (h : w.ownsRow base e 1 (.slice (some ⟨g, 0, none⟩) n cap) n (bv l)) (hx : 0 ≤ x) (hx' : x < 256) :
    (w.setCell ⟨g, j, none⟩ (.int .u8 x)).ownsRow base e 1 (.slice (some ⟨g, 0, none⟩) n cap) n (bv (l.set j (UInt8.ofNat x.toNat))) := by
  have h1 := (World.ownsRow.stored h j (.int .u8 x)).1
  have e1 : (bv l).set j (.int .u8 x) = bv (l.set j (UInt8.ofNat x.toNat)) := by
    unfold bv
    rw [List.map_set, UInt8.toNat_ofNat']
    congr
    omega
  rw [e1] at h1
  exact h1
theorem own_at {w : World} {base n : Nat} {e : TypeId} {v : Value} {l : List UInt8} (h : w.ownsRow base e 1 v n (bv l)) {j : Nat} (hj : j < n) :
    ∃ g cap, v = .slice (some ⟨g, 0, none⟩) n cap ∧ base ≤ g ∧ cap ≤ 9223372036854775807 ∧ n ≤ cap ∧ w.cell? ⟨g, j, none⟩ = some (.int .u8 ((l.getD j 0).toNat : Int)) ∧ w.frozen? ⟨g, j, none⟩ = false := by
  have hl : l.length = n := by have := h.1; rw [bv_length] at this; omega
  rcases h.2 with ⟨rfl, rfl⟩ | ⟨g, cap, cur, rfl, hb, hg, hnc, hm, hs, ht⟩
  · omega
  · refine ⟨g, cap, rfl, hb, by unfold maxLen at hm; omega, hnc, ?_, World.ownsRow.frozenAt h j⟩
    rw [World.ownsRow.cellAt h j (by omega), bv_at l j (by omega)]

theorem same_q {A B : Option Addr} {n c m d : Nat} {l r : List UInt8} {w : World} {q : Nat} (h : RB w A n c l) (h' : RB w B m d r) :
    Calls Try.prog 17 #[.slice A n c, .slice B m d] (w.drewN q) fun e w' => e = .returned (.bool (l == r)) ∧ ∃ k, w' = w.drewN k :=
  (same_any A B n c m d l r (w.drewN q) (h.drewN q) (h'.drewN q)).mono fun _ _ hh => ⟨hh.1, q, hh.2.symm⟩
theorem Same_q {A B : Option Addr} {n c m d : Nat} {l r : List UInt8} {w : World} {q : Nat} (h : RB w A n c l) (h' : RB w B m d r) :
    Calls Try.prog 11 #[.slice A n c, .slice B m d] (w.drewN q) fun e w' => e = .returned (.bool (l == r)) ∧ ∃ k, w' = w.drewN k :=
  (Same_any A B n c m d l r (w.drewN q) (h.drewN q) (h'.drewN q)).mono fun _ _ ⟨h1, k, h2⟩ => ⟨h1, q + k, by rw [h2, World.drewN_drewN]⟩

/-- What the second loop of the law has: the answer's row, with whatever bytes. -/
def Scribbled (W : World) (e : TypeId) (v : Value) (n : Nat) (w : World) : Prop := (∃ l, w.ownsRow W.heap.size e 1 v n (bv l)) ∧ Below W.heap.size W w

set_option maxRecDepth 100000 in
set_option maxHeartbeats 1600000 in
theorem Joins_any (A : Option Addr) (n c : Nat) (ps : List (List UInt8)) (w : World) (h : Parts w A n c ps) :
    Calls Try.prog 5 #[.slice A n c] w (Held w) := by
  have hmx := h.max
  have hcp := h.cap
  have hpl := Lib.hid h.len
  by_cases hn : 50 < n
  · go_enter Try.func5, Try.ntmps5
    go_wp2_with (go_at_call 8; refine (wakes_any _).mono ?_; rintro e w1 ⟨rfl, hb1⟩)
    go_ret
    exact ⟨rfl, hb1⟩
  · go_enter Try.func5, Try.ntmps5
    go_wp2_with fail
    refine (wakes_any _).mono ?_
    rintro e w1 ⟨rfl, hb1⟩
    have h1 := h.below hb1
    clear h
    go_wp2_with fail
    go_loopw [3, 15] (fun v i wr => ∃ j : Nat, j ≤ n ∧ i = .int .i64 j ∧ tl ps j ≤ 200 * j ∧ wr.ownsRow w1.heap.size 5 1 v (tl ps j) (bv (fl ps j)) ∧ Below w1.heap.size w1 wr) (fun _ i _ => n - (intOf i).toNat)
    case atStart => exact ⟨0, Nat.zero_le _, rfl, Nat.le_refl _, World.ownsRow_nil _ _ _ _, Below.refl _ _⟩
    case round =>
      obtain ⟨j, hj, rfl, hT, hown, hb⟩ := hrel
      by_cases hlt : j < n
      · have hS := tl_step ps j (by rw [hpl.out]; exact hlt)
        have hF := fl_step ps j (by rw [hpl.out]; exact hlt)
        obtain ⟨b, o, B, m, d, rfl, hc, hr⟩ := (h1.below hb).at_ hlt
        rw [hr.len] at hS
        have HS := Lib.hid hS
        have HF := Lib.hid hF
        clear hS hF h1
        by_cases hm : 200 < m
        · go_wp2_with fail
          go_ret
          exact ⟨rfl, below_trans hb1 hb⟩
        · generalize tl ps j = x at *
          go_wp2_with (at_builtin; refine wpList_app_more rfl (.tmp 24) (.tmp 28) 22 5 rfl Try.underlying22 infoByte _ x (fl ps j) rfl hown hb B m d (ps.getD j []) rfl hr (by omega) ?_; intro A' c' w2 _ hown' hs2)
          rw [← HF.out, ← HS.out] at hown'
          clear hown hb hr
          go_wp2
          go_roundw
          case rel => exact ⟨j + 1, by omega, by go_num, by rw [HS.out]; omega, by rw [HS.out] at hown' ⊢; exact hown', hs2⟩
          case measure => simp [intOf]; omega
      · obtain rfl : j = n := by omega
        obtain ⟨B, d, rfl, hr, _⟩ := RB.of_own hown
        have h2 := h1.below hb
        have hb2 := below_trans hb1 hb
        clear hown h1 hb hb1
        have hT2 : tl ps j ≤ 1099511627776 := by omega
        clear hT
        go_wp2_with fail
        refine (Join_any A j c ps wr h2 hT2).mono ?_
        rintro e w2 ⟨v, rfl, hown, hs2⟩
        obtain ⟨B2, d2, rfl, r2, _⟩ := RB.of_own hown
        have h3 := h2.below hs2
        have hr2 := hr.below hs2
        generalize hm0 : tl ps j = m at *
        have HM := Lib.hid hm0
        clear hm0
        go_wp2_with fail
        refine (Same_yes _ _ _ _ _ _ _ w2 r2 hr2).mono ?_
        rintro e w3 ⟨rfl, hs3⟩
        go_wp2_with fail
        refine (same_yes _ _ _ _ _ _ _ w3 (r2.below hs3) (hr2.below hs3)).mono ?_
        rintro e w4 ⟨rfl, hs4⟩
        have hs24 := below_trans hs3 hs4
        have hs04 := below_trans hs2 hs24
        have own4 := own_below hown hs24
        have hm2 := r2.max
        have hm3 := r2.cap
        clear hs2 hs3 hs4 hs24 hown r2 hr2 h3
        go_wp2_with fail
        go_loopw [45] (fun i wx => ∃ p : Nat, p ≤ m ∧ i = .int .i64 p ∧ Scribbled wr 5 (.slice B2 m d2) m wx) (fun i _ => m - (intOf i).toNat)
        case atStart => exact ⟨0, Nat.zero_le _, rfl, ⟨_, own4⟩, hs04⟩
        case round =>
          obtain ⟨p, hp, rfl, ⟨l, own5⟩, hs5⟩ := hrel
          by_cases hpm : p < m
          · obtain ⟨g, cap, hv, hg, hcap, hcap2, hcell, hfr⟩ := own_at own5 hpm
            injection hv with e1 _ e3
            subst e1 e3
            have hy := (l.getD p 0).toNat_lt
            have HO := fun (x : Int) (hx : 0 ≤ x) (hx' : x < 256) => own_set (j := p) own5 hx hx'
            have HS := Lib.hid (fun (u : Value) => hs5.setCell (p := ⟨g, p, none⟩) hg u)
            have HO' := Lib.hid HO
            clear HO own5 own4 hs5 hs04 h2 hr
            generalize (l.getD p 0).toNat = y at *
            go_wp2_with fail
            go_roundw
            case rel => exact ⟨p + 1, by omega, by go_num, ⟨_, HO'.out _ (by omega) (by omega)⟩, HS.out _⟩
            case measure => simp [intOf]; omega
          · obtain rfl : p = m := by omega
            have h5 := h2.below hs5
            have hr5 := hr.below hs5
            have hb5 := below_trans hb2 hs5
            clear own5 own4 hs5 hs04 h2 hr hb2
            go_wp2_with fail
            go_loopw [7] (fun i wy => ∃ q : Nat, i = .int .i64 ((q : Int) + 1) ∧ Below wr.heap.size wr wy) (fun i _ => j - (intOf i).toNat)
            case atStart => exact ⟨0, rfl, Below.refl _ _⟩
            case round =>
              obtain ⟨q, rfl, hby⟩ := hrel
              by_cases hq : q + 1 < j
              · obtain ⟨b, o, B6, m6, d6, hA, hc6, hr6⟩ := (h5.below hby).at_ (show q < j by omega)
                obtain ⟨b', o', B7, m7, d7, hA', hc7, hr7⟩ := (h5.below hby).at_ hq
                subst hA
                injection hA' with e1
                injection e1 with e1 e2
                subst e1 e2
                have HY := Lib.hid hby
                clear h5 hr5 hb5 hby
                have w1 : IntKind.i64.wrap ((q : Int) + 1 - 1) = (q : Int) := by rw [IntWalk.i64_in _ (by omega)]; omega
                have w2 : IntKind.i64.wrap (q : Int) = (q : Int) := IntWalk.i64_in _ (by omega)
                have w3 : (q : Int) < (j : Int) := by omega
                have w4 : (q : Int) + 1 < (j : Int) := by omega
                have w5 : (0 : Int) ≤ (q : Int) + 1 := by omega
                have w6 : ((q : Int) + 1).toNat = q + 1 := by omega
                go_wp2_with fail
                go_quiet (first | (go_at_call 17; exact same_q hr6 hr7) | (go_at_call 11; exact Same_q hr6 hr7))
                go_wp2
                go_roundw
                case rel => exact ⟨q + 1, by go_num, below_drewN HY.out nq⟩
                case measure => simp [intOf]; omega
              · have h6 := h5.below hby
                have hr6 := hr5.below hby
                have hb6 := below_trans hb5 hby
                clear h5 hr5 hb5 hby
                go_wp2_with fail
                refine (Join_any A j c ps _ h6 (by rw [HM.out]; exact hT2)).mono ?_
                rintro e w7 ⟨v7, rfl, own7, hs7⟩
                rw [HM.out] at own7
                obtain ⟨B7, d7, rfl, r7, _⟩ := RB.of_own own7
                have hr7 := hr6.below hs7
                have hb7 := below_trans hb6 hs7
                clear own7 h6 hr6 hs7 hb6
                go_wp2_with fail
                refine (Same_yes _ _ _ _ _ _ _ w7 r7 hr7).mono ?_
                rintro e w8 ⟨rfl, hs8⟩
                have hb8 := below_trans hb7 hs8
                clear hb7 hs8 r7 hr7
                go_wp2
                go_ret
                exact ⟨rfl, hb8⟩
end Go.Proofs.Ytjlgedfbnfaohaa

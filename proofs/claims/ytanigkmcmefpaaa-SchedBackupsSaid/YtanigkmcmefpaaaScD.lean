/- Which is picked: the document's own answer. Conditions: the slice is not longer than 2^40; whole numbers of 64 bits. -/
import Derived.Test.YtanigkmcmefpaaaScC
namespace Go.Proofs.Ytanigkmcmefpaaa
set_option linter.unusedVariables false
set_option linter.unusedSimpArgs false
open Go.RowKit Go.Lib

/-- What a call leaves that answers numbers, in no elder memory's place. -/
def MadeI (W : World) (p : List Int → Prop) (e : Ending) (w' : World) : Prop := ∃ A m c r, e = .returned (.slice A m c) ∧ RI .i64 w' A m c r ∧ p r ∧ Below W.heap.size W w'

/-- Gone through from the end down to q: b is the place of the least one. -/
def LstQ (f : Int → Int) (a : List Int) (q b : Nat) : Prop := (∀ j, q ≤ j → j < a.length → f (a.getD b 0) ≤ f (a.getD j 0)) ∧ ∀ j, q ≤ j → j < b → f (a.getD b 0) < f (a.getD j 0)
theorem LstQ.start {f : Int → Int} {a : List Int} : LstQ f a a.length 0 := ⟨fun j h1 h2 => absurd h2 (by omega), fun j h1 h2 => absurd h2 (by omega)⟩
theorem LstQ.take {f : Int → Int} {a : List Int} {q b : Nat} (h : LstQ f a (q + 1) b) (hb : f (a.getD q 0) ≤ f (a.getD b 0)) : LstQ f a q q := by
  refine ⟨fun j h1 h2 => ?_, fun j h1 h2 => absurd h2 (by omega)⟩
  rcases Nat.eq_or_lt_of_le h1 with rfl | h3
  · exact Int.le_refl _
  · exact Int.le_trans hb (h.1 j h3 h2)
theorem LstQ.keep {f : Int → Int} {a : List Int} {q b : Nat} (h : LstQ f a (q + 1) b) (hb : ¬ f (a.getD q 0) ≤ f (a.getD b 0)) : LstQ f a q b := by
  refine ⟨fun j h1 h2 => ?_, fun j h1 h2 => ?_⟩
  · rcases Nat.eq_or_lt_of_le h1 with rfl | h3
    · omega
    · exact h.1 j h3 h2
  · rcases Nat.eq_or_lt_of_le h1 with rfl | h3
    · omega
    · exact h.2 j h3 h2
theorem LstQ.done {f : Int → Int} {a : List Int} {b : Nat} (h : LstQ f a 0 b) (hb : b < a.length) : Lst f a (a.getD b 0) := ⟨b, hb, rfl, fun j hj => h.1 j (Nat.zero_le _) hj, fun j hj => h.2 j (Nat.zero_le _) hj⟩

/-- Gone through from the end down to q: b is the place of the first one behind last. -/
def IxtQ (a : List Int) (last : Int) (q b : Nat) : Prop := (q ≤ b ∧ last < a.getD b 0 ∧ ∀ j, q ≤ j → j < b → a.getD j 0 ≤ last) ∨ (b = 0 ∧ ∀ j, q ≤ j → j < a.length → a.getD j 0 ≤ last)
theorem IxtQ.start {a : List Int} {last : Int} : IxtQ a last a.length 0 := .inr ⟨rfl, fun j h1 h2 => absurd h2 (by omega)⟩
theorem IxtQ.take {a : List Int} {last : Int} {q b : Nat} (h : IxtQ a last (q + 1) b) (hb : last < a.getD q 0) : IxtQ a last q q := .inl ⟨Nat.le_refl _, hb, fun j h1 h2 => absurd h2 (by omega)⟩
theorem IxtQ.keep {a : List Int} {last : Int} {q b : Nat} (h : IxtQ a last (q + 1) b) (hb : ¬ last < a.getD q 0) : IxtQ a last q b := by
  rcases h with ⟨h1, h2, h3⟩ | ⟨rfl, h2⟩
  · refine .inl ⟨by omega, h2, fun j k1 k2 => ?_⟩
    rcases Nat.eq_or_lt_of_le k1 with rfl | k3
    · omega
    · exact h3 j k3 k2
  · refine .inr ⟨rfl, fun j k1 k2 => ?_⟩
    rcases Nat.eq_or_lt_of_le k1 with rfl | k3
    · omega
    · exact h2 j k3 k2
theorem IxtQ.done {a : List Int} {last : Int} {b : Nat} (h : IxtQ a last 0 b) (hb : b < a.length) : Ixt a last b := by
  refine ⟨hb, ?_⟩
  rcases h with ⟨h1, h2, h3⟩ | ⟨rfl, h2⟩
  · exact .inl ⟨h2, fun j hj => h3 j (Nat.zero_le _) hj⟩
  · exact .inr ⟨rfl, fun j hj => h2 j (Nat.zero_le _) hj⟩

section
variable {how last : Int} {l : List Pa}
theorem pick_none (h : how < 0 ∨ 2 < how ∨ ables l l.length = []) : PickR how last l [] := by
  refine ⟨fun _ => rfl, fun hne => ?_⟩
  have h1 : how < 0 ∨ 2 < how := by
    rcases h with h | h | h
    · exact .inl h
    · exact .inr h
    · exact absurd h hne
  exact ⟨fun e => by omega, fun e => by omega, fun e => by omega⟩
theorem pick_quick (hne : ables l l.length ≠ []) {x : Int} (h : Lst (smo l) (ables l l.length) x) : PickR 0 last l [x] :=
  ⟨fun e => by
    rcases e with e | e | e
    · omega
    · omega
    · exact absurd e hne, fun _ => ⟨fun _ => ⟨x, rfl, h⟩, fun e => by omega, fun e => by omega⟩⟩
theorem pick_turn (hne : ables l l.length ≠ []) {i : Nat} (h : Ixt (ables l l.length) last i) : PickR 1 last l [(ables l l.length).getD i 0] :=
  ⟨fun e => by
    rcases e with e | e | e
    · omega
    · omega
    · exact absurd e hne, fun _ => ⟨fun e => by omega, fun _ => ⟨i, h, rfl⟩, fun e => by omega⟩⟩
theorem pick_all (hne : ables l l.length ≠ []) : PickR 2 last l (ables l l.length) :=
  ⟨fun e => by
    rcases e with e | e | e
    · omega
    · omega
    · exact absurd e hne, fun _ => ⟨fun e => by omega, fun e => by omega, fun _ => rfl⟩⟩
end

set_option maxHeartbeats 6400000 in
theorem rPick_any {w : World} {A : Option Addr} {n c : Nat} {l : List Pa} (h : Pas w A n c l) (h40 : n ≤ 1099511627776) (how last : Int) (bh : B64 how) (bl : B64 last) :
    Calls Try.prog 12 #[.int .i64 how, .int .i64 last, .slice A n c] w (MadeI w (PickR how last l)) := by
  have HA := Lib.hid (rAble_any h h40)
  have HL := Lib.hid h
  have H40 := Lib.hid h40
  have hcp := h.cap
  have hmx := h.max
  have hn := h.len
  clear h h40
  go_enter Try.func12, Try.ntmps12
  go_wp2_with fail
  refine (HA.out).mono ?_
  rintro e w1 ⟨B, m, cb, rfl, hR, b1⟩
  have hlen := hR.len
  have hcap := hR.cap
  have hmaxb := hR.max
  have HR := Lib.hid hR
  have HB1 := Lib.hid b1
  have HL1 := Lib.hid (HL.out.below b1)
  have HAT := Lib.hid (fun i h => @ables_at l n i h)
  have HMN := Lib.hid (ables_len l n)
  clear hR b1 HA HL
  subst hn
  have HPN := Lib.hid (@pick_none how last l)
  have HPQ := Lib.hid (@pick_quick last l)
  have HPT := Lib.hid (@pick_turn last l)
  have HPA := Lib.hid (@pick_all last l)
  generalize ables l l.length = a at *
  by_cases hm : m = 0
  · subst hm
    go_wp2_with fail
    go_ret
    exact ⟨none, 0, 0, [], rfl, RI.nil_ _ _, HPN.out (.inr (.inr (List.eq_nil_of_length_eq_zero hlen))), HB1.out⟩
  · have hne : a ≠ [] := fun e => hm (by rw [← hlen, e]; rfl)
    have HNE := Lib.hid hne
    have HLN := Lib.hid hlen
    have hmI : ¬ (m : Int) = 0 := by omega
    have hmb : ((m : Int) == 0) = false := by simpa using hmI
    clear hne hlen
    by_cases h0 : how < 0
    · go_wp2_with fail
      go_ret
      exact ⟨none, 0, 0, [], rfl, RI.nil_ _ _, HPN.out (.inl h0), HB1.out⟩
    · by_cases h2 : 2 < how
      · go_wp2_with fail
        go_ret
        exact ⟨none, 0, 0, [], rfl, RI.nil_ _ _, HPN.out (.inr (.inl h2)), HB1.out⟩
      · have hc : how = 2 ∨ how = 0 ∨ how = 1 := by omega
        have HM0 : Hid (0 < m) := Lib.hid (by omega)
        obtain ⟨ga, oa, rfl, ca⟩ := (HR.out).at_ HM0.out
        have HMM := Lib.hid (HR.out.cap)
        clear h0 h2 bh
        rcases hc with rfl | rfl | rfl
        · clear ca
          go_wp2_with fail
          go_ret
          exact ⟨_, m, cb, a, rfl, HR.out, HPA.out HNE.out, HB1.out⟩
        · have hw1 : IntKind.i64.wrap ((m : Int) - 1) = (m : Int) - 1 := by rw [IntKind.wrap_i64]; omega
          obtain ⟨x0, e0, lx0, -⟩ := HAT.out 0 (by rw [HLN.out]; exact HM0.out)
          have HE0 := Lib.hid e0
          have HX0 := Lib.hid lx0
          rw [e0, Nat.add_zero] at ca
          clear e0 lx0
          go_wp2_with fail
          go_loopw [8, 9] (fun bx ix wr => ∃ (q b x : Nat) (z : Int), q ≤ m ∧ b < m ∧ bx = .int .i64 (x : Int) ∧ a.getD b 0 = (x : Int) ∧ x < l.length ∧ ix = .int .i64 z ∧ z = (q : Int) - 1 ∧ LstQ (smo l) a q b ∧ Below w1.heap.size w1 wr) (fun _ ix _ => (intOf ix + 1).toNat)
          case atStart => exact ⟨m, 0, x0, _, Nat.le_refl _, HM0.out, rfl, HE0.out, HX0.out, rfl, rfl, by have := @LstQ.start (smo l) a; rwa [HLN.out] at this, Below.refl _ _⟩
          case round =>
            obtain ⟨q, b, x, z, hq, hb, rfl, hx, lx, rfl, hz, hL, B1⟩ := hrel
            have HB2 := Lib.hid B1
            have HLQ := Lib.hid hL
            have HX := Lib.hid (And.intro hb (And.intro hx hq))
            have HLX := Lib.hid lx
            clear hL hb hx B1 ca hw1 HE0 HX0
            by_cases hq0 : q = 0
            · subst hq0
              obtain rfl : z = -1 := by omega
              clear hz
              go_wp2_with fail
              go_ret
              exact ⟨_, 1, 1, [(x : Int)], rfl, RI.lit1 _ _ _, HPQ.out HNE.out (by have := HLQ.out.done (by rw [HLN.out]; exact HX.out.1); rwa [HX.out.2.1] at this), HB1.out.trans ((HB2.out.alloc HB2.out.size _).mono HB1.out.size)⟩
            · obtain ⟨p, rfl⟩ : ∃ p, q = p + 1 := ⟨q - 1, by omega⟩
              obtain rfl : z = (p : Int) := by omega
              have hpm : p < m := by omega
              have hpc : p < cb := by omega
              clear hz hq0 hq
              obtain ⟨y, ey, ly, -⟩ := HAT.out p (by rw [HLN.out]; exact hpm)
              have cp := (HR.out.below HB2.out).cell hpm
              rw [ey] at cp
              obtain ⟨gl, ol, rfl, hmem⟩ := (HL1.out.below HB2.out).mem (by omega)
              have cy := (hmem y ly).2.2.1
              have cx := (hmem x HLX.out).2.2.1
              have hxl := HLX.out
              have HSY : Hid (smo l (a.getD p 0) = (l.getD y p0).sm) := Lib.hid (by rw [ey]; rfl)
              have HSX : Hid (smo l (a.getD b 0) = (l.getD x p0).sm) := Lib.hid (by rw [HX.out.2.1]; rfl)
              have HEY := Lib.hid ey
              have HP := Lib.hid hpm
              have HLY := Lib.hid ly
              generalize (l.getD y p0).sm = sy at *
              generalize (l.getD x p0).sm = sx at *
              have hw2 : IntKind.i64.wrap ((p : Int) - 1) = (p : Int) - 1 := by rw [IntKind.wrap_i64]; omega
              clear hmem ey
              by_cases hle : sy ≤ sx
              · have HK := Lib.hid (HLQ.out.take (by rw [HSY.out, HSX.out]; exact hle))
                have hd : decide (sy ≤ sx) = true := decide_eq_true hle
                go_wp2_with fail
                go_quiet (fail)
                go_wp2_with fail
                go_roundw
                case rel => exact ⟨p, p, y, _, by have := HP.out; omega, HP.out, rfl, HEY.out, HLY.out, rfl, rfl, HK.out, below_dn HB2.out _⟩
                case measure => simp [intOf]
              · have HK := Lib.hid (HLQ.out.keep (by rw [HSY.out, HSX.out]; exact hle))
                have hd : decide (sy ≤ sx) = false := decide_eq_false hle
                go_wp2_with fail
                go_quiet (fail)
                go_wp2_with fail
                go_roundw
                case rel => exact ⟨p, b, x, _, by have := HP.out; omega, HX.out.1, rfl, HX.out.2.1, HLX.out, rfl, rfl, HK.out, below_dn HB2.out _⟩
                case measure => simp [intOf]
        · have hw1 : IntKind.i64.wrap ((m : Int) - 1) = (m : Int) - 1 := by rw [IntKind.wrap_i64]; omega
          obtain ⟨x0, e0, lx0, -⟩ := HAT.out 0 (by rw [HLN.out]; exact HM0.out)
          have HE0 := Lib.hid e0
          rw [e0, Nat.add_zero] at ca
          clear e0 lx0
          go_wp2_with fail
          go_loopw [8, 9] (fun bx ix wr => ∃ (q b x : Nat) (z : Int), q ≤ m ∧ b < m ∧ bx = .int .i64 (x : Int) ∧ a.getD b 0 = (x : Int) ∧ ix = .int .i64 z ∧ z = (q : Int) - 1 ∧ IxtQ a last q b ∧ Below w1.heap.size w1 wr) (fun _ ix _ => (intOf ix + 1).toNat)
          case atStart => exact ⟨m, 0, x0, _, Nat.le_refl _, HM0.out, rfl, HE0.out, rfl, rfl, by have := @IxtQ.start a last; rwa [HLN.out] at this, Below.refl _ _⟩
          case round =>
            obtain ⟨q, b, x, z, hq, hb, rfl, hx, rfl, hz, hL, B1⟩ := hrel
            have HB2 := Lib.hid B1
            have HLQ := Lib.hid hL
            have HX := Lib.hid (And.intro hb (And.intro hx hq))
            clear hL hb hx B1 ca hw1 HE0
            by_cases hq0 : q = 0
            · subst hq0
              obtain rfl : z = -1 := by omega
              clear hz
              go_wp2_with fail
              go_ret
              exact ⟨_, 1, 1, [(x : Int)], rfl, RI.lit1 _ _ _, by have := HPT.out HNE.out (HLQ.out.done (by rw [HLN.out]; exact HX.out.1)); rwa [HX.out.2.1] at this, HB1.out.trans ((HB2.out.alloc HB2.out.size _).mono HB1.out.size)⟩
            · obtain ⟨p, rfl⟩ : ∃ p, q = p + 1 := ⟨q - 1, by omega⟩
              obtain rfl : z = (p : Int) := by omega
              have hpm : p < m := by omega
              have hpc : p < cb := by omega
              clear hz hq0 hq
              obtain ⟨y, ey, ly, -⟩ := HAT.out p (by rw [HLN.out]; exact hpm)
              have cp := (HR.out.below HB2.out).cell hpm
              rw [ey] at cp
              have HEY := Lib.hid ey
              have HP := Lib.hid hpm
              have hw2 : IntKind.i64.wrap ((p : Int) - 1) = (p : Int) - 1 := by rw [IntKind.wrap_i64]; omega
              clear ly
              by_cases hle : last < (y : Int)
              · have HK := Lib.hid (HLQ.out.take (by rw [ey]; exact hle))
                have hd : decide (last < (y : Int)) = true := decide_eq_true hle
                clear ey
                go_wp2_with fail
                go_quiet (fail)
                go_wp2_with fail
                go_roundw
                case rel => exact ⟨p, p, y, _, by have := HP.out; omega, HP.out, rfl, HEY.out, rfl, rfl, HK.out, below_dn HB2.out _⟩
                case measure => simp [intOf]
              · have HK := Lib.hid (HLQ.out.keep (by rw [ey]; exact hle))
                have hd : decide (last < (y : Int)) = false := decide_eq_false hle
                clear ey
                go_wp2_with fail
                go_quiet (fail)
                go_wp2_with fail
                go_roundw
                case rel => exact ⟨p, b, x, _, by have := HP.out; omega, HX.out.1, rfl, HX.out.2.1, rfl, rfl, HK.out, below_dn HB2.out _⟩
                case measure => simp [intOf]
end Go.Proofs.Ytanigkmcmefpaaa

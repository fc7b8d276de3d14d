/- A set beside rows that were told of it; the law SpanDrops. Conditions: the acts lie where the slice says. -/
import Derived.Test.YteiojdmnfjcagaaSpN
import Derived.Test.YteiojdmnfjcagaaTri
namespace Go.Proofs.Yteiojdmnfjcagaa
set_option linter.unusedVariables false
set_option linter.unusedSimpArgs false
open Go.RowKit Go.Lib

/-- A set in memory that is newer than W. -/
structure Sg (W w : World) (sb : Nat) (v : Value) (l : List Rn) : Prop where
  st : St w sb v l
  bel : Below W.heap.size W w
  lo : W.heap.size ≤ sb
  own : ∀ k, v.ownBlock = some k → W.heap.size ≤ k
/-- Runs that lie apart from the set. -/
structure As (w : World) (sb : Nat) (v u : Value) (was : List Rn) : Prop where
  row : Row w u was
  ap : ∀ k, u.ownBlock = some k → k ≠ sb ∧ v.ownBlock ≠ some k
section
variable {W w w' : World} {sb : Nat} {v v' u : Value} {l l' was : List Rn}
theorem Sg.below (h : Sg W w sb v l) (b : Below w.heap.size w w') : Sg W w' sb v l := ⟨h.st.below b, h.bel.trans (b.mono h.bel.size), h.lo, h.own⟩
theorem Sg.step (h : Sg W w sb v l) (s : St w' sb v' l') (c : Ch w w' (fun k => k = sb ∨ v.ownBlock = some k)) (o : ∀ k, v'.ownBlock = some k → v.ownBlock = some k ∨ w.heap.size ≤ k) : Sg W w' sb v' l' :=
  ⟨s, ((Ch.of_below (fun k => k = sb ∨ v.ownBlock = some k) h.bel).then_ c).below (fun x hx e => by
    rcases e with rfl | e
    · exact absurd h.lo (by omega)
    · exact absurd (h.own x e) (by omega)), h.lo, fun k hk => by
    rcases o k hk with e | e
    · exact h.own k e
    · exact Nat.le_trans h.bel.size e⟩
theorem As.below (h : As w sb v u was) (b : Below w.heap.size w w') : As w' sb v u was := ⟨h.row.below b, h.ap⟩
theorem As.step (h : As w sb v u was) (c : Ch w w' (fun k => k = sb ∨ v.ownBlock = some k)) (o : ∀ k, v'.ownBlock = some k → v.ownBlock = some k ∨ w.heap.size ≤ k) : As w' sb v' u was :=
  ⟨h.row.ch c (fun g hg e => by
    rcases e with e | e
    · exact (h.ap g hg).1 e
    · exact (h.ap g hg).2 e), fun k hk => ⟨(h.ap k hk).1, fun e => by
    rcases o k e with e2 | e2
    · exact (h.ap k hk).2 e2
    · have := h.row.lt hk
      omega⟩⟩
theorem Sg.add (h : Sg W w sb v l) {f g : Int} (hf : isI f) (hg : isI g) : Calls Try.prog 11 #[ptr sb, .int .i64 f, .int .i64 g] w (AddP w sb v l f g) := Add_any h.st hf hg
end
theorem newS (W w : World) (hb : Below W.heap.size W w) : Calls Try.prog 9 #[.slice none 0 0] w fun e w' => ∃ (sb : Nat) (v : Value), e = .returned (ptr sb) ∧ Sg W w' sb v [] ∧ Below w.heap.size w w' ∧ w.heap.size ≤ sb ∧ ∀ k, v.ownBlock = some k → w.heap.size ≤ k := by
  refine (New_any (l := []) (.inl ⟨rfl, rfl⟩) (by simp) (fun r hr => by cases hr)).mono fun e w' h => ?_
  obtain ⟨sb, v, l, rfl, S, hh, b, h1, h2⟩ := h
  have hl : l = [] := tid_ext (b := 0) S.tid trivial fun n => ⟨fun hn => (by obtain ⟨r, hr, _⟩ := (hh n).1 hn; cases hr), fun hn => absurd hn (has_nil n)⟩
  subst hl
  exact ⟨sb, v, rfl, ⟨S, hb.trans (b.mono hb.size), Nat.le_trans hb.size h1, fun k hk => Nat.le_trans hb.size (h2 k hk)⟩, b, h1, h2⟩

theorem cell3 (w : World) (x y z : Value) (t : TypeId) : (w.alloc (.cells #[x, y, z] t)).cell? ⟨w.heap.size, 0, none⟩ = some x ∧ (w.alloc (.cells #[x, y, z] t)).cell? ⟨w.heap.size, 1, none⟩ = some y ∧ (w.alloc (.cells #[x, y, z] t)).cell? ⟨w.heap.size, 2, none⟩ = some z :=
  ⟨by rw [cell_of_row _ _ _ _ _ _ (heap_alloc_new w _)]; rfl, by rw [cell_of_row _ _ _ _ _ _ (heap_alloc_new w _)]; rfl, by rw [cell_of_row _ _ _ _ _ _ (heap_alloc_new w _)]; rfl⟩
theorem isI_of {x : Int} (h : B64 x) : isI x := h

/-- While what was dropped is added once more: q runs of what was. -/
def Back (was : List Rn) (k : Int) (l1 : List Rn) (q : Nat) (l : List Rn) : Prop :=
  (∀ n, Has l n ↔ (Has was n ∧ k ≤ n) ∨ ∃ r ∈ was.take q, (r.1 ≤ n ∧ n < r.1 + r.2) ∧ n < k) ∧ 0 ≤ many l - many l1 ∧ many l - many l1 ≤ 4294967297
theorem Back.step {was l1 l l' : List Rn} {k : Int} {q : Nat} (h : Back was k l1 q l) (hq : q < was.length) (ht : Tid 0 was) (hlt : (was.getD q (0, 0)).1 < k) (h1 : 0 ≤ many l1)
    (ha : AddR l (inR (was.getD q (0, 0)).1 (min (was.getD q (0, 0)).2 (k - (was.getD q (0, 0)).1))) l') (hm : 0 ≤ many l' - many l) : Back was k l1 (q + 1) l' := by
  have hr := tid_ge ht _ (getD_mem hq)
  have hT := take_mem_succ (l := was) hq
  generalize was.getD q (0, 0) = r at *
  have hR : inR r.1 (min r.2 (k - r.1)) = (r.1, min r.2 (k - r.1)) := by
    unfold inR
    rw [if_neg (by omega)]
    congr 1
    omega
  rw [hR] at ha
  refine ⟨fun n => ?_, by have := h.2.1; omega, by have := (tid_many ha.tid).2; omega⟩
  rw [ha.has, h.1, hT (fun r => (r.1 ≤ n ∧ n < r.1 + r.2) ∧ n < k), or_assoc]
  dsimp only
  refine or_congr_right (or_congr_right ?_)
  omega
theorem Back.skip {was l1 l : List Rn} {k : Int} {q : Nat} (h : Back was k l1 q l) (hq : q < was.length) (hge : ¬ (was.getD q (0, 0)).1 < k) : Back was k l1 (q + 1) l := by
  have hT := take_mem_succ (l := was) hq
  refine ⟨fun n => ?_, h.2⟩
  rw [h.1, hT (fun r => (r.1 ≤ n ∧ n < r.1 + r.2) ∧ n < k)]
  generalize was.getD q (0, 0) = r at *
  refine or_congr_right ⟨.inl, fun h => h.elim id fun h => ?_⟩
  omega
theorem Back.start {was l1 : List Rn} {k : Int} (h : DropR was k l1) : Back was k l1 0 l1 :=
  ⟨fun n => by
    rw [h.has]
    exact ⟨.inl, fun h => h.elim id fun ⟨r, hr, _⟩ => by simp at hr⟩, by omega, by omega⟩
theorem Back.done {was l1 l : List Rn} {k : Int} (h : Back was k l1 was.length l) (ht : Tid 0 was) (hl : Tid 0 l) : l = was :=
  tid_ext hl ht fun n => by
    rw [h.1, List.take_length]
    constructor
    · rintro (h | ⟨r, hr, h1, _⟩)
      · exact h.1
      · exact ⟨r, hr, h1⟩
    · rintro ⟨r, hr, h1⟩
      by_cases hk : k ≤ n
      · exact .inl ⟨⟨r, hr, h1⟩, hk⟩
      · exact .inr ⟨r, hr, h1, by omega⟩

set_option maxRecDepth 8000 in
set_option maxHeartbeats 8000000 in
theorem Drops_any (A : Option Addr) (na ca : Nat) (ac : List (Int × Int × Int)) (k : Nat) (W : World) (hA : Tri W A na ca ac) (hk : k < 256) :
    Calls Try.prog 7 #[.slice A na ca, .int .u8 (k : Int)] W (Held W) := by
  have HW := Lib.hid (wakes_any W)
  have HA := Lib.hid hA
  have hcap := hA.cap
  have hmax := hA.max
  clear hA
  go_enter Try.func7, Try.ntmps7
  go_wp2_with fail
  refine (HW.out).mono ?_
  rintro e w1 ⟨rfl, b1⟩
  have B1 := Lib.hid b1
  clear b1 HW
  by_cases hn : 60 < na
  · have hn1 : (60 : Int) < (na : Int) := by omega
    go_wp2_with fail
    go_ret
    exact ⟨rfl, B1.out⟩
  have hn1 : ¬ (60 : Int) < (na : Int) := by omega
  have HN := Lib.hid (newS W w1 B1.out)
  go_wp2_with fail
  refine (HN.out).mono ?_
  rintro e w2 ⟨sb, v2, rfl, S2, _, _, _⟩
  have HS2 := Lib.hid S2
  clear S2 HN
  unfold ptr
  go_wp2_with fail
  go_loopw [23] (fun ix wr => ∃ (q : Nat) (vs : Value) (ls : List Rn), q ≤ na ∧ ix = .int .i64 (q : Int) ∧ Sg W wr sb vs ls) (fun ix _ => na - (intOf ix).toNat)
  case atStart => exact ⟨0, _, _, Nat.zero_le _, rfl, HS2.out⟩
  case round =>
    obtain ⟨q, vs, ls, hq, rfl, S⟩ := hrel
    have HS := Lib.hid S
    by_cases hqn : q < na
    · obtain ⟨g, o, rfl, hce⟩ := (HA.out.below S.bel).mem (by omega)
      obtain ⟨x0, x1, x2⟩ := hce q hqn
      have hok := HA.out.ok (ac.getD q z3) (by
        have hl : q < ac.length := by rw [HA.out.len]; exact hqn
        rw [List.getD_eq_getElem?_getD, List.getElem?_eq_getElem hl]
        exact List.getElem_mem _)
      generalize ac.getD q z3 = r at *
      obtain ⟨kd, f, gg⟩ := r
      dsimp only at *
      have HT := Lib.hid (S.below (below_a wr (.cells #[.int .i64 kd, .int .i64 f, .int .i64 gg] 29)))
      have HADD := Lib.hid (HT.out.add (isI_of hok.2.1) (isI_of hok.2.2))
      obtain ⟨e0, e1, e2⟩ := cell3 wr (.int .i64 kd) (.int .i64 f) (.int .i64 gg) 29
      unfold ptr at HADD
      clear S hce hok
      go_wp2_with fail
      refine (HADD.out).mono ?_
      rintro e w5 ⟨v5, l5, rfl, s5, a5, _, c5, o5⟩
      have HS5 := Lib.hid (HT.out.step s5 c5 o5)
      clear s5 a5 c5 o5 HADD e0 e1 e2 x0 x1 x2
      go_wp2_with fail
      go_roundw
      case rel => exact ⟨q + 1, _, _, by omega, by go_num, HS5.out⟩
      case measure => simp [intOf]; omega
    · obtain rfl : q = na := by omega
      have HR := Lib.hid (Runs_any S.st)
      unfold ptr at HR
      clear S
      go_wp2_with fail
      refine (HR.out).mono ?_
      rintro e w3 ⟨u, rfl, r3, o3, b3⟩
      have HS3 := Lib.hid (HS.out.below b3)
      have HA3 : Hid (As w3 sb vs u ls) := Lib.hid ⟨r3, fun k hk => ⟨fun e => by have := o3 k hk; have := HS.out.st.lt; omega, fun e => by have := o3 k hk; have := HS.out.st.row.lt e; omega⟩⟩
      obtain ⟨A8, c8, rfl, hc1, hc2⟩ := r3.slice
      have hki : isI (k : Int) := by unfold isI; omega
      have HD := Lib.hid (Drop_any HS3.out.st hki)
      unfold ptr at HD
      have htid := HS.out.st.tid
      have HTID := Lib.hid htid
      clear r3 o3 b3 HR
      have hwk : IntKind.i64.wrap (k : Int) = (k : Int) := by rw [IntKind.wrap_i64]; omega
      go_wp2_with fail
      refine (HD.out).mono ?_
      rintro e w4 ⟨v4, l1, rfl, s4, d4, hge4, c4, o4⟩
      have HS4 := Lib.hid (HS3.out.step s4 c4 o4)
      have HA4 := Lib.hid (HA3.out.step c4 o4)
      have HD4 := Lib.hid d4
      have hm1 := tid_many s4.tid
      have hm0 := tid_many htid
      have HM1 := Lib.hid (And.intro hm1 (And.intro hm0 hge4))
      clear s4 d4 c4 o4 HD htid hge4
      generalize hln : ls.length = n8 at *
      have HL := Lib.hid hln
      clear hln
      go_wp2_with fail
      go_loopw [10, 42] (fun s10 ix wr => ∃ (q : Nat) (vq : Value) (lq : List Rn), q ≤ n8 ∧ ix = .int .i64 (q : Int) ∧ s10 = .int .i64 (many lq - many l1) ∧ Sg W wr sb vq lq ∧ As wr sb vq (.slice A8 n8 c8) ls ∧ Back ls k l1 q lq) (fun _ ix _ => n8 - (intOf ix).toNat)
      case atStart => exact ⟨0, _, _, Nat.zero_le _, rfl, by simp, HS4.out, HA4.out, Back.start HD4.out⟩
      case round =>
        obtain ⟨p, vq, lq, hp, rfl, rfl, S6, A6, K6⟩ := hrel
        have HS6 := Lib.hid S6
        have HA6 := Lib.hid A6
        have HK6 := Lib.hid K6
        by_cases hpn : p < n8
        · obtain ⟨g, o, rfl, x0, x1, _⟩ := A6.row.cells (j := p) (by rw [HL.out]; exact hpn)
          have hrr := tid_ge HTID.out _ (getD_mem (show p < ls.length by rw [HL.out]; exact hpn))
          have HST := Lib.hid (fun l' => K6.step (l' := l') (by rw [HL.out]; exact hpn) HTID.out)
          have HSK := Lib.hid (K6.skip (by rw [HL.out]; exact hpn))
          have hk1 := K6.2
          have hmq := tid_many S6.st.tid
          generalize ls.getD p (0, 0) = r at *
          obtain ⟨ra, rb⟩ := r
          dsimp only at *
          have HT := Lib.hid (S6.below (below_a wr (.cells #[.int .i64 ra, .int .i64 rb] 43)))
          have HTA := Lib.hid (A6.below (below_a wr (.cells #[.int .i64 ra, .int .i64 rb] 43)))
          obtain ⟨e0, e1⟩ := cell2 wr (.int .i64 ra) (.int .i64 rb) 43
          clear S6 A6 K6
          by_cases hlt : ra < (k : Int)
          · have hw1 : IntKind.i64.wrap ((k : Int) - ra) = (k : Int) - ra := by rw [IntKind.wrap_i64]; omega
            have HADD := Lib.hid (HT.out.add (f := ra) (g := min rb ((k : Int) - ra)) ⟨by omega, by omega⟩ ⟨by omega, by omega⟩)
            unfold ptr at HADD
            clear hmq
            go_wp2_with fail
            refine (HADD.out).mono ?_
            rintro e w7 ⟨v7, l7, rfl, s7, a7, hg7, c7, o7⟩
            have HS7 := Lib.hid (HT.out.step s7 c7 o7)
            have HA7 := Lib.hid (HTA.out.step c7 o7)
            have hk7 := HST.out l7 hlt HM1.out.1.1 a7 hg7
            have HK7 := Lib.hid hk7
            have hw2 : IntKind.i64.wrap (many lq - many l1 + (many l7 - many lq)) = many l7 - many l1 := by
              have := hk7.2
              have e : many lq - many l1 + (many l7 - many lq) = many l7 - many l1 := by omega
              rw [e, IntKind.wrap_i64]
              omega
            clear s7 a7 c7 o7 HADD hk7 hg7 e0 e1
            go_wp2_with fail
            go_roundw
            case rel => exact ⟨p + 1, _, _, by omega, by go_num, rfl, HS7.out, HA7.out, HK7.out⟩
            case measure => simp [intOf]; omega
          · have HK7 := Lib.hid (HSK.out hlt)
            go_wp2_with fail
            go_roundw
            case rel => exact ⟨p + 1, _, _, by omega, by go_num, rfl, HT.out, HTA.out, HK7.out⟩
            case measure => simp [intOf]; omega
        · obtain rfl : p = n8 := by omega
          have hdone : lq = ls := Back.done (by rw [HL.out]; exact K6) HTID.out S6.st.tid
          subst hdone
          have HR := Lib.hid (Runs_any S6.st)
          unfold ptr at HR
          clear S6 A6 K6
          go_wp2_with fail
          refine (HR.out).mono ?_
          rintro e w9 ⟨u9, rfl, r9, _, b9⟩
          have HS9 := Lib.hid (HS6.out.below b9)
          have HA9 := Lib.hid (HA6.out.below b9)
          have HR9 := Lib.hid r9
          obtain ⟨A9, c9, rfl, hc3, hc4⟩ := r9.slice
          rw [HL.out] at HR9 hc3 ⊢
          clear r9 b9 HR
          go_wp2_with fail
          go_loopw [80] (fun ix wr => ∃ q : Nat, q ≤ p ∧ ix = .int .i64 (q : Int) ∧ Below w9.heap.size w9 wr) (fun ix _ => p - (intOf ix).toNat)
          case atStart => exact ⟨0, Nat.zero_le _, rfl, Below.refl _ _⟩
          case round =>
            obtain ⟨z, hz, rfl, bz⟩ := hrel
            have HBZ := Lib.hid bz
            by_cases hzn : z < p
            · obtain ⟨g, o, rfl, y0, y1, _⟩ := (HA9.out.row.below bz).cells (j := z) (by rw [HL.out]; exact hzn)
              obtain ⟨g2, o2, rfl, y2, y3, _⟩ := (HR9.out.below bz).cells (j := z) (by rw [HL.out]; exact hzn)
              generalize lq.getD z (0, 0) = r at *
              obtain ⟨ra, rb⟩ := r
              dsimp only at *
              clear bz
              go_upto_region 26 with (fail)
              go_quiet (fail)
              go_wp2_with fail
              go_roundw
              case rel => exact ⟨z + 1, by omega, by go_num, below_dn HBZ.out _⟩
              case measure => simp [intOf]; omega
            · obtain rfl : z = p := by omega
              go_wp2_with fail
              go_ret
              exact ⟨rfl, (HS9.out.below HBZ.out).bel⟩
end Go.Proofs.Yteiojdmnfjcagaa

/- Runs put in order; a set's New. Conditions: the slice holds runs of whole numbers of 64 bits, at most 2^40. -/
import Derived.Test.YtancbdnpmabpfaaSpH
namespace Go.Proofs.Ytancbdnpmabpfaa
set_option linter.unusedVariables false
set_option linter.unusedSimpArgs false
open Go.RowKit Go.Shelf Go.Lib Go.Sort

/-- Runs lie where a slice says. -/
def Rd (w : World) (v : Value) (l : List Rn) : Prop :=
  ∃ A c, v = .slice A l.length c ∧ l.length ≤ c ∧ c ≤ 9223372036854775807 ∧ (0 < l.length → ∃ g o, A = some ⟨g, o, none⟩ ∧ w.rangeAt g o (rv l))
theorem Rd.ch {w w' : World} {v : Value} {l : List Rn} (h : Rd w v l) {m : Nat → Prop} (c : Ch w w' m) (hm : ∀ g, v.ownBlock = some g → ¬ m g) : Rd w' v l := by
  obtain ⟨A, n, rfl, h1, h2, h3⟩ := h
  refine ⟨A, n, rfl, h1, h2, fun hl => ?_⟩
  obtain ⟨g, o, rfl, hr⟩ := h3 hl
  exact ⟨g, o, rfl, rangeAt_ch c hr (hm g rfl)⟩
theorem Rd.cells {w : World} {A : Option Addr} {n c : Nat} {l : List Rn} (h : Rd w (.slice A n c) l) {j : Nat} (hj : j < l.length) : ∃ g o, A = some ⟨g, o, none⟩ ∧ w.cell? ⟨g, o + j * 2, none⟩ = some (.int .i64 (l.getD j (0, 0)).1) ∧ w.cell? ⟨g, o + j * 2 + 1, none⟩ = some (.int .i64 (l.getD j (0, 0)).2) := by
  obtain ⟨A2, c2, hv, _, _, h3⟩ := h
  injection hv with e1 e2 e3
  subst e1
  obtain ⟨g, o, rfl, hr⟩ := h3 (by omega)
  obtain ⟨a1, a2⟩ := rv_at l j hj
  exact ⟨g, o, rfl, hr _ _ a1, by rw [Nat.add_assoc]; exact hr _ _ a2⟩

/-- The sort's world: nothing has turned but the row. -/
theorem swK_ch {w w' : World} {g o q : Nat} {d : Array Rn} {os : Array Obj} (h : w' = sortWorldK rc 2 w g o q d os) : Ch w w' (fun k => k = g) := by
  subst h
  unfold sortWorldK putRowK
  refine ⟨rfl, rfl, rfl, by simp [putRow, mapBlock, Sort.ahead], fun k hk hne => ?_⟩
  rw [heap_grow_old _ _ (by simpa [putRow, mapBlock, Sort.ahead] using hk)]
  have : g ≠ k := fun e => hne e.symm
  simp [putRow, mapBlock, Sort.ahead, Array.getElem?_modify, this]

set_option maxHeartbeats 1600000 in
theorem sort_any {w : World} {v : Value} {l : List Rn} (h : Row w v l) (hn : l.length < 4611686018427387904) :
    Calls Try.prog 37 #[v, .func (.func 38) #[] #[]] w fun e w' => e = .returned (.tuple #[]) ∧ ∃ l' : List Rn, l'.Perm l ∧ Rd w' v l' ∧ Ch w w' (fun k => v.ownBlock = some k) := by
  rcases h with ⟨rfl, rfl⟩ | ⟨g, o, c, cs, rfl, hb, hc1, hc2, h3, h4⟩
  · have hs := AnyF.slices_SortFunc_none (P := Try.prog) (ρ := Try.sortL_ren) Try.sortL Option.none 0 (.func (.func 38) #[] #[]) w
    change Calls Try.prog 37 _ _ _ at hs
    refine hs.mono fun e w' ⟨he, hw⟩ => ⟨he, [], .refl _, ⟨Option.none, 0, rfl, Nat.le_refl _, Nat.zero_le _, fun h => absurd h (by simp)⟩, by rw [hw]; exact Ch.refl _ _⟩
  · have hgl := (Array.getElem?_eq_some_iff.1 hb).1
    have hH : HoldsK rc 2 w g o l.toArray := fun t ht => by
      have ht' : t < l.length * 2 := by simpa using ht
      refine ⟨?_, frozen_of hb _⟩
      have hlt : t < (rv l).length := by rw [rv_length]; exact ht'
      rw [h4 t _ (List.getElem?_eq_getElem hlt), flat_rv l t ht', List.getElem?_eq_getElem hlt]
      rfl
    have eg : ∀ args w, (callFunc 38 args).run Try.prog w = .ok (.enter 38 args) w := enters_of Try.func38 (by kernel_rfl) rfl
    have hs := AnyQ.slices_SortFunc (P := Try.prog) (ρ := Try.sortL_ren) Try.sortL 2 Try.isAgg61 Try.sizeOf61 rc (fun _ => rfl) (fun x v hv => by simp [rc] at hv; rcases hv with rfl | rfl <;> rfl) (fun x y => Lib.compareInt x.1 y.1) swo_rn 38 #[] g o c l.toArray w eg
      (fun _ _ _ _ x y => clos_any x y _) hH hgl (by simpa using hn)
    change Calls Try.prog 37 _ _ _ at hs
    rw [show l.toArray.size = l.length from by simp] at hs
    refine hs.mono fun e w' ⟨he, d', q, os, ⟨p1, _, p3⟩, s1, hw⟩ => ⟨he, d'.toList, ?_, ?_, (swK_ch hw).mono fun k _ e => by rw [e]; rfl⟩
    · have e1 : d'.extract 0 l.length = d' := by rw [show l.length = d'.size from by rw [p1]; simp]; simp
      have e2 : l.toArray.extract 0 l.length = l.toArray := by simp
      rw [e1, e2] at p3
      simpa using p3
    · have hd : d'.size = l.length := by rw [p1]; simp
      have hK := holdsK_sortWorldK_c rc 2 w g o l.toArray d' q os hH hgl (by rw [hd]; simp)
      rw [← hw] at hK
      have hdl : d'.toList.length = l.length := by simpa using hd
      refine ⟨_, c, by rw [hdl], by rw [hdl]; exact hc1, hc2, fun _ => ⟨g, o, rfl, fun t v hv => ?_⟩⟩
      have ht : t < d'.toList.length * 2 := by have := (List.getElem?_eq_some_iff.1 hv).1; rwa [rv_length] at this
      have h1 := (hK t (by rw [hdl] at ht; simpa [hd] using ht)).1
      rw [h1]
      have e0 : d' = d'.toList.toArray := by simp
      rw [e0, flat_rv d'.toList t ht, hv]
      rfl

/-- What numbers a run puts into a set. -/
def Cov (r : Rn) (n : Int) : Prop := (inR r.1 r.2).1 ≤ n ∧ n < (inR r.1 r.2).1 + (inR r.1 r.2).2
/-- What New leaves. -/
def NewP (w : World) (l : List Rn) (e : Ending) (w' : World) : Prop :=
  ∃ (sb : Nat) (v' : Value) (l' : List Rn), e = .returned (ptr sb) ∧ St w' sb v' l' ∧ (∀ n, Has l' n ↔ ∃ r ∈ l, Cov r n) ∧ Below w.heap.size w w' ∧ w.heap.size ≤ sb ∧ ∀ k, v'.ownBlock = some k → w.heap.size ≤ k

theorem take_mem_succ {l : List Rn} {q : Nat} (hq : q < l.length) (P : Rn → Prop) : (∃ r ∈ l.take (q + 1), P r) ↔ (∃ r ∈ l.take q, P r) ∨ P (l.getD q (0, 0)) := by
  rw [List.take_add_one, List.getD_eq_getElem?_getD, List.getElem?_eq_getElem hq]
  simp only [List.mem_append, Option.toList, List.mem_singleton, Option.getD]
  constructor
  · rintro ⟨r, h | rfl, hp⟩
    · exact .inl ⟨r, h, hp⟩
    · exact .inr hp
  · rintro (⟨r, h, hp⟩ | hp)
    · exact ⟨r, .inl h, hp⟩
    · exact ⟨_, .inr rfl, hp⟩

set_option maxRecDepth 8000 in
set_option maxHeartbeats 4000000 in
theorem New_any {w : World} {v : Value} {l : List Rn} (h : Row w v l) (hU : l.length ≤ 1099511627776) (hI : ∀ r ∈ l, isI r.1 ∧ isI r.2) :
    Calls Try.prog 26 #[v] w (NewP w l) := by
  have H1 : Row (w.alloc (.cells #[.slice none 0 0] 58)) v l := h.below (below_a w _)
  have HC := Lib.hid (clone_any H1 hU)
  have HS0 := Lib.hid (St.new w)
  have HB0 := Lib.hid (below_a w (.cells #[.slice none 0 0] 58))
  have hsz : (w.alloc (.cells #[.slice none 0 0] 58)).heap.size = w.heap.size + 1 := by simp
  have HSZ := Lib.hid hsz
  obtain ⟨sb, hsb⟩ : ∃ sb, sb = w.heap.size := ⟨_, rfl⟩
  have HSB := Lib.hid hsb
  obtain ⟨A0, c0, rfl, _, _⟩ := h.slice
  clear h H1 hsz hsb
  go_enter Try.func26, Try.ntmps26
  go_upto_region 2 with (fail)
  generalize w.alloc (.cells #[.slice none 0 0] 58) = w1 at *
  rw [← HSB.out] at HS0 HSZ ⊢
  go_wp2_with fail
  refine (HC.out).mono ?_
  rintro e w2 ⟨v2, rfl, r2, o2, b2⟩
  have HS2 := Lib.hid (HS0.out.below b2)
  have HB2 := Lib.hid (HB0.out.trans (b2.mono HB0.out.size))
  have HSO := Lib.hid (sort_any r2 (by omega))
  have HO2 : Hid (∀ k, v2.ownBlock = some k → sb < k ∧ k < w2.heap.size) := Lib.hid (fun k hk => ⟨by have := o2 k hk; have := HSZ.out; omega, r2.lt hk⟩)
  clear r2 o2 b2 HC
  go_wp2_with fail
  refine (HSO.out).mono ?_
  rintro e w3 ⟨rfl, l', hperm, hrd, c3⟩
  have HS3 := Lib.hid (HS2.out.ch c3 (fun e => by have := (HO2.out sb e).1; omega) (fun g hg e => by cases hg))
  have HB3 := Lib.hid (((Ch.of_below (fun k => v2.ownBlock = some k) HB2.out).then_ c3).below (fun x hx e => by have := (HO2.out x e).1; have := HSB.out; omega))
  have HO3 : Hid (∀ k, v2.ownBlock = some k → sb < k ∧ k < w3.heap.size) := Lib.hid (fun k hk => ⟨(HO2.out k hk).1, Nat.lt_of_lt_of_le (HO2.out k hk).2 c3.size⟩)
  have hlen : l'.length = l.length := hperm.length_eq
  obtain ⟨A, c, rfl, hc1, hc2, _⟩ := id hrd
  have HRD := Lib.hid hrd
  have HP := Lib.hid hperm
  have hI' : ∀ q, q < l'.length → isI (l'.getD q (0, 0)).1 ∧ isI (l'.getD q (0, 0)).2 := fun q hq => hI _ (hperm.mem_iff.1 (getD_mem hq))
  have HI := Lib.hid hI'
  have hU' : l'.length ≤ 1099511627776 := by omega
  clear hrd c3 hperm hI hI' HSO HO2 HS2 HB2 hlen hU
  generalize hln : l'.length = n at *
  have HL := Lib.hid hln
  clear hln
  go_wp2_with fail
  go_loopw [15] (fun ix wr => ∃ (q : Nat) (vs : Value) (ls : List Rn), q ≤ n ∧ ix = .int .i64 (q : Int) ∧ St wr sb vs ls ∧ (∀ m, Has ls m ↔ ∃ r ∈ l'.take q, Cov r m) ∧ Ch w3 wr (fun k => k = sb) ∧ ∀ k, vs.ownBlock = some k → w3.heap.size ≤ k) (fun ix _ => n - (intOf ix).toNat)
  case atStart => exact ⟨0, _, _, Nat.zero_le _, rfl, HS3.out, fun m => ⟨fun hm => absurd hm (has_nil m), fun ⟨r, hr, _⟩ => by simp at hr⟩, Ch.refl _ _, fun k hk => by cases hk⟩
  case round =>
    obtain ⟨q, vs, ls, hq, rfl, S, hh, C, ho⟩ := hrel
    have HSr := Lib.hid S
    have HHr := Lib.hid hh
    have HCr := Lib.hid C
    have HOr := Lib.hid ho
    by_cases hqn : q < n
    · obtain ⟨g, o, rfl, x0, x1⟩ := (HRD.out.ch C (fun g hg e => by have := (HO3.out g hg).1; omega)).cells (j := q) (by rw [HL.out]; exact hqn)
      obtain ⟨i1, i2⟩ := HI.out q hqn
      have HT := Lib.hid (take_mem_succ (l := l') (q := q) (by rw [HL.out]; exact hqn))
      generalize l'.getD q (0, 0) = r at *
      obtain ⟨ra, rb⟩ := r
      dsimp only at *
      have HA := Lib.hid (Add_any (S.below (below_a wr (.cells #[.int .i64 ra, .int .i64 rb] 61))) i1 i2)
      have hb := below_a wr (.cells #[.int .i64 ra, .int .i64 rb] 61)
      have HBr := Lib.hid hb
      obtain ⟨e0, e1⟩ := cell2 wr (.int .i64 ra) (.int .i64 rb) 61
      clear S hh C ho hb i1 i2
      unfold ptr at HA
      go_wp2_with fail
      refine (HA.out).mono ?_
      rintro e w5 ⟨v5, l5, rfl, s5, a5, _, c5, o5⟩
      have HS5 := Lib.hid s5
      have HA5 := Lib.hid a5
      have HC5 := Lib.hid c5
      have HO5 := Lib.hid o5
      clear s5 a5 c5 o5 HA
      go_wp2_with fail
      go_roundw
      case rel =>
        refine ⟨q + 1, _, _, by omega, by go_num, HS5.out, fun m => ?_, ?_, fun k hk => ?_⟩
        · rw [HA5.out.has, HHr.out, HT.out (fun r => Cov r m)]
          exact Iff.rfl
        · exact (HCr.out.then_ (Ch.of_below _ HBr.out)).trans HC5.out (fun _ _ h => h) (fun x hx h => h.elim id fun h => absurd (HOr.out x h) (by omega))
        · rcases HO5.out k hk with h | h
          · exact HOr.out k h
          · have := HBr.out.size
            have := HCr.out.size
            omega
      case measure => simp [intOf]; omega
    · obtain rfl : q = n := by omega
      go_wp2_with fail
      go_ret
      refine ⟨sb, vs, ls, rfl, HSr.out, fun m => ?_, ((Ch.of_below (fun k => k = sb) HB3.out).then_ HCr.out).below (fun x hx e => by have := HSB.out; omega), Nat.le_of_eq HSB.out.symm, fun k hk => Nat.le_trans HB3.out.size (HOr.out k hk)⟩
      rw [HHr.out, ← HL.out, List.take_length]
      exact ⟨fun ⟨r, hr, hc⟩ => ⟨r, HP.out.mem_iff.1 hr, hc⟩, fun ⟨r, hr, hc⟩ => ⟨r, HP.out.mem_iff.2 hr, hc⟩⟩
end Go.Proofs.Ytancbdnpmabpfaa

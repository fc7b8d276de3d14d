/- The example. No condition. -/
import Derived.Test.YtnpkmkjenlhkiaaFlP
namespace Go.Proofs.Ytnpkmkjenlhkiaa
set_option linter.unusedVariables false
set_option linter.unusedSimpArgs false
set_option maxRecDepth 20000
open Go.RowKit Go.Lib

/-- A row of one: where it lies, what it says. -/
theorem row_one {base : Nat} {w : World} {s : Sh} {x : F} (h : Fl base w s x) {k : Ou} (hk : x.os = [k]) : ∃ (g c : Nat) (o : Oc), s.ov = .slice (some ⟨g, 0, none⟩) 1 c ∧ 1 ≤ c ∧ c ≤ 9223372036854775807 ∧ o.key = k ∧ w.rangeAt g 0 o.vals ∧ base ≤ g ∧ g < w.heap.size ∧ s.ov.ownBlock = some g := by
  have h1 : s.ol.map Oc.key = [k] := h.os.trans hk
  obtain ⟨o, ho⟩ : ∃ o, s.ol = [o] := by
    cases hl : s.ol with
    | nil => rw [hl] at h1; cases h1
    | cons o r =>
      rw [hl] at h1
      have h2 : r.map Oc.key = [] := by
        rw [List.map_cons] at h1
        injection h1
      have h3 : r = [] := List.map_eq_nil_iff.1 h2
      exact ⟨o, by rw [h3]⟩
  have hr := h.row
  rw [ho] at hr h1
  have hlen : [o].length = 1 := rfl
  rw [hlen] at hr
  obtain ⟨g, c, hv, hg, hlt⟩ := hr.form (by omega)
  obtain ⟨A, c2, hv2, hc1, hc2⟩ := own_slice hr
  rw [hv] at hv2
  injection hv2 with e1 e2 e3
  subst e1 e3
  rw [hv] at hr
  refine ⟨g, c, o, hv, hc1, hc2, by simpa using h1, ?_, hg, hlt, by rw [hv]; rfl⟩
  have := own_rangeO (j := 0) hr (by omega)
  simpa using this
set_option maxHeartbeats 3200000 in
theorem wakes_any (w : World) : Calls Try.prog 8 #[] w (Yes w) := by
  have HD := Lib.hid (Dial_any 5 0 w (by decide) (by unfold isInt; decide))
  rw [dial_eq] at HD
  go_enter Try.func8, Try.ntmps8
  go_wp2_with fail
  refine HD.out.mono ?_
  rintro e w1 ⟨s, rfl, f1, b1⟩
  obtain ⟨g, c, o, hv, hc1, hc2, hk, hr, hgb, hgl, hgo⟩ := row_one f1 rfl
  have hs : o.p.syn = true := congrArg (fun k => k.k.syn) hk
  have hq : o.p.seq = 5 := congrArg (fun k => k.k.seq) hk
  have ha : o.acks = false := congrArg (fun k => k.acks) hk
  have HO := Lib.hid (Out_any f1)
  have HNR := Lib.hid f1.ne_row
  rw [hv] at HO
  have HB1 := Lib.hid b1
  have HLo := Lib.hid f1.lo
  have r0 : w1.cell? ⟨g, 0, none⟩ = some (.int .u32 (o.p.seq : Int)) := hr 0 _ rfl
  have r1 : w1.cell? ⟨g, 1, none⟩ = some (.bool o.p.syn) := hr 1 _ rfl
  have r7 : w1.cell? ⟨g, 7, none⟩ = some (.bool o.acks) := hr 7 _ rfl
  rw [hs] at r1
  rw [hq] at r0
  rw [ha] at r7
  have hne : g ≠ s.fb := fun e => f1.ne_row (by rw [hgo, e])
  clear f1 b1 hr hk hs hq ha hv HD hgo
  unfold ptr at *
  go_wp2_with fail
  refine HO.out.mono ?_
  rintro e w2 ⟨rfl, f2, c2⟩
  have HA := Lib.hid (At_any f2.fa ⟨(by show (0 : Int) ≤ 0; decide), (by show (0 : Int) ≤ 1152921504606846976; decide)⟩ ⟨(by show (0 : Int) ≤ 4; decide), (by show (4 : Int) ≤ 16; decide)⟩)
  have q0 := c2.cell r0 hne
  have q1 := c2.cell r1 hne
  have q7 := c2.cell r7 hne
  have HC := Lib.hid c2
  clear f2 c2 r0 r1 r7 HO
  have hd : due ((F.quiet ⟨Es.zero, 1, 0, 0, 0, 4, 0, true, 5, [sK.at 5], on 5 1, [⟨sK.at 5, 0, false, false⟩]⟩).fc s.quiet.qb s.quiet.ov).df ((F.quiet ⟨Es.zero, 1, 0, 0, 0, 4, 0, true, 5, [sK.at 5], on 5 1, [⟨sK.at 5, 0, false, false⟩]⟩).fc s.quiet.qb s.quiet.ov).dw = .tuple #[.int .i64 4, .bool true] := rfl
  unfold ptr at HA
  rw [hd] at HA
  clear hd
  go_wp2_with fail
  refine HA.out.mono ?_
  rintro e w3 ⟨rfl, b3⟩
  have p0 := cellB b3 q0
  have p1 := cellB b3 q1
  have p7 := cellB b3 q7
  have HB3 : Hid (Below w.heap.size w w3) := Lib.hid ((((Ch.of_below (fun k => k = s.fb) HB1.out).then_ HC.out).below (fun k hk e => by have := HLo.out; omega)).trans (b3.mono (by have := HB1.out.size; have := HC.out.size; omega)))
  clear b3 q0 q1 q7 HA
  go_wp2_with fail
  go_ret
  exact ⟨rfl, HB3.out⟩
end Go.Proofs.Ytnpkmkjenlhkiaa

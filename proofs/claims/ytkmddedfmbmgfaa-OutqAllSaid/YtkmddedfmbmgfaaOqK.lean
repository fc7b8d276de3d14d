/- The contracts of the document's comparisons of pieces, where they say the same. Condition: the pieces stand. -/
import Derived.Test.YtkmddedfmbmgfaaOqG
import Derived.Test.YtkmddedfmbmgfaaSameR
import Derived.Test.YtkmddedfmbmgfaaHel
namespace Go.Proofs.Ytkmddedfmbmgfaa
set_option linter.unusedVariables false
set_option linter.unusedSimpArgs false
open Go.RowKit

set_option maxRecDepth 8000 in
set_option maxHeartbeats 1600000 in
theorem Same13_yes (p q : Pc) (w : World) (hp : PG w p) (hq : PG w q) (hk : p.key = q.key) :
    Calls Try.prog 11 #[.agg p.vals.toArray, .agg q.vals.toArray] w (Yes w) := by
  have r1 := hp.data
  have r2 := hq.data
  clear hp hq
  obtain ⟨sq, sy, fi, dA, dn, dc, dsn, la, ds⟩ := p
  obtain ⟨sq2, sy2, fi2, dA2, dn2, dc2, dsn2, la2, ds2⟩ := q
  dsimp only at *
  injection hk with e1 e2 e3 e4 e5 e6
  dsimp only at e1 e2 e3 e4 e5 e6
  subst e1 e2 e3 e4 e5 e6
  have HS := Lib.hid (fun W (b : Below w.heap.size w W) => Same_yes dA dA2 dn dc dn2 dc2 ds W (r1.below b) (r2.below b))
  clear r1 r2
  go_enter Try.func11, Try.ntmps11
  go_wp2_with (first
    | ((with_reducible refine wpList_here ?_); refine wpList_boxV (o := ⟨some 2, _, _, _, _, _⟩) rfl 33 (.tmp 0) rfl (⟨sq, sy, fi, dA, dn, dc, dsn, la, ds⟩ : Pc).vals rfl _ rfl ?_; intro w1 z1 b1 s1)
    | ((with_reducible refine wpList_here ?_); refine wpList_boxV (o := ⟨some 3, _, _, _, _, _⟩) rfl 33 (.tmp 1) rfl (⟨sq, sy, fi, dA2, dn2, dc2, dsn, la, ds⟩ : Pc).vals rfl _ s1 ?_; intro w2 z2 b2 s2
       have z3 := z1.below b2
       have b3 := below_trans b1 b2
       have k0 : w2.cell? ⟨w.heap.size, 0, none⟩ = some (.int .u32 (sq : Int)) := (z3 0 (by rw [Pc.vals_length]; omega)).1
       have k1 : w2.cell? ⟨w.heap.size, 1, none⟩ = some (.bool sy) := (z3 1 (by rw [Pc.vals_length]; omega)).1
       have k2 : w2.cell? ⟨w.heap.size, 2, none⟩ = some (.bool fi) := (z3 2 (by rw [Pc.vals_length]; omega)).1
       have k3 : w2.cell? ⟨w.heap.size, 3, none⟩ = some (.slice dA dn dc) := (z3 3 (by rw [Pc.vals_length]; omega)).1
       have k4 : w2.cell? ⟨w.heap.size, 4, none⟩ = some (.int .i64 dsn) := (z3 4 (by rw [Pc.vals_length]; omega)).1
       have k5 : w2.cell? ⟨w.heap.size, 5, none⟩ = some (.bool la) := (z3 5 (by rw [Pc.vals_length]; omega)).1
       have m0 : w2.cell? ⟨w.heap.size + 1, 0, none⟩ = some (.int .u32 (sq : Int)) := (z2 0 (by rw [Pc.vals_length]; omega)).1
       have m1 : w2.cell? ⟨w.heap.size + 1, 1, none⟩ = some (.bool sy) := (z2 1 (by rw [Pc.vals_length]; omega)).1
       have m2 : w2.cell? ⟨w.heap.size + 1, 2, none⟩ = some (.bool fi) := (z2 2 (by rw [Pc.vals_length]; omega)).1
       have m3 : w2.cell? ⟨w.heap.size + 1, 3, none⟩ = some (.slice dA2 dn2 dc2) := (z2 3 (by rw [Pc.vals_length]; omega)).1
       have m4 : w2.cell? ⟨w.heap.size + 1, 4, none⟩ = some (.int .i64 dsn) := (z2 4 (by rw [Pc.vals_length]; omega)).1
       have m5 : w2.cell? ⟨w.heap.size + 1, 5, none⟩ = some (.bool la) := (z2 5 (by rw [Pc.vals_length]; omega)).1
       clear z1 z2 z3 b1 b2)
    | (go_at_call 25; refine (HS.out _ b3).mono ?_; rintro e w4 ⟨rfl, b4⟩))
  go_ret
  exact ⟨rfl, b3.trans (b4.mono b3.size)⟩

set_option maxRecDepth 8000 in
set_option maxHeartbeats 3200000 in
theorem SameAll_yes (A B : Option Addr) (n m c d : Nat) (l r : List Pc) (w : World) (h : PS w A n c l) (h' : PS w B m d r) (hk : l.map Pc.key = r.map Pc.key) :
    Calls Try.prog 16 #[.slice A n c, .slice B m d] w (Yes w) := by
  have hnm : n = m := by
    have := congrArg List.length hk
    simpa [h.len, h'.len] using this
  subst hnm
  have hc := h.cap
  have hc' := h'.cap
  have hx := h.max
  have hx' := h'.max
  have HL := Lib.hid h.len
  have HL' := Lib.hid h'.len
  have HK := Lib.hid hk
  have H := Lib.hid h
  have H' := Lib.hid h'
  clear h h' hk
  go_enter Try.func16, Try.ntmps16
  go_wp2_with fail
  go_loopw [5] (fun i wr => ∃ j : Nat, j ≤ n ∧ i = .int .i64 j ∧ Below w.heap.size w wr) (fun i _ => n - (intOf i).toNat)
  case atStart => exact ⟨0, Nat.zero_le _, rfl, Below.refl _ _⟩
  case round =>
    obtain ⟨j, hj, rfl, hb⟩ := hrel
    by_cases hlt : j < n
    · have hkj : (l.getD j zP).key = (r.getD j zP).key := by
        have h1 : j < l.length := by rw [HL.out]; exact hlt
        have h2 : j < r.length := by rw [HL'.out]; exact hlt
        have e := congrArg (fun x : List Ky => x[j]?) HK.out
        simp [h1, h2] at e
        simp [List.getD_eq_getElem?_getD, h1, h2, e]
      have HKJ := Lib.hid hkj
      have hbd : Below w.heap.size w wr.drew := hb.drew
      obtain ⟨g, o, rfl, r1⟩ := (H.out.below hbd).at_ hlt
      obtain ⟨g', o', rfl, r2⟩ := (H'.out.below hbd).at_ hlt
      have HP := Lib.hid ((H.out.below hbd).ok hlt)
      have HP' := Lib.hid ((H'.out.below hbd).ok hlt)
      have HBD := Lib.hid hbd
      clear hkj hbd hb
      generalize l.getD j zP = p at *
      generalize r.getD j zP = q at *
      have HS := Lib.hid (Same13_yes p q wr.drew HP.out HP'.out HKJ.out)
      go_wp2_with fail
      generalize hwd : wr.drew = wd at *
      refine wp_region_noPanic ?_
      refine wp_region_held_drew (S := fun W => W.rangeAt g (o + j * 6) p.vals ∧ W.rangeAt g' (o' + j * 6) q.vals) (by kernel_rfl) (by rw [hwd]; exact ⟨r1, r2⟩) (fun _ => ?_)
      rw [hwd]
      clear hwd
      refine held_take (i := 0) (v := .slice (some ⟨g, o, none⟩) n c) (some 17) rfl rfl (by kernel_rfl) (by kernel_rfl) (by kernel_rfl) (fun _ _ _ h => h) (Or.inl ⟨by rfl, fun W hW => by go_simp⟩) ⟨r1, r2⟩ ?_
      simp only [Act.put, List.setIfInBounds_toArray, List.set_cons_zero, List.set_cons_succ]
      refine held_take (i := 1) (v := .int .i64 (j : Int)) (some 18) rfl rfl (by kernel_rfl) (by kernel_rfl) (by kernel_rfl) (fun _ _ _ h => h) (Or.inl ⟨by rfl, fun W hW => by go_simp⟩) ⟨r1, r2⟩ ?_
      simp only [Act.put, List.setIfInBounds_toArray, List.set_cons_zero, List.set_cons_succ]
      refine held_take (i := 4) (v := (.slice (some ⟨g', o', none⟩) n d)) (some 21) rfl rfl (by kernel_rfl) (by kernel_rfl) (by kernel_rfl) (fun _ _ _ h => h) (Or.inl ⟨by rfl, fun W hW => by go_simp⟩) ⟨r1, r2⟩ ?_
      simp only [Act.put, List.setIfInBounds_toArray, List.set_cons_zero, List.set_cons_succ]
      refine held_take (i := 5) (v := .int .i64 (j : Int)) (some 22) rfl rfl (by kernel_rfl) (by kernel_rfl) (by kernel_rfl) (fun _ _ _ h => h) (Or.inl ⟨by rfl, fun W hW => by go_simp⟩) ⟨r1, r2⟩ ?_
      simp only [Act.put, List.setIfInBounds_toArray, List.set_cons_zero, List.set_cons_succ]
      refine held_take (i := 2) (v := .pointer (some ⟨g, o + j * 6, none⟩)) (some 19) rfl rfl (by kernel_rfl) (by kernel_rfl) (by kernel_rfl) (fun _ _ _ h => h) (Or.inl ⟨by rfl, fun W hW => by go_simp⟩) ⟨r1, r2⟩ ?_
      simp only [Act.put, List.setIfInBounds_toArray, List.set_cons_zero, List.set_cons_succ]
      refine held_take (i := 6) (v := .pointer (some ⟨g', o' + j * 6, none⟩)) (some 23) rfl rfl (by kernel_rfl) (by kernel_rfl) (by kernel_rfl) (fun _ _ _ h => h) (Or.inl ⟨by rfl, fun W hW => by go_simp⟩) ⟨r1, r2⟩ ?_
      simp only [Act.put, List.setIfInBounds_toArray, List.set_cons_zero, List.set_cons_succ]
      refine held_take (i := 3) (v := .agg p.vals.toArray) (some 20) rfl rfl (by kernel_rfl) (by kernel_rfl) (by kernel_rfl) (fun _ _ _ h => h) (yieldsIf_load_mid (by rfl) 33 (.tmp 19) rfl g (o + j * 6) rfl _ _ (fun W hW => hW.1) Try.underlying33 rfl infoPc) ⟨r1, r2⟩ ?_
      simp only [Act.put, List.setIfInBounds_toArray, List.set_cons_zero, List.set_cons_succ]
      refine held_take (i := 7) (v := .agg q.vals.toArray) (some 24) rfl rfl (by kernel_rfl) (by kernel_rfl) (by kernel_rfl) (fun _ _ _ h => h) (yieldsIf_load_mid (by rfl) 33 (.tmp 23) rfl g' (o' + j * 6) rfl _ _ (fun W hW => hW.2) Try.underlying33 rfl infoPc) ⟨r1, r2⟩ ?_
      simp only [Act.put, List.setIfInBounds_toArray, List.set_cons_zero, List.set_cons_succ]
      refine wpAnyH_ready (rs := [8]) (by kernel_rfl) (by simp) ?_
      refine AllReadyH.cons rfl (fun K hK => ?_) AllReadyH.nil
      go_simp
      refine (HS.out).mono ?_
      rintro e w3 ⟨rfl, b3⟩
      have HB3 := Lib.hid (HBD.out.trans (b3.mono HBD.out.size))
      have e3 : w3.rangeAt g (o + j * 6) p.vals ∧ w3.rangeAt g' (o' + j * 6) q.vals := ⟨range_below r1 b3, range_below r2 b3⟩
      clear b3 HS
      dsimp only
      refine hK.out _ _ e3 (fun _ => ?_)
      clear hK
      try simp only [Act.put, List.setIfInBounds_toArray, List.set_cons_zero, List.set_cons_succ]
      refine held_take (i := 9) (v := .bool false) (some 26) rfl rfl (by kernel_rfl) (by kernel_rfl) (by kernel_rfl) (fun _ _ _ h => h) (Or.inl ⟨by rfl, fun W hW => by go_simp⟩) e3 ?_
      simp only [Act.put, List.setIfInBounds_toArray, List.set_cons_zero, List.set_cons_succ]
      refine wpAnyH_done (by kernel_rfl) ?_ _
      refine NoPanic.normal ?_
      go_wp2_with fail
      go_roundw
      case rel => exact ⟨j + 1, by omega, by go_num, HB3.out⟩
      case measure => simp [intOf]; omega
    · obtain rfl : j = n := by omega
      go_wp2_with fail
      go_ret
      exact ⟨rfl, hb⟩
end Go.Proofs.Ytkmddedfmbmgfaa

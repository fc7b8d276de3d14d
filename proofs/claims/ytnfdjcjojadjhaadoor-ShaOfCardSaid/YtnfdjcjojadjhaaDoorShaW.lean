/- The walks of the laws ShaJoins and ShaEmpty. Condition: the table holds FIPS 180-4's constants. -/
import Derived.Test.YtnfdjcjojadjhaaDoorSameR
import Derived.Test.YtnfdjcjojadjhaaDoorShaO
import Derived.Stop.BytesEq
import Derived.Lib.SlBytesConst
namespace Go.Proofs.YtnfdjcjojadjhaaDoor
set_option linter.unusedVariables false
open Go.RowKit

theorem sizeOfU8 (W : World) : (sizeOf 5).run Tryd.prog W = .ok 1 W := by kernel_rfl
/-- Two digests of the same bytes are the same. -/
theorem dig_same (W : World) (l : List UInt8) : (binOp .eql 24 (.agg (bv (dg l)).toArray) (.agg (bv (dg l)).toArray)).run Tryd.prog W = .ok (.bool true) W := by
  have h := run_eql_bytes (P := Tryd.prog) W 24 5 32 Tryd.underlying24 Tryd.underlying5 sizeOfU8 (dg l) (dg l) (dg_length l) (dg_length l)
  rw [show (dg l == dg l) = true from by simp] at h
  exact h
/-- The digest of one piece in a new list. -/
theorem sha_one {A : Option Addr} {n c : Nat} {l : List UInt8} {w : World} {t : TypeId} {g : Nat} (hg : g = w.heap.size) (h : RB w A n c l) (hn : n ≤ 274877906944) (hT : Tab w) :
    Calls Tryd.prog 7 #[.slice (some ⟨g, 0, none⟩) 1 1] (w.alloc (.cells #[.slice A n c] t)) (Dig l (w.alloc (.cells #[.slice A n c] t))) := by
  subst hg
  have e1 : fl [l] 1 = l := by simp [fl]
  have e2 : tl [l] 1 = n := by rw [tl, e1, h.len]
  have hp : Parts (w.alloc (.cells #[.slice A n c] t)) (some ⟨w.heap.size, 0, none⟩) 1 1 [l] := Parts.one (cell_new w _ t) (h.alloc _)
  have := sha_any (some ⟨w.heap.size, 0, none⟩) 1 1 [l] _ hp (by rw [e2]; exact hn) (hT.below (below_a w _))
  rw [e1] at this
  exact this

/-- A text's bytes, in their new block, which bears a mark. -/
theorem RB.litf (w : World) (l : List UInt8) (t : TypeId) (fr : Nat × Nat) (hl : l.length ≤ maxLen) : RB (w.alloc (.cells (bv l).toArray t fr)) (some ⟨w.heap.size, 0, none⟩) l.length l.length l := by
  refine ⟨rfl, Nat.le_refl _, hl, fun _ => ⟨_, 0, rfl, fun j hj => ?_⟩⟩
  rw [Nat.zero_add]
  have h := cell_of_row (w.alloc (.cells (bv l).toArray t fr)) w.heap.size j (bv l).toArray t fr (heap_alloc_new w _)
  rw [h]
  simpa using bv_at l j hj

set_option maxRecDepth 8000 in
set_option maxHeartbeats 800000 in
theorem wakes_any (w : World) (hT : Tab w) : Calls Tryd.prog 6 #[] w fun e w' => e = .returned (.bool true) ∧ Below w.heap.size w w' := by
  have hr := RB.litf w [97, 98, 99] 5 (3, 4) (by unfold maxLen; simp)
  have hT1 := hT.below (below_a w (.cells #[.int .u8 97, .int .u8 98, .int .u8 99] 5 (3, 4)))
  have hcv : (convert 22 22 (.slice (some ⟨w.heap.size, 0, none⟩) 3 3)).run Tryd.prog (w.alloc (.cells #[.int .u8 97, .int .u8 98, .int .u8 99] 5)) = .ok (.slice (some ⟨w.heap.size, 0, none⟩) 3 3) (w.alloc (.cells #[.int .u8 97, .int .u8 98, .int .u8 99] 5 (3, 4))) :=
    Lib.run_convert_bytes_const w 22 5 #[.int .u8 97, .int .u8 98, .int .u8 99] 3 3 Tryd.underlying22 Tryd.underlying5
  have HO : Hid (∀ t, Calls Tryd.prog 7 _ _ _) := fun t => sha_one (g := w.heap.size + 1) (t := t) (by simp) hr (by simp) hT1
  go_enter Tryd.func6, Tryd.ntmps6
  go_wp2_with fail
  refine (HO.out _).mono ?_
  rintro e w1 ⟨rfl, b1⟩
  have b2 := (below_a2 w (.cells #[.int .u8 97, .int .u8 98, .int .u8 99] 5 (3, 4)) (.cells #[.slice (some ⟨w.heap.size, 0, none⟩) 3 3] 22)).trans (b1.mono (by simp; omega))
  clear HO hr hT1 b1
  have hd := dg_abc
  have hl := dg_length [97, 98, 99]
  generalize dg [97, 98, 99] = d at *
  have z1 := Arb.zero w1 32 24
  have ht : (w1.alloc (.cells #[.int .u8 0, .int .u8 0, .int .u8 0, .int .u8 0, .int .u8 0, .int .u8 0, .int .u8 0, .int .u8 0, .int .u8 0, .int .u8 0, .int .u8 0, .int .u8 0, .int .u8 0, .int .u8 0, .int .u8 0, .int .u8 0, .int .u8 0, .int .u8 0, .int .u8 0, .int .u8 0, .int .u8 0, .int .u8 0, .int .u8 0, .int .u8 0, .int .u8 0, .int .u8 0, .int .u8 0, .int .u8 0, .int .u8 0, .int .u8 0, .int .u8 0, .int .u8 0] 24)).there w1.heap.size 0 (bv d).length := by
    rw [bv_length, hl]; exact z1.there
  have HI : Hid ((Tryd.prog.info? 24).map (·.size) = some (bv d).toArray.size) := Lib.hid (by
    show _ = some (bv d).length
    rw [bv_length, hl]; exact info32)
  have hR := World.rangeAt_setCells_same _ _ _ _ ht
  have hB := below_setCells w1.heap.size (Nat.le_refl _) (bv d) 0 _ (below_a w1 (.cells #[.int .u8 0, .int .u8 0, .int .u8 0, .int .u8 0, .int .u8 0, .int .u8 0, .int .u8 0, .int .u8 0, .int .u8 0, .int .u8 0, .int .u8 0, .int .u8 0, .int .u8 0, .int .u8 0, .int .u8 0, .int .u8 0, .int .u8 0, .int .u8 0, .int .u8 0, .int .u8 0, .int .u8 0, .int .u8 0, .int .u8 0, .int .u8 0, .int .u8 0, .int .u8 0, .int .u8 0, .int .u8 0, .int .u8 0, .int .u8 0, .int .u8 0, .int .u8 0] 24))
  have HT := Lib.hid ht
  clear ht z1
  go_wp2_with ((with_reducible refine wpList_here ?_); refine wpList_store_mid rfl 24 (.tmp 1) (.tmp 5) rfl w1.heap.size 0 (bv d).toArray rfl rfl HT.out HI.out (all_oneCell_toArray (bv_one _)) ?_; rw [List.toList_toArray]; clear HT; generalize World.setCells _ _ _ _ = w2 at *)
  have r1 := (RB.of_range (k := 4) (n := 32) hR (by omega) (by omega) (by unfold maxLen; omega)).alloc (.cells #[.int .u8 186, .int .u8 120, .int .u8 22, .int .u8 191] 5)
  rw [hd] at r1
  refine (Same_yes _ _ 4 32 4 4 _ _ r1 (RB.lit w2 [186, 120, 22, 191] 5 (by unfold maxLen; simp))).mono ?_
  rintro e w3 ⟨rfl, b3⟩
  have b4 := (below_trans b2 hB).trans (((below_a w2 (.cells #[.int .u8 186, .int .u8 120, .int .u8 22, .int .u8 191] 5)).trans (b3.mono (by simp))).mono (Nat.le_trans b2.size hB.size))
  clear b3 r1 hB hR b2
  go_wp2_with fail
  go_ret
  exact ⟨rfl, b4⟩

set_option maxRecDepth 8000 in
set_option maxHeartbeats 1600000 in
theorem JoinsLaw_any (A : Option Addr) (n c : Nat) (ps : List (List UInt8)) (w : World) (h : Parts w A n c ps) (hT : Tab w) :
    Calls Tryd.prog 4 #[.slice A n c] w (Held w) := by
  have hmx := h.max
  have hcp := h.cap
  have hpl := Lib.hid h.len
  by_cases hn : 30 < n
  · go_enter Tryd.func4, Tryd.ntmps4
    go_wp2_with (go_at_call 6; refine (wakes_any _ hT).mono ?_; rintro e w1 ⟨rfl, hb1⟩)
    go_ret
    exact ⟨rfl, hb1⟩
  · go_enter Tryd.func4, Tryd.ntmps4
    go_wp2_with fail
    refine (wakes_any _ hT).mono ?_
    rintro e w1 ⟨rfl, hb1⟩
    have h1 := h.below hb1
    have t1 := hT.below hb1
    clear h hT
    go_wp2_with fail
    go_loopw [3, 12] (fun v i wr => ∃ j : Nat, j ≤ n ∧ i = .int .i64 j ∧ tl ps j ≤ 100 * j ∧ wr.ownsRow w1.heap.size 5 1 v (tl ps j) (bv (fl ps j)) ∧ Below w1.heap.size w1 wr) (fun _ i _ => n - (intOf i).toNat)
    case atStart => exact ⟨0, Nat.zero_le _, rfl, Nat.le_refl _, World.ownsRow_nil _ _ _ _, Below.refl _ _⟩
    case round =>
      obtain ⟨j, hj, rfl, hTl, hown, hb⟩ := hrel
      by_cases hlt : j < n
      · have hS := tl_step ps j (by rw [hpl.out]; exact hlt)
        have hF := fl_step ps j (by rw [hpl.out]; exact hlt)
        obtain ⟨b, o, B, m, d, rfl, hc, hr⟩ := (h1.below hb).at_ hlt
        rw [hr.len] at hS
        have HS := Lib.hid hS
        have HF := Lib.hid hF
        clear hS hF h1
        by_cases hm : 100 < m
        · go_wp2_with fail
          go_ret
          exact ⟨rfl, below_trans hb1 hb⟩
        · generalize tl ps j = x at *
          go_wp2_with (at_builtin; refine wpList_app_more rfl (.tmp 21) (.tmp 25) 22 5 rfl Tryd.underlying22 infoByte _ x (fl ps j) rfl hown hb B m d (ps.getD j []) rfl hr (by omega) ?_; intro A' c' w2 _ hown' hs2)
          rw [← HF.out] at hown'
          clear hown hb hr
          go_wp2_with fail
          go_roundw
          case rel => exact ⟨j + 1, by omega, by go_num, by rw [HS.out]; omega, by rw [HS.out]; exact hown', hs2⟩
          case measure => simp [intOf]; omega
      · obtain rfl : j = n := by omega
        obtain ⟨A2, c2, rfl, r2, _⟩ := RB.of_own hown
        have hp := h1.below hb
        have t2 := t1.below hb
        have hl : tl ps j ≤ 3000 := by omega
        have hbb := below_trans hb1 hb
        have HD := Lib.hid fun W => dig_same W (fl ps j)
        clear hown h1 t1 hb hb1
        have HC1 := Lib.hid (sha_any A j c ps wr hp (by omega) t2)
        generalize fl ps j = x at *
        generalize tl ps j = m at *
        clear hp
        go_wp2_with fail
        refine HC1.out.mono ?_
        rintro e w3 ⟨rfl, b3⟩
        have HC2 : Hid (∀ t, Calls Tryd.prog 7 _ _ _) := fun t => sha_one (g := w3.heap.size) (t := t) rfl (r2.below b3) (by omega) (t2.below b3)
        clear HC1 r2 t2
        have heq := HD.out
        go_wp2_with fail
        refine (HC2.out _).mono ?_
        rintro e w4 ⟨rfl, b4⟩
        have b5 := (below_trans hbb b3).trans (((below_a w3 _).trans (b4.mono (by simp))).mono (Nat.le_trans hbb.size b3.size))
        clear b3 b4 hbb
        go_wp2_with fail
        go_ret
        exact ⟨rfl, b5⟩
end Go.Proofs.YtnfdjcjojadjhaaDoor

/- The contract of the document's own Right. Condition: each of an option's numbers is one of its kind. -/
import Derived.Test.YtcofkdcjcckdfaaOptMa
namespace Go.Proofs.Ytcofkdcjcckdfaa
set_option linter.unusedVariables false
set_option linter.unusedSimpArgs false
open Go.RowKit

theorem parse_any (k : Nat) (h1 : 1 ≤ k) (h2 : k ≤ 11) (A : Option Addr) (c : Nat) (bs : List UInt8) (w : World) (h : RB w A (sz k) c bs) (hk : (bs.getD 0 0).toNat = k) :
    Calls Try.prog 25 #[.slice A (sz k) c] w (ParseMade w (prs (zK k) (tab k) (bs.drop 1))) := by
  rcases (show k = 1 ∨ k = 2 ∨ k = 3 ∨ k = 4 ∨ k = 5 ∨ k = 6 ∨ k = 7 ∨ k = 8 ∨ k = 9 ∨ k = 10 ∨ k = 11 from by omega) with rfl | rfl | rfl | rfl | rfl | rfl | rfl | rfl | rfl | rfl | rfl
  · exact parse_1 A c bs w h hk
  · exact parse_2 A c bs w h hk
  · exact parse_3 A c bs w h hk
  · exact parse_4 A c bs w h hk
  · exact parse_5 A c bs w h hk
  · exact parse_6 A c bs w h hk
  · exact parse_7 A c bs w h hk
  · exact parse_8 A c bs w h hk
  · exact parse_9 A c bs w h hk
  · exact parse_10 A c bs w h hk
  · exact parse_11 A c bs w h hk
/-- A kind that there is. -/
theorem sz_range {k : Int} (h : sz k ≠ 0) : 1 ≤ k ∧ k ≤ 11 := by
  by_cases h1 : k < 1
  · exfalso
    rcases (show k < 0 ∨ k = 0 from by omega) with h2 | rfl
    · exact h (sz_zero (tab_neg h2))
    · exact h rfl
  · by_cases h2 : 12 ≤ k
    · exact absurd (sz_zero (tab_far h2)) h
    · omega
theorem sz_pos {k : Int} (h : sz k ≠ 0) : sz k = 1 + long (tab k) := by
  unfold sz at h ⊢
  split
  · rename_i h1; rw [if_pos h1] at h; exact absurd rfl h
  · rfl
theorem ob_first {o : Opt} (h : sz o.kind ≠ 0) : (((ob o).getD 0 0).toNat : Int) = o.kind := by
  have hr := sz_range h
  have e : (ob o).getD 0 0 = UInt8.ofNat (u64 o.kind) := by
    unfold ob
    rw [byte_one]
    rfl
  rw [e, UInt8.toNat_ofNat']
  have := u64_int o.kind
  omega
theorem ob_size {o : Opt} (h : sz o.kind ≠ 0) : (ob o).length = sz o.kind := by rw [ob_length, sz_pos h]
/-- parse, of an option's own bytes. -/
theorem parse_own (o : Opt) (h : sz o.kind ≠ 0) (A : Option Addr) (c : Nat) (w : World) (hr : RB w A (ob o).length c (ob o)) :
    Calls Try.prog 25 #[.slice A (ob o).length c] w (ParseMade w (prs (zK o.kind) (tab o.kind) ((ob o).drop 1))) := by
  have hk := ob_first h
  have hr' := sz_range h
  obtain ⟨k, e⟩ := Int.eq_ofNat_of_zero_le (show 0 ≤ o.kind by omega)
  rw [ob_size h] at hr ⊢
  rw [e] at hr hr' hk ⊢
  exact parse_any k (by omega) (by omega) A c (ob o) w hr (by omega)
theorem exec_eqO {W : World} {op : Oper} {a : Act} (x y : Operand) (t : TypeId) (ho : op.op = .binOp .eql 31 x y t) (p q : Opt) (hx : a.eval x = .agg p.vals.toArray) (hy : a.eval y = .agg q.vals.toArray) : (execOp a.eval op).run Try.prog W = .ok (.value (.bool (eqO p q))) W := by
  unfold execOp
  simp only [ho, hx, hy, Sem.run_bind, run_eqGuard_agg _ _ _ _ _ _ _ eqGuardOpt, Result.andThen_ok, run_eqlO, Sem.run_pure]

set_option maxRecDepth 8000 in
set_option maxHeartbeats 1600000 in
theorem rRight_any (o : Opt) (w : World) (hok : o.ok) : Calls Try.prog 11 #[.agg o.vals.toArray] w fun e w' => e = .returned (.bool (rrightB o)) ∧ Below w.heap.size w w' := by
  have HSZ := Lib.hid (Size_any o.kind)
  by_cases hs : sz o.kind = 0
  · have HR : Hid (rrightB o = false) := Lib.hid (by unfold rrightB; rw [if_pos (.inl hs)])
    rw [hs] at HSZ
    clear hs
    go_enter Try.func11, Try.ntmps11
    go_wp2_with (first
      | ((with_reducible refine wpList_here ?_); refine wpList_boxV (o := ⟨some 1, _, _, _, _, _⟩) rfl 31 (.tmp 0) rfl o.vals rfl _ rfl ?_; intro w1 z1 b1 s1; have k0 : w1.cell? ⟨w.heap.size, 0, none⟩ = some (.int .i64 o.kind) := (z1 0 (Nat.zero_lt_succ _)).1))
    refine (HSZ.out _).mono ?_
    rintro e w2 ⟨rfl, b2⟩
    have b3 := below_trans b1 b2
    clear z1 b1 b2 s1 k0
    go_wp2_with fail
    go_ret
    rw [HR.out]
    exact ⟨rfl, b3⟩
  · by_cases h9 : o.kind = 9 ∧ o.dsn < 0
    · have HR : Hid (rrightB o = false) := Lib.hid (by unfold rrightB; rw [if_pos (.inr h9)])
      have h91 : (o.kind == 9) = true := by simpa using h9.1
      have hd : decide (o.dsn < 0) = true := decide_eq_true h9.2
      have hs1 : ((sz o.kind : Int) == 0) = false := by rw [beq_eq_false_iff_ne]; omega
      generalize sz o.kind = s at *
      clear hs h9
      go_enter Try.func11, Try.ntmps11
      go_wp2_with (first
        | ((with_reducible refine wpList_here ?_); refine wpList_boxV (o := ⟨some 1, _, _, _, _, _⟩) rfl 31 (.tmp 0) rfl o.vals rfl _ rfl ?_; intro w1 z1 b1 s1; have k0 : w1.cell? ⟨w.heap.size, 0, none⟩ = some (.int .i64 o.kind) := (z1 0 (Nat.zero_lt_succ _)).1))
      refine (HSZ.out _).mono ?_
      rintro e w2 ⟨rfl, b2⟩
      have b3 := below_trans b1 b2
      have k0' := (b2.cell (World.block_lt_of_cell? _ _ k0)).trans k0
      have k11 : w2.cell? ⟨w.heap.size, 11, none⟩ = some (.int .i64 o.dsn) := ((z1.below b2) 11 (by rw [o.vals_length]; omega)).1
      clear z1 b1 b2 s1 k0
      go_wp2_with fail
      go_ret
      rw [HR.out]
      exact ⟨rfl, b3⟩
    · have HPA := Lib.hid (fun A c W h => parse_own o hs A c W h)
      have HP := Lib.hid (show prs (zK o.kind) (tab o.kind) ((ob o).drop 1) = prs (zK o.kind) (tab o.kind) ((ob o).drop 1) from rfl)
      have hs1 : ((sz o.kind : Int) == 0) = false := by rw [beq_eq_false_iff_ne]; omega
      by_cases hk : o.kind = 9
      · have HR : Hid (rrightB o = eqO (prs (zK o.kind) (tab o.kind) ((ob o).drop 1)) o) := Lib.hid (by
          unfold rrightB
          rw [if_neg (by omega), if_neg (by omega)])
        have h91 : (o.kind == 9) = true := by simpa using hk
        have hd : decide (o.dsn < 0) = false := decide_eq_false (by omega)
        generalize prs (zK o.kind) (tab o.kind) ((ob o).drop 1) = P at *
        generalize sz o.kind = s at *
        clear hs h9 hk
        go_enter Try.func11, Try.ntmps11
        go_wp2_with (first
          | ((with_reducible refine wpList_here ?_); refine wpList_boxV (o := ⟨some 1, _, _, _, _, _⟩) rfl 31 (.tmp 0) rfl o.vals rfl _ rfl ?_; intro w1 z1 b1 s1; have k0 : w1.cell? ⟨w.heap.size, 0, none⟩ = some (.int .i64 o.kind) := (z1 0 (Nat.zero_lt_succ _)).1))
        refine (HSZ.out _).mono ?_
        rintro e w2 ⟨rfl, b2⟩
        have b3 := below_trans b1 b2
        have k0' := (b2.cell (World.block_lt_of_cell? _ _ k0)).trans k0
        have z2 := z1.below b2
        have k11 : w2.cell? ⟨w.heap.size, 11, none⟩ = some (.int .i64 o.dsn) := (z2 11 (by rw [o.vals_length]; omega)).1
        clear z1 b1 b2 s1 k0
        go_wp2_with fail
        have s0 : Own w2.drew w.heap.size o.vals ∧ Below w.heap.size w w2.drew := ⟨z2.below (Below.refl _ _).drew, b3.drew⟩
        refine wp_region_noPanic ?_
        refine wp_region_held_drew (S := fun W => Own W w.heap.size o.vals ∧ Below w.heap.size w W) (by kernel_rfl) s0 (fun _ => ?_)
        refine held_take (i := 0) (v := .agg o.vals.toArray) (some 26) rfl rfl (by kernel_rfl) (by kernel_rfl) (by kernel_rfl) (fun _ _ _ h => h) (yieldsIf_load_mid (by rfl) 31 (.tmp 1) rfl w.heap.size 0 rfl o.vals _ (fun W hW => hW.1.range) Try.underlying31 rfl infoOpt) s0 ?_
        simp only [Act.put, List.setIfInBounds_toArray, List.set_cons_zero, List.set_cons_succ]
        refine held_take (i := 3) (v := .agg o.vals.toArray) (some 29) rfl rfl (by kernel_rfl) (by kernel_rfl) (by kernel_rfl) (fun _ _ _ h => h) (yieldsIf_load_mid (by rfl) 31 (.tmp 1) rfl w.heap.size 0 rfl o.vals _ (fun W hW => hW.1.range) Try.underlying31 rfl infoOpt) s0 ?_
        simp only [Act.put, List.setIfInBounds_toArray, List.set_cons_zero, List.set_cons_succ]
        refine wpAnyH_ready (rs := [1]) (by kernel_rfl) (by simp) ?_
        refine AllReadyH.cons rfl (fun K hK => ?_) AllReadyH.nil
        go_simp
        refine (rbytes_any o _ hok).mono ?_
        rintro e w5 ⟨A5, c5, rfl, r5, _, b5⟩
        have s5 : Own w5 w.heap.size o.vals ∧ Below w.heap.size w w5 := ⟨s0.1.below b5, below_trans s0.2 b5⟩
        dsimp only
        refine hK.out _ _ s5 (fun _ => ?_)
        clear hK
        refine wpAnyH_ready (rs := [2]) (by kernel_rfl) (by simp) ?_
        refine AllReadyH.cons rfl (fun K hK => ?_) AllReadyH.nil
        go_simp
        refine (HPA.out A5 c5 _ r5).mono ?_
        rintro e w6 ⟨rfl, b6⟩
        have s6 : Own w6 w.heap.size o.vals ∧ Below w.heap.size w w6 := ⟨s5.1.below b6, below_trans s5.2 b6⟩
        dsimp only
        refine hK.out _ _ s6 (fun _ => ?_)
        clear hK
        refine held_take (i := 4) (v := .bool (eqO P o)) (some 30) rfl rfl (by kernel_rfl) (by kernel_rfl) (by kernel_rfl) (fun _ _ _ h => h) (Or.inl ⟨by rfl, fun W _ => exec_eqO (.tmp 28) (.tmp 29) _ rfl P o rfl rfl⟩) s6 ?_
        simp only [Act.put, List.setIfInBounds_toArray, List.set_cons_zero, List.set_cons_succ]
        refine held_take (i := 5) (v := .bool (eqO P o)) (some 2) rfl rfl (by kernel_rfl) (by kernel_rfl) (by kernel_rfl) (fun _ _ _ h => h) (Or.inl ⟨by rfl, fun W _ => by go_simp⟩) s6 ?_
        simp only [Act.put, List.setIfInBounds_toArray, List.set_cons_zero, List.set_cons_succ]
        refine wpAnyH_done (by kernel_rfl) ?_ _
        refine NoPanic.normal ?_
        go_wp2_with fail
        go_ret
        rw [HR.out]
        exact ⟨rfl, s6.2⟩
      · have h91 : (o.kind == 9) = false := by rw [beq_eq_false_iff_ne]; exact hk
        have HMA := Lib.hid (may_any o)
        cases hm : mayB o with
        | false =>
          have HR : Hid (rrightB o = false) := Lib.hid (by
            unfold rrightB
            rw [if_neg (by omega), if_pos ⟨hk, hm⟩])
          rw [hm] at HMA
          clear hm
          generalize sz o.kind = s at *
          clear hs h9 hk HPA HP
          go_enter Try.func11, Try.ntmps11
          go_wp2_with (first
            | ((with_reducible refine wpList_here ?_); refine wpList_boxV (o := ⟨some 1, _, _, _, _, _⟩) rfl 31 (.tmp 0) rfl o.vals rfl _ rfl ?_; intro w1 z1 b1 s1; have k0 : w1.cell? ⟨w.heap.size, 0, none⟩ = some (.int .i64 o.kind) := (z1 0 (Nat.zero_lt_succ _)).1))
          refine (HSZ.out _).mono ?_
          rintro e w2 ⟨rfl, b2⟩
          have b3 := below_trans b1 b2
          have k0' := (b2.cell (World.block_lt_of_cell? _ _ k0)).trans k0
          have z2 := z1.below b2
          have k11 : w2.cell? ⟨w.heap.size, 11, none⟩ = some (.int .i64 o.dsn) := (z2 11 (by rw [o.vals_length]; omega)).1
          clear z1 b1 b2 s1 k0
          go_wp2_with (first
            | ((with_reducible refine wpList_here ?_); refine wpList_loadV (o := ⟨some 22, _, _, _, _, _⟩) rfl 31 (.tmp 1) rfl _ _ o.vals rfl z2.range _ Try.underlying31 rfl infoOpt ?_))
          refine (HMA.out _).mono ?_
          rintro e w4 ⟨rfl, b4⟩
          have b5 := below_trans b3 b4
          go_wp2_with fail
          go_ret
          rw [HR.out]
          exact ⟨rfl, b5⟩
        | true =>
          have HR : Hid (rrightB o = eqO (prs (zK o.kind) (tab o.kind) ((ob o).drop 1)) o) := Lib.hid (by
            unfold rrightB
            rw [if_neg (by omega), if_neg (by rw [hm]; simp)])
          rw [hm] at HMA
          clear hm
          generalize prs (zK o.kind) (tab o.kind) ((ob o).drop 1) = P at *
          generalize sz o.kind = s at *
          clear hs h9 hk
          go_enter Try.func11, Try.ntmps11
          go_wp2_with (first
            | ((with_reducible refine wpList_here ?_); refine wpList_boxV (o := ⟨some 1, _, _, _, _, _⟩) rfl 31 (.tmp 0) rfl o.vals rfl _ rfl ?_; intro w1 z1 b1 s1; have k0 : w1.cell? ⟨w.heap.size, 0, none⟩ = some (.int .i64 o.kind) := (z1 0 (Nat.zero_lt_succ _)).1))
          refine (HSZ.out _).mono ?_
          rintro e w2 ⟨rfl, b2⟩
          have b3 := below_trans b1 b2
          have k0' := (b2.cell (World.block_lt_of_cell? _ _ k0)).trans k0
          have z2 := z1.below b2
          have k11 : w2.cell? ⟨w.heap.size, 11, none⟩ = some (.int .i64 o.dsn) := (z2 11 (by rw [o.vals_length]; omega)).1
          clear z1 b1 b2 s1 k0
          go_wp2_with (first
            | ((with_reducible refine wpList_here ?_); refine wpList_loadV (o := ⟨some 22, _, _, _, _, _⟩) rfl 31 (.tmp 1) rfl _ _ o.vals rfl z2.range _ Try.underlying31 rfl infoOpt ?_))
          refine (HMA.out _).mono ?_
          rintro e w4 ⟨rfl, b4⟩
          have z4 := z2.below b4
          have b5' := below_trans b3 b4
          clear z2 k0' k11 b4 b3
          go_wp2_with fail
          have s0 : Own w4.drew w.heap.size o.vals ∧ Below w.heap.size w w4.drew := ⟨z4.below (Below.refl _ _).drew, b5'.drew⟩
          refine wp_region_noPanic ?_
          refine wp_region_held_drew (S := fun W => Own W w.heap.size o.vals ∧ Below w.heap.size w W) (by kernel_rfl) s0 (fun _ => ?_)
          refine held_take (i := 0) (v := .agg o.vals.toArray) (some 26) rfl rfl (by kernel_rfl) (by kernel_rfl) (by kernel_rfl) (fun _ _ _ h => h) (yieldsIf_load_mid (by rfl) 31 (.tmp 1) rfl w.heap.size 0 rfl o.vals _ (fun W hW => hW.1.range) Try.underlying31 rfl infoOpt) s0 ?_
          simp only [Act.put, List.setIfInBounds_toArray, List.set_cons_zero, List.set_cons_succ]
          refine held_take (i := 3) (v := .agg o.vals.toArray) (some 29) rfl rfl (by kernel_rfl) (by kernel_rfl) (by kernel_rfl) (fun _ _ _ h => h) (yieldsIf_load_mid (by rfl) 31 (.tmp 1) rfl w.heap.size 0 rfl o.vals _ (fun W hW => hW.1.range) Try.underlying31 rfl infoOpt) s0 ?_
          simp only [Act.put, List.setIfInBounds_toArray, List.set_cons_zero, List.set_cons_succ]
          refine wpAnyH_ready (rs := [1]) (by kernel_rfl) (by simp) ?_
          refine AllReadyH.cons rfl (fun K hK => ?_) AllReadyH.nil
          go_simp
          refine (rbytes_any o _ hok).mono ?_
          rintro e w5 ⟨A5, c5, rfl, r5, _, b5⟩
          have s5 : Own w5 w.heap.size o.vals ∧ Below w.heap.size w w5 := ⟨s0.1.below b5, below_trans s0.2 b5⟩
          dsimp only
          refine hK.out _ _ s5 (fun _ => ?_)
          clear hK
          refine wpAnyH_ready (rs := [2]) (by kernel_rfl) (by simp) ?_
          refine AllReadyH.cons rfl (fun K hK => ?_) AllReadyH.nil
          go_simp
          refine (HPA.out A5 c5 _ r5).mono ?_
          rintro e w6 ⟨rfl, b6⟩
          have s6 : Own w6 w.heap.size o.vals ∧ Below w.heap.size w w6 := ⟨s5.1.below b6, below_trans s5.2 b6⟩
          dsimp only
          refine hK.out _ _ s6 (fun _ => ?_)
          clear hK
          refine held_take (i := 4) (v := .bool (eqO P o)) (some 30) rfl rfl (by kernel_rfl) (by kernel_rfl) (by kernel_rfl) (fun _ _ _ h => h) (Or.inl ⟨by rfl, fun W _ => exec_eqO (.tmp 28) (.tmp 29) _ rfl P o rfl rfl⟩) s6 ?_
          simp only [Act.put, List.setIfInBounds_toArray, List.set_cons_zero, List.set_cons_succ]
          refine held_take (i := 5) (v := .bool (eqO P o)) (some 2) rfl rfl (by kernel_rfl) (by kernel_rfl) (by kernel_rfl) (fun _ _ _ h => h) (Or.inl ⟨by rfl, fun W _ => by go_simp⟩) s6 ?_
          simp only [Act.put, List.setIfInBounds_toArray, List.set_cons_zero, List.set_cons_succ]
          refine wpAnyH_done (by kernel_rfl) ?_ _
          refine NoPanic.normal ?_
          go_wp2_with fail
          go_ret
          rw [HR.out]
          exact ⟨rfl, s6.2⟩
end Go.Proofs.Ytcofkdcjcckdfaa

/- The law HostKeys. Condition: the table of digests is as the program lays it. -/
import Derived.Test.YtlcegchdkigibaaGreatDoorHoLM
namespace Go.Proofs.YtlcegchdkigibaaGreatDoor
set_option linter.unusedVariables false
set_option linter.unusedSimpArgs false
set_option maxRecDepth 20000
open Go.RowKit Go.Lib

/-- A host that dialed so many connections. -/
structure Dk (B : Nat) (hb : Nat) (n : Nat) (w : World) : Prop where
  of_ : ∃ h mb l ps xs gs, Hs B w hb h mb l ps xs n gs ∧ l.length = n ∧ xs.length = n ∧ h.md = (n : Int) ∧ h.tk = 0 ∧ (∀ p ∈ l, p.2.live = true ∧ p.2.freed = 0) ∧ n ≤ 4
section
variable {B hb n : Nat} {w w' : World}
theorem Dk.below (k : Dk B hb n w) (b : Below w.heap.size w w') : Dk B hb n w' := by
  obtain ⟨h, mb, l, ps, xs, gs, s, r⟩ := k.of_
  exact ⟨h, mb, l, ps, xs, gs, s.below b, r⟩
theorem Dk.le (k : Dk B hb n w) : B ≤ w.heap.size := by
  obtain ⟨h, mb, l, ps, xs, gs, s, r⟩ := k.of_
  exact s.c.le
/-- One more is dialed, or not. -/
def DialedP (B : Nat) (hb n : Nat) (w : World) (e : Ending) (w' : World) : Prop :=
  ∃ (a : Int) (c : Int) (n' : Nat), e = .returned (.tuple #[.int .i64 a, .int .i64 c]) ∧ Dk B hb n' w' ∧ Below B w w' ∧ (∀ b0 v k ys, w.ownsRow b0 83 4 v k ys → w'.ownsRow b0 83 4 v k ys) ∧ ((c = 0 ∧ n' = n + 1) ∨ (c = 6 ∧ n' = n ∧ n < 4) ∨ (c = 15 ∧ n' = n ∧ n = 4))
theorem row_stays {h : Hv} {mb m : Nat} {l : LT.Ents} {ps xs : List Nat} {gs : List Value} (s : Hs B w hb h mb l ps xs m gs) (c : Ch w w' (Hfp h hb mb)) : ∀ b0 v k ys, w.ownsRow b0 83 4 v k ys → w'.ownsRow b0 83 4 v k ys := fun b0 v k ys o => own_ch2 o c (fun g hg e => by
  obtain ⟨cs, hc⟩ := ch_ownrow o hg
  rcases e with e | e | e | e
  · exact blk_ne hc s.c.ha (by decide) e
  · exact map_ne s.c.tb.map hc e.symm
  · obtain ⟨ds, hd⟩ := ch_ownrow s.c.hw e
    exact blk_ne hc hd (by decide) rfl
  · obtain ⟨ds, hd⟩ := ch_ownrow s.c.sw e
    exact blk_ne hc hd (by decide) rfl)
theorem dial_any (k : Dk B hb n w) (hT : TB B w) : Calls Tryz.prog 8 #[cptr hb, .int .i64 0, .int .i64 1, .int .i64 80] w (DialedP B hb n w) := by
  obtain ⟨h, mb, l, ps, xs, gs, s, hl, hx, hmd, htk, hall, hn⟩ := k.of_
  rcases Nat.lt_or_ge n 4 with hn4 | hn4
  · refine (connect_any s (by omega) (by omega) (by omega) (by omega) (by omega) hT).mono ?_
    rintro e w1 (⟨v, d, ps', hne, rfl, s1, b1, ch1⟩ | ⟨xb, x, base, lab, ro, lb, z, kk, pv, d, hv, sv, ps', q, rfl, P⟩)
    · exact ⟨0, 6, n, rfl, ⟨_, mb, l, ps', xs, gs, s1, hl, hx, hmd, htk, hall, hn⟩, b1, row_stays s ch1, .inr (.inl ⟨rfl, rfl, hn4⟩)⟩
    · refine ⟨h.md + 1, 0, n + 1, rfl, ⟨_, mb, _, ps', _, _, P.s, ?_, ?_, ?_, htk, ?_, by omega⟩, P.b, row_stays s P.ch, .inl ⟨rfl, rfl⟩⟩
      · rw [List.length_append, hl]; rfl
      · rw [List.length_append, hx]; rfl
      · show h.md + 1 = _
        rw [hmd]; rfl
      · intro p hp
        rcases List.mem_append.1 hp with hp | hp
        · exact hall p hp
        · obtain rfl : p = _ := by simpa using hp
          exact ⟨rfl, rfl⟩
  · have h4 : n = 4 := by omega
    refine (connectFull_any s (by omega) (by omega) (by omega)).mono ?_
    rintro e w1 ⟨rfl, b1⟩
    exact ⟨0, 15, n, rfl, k.below b1, b1.mono s.c.le, (fun b0 v k ys o => own_ch2 o (Ch.of_below (fun _ => False) b1) (fun _ _ e => e)), .inr (.inr ⟨rfl, rfl, h4⟩)⟩
/-- The entries that are told: as many as there were connections, rising, live. -/
def AllP (B : Nat) (hb n : Nat) (w : World) (e : Ending) (w' : World) : Prop := ∃ v out b0, e = .returned v ∧ w'.ownsRow b0 83 4 v out.length (rcv out) ∧ w.heap.size ≤ b0 ∧ out.length = n ∧ out.Pairwise (fun a b => a.tok < b.tok) ∧ (∀ x ∈ out, x.live = true) ∧ Below w.heap.size w w'
theorem all_any (k : Dk B hb n w) : Calls Tryz.prog 9 #[cptr hb] w (AllP B hb n w) := by
  obtain ⟨h, mb, l, ps, xs, gs, s, hl, hx, hmd, htk, hall, hn⟩ := k.of_
  refine (entries_any s.c (fun p hp => by unfold LT.isI; rw [(hall p hp).2]; omega)).mono ?_
  rintro e w1 ⟨v, out, b0, rfl, hb0, r1, t1, b1⟩
  refine ⟨v, out, b0, rfl, r1, hb0, (t1.length s.c.tb.map.nd).trans hl, t1.up, fun x hx => ?_, b1⟩
  obtain ⟨p, hp, rfl⟩ := (t1.mem x).1 hx
  exact (hall p hp).1
end
set_option maxHeartbeats 6400000 in
theorem Keys_any (a : Nat) (A : Option Addr) (n c : Nat) (zs : List Int) (w : World) (ha : a < 18446744073709551616) (r : RI .u64 w A n c zs) (hz : ∀ z ∈ zs, (Lit.int .u64 z).wf = true) (hT : LK.Tab w) : Calls Tryz.prog 3 #[.int .u64 (a : Int), .slice A n c] w (Held w) := by
  obtain ⟨ks, rfl, hk⟩ : ∃ ks : List Nat, zs = ks.map Int.ofNat ∧ ∀ k ∈ ks, k < 18446744073709551616 := by
    have hw : ∀ z ∈ zs, 0 ≤ z ∧ z < 18446744073709551616 := fun z h => by
      have := hz z h
      simp [Lit.wf, IntKind.min, IntKind.max, IntKind.bits, IntKind.signed] at this
      omega
    refine ⟨zs.map Int.toNat, ?_, fun k h => ?_⟩
    · rw [List.map_map]
      conv => lhs; rw [← List.map_id zs]
      refine List.map_congr_left fun z h => ?_
      have := (hw z h).1
      show z = ((z.toNat : Nat) : Int)
      omega
    · obtain ⟨z, hz2, rfl⟩ := List.mem_map.1 h
      have := hw z hz2
      omega
  have HWK := Lib.hid (hwakes_any w hT)
  have HR := Lib.hid r
  have HK := Lib.hid hk
  have HT := Lib.hid hT
  have HNE := Lib.hid (fun W => HNew_any a ha W)
  clear r hz hk hT ha
  unfold Held
  unfold NewP cptr at HNE
  go_enter Tryz.func3, Tryz.ntmps3
  go_wp2_with fail
  refine HWK.out.mono ?_
  rintro e w1 ⟨rfl, b1⟩
  have HB1 := Lib.hid b1
  clear b1 HWK
  by_cases hn : 3 < (n : Int)
  · go_wp2_with fail
    go_ret
    exact ⟨rfl, HB1.out⟩
  have HN := Lib.hid hn
  go_wp2_with fail
  refine (HNE.out w1).mono ?_
  rintro e w2 ⟨hb, tb, mb, rfl, s2, b2⟩
  have o2 : w2.ownsRow w1.heap.size 22 1 (Hv.fresh a tb).pv ([] : List Nat).length (iv .u64 (([] : List Nat).map Int.ofNat)) := World.ownsRow_nil _ _ _ _
  have HB2 := Lib.hid b2
  have r2 := HR.out.below (HB1.out.trans (b2.mono HB1.out.size))
  have HP1 := Lib.hid (Prime_any s2.c o2 (fun p hp => by cases hp) r2 HK.out (Nat.zero_le _) (by have := HN.out; omega))
  unfold cptr at HP1
  clear s2 o2 b2 r2 HNE
  go_wp2_with fail
  refine HP1.out.mono ?_
  rintro e w3 ⟨rfl, v3, s3, o3, b3⟩
  have hln : ks.length = n := by have := HR.out.len; rw [List.length_map] at this; exact this
  have HB3 := Lib.hid (HB2.out.trans b3)
  have r3 := HR.out.below (HB1.out.trans ((HB2.out.trans b3).mono HB1.out.size))
  have o3' : w3.ownsRow w1.heap.size 22 1 v3 ([] ++ ks).length (iv .u64 (([] ++ ks).map Int.ofNat)) := by
    have := o3
    simp only [List.length_nil, Nat.zero_add] at this
    exact this
  have HP2 := Lib.hid (Prime_any s3.c o3' (fun p hp => HK.out p (by simpa using hp)) r3 HK.out (by have := HN.out; simp; omega) (by have := HN.out; omega))
  unfold cptr at HP2
  clear s3 o3 o3' b3 r3 HP1 hln
  go_wp2_with fail
  refine HP2.out.mono ?_
  rintro e w4 ⟨rfl, v4, s4, o4, b4⟩
  have HB4 := Lib.hid (HB3.out.trans b4)
  have HD4 : Hid (Dk w1.heap.size hb 0 w4) := Lib.hid ⟨_, mb, [], _, [], [], s4, rfl, rfl, rfl, rfl, (fun p hp => by cases hp), by omega⟩
  have HTB : Hid (TB w1.heap.size w1) := Lib.hid (fun W b => HT.out.below (HB1.out.trans (b.mono HB1.out.size)))
  clear s4 o4 b4 HP2 HB2 HB3 HN hn
  go_wp2_with fail
  go_loopw [25, 6] (fun i k wr => ∃ j m : Nat, j ≤ 8 ∧ i = .int .i64 (j : Int) ∧ k = .int .i64 (m : Int) ∧ Dk w1.heap.size hb m wr ∧ Below w1.heap.size w1 wr) (fun i _ _ => 8 - (intOf i).toNat)
  case atStart => exact ⟨0, 0, by omega, rfl, rfl, HD4.out, HB4.out⟩
  case round =>
    obtain ⟨j, m, hj, rfl, rfl, k, b⟩ := hrel
    rcases Nat.lt_or_ge j 8 with hj8 | hj8
    · have hji : (j : Int) < 8 := by omega
      have hwj : IntKind.i64.wrap ((j : Int) + 1) = (j : Int) + 1 := by rw [IntKind.wrap_i64]; omega
      have HCN := Lib.hid (dial_any k (HTB.out.step b))
      have HB5 := Lib.hid b
      unfold cptr at HCN
      have hm4 : m ≤ 4 := by obtain ⟨_, _, _, _, _, _, _, _, _, _, _, _, h4⟩ := k.of_; exact h4
      have hwm : IntKind.i64.wrap ((m : Int) + 1) = (m : Int) + 1 := by rw [IntKind.wrap_i64]; omega
      clear k b HD4 HB4 hm4
      go_wp2_with fail
      refine HCN.out.mono ?_
      rintro e w5 ⟨x, y, m', rfl, k5, b5, _, hc⟩
      have HB6 := Lib.hid (HB5.out.trans b5)
      have HK5 := Lib.hid k5
      clear k5 b5 HCN
      rcases hc with ⟨rfl, rfl⟩ | ⟨rfl, rfl, -⟩ | ⟨rfl, rfl, -⟩
      · go_wp2_with fail
        go_roundw
        case rel => exact ⟨j + 1, m + 1, by omega, by go_num, by go_num, HK5.out, HB6.out⟩
        case measure => simp [intOf]; omega
      · go_wp2_with fail
        go_roundw
        case rel => exact ⟨j + 1, m', by omega, by go_num, rfl, HK5.out, HB6.out⟩
        case measure => simp [intOf]; omega
      · go_wp2_with fail
        go_roundw
        case rel => exact ⟨j + 1, m', by omega, by go_num, rfl, HK5.out, HB6.out⟩
        case measure => simp [intOf]; omega
    · obtain rfl : j = 8 := by omega
      have HAL := Lib.hid (all_any k)
      have HKK := Lib.hid k
      have HB5 := Lib.hid b
      unfold AllP cptr at HAL
      clear k b HD4 HB4 hj
      go_wp2_with fail
      refine HAL.out.mono ?_
      rintro e w5 ⟨v, out, b0, rfl, r5, hb0, hl5, up, al, b5⟩
      have k5 := HKK.out.below b5
      have HCN := Lib.hid (dial_any k5 (HTB.out.step (HB5.out.trans (b5.mono HB5.out.size))))
      have HB6 := Lib.hid (HB5.out.trans (b5.mono HB5.out.size))
      have HR5 := Lib.hid r5
      have HL5 := Lib.hid (And.intro hl5 (And.intro up al))
      have hm4 : m ≤ 4 := by obtain ⟨_, _, _, _, _, _, _, _, _, _, _, _, h4⟩ := k5.of_; exact h4
      obtain ⟨A5, c5, rfl, _, _⟩ := LF.own_slice r5
      unfold cptr at HCN
      clear r5 up al b5 k5 HAL hl5
      go_wp2_with fail
      refine HCN.out.mono ?_
      rintro e w6 ⟨x, y, m', rfl, k6, b6, st6, hc⟩
      have r6 := st6 _ _ _ _ HR5.out
      have hlo : out.length ≤ 4 := by rw [HL5.out.1]; exact hm4
      have HAP := Lib.hid (apart_any r6 hlo HL5.out.2.1)
      have HLV := Lib.hid (fun W (b : Below w6.heap.size w6 W) => live_any (own_ch2 r6 (Ch.of_below (fun _ => False) b) (fun _ _ e => e)) hlo HL5.out.2.2)
      have HQ := Lib.hid (HB1.out.trans ((HB6.out.trans b6).mono HB1.out.size))
      have HLN := Lib.hid HL5.out.1
      have h46 : m' ≤ 4 := by obtain ⟨_, _, _, _, _, _, _, _, _, _, _, _, h4⟩ := k6.of_; exact h4
      clear r6 st6 k6 b6 HCN
      generalize hol : out.length = ol at *
      have hom := HLN.out
      subst hom
      have hm0 : (0 : Int) ≤ (ol : Int) := by omega
      have hm5 : (ol : Int) ≤ 4 := by omega
      unfold cptr at *
      clear HL5 HLN hm4 hlo HR5
      rcases hc with ⟨rfl, rfl⟩ | ⟨rfl, rfl, hlt⟩ | ⟨rfl, rfl, h4⟩
      · have hlt0 : ol < 4 := by omega
        have hlt : (ol : Int) < 4 := by omega
        clear h46
        go_wp2_with fail
        refine HAP.out.mono ?_
        rintro e w7 ⟨rfl, b7⟩
        have HL7 := Lib.hid (HLV.out w7 b7)
        have HQ7 := Lib.hid (HQ.out.trans (b7.mono HQ.out.size))
        clear b7 HAP HLV HQ
        go_wp2_with (first
          | (go_at_call 11; refine HL7.out.mono ?_; rintro e w8 ⟨rfl, rfl⟩)
          | fail)
        go_ret
        exact ⟨rfl, HQ7.out⟩
      · have hlt2 : (m' : Int) < 4 := by omega
        clear h46 hlt
        go_wp2_with fail
        refine HAP.out.mono ?_
        rintro e w7 ⟨rfl, b7⟩
        have HL7 := Lib.hid (HLV.out w7 b7)
        have HQ7 := Lib.hid (HQ.out.trans (b7.mono HQ.out.size))
        clear b7 HAP HLV HQ
        go_wp2_with (first
          | (go_at_call 11; refine HL7.out.mono ?_; rintro e w8 ⟨rfl, rfl⟩)
          | fail)
        go_ret
        exact ⟨rfl, HQ7.out⟩
      · have hlt2 : ¬ (m' : Int) < 4 := by omega
        clear h46 h4
        go_wp2_with fail
        refine HAP.out.mono ?_
        rintro e w7 ⟨rfl, b7⟩
        have HL7 := Lib.hid (HLV.out w7 b7)
        have HQ7 := Lib.hid (HQ.out.trans (b7.mono HQ.out.size))
        clear b7 HAP HLV HQ
        go_wp2_with (first
          | (go_at_call 11; refine HL7.out.mono ?_; rintro e w8 ⟨rfl, rfl⟩)
          | fail)
        go_ret
        exact ⟨rfl, HQ7.out⟩
end Go.Proofs.YtlcegchdkigibaaGreatDoor

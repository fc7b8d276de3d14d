/- A sender's Ack. Conditions: the sender stands, with at most 10^9 data in all. -/
import Derived.Test.YtgcblajhdebigaaDsG
namespace Go.Proofs.Ytgcblajhdebigaa
set_option linter.unusedVariables false
set_option linter.unusedSimpArgs false
open Go.RowKit Go.Lib

def Dq.acks (d : Dq) (a win : Int) : Dq := if d.may a win then d.ack a.toNat win.toNat else d
def Dq.gone (d : Dq) (a win : Int) : Nat := if d.may a win then min a.toNat d.fin - d.una else 0
def AckP (base : Nat) (w : World) (sb : Nat) (z : Sh) (d : Dq) (a win : Int) (e : Ending) (w' : World) : Prop :=
  e = .returned (.tuple #[.int .i64 (d.gone a win : Int), .bool (d.may a win)]) ∧ ∃ z', Left base w sb z (d.acks a win) w' z'

section
variable {base : Nat} {w : World} {sb : Nat} {z : Sh} {d : Dq}
theorem ack_no (H : Sd base w sb z d) {a win : Int} (h : d.may a win = false) {w' : World} (b : Below w.heap.size w w') : AckP base w sb z d a win (.returned (.tuple #[.int .i64 0, .bool false])) w' := by
  refine ⟨by unfold Dq.gone; rw [h]; rfl, z, ?_⟩
  unfold Dq.acks
  rw [h]
  exact Left.of_below H b
theorem may_eq {a win : Int} : d.may a win = (d.mayA a && decide (0 ≤ win ∧ win ≤ 65535)) := by
  unfold Dq.may Dq.mayA
  rw [Bool.eq_iff_iff, Bool.and_eq_true, decide_eq_true_iff, decide_eq_true_iff, decide_eq_true_iff]
/-- Behind the deletion, and two stores. -/
structure Mid (base : Nat) (w : World) (sb : Nat) (z : Sh) (d : Dq) (k : Nat) (v3 : Value) (u : Int) (w5 : World) : Prop where
  blk : w5.heap[sb]? = some (.cells #[ptr z.ob, v3, .int .i64 u, .int .i64 (d.next : Int), .int .i64 (d.edge : Int), .bool d.told, .bool d.done] 64 (0, 0))
  st : St w5 z.ob z.lv z.l
  data : w5.ownsRow base 5 1 v3 (d.held - k) (bv ((d.all.drop (d.una - 1)).drop k))
  ch : Ch w w5 (fun g => g = sb ∨ z.dv.ownBlock = some g)
  own : v3.ownBlock = z.dv.ownBlock
theorem Sd.mid (H : Sd base w sb z d) (u : Int) {k : Nat} {v3 : Value} {w3 : World} (r3 : w3.ownsRow base 5 1 v3 (d.held - k) (bv ((d.all.drop (d.una - 1)).drop k))) (c3 : Ch w w3 (fun g => z.dv.ownBlock = some g)) (o3 : v3.ownBlock = z.dv.ownBlock) :
    Mid base w sb z d k v3 u ((w3.setCell ⟨sb, 1, none⟩ v3).setCell ⟨sb, 2, none⟩ (.int .i64 u)) := by
  obtain ⟨a1, a2, a3, a4, a5⟩ := H.apart
  have hb3 := (c3.block sb H.lt a2).trans H.blk
  have cs : Ch w3 ((w3.setCell ⟨sb, 1, none⟩ v3).setCell ⟨sb, 2, none⟩ (.int .i64 u)) (fun k => k = sb) := Ch.setCell (m := fun k => k = sb) (Ch.setCell (m := fun k => k = sb) (Ch.refl w3 _) (fun _ => rfl) _) (fun _ => rfl) _
  have c : Ch w ((w3.setCell ⟨sb, 1, none⟩ v3).setCell ⟨sb, 2, none⟩ (.int .i64 u)) (fun k => k = sb ∨ z.dv.ownBlock = some k) := c3.trans cs (fun _ _ e => .inr e) (fun _ _ e => .inl e)
  refine ⟨blk_set (blk_set hb3 1 v3) 2 _, H.st.ch c (fun e => e.elim a1 a4) (fun g hg e => e.elim (fun e => a3 (e ▸ hg)) (fun e => a5 g e hg)), own_ch2 r3 cs (fun g hg e => a2 (by rw [← o3, hg, e])), c, o3⟩
section
variable {k : Nat} {v3 : Value} {u : Int} {w5 : World}
theorem Mid.cell (h : Mid base w sb z d k v3 u w5) (j : Nat) : w5.cell? ⟨sb, j, none⟩ = (#[ptr z.ob, v3, .int .i64 u, .int .i64 (d.next : Int), .int .i64 (d.edge : Int), .bool d.told, .bool d.done] : Array Value)[j]? := by rw [cell_of_row w5 sb j _ _ (0, 0) h.blk]
theorem Mid.done (h : Mid base w sb z d k v3 u w5) (H : Sd base w sb z d) {aN win : Nat} (hm : d.may (aN : Int) (win : Int) = true) (hk : k = min aN d.fin - d.una) (huk : u = ((d.una + k : Nat) : Int)) (hcap : d.fin ≤ 1000000000)
    {w6 : World} {v6 : Value} {l6 : List Rn} (s6 : St w6 z.ob v6 l6) (d6 : DropR z.l u l6) (c6 : Ch w5 w6 (fun g => g = z.ob ∨ z.lv.ownBlock = some g)) (o6 : ∀ g, v6.ownBlock = some g → z.lv.ownBlock = some g ∨ w5.heap.size ≤ g) :
    w6.cell? ⟨sb, 4, none⟩ = some (.int .i64 (d.edge : Int)) ∧ w6.cell? ⟨sb, 6, none⟩ = some (.bool d.done) ∧ (∀ j, w6.frozen? ⟨sb, j, none⟩ = false) ∧
    Left base w sb z (d.ack aN win) ((w6.setCell ⟨sb, 4, none⟩ (.int .i64 ((d.ack aN win).edge : Int))).setCell ⟨sb, 6, none⟩ (.bool (d.ack aN win).done)) ⟨z.ob, v3, v6, l6⟩ := by
  obtain ⟨a1, a2, a3, a4, a5⟩ := H.apart
  obtain ⟨ok, hu, ha1, hw1⟩ := H.ok.ack hm
  have hn := H.nums
  have hlt := H.lt
  have hlt5 : sb < w5.heap.size := Nat.lt_of_lt_of_le hlt h.ch.size
  have hb6 := (c6.block sb hlt5 (fun e => e.elim (fun e => a1 e.symm) a3)).trans h.blk
  have hun : (d.ack aN win).una = d.una + k := by show min aN d.fin = _; omega
  have cs : Ch w6 ((w6.setCell ⟨sb, 4, none⟩ (.int .i64 ((d.ack aN win).edge : Int))).setCell ⟨sb, 6, none⟩ (.bool (d.ack aN win).done)) (fun k => k = sb) := Ch.setCell (m := fun k => k = sb) (Ch.setCell (m := fun k => k = sb) (Ch.refl w6 _) (fun _ => rfl) _) (fun _ => rfl) _
  have ov : ∀ g, v6.ownBlock = some g → g ≠ sb := fun g hg e => by
    rcases o6 g hg with o | o
    · exact a3 (e ▸ o)
    · omega
  have hc56 : Ch w5 _ (fun g => g = sb ∨ g = z.ob ∨ z.lv.ownBlock = some g) := c6.trans cs (fun _ _ e => .inr e) (fun _ _ e => .inl e)
  have hall : Ch w ((w6.setCell ⟨sb, 4, none⟩ (.int .i64 ((d.ack aN win).edge : Int))).setCell ⟨sb, 6, none⟩ (.bool (d.ack aN win).done)) (z.T sb) := h.ch.trans hc56 (fun _ _ e => e.elim .inl (fun e => .inr (.inr (.inl e)))) (fun _ _ e => e.elim .inl (fun e => e.elim (fun e => .inr (.inl e)) (fun e => .inr (.inr (.inr e)))))
  refine ⟨by rw [cell_of_row w6 sb 4 _ _ (0, 0) hb6]; rfl, by rw [cell_of_row w6 sb 6 _ _ (0, 0) hb6]; rfl, fun j => frozen_of hb6 j, ⟨?_, s6.ch cs (fun e => a1 e) (fun g hg e => ov g hg e), ls_ack H.ls (by rw [show ((min aN d.fin : Nat) : Int) = u from by rw [huk, ← hun]; rfl]; exact d6), ?_, ok, H.cap, ?_, H.lo, fun g hg => ?_⟩, hall, fun g hg => ?_⟩
  · have := blk_set (blk_set hb6 4 (.int .i64 ((d.ack aN win).edge : Int))) 6 (.bool (d.ack aN win).done)
    unfold cellsOf
    rw [hun, ← huk]
    exact this
  · have e1 : (d.ack aN win).held = d.held - k := by
      show d.fin - (d.ack aN win).una = _
      rw [hun]
      unfold Dq.held
      omega
    have e2 : (d.ack aN win).all.drop ((d.ack aN win).una - 1) = (d.all.drop (d.una - 1)).drop k := by
      rw [hun, List.drop_drop, show d.una + k - 1 = d.una - 1 + k from by omega]
      rfl
    rw [e1, e2]
    exact own_ch2 h.data hc56 (fun g hg e => by
      rw [h.own] at hg
      rcases e with e | e | e
      · exact a2 (e ▸ hg)
      · exact a4 (e ▸ hg)
      · exact a5 g hg e)
  · show max d.edge (aN + win) ≤ _
    omega
  · rcases o6 g hg with o | o
    · exact H.lvlo g o
    · have := H.lo.1
      omega
  · rcases hg with hg | hg | hg | hg
    · exact .inl (.inl hg)
    · exact .inl (.inr (.inl hg))
    · exact .inl (.inr (.inr (.inl (h.own ▸ hg))))
    · rcases o6 g hg with o | o
      · exact .inl (.inr (.inr (.inr o)))
      · exact .inr (Nat.le_trans h.ch.size o)
end

set_option maxRecDepth 8000 in
set_option maxHeartbeats 3200000 in
theorem Ack_any (H : Sd base w sb z d) (hcap : d.fin ≤ 1000000000) {a win : Int} (ha : isI a) (hwi : isI win) : Calls Try.prog 19 #[ptr sb, .int .i64 a, .int .i64 win] w (AckP base w sb z d a win) := by
  have HM := Lib.hid (mayAck_any H a)
  have hmy := may_eq (d := d) (a := a) (win := win)
  have HH := Lib.hid H
  cases hA : d.mayA a with
  | false =>
    have HF := Lib.hid (fun (w' : World) (b : Below w.heap.size w w') => ack_no H (a := a) (win := win) (by rw [hmy, hA]; rfl) b)
    rw [hA] at HM
    unfold ptr at *
    clear hmy H HH
    go_enter Try.func19, Try.ntmps19
    go_wp2_with fail
    refine (HM.out).mono ?_
    rintro e w1 ⟨rfl, b1⟩
    have HB1 := Lib.hid b1
    clear b1
    go_wp2_with fail
    go_ret2
    exact HF.out _ HB1.out
  | true =>
    rw [hA] at HM
    by_cases hwin : 0 ≤ win ∧ win ≤ 65535
    · have hmay : d.may a win = true := by rw [hmy, hA, decide_eq_true hwin]; rfl
      have hmi := Dq.may_iff.1 hmay
      have hn := H.nums
      obtain ⟨aN, rfl⟩ := Int.eq_ofNat_of_zero_le (show 0 ≤ a by omega)
      obtain ⟨wN, rfl⟩ := Int.eq_ofNat_of_zero_le hwin.1
      obtain ⟨hok, hu, hu2, hw2⟩ := H.ok.ack hmay
      obtain ⟨k, hk⟩ : ∃ k, k = min aN d.fin - d.una := ⟨_, rfl⟩
      have hwg : IntKind.i64.wrap (min (aN : Int) (d.fin : Int) - (d.una : Int)) = (k : Int) := by rw [IntKind.wrap_i64]; omega
      obtain ⟨u, hu9⟩ : ∃ u : Int, u = ((d.una + k : Nat) : Int) := ⟨_, rfl⟩
      have hwu : IntKind.i64.wrap ((d.una : Int) + (k : Int)) = u := by rw [IntKind.wrap_i64]; omega
      have hwe0 : IntKind.i64.wrap ((aN : Int) + (wN : Int)) = (aN : Int) + (wN : Int) := by rw [IntKind.wrap_i64]; omega
      have hwe : max (d.edge : Int) ((aN : Int) + (wN : Int)) = ((d.ack aN wN).edge : Int) := by show _ = ((max d.edge (aN + wN) : Nat) : Int); omega
      have HP : Hid (∀ w' z', Left base w sb z (d.ack aN wN) w' z' → AckP base w sb z d (aN : Int) (wN : Int) (.returned (.tuple #[.int .i64 (k : Int), .bool true])) w') := Lib.hid (fun w' z' hl => by
        refine ⟨by unfold Dq.gone; rw [if_pos hmay, hmay, hk]; rfl, z', ?_⟩
        unfold Dq.acks
        rw [if_pos hmay]
        exact hl)
      have HMD := Lib.hid (fun (w0 : World) (H0 : Sd base w0 sb z d) (v3 : Value) (w5 : World) (h : Mid base w0 sb z d k v3 u w5) => fun (w6 : World) (v6 : Value) (l6 : List Rn) => h.done H0 (w6 := w6) (v6 := v6) (l6 := l6) hmay hk hu9 hcap)
      have HKB : Hid (k ≤ d.held ∧ d.held ≤ 1099511627776) := Lib.hid (by omega)
      have HIK : Hid (isI u) := Lib.hid (by unfold isI; omega)
      have hg1 : ¬ ((wN : Int) < 0) := by omega
      have hg2 : ¬ ((65535 : Int) < (wN : Int)) := by omega
      have hdn : (d.ack aN wN).done = (d.done || decide (d.fin < aN)) := rfl
      have HDN := Lib.hid hdn
      have hgt : decide ((d.fin : Int) < (aN : Int)) = decide (d.fin < aN) := by
        by_cases h : d.fin < aN
        · rw [decide_eq_true h, decide_eq_true (by omega)]
        · rw [decide_eq_false h, decide_eq_false (by omega)]
      clear hu9 hmy hmay hmi hn hok hu hu2 hw2 hk hdn hcap hwin ha hwi H hA
      unfold ptr at HM ⊢
      go_enter Try.func19, Try.ntmps19
      go_wp2_with fail
      refine (HM.out).mono ?_
      rintro e w1 ⟨rfl, b1⟩
      have HB1 := Lib.hid b1
      have HE1 := Lib.hid (end_sd (HH.out.below b1))
      unfold ptr at HE1
      clear b1 HM
      go_wp2_with fail
      refine (HE1.out).mono ?_
      rintro e w2 ⟨rfl, b2⟩
      have HB2 := Lib.hid (HB1.out.trans (b2.mono HB1.out.size))
      have HS2 := Lib.hid (HH.out.below HB2.out)
      clear b2 HE1 HB1
      obtain ⟨dA, dc, hdv, -⟩ := HS2.out.dv
      have e1 : w2.cell? ⟨sb, 1, none⟩ = some (.slice dA d.held dc) := by rw [← hdv]; exact HS2.out.cell 1
      have e2 : w2.cell? ⟨sb, 2, none⟩ = some (.int .i64 (d.una : Int)) := HS2.out.cell 2
      have HDE : Hid (Calls Try.prog 37 #[.slice dA d.held dc, .int .i64 0, .int .i64 (k : Int)] w2 (DelP base w2 z.dv d.held k (d.all.drop (d.una - 1)))) := by rw [← hdv]; exact Lib.hid (delete_any HS2.out.data HKB.out.1 HKB.out.2)
      clear hdv
      generalize hhd : d.held = hd at *
      have HHD := Lib.hid hhd
      clear hhd
      go_wp2_with fail
      refine (HDE.out).mono ?_
      rintro e w3 ⟨v3, rfl, r3, c3, o3⟩
      have MID := Lib.hid (HS2.out.mid u (k := k) (by rw [HHD.out]; exact r3) c3 o3)
      have hne := HS2.out.apart.2.1
      have e31 := c3.cell e1 hne
      have e32 := c3.cell e2 hne
      have e3f : ∀ j, w3.frozen? ⟨sb, j, none⟩ = false := fun j => (World.frozen?_of_block (c3.block sb HS2.out.lt hne)).trans (HS2.out.fz j)
      obtain ⟨A3, c3', rfl, -, -⟩ := RB.of_own r3
      clear r3 c3 o3 hne e1 e2 HDE
      generalize hd - k = hk3 at *
      go_upto_region 7 with (fail)
      generalize (w3.setCell ⟨sb, 1, none⟩ (.slice A3 hk3 c3')).setCell ⟨sb, 2, none⟩ (.int .i64 u) = w5 at *
      clear e31 e32 e3f
      have x0 : w5.drew.cell? ⟨sb, 0, none⟩ = some (ptr z.ob) := MID.out.cell 0
      have x2 : w5.drew.cell? ⟨sb, 2, none⟩ = some (.int .i64 u) := MID.out.cell 2
      have HDR := Lib.hid (Drop_any (w := w5.drew) (MID.out.st.below (Below.refl _ _).drew) HIK.out)
      have HAP : Hid (sb ≠ z.ob ∧ z.lv.ownBlock ≠ some sb) := Lib.hid ⟨fun e => HS2.out.apart.1 e.symm, HS2.out.apart.2.2.1⟩
      unfold ptr at x0 HDR
      generalize hob : z.ob = ob at *
      go_region_held3 (fun V => V.cell? ⟨sb, 0, none⟩ = some (.pointer (some ⟨ob, 0, none⟩)) ∧ V.cell? ⟨sb, 2, none⟩ = some (.int .i64 u))
        (first | exact ⟨x0, x2⟩ | exact ⟨x6.1, x6.2⟩)
        (first | (go_at_call 32; refine (HDR.out).mono ?_; rintro e w6 ⟨v6, l6, rfl, s6, d6, -, c6, o6⟩; generalize many z.l - many l6 = dm at *; have x6 : w6.cell? ⟨sb, 0, none⟩ = some (.pointer (some ⟨ob, 0, none⟩)) ∧ w6.cell? ⟨sb, 2, none⟩ = some (.int .i64 u) := ⟨c6.cell x0 (fun e => e.elim HAP.out.1 HAP.out.2), c6.cell x2 (fun e => e.elim HAP.out.1 HAP.out.2)⟩))
      subst hob
      have c6w : Ch w5 w6 (fun g => g = z.ob ∨ z.lv.ownBlock = some g) := ⟨c6.os, c6.tape, c6.output, c6.size, c6.block⟩
      obtain ⟨y4, y6, yf, hl⟩ := HMD.out w2 HS2.out _ w5 MID.out w6 v6 l6 s6 d6 c6w o6
      have HL := Lib.hid ((hl.ahead HB2.out (fun g hg => (HH.out.in_ hg).2)))
      clear hl s6 d6 c6 c6w o6 x6 x0 x2 MID HDR HMD HIK HS2 HB2
      generalize hen : (d.ack aN wN).edge = en at *
      have HDD := Lib.hid HDN.out
      rw [HDD.out] at HL
      clear hen
      cases hdo : d.done with
      | true =>
        rw [hdo] at y6 HL
        rw [Bool.true_or] at HL
        clear hdo HDD HDN
        go_wp2_with fail
        go_ret2
        exact HP.out _ _ HL.out
      | false =>
        rw [hdo] at y6 HL
        rw [Bool.false_or] at HL
        clear hdo HDD HDN
        go_wp2_with fail
        go_ret2
        exact HP.out _ _ HL.out
    · have HF := Lib.hid (fun (w' : World) (b : Below w.heap.size w w') => ack_no H (a := a) (win := win) (by rw [hmy, hA, decide_eq_false hwin]; rfl) b)
      unfold ptr at *
      clear hmy H HH
      by_cases h1 : win < 0
      · go_enter Try.func19, Try.ntmps19
        go_wp2_with fail
        refine (HM.out).mono ?_
        rintro e w1 ⟨rfl, b1⟩
        have HB1 := Lib.hid b1
        clear b1
        go_wp2_with fail
        go_ret2
        exact HF.out _ HB1.out
      · have h2 : (65535 : Int) < win := by omega
        go_enter Try.func19, Try.ntmps19
        go_wp2_with fail
        refine (HM.out).mono ?_
        rintro e w1 ⟨rfl, b1⟩
        have HB1 := Lib.hid b1
        clear b1
        go_wp2_with fail
        go_ret2
        exact HF.out _ HB1.out
end
end Go.Proofs.Ytgcblajhdebigaa

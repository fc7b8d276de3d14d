/- The contract of hearAck. Conditions: the flow stands, its numbers within their bounds; what is told of what was heard stands too, apart from the flow. -/
import Derived.Test.YtnpkmkjenlhkiaaMg13
namespace Go.Proofs.Ytnpkmkjenlhkiaa
set_option linter.unusedVariables false
set_option linter.unusedSimpArgs false
set_option maxRecDepth 20000
open Go.RowKit Go.Lib

def F.lin (x : F) (t : Int) : F := { x with st := 9, df := t, dw := 8 }
/-- What it leads to that a Fin is acknowledged; that a piece is. -/
def F.fina (x : F) (t : Int) : F := if x.st = 4 then x.at_ 5 else if x.st = 7 then x.lin t else if x.st = 8 then x.fin_ 10 else x
def F.hk1 (x : F) (k : Ky) (t : Int) : F := if k.syn = true ∧ x.st = 2 then x.at_ 3 else if k.fin = true then x.fina t else x
def F.hks (x : F) (ks : List Ky) (t : Int) : F := ks.foldl (fun y k => y.hk1 k t) x
def F.hack (x : F) (a : Nat) (t : Int) : F := (x.acked a t).hks (x.gone a) t
theorem hks_nil (x : F) (t : Int) : x.hks [] t = x := rfl
theorem hks_snoc (x : F) (ks : List Ky) (k : Ky) (t : Int) : x.hks (ks ++ [k]) t = (x.hks ks t).hk1 k t := by unfold F.hks; rw [List.foldl_append]; rfl
theorem fina_fc (x : F) (t : Int) (qb : Nat) (v : Value) : (x.fc qb v).fina t = (x.fina t).fc qb v := by
  unfold Fc.fina F.fina
  show (if x.st = 4 then _ else if x.st = 7 then _ else if x.st = 8 then _ else _) = _
  by_cases h1 : x.st = 4
  · rw [if_pos h1, if_pos h1]; rfl
  · rw [if_neg h1, if_neg h1]
    by_cases h2 : x.st = 7
    · rw [if_pos h2, if_pos h2]; rfl
    · rw [if_neg h2, if_neg h2]
      by_cases h3 : x.st = 8
      · rw [if_pos h3, if_pos h3]; rfl
      · rw [if_neg h3, if_neg h3]
theorem fina_same (x : F) (t : Int) : (x.fina t).b = x.b ∧ (x.fina t).ks = x.ks ∧ (x.fina t).en = x.en ∧ (x.fina t).os = x.os ∧ (x.fina t).rcv = x.rcv := by
  unfold F.fina
  by_cases h1 : x.st = 4
  · rw [if_pos h1]; exact ⟨rfl, rfl, rfl, rfl, rfl⟩
  · rw [if_neg h1]
    by_cases h2 : x.st = 7
    · rw [if_pos h2]; exact ⟨rfl, rfl, rfl, rfl, rfl⟩
    · rw [if_neg h2]
      by_cases h3 : x.st = 8
      · rw [if_pos h3]; exact ⟨rfl, rfl, rfl, rfl, rfl⟩
      · rw [if_neg h3]; exact ⟨rfl, rfl, rfl, rfl, rfl⟩
/-- What a call on a flow leaves that writes what it heard into block hb. -/
def LeftH (base : Nat) (w : World) (s : Sh) (x' : F) (hb : Nat) (w' : World) : Prop :=
  ∃ s' : Sh, s'.fb = s.fb ∧ Fl base w' s' x' ∧ Ch w w' (fun g => s.T g ∨ g = hb) ∧ ∀ g, s'.T g → s.T g ∨ w.heap.size ≤ g
section
variable {base : Nat} {w w' : World} {s : Sh} {x : F}
theorem Fl.fina_ {e : Ending} {t : Int} (h : Fl base w s x) (d : Did w s.fb ((x.fc s.qb s.ov).fina t) e w') : Fl base w' s (x.fina t) ∧ Ch w w' (fun g => g = s.fb) := by
  have k := fina_same x t
  exact ⟨h.did d.2.1 d.2.2 (fina_fc x t _ _) k.1 k.2.1 k.2.2.1 k.2.2.2.1 (by rw [k.2.2.2.2]; exact h.rcv), d.2.2⟩
/-- Within the loop: the flow, the pieces, what was heard. -/
structure Hk (base m : Nat) (w1 : World) (s : Sh) (y : F) (hb : Nat) (op : Bool) (v : Value) (n : Nat) (qs : List Pc) (wr : World) : Prop where
  fl : Fl base wr s y
  ch : Ch w1 wr (fun g => g = s.fb ∨ g = hb)
  ow : wr.ownsRow m 52 6 v n (pv qs)
  hd : Own wr hb (hv op false false false false v)
theorem Hk.below {m : Nat} {w1 wr w5 : World} {y : F} {hb : Nat} {op : Bool} {v : Value} {n : Nat} {qs : List Pc} (h : Hk base m w1 s y hb op v n qs wr) (b : Below wr.heap.size wr w5) : Hk base m w1 s y hb op v n qs w5 :=
  ⟨h.fl.below b, h.ch.trans (Ch.of_below (fun _ => False) b) (fun _ _ e => e) (fun _ _ e => e.elim), own_below h.ow b, h.hd.below b⟩
theorem Hk.step {m : Nat} {w1 wr w5 : World} {y y' : F} {hb : Nat} {op : Bool} {v : Value} {n : Nat} {qs : List Pc} (h : Hk base m w1 s y hb op v n qs wr) (hm : s.fb < m) (hne : hb ≠ s.fb) (f : Fl base w5 s y') (c : Ch wr w5 (fun g => g = s.fb)) : Hk base m w1 s y' hb op v n qs w5 :=
  ⟨f, h.ch.trans c (fun _ _ e => e) (fun _ _ e => .inl e), own_ch2 h.ow c (fun g hg e => by have := (own_in h.ow hg).1; omega), h.hd.ch (by show 0 < 6; omega) c hne⟩
theorem Hk.opened {m : Nat} {w1 wr : World} {y : F} {hb : Nat} {op : Bool} {v : Value} {n : Nat} {qs : List Pc} (h : Hk base m w1 s y hb op v n qs wr) (hb2 : ¬ s.T hb) (hm : hb < m) : Hk base m w1 s y hb true v n qs (wr.setCell ⟨hb, 0, none⟩ (.bool true)) := by
  have c : Ch wr (wr.setCell ⟨hb, 0, none⟩ (.bool true)) (fun g => g = hb) := ch_set _ _ _ _
  exact ⟨h.fl.frame c (fun g hg e => hb2 (e ▸ hg)), h.ch.trans c (fun _ _ e => e) (fun _ _ e => .inr e), own_ch2 h.ow c (fun g hg e => by have := (own_in h.ow hg).1; omega), h.hd.set 0 (by show 0 < 6; omega) _⟩
set_option maxHeartbeats 6400000 in
theorem hearAck_any (h : Fl base w s x) (a : Nat) (ha : a < 4294967296) (hb : Nat) (hd0 : Own w hb hz) (hbt : ¬ s.T hb) (hto : tot x.ks ≤ 2147483648) (hl : x.ks.length ≤ 1073741824) (hd : ∀ k ∈ x.ks, k.ds.length ≤ 1099511627776) (hE : x.E.Ok) (hbg : 0 ≤ x.bg ∧ x.bg ≤ 1152921504606846976) (t : Int) (h0 : 0 ≤ t ∧ t ≤ 1152921504606846976) :
    Calls Try.prog 43 #[ptr s.fb, .int .u32 (a : Int), .int .i64 t, ptr hb] w fun e w' => e = .returned (.tuple #[]) ∧ LeftH base w s (x.hack a t) hb w' ∧ ∃ op A n c, Own w' hb (hv op false false false false (.slice A n c)) := by
  have H := Lib.hid h
  have HA := Lib.hid (acknowledge_any h a ha hto hl hd hE hbg t h0)
  have hfb := h.fa.lt
  have HLB := Lib.hid (hd0.lt (by decide))
  have HBT := Lib.hid hbt
  have HD0 := Lib.hid hd0
  unfold AcP at HA
  unfold F.hack
  generalize x.acked a t = X at *
  generalize x.gone a = gs at *
  clear h hto hl hd hE hbg h0 hbt hd0
  unfold ptr at *
  go_enter Try.func43, Try.ntmps43
  go_wp2_with fail
  refine HA.out.mono ?_
  rintro e w1 ⟨vo, rfl, ⟨qs, hq1, hq2, hq3⟩, l1⟩
  obtain ⟨A, c, rfl, hc1, hc2⟩ := own_slice hq1
  have y1 := l1.own HD0.out (by decide) HBT.out
  obtain ⟨s1, e1, f1, C1, n1⟩ := l1
  obtain ⟨fb1, qb1, v1, l1, u1, ol1⟩ := s1
  dsimp only at e1
  subst e1
  have hbt1 : ¬ (⟨s.fb, qb1, v1, l1, u1, ol1⟩ : Sh).T hb := fun e => by
    rcases n1 _ e with h | h
    · exact HBT.out h
    · have := HLB.out
      omega
  have HB1 := Lib.hid hbt1
  have hne : hb ≠ s.fb := fun e => hbt1 (.inl e)
  have HX := Lib.hid (And.intro C1 n1)
  have cs : Ch w1 (w1.setCell ⟨hb, 5, none⟩ (.slice A gs.length c)) (fun g => g = hb) := ch_set _ _ _ _
  have HK : Hid (Hk base w.heap.size w1 ⟨s.fb, qb1, v1, l1, u1, ol1⟩ (X.hks (gs.take 0) t) hb false (.slice A gs.length c) gs.length qs (w1.setCell ⟨hb, 5, none⟩ (.slice A gs.length c))) :=
    Lib.hid ⟨by rw [List.take_zero, hks_nil]; exact f1.frame cs (fun g hg e => hbt1 (e ▸ hg)), cs.mono (fun _ _ e => .inr e), own_ch2 hq1 cs (fun g hg e => by have := (own_in hq1 hg).1; have := HLB.out; omega), y1.set 5 (by decide) _⟩
  have HQ := Lib.hid hq2
  have k5 : w1.cell? ⟨hb, 5, none⟩ = some (.slice none 0 0) := (y1 5 (by decide)).1
  have g5 : w1.frozen? ⟨hb, 5, none⟩ = false := (y1 5 (by decide)).2
  clear hq1 hq2 hq3 f1 C1 n1 y1 HA cs hbt1
  generalize hnn : gs.length = n at *
  have HNN := Lib.hid hnn
  clear hnn
  go_wp2_with fail
  have HK2 := Lib.hid (show ∃ (j : Nat) (op : Bool), j ≤ n ∧ (0 : Int) = (j : Int) ∧ Hk base w.heap.size w1 ⟨s.fb, qb1, v1, l1, u1, ol1⟩ (X.hks (gs.take j) t) hb op (.slice A n c) n qs (w1.setCell ⟨hb, 5, none⟩ (.slice A n c)) from ⟨0, false, Nat.zero_le _, rfl, HK.out⟩)
  clear k5 g5 HK
  generalize w1.setCell ⟨hb, 5, none⟩ (.slice A n c) = w2 at *
  go_loopw [22] (fun i wr => ∃ (j : Nat) (op : Bool), j ≤ n ∧ i = .int .i64 (j : Int) ∧ Hk base w.heap.size w1 ⟨s.fb, qb1, v1, l1, u1, ol1⟩ (X.hks (gs.take j) t) hb op (.slice A n c) n qs wr) (fun i _ => n - (intOf i).toNat)
  case atStart =>
    obtain ⟨j, op, h1, h2, h3⟩ := HK2.out
    exact ⟨j, op, h1, by rw [← h2], h3⟩
  case round =>
    obtain ⟨j, op, hj, rfl, hk⟩ := hrel
    by_cases hlt : j < n
    · obtain ⟨g, cap, hv0, hgb, hgl⟩ := hk.ow.form (by omega)
      injection hv0 with hA hn1 hc
      subst hA hc
      have hr := own_rangeP (j := j) (n := n) hk.ow hlt
      have HKK := Lib.hid hk
      have hql : qs.length = n := by rw [← HNN.out, ← HQ.out, List.length_map]
      have htk : gs.take (j + 1) = gs.take j ++ [(qs.getD j zP).key] := by
        rw [List.take_succ_eq_append_getElem (by rw [HNN.out]; exact hlt)]
        have h1 : (qs.map Pc.key)[j]'(by rw [List.length_map]; omega) = gs[j]'(by rw [HNN.out]; exact hlt) := by simp only [HQ.out]
        rw [← h1, List.getElem_map, List.getD_eq_getElem?_getD, List.getElem?_eq_getElem (by omega)]
        rfl
      have hst : X.hks (gs.take (j + 1)) t = (X.hks (gs.take j) t).hk1 (qs.getD j zP).key t := by rw [htk, hks_snoc]
      have HST := Lib.hid hst
      clear hst htk hql hk
      generalize qs.getD j zP = p at *
      generalize X.hks (gs.take j) t = y at *
      obtain ⟨psq, psy, pfi, pA, pn, pc, pdsn, pla, pds⟩ := p
      have HFin := Lib.hid (fun (W : World) (f : Fl base W ⟨s.fb, qb1, v1, l1, u1, ol1⟩ y) => finAcked_any f.fa t)
      unfold ptr at HFin
      dsimp only at HFin
      cases psy with
      | true =>
        by_cases hy2 : y.st = 2
        · cases pfi
          · as_aux_lemma =>
              have HEQ : Hid (y.hk1 ⟨psq, true, false, pdsn, pla, pds⟩ t = y.at_ 3) := Lib.hid (if_pos ⟨rfl, hy2⟩)
              dsimp only [Pc.key] at HST
              go_wp2_with (first
                | ((with_reducible refine wpList_here ?_); refine wpList_loadV (o := ⟨some 25, _, _, _, _, _⟩) rfl 52 (.tmp 24) rfl _ _ (Pc.vals ⟨psq, true, false, pA, pn, pc, pdsn, pla, pds⟩) rfl hr _ Try.underlying52 rfl infoPc ?_)
                | ((with_reducible refine wpList_here ?_); refine wpList_allocV (o := ⟨some 9, _, _, _, _, _⟩) rfl 52 rfl zP.vals zeroPc _ rfl ?_; intro w4 z4 b4 s4)
                | ((with_reducible refine wpList_here ?_); refine wpList_storeV rfl 52 (.tmp 9) (.tmp 25) rfl _ _ (Pc.vals ⟨psq, true, false, pA, pn, pc, pdsn, pla, pds⟩) rfl rfl z4 rfl (pc_one _) infoPc ?_; intro w5 z5 g5 s5; have HK5 := Lib.hid (HKK.out.below (v_below_g b4 g5 b4.size (Nat.le_refl _))); have k1 : w5.cell? ⟨wr.heap.size, 1, none⟩ = some (.bool true) := (z5 1 (by show 1 < 6; omega)).1; have k2 : w5.cell? ⟨wr.heap.size, 2, none⟩ = some (.bool false) := (z5 2 (by show 2 < 6; omega)).1; have k5 : w5.cell? ⟨s.fb, 5, none⟩ = some (.int .i64 2) := by { have := HK5.out.fl.fa.c5; dsimp only [F.fc] at this; rw [hy2] at this; exact this }; have f5 := HK5.out.fl.fa.fz 5; have ko := (HK5.out.hd 0 (by show 0 < 6; omega)); have ko1 : w5.cell? ⟨hb, 0, none⟩ = some (.bool op) := ko.1; have ko2 := ko.2; dsimp only at f5; clear z4 b4 g5 z5)
                | fail)
              have HK6 := Lib.hid (HK5.out.step hfb hne (HK5.out.fl.st_ 3).1 (HK5.out.fl.st_ 3).2)
              have HK7 := Lib.hid (HK6.out.opened HB1.out HLB.out)
              go_roundw
              case rel => exact ⟨j + 1, true, by omega, by go_num, by rw [HST.out, HEQ.out]; exact HK7.out⟩
              case measure => simp [intOf]; omega
          · as_aux_lemma =>
              have HEQ : Hid (y.hk1 ⟨psq, true, true, pdsn, pla, pds⟩ t = y.at_ 3) := Lib.hid (if_pos ⟨rfl, hy2⟩)
              dsimp only [Pc.key] at HST
              go_wp2_with (first
                | ((with_reducible refine wpList_here ?_); refine wpList_loadV (o := ⟨some 25, _, _, _, _, _⟩) rfl 52 (.tmp 24) rfl _ _ (Pc.vals ⟨psq, true, true, pA, pn, pc, pdsn, pla, pds⟩) rfl hr _ Try.underlying52 rfl infoPc ?_)
                | ((with_reducible refine wpList_here ?_); refine wpList_allocV (o := ⟨some 9, _, _, _, _, _⟩) rfl 52 rfl zP.vals zeroPc _ rfl ?_; intro w4 z4 b4 s4)
                | ((with_reducible refine wpList_here ?_); refine wpList_storeV rfl 52 (.tmp 9) (.tmp 25) rfl _ _ (Pc.vals ⟨psq, true, true, pA, pn, pc, pdsn, pla, pds⟩) rfl rfl z4 rfl (pc_one _) infoPc ?_; intro w5 z5 g5 s5; have HK5 := Lib.hid (HKK.out.below (v_below_g b4 g5 b4.size (Nat.le_refl _))); have k1 : w5.cell? ⟨wr.heap.size, 1, none⟩ = some (.bool true) := (z5 1 (by show 1 < 6; omega)).1; have k2 : w5.cell? ⟨wr.heap.size, 2, none⟩ = some (.bool true) := (z5 2 (by show 2 < 6; omega)).1; have k5 : w5.cell? ⟨s.fb, 5, none⟩ = some (.int .i64 2) := by { have := HK5.out.fl.fa.c5; dsimp only [F.fc] at this; rw [hy2] at this; exact this }; have f5 := HK5.out.fl.fa.fz 5; have ko := (HK5.out.hd 0 (by show 0 < 6; omega)); have ko1 : w5.cell? ⟨hb, 0, none⟩ = some (.bool op) := ko.1; have ko2 := ko.2; dsimp only at f5; clear z4 b4 g5 z5)
                | fail)
              have HK6 := Lib.hid (HK5.out.step hfb hne (HK5.out.fl.st_ 3).1 (HK5.out.fl.st_ 3).2)
              have HK7 := Lib.hid (HK6.out.opened HB1.out HLB.out)
              go_roundw
              case rel => exact ⟨j + 1, true, by omega, by go_num, by rw [HST.out, HEQ.out]; exact HK7.out⟩
              case measure => simp [intOf]; omega
        · have n2 : ((y.st : Int) == 2) = false := by rw [beq_eq_false_iff_ne]; omega
          have n3 : ¬ (y.st : Int) = 2 := by omega
          cases pfi
          · as_aux_lemma =>
              have HEQ : Hid (y.hk1 ⟨psq, true, false, pdsn, pla, pds⟩ t = y) := Lib.hid (by unfold F.hk1; rw [if_neg (fun e => hy2 e.2)]; exact if_neg (fun e => by cases e))
              dsimp only [Pc.key] at HST
              go_wp2_with (first
                | ((with_reducible refine wpList_here ?_); refine wpList_loadV (o := ⟨some 25, _, _, _, _, _⟩) rfl 52 (.tmp 24) rfl _ _ (Pc.vals ⟨psq, true, false, pA, pn, pc, pdsn, pla, pds⟩) rfl hr _ Try.underlying52 rfl infoPc ?_)
                | ((with_reducible refine wpList_here ?_); refine wpList_allocV (o := ⟨some 9, _, _, _, _, _⟩) rfl 52 rfl zP.vals zeroPc _ rfl ?_; intro w4 z4 b4 s4)
                | ((with_reducible refine wpList_here ?_); refine wpList_storeV rfl 52 (.tmp 9) (.tmp 25) rfl _ _ (Pc.vals ⟨psq, true, false, pA, pn, pc, pdsn, pla, pds⟩) rfl rfl z4 rfl (pc_one _) infoPc ?_; intro w5 z5 g5 s5; have HK5 := Lib.hid (HKK.out.below (v_below_g b4 g5 b4.size (Nat.le_refl _))); have k1 : w5.cell? ⟨wr.heap.size, 1, none⟩ = some (.bool true) := (z5 1 (by show 1 < 6; omega)).1; have k2 : w5.cell? ⟨wr.heap.size, 2, none⟩ = some (.bool false) := (z5 2 (by show 2 < 6; omega)).1; have k5 : w5.cell? ⟨s.fb, 5, none⟩ = some (.int .i64 (y.st : Int)) := by { have := HK5.out.fl.fa.c5; dsimp only [F.fc] at this; exact this }; have f5 := HK5.out.fl.fa.fz 5; have ko := (HK5.out.hd 0 (by show 0 < 6; omega)); have ko1 : w5.cell? ⟨hb, 0, none⟩ = some (.bool op) := ko.1; have ko2 := ko.2; dsimp only at f5; clear z4 b4 g5 z5)
                | fail)
              go_roundw
              case rel => exact ⟨j + 1, op, by omega, by go_num, by rw [HST.out, HEQ.out]; exact HK5.out⟩
              case measure => simp [intOf]; omega
          · as_aux_lemma =>
              have HEQ : Hid (y.hk1 ⟨psq, true, true, pdsn, pla, pds⟩ t = y.fina t) := Lib.hid (by unfold F.hk1; rw [if_neg (fun e => hy2 e.2)]; exact if_pos rfl)
              dsimp only [Pc.key] at HST
              go_wp2_with (first
                | ((with_reducible refine wpList_here ?_); refine wpList_loadV (o := ⟨some 25, _, _, _, _, _⟩) rfl 52 (.tmp 24) rfl _ _ (Pc.vals ⟨psq, true, true, pA, pn, pc, pdsn, pla, pds⟩) rfl hr _ Try.underlying52 rfl infoPc ?_)
                | ((with_reducible refine wpList_here ?_); refine wpList_allocV (o := ⟨some 9, _, _, _, _, _⟩) rfl 52 rfl zP.vals zeroPc _ rfl ?_; intro w4 z4 b4 s4)
                | ((with_reducible refine wpList_here ?_); refine wpList_storeV rfl 52 (.tmp 9) (.tmp 25) rfl _ _ (Pc.vals ⟨psq, true, true, pA, pn, pc, pdsn, pla, pds⟩) rfl rfl z4 rfl (pc_one _) infoPc ?_; intro w5 z5 g5 s5; have HK5 := Lib.hid (HKK.out.below (v_below_g b4 g5 b4.size (Nat.le_refl _))); have k1 : w5.cell? ⟨wr.heap.size, 1, none⟩ = some (.bool true) := (z5 1 (by show 1 < 6; omega)).1; have k2 : w5.cell? ⟨wr.heap.size, 2, none⟩ = some (.bool true) := (z5 2 (by show 2 < 6; omega)).1; have k5 : w5.cell? ⟨s.fb, 5, none⟩ = some (.int .i64 (y.st : Int)) := by { have := HK5.out.fl.fa.c5; dsimp only [F.fc] at this; exact this }; have f5 := HK5.out.fl.fa.fz 5; have ko := (HK5.out.hd 0 (by show 0 < 6; omega)); have ko1 : w5.cell? ⟨hb, 0, none⟩ = some (.bool op) := ko.1; have ko2 := ko.2; dsimp only at f5; clear z4 b4 g5 z5)
                | (go_at_call 61; refine (HFin.out _ HK5.out.fl).mono ?_; rintro e w6 d6; obtain rfl := d6.1; have h6 := HK5.out.fl.fina_ d6; have HK6 := Lib.hid (HK5.out.step hfb hne h6.1 h6.2); clear d6 h6)
                | fail)
              go_roundw
              case rel => exact ⟨j + 1, op, by omega, by go_num, by rw [HST.out, HEQ.out]; exact HK6.out⟩
              case measure => simp [intOf]; omega
      | false =>
        cases pfi
        · as_aux_lemma =>
            have HEQ : Hid (y.hk1 ⟨psq, false, false, pdsn, pla, pds⟩ t = y) := Lib.hid (by unfold F.hk1; rw [if_neg (fun e => by cases e.1)]; exact if_neg (fun e => by cases e))
            dsimp only [Pc.key] at HST
            go_wp2_with (first
              | ((with_reducible refine wpList_here ?_); refine wpList_loadV (o := ⟨some 25, _, _, _, _, _⟩) rfl 52 (.tmp 24) rfl _ _ (Pc.vals ⟨psq, false, false, pA, pn, pc, pdsn, pla, pds⟩) rfl hr _ Try.underlying52 rfl infoPc ?_)
              | ((with_reducible refine wpList_here ?_); refine wpList_allocV (o := ⟨some 9, _, _, _, _, _⟩) rfl 52 rfl zP.vals zeroPc _ rfl ?_; intro w4 z4 b4 s4)
              | ((with_reducible refine wpList_here ?_); refine wpList_storeV rfl 52 (.tmp 9) (.tmp 25) rfl _ _ (Pc.vals ⟨psq, false, false, pA, pn, pc, pdsn, pla, pds⟩) rfl rfl z4 rfl (pc_one _) infoPc ?_; intro w5 z5 g5 s5; have HK5 := Lib.hid (HKK.out.below (v_below_g b4 g5 b4.size (Nat.le_refl _))); have k1 : w5.cell? ⟨wr.heap.size, 1, none⟩ = some (.bool false) := (z5 1 (by show 1 < 6; omega)).1; have k2 : w5.cell? ⟨wr.heap.size, 2, none⟩ = some (.bool false) := (z5 2 (by show 2 < 6; omega)).1; clear z4 b4 g5 z5)
              | fail)
            go_roundw
            case rel => exact ⟨j + 1, op, by omega, by go_num, by rw [HST.out, HEQ.out]; exact HK5.out⟩
            case measure => simp [intOf]; omega
        · as_aux_lemma =>
            have HEQ : Hid (y.hk1 ⟨psq, false, true, pdsn, pla, pds⟩ t = y.fina t) := Lib.hid (by unfold F.hk1; rw [if_neg (fun e => by cases e.1)]; exact if_pos rfl)
            dsimp only [Pc.key] at HST
            go_wp2_with (first
              | ((with_reducible refine wpList_here ?_); refine wpList_loadV (o := ⟨some 25, _, _, _, _, _⟩) rfl 52 (.tmp 24) rfl _ _ (Pc.vals ⟨psq, false, true, pA, pn, pc, pdsn, pla, pds⟩) rfl hr _ Try.underlying52 rfl infoPc ?_)
              | ((with_reducible refine wpList_here ?_); refine wpList_allocV (o := ⟨some 9, _, _, _, _, _⟩) rfl 52 rfl zP.vals zeroPc _ rfl ?_; intro w4 z4 b4 s4)
              | ((with_reducible refine wpList_here ?_); refine wpList_storeV rfl 52 (.tmp 9) (.tmp 25) rfl _ _ (Pc.vals ⟨psq, false, true, pA, pn, pc, pdsn, pla, pds⟩) rfl rfl z4 rfl (pc_one _) infoPc ?_; intro w5 z5 g5 s5; have HK5 := Lib.hid (HKK.out.below (v_below_g b4 g5 b4.size (Nat.le_refl _))); have k1 : w5.cell? ⟨wr.heap.size, 1, none⟩ = some (.bool false) := (z5 1 (by show 1 < 6; omega)).1; have k2 : w5.cell? ⟨wr.heap.size, 2, none⟩ = some (.bool true) := (z5 2 (by show 2 < 6; omega)).1; clear z4 b4 g5 z5)
              | (go_at_call 61; refine (HFin.out _ HK5.out.fl).mono ?_; rintro e w6 d6; obtain rfl := d6.1; have h6 := HK5.out.fl.fina_ d6; have HK6 := Lib.hid (HK5.out.step hfb hne h6.1 h6.2); clear d6 h6)
              | fail)
            go_roundw
            case rel => exact ⟨j + 1, op, by omega, by go_num, by rw [HST.out, HEQ.out]; exact HK6.out⟩
            case measure => simp [intOf]; omega
    · obtain rfl : j = n := by omega
      have HKE : Hid (Hk base w.heap.size w1 ⟨s.fb, qb1, v1, l1, u1, ol1⟩ (X.hks gs t) hb op (.slice A j c) j qs wr) := Lib.hid (by
        have := hk
        rw [List.take_of_length_le (by rw [HNN.out]; exact Nat.le_refl _)] at this
        exact this)
      clear hk
      go_wp2_with fail
      go_end0
      refine ⟨rfl, ⟨⟨s.fb, qb1, v1, l1, u1, ol1⟩, rfl, HKE.out.fl, HX.out.1.trans HKE.out.ch (fun _ _ e => .inl e) (fun g _ e => by rcases e with e | e; exact .inl (.inl e); exact .inr e), HX.out.2⟩, op, A, j, c, HKE.out.hd⟩
end
end Go.Proofs.Ytnpkmkjenlhkiaa

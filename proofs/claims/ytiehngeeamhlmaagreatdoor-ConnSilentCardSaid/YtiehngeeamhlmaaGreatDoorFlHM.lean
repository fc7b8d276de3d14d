/- The contracts of sendAgain, and of Expire. Conditions: the flow stands, with at most 2^30 pieces and at most 2^38 to be sent; ticks between 0 and 2^60, waits between 0 and 16. -/
import Derived.Test.YtiehngeeamhlmaaGreatDoorMg9
namespace Go.Proofs.YtiehngeeamhlmaaGreatDoor.LF
set_option linter.unusedVariables false
set_option linter.unusedSimpArgs false
set_option maxRecDepth 20000
open Go.RowKit Go.Lib

/-- Pieces are told. -/
def F.tells (x : F) (ks : List Ky) : F := { x with os := x.os ++ ks.map fun k => ⟨k, x.rcv, decide (x.st ≠ 1), false⟩ }
theorem tells_nil (x : F) : x.tells [] = x := by unfold F.tells; simp
theorem tells_snoc (x : F) (ks : List Ky) (k : Ky) : (x.tells ks).tell k = x.tells (ks ++ [k]) := by unfold F.tells F.tell; simp
/-- All is sent again. -/
def F.again (x : F) (t : Int) : F := { x.tells x.ks with df := t, dw := x.E.wt, tm := false }
/-- Within sendAgain: so many pieces are told. -/
structure Ag (base : Nat) (w w1 : World) (s : Sh) (x : F) (qs : List Pc) (v : Value) (j : Nat) (u : Value) (ol : List Oc) (wr : World) : Prop where
  fl : Fl base wr { s with ov := u, ol := ol } (x.tells (x.ks.take j))
  ch : Ch w1 wr (fun g => g = s.fb ∨ s.ov.ownBlock = some g)
  nw : u.ownBlock = s.ov.ownBlock ∨ ∃ g, u.ownBlock = some g ∧ w1.heap.size ≤ g
  ou : ∀ o ∈ ol, o ∈ s.ol ∨ ∃ q ∈ qs, o.p = q
  row : wr.ownsRow w.heap.size 206 6 v x.ks.length (pv qs)
  ok : ∀ q ∈ qs, PO w.heap.size wr q
section
variable {base : Nat} {w w1 wr w5 w6 : World} {s : Sh} {x : F} {qs : List Pc} {v u : Value} {j : Nat} {ol : List Oc}
theorem Ag.below (h : Ag base w w1 s x qs v j u ol wr) (b : Below wr.heap.size wr w5) : Ag base w w1 s x qs v j u ol w5 :=
  ⟨h.fl.below b, h.ch.trans (Ch.of_below (fun _ => False) b) (fun _ _ e => e) (fun _ _ e => e.elim), h.nw, h.ou, own_below h.row b, fun q hq => (h.ok q hq).below b⟩
theorem Ag.told (h : Ag base w w1 s x qs v j u ol wr) (hq : qs.map Pc.key = x.ks) (hj : j < x.ks.length) (t : TellP base wr { s with ov := u, ol := ol } (x.tells (x.ks.take j)) (qs.getD j zP) w6) :
    ∃ u' ol', Ag base w w1 s x qs v (j + 1) u' ol' w6 := by
  have hlen : qs.length = x.ks.length := by rw [← hq, List.length_map]
  obtain ⟨u', ol', f, c, n, o⟩ := t
  have hk : (qs.getD j zP).key = x.ks[j] := by
    have h1 : (qs.map Pc.key)[j]'(by rw [List.length_map]; omega) = x.ks[j] := by simp only [hq]
    rw [← h1, List.getElem_map, List.getD_eq_getElem?_getD, List.getElem?_eq_getElem (by omega)]
    rfl
  have e : (x.tells (x.ks.take j)).tell (qs.getD j zP).key = x.tells (x.ks.take (j + 1)) := by
    rw [tells_snoc, hk, List.take_succ_eq_append_getElem hj]
  rw [e] at f
  have hne : ∀ g (cs : Array Value) (t : TypeId), wr.heap[g]? = some (.cells cs t (0, 0)) → (t = 206 ∨ t = 5) → ¬ (g = s.fb ∨ u.ownBlock = some g) := fun g cs t e1 ht e2 => by
    rcases e2 with e2 | e2
    · have h2 : wr.heap[s.fb]? = _ := h.fl.fa
      rw [← e2] at h2
      have := two_types h2 e1
      subst this
      rcases ht with ht | ht <;> exact absurd ht (by decide)
    · obtain ⟨cs', h2⟩ := ch_ownrow h.fl.row e2
      have := two_types h2 e1
      subst this
      rcases ht with ht | ht <;> exact absurd ht (by decide)
  refine ⟨u', ol', f, h.ch.trans c (fun _ _ e => e) (fun g hg e => ?_), ?_, fun y hy => ?_, own_ch2 h.row c (fun g hg => ?_), fun q hq2 => (h.ok q hq2).ch c (fun g hg => ?_)⟩
  · rcases e with e | e
    · exact .inl e
    · have e : u.ownBlock = some g := e
      rcases h.nw with h1 | ⟨g', h1, h2⟩
      · exact .inr (h1 ▸ e)
      · rw [h1] at e
        injection e with e
        omega
  · rcases n with n | ⟨g, n, hl⟩
    · have n : u'.ownBlock = u.ownBlock := n
      rw [n]
      exact h.nw
    · exact .inr ⟨g, n, Nat.le_trans h.ch.size hl⟩
  · rcases o y hy with h1 | h1
    · exact h.ou y h1
    · exact .inr ⟨_, getD_memP (by omega), h1⟩
  · obtain ⟨cs, e1⟩ := ch_ownrow h.row hg
    exact hne g cs _ e1 (.inl rfl)
  · obtain ⟨cs, e1⟩ := (h.ok q hq2).obj hg
    exact hne g cs _ e1 (.inr rfl)
theorem Ag.left (H : Fl base w s x) (b1 : Below w.heap.size w w1) (h : Ag base w w1 s x qs v x.ks.length u ol wr) : Left base w s (x.tells x.ks) wr := by
  have f := h.fl
  rw [List.take_length] at f
  refine ⟨{ s with ov := u, ol := ol }, rfl, f, (Ch.of_below _ b1).trans h.ch (fun _ _ e => e) (fun g _ e => by rcases e with e | e; exact .inl e; exact .inr (.inr (.inl e))), fun g hg => ?_⟩
  rcases hg with e | hg | hg | ⟨o, ho, hg⟩
  · exact .inl (.inl e)
  · exact .inl (.inr (.inl hg))
  · rcases h.nw with n | ⟨g', n, hl⟩
    · exact .inl (.inr (.inr (.inl (n ▸ hg))))
    · have hg : u.ownBlock = some g := hg
      rw [n] at hg
      injection hg with hg
      exact .inr (hg ▸ Nat.le_trans b1.size hl)
  · rcases h.ou o ho with h1 | ⟨q, hq, h1⟩
    · exact .inl (.inr (.inr (.inr ⟨o, h1, hg⟩)))
    · exact .inr ((h.ok q hq).lt (by rw [← h1]; exact hg)).1
end
section
variable {base : Nat} {w : World} {s : Sh} {x : F}
theorem Fl.again_ (h : Fl base w s x) (t d : Int) : Left base w s { x with df := t, dw := d, tm := false } (((w.setCell ⟨s.fb, 8, none⟩ (.int .i64 t)).setCell ⟨s.fb, 9, none⟩ (.int .i64 d)).setCell ⟨s.fb, 11, none⟩ (.bool false)) :=
  h.left (((h.fa.set 8 (.int .i64 t) { x.fc s.qb s.ov with df := t } rfl).set 9 (.int .i64 d) { x.fc s.qb s.ov with df := t, dw := d } rfl).set 11 (.bool false) { x.fc s.qb s.ov with df := t, dw := d, tm := false } rfl) (((ch_set w s.fb 8 _).set 9 _).set 11 _) rfl rfl rfl rfl rfl h.rcv
set_option maxHeartbeats 3200000 in
theorem sendAgain_any (h : Fl base w s x) (hl : x.ks.length ≤ 1073741824) (hd : ∀ k ∈ x.ks, k.ds.length ≤ 1099511627776) (hn : x.os.length ≤ 274877906944) (hE : x.E.Ok) (t : Int) (ht : isInt t) :
    Calls Tryz.prog 219 #[ptr s.fb, .int .i64 t] w fun e w' => e = .returned (.tuple #[]) ∧ Left base w s (x.again t) w' := by
  have HA := Lib.hid (All_any h.qu (by rw [h.llen]; omega) (fun p hp => by
    have := hd p.key (by rw [← h.ky]; exact List.mem_map_of_mem hp)
    have h2 := (h.qu.ok p hp).pg.data.len
    have : p.ds.length ≤ 1099511627776 := this
    omega))
  rw [h.ky] at HA
  have H := Lib.hid h
  have HL := Lib.hid hl
  have HN := Lib.hid hn
  have HE := Lib.hid hE
  have c0 := h.fa.c0
  clear h hl hd hn hE
  dsimp only [F.fc] at c0
  unfold ptr at *
  go_enter Tryz.func219, Tryz.ntmps219
  go_wp2_with fail
  refine HA.out.mono ?_
  rintro e w1 ⟨v, rfl, ⟨qs, hq1, hq2, hq3⟩, b1⟩
  obtain ⟨A, c, rfl, hc1, hc2⟩ := own_slice hq1
  have HB1 := Lib.hid b1
  have HK := Lib.hid hq2
  have HG : Hid (Ag base w w1 s x qs (.slice A x.ks.length c) 0 s.ov s.ol w1) := Lib.hid ⟨by rw [List.take_zero, tells_nil]; exact H.out.below b1, Ch.refl _ _, .inl rfl, fun o ho => .inl ho, hq1, hq3⟩
  clear hq1 hq2 hq3 b1 c0
  generalize hnn : x.ks.length = n at *
  have HNN := Lib.hid hnn
  clear hnn
  go_wp2_with fail
  go_loopw [12] (fun i wr => ∃ (j : Nat) (u : Value) (ol : List Oc), j ≤ n ∧ i = .int .i64 (j : Int) ∧ Ag base w w1 s x qs (.slice A n c) j u ol wr) (fun i _ => n - (intOf i).toNat)
  case atStart => exact ⟨0, _, _, Nat.zero_le _, rfl, HG.out⟩
  case round =>
    obtain ⟨j, u, ol, hj, rfl, hag⟩ := hrel
    by_cases hlt : j < n
    · obtain ⟨g, cap, hv, hgb, hgl⟩ := hag.row.form (by rw [HNN.out]; omega)
      rw [HNN.out] at hv
      injection hv with hA hn1 hc
      subst hA hc
      have hr := own_rangeP (j := j) (n := n) (by have := hag.row; rw [HNN.out] at this; exact this) hlt
      have HAG := Lib.hid hag
      have HTL := Lib.hid (fun (w5 : World) (b : Below wr.heap.size wr w5) => tell_any (hag.below b).fl (qs.getD j zP) (((hag.below b).ok _ (getD_memP (by
          have : qs.length = n := by rw [← HNN.out, ← HK.out, List.length_map]
          omega))).mono (by have := (H.out.in_ (.inl rfl)); omega)) (fun g hg hqb => by
            have h1 := ((hag.ok _ (getD_memP (l := qs) (j := j) (by
              have : qs.length = n := by rw [← HNN.out, ← HK.out, List.length_map]
              omega))).lt hg).1
            have h2 := (H.out.in_ (.inr (.inl hqb))).2
            omega) (by
              show (x.os ++ (x.ks.take j).map _).length ≤ _
              rw [List.length_append, List.length_map, List.length_take]
              have := HN.out
              have := HL.out
              omega))
      have HTD := Lib.hid (fun (w5 w6 : World) (b : Below wr.heap.size wr w5) => (hag.below b).told (w6 := w6) HK.out (by rw [HNN.out]; exact hlt))
      unfold ptr at HTL
      dsimp only at HTL
      clear hag
      generalize qs.getD j zP = p at *
      go_wp2_with (first
        | ((with_reducible refine wpList_here ?_); refine wpList_loadV (o := ⟨some 15, _, _, _, _, _⟩) rfl 206 (.tmp 14) rfl _ _ p.vals rfl hr _ Tryz.underlying206 rfl infoPc ?_)
        | ((with_reducible refine wpList_here ?_); refine wpList_allocV (o := ⟨some 5, _, _, _, _, _⟩) rfl 206 rfl zP.vals zeroPc _ rfl ?_; intro w4 z4 b4 s4)
        | ((with_reducible refine wpList_here ?_); refine wpList_storeV rfl 206 (.tmp 5) (.tmp 15) rfl _ _ p.vals rfl rfl z4 rfl (pc_one p) infoPc ?_; intro w5 z5 g5 s5; have b5 := v_below_g b4 g5 b4.size (Nat.le_refl _); clear z4 b4 g5)
        | ((with_reducible refine wpList_here ?_); refine wpList_loadV (o := ⟨some 17, _, _, _, _, _⟩) rfl 206 (.tmp 5) rfl _ _ p.vals rfl z5.range _ Tryz.underlying206 rfl infoPc ?_)
        | (go_at_call 213; refine (HTL.out w5 b5).mono ?_; rintro e w6 ⟨rfl, t6⟩; have HG6 := Lib.hid (HTD.out w5 w6 b5 t6); clear t6))
      go_roundw
      case rel =>
        obtain ⟨u', ol', hg6⟩ := HG6.out
        exact ⟨j + 1, u', ol', by omega, by go_num, hg6⟩
      case measure => simp [intOf]; omega
    · obtain rfl : j = n := by omega
      have hL : Left base w s (x.tells x.ks) wr := (Ag.left H.out HB1.out (by rw [HNN.out]; exact hag))
      obtain ⟨s2, e2, f2, c2, n2⟩ := hL
      have HF2 := Lib.hid f2
      have HC2 := Lib.hid (And.intro e2 (And.intro c2 n2))
      have HW := Lib.hid (Wait_any f2.fa HE.out)
      rw [e2] at HW
      unfold ptr1 at HW
      clear hag e2 f2 c2 n2
      go_wp2_with (first
        | (go_at_call 255; refine HW.out.mono ?_; rintro e w7 ⟨rfl, b7⟩; have HB7 := Lib.hid b7; have HF7 := Lib.hid (HF2.out.below b7); have d8 := HF7.out.fa.c8; have d9 := HF7.out.fa.c9; have d11 := HF7.out.fa.c11; have g8 := HF7.out.fa.fz 8; have g9 := HF7.out.fa.fz 9; have g11 := HF7.out.fa.fz 11; rw [HC2.out.1] at d8 d9 d11 g8 g9 g11; clear b7)
        | fail)
      go_end0
      have HD := HF7.out.again_ t ((x.tells x.ks).fc s2.qb s2.ov).E.wt
      rw [HC2.out.1] at HD
      exact ⟨rfl, Left.then_ HC2.out.1 HC2.out.2.1 HC2.out.2.2 (Left.then_ rfl (Ch.of_below _ HB7.out) (fun g h => .inl h) HD)⟩
end
end Go.Proofs.YtiehngeeamhlmaaGreatDoor.LF

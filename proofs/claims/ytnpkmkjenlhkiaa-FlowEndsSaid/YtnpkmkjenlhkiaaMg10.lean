/- The contracts of sendAgain, and of Expire. Conditions: the flow stands, with at most 2^30 pieces and at most 2^38 to be sent; ticks between 0 and 2^60, waits between 0 and 16.
The contract of Expire. Conditions: the flow stands, with at most 2^30 pieces and at most 2^38 to be sent; ticks between 0 and 2^60. -/
import Derived.Test.YtnpkmkjenlhkiaaMg9
namespace Go.Proofs.Ytnpkmkjenlhkiaa
set_option linter.unusedVariables false
set_option linter.unusedSimpArgs false
set_option maxRecDepth 20000
open Go.RowKit Go.Lib

/-- Pieces are told. -/
def F.tells (x : F) (ks : List Ky) : F := { x with os := x.os ++ ks.map fun k => ⟨k, x.rcv, decide (x.st ≠ 1), false⟩ }
theorem tells_nil (x : F) : x.tells [] = x := by unfold F.tells; simp
theorem tells_snoc (x : F) (ks : List Ky) (k : Ky) : (x.tells ks).tell k = x.tells (ks ++ [k]) := by unfold F.tells F.tell; simp
/-- All is sent again. -/
def F.again (x : F) (t : Int) : F := { x.tells x.ks with df := t, dw := x.E.wt, tm := false }
/-- Within sendAgain: so many pieces are told. -/
structure Ag (base : Nat) (w w1 : World) (s : Sh) (x : F) (qs : List Pc) (v : Value) (j : Nat) (u : Value) (ol : List Oc) (wr : World) : Prop where
  fl : Fl base wr { s with ov := u, ol := ol } (x.tells (x.ks.take j))
  ch : Ch w1 wr (fun g => g = s.fb ∨ s.ov.ownBlock = some g)
  nw : u.ownBlock = s.ov.ownBlock ∨ ∃ g, u.ownBlock = some g ∧ w1.heap.size ≤ g
  ou : ∀ o ∈ ol, o ∈ s.ol ∨ ∃ q ∈ qs, o.p = q
  row : wr.ownsRow w.heap.size 52 6 v x.ks.length (pv qs)
  ok : ∀ q ∈ qs, PO w.heap.size wr q
section
variable {base : Nat} {w w1 wr w5 w6 : World} {s : Sh} {x : F} {qs : List Pc} {v u : Value} {j : Nat} {ol : List Oc}
theorem Ag.below (h : Ag base w w1 s x qs v j u ol wr) (b : Below wr.heap.size wr w5) : Ag base w w1 s x qs v j u ol w5 :=
  ⟨h.fl.below b, h.ch.trans (Ch.of_below (fun _ => False) b) (fun _ _ e => e) (fun _ _ e => e.elim), h.nw, h.ou, own_below h.row b, fun q hq => (h.ok q hq).below b⟩
theorem Ag.told (h : Ag base w w1 s x qs v j u ol wr) (hq : qs.map Pc.key = x.ks) (hj : j < x.ks.length) (t : TellP base wr { s with ov := u, ol := ol } (x.tells (x.ks.take j)) (qs.getD j zP) w6) :
    ∃ u' ol', Ag base w w1 s x qs v (j + 1) u' ol' w6 := by
  have hlen : qs.length = x.ks.length := by rw [← hq, List.length_map]
  obtain ⟨u', ol', f, c, n, o⟩ := t
  have hk : (qs.getD j zP).key = x.ks[j] := by
    have h1 : (qs.map Pc.key)[j]'(by rw [List.length_map]; omega) = x.ks[j] := by simp only [hq]
    rw [← h1, List.getElem_map, List.getD_eq_getElem?_getD, List.getElem?_eq_getElem (by omega)]
    rfl
  have e : (x.tells (x.ks.take j)).tell (qs.getD j zP).key = x.tells (x.ks.take (j + 1)) := by
    rw [tells_snoc, hk, List.take_succ_eq_append_getElem hj]
  rw [e] at f
  have hne : ∀ g (cs : Array Value) (t : TypeId), wr.heap[g]? = some (.cells cs t (0, 0)) → (t = 52 ∨ t = 5) → ¬ (g = s.fb ∨ u.ownBlock = some g) := fun g cs t e1 ht e2 => by
    rcases e2 with e2 | e2
    · have h2 : wr.heap[s.fb]? = _ := h.fl.fa
      rw [← e2] at h2
      have := two_types h2 e1
      subst this
      rcases ht with ht | ht <;> exact absurd ht (by decide)
    · obtain ⟨cs', h2⟩ := ch_ownrow h.fl.row e2
      have := two_types h2 e1
      subst this
      rcases ht with ht | ht <;> exact absurd ht (by decide)
  refine ⟨u', ol', f, h.ch.trans c (fun _ _ e => e) (fun g hg e => ?_), ?_, fun y hy => ?_, own_ch2 h.row c (fun g hg => ?_), fun q hq2 => (h.ok q hq2).ch c (fun g hg => ?_)⟩
  · rcases e with e | e
    · exact .inl e
    · have e : u.ownBlock = some g := e
      rcases h.nw with h1 | ⟨g', h1, h2⟩
      · exact .inr (h1 ▸ e)
      · rw [h1] at e
        injection e with e
        omega
  · rcases n with n | ⟨g, n, hl⟩
    · have n : u'.ownBlock = u.ownBlock := n
      rw [n]
      exact h.nw
    · exact .inr ⟨g, n, Nat.le_trans h.ch.size hl⟩
  · rcases o y hy with h1 | h1
    · exact h.ou y h1
    · exact .inr ⟨_, getD_memP (by omega), h1⟩
  · obtain ⟨cs, e1⟩ := ch_ownrow h.row hg
    exact hne g cs _ e1 (.inl rfl)
  · obtain ⟨cs, e1⟩ := (h.ok q hq2).obj hg
    exact hne g cs _ e1 (.inr rfl)
theorem Ag.left (H : Fl base w s x) (b1 : Below w.heap.size w w1) (h : Ag base w w1 s x qs v x.ks.length u ol wr) : Left base w s (x.tells x.ks) wr := by
  have f := h.fl
  rw [List.take_length] at f
  refine ⟨{ s with ov := u, ol := ol }, rfl, f, (Ch.of_below _ b1).trans h.ch (fun _ _ e => e) (fun g _ e => by rcases e with e | e; exact .inl e; exact .inr (.inr (.inl e))), fun g hg => ?_⟩
  rcases hg with e | hg | hg | ⟨o, ho, hg⟩
  · exact .inl (.inl e)
  · exact .inl (.inr (.inl hg))
  · rcases h.nw with n | ⟨g', n, hl⟩
    · exact .inl (.inr (.inr (.inl (n ▸ hg))))
    · have hg : u.ownBlock = some g := hg
      rw [n] at hg
      injection hg with hg
      exact .inr (hg ▸ Nat.le_trans b1.size hl)
  · rcases h.ou o ho with h1 | ⟨q, hq, h1⟩
    · exact .inl (.inr (.inr (.inr ⟨o, h1, hg⟩)))
    · exact .inr ((h.ok q hq).lt (by rw [← h1]; exact hg)).1
end
section
variable {base : Nat} {w : World} {s : Sh} {x : F}
theorem Fl.again_ (h : Fl base w s x) (t d : Int) : Left base w s { x with df := t, dw := d, tm := false } (((w.setCell ⟨s.fb, 8, none⟩ (.int .i64 t)).setCell ⟨s.fb, 9, none⟩ (.int .i64 d)).setCell ⟨s.fb, 11, none⟩ (.bool false)) :=
  h.left (((h.fa.set 8 (.int .i64 t) { x.fc s.qb s.ov with df := t } rfl).set 9 (.int .i64 d) { x.fc s.qb s.ov with df := t, dw := d } rfl).set 11 (.bool false) { x.fc s.qb s.ov with df := t, dw := d, tm := false } rfl) (((ch_set w s.fb 8 _).set 9 _).set 11 _) rfl rfl rfl rfl rfl h.rcv
set_option maxHeartbeats 3200000 in
theorem sendAgain_any (h : Fl base w s x) (hl : x.ks.length ≤ 1073741824) (hd : ∀ k ∈ x.ks, k.ds.length ≤ 1099511627776) (hn : x.os.length ≤ 274877906944) (hE : x.E.Ok) (t : Int) (ht : isInt t) :
    Calls Try.prog 47 #[ptr s.fb, .int .i64 t] w fun e w' => e = .returned (.tuple #[]) ∧ Left base w s (x.again t) w' := by
  have HA := Lib.hid (All_any h.qu (by rw [h.llen]; omega) (fun p hp => by
    have := hd p.key (by rw [← h.ky]; exact List.mem_map_of_mem hp)
    have h2 := (h.qu.ok p hp).pg.data.len
    have : p.ds.length ≤ 1099511627776 := this
    omega))
  rw [h.ky] at HA
  have H := Lib.hid h
  have HL := Lib.hid hl
  have HN := Lib.hid hn
  have HE := Lib.hid hE
  have c0 := h.fa.c0
  clear h hl hd hn hE
  dsimp only [F.fc] at c0
  unfold ptr at *
  go_enter Try.func47, Try.ntmps47
  go_wp2_with fail
  refine HA.out.mono ?_
  rintro e w1 ⟨v, rfl, ⟨qs, hq1, hq2, hq3⟩, b1⟩
  obtain ⟨A, c, rfl, hc1, hc2⟩ := own_slice hq1
  have HB1 := Lib.hid b1
  have HK := Lib.hid hq2
  have HG : Hid (Ag base w w1 s x qs (.slice A x.ks.length c) 0 s.ov s.ol w1) := Lib.hid ⟨by rw [List.take_zero, tells_nil]; exact H.out.below b1, Ch.refl _ _, .inl rfl, fun o ho => .inl ho, hq1, hq3⟩
  clear hq1 hq2 hq3 b1 c0
  generalize hnn : x.ks.length = n at *
  have HNN := Lib.hid hnn
  clear hnn
  go_wp2_with fail
  go_loopw [12] (fun i wr => ∃ (j : Nat) (u : Value) (ol : List Oc), j ≤ n ∧ i = .int .i64 (j : Int) ∧ Ag base w w1 s x qs (.slice A n c) j u ol wr) (fun i _ => n - (intOf i).toNat)
  case atStart => exact ⟨0, _, _, Nat.zero_le _, rfl, HG.out⟩
  case round =>
    obtain ⟨j, u, ol, hj, rfl, hag⟩ := hrel
    by_cases hlt : j < n
    · obtain ⟨g, cap, hv, hgb, hgl⟩ := hag.row.form (by rw [HNN.out]; omega)
      rw [HNN.out] at hv
      injection hv with hA hn1 hc
      subst hA hc
      have hr := own_rangeP (j := j) (n := n) (by have := hag.row; rw [HNN.out] at this; exact this) hlt
      have HAG := Lib.hid hag
      have HTL := Lib.hid (fun (w5 : World) (b : Below wr.heap.size wr w5) => tell_any (hag.below b).fl (qs.getD j zP) (((hag.below b).ok _ (getD_memP (by
          have : qs.length = n := by rw [← HNN.out, ← HK.out, List.length_map]
          omega))).mono (by have := (H.out.in_ (.inl rfl)); omega)) (fun g hg hqb => by
            have h1 := ((hag.ok _ (getD_memP (l := qs) (j := j) (by
              have : qs.length = n := by rw [← HNN.out, ← HK.out, List.length_map]
              omega))).lt hg).1
            have h2 := (H.out.in_ (.inr (.inl hqb))).2
            omega) (by
              show (x.os ++ (x.ks.take j).map _).length ≤ _
              rw [List.length_append, List.length_map, List.length_take]
              have := HN.out
              have := HL.out
              omega))
      have HTD := Lib.hid (fun (w5 w6 : World) (b : Below wr.heap.size wr w5) => (hag.below b).told (w6 := w6) HK.out (by rw [HNN.out]; exact hlt))
      unfold ptr at HTL
      dsimp only at HTL
      clear hag
      generalize qs.getD j zP = p at *
      go_wp2_with (first
        | ((with_reducible refine wpList_here ?_); refine wpList_loadV (o := ⟨some 15, _, _, _, _, _⟩) rfl 52 (.tmp 14) rfl _ _ p.vals rfl hr _ Try.underlying52 rfl infoPc ?_)
        | ((with_reducible refine wpList_here ?_); refine wpList_allocV (o := ⟨some 5, _, _, _, _, _⟩) rfl 52 rfl zP.vals zeroPc _ rfl ?_; intro w4 z4 b4 s4)
        | ((with_reducible refine wpList_here ?_); refine wpList_storeV rfl 52 (.tmp 5) (.tmp 15) rfl _ _ p.vals rfl rfl z4 rfl (pc_one p) infoPc ?_; intro w5 z5 g5 s5; have b5 := v_below_g b4 g5 b4.size (Nat.le_refl _); clear z4 b4 g5)
        | ((with_reducible refine wpList_here ?_); refine wpList_loadV (o := ⟨some 17, _, _, _, _, _⟩) rfl 52 (.tmp 5) rfl _ _ p.vals rfl z5.range _ Try.underlying52 rfl infoPc ?_)
        | (go_at_call 67; refine (HTL.out w5 b5).mono ?_; rintro e w6 ⟨rfl, t6⟩; have HG6 := Lib.hid (HTD.out w5 w6 b5 t6); clear t6))
      go_roundw
      case rel =>
        obtain ⟨u', ol', hg6⟩ := HG6.out
        exact ⟨j + 1, u', ol', by omega, by go_num, hg6⟩
      case measure => simp [intOf]; omega
    · obtain rfl : j = n := by omega
      have hL : Left base w s (x.tells x.ks) wr := (Ag.left H.out HB1.out (by rw [HNN.out]; exact hag))
      obtain ⟨s2, e2, f2, c2, n2⟩ := hL
      have HF2 := Lib.hid f2
      have HC2 := Lib.hid (And.intro e2 (And.intro c2 n2))
      have HW := Lib.hid (Wait_any f2.fa HE.out)
      rw [e2] at HW
      unfold ptr1 at HW
      clear hag e2 f2 c2 n2
      go_wp2_with (first
        | (go_at_call 68; refine HW.out.mono ?_; rintro e w7 ⟨rfl, b7⟩; have HB7 := Lib.hid b7; have HF7 := Lib.hid (HF2.out.below b7); have d8 := HF7.out.fa.c8; have d9 := HF7.out.fa.c9; have d11 := HF7.out.fa.c11; have g8 := HF7.out.fa.fz 8; have g9 := HF7.out.fa.fz 9; have g11 := HF7.out.fa.fz 11; rw [HC2.out.1] at d8 d9 d11 g8 g9 g11; clear b7)
        | fail)
      go_end0
      have HD := HF7.out.again_ t ((x.tells x.ks).fc s2.qb s2.ov).E.wt
      rw [HC2.out.1] at HD
      exact ⟨rfl, Left.then_ HC2.out.1 HC2.out.2.1 HC2.out.2.2 (Left.then_ rfl (Ch.of_below _ HB7.out) (fun g h => .inl h) HD)⟩
end
end Go.Proofs.Ytnpkmkjenlhkiaa

namespace Go.Proofs.Ytnpkmkjenlhkiaa
set_option linter.unusedVariables false
set_option linter.unusedSimpArgs false
set_option maxRecDepth 20000
open Go.RowKit Go.Lib

/-- What a call brought, as cells. -/
def hv (op fin rst dead fresh : Bool) (v : Value) : List Value := [.bool op, .bool fin, .bool rst, .bool dead, .bool fresh, v]
def hz : List Value := hv false false false false false (.slice none 0 0)
theorem infoHd : (Try.prog.info? 57).map (·.size) = some 6 := by kernel_rfl
theorem zeroHd : (Try.prog.info? 57).map (·.zero) = some (some (.agg hz.toArray)) := by kernel_rfl
theorem hd_one (a b c d e : Bool) {v : Value} (h : v.oneCell' = true) : ∀ u ∈ hv a b c d e v, u.oneCell' = true := by
  intro u hu
  simp only [hv, List.mem_cons, List.not_mem_nil, or_false] at hu
  rcases hu with rfl | rfl | rfl | rfl | rfl | rfl <;> first | rfl | exact h

def F.fin_ (x : F) (st : Nat) : F := { x with st := st, df := 0, dw := 0 }
def F.tried (x : F) : F := { x with tries := x.tries + 1 }
def F.backed (x : F) : F := { x with E := x.E.back }
/-- What is due, done. -/
def F.expire (x : F) (t : Int) : F :=
  if 0 < x.dw ∧ x.df + x.dw ≤ t then
    if x.st = 9 then x.fin_ 10
    else if 4 < x.tries + 1 then x.tried.fin_ 11
    else x.tried.backed.again t
  else x
/-- Is it dead by that? -/
def F.dies (x : F) (t : Int) : Bool := decide ((0 < x.dw ∧ x.df + x.dw ≤ t) ∧ x.st ≠ 9 ∧ 4 < x.tries + 1)
theorem cellB {w w' : World} {p : Addr} {v : Value} (b : Below w.heap.size w w') (h : w.cell? p = some v) : w'.cell? p = some v := (b.cell (World.block_lt_of_cell? w p h)).trans h
theorem Own.ch {w w' : World} {b : Nat} {vs : List Value} (h : Own w b vs) (hn : 0 < vs.length) {m : Nat → Prop} (c : Ch w w' m) (hm : ¬ m b) : Own w' b vs := fun j hj => by
  have hlt := h.lt hn
  refine ⟨?_, ?_⟩
  · have h1 := (h j hj).1
    rw [List.getElem?_eq_getElem hj] at h1 ⊢
    exact c.cell h1 hm
  · have := (h j hj).2
    unfold World.frozen? at *
    rw [show w'.heap[(⟨b, j, none⟩ : Addr).block]? = w.heap[(⟨b, j, none⟩ : Addr).block]? from c.block b hlt hm]
    exact this
section
variable {base : Nat} {w w' : World} {s : Sh} {x : F}
theorem Fl.fin_ {e : Ending} (h : Fl base w s x) {st : Nat} (d : Did w s.fb ((x.fc s.qb s.ov).fin_ st) e w') : Left base w s (x.fin_ st) w' :=
  h.left d.2.1 d.2.2 rfl rfl rfl rfl rfl h.rcv
theorem Fl.backed_ {e : Ending} (h : Fl base w s x) (d : Did w s.fb ((x.fc s.qb s.ov).est x.E.back) e w') : Fl base w' s x.backed ∧ Ch w w' (fun g => g = s.fb) :=
  ⟨h.did d.2.1 d.2.2 rfl rfl rfl rfl rfl h.rcv, d.2.2⟩
theorem Fl.tried_ (h : Fl base w s x) : Fl base (w.setCell ⟨s.fb, 7, none⟩ (.int .i64 ((x.tries : Int) + 1))) s x.tried ∧ Ch w (w.setCell ⟨s.fb, 7, none⟩ (.int .i64 ((x.tries : Int) + 1))) (fun g => g = s.fb) :=
  ⟨h.did (h.fa.set 7 _ (x.tried.fc s.qb s.ov) (by show _ = Fc.cs _; unfold Fc.cs F.tried F.fc; dsimp only; rw [Int.natCast_add]; rfl)) (ch_set _ _ _ _) rfl rfl rfl rfl rfl h.rcv, ch_set _ _ _ _⟩
/-- Behind a call that leaves the flow, the block of what it answers. -/
theorem Left.own {w1 w2 : World} {x1 : F} {vs : List Value} {g : Nat} (h : Left base w1 s x1 w2) (z : Own w1 g vs) (hn : 0 < vs.length) (hg : ¬ s.T g) : Own w2 g vs := by
  obtain ⟨s2, _, _, c, _⟩ := h
  exact z.ch hn c hg
theorem Left.behind {w1 w4 w5 : World} {x1 : F} (H : Fl base w s x) (b : Below w.heap.size w w1) (hs : w.heap.size < w1.heap.size) (h : Left base w1 s x1 w4) (k : w4.grownBy w5 (some w.heap.size)) : Left base w s x1 w5 := by
  obtain ⟨s2, e, f, c, n⟩ := h
  have ck : Ch w4 w5 (fun g => g = w.heap.size) := Ch.grown (m := fun g => g = w.heap.size) (Ch.refl w4 _) k (fun g e _ => by injection e with e; exact e.symm)
  refine ⟨s2, e, f.frame ck (fun g hg e => ?_), ((Ch.of_below _ b).then_ c).trans ck (fun _ _ h => h) (fun g hg e => by omega), fun g hg => ?_⟩
  · rcases n g hg with h | h
    · have := (H.in_ h).2
      omega
    · omega
  · rcases n g hg with h | h
    · exact .inl h
    · exact .inr (Nat.le_trans b.size h)
set_option maxHeartbeats 3200000 in
theorem Expire_any (h : Fl base w s x) (hl : x.ks.length ≤ 1073741824) (hd : ∀ k ∈ x.ks, k.ds.length ≤ 1099511627776) (hn : x.os.length ≤ 274877906944) (hE : x.E.Ok) (hE2 : x.E.d < 1000000) (hf : 0 ≤ x.df ∧ x.df ≤ 1152921504606846976) (htr : x.tries ≤ 1000000) (t : Int) (ht : 0 ≤ t ∧ t ≤ 1152921504606846976) :
    Calls Try.prog 21 #[ptr s.fb, .int .i64 t] w fun e w' => e = .returned (.agg (hv false false false (x.dies t) false (.slice none 0 0)).toArray) ∧ Left base w s (x.expire t) w' := by
  have H := Lib.hid h
  have HR := Lib.hid (fun W => reached_any x.df x.dw t W hf ht)
  have HI : Hid (isInt t) := Lib.hid (by unfold isInt; omega)
  have HL := Lib.hid (And.intro hl (And.intro hd (And.intro hn (And.intro hE hE2))))
  have HT := Lib.hid htr
  unfold F.expire F.dies
  by_cases hdue : 0 < x.dw ∧ x.df + x.dw ≤ t
  · rw [if_pos hdue]
    have hdd : decide (0 < x.dw ∧ x.df + x.dw ≤ t) = true := decide_eq_true hdue
    rw [hdd] at HR
    by_cases h9 : x.st = 9
    · rw [if_pos h9, decide_eq_false (fun e => e.2.1 h9)]
      have HEnd := Lib.hid (fun (W : World) (b : Below w.heap.size w W) => end_any (h.below b).fa 10)
      clear h hl hd hn hE hE2 hf htr ht
      unfold ptr dl at *
      go_enter Try.func21, Try.ntmps21
      go_wp2_with (first
        | ((with_reducible refine wpList_here ?_); refine wpList_allocV (o := ⟨some 4, _, _, _, _, _⟩) rfl 57 rfl hz zeroHd _ rfl ?_; intro w1 z1 b1 s1; have HF1 := Lib.hid (H.out.below b1); have k8 := HF1.out.fa.c8; have k9 := HF1.out.fa.c9; dsimp only [F.fc] at k8 k9)
        | (go_at_call 45; refine (HR.out _).mono ?_; rintro e w2 ⟨rfl, b2⟩; have HB3 := Lib.hid (below_trans b1 b2); have HS3 : Hid (w.heap.size < w2.heap.size) := Lib.hid (by have := b2.size; omega); have z2 := z1.below b2; have HF3 := Lib.hid (H.out.below HB3.out); have j5 := HF3.out.fa.c5; have f5 := HF3.out.fa.fz 5; dsimp only [F.fc] at j5; rw [h9] at j5; clear k8 k9 z1 b1 b2 s1 HF1)
        | (go_at_call 38; refine (HEnd.out _ HB3.out).mono ?_; rintro e w4 d4; obtain rfl := d4.1; have hf4 := HF3.out.fin_ d4; have HF4 := Lib.hid hf4; have z4 := hf4.own z2 (by decide) (fun e => by have := (H.out.in_ e).2; omega); clear d4 z2 hf4)
        | ((with_reducible refine wpList_here ?_); refine wpList_storeV rfl 57 (.tmp 4) (.tmp 24) rfl _ _ hz rfl rfl z4 rfl (hd_one _ _ _ _ _ rfl) infoHd ?_; intro w9 z9 g9 s9)
        | fail)
      refine bodyPost_ret (results_c0 rfl _ _ w.heap.size _ _ rfl z9.range Try.underlying57 rfl infoHd) rfl ?_
      exact ⟨rfl, Left.behind H.out HB3.out HS3.out HF4.out g9⟩
    · have n9 : ((x.st : Int) == 9) = false := by rw [beq_eq_false_iff_ne]; omega
      have hwr : IntKind.i64.wrap ((x.tries : Int) + 1) = (x.tries : Int) + 1 := by rw [IntKind.wrap_i64]; omega
      rw [if_neg h9]
      by_cases h4 : 4 < x.tries + 1
      · rw [if_pos h4, decide_eq_true ⟨hdue, h9, h4⟩]
        have h4i : (4 : Int) < (x.tries : Int) + 1 := by omega
        have HEnd := Lib.hid (fun (W : World) (f : Fl base W s x.tried) => end_any f.fa 11)
        clear h hl hd hn hE hE2 hf htr ht
        unfold ptr dl at *
        go_enter Try.func21, Try.ntmps21
        go_wp2_with (first
          | ((with_reducible refine wpList_here ?_); refine wpList_allocV (o := ⟨some 4, _, _, _, _, _⟩) rfl 57 rfl hz zeroHd _ rfl ?_; intro w1 z1 b1 s1; have HF1 := Lib.hid (H.out.below b1); have k8 := HF1.out.fa.c8; have k9 := HF1.out.fa.c9; dsimp only [F.fc] at k8 k9)
          | (go_at_call 45; refine (HR.out _).mono ?_; rintro e w2 ⟨rfl, b2⟩; have HB3 := Lib.hid (below_trans b1 b2); have HS3 : Hid (w.heap.size < w2.heap.size) := Lib.hid (by have := b2.size; omega); have z2 := z1.below b2; have HF3 := Lib.hid (H.out.below HB3.out); have j5 := HF3.out.fa.c5; have f5 := HF3.out.fa.fz 5; have j7 := HF3.out.fa.c7; have f7 := HF3.out.fa.fz 7; dsimp only [F.fc] at j5 j7; clear k8 k9 z1 b1 b2 s1 HF1)
          | (go_at_call 38; (have ht3 := HF3.out.tried_); (have z4 := z2.ch (by decide) ht3.2 (fun e => by have := (H.out.in_ (.inl e)).2; omega)); refine (HEnd.out _ ht3.1).mono ?_; rintro e w4 d4; obtain rfl := d4.1; have hf4 := ht3.1.fin_ d4; have z5 := hf4.own z4 (by decide) (fun e => by have := (H.out.in_ e).2; omega); have HF4 := Lib.hid (Left.then_ rfl (ht3.2.mono (fun _ _ e => .inl e)) (fun g h => .inl h) hf4 : Left base w2 s (x.tried.fin_ 11) w4); clear d4 z2 hf4 ht3 z4)
          | ((with_reducible refine wpList_here ?_); refine wpList_storeV rfl 57 (.tmp 4) (.tmp 39) rfl _ _ (hv false false false true false (.slice none 0 0)) rfl rfl z5 rfl (hd_one _ _ _ _ _ rfl) infoHd ?_; intro w9 z9 g9 s9)
          | fail)
        refine bodyPost_ret (results_c0 rfl _ _ w.heap.size _ _ rfl z9.range Try.underlying57 rfl infoHd) rfl ?_
        exact ⟨rfl, Left.behind H.out HB3.out HS3.out HF4.out g9⟩
      · rw [if_neg h4, decide_eq_false (fun e => h4 e.2.2)]
        have h4i : decide ((4 : Int) < (x.tries : Int) + 1) = false := decide_eq_false (by omega)
        have HBack := Lib.hid (fun (W : World) (f : Fl base W s x.tried) => Back_any f.fa (by exact hE2))
        have HAgain := Lib.hid (fun (W : World) (f : Fl base W s x.tried.backed) => sendAgain_any f hl hd hn (Ok_back hE hE2) t HI.out)
        unfold ptr1 at HBack
        clear h hl hd hn hE hE2 hf htr ht
        unfold ptr dl at *
        go_enter Try.func21, Try.ntmps21
        go_wp2_with (first
          | ((with_reducible refine wpList_here ?_); refine wpList_allocV (o := ⟨some 4, _, _, _, _, _⟩) rfl 57 rfl hz zeroHd _ rfl ?_; intro w1 z1 b1 s1; have HF1 := Lib.hid (H.out.below b1); have k8 := HF1.out.fa.c8; have k9 := HF1.out.fa.c9; dsimp only [F.fc] at k8 k9)
          | (go_at_call 45; refine (HR.out _).mono ?_; rintro e w2 ⟨rfl, b2⟩; have HB3 := Lib.hid (below_trans b1 b2); have HS3 : Hid (w.heap.size < w2.heap.size) := Lib.hid (by have := b2.size; omega); have z2 := z1.below b2; have HF3 := Lib.hid (H.out.below HB3.out); have j5 := HF3.out.fa.c5; have f5 := HF3.out.fa.fz 5; have j7 := HF3.out.fa.c7; have f7 := HF3.out.fa.fz 7; dsimp only [F.fc] at j5 j7; clear k8 k9 z1 b1 b2 s1 HF1)
          | (go_at_call 46; (have ht3 := HF3.out.tried_); (have z4 := z2.ch (by decide) ht3.2 (fun e => by have := (H.out.in_ (.inl e)).2; omega)); refine (HBack.out _ ht3.1).mono ?_; rintro e w4 d4; obtain rfl := d4.1; have hf4 := ht3.1.backed_ d4; have z5 := z4.ch (by decide) hf4.2 (fun e => by have := (H.out.in_ (.inl e)).2; omega); have HF4 := Lib.hid hf4.1; have HC4 := Lib.hid (ht3.2.then_ hf4.2); clear d4 z2 hf4 ht3 z4)
          | (go_at_call 47; refine (HAgain.out _ HF4.out).mono ?_; rintro e w6 ⟨rfl, l6⟩; have z6 := l6.own z5 (by decide) (fun e => by have := (H.out.in_ e).2; omega); have HF6 := Lib.hid (Left.then_ rfl (HC4.out.mono (fun _ _ e => .inl e)) (fun g h => .inl h) l6 : Left base w2 s (x.tried.backed.again t) w6); clear l6 z5)
          | ((with_reducible refine wpList_here ?_); refine wpList_storeV rfl 57 (.tmp 4) (.tmp 47) rfl _ _ hz rfl rfl z6 rfl (hd_one _ _ _ _ _ rfl) infoHd ?_; intro w9 z9 g9 s9)
          | fail)
        refine bodyPost_ret (results_c0 rfl _ _ w.heap.size _ _ rfl z9.range Try.underlying57 rfl infoHd) rfl ?_
        exact ⟨rfl, Left.behind H.out HB3.out HS3.out HF6.out g9⟩
  · rw [if_neg hdue, decide_eq_false (fun e => hdue e.1)]
    have hdd : decide (0 < x.dw ∧ x.df + x.dw ≤ t) = false := decide_eq_false hdue
    rw [hdd] at HR
    clear h hl hd hn hE hE2 hf htr ht
    unfold ptr dl at *
    go_enter Try.func21, Try.ntmps21
    go_wp2_with (first
      | ((with_reducible refine wpList_here ?_); refine wpList_allocV (o := ⟨some 4, _, _, _, _, _⟩) rfl 57 rfl hz zeroHd _ rfl ?_; intro w1 z1 b1 s1; have HF1 := Lib.hid (H.out.below b1); have k8 := HF1.out.fa.c8; have k9 := HF1.out.fa.c9; dsimp only [F.fc] at k8 k9)
      | (go_at_call 45; refine (HR.out _).mono ?_; rintro e w2 ⟨rfl, b2⟩; have HB3 := Lib.hid (below_trans b1 b2); have HS3 : Hid (w.heap.size < w2.heap.size) := Lib.hid (by have := b2.size; omega); have z2 := z1.below b2; have HF3 := Lib.hid (H.out.below HB3.out); skip; clear k8 k9 z1 b1 b2 s1 HF1)
      | ((with_reducible refine wpList_here ?_); refine wpList_storeV rfl 57 (.tmp 4) (.tmp 16) rfl _ _ hz rfl rfl z2 rfl (hd_one _ _ _ _ _ rfl) infoHd ?_; intro w9 z9 g9 s9)
      | fail)
    refine bodyPost_ret (results_c0 rfl _ _ w.heap.size _ _ rfl z9.range Try.underlying57 rfl infoHd) rfl ?_
    exact ⟨rfl, Left.behind H.out HB3.out HS3.out (Left.same (H.out.below HB3.out) (Below.refl _ _)) g9⟩
end
end Go.Proofs.Ytnpkmkjenlhkiaa

/- The contracts of send, begun, Dial, Answer. Conditions: the flow stands, with at most 2^30 pieces and at most 2^39 to be sent; the piece has a length, and data of at most 2^40 bytes, apart from the queue; ticks between 0 and 2^60.
The contracts of Answer, Out, Left, Send, Close; a segment as what is told. Conditions: the flow stands, with at most 2^30 pieces and at most 2^39 to be sent. -/
import Derived.Test.YtiehngeeamhlmaaGreatDoorMg8
namespace Go.Proofs.YtiehngeeamhlmaaGreatDoor.LF
set_option linter.unusedVariables false
set_option linter.unusedSimpArgs false
set_option maxRecDepth 20000
open Go.RowKit Go.Lib

def F.push (x : F) (k : Ky) : F := { x with ks := x.ks ++ [k.at x.en], en := on x.en (k.len : Int) }
def F.began (x : F) (t : Int) : F := { x with bg := t, tm := true }
def F.due (x : F) (t : Int) : F := { x with df := t, dw := x.E.wt }
/-- A piece is sent. -/
def F.send (x : F) (k : Ky) (t : Int) : F :=
  let y := ((if x.ks = [] then x.began t else x).push k).tell (k.at x.en)
  if 0 < y.dw then y else y.due t
theorem Fl.pushed {base : Nat} {w w' : World} {s : Sh} {x : F} {k : Ky} {e : Ending} (h : Fl base w s x) (hk : 0 < k.len) (t : PushP 258 base w s.qb s.v s.l x.en k e w') :
    ∃ (q : Pc) (s' : Sh), e = .returned (.agg q.vals.toArray) ∧ q.key = k.at x.en ∧ PO base w' q ∧ (∀ g, q.blk = some g → w.heap.size ≤ g ∧ ¬ Qb s'.qb s'.v s'.l g) ∧ s'.fb = s.fb ∧ s'.qb = s.qb ∧ Fl base w' s' (x.push k) ∧ Ch w w' s.T ∧ ∀ g, s'.T g → s.T g ∨ w.heap.size ≤ g := by
  obtain ⟨q, v', l', m, rfl, hq, ho, hm, hu, hl, hlt, hold, c⟩ := t
  rw [if_pos hk] at hl
  have hbm : base ≤ m := Nat.le_trans (Nat.le_trans h.lo (Nat.le_of_lt h.fa.lt)) hm
  have hc : Ch w w' s.T := c.mono (fun g _ e => by rcases e with e | e; exact .inr (.inl (.inl e)); exact .inr (.inl (.inr (.inl e))))
  have hne : ∀ g, ¬ Qb s.qb s.v s.l g → ¬ (g = s.qb ∨ s.v.ownBlock = some g) := fun g hn e => hn (by rcases e with e | e; exact .inl e; exact .inr (.inl e))
  refine ⟨q, { s with v := v', l := l' }, rfl, hq, ho.mono hbm, fun g hg => ⟨Nat.le_trans hm (ho.lt hg).1, fun hqb => ?_⟩, rfl, rfl, ?_, hc, fun g hg => ?_⟩
  · have h1 := hlt g hqb
    have h2 := (ho.lt hg).1
    omega
  · refine ⟨h.fa.ch c (hne _ h.ne_queue), h.lo, hu, ?_, ?_, h.lt, own_ch2 h.row c (fun g hg => hne g (h.row_queue hg)), h.os, fun o ho2 => ⟨(h.og o ho2).1.ch c (fun g hg => hne g (h.ap o ho2 g hg)), (h.og o ho2).2⟩, fun o ho2 g hg hqb => ?_, h.rcv⟩
    · show l'.map Pc.key = x.ks ++ [_]
      rw [hl, h.ky]
    · exact h.cn.snoc (k.at x.en) rfl
    · rcases hold g hqb with h1 | h1
      · exact h.ap o ho2 g hg h1
      · have := ((h.og o ho2).1.lt hg).2
        omega
  · rcases hg with e | hg | hg | hg
    · exact .inl (.inl e)
    · rcases hold g hg with h1 | h1
      · exact .inl (.inr (.inl h1))
      · exact .inr h1
    · exact .inl (.inr (.inr (.inl hg)))
    · exact .inl (.inr (.inr (.inr hg)))
theorem Fl.llen {base : Nat} {w : World} {s : Sh} {x : F} (h : Fl base w s x) : s.l.length = x.ks.length := by rw [← h.ky, List.length_map]
/-- The cells of the flow behind a call. -/
theorem Left.trans_ {base : Nat} {w w1 w2 : World} {s : Sh} {x1 x2 : F} (h : Left base w s x1 w1) (k : ∀ s1 : Sh, s1.fb = s.fb → Fl base w1 s1 x1 → Left base w1 s1 x2 w2) : Left base w s x2 w2 := by
  obtain ⟨s1, e1, f1, c1, n1⟩ := h
  exact Left.then_ e1 c1 n1 (k s1 e1 f1)

/-- Push, and then tell. -/
theorem leftP {base : Nat} {w w4 w5 : World} {s s4 : Sh} {y : F} {q : Pc} (hq : ∀ g, q.blk = some g → w.heap.size ≤ g ∧ ¬ Qb s4.qb s4.v s4.l g) (C4 : Ch w w4 s.T) (n4 : ∀ g, s4.T g → s.T g ∨ w.heap.size ≤ g) (t : TellP base w4 s4 y q w5) :
    ∃ s5 : Sh, s5.fb = s4.fb ∧ Fl base w5 s5 (y.tell q.key) ∧ Ch w w5 s.T ∧ ∀ g, s5.T g → s.T g ∨ w.heap.size ≤ g := by
  obtain ⟨u, ol, f, c, n, o⟩ := t
  refine ⟨{ s4 with ov := u, ol := ol }, rfl, f, C4.trans c (fun _ _ h => h) (fun g hg h => ?_), fun g hg => ?_⟩
  · have hT : s4.T g := by rcases h with h | h; exact .inl h; exact .inr (.inr (.inl h))
    rcases n4 g hT with h | h
    · exact h
    · omega
  · rcases hg with e | hg | hg | ⟨r, hr, hg⟩
    · exact n4 g (.inl e)
    · exact n4 g (.inr (.inl hg))
    · rcases n with n | ⟨g', n, hl⟩
      · exact n4 g (.inr (.inr (.inl (n ▸ hg))))
      · have hg : u.ownBlock = some g := hg
        rw [n] at hg
        injection hg with hg
        exact .inr (hg ▸ Nat.le_trans C4.size hl)
    · rcases o r hr with h | h
      · exact n4 g (.inr (.inr (.inr ⟨r, h, hg⟩)))
      · exact .inr (hq g (by rw [← h]; exact hg)).1
section
variable {base : Nat} {w : World} {s : Sh} {x : F}
/-- What has no deadline has one. -/
theorem Fl.due_ (h : Fl base w s x) (t d : Int) (hd : d = x.E.wt) : Left base w s (x.due t) ((w.setCell ⟨s.fb, 8, none⟩ (.int .i64 t)).setCell ⟨s.fb, 9, none⟩ (.int .i64 d)) :=
  h.left (((h.fa.set 8 (.int .i64 t) { x.fc s.qb s.ov with df := t } rfl).set 9 (.int .i64 d) { x.fc s.qb s.ov with df := t, dw := d } rfl)) ((ch_set w s.fb 8 _).set 9 _) (by subst hd; rfl) rfl rfl rfl rfl h.rcv
theorem Fl.began_ (h : Fl base w s x) (t : Int) : Fl base ((w.setCell ⟨s.fb, 10, none⟩ (.int .i64 t)).setCell ⟨s.fb, 11, none⟩ (.bool true)) s (x.began t) ∧ Ch w ((w.setCell ⟨s.fb, 10, none⟩ (.int .i64 t)).setCell ⟨s.fb, 11, none⟩ (.bool true)) (fun g => g = s.fb) :=
  ⟨h.did (((h.fa.set 10 (.int .i64 t) { x.fc s.qb s.ov with bg := t } rfl).set 11 (.bool true) { x.fc s.qb s.ov with bg := t, tm := true } rfl)) ((ch_set w s.fb 10 _).set 11 _) rfl rfl rfl rfl rfl h.rcv, (ch_set w s.fb 10 _).set 11 _⟩
set_option maxHeartbeats 3200000 in
theorem send_any (h : Fl base w s x) (p : Pc) (hp : PG w p) (hap : ∀ g o s', p.dA = some ⟨g, o, s'⟩ → 0 < p.dn → g ≠ s.qb ∧ s.v.ownBlock ≠ some g ∧ g ≠ s.fb) (hd : p.dn ≤ 1099511627776) (hk : 0 < p.key.len) (hl : x.ks.length ≤ 1073741824) (hn : x.os.length ≤ 549755813888) (hE : x.E.Ok) (t : Int) (ht : isInt t) :
    Calls Tryz.prog 193 #[ptr s.fb, .agg p.vals.toArray, .int .i64 t] w fun e w' => e = .returned (.tuple #[]) ∧ Left base w s (x.send p.key t) w' := by
  have hfb := h.fa.lt
  have HLL := Lib.hid h.llen
  obtain ⟨fb, qb, v, l, u, ol⟩ := s
  dsimp only at *
  have H := Lib.hid h
  have HP := Lib.hid hp
  have HAP := Lib.hid hap
  have HLen := Lib.hid (fun W (b : Below w.heap.size w W) => Len_any (h.below b).qu)
  have HL := Lib.hid hl
  have HN := Lib.hid hn
  have HE := Lib.hid hE
  have HT0 := Lib.hid ht
  have c0 := h.fa.c0
  have HD := Lib.hid hd
  have HK := Lib.hid hk
  clear h hp hap hl hn hE hd hk ht
  dsimp only [F.fc] at c0
  unfold ptr at *
  by_cases hks : x.ks = []
  · have hl0 : l.length = 0 := by rw [HLL.out, hks]; rfl
    rw [hl0] at HLen
    go_enter Tryz.func193, Tryz.ntmps193
    go_wp2_with (first
      | ((with_reducible refine wpList_here ?_); refine wpList_boxV (o := ⟨some 4, _, _, _, _, _⟩) rfl 206 (.tmp 1) rfl p.vals rfl _ rfl ?_; intro w1 z1 b1 s1; have HB1 := Lib.hid b1; have HF1 := Lib.hid (H.out.below b1); have c0' := HF1.out.fa.c0; have f10 := HF1.out.fa.fz 10; have f11 := HF1.out.fa.fz 11; have c10 := HF1.out.fa.c10; have c11 := HF1.out.fa.c11; dsimp only [F.fc, ptr] at c0' c10 c11; clear b1 c0)
      | (go_at_call 252; refine (HLen.out _ HB1.out).mono ?_; rintro e w2 ⟨rfl, rfl⟩)
      | fail)
    have h3 := HF1.out.began_ t
    have HY := Lib.hid h3.1
    have HS3 := Lib.hid (And.intro (rfl : (⟨fb, qb, v, l, u, ol⟩ : Sh).fb = fb) (And.intro ((Ch.of_below _ HB1.out).trans (m'' := (⟨fb, qb, v, l, u, ol⟩ : Sh).T) (m := fun _ => False) h3.2 (fun _ _ h => h.elim) (fun _ _ h => .inl h)) (fun (g : Nat) (h : (⟨fb, qb, v, l, u, ol⟩ : Sh).T g) => (Or.inl h : (⟨fb, qb, v, l, u, ol⟩ : Sh).T g ∨ w.heap.size ≤ g))))
    have r3 := rangeAt_ch h3.2 z1.range (by show ¬ w.heap.size = fb; omega)
    have k3 : w2.heap.size = ((w2.setCell ⟨fb, 10, none⟩ (.int .i64 t)).setCell ⟨fb, 11, none⟩ (.bool true)).heap.size := by simp [World.setCell]
    have pg3 : PG ((w2.setCell ⟨fb, 10, none⟩ (.int .i64 t)).setCell ⟨fb, 11, none⟩ (.bool true)) p := ⟨HP.out.seq, HP.out.dsn, (HP.out.data.below HB1.out).ch h3.2 (fun g o s' e hn => (HAP.out g o s' e hn).2.2)⟩
    rw [s1] at k3
    clear h3 z1 f10 f11 c10 c11 c0' s1 HF1
    dsimp only at HY HS3 r3 pg3
    generalize (w2.setCell ⟨fb, 10, none⟩ (.int .i64 t)).setCell ⟨fb, 11, none⟩ (.bool true) = w2s at *
    have HY := Lib.hid (HY.out.below (Below.refl _ _).drew)
    have HS3 := Lib.hid (And.intro HS3.out.1 (And.intro HS3.out.2.1.drew HS3.out.2.2))
    have r3 : w2s.drew.rangeAt w.heap.size 0 p.vals := r3
    have k3 : w.heap.size + 1 = w2s.drew.heap.size := k3
    have pg3 : PG w2s.drew p := pg3.below (Below.refl _ _).drew
    generalize hwd : w2s.drew = w3 at *
    generalize hgz : w.heap.size = g at *
    have HG3 := Lib.hid (pg3)
    have HPush := Lib.hid (Push_any HY.out.qu p HG3.out (fun g o s' e hn => ⟨(HAP.out g o s' e hn).1, (HAP.out g o s' e hn).2.1⟩) HD.out (by show l.length ≤ 1073741824; have := HLL.out; have := HL.out; omega))
    have e0 : w3.cell? ⟨fb, 0, none⟩ = some (.pointer (some ⟨qb, 0, none⟩)) ∧ w3.rangeAt g 0 p.vals := ⟨HY.out.fa.c0, r3⟩
    clear r3
    unfold ptr at HPush
    dsimp only at HPush
    refine wp_region_noPanic ?_
    refine wp_region_held_drew (S := fun W => W.cell? ⟨fb, 0, none⟩ = some (.pointer (some ⟨qb, 0, none⟩)) ∧ W.rangeAt g 0 p.vals) (by kernel_rfl) (by rw [hwd]; exact e0) (fun _ => ?_)
    rw [hwd]
    clear hwd
    refine held_take (i := 0) (v := .pointer (some ⟨fb, 0, none⟩)) (some 19) rfl rfl (by kernel_rfl) (by kernel_rfl) (by kernel_rfl) (fun _ _ _ h => h) (Or.inl ⟨by rfl, fun W hW => by go_simp⟩) e0 ?_
    simp only [Act.put, List.setIfInBounds_toArray, List.set_cons_zero, List.set_cons_succ]
    refine held_take (i := 1) (v := .pointer (some ⟨fb, 0, none⟩)) (some 20) rfl rfl (by kernel_rfl) (by kernel_rfl) (by kernel_rfl) (fun _ _ _ h => h) (Or.inl ⟨by rfl, fun W hW => by go_simp⟩) e0 ?_
    simp only [Act.put, List.setIfInBounds_toArray, List.set_cons_zero, List.set_cons_succ]
    refine held_take (i := 5) (v := .agg p.vals.toArray) (some 24) rfl rfl (by kernel_rfl) (by kernel_rfl) (by kernel_rfl) (fun _ _ _ h => h) (yieldsIf_load_mid (by rfl) 206 (.tmp 4) rfl _ _ rfl _ _ (fun W hW => hW.2) Tryz.underlying206 rfl infoPc) e0 ?_
    simp only [Act.put, List.setIfInBounds_toArray, List.set_cons_zero, List.set_cons_succ]
    refine held_take (i := 2) (v := .pointer (some ⟨fb, 0, none⟩)) (some 21) rfl rfl (by kernel_rfl) (by kernel_rfl) (by kernel_rfl) (fun _ _ _ h => h) (Or.inl ⟨by rfl, fun W hW => by go_simp⟩) e0 ?_
    simp only [Act.put, List.setIfInBounds_toArray, List.set_cons_zero, List.set_cons_succ]
    refine held_take (i := 3) (v := .pointer (some ⟨fb, 0, none⟩)) (some 22) rfl rfl (by kernel_rfl) (by kernel_rfl) (by kernel_rfl) (fun _ _ _ h => h) (Or.inl ⟨by rfl, fun W hW => by go_simp⟩) e0 ?_
    simp only [Act.put, List.setIfInBounds_toArray, List.set_cons_zero, List.set_cons_succ]
    refine held_take (i := 4) (v := .pointer (some ⟨qb, 0, none⟩)) (some 23) rfl rfl (by kernel_rfl) (by kernel_rfl) (by kernel_rfl) (fun _ _ _ h => h) (Or.inl ⟨by rfl, fun W hW => by have hc := hW.1; go_simp⟩) e0 ?_
    simp only [Act.put, List.setIfInBounds_toArray, List.set_cons_zero, List.set_cons_succ]
    refine wpAnyH_ready (rs := [6]) (by kernel_rfl) (by simp) ?_
    refine AllReadyH.cons rfl (fun K hK => ?_) AllReadyH.nil
    go_simp
    refine HPush.out.mono ?_
    rintro e w4 hp4
    obtain ⟨q, s4, rfl, hq4, ho4, hn4, e4, eq4, f4, C4, n4⟩ := HY.out.pushed HK.out hp4
    obtain ⟨fb4, qb4, v4, l4, u4, ol4⟩ := s4
    dsimp only at e4 eq4 hn4
    subst e4 eq4
    have r4 : w4.rangeAt g 0 p.vals := rangeAt_ch C4 e0.2 (fun hT => by have := (H.out.in_ hT).2; omega)
    have S4 : w4.cell? ⟨fb4, 0, none⟩ = some (.pointer (some ⟨qb4, 0, none⟩)) ∧ w4.rangeAt g 0 p.vals := ⟨f4.fa.c0, r4⟩
    have hgn : ¬ (g = fb4 ∨ u4.ownBlock = some g) := fun e => by
      rcases e with e | e
      · have : fb4 < w.heap.size := (H.out.in_ (.inl rfl)).2
        omega
      · have hT : (⟨fb4, qb4, v4, l4, u4, ol4⟩ : Sh).T g := .inr (.inr (.inl e))
        rcases n4 g hT with h | h
        · have := (H.out.in_ h).2
          omega
        · omega
    have HF4 := Lib.hid f4
    have HC4 := Lib.hid (And.intro C4 n4)
    have HQ4 := Lib.hid (And.intro ho4 hn4)
    have HT := Lib.hid (tell_any f4 q ho4 (fun g hg => (hn4 g hg).2) HN.out)
    have HKq : Hid (q.key = p.key.at x.en) := Lib.hid hq4
    have HS4 := Lib.hid C4.size
    clear hp4 f4 C4 n4 ho4 hn4 hq4 HPush r4
    dsimp only
    refine hK.out _ _ S4 (fun _ => ?_)
    clear hK
    try simp only [Act.put, List.setIfInBounds_toArray, List.set_cons_zero, List.set_cons_succ]
    refine wpAnyH_ready (rs := [7]) (by kernel_rfl) (by simp) ?_
    refine AllReadyH.cons rfl (fun K hK => ?_) AllReadyH.nil
    go_simp
    unfold ptr at HT
    dsimp only at HT
    refine HT.out.mono ?_
    rintro e w5 ⟨rfl, t5⟩
    have HL5 := Lib.hid (leftP HQ4.out.2 HC4.out.1 HC4.out.2 t5)
    rw [HKq.out] at HL5
    obtain ⟨u5, ol5, f5, C5, _, _⟩ := t5
    have S5 : w5.cell? ⟨fb4, 0, none⟩ = some (.pointer (some ⟨qb4, 0, none⟩)) ∧ w5.rangeAt g 0 p.vals := ⟨f5.fa.c0, rangeAt_ch C5 S4.2 hgn⟩
    clear f5 C5 HT
    dsimp only
    refine hK.out _ _ S5 (fun _ => ?_)
    clear hK
    try simp only [Act.put, List.setIfInBounds_toArray, List.set_cons_zero, List.set_cons_succ]
    refine wpAnyH_done (by kernel_rfl) ?_ _
    refine NoPanic.normal ?_
    obtain ⟨s5, e5, f5, C5, n5⟩ := HL5.out
    have e5' : fb4 = s5.fb := e5.symm
    have HIS := Lib.hid (fun W => is_any x.df x.dw W)
    have c8 := f5.fa.c8
    have c9 := f5.fa.c9
    rw [← e5'] at c8 c9
    have HF5 := Lib.hid f5
    have HC5 := Lib.hid (And.intro C5 n5)
    have c8' : w5.cell? ⟨fb4, 8, none⟩ = some (.int .i64 x.df) := c8
    have c9' : w5.cell? ⟨fb4, 9, none⟩ = some (.int .i64 x.dw) := c9
    have HX5 := Lib.hid e5'
    clear f5 C5 n5 e5 c8 c9 HL5 e5'
    unfold dl at HIS
    by_cases hdw : 0 < x.dw
    · rw [decide_eq_true hdw] at HIS
      go_wp2_with (first
        | (go_at_call 254; refine (HIS.out _).mono ?_; rintro e w6 ⟨rfl, b6⟩; have HB6 := Lib.hid b6; clear b6)
        | fail)
      go_end0
      refine ⟨rfl, ?_⟩
      have hsend : x.send p.key t = (((x.began t).push p.key).tell (p.key.at x.en)) := by
        unfold F.send
        rw [if_pos hks]
        exact if_pos hdw
      rw [hsend]
      exact Left.then_ rfl HS3.out.2.1 (fun g h => .inl h) (Left.then_ HX5.out.symm HC5.out.1 HC5.out.2 (Left.same HF5.out HB6.out))
    · rw [decide_eq_false hdw] at HIS
      go_wp2_with (first
        | (go_at_call 254; refine (HIS.out _).mono ?_; rintro e w6 ⟨rfl, b6⟩; have HB6 := Lib.hid b6; have HW := Lib.hid (Wait_any (HF5.out.below b6).fa HE.out); unfold ptr1 at HW; rw [← HX5.out] at HW; clear b6)
        | (go_at_call 255; refine HW.out.mono ?_; rintro e w7 ⟨rfl, b7⟩; have HB7 := Lib.hid (below_trans HB6.out b7); have HF7 := Lib.hid (HF5.out.below HB7.out); have d8 := HF7.out.fa.c8; have d9 := HF7.out.fa.c9; have g8 := HF7.out.fa.fz 8; have g9 := HF7.out.fa.fz 9; rw [← HX5.out] at d8 d9 g8 g9; clear b7)
        | fail)
      go_end0
      refine ⟨rfl, ?_⟩
      have hsend : x.send p.key t = (((x.began t).push p.key).tell (p.key.at x.en)).due t := by
        unfold F.send
        rw [if_pos hks]
        exact if_neg (show ¬ 0 < x.dw by omega)
      rw [hsend]
      have HD7 := HF7.out.due_ t _ rfl
      rw [← HX5.out] at HD7
      exact Left.then_ rfl HS3.out.2.1 (fun g h => .inl h) (Left.then_ HX5.out.symm HC5.out.1 HC5.out.2 (Left.then_ rfl (Ch.of_below _ HB7.out) (fun g h => .inl h) HD7))
  · have hl0 : ((l.length : Int) == 0) = false := by rw [beq_eq_false_iff_ne]; have := HLL.out; have : x.ks.length ≠ 0 := fun e => hks (List.eq_nil_of_length_eq_zero e); omega
    go_enter Tryz.func193, Tryz.ntmps193
    go_wp2_with (first
      | ((with_reducible refine wpList_here ?_); refine wpList_boxV (o := ⟨some 4, _, _, _, _, _⟩) rfl 206 (.tmp 1) rfl p.vals rfl _ rfl ?_; intro w1 z1 b1 s1; have HB1 := Lib.hid b1; have HF1 := Lib.hid (H.out.below b1); have c0' := HF1.out.fa.c0; have f10 := HF1.out.fa.fz 10; have f11 := HF1.out.fa.fz 11; have c10 := HF1.out.fa.c10; have c11 := HF1.out.fa.c11; dsimp only [F.fc, ptr] at c0' c10 c11; clear b1 c0)
      | (go_at_call 252; refine (HLen.out _ HB1.out).mono ?_; rintro e w2 ⟨rfl, rfl⟩)
      | fail)
    have HY := Lib.hid HF1.out
    have HS3 := Lib.hid (And.intro (rfl : (⟨fb, qb, v, l, u, ol⟩ : Sh).fb = fb) (And.intro (Ch.of_below (⟨fb, qb, v, l, u, ol⟩ : Sh).T HB1.out) (fun (g : Nat) (h : (⟨fb, qb, v, l, u, ol⟩ : Sh).T g) => (Or.inl h : (⟨fb, qb, v, l, u, ol⟩ : Sh).T g ∨ w.heap.size ≤ g))))
    have r3 := z1.range
    have k3 : w.heap.size + 1 = w2.heap.size := s1.symm
    have pg3 : PG w2 p := HP.out.below HB1.out
    clear z1 f10 f11 c10 c11 c0' s1 HF1
    generalize w2 = w2s at *
    have HY := Lib.hid (HY.out.below (Below.refl _ _).drew)
    have HS3 := Lib.hid (And.intro HS3.out.1 (And.intro HS3.out.2.1.drew HS3.out.2.2))
    have r3 : w2s.drew.rangeAt w.heap.size 0 p.vals := r3
    have k3 : w.heap.size + 1 = w2s.drew.heap.size := k3
    have pg3 : PG w2s.drew p := pg3.below (Below.refl _ _).drew
    generalize hwd : w2s.drew = w3 at *
    generalize hgz : w.heap.size = g at *
    have HG3 := Lib.hid (pg3)
    have HPush := Lib.hid (Push_any HY.out.qu p HG3.out (fun g o s' e hn => ⟨(HAP.out g o s' e hn).1, (HAP.out g o s' e hn).2.1⟩) HD.out (by show l.length ≤ 1073741824; have := HLL.out; have := HL.out; omega))
    have e0 : w3.cell? ⟨fb, 0, none⟩ = some (.pointer (some ⟨qb, 0, none⟩)) ∧ w3.rangeAt g 0 p.vals := ⟨HY.out.fa.c0, r3⟩
    clear r3
    unfold ptr at HPush
    dsimp only at HPush
    refine wp_region_noPanic ?_
    refine wp_region_held_drew (S := fun W => W.cell? ⟨fb, 0, none⟩ = some (.pointer (some ⟨qb, 0, none⟩)) ∧ W.rangeAt g 0 p.vals) (by kernel_rfl) (by rw [hwd]; exact e0) (fun _ => ?_)
    rw [hwd]
    clear hwd
    refine held_take (i := 0) (v := .pointer (some ⟨fb, 0, none⟩)) (some 19) rfl rfl (by kernel_rfl) (by kernel_rfl) (by kernel_rfl) (fun _ _ _ h => h) (Or.inl ⟨by rfl, fun W hW => by go_simp⟩) e0 ?_
    simp only [Act.put, List.setIfInBounds_toArray, List.set_cons_zero, List.set_cons_succ]
    refine held_take (i := 1) (v := .pointer (some ⟨fb, 0, none⟩)) (some 20) rfl rfl (by kernel_rfl) (by kernel_rfl) (by kernel_rfl) (fun _ _ _ h => h) (Or.inl ⟨by rfl, fun W hW => by go_simp⟩) e0 ?_
    simp only [Act.put, List.setIfInBounds_toArray, List.set_cons_zero, List.set_cons_succ]
    refine held_take (i := 5) (v := .agg p.vals.toArray) (some 24) rfl rfl (by kernel_rfl) (by kernel_rfl) (by kernel_rfl) (fun _ _ _ h => h) (yieldsIf_load_mid (by rfl) 206 (.tmp 4) rfl _ _ rfl _ _ (fun W hW => hW.2) Tryz.underlying206 rfl infoPc) e0 ?_
    simp only [Act.put, List.setIfInBounds_toArray, List.set_cons_zero, List.set_cons_succ]
    refine held_take (i := 2) (v := .pointer (some ⟨fb, 0, none⟩)) (some 21) rfl rfl (by kernel_rfl) (by kernel_rfl) (by kernel_rfl) (fun _ _ _ h => h) (Or.inl ⟨by rfl, fun W hW => by go_simp⟩) e0 ?_
    simp only [Act.put, List.setIfInBounds_toArray, List.set_cons_zero, List.set_cons_succ]
    refine held_take (i := 3) (v := .pointer (some ⟨fb, 0, none⟩)) (some 22) rfl rfl (by kernel_rfl) (by kernel_rfl) (by kernel_rfl) (fun _ _ _ h => h) (Or.inl ⟨by rfl, fun W hW => by go_simp⟩) e0 ?_
    simp only [Act.put, List.setIfInBounds_toArray, List.set_cons_zero, List.set_cons_succ]
    refine held_take (i := 4) (v := .pointer (some ⟨qb, 0, none⟩)) (some 23) rfl rfl (by kernel_rfl) (by kernel_rfl) (by kernel_rfl) (fun _ _ _ h => h) (Or.inl ⟨by rfl, fun W hW => by have hc := hW.1; go_simp⟩) e0 ?_
    simp only [Act.put, List.setIfInBounds_toArray, List.set_cons_zero, List.set_cons_succ]
    refine wpAnyH_ready (rs := [6]) (by kernel_rfl) (by simp) ?_
    refine AllReadyH.cons rfl (fun K hK => ?_) AllReadyH.nil
    go_simp
    refine HPush.out.mono ?_
    rintro e w4 hp4
    obtain ⟨q, s4, rfl, hq4, ho4, hn4, e4, eq4, f4, C4, n4⟩ := HY.out.pushed HK.out hp4
    obtain ⟨fb4, qb4, v4, l4, u4, ol4⟩ := s4
    dsimp only at e4 eq4 hn4
    subst e4 eq4
    have r4 : w4.rangeAt g 0 p.vals := rangeAt_ch C4 e0.2 (fun hT => by have := (H.out.in_ hT).2; omega)
    have S4 : w4.cell? ⟨fb4, 0, none⟩ = some (.pointer (some ⟨qb4, 0, none⟩)) ∧ w4.rangeAt g 0 p.vals := ⟨f4.fa.c0, r4⟩
    have hgn : ¬ (g = fb4 ∨ u4.ownBlock = some g) := fun e => by
      rcases e with e | e
      · have : fb4 < w.heap.size := (H.out.in_ (.inl rfl)).2
        omega
      · have hT : (⟨fb4, qb4, v4, l4, u4, ol4⟩ : Sh).T g := .inr (.inr (.inl e))
        rcases n4 g hT with h | h
        · have := (H.out.in_ h).2
          omega
        · omega
    have HF4 := Lib.hid f4
    have HC4 := Lib.hid (And.intro C4 n4)
    have HQ4 := Lib.hid (And.intro ho4 hn4)
    have HT := Lib.hid (tell_any f4 q ho4 (fun g hg => (hn4 g hg).2) HN.out)
    have HKq : Hid (q.key = p.key.at x.en) := Lib.hid hq4
    have HS4 := Lib.hid C4.size
    clear hp4 f4 C4 n4 ho4 hn4 hq4 HPush r4
    dsimp only
    refine hK.out _ _ S4 (fun _ => ?_)
    clear hK
    try simp only [Act.put, List.setIfInBounds_toArray, List.set_cons_zero, List.set_cons_succ]
    refine wpAnyH_ready (rs := [7]) (by kernel_rfl) (by simp) ?_
    refine AllReadyH.cons rfl (fun K hK => ?_) AllReadyH.nil
    go_simp
    unfold ptr at HT
    dsimp only at HT
    refine HT.out.mono ?_
    rintro e w5 ⟨rfl, t5⟩
    have HL5 := Lib.hid (leftP HQ4.out.2 HC4.out.1 HC4.out.2 t5)
    rw [HKq.out] at HL5
    obtain ⟨u5, ol5, f5, C5, _, _⟩ := t5
    have S5 : w5.cell? ⟨fb4, 0, none⟩ = some (.pointer (some ⟨qb4, 0, none⟩)) ∧ w5.rangeAt g 0 p.vals := ⟨f5.fa.c0, rangeAt_ch C5 S4.2 hgn⟩
    clear f5 C5 HT
    dsimp only
    refine hK.out _ _ S5 (fun _ => ?_)
    clear hK
    try simp only [Act.put, List.setIfInBounds_toArray, List.set_cons_zero, List.set_cons_succ]
    refine wpAnyH_done (by kernel_rfl) ?_ _
    refine NoPanic.normal ?_
    obtain ⟨s5, e5, f5, C5, n5⟩ := HL5.out
    have e5' : fb4 = s5.fb := e5.symm
    have HIS := Lib.hid (fun W => is_any x.df x.dw W)
    have c8 := f5.fa.c8
    have c9 := f5.fa.c9
    rw [← e5'] at c8 c9
    have HF5 := Lib.hid f5
    have HC5 := Lib.hid (And.intro C5 n5)
    have c8' : w5.cell? ⟨fb4, 8, none⟩ = some (.int .i64 x.df) := c8
    have c9' : w5.cell? ⟨fb4, 9, none⟩ = some (.int .i64 x.dw) := c9
    have HX5 := Lib.hid e5'
    clear f5 C5 n5 e5 c8 c9 HL5 e5'
    unfold dl at HIS
    by_cases hdw : 0 < x.dw
    · rw [decide_eq_true hdw] at HIS
      go_wp2_with (first
        | (go_at_call 254; refine (HIS.out _).mono ?_; rintro e w6 ⟨rfl, b6⟩; have HB6 := Lib.hid b6; clear b6)
        | fail)
      go_end0
      refine ⟨rfl, ?_⟩
      have hsend : x.send p.key t = ((x.push p.key).tell (p.key.at x.en)) := by
        unfold F.send
        rw [if_neg hks]
        exact if_pos hdw
      rw [hsend]
      exact Left.then_ rfl HS3.out.2.1 (fun g h => .inl h) (Left.then_ HX5.out.symm HC5.out.1 HC5.out.2 (Left.same HF5.out HB6.out))
    · rw [decide_eq_false hdw] at HIS
      go_wp2_with (first
        | (go_at_call 254; refine (HIS.out _).mono ?_; rintro e w6 ⟨rfl, b6⟩; have HB6 := Lib.hid b6; have HW := Lib.hid (Wait_any (HF5.out.below b6).fa HE.out); unfold ptr1 at HW; rw [← HX5.out] at HW; clear b6)
        | (go_at_call 255; refine HW.out.mono ?_; rintro e w7 ⟨rfl, b7⟩; have HB7 := Lib.hid (below_trans HB6.out b7); have HF7 := Lib.hid (HF5.out.below HB7.out); have d8 := HF7.out.fa.c8; have d9 := HF7.out.fa.c9; have g8 := HF7.out.fa.fz 8; have g9 := HF7.out.fa.fz 9; rw [← HX5.out] at d8 d9 g8 g9; clear b7)
        | fail)
      go_end0
      refine ⟨rfl, ?_⟩
      have hsend : x.send p.key t = ((x.push p.key).tell (p.key.at x.en)).due t := by
        unfold F.send
        rw [if_neg hks]
        exact if_neg (show ¬ 0 < x.dw by omega)
      rw [hsend]
      have HD7 := HF7.out.due_ t _ rfl
      rw [← HX5.out] at HD7
      exact Left.then_ rfl HS3.out.2.1 (fun g h => .inl h) (Left.then_ HX5.out.symm HC5.out.1 HC5.out.2 (Left.then_ rfl (Ch.of_below _ HB7.out) (fun g h => .inl h) HD7))
end
theorem Fl.mono {base base' : Nat} {w : World} {s : Sh} {x : F} (h : Fl base w s x) (hb : base' ≤ base) : Fl base' w s x :=
  ⟨h.fa, Nat.le_trans hb h.lo, ⟨h.qu.obj, Nat.le_trans hb h.qu.lo, h.qu.row.mono hb, fun p hp => (h.qu.ok p hp).mono hb, h.qu.num⟩, h.ky, h.cn, h.lt, World.ownsRow.mono h.row hb, h.os, fun o ho => ⟨(h.og o ho).1.mono hb, (h.og o ho).2⟩, h.ap, h.rcv⟩
/-- A Syn. -/
def sP : Pc := { zP with syn := true }
def sK : Ky := ⟨0, true, false, 0, false, []⟩
theorem sP_ok (w : World) : PG w sP := ⟨Nat.zero_lt_succ _, ⟨by show (-9223372036854775808 : Int) ≤ 0; decide, by show (0 : Int) ≤ 9223372036854775807; decide⟩, RB.nil_ w⟩
/-- A flow that has not sent anything. -/
def F.init (i st rcv : Nat) : F := ⟨Es.zero, st, rcv, 0, 0, 0, 0, false, i, [], i, []⟩
def F.dial (i : Nat) (t : Int) : F := (F.init i 1 0).send sK t
def F.answer (i q : Nat) (t : Int) : F := (F.init i 2 (on q 1)).send sK t
/-- What a call leaves that makes a flow. -/
def MadeF (w : World) (x : F) (e : Ending) (w' : World) : Prop := ∃ s : Sh, e = .returned (ptr s.fb) ∧ Fl w.heap.size w' s x ∧ Below w.heap.size w w'
theorem Fl.fresh {w w1 : World} {qb i st rcv : Nat} (hq : ∀ base, base ≤ w.heap.size → Qu 258 base w1 qb (.slice none 0 0) [] i) (b : Below w.heap.size w w1) (hi : i < 4294967296) (hr : rcv < 4294967296) :
    Fl w.heap.size (w1.alloc (.cells ((F.init i st rcv).fc qb (.slice none 0 0)).cs 204)) ⟨w1.heap.size, qb, .slice none 0 0, [], .slice none 0 0, []⟩ (F.init i st rcv) :=
  ⟨heap_alloc_new w1 _, b.size, (hq _ (Nat.le_refl _)).below (below_a w1 _), rfl, rfl, hi, World.ownsRow_nil _ _ _ _, rfl, (fun o ho => by cases ho), (fun o ho => by cases ho), hr⟩
set_option maxHeartbeats 3200000 in
theorem begun_any (i st rcv : Nat) (t : Int) (w : World) (hi : i < 4294967296) (hr : rcv < 4294967296) (ht : isInt t) :
    Calls Tryz.prog 125 #[.int .u32 (i : Int), .int .i64 (st : Int), .int .u32 (rcv : Int), .int .i64 t] w (MadeF w ((F.init i st rcv).send sK t)) := by
  have HN := Lib.hid (New_any i w hi)
  unfold ptr at HN
  have HS := Lib.hid (fun (w1 : World) (qb : Nat) (hq : ∀ base, base ≤ w.heap.size → Qu 258 base w1 qb (.slice none 0 0) [] i) (b : Below w.heap.size w w1) =>
    send_any (Fl.fresh (st := st) hq b hi hr) sP (sP_ok _) (fun g o s' e _ => by cases e) (by decide) (by decide) (Nat.zero_le _) (Nat.zero_le _) Ok_zero t ht)
  unfold ptr at HS
  dsimp only at HS
  go_enter Tryz.func125, Tryz.ntmps125
  go_wp2_with fail
  refine HN.out.mono ?_
  rintro e w1 ⟨qb, rfl, hqb, hq, b1⟩
  clear hqb
  have HS1 := Lib.hid (HS.out w1 qb hq b1)
  have HF0 := Lib.hid (Fl.fresh (st := st) (rcv := rcv) hq b1 hi hr)
  have HB1 := Lib.hid (below_trans b1 (below_a w1 (.cells ((F.init i st rcv).fc qb (.slice none 0 0)).cs 204)))
  clear HS hq b1
  go_wp2_with fail
  refine HS1.out.mono ?_
  rintro e w2 ⟨rfl, s2, e2, f2, c2, n2⟩
  have HF2 := Lib.hid f2
  have HB2 : Hid (Below w.heap.size w w2) := Lib.hid (((Ch.of_below _ HB1.out).then_ c2).below (fun g hg hT => by have := (HF0.out.in_ hT).1; omega))
  have HE2 : Hid (w1.heap.size = s2.fb) := Lib.hid e2.symm
  clear f2 c2 n2 e2 HS1 HF0 HB1
  go_wp2_with fail
  go_ret
  exact ⟨s2, by rw [HE2.out]; rfl, HF2.out, HB2.out⟩
set_option maxHeartbeats 1600000 in
theorem Dial_any (i : Nat) (t : Int) (w : World) (hi : i < 4294967296) (ht : isInt t) : Calls Tryz.prog 85 #[.int .u32 (i : Int), .int .i64 t] w (MadeF w (F.dial i t)) := by
  have HB := Lib.hid (begun_any i 1 0 t w hi (by decide) ht)
  go_enter Tryz.func85, Tryz.ntmps85
  go_wp2_with fail
  refine HB.out.mono ?_
  rintro e w1 ⟨s, rfl, f, b⟩
  have HF := Lib.hid f
  have HB1 := Lib.hid b
  clear f b
  go_wp2_with fail
  go_ret
  exact ⟨s, rfl, HF.out, HB1.out⟩
end Go.Proofs.YtiehngeeamhlmaaGreatDoor.LF

namespace Go.Proofs.YtiehngeeamhlmaaGreatDoor.LF
set_option linter.unusedVariables false
set_option linter.unusedSimpArgs false
set_option maxRecDepth 20000
open Go.RowKit Go.Lib

/-- What is told, as a segment's cells. -/
def Oc.sg (o : Oc) : List Value := [.int .i64 0, .int .i64 0, .int .i64 0, .int .i64 0, .int .u32 (o.p.seq : Int), .int .u32 (o.ack : Int), .bool o.p.syn, .bool o.acks, .bool o.p.fin, .bool o.rst, .int .i64 0, .slice none 0 0, .slice o.p.dA o.p.dn o.p.dc]
theorem sg_length (o : Oc) : o.sg.length = 13 := rfl
theorem sg_one (o : Oc) : ∀ u ∈ o.sg, u.oneCell' = true := by
  intro u hu
  simp only [Oc.sg, List.mem_cons, List.not_mem_nil, or_false] at hu
  rcases hu with rfl | rfl | rfl | rfl | rfl | rfl | rfl | rfl | rfl | rfl | rfl | rfl | rfl <;> rfl
theorem infoSg : (Tryz.prog.info? 54).map (·.size) = some 13 := by kernel_rfl

set_option maxHeartbeats 1600000 in
theorem Answer_any (i : Nat) (o : Oc) (t : Int) (w : World) (hi : i < 4294967296) (hq : o.p.seq < 4294967296) (ht : isInt t) : Calls Tryz.prog 66 #[.int .u32 (i : Int), .agg o.sg.toArray, .int .i64 t] w (MadeF w (F.answer i o.p.seq t)) := by
  have HB := Lib.hid (fun W => begun_any i 2 (on o.p.seq 1) t W hi (on_lt _ _) ht)
  have HO := Lib.hid (fun W => On_any o.p.seq 1 W hq (by omega))
  go_enter Tryz.func66, Tryz.ntmps66
  go_wp2_with (first
    | ((with_reducible refine wpList_here ?_); refine wpList_boxV (o := ⟨some 4, _, _, _, _, _⟩) rfl 54 (.tmp 1) rfl o.sg rfl _ rfl ?_; intro w1 z1 b1 s1; have k4 : w1.cell? ⟨w.heap.size, 4, none⟩ = some (.int .u32 (o.p.seq : Int)) := (z1 4 (by rw [sg_length]; omega)).1; have HB1 := Lib.hid b1; clear b1 z1)
    | fail)
  refine (HO.out _).mono ?_
  rintro e w2 ⟨rfl, b2⟩
  have HB2 := Lib.hid (below_trans HB1.out b2)
  clear b2 k4 s1 HO
  have HBG := Lib.hid (HB.out w2)
  clear HB HB1
  go_wp2_with fail
  refine HBG.out.mono ?_
  rintro e w3 ⟨s, rfl, f, b⟩
  have HF := Lib.hid (f.mono HB2.out.size)
  have HB3 := Lib.hid (below_trans HB2.out b)
  clear f b
  go_wp2_with fail
  go_ret
  exact ⟨s, rfl, HF.out, HB3.out⟩

section
variable {base : Nat} {w : World} {s : Sh} {x : F}
/-- Nothing is to be sent any more. -/
def F.quiet (x : F) : F := { x with os := [] }
def Sh.quiet (s : Sh) : Sh := { s with ov := .slice none 0 0, ol := [] }
set_option maxHeartbeats 1600000 in
theorem Out_any (h : Fl base w s x) : Calls Tryz.prog 103 #[ptr s.fb] w fun e w' => e = .returned s.ov ∧ Fl base w' s.quiet x.quiet ∧ Ch w w' (fun g => g = s.fb) := by
  have H := Lib.hid h
  have c12 := h.fa.c12
  have f12 := h.fa.fz 12
  obtain ⟨A, c, hv, hc1, hc2⟩ := own_slice h.row
  have c12' : w.cell? ⟨s.fb, 12, none⟩ = some s.ov := c12
  rw [hv] at c12'
  rw [hv]
  have HV := Lib.hid hv
  clear h c12 hv
  generalize hn : s.ol.length = n at *
  clear hn
  unfold ptr
  go_enter Tryz.func103, Tryz.ntmps103
  go_wp2_with fail
  go_ret
  have k := ch_set w s.fb 12 (.slice none 0 0)
  have h := H.out
  refine ⟨rfl, ⟨h.fa.set 12 _ _ rfl, h.lo, h.qu.frame k (fun g hg e => h.ne_queue (e ▸ hg)), h.ky, h.cn, h.lt, World.ownsRow_nil _ _ _ _, rfl, (fun o ho => by cases ho), (fun o ho => by cases ho), h.rcv⟩, k⟩
set_option maxHeartbeats 1600000 in
theorem Left_any (h : Fl base w s x) (hl : x.ks.length ≤ 1073741824) (hd : ∀ k ∈ x.ks, k.ds.length ≤ 1099511627776) : Calls Tryz.prog 235 #[ptr s.fb] w fun e w' => (∃ A c, e = .returned (.slice A x.ks.length c)) ∧ Below w.heap.size w w' := by
  have HA := Lib.hid (All_any h.qu (by rw [h.llen]; omega) (fun p hp => by
    have := hd p.key (by rw [← h.ky]; exact List.mem_map_of_mem hp)
    have h2 := (h.qu.ok p hp).pg.data.len
    have : p.ds.length ≤ 1099511627776 := this
    omega))
  rw [h.ky] at HA
  have c0 := h.fa.c0
  clear h hl hd
  dsimp only [F.fc] at c0
  unfold ptr at *
  go_enter Tryz.func235, Tryz.ntmps235
  go_wp2_with fail
  refine HA.out.mono ?_
  rintro e w1 ⟨v, rfl, ⟨qs, h1, h2, h3⟩, b1⟩
  obtain ⟨A, c, rfl, _, _⟩ := own_slice h1
  have HB := Lib.hid b1
  clear h1 h2 h3 b1
  go_wp2_with fail
  go_ret
  exact ⟨⟨A, c, rfl⟩, HB.out⟩

/-- What Send does; what it answers. -/
def dK (dsn : Int) (last : Bool) (ds : List UInt8) : Ky := ⟨0, false, false, dsn, last, ds⟩
def F.put (x : F) (dsn : Int) (last : Bool) (ds : List UInt8) (t : Int) : F := if x.st = 3 ∨ x.st = 6 then (if ds.length = 0 ∨ 8 < ds.length then x else x.send (dK dsn last ds) t) else x
def F.putE (x : F) (ds : List UInt8) : Int := if x.st = 3 ∨ x.st = 6 then (if ds.length = 0 ∨ 8 < ds.length then 1 else 0) else 9
set_option maxHeartbeats 3200000 in
theorem Send_any (h : Fl base w s x) (A : Option Addr) (n c : Nat) (ds : List UInt8) (hp : RB w A n c ds) (hap : ∀ g o s', A = some ⟨g, o, s'⟩ → 0 < n → ¬ s.T g) (dsn : Int) (hdsn : isInt dsn) (last : Bool) (hl : x.ks.length ≤ 1073741824) (hn : x.os.length ≤ 549755813888) (hE : x.E.Ok) (t : Int) (ht : isInt t) :
    Calls Tryz.prog 179 #[ptr s.fb, .slice A n c, .int .i64 dsn, .bool last, .int .i64 t] w fun e w' => e = .returned (.int .i64 (x.putE ds)) ∧ Left base w s (x.put dsn last ds t) w' := by
  have hlen := hp.len
  have HS := Lib.hid (sends_any h.fa)
  have H := Lib.hid h
  unfold F.putE F.put
  rw [hlen]
  by_cases h1 : x.st = 3 ∨ x.st = 6
  · have e1 : decide ((x.fc s.qb s.ov).st = 3 ∨ (x.fc s.qb s.ov).st = 6) = true := decide_eq_true h1
    rw [e1] at HS
    rw [if_pos h1, if_pos h1]
    by_cases h2 : n = 0
    · subst h2
      rw [if_pos (.inl rfl), if_pos (.inl rfl)]
      clear h h1 e1 hp hap hl hn hE ht hdsn
      unfold ptr at *
      go_enter Tryz.func179, Tryz.ntmps179
      go_wp2_with (first | (go_at_call 237; refine HS.out.mono ?_; rintro e w1 ⟨rfl, rfl⟩) | fail)
      go_ret
      exact ⟨rfl, Left.same H.out (Below.refl _ _)⟩
    · by_cases h3 : 8 < n
      · rw [if_pos (.inr h3), if_pos (.inr h3)]
        have n2 : ((n : Int) == 0) = false := by rw [beq_eq_false_iff_ne]; omega
        have n3 : (8 : Int) < (n : Int) := by omega
        clear h h1 e1 hp hap hl hn hE ht hdsn h2 h3
        unfold ptr at *
        go_enter Tryz.func179, Tryz.ntmps179
        go_wp2_with (first | (go_at_call 237; refine HS.out.mono ?_; rintro e w1 ⟨rfl, rfl⟩) | fail)
        go_ret
        exact ⟨rfl, Left.same H.out (Below.refl _ _)⟩
      · rw [if_neg (by omega), if_neg (by omega)]
        have n2 : ((n : Int) == 0) = false := by rw [beq_eq_false_iff_ne]; omega
        have n3 : decide ((8 : Int) < (n : Int)) = false := decide_eq_false (by omega)
        have HSend := Lib.hid (send_any h ⟨0, false, false, A, n, c, dsn, last, ds⟩ ⟨by show (0 : Nat) < 4294967296; omega, hdsn, hp⟩ (fun g o s' e hn => ⟨fun e2 => hap g o s' e hn (.inr (.inl (.inl e2))), fun e2 => hap g o s' e hn (.inr (.inl (.inr (.inl e2)))), fun e2 => hap g o s' e hn (.inl e2)⟩) (by show n ≤ _; omega) (by show 0 < ds.length + bn false + bn false; omega) hl hn hE t ht)
        clear h h1 e1 hp hap hl hn hE ht hdsn h2 h3
        unfold ptr at *
        go_enter Tryz.func179, Tryz.ntmps179
        go_wp2_with (first | (go_at_call 237; refine HS.out.mono ?_; rintro e w1 ⟨rfl, rfl⟩) | (go_at_call 193; refine HSend.out.mono ?_; rintro e w2 ⟨rfl, l2⟩; have HL2 := Lib.hid l2; clear l2) | fail)
        go_ret
        exact ⟨rfl, HL2.out⟩
  · have e1 : decide ((x.fc s.qb s.ov).st = 3 ∨ (x.fc s.qb s.ov).st = 6) = false := decide_eq_false h1
    rw [e1] at HS
    rw [if_neg h1, if_neg h1]
    clear h h1 e1 hp hap hl hn hE ht hdsn
    unfold ptr at *
    go_enter Tryz.func179, Tryz.ntmps179
    go_wp2_with (first | (go_at_call 237; refine HS.out.mono ?_; rintro e w1 ⟨rfl, rfl⟩) | fail)
    go_ret
    exact ⟨rfl, Left.same H.out (Below.refl _ _)⟩

def F.at_ (x : F) (st : Nat) : F := { x with st := st }
def fP : Pc := { zP with fin := true }
def fK : Ky := ⟨0, false, true, 0, false, []⟩
theorem fP_ok (w : World) : PG w fP := ⟨Nat.zero_lt_succ _, ⟨by show (-9223372036854775808 : Int) ≤ 0; decide, by show (0 : Int) ≤ 9223372036854775807; decide⟩, RB.nil_ w⟩
theorem send_st (x : F) (k : Ky) (t : Int) : (x.send k t).st = x.st := by
  unfold F.send
  dsimp only
  split <;> split <;> rfl
/-- What Close does. -/
def F.close (x : F) (t : Int) : F := if x.st = 3 then (x.send fK t).at_ 4 else if x.st = 6 then (x.send fK t).at_ 8 else x
def F.closeE (x : F) : Int := if x.st = 3 ∨ x.st = 6 then 0 else 9
theorem Left.at_ {w' : World} {st : Nat} {x' : F} (k : Fl base w' s x') : Left base w' s (x'.at_ st) (w'.setCell ⟨s.fb, 5, none⟩ (.int .i64 (st : Int))) :=
  k.left (k.fa.set 5 _ ((x'.at_ st).fc s.qb s.ov) rfl) (ch_set _ _ _ _) rfl rfl rfl rfl rfl k.rcv
set_option maxHeartbeats 3200000 in
theorem Close_any (h : Fl base w s x) (hl : x.ks.length ≤ 1073741824) (hn : x.os.length ≤ 549755813888) (hE : x.E.Ok) (t : Int) (ht : isInt t) :
    Calls Tryz.prog 175 #[ptr s.fb, .int .i64 t] w fun e w' => e = .returned (.int .i64 x.closeE) ∧ Left base w s (x.close t) w' := by
  have HS := Lib.hid (sends_any h.fa)
  have H := Lib.hid h
  unfold F.closeE F.close
  by_cases h1 : x.st = 3 ∨ x.st = 6
  · have e1 : decide ((x.fc s.qb s.ov).st = 3 ∨ (x.fc s.qb s.ov).st = 6) = true := decide_eq_true h1
    rw [e1] at HS
    rw [if_pos h1]
    have HSend := Lib.hid (send_any h fP (fP_ok w) (fun g o s' e hn => by cases e) (by decide) (by decide) hl hn hE t ht)
    by_cases h2 : x.st = 3
    · rw [if_pos h2]
      clear h h1 e1 hl hn hE ht
      unfold ptr at *
      go_enter Tryz.func175, Tryz.ntmps175
      go_wp2_with (first | (go_at_call 237; refine HS.out.mono ?_; rintro e w1 ⟨rfl, rfl⟩) | (go_at_call 193; refine HSend.out.mono ?_; rintro e w2 ⟨rfl, s2, e2, f2, c2, n2⟩; have HF := Lib.hid f2; have HC := Lib.hid (And.intro e2 (And.intro c2 n2)); have c5 := f2.fa.c5; have f5 := f2.fa.fz 5; dsimp only [F.fc] at c5; rw [send_st, h2] at c5; rw [e2] at c5 f5; clear e2 f2 c2 n2) | fail)
      go_ret
      have := Left.at_ (st := 4) HF.out
      rw [HC.out.1] at this
      exact ⟨rfl, Left.then_ HC.out.1 HC.out.2.1 HC.out.2.2 this⟩
    · have h3 : x.st = 6 := h1.resolve_left h2
      rw [if_neg h2, if_pos h3]
      clear h h1 e1 hl hn hE ht
      unfold ptr at *
      go_enter Tryz.func175, Tryz.ntmps175
      go_wp2_with (first | (go_at_call 237; refine HS.out.mono ?_; rintro e w1 ⟨rfl, rfl⟩) | (go_at_call 193; refine HSend.out.mono ?_; rintro e w2 ⟨rfl, s2, e2, f2, c2, n2⟩; have HF := Lib.hid f2; have HC := Lib.hid (And.intro e2 (And.intro c2 n2)); have c5 := f2.fa.c5; have f5 := f2.fa.fz 5; dsimp only [F.fc] at c5; rw [send_st, h3] at c5; rw [e2] at c5 f5; clear e2 f2 c2 n2) | fail)
      go_ret
      have := Left.at_ (st := 8) HF.out
      rw [HC.out.1] at this
      exact ⟨rfl, Left.then_ HC.out.1 HC.out.2.1 HC.out.2.2 this⟩
  · have e1 : decide ((x.fc s.qb s.ov).st = 3 ∨ (x.fc s.qb s.ov).st = 6) = false := decide_eq_false h1
    rw [e1] at HS
    rw [if_neg h1, if_neg (fun e => h1 (.inl e)), if_neg (fun e => h1 (.inr e))]
    clear h h1 e1 hl hn hE ht
    unfold ptr at *
    go_enter Tryz.func175, Tryz.ntmps175
    go_wp2_with (first | (go_at_call 237; refine HS.out.mono ?_; rintro e w1 ⟨rfl, rfl⟩) | fail)
    go_ret
    exact ⟨rfl, Left.same H.out (Below.refl _ _)⟩
end
end Go.Proofs.YtiehngeeamhlmaaGreatDoor.LF

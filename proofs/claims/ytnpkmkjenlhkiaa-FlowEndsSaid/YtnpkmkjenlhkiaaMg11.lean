/- The contract of acknowledge. Conditions: the flow stands, its pieces come to at most 2^31 numbers, at most 2^30 pieces; ticks between 0 and 2^60. -/
import Derived.Test.YtnpkmkjenlhkiaaMg10
namespace Go.Proofs.Ytnpkmkjenlhkiaa
set_option linter.unusedVariables false
set_option linter.unusedSimpArgs false
set_option maxRecDepth 20000
open Go.RowKit Go.Lib

/-- The pieces that an acknowledgement lets go. -/
def F.gone (x : F) (a : Nat) : List Ky := if Go.Proofs.Ytnpkmkjenlhkiaa.st x.b a ≤ tot x.ks then x.ks.take (cnt x.ks (Go.Proofs.Ytnpkmkjenlhkiaa.st x.b a)) else []
/-- So many pieces have gone. -/
def F.cut (x : F) (k : Nat) : F := { x with ks := x.ks.drop k, b := on x.b (tot (x.ks.take k) : Int) }
def F.samp (x : F) (t : Int) : F := { x with E := x.E.smp (tks x.bg t) }
def F.fresh_ (x : F) : F := { x with E := x.E.fresh, tm := false, tries := 0, df := 0, dw := 0 }
def F.redue (x : F) (t : Int) : F := if x.ks = [] then x else x.due t
/-- An acknowledgement. -/
def F.acked (x : F) (a : Nat) (t : Int) : F :=
  if x.gone a = [] then x
  else
    let y := x.cut (x.gone a).length
    ((if y.tm = true then y.samp t else y).fresh_).redue t
section
variable {base : Nat} {w w' : World} {s : Sh} {x : F}
theorem Fl.acked_ (h : Fl base w s x) {k : Nat} (hk : k ≤ x.ks.length) {e : Ending} (t : AckP 97 base w s.qb s.v s.l x.en k e w') :
    ∃ vo s', e = .returned (.tuple #[vo, .bool true]) ∧ Own6 w.heap.size w' vo (x.ks.take k) ∧ s'.fb = s.fb ∧ s'.qb = s.qb ∧ Fl base w' s' (x.cut k) ∧ Ch w w' s.T ∧ ∀ g, s'.T g → s.T g ∨ w.heap.size ≤ g := by
  obtain ⟨vo, v', rfl, ho, hq, hb, c⟩ := t
  rw [h.ky] at ho
  have hold : ∀ g, Qb s.qb v' (s.l.drop k) g → Qb s.qb s.v s.l g := fun g hg => by
    rcases hg with e | hg | ⟨p, hp, hg⟩
    · exact .inl e
    · exact .inr (.inl (hb g hg))
    · exact .inr (.inr ⟨p, List.mem_of_mem_drop hp, hg⟩)
  have hne : ∀ g, ¬ Qb s.qb s.v s.l g → ¬ (g = s.qb ∨ s.v.ownBlock = some g) := fun g hn e => hn (by rcases e with e | e; exact .inl e; exact .inr (.inl e))
  refine ⟨vo, { s with v := v', l := s.l.drop k }, rfl, ho, rfl, rfl, ?_, c.mono (fun g _ e => by rcases e with e | e; exact .inr (.inl (.inl e)); exact .inr (.inl (.inr (.inl e)))), fun g hg => ?_⟩
  · refine ⟨h.fa.ch c (hne _ h.ne_queue), h.lo, hq, ?_, h.cn.drop k h.lt hk, (show on x.b (tot (x.ks.take k) : Int) < 4294967296 from on_lt _ _), own_ch2 h.row c (fun g hg => hne g (h.row_queue hg)), h.os, fun o ho2 => ⟨(h.og o ho2).1.ch c (fun g hg => hne g (h.ap o ho2 g hg)), (h.og o ho2).2⟩, fun o ho2 g hg hqb => h.ap o ho2 g hg (hold g hqb), h.rcv⟩
    show (s.l.drop k).map Pc.key = x.ks.drop k
    rw [List.map_drop, h.ky]
  · rcases hg with e | hg | hg | hg
    · exact .inl (.inl e)
    · exact .inl (.inr (.inl (hold g hg)))
    · exact .inl (.inr (.inr (.inl hg)))
    · exact .inl (.inr (.inr (.inr hg)))
theorem Fl.samp_ {e : Ending} {t : Int} (h : Fl base w s x) (d : Did w s.fb ((x.fc s.qb s.ov).est (x.E.smp (tks x.bg t))) e w') : Fl base w' s (x.samp t) ∧ Ch w w' (fun g => g = s.fb) :=
  ⟨h.did d.2.1 d.2.2 rfl rfl rfl rfl rfl h.rcv, d.2.2⟩
def F.untimed (x : F) : F := { x with tm := false, tries := 0 }
theorem Fl.untimed_ (h : Fl base w s x) : Fl base ((w.setCell ⟨s.fb, 11, none⟩ (.bool false)).setCell ⟨s.fb, 7, none⟩ (.int .i64 0)) s x.untimed ∧ Ch w ((w.setCell ⟨s.fb, 11, none⟩ (.bool false)).setCell ⟨s.fb, 7, none⟩ (.int .i64 0)) (fun g => g = s.fb) :=
  ⟨h.did ((h.fa.set 11 (.bool false) { x.fc s.qb s.ov with tm := false } rfl).set 7 (.int .i64 0) { x.fc s.qb s.ov with tm := false, tries := 0 } rfl) ((ch_set _ _ _ _).set _ _) rfl rfl rfl rfl rfl h.rcv, (ch_set _ _ _ _).set _ _⟩
theorem Fl.est_ {e : Ending} {E : Es} (h : Fl base w s x) (d : Did w s.fb ((x.fc s.qb s.ov).est E) e w') : Fl base w' s { x with E := E } ∧ Ch w w' (fun g => g = s.fb) :=
  ⟨h.did d.2.1 d.2.2 rfl rfl rfl rfl rfl h.rcv, d.2.2⟩
theorem Fl.undue_ (h : Fl base w s x) (a d : Int) : Fl base ((w.setCell ⟨s.fb, 8, none⟩ (.int .i64 a)).setCell ⟨s.fb, 9, none⟩ (.int .i64 d)) s { x with df := a, dw := d } ∧ Ch w ((w.setCell ⟨s.fb, 8, none⟩ (.int .i64 a)).setCell ⟨s.fb, 9, none⟩ (.int .i64 d)) (fun g => g = s.fb) :=
  ⟨h.did ((h.fa.set 8 (.int .i64 a) { x.fc s.qb s.ov with df := a } rfl).set 9 (.int .i64 d) { x.fc s.qb s.ov with df := a, dw := d } rfl) ((ch_set _ _ _ _).set _ _) rfl rfl rfl rfl rfl h.rcv, (ch_set _ _ _ _).set _ _⟩
theorem own6_fb (h : Fl base w s x) {m : Nat} {vo : Value} {ks : List Ky} (o : Own6 m w vo ks) (hm : s.fb < m) (c : Ch w w' (fun g => g = s.fb)) : Own6 m w' vo ks := o.frame c (fun g hg e => by omega)

/-- What is known of a flow behind a call: where it is, and the pieces that the call told. -/
structure Ak (base : Nat) (w w' : World) (s s' : Sh) (x' : F) (vo : Value) (ks : List Ky) : Prop where
  fb : s'.fb = s.fb
  qb : s'.qb = s.qb
  fl : Fl base w' s' x'
  ch : Ch w w' s.T
  nw : ∀ g, s'.T g → s.T g ∨ w.heap.size ≤ g
  ow : Own6 w.heap.size w' vo ks
theorem Ak.left {s' : Sh} {x' : F} {vo : Value} {ks : List Ky} (h : Ak base w w' s s' x' vo ks) : Left base w s x' w' := ⟨s', h.fb, h.fl, h.ch, h.nw⟩
theorem Ak.step {w2 : World} {s' : Sh} {x' x2 : F} {vo : Value} {ks : List Ky} (h : Ak base w w' s s' x' vo ks) (hlt : s.fb < w.heap.size) (f : Fl base w2 s' x2) (c : Ch w' w2 (fun g => g = s.fb)) : Ak base w w2 s s' x2 vo ks :=
  ⟨h.fb, h.qb, f, h.ch.trans c (fun _ _ h => h) (fun g _ e => .inl e), h.nw, h.ow.frame c (fun g hg e => by omega)⟩
theorem Ak.below {w2 : World} {s' : Sh} {x' : F} {vo : Value} {ks : List Ky} (h : Ak base w w' s s' x' vo ks) (b : Below w'.heap.size w' w2) : Ak base w w2 s s' x' vo ks :=
  ⟨h.fb, h.qb, h.fl.below b, h.ch.trans (Ch.of_below (fun _ => False) b) (fun _ _ h => h) (fun _ _ e => e.elim), h.nw, h.ow.below b⟩
/-- What acknowledge leaves. -/
def AcP (base : Nat) (w : World) (s : Sh) (x : F) (a : Nat) (t : Int) (e : Ending) (w' : World) : Prop := ∃ vo, e = .returned vo ∧ Own6 w.heap.size w' vo (x.gone a) ∧ Left base w s (x.acked a t) w'
theorem own6_nil (m : Nat) (w : World) : Own6 m w (.slice none 0 0) [] := ⟨[], World.ownsRow_nil _ _ _ _, rfl, fun q hq => by cases hq⟩

set_option maxHeartbeats 3200000 in
theorem acknowledge_any (h : Fl base w s x) (a : Nat) (ha : a < 4294967296) (ht : tot x.ks ≤ 2147483648) (hl : x.ks.length ≤ 1073741824) (hd : ∀ k ∈ x.ks, k.ds.length ≤ 1099511627776) (hE : x.E.Ok) (hb : 0 ≤ x.bg ∧ x.bg ≤ 1152921504606846976) (t : Int) (h0 : 0 ≤ t ∧ t ≤ 1152921504606846976) :
    Calls Try.prog 60 #[ptr s.fb, .int .u32 (a : Int), .int .i64 t] w (AcP base w s x a t) := by
  have hfb := h.fa.lt
  have HFB := Lib.hid hfb
  have H := Lib.hid h
  have HE := Lib.hid hE
  have HT := Lib.hid (fun W => ticks_any x.bg t W hb h0)
  have c0 := h.fa.c0
  dsimp only [F.fc] at c0
  unfold AcP F.acked
  by_cases hst : st x.b a ≤ tot x.ks
  · have hg : x.gone a = x.ks.take (cnt x.ks (st x.b a)) := if_pos hst
    rw [hg]
    have hcl := cnt_le x.ks (st x.b a)
    have HA := Lib.hid (Ack_yes h.qu x.b a h.lt ha (by rw [h.ky]; exact h.cn) (by rw [h.ky]; exact ht) (by rw [h.llen]; exact hl) (fun p hp => by
      have := hd p.key (by rw [← h.ky]; exact List.mem_map_of_mem hp)
      have h2 := (h.qu.ok p hp).pg.data.len
      have : p.ds.length ≤ 1099511627776 := this
      omega) (by rw [h.ky]; exact hst))
    rw [h.ky] at HA
    have HK := Lib.hid (fun (W : World) (e : Ending) => h.acked_ (w' := W) (e := e) hcl)
    generalize cnt x.ks (st x.b a) = k at *
    have HCL := Lib.hid hcl
    clear h ht hl hd hE hb h0 hst hg hcl ha
    unfold ptr at *
    by_cases hk : x.ks.take k = []
    · rw [if_pos hk]
      rw [hk] at HK ⊢
      go_enter Try.func60, Try.ntmps60
      go_wp2_with fail
      refine HA.out.mono ?_
      rintro e w1 t1
      obtain ⟨vo, s1, rfl, ho, e1, e2, f1, c1, n1⟩ := HK.out _ _ t1
      obtain ⟨qs, hr, hk2, _⟩ := ho
      obtain ⟨A, c, rfl, _, _⟩ := own_slice hr
      rw [show ([] : List Ky).length = 0 from rfl]
      have hcut : x.cut k = x := by
        have hk0 : k = 0 ∨ x.ks = [] := by
          rcases List.take_eq_nil_iff.1 hk with h | h
          · exact .inl h
          · exact .inr h
        unfold F.cut
        rw [hk]
        have hon : on x.b (tot [] : Int) = x.b := on_zero H.out.lt
        rw [hon]
        rcases hk0 with h | h
        · subst h; rfl
        · rw [h, List.drop_nil, ← h]
      rw [hcut] at f1
      have HL1 : Hid (Left base w s x w1) := Lib.hid ⟨s1, e1, f1, c1, n1⟩
      clear f1 c1 n1 t1 hr hk2 HK HA hcut hk
      go_wp2_with fail
      go_ret
      exact ⟨_, rfl, own6_nil _ _, HL1.out⟩
    · rw [if_neg hk]
      have hkl : (x.ks.take k).length = k := by rw [List.length_take]; have := HCL.out; omega
      rw [hkl]
      have hk0 : ((k : Int) == 0) = false := by
        rw [beq_eq_false_iff_ne]
        intro e
        have : k = 0 := by omega
        rw [this] at hk
        exact hk (List.take_zero ..)
      have HKL := Lib.hid hkl
      clear hk hkl
      dsimp only
      by_cases htm : x.tm = true
      · rw [if_pos (show (x.cut k).tm = true from htm)]
        by_cases hne : x.ks.drop k = []
        · have HLEFT : Hid ((x.ks.drop k).length = 0) := Lib.hid (by rw [hne]; rfl)
          go_enter Try.func60, Try.ntmps60
          go_wp2_with fail
          refine HA.out.mono ?_
          rintro e w1 t1
          obtain ⟨vo, s1, rfl, ho, e1, e2, f1, c1, n1⟩ := HK.out _ _ t1
          have hsl : ∃ A c, vo = .slice A (x.ks.take k).length c := by
            obtain ⟨qs, h1, _, _⟩ := ho
            obtain ⟨A, c, h2, _, _⟩ := own_slice h1
            exact ⟨A, c, h2⟩
          obtain ⟨A, c, rfl⟩ := hsl
          rw [HKL.out] at ho ⊢
          obtain ⟨fb1, qb1, v1, l1, u1, ol1⟩ := s1
          dsimp only at e1 e2
          subst e1 e2
          have HA1 : Hid (Ak base w w1 s ⟨s.fb, s.qb, v1, l1, u1, ol1⟩ (x.cut k) (.slice A k c) (x.ks.take k)) := Lib.hid ⟨rfl, rfl, f1, c1, n1, ho⟩
          have k11 := f1.fa.c11
          dsimp only [F.fc, F.cut] at k11
          rw [htm] at k11
          clear t1 HA HK f1 c1 n1 ho c0
          
          go_wp2_with fail
          have HA1 := Lib.hid (HA1.out.below (Below.refl _ _).drew)
          have e0 : w1.drew.cell? ⟨s.fb, 10, none⟩ = some (.int .i64 x.bg) := HA1.out.fl.fa.c10
          have HS := Lib.hid (Sample_any HA1.out.fl.fa HE.out (tks x.bg t))
          unfold ptr1 at HS
          dsimp only at HS
          clear k11
          generalize hwd : w1.drew = w2d at *
          refine wp_region_noPanic ?_
          refine wp_region_held_drew (S := fun W => W.cell? ⟨s.fb, 10, none⟩ = some (.int .i64 x.bg)) (by kernel_rfl) (by rw [hwd]; exact e0) (fun _ => ?_)
          rw [hwd]
          clear hwd
          refine held_take (i := 0) (v := .pointer (some ⟨s.fb, 0, none⟩)) (some 25) rfl rfl (by kernel_rfl) (by kernel_rfl) (by kernel_rfl) (fun _ _ _ h => h) (Or.inl ⟨by rfl, fun W hW => by go_simp⟩) e0 ?_
          simp only [Act.put, List.setIfInBounds_toArray, List.set_cons_zero, List.set_cons_succ]
          refine held_take (i := 3) (v := .pointer (some ⟨s.fb, 0, none⟩)) (some 28) rfl rfl (by kernel_rfl) (by kernel_rfl) (by kernel_rfl) (fun _ _ _ h => h) (Or.inl ⟨by rfl, fun W hW => by go_simp⟩) e0 ?_
          simp only [Act.put, List.setIfInBounds_toArray, List.set_cons_zero, List.set_cons_succ]
          refine held_take (i := 7) (v := .int .i64 t) (some 32) rfl rfl (by kernel_rfl) (by kernel_rfl) (by kernel_rfl) (fun _ _ _ h => h) (Or.inl ⟨by rfl, fun W hW => by go_simp⟩) e0 ?_
          simp only [Act.put, List.setIfInBounds_toArray, List.set_cons_zero, List.set_cons_succ]
          refine held_take (i := 1) (v := .pointer (some ⟨s.fb, 0, none⟩)) (some 26) rfl rfl (by kernel_rfl) (by kernel_rfl) (by kernel_rfl) (fun _ _ _ h => h) (Or.inl ⟨by rfl, fun W hW => by go_simp⟩) e0 ?_
          simp only [Act.put, List.setIfInBounds_toArray, List.set_cons_zero, List.set_cons_succ]
          refine held_take (i := 4) (v := .pointer (some ⟨s.fb, 0, none⟩)) (some 29) rfl rfl (by kernel_rfl) (by kernel_rfl) (by kernel_rfl) (fun _ _ _ h => h) (Or.inl ⟨by rfl, fun W hW => by go_simp⟩) e0 ?_
          simp only [Act.put, List.setIfInBounds_toArray, List.set_cons_zero, List.set_cons_succ]
          refine held_take (i := 2) (v := .pointer (some ⟨s.fb, 1, none⟩)) (some 27) rfl rfl (by kernel_rfl) (by kernel_rfl) (by kernel_rfl) (fun _ _ _ h => h) (Or.inl ⟨by rfl, fun W hW => by go_simp⟩) e0 ?_
          simp only [Act.put, List.setIfInBounds_toArray, List.set_cons_zero, List.set_cons_succ]
          refine held_take (i := 5) (v := .pointer (some ⟨s.fb, 10, none⟩)) (some 30) rfl rfl (by kernel_rfl) (by kernel_rfl) (by kernel_rfl) (fun _ _ _ h => h) (Or.inl ⟨by rfl, fun W hW => by go_simp⟩) e0 ?_
          simp only [Act.put, List.setIfInBounds_toArray, List.set_cons_zero, List.set_cons_succ]
          refine held_take (i := 6) (v := .int .i64 x.bg) (some 31) rfl rfl (by kernel_rfl) (by kernel_rfl) (by kernel_rfl) (fun _ _ _ h => h) (Or.inl ⟨by rfl, fun W hW => by have hc := hW; go_simp⟩) e0 ?_
          simp only [Act.put, List.setIfInBounds_toArray, List.set_cons_zero, List.set_cons_succ]
          refine wpAnyH_ready (rs := [8]) (by kernel_rfl) (by simp) ?_
          refine AllReadyH.cons rfl (fun K hK => ?_) AllReadyH.nil
          go_simp
          refine (HT.out _).mono ?_
          rintro e w2 ⟨rfl, rfl⟩
          dsimp only
          refine hK.out _ _ e0 (fun _ => ?_)
          clear hK
          try simp only [Act.put, List.setIfInBounds_toArray, List.set_cons_zero, List.set_cons_succ]
          refine wpAnyH_ready (rs := [9]) (by kernel_rfl) (by simp) ?_
          refine AllReadyH.cons rfl (fun K hK => ?_) AllReadyH.nil
          go_simp
          refine HS.out.mono ?_
          rintro e w3 d3
          obtain rfl := d3.1
          have HA3 := Lib.hid (HA1.out.step HFB.out (HA1.out.fl.samp_ d3).1 (HA1.out.fl.samp_ d3).2)
          have e3 : w3.cell? ⟨s.fb, 10, none⟩ = some (.int .i64 x.bg) := HA3.out.fl.fa.c10
          clear d3 HS HT HA1
          dsimp only
          refine hK.out _ _ e3 (fun _ => ?_)
          clear hK
          try simp only [Act.put, List.setIfInBounds_toArray, List.set_cons_zero, List.set_cons_succ]
          refine wpAnyH_done (by kernel_rfl) ?_ _
          refine NoPanic.normal ?_
          have k7 := HA3.out.fl.fa.c7
          have k11 := HA3.out.fl.fa.c11
          have g7 := HA3.out.fl.fa.fz 7
          have g11 := HA3.out.fl.fa.fz 11
          have HF3 := Lib.hid (HA3.out.step HFB.out HA3.out.fl.untimed_.1 HA3.out.fl.untimed_.2)
          have HFr := Lib.hid (Fresh_any HF3.out.fl.fa)
          unfold ptr1 at HFr
          dsimp only [F.fc] at k7 k11 g7 g11
          dsimp only at HFr HF3
          go_wp2_with (first
            | (go_at_call 74; refine HFr.out.mono ?_; rintro e w4 d4; obtain rfl := d4.1; have h4 := HF3.out.fl.est_ d4; have HF4 := Lib.hid (HF3.out.step HFB.out h4.1 h4.2); have k8 := h4.1.fa.c8; have k9 := h4.1.fa.c9; have g8 := h4.1.fa.fz 8; have g9 := h4.1.fa.fz 9; have k0 := h4.1.fa.c0; dsimp only [F.fc] at k8 k9 g8 g9 k0; have HF5 := Lib.hid (HF4.out.step HFB.out (h4.1.undue_ 0 0).1 (h4.1.undue_ 0 0).2); have HLn := Lib.hid (Len_any HF5.out.fl.qu); have hll : l1.length = (x.ks.drop k).length := HF5.out.fl.llen; have hll := hll.trans HLEFT.out; dsimp only at HLn HF5; rw [hll] at HLn; unfold ptr at HLn k0; clear d4 h4 k7 k11 g7 g11)
            | (go_at_call 69; refine HLn.out.mono ?_; rintro e w6 ⟨rfl, rfl⟩)
            | fail)
          go_ret
          refine ⟨_, rfl, HF5.out.ow, ?_⟩
          have hx : ((x.cut k).samp t).fresh_.redue t = ((x.cut k).samp t).fresh_ := if_pos hne
          rw [hx]
          exact HF5.out.left
        · obtain ⟨nl, hleft, hpos⟩ : ∃ nl : Nat, (x.ks.drop k).length = nl ∧ (0 : Int) < (nl : Int) := ⟨_, rfl, by have : (x.ks.drop k).length ≠ 0 := fun e => hne (List.eq_nil_of_length_eq_zero e); omega⟩
          have HLEFT := Lib.hid hleft
          clear hleft
          go_enter Try.func60, Try.ntmps60
          go_wp2_with fail
          refine HA.out.mono ?_
          rintro e w1 t1
          obtain ⟨vo, s1, rfl, ho, e1, e2, f1, c1, n1⟩ := HK.out _ _ t1
          have hsl : ∃ A c, vo = .slice A (x.ks.take k).length c := by
            obtain ⟨qs, h1, _, _⟩ := ho
            obtain ⟨A, c, h2, _, _⟩ := own_slice h1
            exact ⟨A, c, h2⟩
          obtain ⟨A, c, rfl⟩ := hsl
          rw [HKL.out] at ho ⊢
          obtain ⟨fb1, qb1, v1, l1, u1, ol1⟩ := s1
          dsimp only at e1 e2
          subst e1 e2
          have HA1 : Hid (Ak base w w1 s ⟨s.fb, s.qb, v1, l1, u1, ol1⟩ (x.cut k) (.slice A k c) (x.ks.take k)) := Lib.hid ⟨rfl, rfl, f1, c1, n1, ho⟩
          have k11 := f1.fa.c11
          dsimp only [F.fc, F.cut] at k11
          rw [htm] at k11
          clear t1 HA HK f1 c1 n1 ho c0
          
          go_wp2_with fail
          have HA1 := Lib.hid (HA1.out.below (Below.refl _ _).drew)
          have e0 : w1.drew.cell? ⟨s.fb, 10, none⟩ = some (.int .i64 x.bg) := HA1.out.fl.fa.c10
          have HS := Lib.hid (Sample_any HA1.out.fl.fa HE.out (tks x.bg t))
          unfold ptr1 at HS
          dsimp only at HS
          clear k11
          generalize hwd : w1.drew = w2d at *
          refine wp_region_noPanic ?_
          refine wp_region_held_drew (S := fun W => W.cell? ⟨s.fb, 10, none⟩ = some (.int .i64 x.bg)) (by kernel_rfl) (by rw [hwd]; exact e0) (fun _ => ?_)
          rw [hwd]
          clear hwd
          refine held_take (i := 0) (v := .pointer (some ⟨s.fb, 0, none⟩)) (some 25) rfl rfl (by kernel_rfl) (by kernel_rfl) (by kernel_rfl) (fun _ _ _ h => h) (Or.inl ⟨by rfl, fun W hW => by go_simp⟩) e0 ?_
          simp only [Act.put, List.setIfInBounds_toArray, List.set_cons_zero, List.set_cons_succ]
          refine held_take (i := 3) (v := .pointer (some ⟨s.fb, 0, none⟩)) (some 28) rfl rfl (by kernel_rfl) (by kernel_rfl) (by kernel_rfl) (fun _ _ _ h => h) (Or.inl ⟨by rfl, fun W hW => by go_simp⟩) e0 ?_
          simp only [Act.put, List.setIfInBounds_toArray, List.set_cons_zero, List.set_cons_succ]
          refine held_take (i := 7) (v := .int .i64 t) (some 32) rfl rfl (by kernel_rfl) (by kernel_rfl) (by kernel_rfl) (fun _ _ _ h => h) (Or.inl ⟨by rfl, fun W hW => by go_simp⟩) e0 ?_
          simp only [Act.put, List.setIfInBounds_toArray, List.set_cons_zero, List.set_cons_succ]
          refine held_take (i := 1) (v := .pointer (some ⟨s.fb, 0, none⟩)) (some 26) rfl rfl (by kernel_rfl) (by kernel_rfl) (by kernel_rfl) (fun _ _ _ h => h) (Or.inl ⟨by rfl, fun W hW => by go_simp⟩) e0 ?_
          simp only [Act.put, List.setIfInBounds_toArray, List.set_cons_zero, List.set_cons_succ]
          refine held_take (i := 4) (v := .pointer (some ⟨s.fb, 0, none⟩)) (some 29) rfl rfl (by kernel_rfl) (by kernel_rfl) (by kernel_rfl) (fun _ _ _ h => h) (Or.inl ⟨by rfl, fun W hW => by go_simp⟩) e0 ?_
          simp only [Act.put, List.setIfInBounds_toArray, List.set_cons_zero, List.set_cons_succ]
          refine held_take (i := 2) (v := .pointer (some ⟨s.fb, 1, none⟩)) (some 27) rfl rfl (by kernel_rfl) (by kernel_rfl) (by kernel_rfl) (fun _ _ _ h => h) (Or.inl ⟨by rfl, fun W hW => by go_simp⟩) e0 ?_
          simp only [Act.put, List.setIfInBounds_toArray, List.set_cons_zero, List.set_cons_succ]
          refine held_take (i := 5) (v := .pointer (some ⟨s.fb, 10, none⟩)) (some 30) rfl rfl (by kernel_rfl) (by kernel_rfl) (by kernel_rfl) (fun _ _ _ h => h) (Or.inl ⟨by rfl, fun W hW => by go_simp⟩) e0 ?_
          simp only [Act.put, List.setIfInBounds_toArray, List.set_cons_zero, List.set_cons_succ]
          refine held_take (i := 6) (v := .int .i64 x.bg) (some 31) rfl rfl (by kernel_rfl) (by kernel_rfl) (by kernel_rfl) (fun _ _ _ h => h) (Or.inl ⟨by rfl, fun W hW => by have hc := hW; go_simp⟩) e0 ?_
          simp only [Act.put, List.setIfInBounds_toArray, List.set_cons_zero, List.set_cons_succ]
          refine wpAnyH_ready (rs := [8]) (by kernel_rfl) (by simp) ?_
          refine AllReadyH.cons rfl (fun K hK => ?_) AllReadyH.nil
          go_simp
          refine (HT.out _).mono ?_
          rintro e w2 ⟨rfl, rfl⟩
          dsimp only
          refine hK.out _ _ e0 (fun _ => ?_)
          clear hK
          try simp only [Act.put, List.setIfInBounds_toArray, List.set_cons_zero, List.set_cons_succ]
          refine wpAnyH_ready (rs := [9]) (by kernel_rfl) (by simp) ?_
          refine AllReadyH.cons rfl (fun K hK => ?_) AllReadyH.nil
          go_simp
          refine HS.out.mono ?_
          rintro e w3 d3
          obtain rfl := d3.1
          have HA3 := Lib.hid (HA1.out.step HFB.out (HA1.out.fl.samp_ d3).1 (HA1.out.fl.samp_ d3).2)
          have e3 : w3.cell? ⟨s.fb, 10, none⟩ = some (.int .i64 x.bg) := HA3.out.fl.fa.c10
          clear d3 HS HT HA1
          dsimp only
          refine hK.out _ _ e3 (fun _ => ?_)
          clear hK
          try simp only [Act.put, List.setIfInBounds_toArray, List.set_cons_zero, List.set_cons_succ]
          refine wpAnyH_done (by kernel_rfl) ?_ _
          refine NoPanic.normal ?_
          have k7 := HA3.out.fl.fa.c7
          have k11 := HA3.out.fl.fa.c11
          have g7 := HA3.out.fl.fa.fz 7
          have g11 := HA3.out.fl.fa.fz 11
          have HF3 := Lib.hid (HA3.out.step HFB.out HA3.out.fl.untimed_.1 HA3.out.fl.untimed_.2)
          have HFr := Lib.hid (Fresh_any HF3.out.fl.fa)
          unfold ptr1 at HFr
          dsimp only [F.fc] at k7 k11 g7 g11
          dsimp only at HFr HF3
          go_wp2_with (first
            | (go_at_call 74; refine HFr.out.mono ?_; rintro e w4 d4; obtain rfl := d4.1; have h4 := HF3.out.fl.est_ d4; have HF4 := Lib.hid (HF3.out.step HFB.out h4.1 h4.2); have k8 := h4.1.fa.c8; have k9 := h4.1.fa.c9; have g8 := h4.1.fa.fz 8; have g9 := h4.1.fa.fz 9; have k0 := h4.1.fa.c0; dsimp only [F.fc] at k8 k9 g8 g9 k0; have HF5 := Lib.hid (HF4.out.step HFB.out (h4.1.undue_ 0 0).1 (h4.1.undue_ 0 0).2); have HLn := Lib.hid (Len_any HF5.out.fl.qu); have hll : l1.length = (x.ks.drop k).length := HF5.out.fl.llen; have hll := hll.trans HLEFT.out; dsimp only at HLn HF5; rw [hll] at HLn; unfold ptr at HLn k0; clear d4 h4 k7 k11 g7 g11)
            | (go_at_call 69; refine HLn.out.mono ?_; rintro e w6 ⟨rfl, rfl⟩; have HW := Lib.hid (Wait_any HF5.out.fl.fa (Ok_fresh (Ok_smp HE.out _))); unfold ptr1 at HW; dsimp only at HW)
            | (go_at_call 68; refine HW.out.mono ?_; rintro e w7 ⟨rfl, b7⟩; have HF7 := Lib.hid (HF5.out.below b7); have m8 := HF7.out.fl.fa.c8; have m9 := HF7.out.fl.fa.c9; have n8 := HF7.out.fl.fa.fz 8; have n9 := HF7.out.fl.fa.fz 9; dsimp only [F.fc] at m8 m9 n8 n9; clear b7 k8 k9 g8 g9)
            | fail)
          go_ret
          have HF9 := HF7.out.step HFB.out (HF7.out.fl.undue_ t ((x.cut k).samp t).E.fresh.wt).1 (HF7.out.fl.undue_ t ((x.cut k).samp t).E.fresh.wt).2
          refine ⟨_, rfl, HF9.ow, ?_⟩
          have hx : ((x.cut k).samp t).fresh_.redue t = ((x.cut k).samp t).fresh_.due t := if_neg hne
          rw [hx]
          exact HF9.left
      · rw [if_neg (show ¬ (x.cut k).tm = true from htm)]
        have htm : x.tm = false := by simpa using htm
        by_cases hne : x.ks.drop k = []
        · have HLEFT : Hid ((x.ks.drop k).length = 0) := Lib.hid (by rw [hne]; rfl)
          go_enter Try.func60, Try.ntmps60
          go_wp2_with fail
          refine HA.out.mono ?_
          rintro e w1 t1
          obtain ⟨vo, s1, rfl, ho, e1, e2, f1, c1, n1⟩ := HK.out _ _ t1
          have hsl : ∃ A c, vo = .slice A (x.ks.take k).length c := by
            obtain ⟨qs, h1, _, _⟩ := ho
            obtain ⟨A, c, h2, _, _⟩ := own_slice h1
            exact ⟨A, c, h2⟩
          obtain ⟨A, c, rfl⟩ := hsl
          rw [HKL.out] at ho ⊢
          obtain ⟨fb1, qb1, v1, l1, u1, ol1⟩ := s1
          dsimp only at e1 e2
          subst e1 e2
          have HA1 : Hid (Ak base w w1 s ⟨s.fb, s.qb, v1, l1, u1, ol1⟩ (x.cut k) (.slice A k c) (x.ks.take k)) := Lib.hid ⟨rfl, rfl, f1, c1, n1, ho⟩
          have k11 := f1.fa.c11
          dsimp only [F.fc, F.cut] at k11
          rw [htm] at k11
          have HA3 := Lib.hid HA1.out
          clear t1 HA HK f1 c1 n1 ho c0 HA1
          
          generalize w1 = w3 at *
          have k7 := HA3.out.fl.fa.c7
          have k11 := HA3.out.fl.fa.c11
          have g7 := HA3.out.fl.fa.fz 7
          have g11 := HA3.out.fl.fa.fz 11
          have HF3 := Lib.hid (HA3.out.step HFB.out HA3.out.fl.untimed_.1 HA3.out.fl.untimed_.2)
          have HFr := Lib.hid (Fresh_any HF3.out.fl.fa)
          unfold ptr1 at HFr
          dsimp only [F.fc] at k7 k11 g7 g11
          dsimp only at HFr HF3
          go_wp2_with (first
            | (go_at_call 74; refine HFr.out.mono ?_; rintro e w4 d4; obtain rfl := d4.1; have h4 := HF3.out.fl.est_ d4; have HF4 := Lib.hid (HF3.out.step HFB.out h4.1 h4.2); have k8 := h4.1.fa.c8; have k9 := h4.1.fa.c9; have g8 := h4.1.fa.fz 8; have g9 := h4.1.fa.fz 9; have k0 := h4.1.fa.c0; dsimp only [F.fc] at k8 k9 g8 g9 k0; have HF5 := Lib.hid (HF4.out.step HFB.out (h4.1.undue_ 0 0).1 (h4.1.undue_ 0 0).2); have HLn := Lib.hid (Len_any HF5.out.fl.qu); have hll : l1.length = (x.ks.drop k).length := HF5.out.fl.llen; have hll := hll.trans HLEFT.out; dsimp only at HLn HF5; rw [hll] at HLn; unfold ptr at HLn k0; clear d4 h4 k7 k11 g7 g11)
            | (go_at_call 69; refine HLn.out.mono ?_; rintro e w6 ⟨rfl, rfl⟩)
            | fail)
          go_ret
          refine ⟨_, rfl, HF5.out.ow, ?_⟩
          have hx : (x.cut k).fresh_.redue t = (x.cut k).fresh_ := if_pos hne
          rw [hx]
          exact HF5.out.left
        · obtain ⟨nl, hleft, hpos⟩ : ∃ nl : Nat, (x.ks.drop k).length = nl ∧ (0 : Int) < (nl : Int) := ⟨_, rfl, by have : (x.ks.drop k).length ≠ 0 := fun e => hne (List.eq_nil_of_length_eq_zero e); omega⟩
          have HLEFT := Lib.hid hleft
          clear hleft
          go_enter Try.func60, Try.ntmps60
          go_wp2_with fail
          refine HA.out.mono ?_
          rintro e w1 t1
          obtain ⟨vo, s1, rfl, ho, e1, e2, f1, c1, n1⟩ := HK.out _ _ t1
          have hsl : ∃ A c, vo = .slice A (x.ks.take k).length c := by
            obtain ⟨qs, h1, _, _⟩ := ho
            obtain ⟨A, c, h2, _, _⟩ := own_slice h1
            exact ⟨A, c, h2⟩
          obtain ⟨A, c, rfl⟩ := hsl
          rw [HKL.out] at ho ⊢
          obtain ⟨fb1, qb1, v1, l1, u1, ol1⟩ := s1
          dsimp only at e1 e2
          subst e1 e2
          have HA1 : Hid (Ak base w w1 s ⟨s.fb, s.qb, v1, l1, u1, ol1⟩ (x.cut k) (.slice A k c) (x.ks.take k)) := Lib.hid ⟨rfl, rfl, f1, c1, n1, ho⟩
          have k11 := f1.fa.c11
          dsimp only [F.fc, F.cut] at k11
          rw [htm] at k11
          have HA3 := Lib.hid HA1.out
          clear t1 HA HK f1 c1 n1 ho c0 HA1
          
          generalize w1 = w3 at *
          have k7 := HA3.out.fl.fa.c7
          have k11 := HA3.out.fl.fa.c11
          have g7 := HA3.out.fl.fa.fz 7
          have g11 := HA3.out.fl.fa.fz 11
          have HF3 := Lib.hid (HA3.out.step HFB.out HA3.out.fl.untimed_.1 HA3.out.fl.untimed_.2)
          have HFr := Lib.hid (Fresh_any HF3.out.fl.fa)
          unfold ptr1 at HFr
          dsimp only [F.fc] at k7 k11 g7 g11
          dsimp only at HFr HF3
          go_wp2_with (first
            | (go_at_call 74; refine HFr.out.mono ?_; rintro e w4 d4; obtain rfl := d4.1; have h4 := HF3.out.fl.est_ d4; have HF4 := Lib.hid (HF3.out.step HFB.out h4.1 h4.2); have k8 := h4.1.fa.c8; have k9 := h4.1.fa.c9; have g8 := h4.1.fa.fz 8; have g9 := h4.1.fa.fz 9; have k0 := h4.1.fa.c0; dsimp only [F.fc] at k8 k9 g8 g9 k0; have HF5 := Lib.hid (HF4.out.step HFB.out (h4.1.undue_ 0 0).1 (h4.1.undue_ 0 0).2); have HLn := Lib.hid (Len_any HF5.out.fl.qu); have hll : l1.length = (x.ks.drop k).length := HF5.out.fl.llen; have hll := hll.trans HLEFT.out; dsimp only at HLn HF5; rw [hll] at HLn; unfold ptr at HLn k0; clear d4 h4 k7 k11 g7 g11)
            | (go_at_call 69; refine HLn.out.mono ?_; rintro e w6 ⟨rfl, rfl⟩; have HW := Lib.hid (Wait_any HF5.out.fl.fa (Ok_fresh HE.out)); unfold ptr1 at HW; dsimp only at HW)
            | (go_at_call 68; refine HW.out.mono ?_; rintro e w7 ⟨rfl, b7⟩; have HF7 := Lib.hid (HF5.out.below b7); have m8 := HF7.out.fl.fa.c8; have m9 := HF7.out.fl.fa.c9; have n8 := HF7.out.fl.fa.fz 8; have n9 := HF7.out.fl.fa.fz 9; dsimp only [F.fc] at m8 m9 n8 n9; clear b7 k8 k9 g8 g9)
            | fail)
          go_ret
          have HF9 := HF7.out.step HFB.out (HF7.out.fl.undue_ t (x.cut k).E.fresh.wt).1 (HF7.out.fl.undue_ t (x.cut k).E.fresh.wt).2
          refine ⟨_, rfl, HF9.ow, ?_⟩
          have hx : (x.cut k).fresh_.redue t = (x.cut k).fresh_.due t := if_neg hne
          rw [hx]
          exact HF9.left
  · have hg : x.gone a = [] := if_neg hst
    rw [hg, if_pos rfl]
    have HA := Lib.hid (Ack_no h.qu x.b a h.lt ha (by rw [h.ky]; exact h.cn) (by rw [h.ky]; exact ht) (by rw [h.ky]; omega))
    clear h ht hl hd hE hb h0 hst hg ha HT HE
    unfold ptr at *
    go_enter Try.func60, Try.ntmps60
    go_wp2_with fail
    refine HA.out.mono ?_
    rintro e w1 ⟨rfl, b1⟩
    have HB := Lib.hid b1
    clear b1 HA
    go_wp2_with fail
    go_ret
    exact ⟨_, rfl, own6_nil _ _, Left.same H.out HB.out⟩
end
end Go.Proofs.Ytnpkmkjenlhkiaa

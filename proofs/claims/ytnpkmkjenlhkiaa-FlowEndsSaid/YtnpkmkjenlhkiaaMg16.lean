/- The contract of Hear. Conditions: the flow stands, its numbers within their bounds; the segment does not reset, or the flow has ended.
What is not there, and what has ended, does nothing; the document's SameHeard of nothing; how a flow begins; the example. No condition. -/
import Derived.Test.YtnpkmkjenlhkiaaMg15
namespace Go.Proofs.Ytnpkmkjenlhkiaa
set_option linter.unusedVariables false
set_option linter.unusedSimpArgs false
set_option maxRecDepth 20000
open Go.RowKit Go.Lib

/-- A segment heard: its acknowledgement, and then its data. -/
def F.hacks (x : F) (ak : Nat) (kk : Bool) (t : Int) : F := if kk = true then x.hack ak t else x
def F.hear (x : F) (q ak : Nat) (syn kk fin : Bool) (ln : Nat) (t : Int) : F :=
  if x.st = 10 ∨ x.st = 11 then x
  else if x.st = 1 then x.hans q ak syn kk t
  else if syn = true then x.hsyn q kk t
  else if 3 ≤ (x.hacks ak kk t).st ∧ (x.hacks ak kk t).st ≤ 9 then (x.hacks ak kk t).hdata q ln fin t else x.hacks ak kk t
/-- Are its data fresh? -/
def F.heard (x : F) (q ak : Nat) (syn kk : Bool) (t : Int) : Bool :=
  if x.st = 10 ∨ x.st = 11 then false
  else if x.st = 1 then false
  else if syn = true then false
  else decide ((3 ≤ (x.hacks ak kk t).st ∧ (x.hacks ak kk t).st ≤ 9) ∧ (x.hacks ak kk t).isFresh q)
theorem hk1_os (x : F) (k : Ky) (t : Int) : (x.hk1 k t).os = x.os := by
  unfold F.hk1
  by_cases h1 : k.syn = true ∧ x.st = 2
  · rw [if_pos h1]; rfl
  · rw [if_neg h1]
    by_cases h2 : k.fin = true
    · rw [if_pos h2]; exact (fina_same x t).2.2.2.1
    · rw [if_neg h2]
theorem hks_os (t : Int) : ∀ (ks : List Ky) (x : F), (x.hks ks t).os = x.os
  | [], x => by rw [hks_nil]
  | k :: ks, x => by
    have h1 : x.hks (k :: ks) t = (x.hk1 k t).hks ks t := rfl
    rw [h1, hks_os t ks, hk1_os]
theorem hack_os (x : F) (a : Nat) (t : Int) : (x.hack a t).os = x.os := by
  have h1 : x.hack a t = (x.acked a t).hks (x.gone a) t := rfl
  rw [h1, hks_os, acked_os]
section
variable {base : Nat} {w w' : World} {s : Sh} {x : F}
theorem LeftH.then_ {w1 w2 : World} {s1 : Sh} {x2 : F} {hb : Nat} (hs : s1.fb = s.fb) (c : Ch w w1 (fun g => s.T g ∨ g = hb)) (n : ∀ g, s1.T g → s.T g ∨ w.heap.size ≤ g) (h : LeftH base w1 s1 x2 hb w2) : LeftH base w s x2 hb w2 := by
  obtain ⟨s2, e2, f2, c2, n2⟩ := h
  refine ⟨s2, e2.trans hs, f2, c.trans c2 (fun _ _ h => h) (fun g hg h => ?_), fun g hg => ?_⟩
  · rcases h with h | h
    · rcases n g h with h | h
      · exact .inl h
      · omega
    · exact .inr h
  · rcases n2 g hg with h | h
    · exact n g h
    · exact .inr (Nat.le_trans c.size h)
theorem LeftH.own {w1 : World} {x' : F} {hb g : Nat} {vs : List Value} (h : LeftH base w s x' hb w1) (z : Own w g vs) (hn : 0 < vs.length) (h1 : ¬ s.T g) (h2 : g ≠ hb) : Own w1 g vs := by
  obtain ⟨s2, _, _, c, _⟩ := h
  exact z.ch hn c (fun e => by rcases e with e | e; exact h1 e; exact h2 e)
theorem LeftH.left {w1 w2 : World} {x' : F} {hb : Nat} (b : Below w.heap.size w w1) (hh : w.heap.size ≤ hb) (h : LeftH base w1 s x' hb w2) : Left base w s x' w2 := by
  obtain ⟨s2, e, f, c, n⟩ := h
  exact ⟨s2, e, f, (Ch.of_below (fun _ => False) b).trans c (fun _ _ h => h.elim) (fun g hg h => by rcases h with h | h; exact h; omega), fun g hg => by
    rcases n g hg with h | h
    · exact .inl h
    · exact .inr (Nat.le_trans b.size h)⟩
theorem Left.behind3 {w4 w5 : World} {x1 : F} {g : Nat} (H : Fl base w s x) (h1 : w.heap.size ≤ g) (hn : ∀ s2 : Sh, Fl base w4 s2 x1 → (∀ k, s2.T k → s.T k ∨ w.heap.size ≤ k) → ¬ s2.T g) (h : Left base w s x1 w4) (k : w4.grownBy w5 (some g)) : Left base w s x1 w5 := by
  obtain ⟨s2, e, f, c, n⟩ := h
  have ck : Ch w4 w5 (fun j => j = g) := Ch.grown (m := fun j => j = g) (Ch.refl w4 _) k (fun j e _ => by injection e with e; exact e.symm)
  refine ⟨s2, e, f.frame ck (fun j hj e => hn s2 f n (e ▸ hj)), c.trans ck (fun _ _ h => h) (fun j hj e => by omega), n⟩
/-- .. where the flow's new blocks are newer than a world w1 behind w. -/
theorem LeftH.behind {w1 w4 w5 : World} {x1 : F} {g hb : Nat} (H : Fl base w s x) (b : Below w.heap.size w w1) (hh : w.heap.size ≤ hb) (h1 : w.heap.size ≤ g) (h2 : g < w1.heap.size) (h : LeftH base w1 s x1 hb w4) (k : w4.grownBy w5 (some g)) : Left base w s x1 w5 := by
  obtain ⟨s2, e, f, c, n⟩ := h
  have ck : Ch w4 w5 (fun j => j = g) := Ch.grown (m := fun j => j = g) (Ch.refl w4 _) k (fun j e _ => by injection e with e; exact e.symm)
  have hT : ∀ j, s2.T j → j ≠ g := fun j hj e => by
    rcases n j hj with h | h
    · have := (H.in_ h).2
      omega
    · omega
  exact ⟨s2, e, f.frame ck (fun j hj e => hT j hj e), ((Ch.of_below (fun _ => False) b).trans c (fun _ _ h => h.elim) (fun g hg h => by rcases h with h | h; exact h; omega)).trans ck (fun _ _ h => h) (fun j hj e => by omega), fun j hj => by
    rcases n j hj with h | h
    · exact .inl h
    · exact .inr (Nat.le_trans b.size h)⟩
set_option maxHeartbeats 12800000 in
theorem Hear_any (h : Fl base w s x) (q ak : Nat) (syn kk fin rr : Bool) (hrr : rr = false ∨ x.st = 10 ∨ x.st = 11) (A : Option Addr) (n c : Nat) (hq : q < 4294967296) (ha : ak < 4294967296) (hnc : n ≤ c) (hcm : c ≤ 9223372036854775807) (hn0 : n ≤ 1099511627776) (hto : tot x.ks ≤ 2147483648) (hl : x.ks.length ≤ 1073741824) (hd : ∀ k ∈ x.ks, k.ds.length ≤ 1099511627776) (hn : x.os.length ≤ 274877906944) (hE : x.E.Ok) (hbg : 0 ≤ x.bg ∧ x.bg ≤ 1152921504606846976) (t : Int) (h0 : 0 ≤ t ∧ t ≤ 1152921504606846976) :
    Calls Try.prog 20 #[ptr s.fb, .agg (sgx q ak syn kk fin rr A n c).toArray, .int .i64 t] w (HeardP base w s (x.hear q ak syn kk fin (n + bn fin) t) (x.heard q ak syn kk t)) := by
  have H := Lib.hid h
  have hfb := h.fa.lt
  have HEnd := Lib.hid (fun (W : World) (b : Below w.heap.size w W) => fended_any (h.below b).fa)
  have hTn : ∀ k, w.heap.size ≤ k → ¬ s.T k := fun k hk e => by have := (h.in_ e).2; omega
  have HT := Lib.hid hTn
  unfold F.hear F.heard
  by_cases hst : x.st = 10 ∨ x.st = 11
  · rw [if_pos hst, if_pos hst]
    have he : ∀ (W : World) (b : Below w.heap.size w W), decide ((x.fc s.qb s.ov).st = 10 ∨ (x.fc s.qb s.ov).st = 11) = true := fun _ _ => decide_eq_true hst
    rw [show decide ((x.fc s.qb s.ov).st = 10 ∨ (x.fc s.qb s.ov).st = 11) = true from decide_eq_true hst] at HEnd
    clear h hto hl hd hn hE hbg h0 hst he hrr hTn hcm hn0 hnc ha hq
    unfold ptr at *
    go_enter Try.func20, Try.ntmps20
    go_wp2_with (first
      | ((with_reducible refine wpList_here ?_); refine wpList_boxV (o := ⟨some 4, _, _, _, _, _⟩) rfl 47 (.tmp 1) rfl (sgx q ak syn kk fin rr A n c) rfl _ rfl ?_; intro w0 z0 b0 s0)
      | ((with_reducible refine wpList_here ?_); refine wpList_allocV (o := ⟨some 6, _, _, _, _, _⟩) rfl 57 rfl hz zeroHd _ s0 ?_; intro w1 y1 b1 s1; have HB1 := Lib.hid (below_trans b0 b1); have HF1 := Lib.hid (H.out.below (below_trans b0 b1)); have z1 := z0.below b1; have hs1 : w1.heap.size = w.heap.size + 2 := s1; skip; clear b1 b0 z0 s0 s1)
      | (go_at_call 35; refine (HEnd.out _ HB1.out).mono ?_; rintro e w2 ⟨rfl, rfl⟩)
      | ((with_reducible refine wpList_here ?_); refine wpList_storeV rfl 57 (.tmp 6) (.tmp 15) rfl _ _ hz rfl rfl y1 rfl (hd_one _ _ _ _ _ rfl) infoHd ?_; intro w9 z9 g9 s9)
      | fail)
    refine bodyPost_ret (results_c0 rfl _ _ (w.heap.size + 1) _ _ rfl z9.range Try.underlying57 rfl infoHd) rfl ?_
    exact ⟨_, _, _, _, _, rfl, Left.behind2 H.out HB1.out (by omega) (by omega) (Left.same HF1.out (Below.refl _ _)) g9⟩
  · rw [if_neg hst, if_neg hst]
    obtain rfl : rr = false := hrr.resolve_right hst
    rw [show decide ((x.fc s.qb s.ov).st = 10 ∨ (x.fc s.qb s.ov).st = 11) = false from decide_eq_false hst] at HEnd
    by_cases h1 : x.st = 1
    · rw [if_pos h1, if_pos h1]
      have HAn := Lib.hid (fun (W : World) (b : Below w.heap.size w W) => hearAnswer_any (h.below b) q ak syn kk fin false A n c hq ha hto hl hd hn hE hbg t h0)
      clear h hto hl hd hn hE hbg h0 hst hrr hTn hcm hn0 hnc ha hq
      generalize x.hans q ak syn kk t = X at *
      unfold ptr at *
      go_enter Try.func20, Try.ntmps20
      go_wp2_with (first
        | ((with_reducible refine wpList_here ?_); refine wpList_boxV (o := ⟨some 4, _, _, _, _, _⟩) rfl 47 (.tmp 1) rfl (sgx q ak syn kk fin false A n c) rfl _ rfl ?_; intro w0 z0 b0 s0)
        | ((with_reducible refine wpList_here ?_); refine wpList_allocV (o := ⟨some 6, _, _, _, _, _⟩) rfl 57 rfl hz zeroHd _ s0 ?_; intro w1 y1 b1 s1; have HB1 := Lib.hid (below_trans b0 b1); have HF1 := Lib.hid (H.out.below (below_trans b0 b1)); have z1 := z0.below b1; have hs1 : w1.heap.size = w.heap.size + 2 := s1; have k9 : w1.cell? ⟨w.heap.size, 9, none⟩ = some (.bool false) := (z1 9 (by rw [sgx_length]; omega)).1; have k5 : w1.cell? ⟨s.fb, 5, none⟩ = some (.int .i64 1) := by { have := HF1.out.fa.c5; dsimp only [F.fc] at this; rw [h1] at this; exact this }; clear b1 b0 z0 s0 s1)
        | (go_at_call 35; refine (HEnd.out _ HB1.out).mono ?_; rintro e w2 ⟨rfl, rfl⟩)
        | ((with_reducible refine wpList_here ?_); refine wpList_loadV (o := ⟨some 29, _, _, _, _, _⟩) rfl 47 (.tmp 4) rfl _ _ (sgx q ak syn kk fin false A n c) rfl z1.range _ Try.underlying47 rfl infoSg ?_)
        | (go_at_call 41; refine (HAn.out _ HB1.out).mono ?_; rintro e w3 ⟨op, fi, A5, n5, c5, rfl, l3⟩; have y3 := l3.own y1 (by decide) (HT.out _ (by omega)); have HL3 := Lib.hid l3; clear l3)
        | ((with_reducible refine wpList_here ?_); refine wpList_storeV rfl 57 (.tmp 6) (.tmp 31) rfl _ _ (hv op fi false false false (.slice A5 n5 c5)) rfl rfl y3 rfl (hd_one _ _ _ _ _ rfl) infoHd ?_; intro w9 z9 g9 s9)
        | fail)
      refine bodyPost_ret (results_c0 rfl _ _ (w.heap.size + 1) _ _ rfl z9.range Try.underlying57 rfl infoHd) rfl ?_
      exact ⟨_, _, _, _, _, rfl, Left.behind2 H.out HB1.out (by omega) (by omega) HL3.out g9⟩
    · rw [if_neg h1, if_neg h1]
      have n1 : ((x.st : Int) == 1) = false := by rw [beq_eq_false_iff_ne]; omega
      have n2 : ¬ (x.st : Int) = 1 := by omega
      cases syn with
      | true =>
        rw [if_pos rfl, if_pos rfl]
        have HSy := Lib.hid (fun (W : World) (b : Below w.heap.size w W) => hearSyn_any (h.below b) q ak true kk fin false A n c hq hl hd hn hE t (by unfold isInt; omega))
        clear h hto hl hd hn hE hbg h0 hst hrr hTn hcm hn0 hnc ha hq
        generalize x.hsyn q kk t = X at *
        unfold ptr at *
        go_enter Try.func20, Try.ntmps20
        go_wp2_with (first
          | ((with_reducible refine wpList_here ?_); refine wpList_boxV (o := ⟨some 4, _, _, _, _, _⟩) rfl 47 (.tmp 1) rfl (sgx q ak true kk fin false A n c) rfl _ rfl ?_; intro w0 z0 b0 s0)
          | ((with_reducible refine wpList_here ?_); refine wpList_allocV (o := ⟨some 6, _, _, _, _, _⟩) rfl 57 rfl hz zeroHd _ s0 ?_; intro w1 y1 b1 s1; have HB1 := Lib.hid (below_trans b0 b1); have HF1 := Lib.hid (H.out.below (below_trans b0 b1)); have z1 := z0.below b1; have hs1 : w1.heap.size = w.heap.size + 2 := s1; have k9 : w1.cell? ⟨w.heap.size, 9, none⟩ = some (.bool false) := (z1 9 (by rw [sgx_length]; omega)).1; have k6 : w1.cell? ⟨w.heap.size, 6, none⟩ = some (.bool true) := (z1 6 (by rw [sgx_length]; omega)).1; have k5 : w1.cell? ⟨s.fb, 5, none⟩ = some (.int .i64 (x.st : Int)) := by { have := HF1.out.fa.c5; dsimp only [F.fc] at this; exact this }; clear b1 b0 z0 s0 s1)
          | (go_at_call 35; refine (HEnd.out _ HB1.out).mono ?_; rintro e w2 ⟨rfl, rfl⟩)
          | ((with_reducible refine wpList_here ?_); refine wpList_loadV (o := ⟨some 36, _, _, _, _, _⟩) rfl 47 (.tmp 4) rfl _ _ (sgx q ak true kk fin false A n c) rfl z1.range _ Try.underlying47 rfl infoSg ?_)
          | (go_at_call 42; refine (HSy.out _ HB1.out).mono ?_; rintro e w3 ⟨rfl, l3⟩; have y3 := l3.own y1 (by decide) (HT.out _ (by omega)); have HL3 := Lib.hid l3; clear l3)
          | ((with_reducible refine wpList_here ?_); refine wpList_storeV rfl 57 (.tmp 6) (.tmp 39) rfl _ _ hz rfl rfl y3 rfl (hd_one _ _ _ _ _ rfl) infoHd ?_; intro w9 z9 g9 s9)
          | fail)
        refine bodyPost_ret (results_c0 rfl _ _ (w.heap.size + 1) _ _ rfl z9.range Try.underlying57 rfl infoHd) rfl ?_
        exact ⟨_, _, _, _, _, rfl, Left.behind2 H.out HB1.out (by omega) (by omega) HL3.out g9⟩
      | false =>
        rw [if_neg (fun e : false = true => by cases e), if_neg (fun e : false = true => by cases e)]
        have hos : (x.hacks ak kk t).os = x.os := by
          unfold F.hacks
          cases kk
          · rw [if_neg (fun e : false = true => by cases e)]
          · rw [if_pos rfl, hack_os]
        have HAk := Lib.hid (fun (W : World) (b : Below w.heap.size w W) (hb : Nat) (o : Own W hb hz) (hbt : ¬ s.T hb) => hearAck_any (h.below b) ak ha hb o hbt hto hl hd hE hbg t h0)
        have HDa := Lib.hid (fun (W : World) (s2 : Sh) (y : F) (f : Fl base W s2 y) (hos2 : y.os = x.os) (hb : Nat) (op : Bool) (v : Value) (o : Own W hb (hv op false false false false v)) (hbt : ¬ s2.T hb) => hearData_any f q ak kk fin false A n c hq hnc hcm hn0 hb op v o hbt (by rw [hos2]; exact hn) t)
        have HWi := Lib.hid (fun (W : World) (s2 : Sh) (y : F) (f : Fl base W s2 y) => within_any f.fa 3 9)
        clear h hto hl hd hn hE hbg h0 hst hrr hTn hcm hn0 hnc ha hq
        unfold ptr at *
        cases kk with
        | true =>
          have hk : x.hacks ak true t = x.hack ak t := if_pos rfl
          rw [hk] at hos ⊢
          clear hk
          have HOS := Lib.hid hos
          generalize x.hack ak t = X at *
          by_cases hw : 3 ≤ (X).st ∧ (X).st ≤ 9
          · rw [if_pos hw]
            rw [show decide ((3 ≤ (X).st ∧ (X).st ≤ 9) ∧ (X).isFresh q) = decide ((X).isFresh q) from by by_cases hf : (X).isFresh q; (rw [decide_eq_true hf, decide_eq_true ⟨hw, hf⟩]); (rw [decide_eq_false hf, decide_eq_false (fun e => hf e.2)])]
            have hwd : decide ((3 : Int) ≤ (X).st ∧ ((X).st : Int) ≤ 9) = true := decide_eq_true (by omega)
            clear hw hos
            as_aux_lemma =>
              go_enter Try.func20, Try.ntmps20
              go_wp2_with (first
                | ((with_reducible refine wpList_here ?_); refine wpList_boxV (o := ⟨some 4, _, _, _, _, _⟩) rfl 47 (.tmp 1) rfl (sgx q ak false true fin false A n c) rfl _ rfl ?_; intro w0 z0 b0 s0)
                | ((with_reducible refine wpList_here ?_); refine wpList_allocV (o := ⟨some 6, _, _, _, _, _⟩) rfl 57 rfl hz zeroHd _ s0 ?_; intro w1 y1 b1 s1; have HB1 := Lib.hid (below_trans b0 b1); have HF1 := Lib.hid (H.out.below (below_trans b0 b1)); have z1 := z0.below b1; have hs1 : w1.heap.size = w.heap.size + 2 := s1; have k9 : w1.cell? ⟨w.heap.size, 9, none⟩ = some (.bool false) := (z1 9 (by rw [sgx_length]; omega)).1; have k6 : w1.cell? ⟨w.heap.size, 6, none⟩ = some (.bool false) := (z1 6 (by rw [sgx_length]; omega)).1; have k5 : w1.cell? ⟨s.fb, 5, none⟩ = some (.int .i64 (x.st : Int)) := by { have := HF1.out.fa.c5; dsimp only [F.fc] at this; exact this }; clear b1 b0 z0 s0 s1)
                | (go_at_call 35; refine (HEnd.out _ HB1.out).mono ?_; rintro e w2 ⟨rfl, rfl⟩)
                | ((with_reducible refine wpList_here ?_); refine wpList_allocV (o := ⟨some 7, _, _, _, _, _⟩) rfl 57 rfl hz zeroHd _ hs1 ?_; intro w3 h3 b3 s3; have HB3 := Lib.hid (below_trans HB1.out b3); have z3 := z1.below b3; have y3 := y1.below b3; have q7 : w3.cell? ⟨w.heap.size, 7, none⟩ = some (.bool true) := (z3 7 (by rw [sgx_length]; omega)).1; have q5 : w3.cell? ⟨w.heap.size, 5, none⟩ = some (.int .u32 (ak : Int)) := (z3 5 (by rw [sgx_length]; omega)).1; skip; clear b3 z1 y1 k6 k9 k5)
                | (go_at_call 43; refine (HAk.out _ HB3.out _ h3 (HT.out _ (by omega))).mono ?_; rintro e w4 ⟨rfl, l4, op, A4, n4, c4, h4⟩; have z4 := l4.own z3 (by rw [sgx_length]; omega) (HT.out _ (by omega)) (by omega); have y4 := l4.own y3 (by decide) (HT.out _ (by omega)) (by omega); obtain ⟨s4, e4, f4, C4, m4⟩ := l4; obtain ⟨fb4, qb4, v4, p4, u4, ol4⟩ := s4; dsimp only at e4; subst e4; have HF4 := Lib.hid f4; have HC4 := Lib.hid (And.intro C4 m4); have HW4 := Lib.hid (HWi.out _ _ _ f4); dsimp only at HW4; rw [show ∀ v, decide ((3 : Int) ≤ (X.fc qb4 v).st ∧ ((X.fc qb4 v).st : Int) ≤ 9) = true from fun _ => hwd] at HW4; have hbt4 : ¬ (⟨s.fb, qb4, v4, p4, u4, ol4⟩ : Sh).T (w.heap.size + 2) := fun e => by { rcases m4 _ e with h | h; exact HT.out _ (by omega) h; omega }; have HX := Lib.hid (HDa.out _ _ _ f4 HOS.out _ op _ h4 hbt4); clear f4 C4 m4 z3 y3 h3 q7 q5)
                | (go_at_call 36; refine HW4.out.mono ?_; rintro e w5 ⟨rfl, rfl⟩)
                | ((with_reducible refine wpList_here ?_); refine wpList_loadV (o := ⟨some 50, _, _, _, _, _⟩) rfl 47 (.tmp 4) rfl _ _ (sgx q ak false true fin false A n c) rfl z4.range _ Try.underlying47 rfl infoSg ?_)
                | (go_at_call 44; refine HX.out.mono ?_; rintro e w6 ⟨rfl, l6, fi, h6⟩; have y6 := l6.own y4 (by decide) (fun e => by { rcases HC4.out.2 _ e with h | h; exact HT.out _ (by omega) h; omega }) (by omega); have HL6 := Lib.hid l6; clear l6)
                | ((with_reducible refine wpList_here ?_); refine wpList_loadV (o := ⟨some 53, _, _, _, _, _⟩) rfl 57 (.tmp 7) rfl _ _ (hv op fi false false (decide (X.isFresh q)) (.slice A4 n4 c4)) rfl h6.range _ Try.underlying57 rfl infoHd ?_)
                | ((with_reducible refine wpList_here ?_); refine wpList_storeV rfl 57 (.tmp 6) (.tmp 53) rfl _ _ (hv op fi false false (decide (X.isFresh q)) (.slice A4 n4 c4)) rfl rfl y6 rfl (hd_one _ _ _ _ _ rfl) infoHd ?_; intro w9 z9 g9 s9)
                | fail)
              refine bodyPost_ret (results_c0 rfl _ _ (w.heap.size + 1) _ _ rfl z9.range Try.underlying57 rfl infoHd) rfl ?_
              exact ⟨_, _, _, _, _, rfl, LeftH.behind H.out HB3.out (by omega) (by omega) (by omega) (LeftH.then_ (s := s) (s1 := ⟨s.fb, qb4, v4, p4, u4, ol4⟩) rfl HC4.out.1 HC4.out.2 HL6.out) g9⟩
          · rw [if_neg hw]
            rw [decide_eq_false (fun e => hw e.1)]
            have hwd : decide ((3 : Int) ≤ (X).st ∧ ((X).st : Int) ≤ 9) = false := decide_eq_false (by omega)
            clear hw hos
            as_aux_lemma =>
              go_enter Try.func20, Try.ntmps20
              go_wp2_with (first
                | ((with_reducible refine wpList_here ?_); refine wpList_boxV (o := ⟨some 4, _, _, _, _, _⟩) rfl 47 (.tmp 1) rfl (sgx q ak false true fin false A n c) rfl _ rfl ?_; intro w0 z0 b0 s0)
                | ((with_reducible refine wpList_here ?_); refine wpList_allocV (o := ⟨some 6, _, _, _, _, _⟩) rfl 57 rfl hz zeroHd _ s0 ?_; intro w1 y1 b1 s1; have HB1 := Lib.hid (below_trans b0 b1); have HF1 := Lib.hid (H.out.below (below_trans b0 b1)); have z1 := z0.below b1; have hs1 : w1.heap.size = w.heap.size + 2 := s1; have k9 : w1.cell? ⟨w.heap.size, 9, none⟩ = some (.bool false) := (z1 9 (by rw [sgx_length]; omega)).1; have k6 : w1.cell? ⟨w.heap.size, 6, none⟩ = some (.bool false) := (z1 6 (by rw [sgx_length]; omega)).1; have k5 : w1.cell? ⟨s.fb, 5, none⟩ = some (.int .i64 (x.st : Int)) := by { have := HF1.out.fa.c5; dsimp only [F.fc] at this; exact this }; clear b1 b0 z0 s0 s1)
                | (go_at_call 35; refine (HEnd.out _ HB1.out).mono ?_; rintro e w2 ⟨rfl, rfl⟩)
                | ((with_reducible refine wpList_here ?_); refine wpList_allocV (o := ⟨some 7, _, _, _, _, _⟩) rfl 57 rfl hz zeroHd _ hs1 ?_; intro w3 h3 b3 s3; have HB3 := Lib.hid (below_trans HB1.out b3); have z3 := z1.below b3; have y3 := y1.below b3; have q7 : w3.cell? ⟨w.heap.size, 7, none⟩ = some (.bool true) := (z3 7 (by rw [sgx_length]; omega)).1; have q5 : w3.cell? ⟨w.heap.size, 5, none⟩ = some (.int .u32 (ak : Int)) := (z3 5 (by rw [sgx_length]; omega)).1; skip; clear b3 z1 y1 k6 k9 k5)
                | (go_at_call 43; refine (HAk.out _ HB3.out _ h3 (HT.out _ (by omega))).mono ?_; rintro e w4 ⟨rfl, l4, op, A4, n4, c4, h4⟩; have z4 := l4.own z3 (by rw [sgx_length]; omega) (HT.out _ (by omega)) (by omega); have y4 := l4.own y3 (by decide) (HT.out _ (by omega)) (by omega); obtain ⟨s4, e4, f4, C4, m4⟩ := l4; obtain ⟨fb4, qb4, v4, p4, u4, ol4⟩ := s4; dsimp only at e4; subst e4; have HF4 := Lib.hid f4; have HC4 := Lib.hid (And.intro C4 m4); have HW4 := Lib.hid (HWi.out _ _ _ f4); dsimp only at HW4; rw [show ∀ v, decide ((3 : Int) ≤ (X.fc qb4 v).st ∧ ((X.fc qb4 v).st : Int) ≤ 9) = false from fun _ => hwd] at HW4; have hbt4 : ¬ (⟨s.fb, qb4, v4, p4, u4, ol4⟩ : Sh).T (w.heap.size + 2) := fun e => by { rcases m4 _ e with h | h; exact HT.out _ (by omega) h; omega }; skip; clear f4 C4 m4 z3 y3 h3 q7 q5)
                | (go_at_call 36; refine HW4.out.mono ?_; rintro e w5 ⟨rfl, rfl⟩)
                | ((with_reducible refine wpList_here ?_); refine wpList_loadV (o := ⟨some 53, _, _, _, _, _⟩) rfl 57 (.tmp 7) rfl _ _ (hv op false false false false (.slice A4 n4 c4)) rfl h4.range _ Try.underlying57 rfl infoHd ?_)
                | ((with_reducible refine wpList_here ?_); refine wpList_storeV rfl 57 (.tmp 6) (.tmp 53) rfl _ _ (hv op false false false false (.slice A4 n4 c4)) rfl rfl y4 rfl (hd_one _ _ _ _ _ rfl) infoHd ?_; intro w9 z9 g9 s9)
                | fail)
              refine bodyPost_ret (results_c0 rfl _ _ (w.heap.size + 1) _ _ rfl z9.range Try.underlying57 rfl infoHd) rfl ?_
              exact ⟨_, _, _, _, _, rfl, LeftH.behind H.out HB3.out (by omega) (by omega) (by omega) (LeftH.then_ (s := s) (s1 := ⟨s.fb, qb4, v4, p4, u4, ol4⟩) rfl HC4.out.1 HC4.out.2 ⟨_, rfl, HF4.out, Ch.refl _ _, fun g h => .inl h⟩) g9⟩
        | false =>
          have hk : x.hacks ak false t = x := if_neg (fun e : false = true => by cases e)
          rw [hk] at hos ⊢
          clear hk
          have HOS := Lib.hid hos
          by_cases hw : 3 ≤ (x).st ∧ (x).st ≤ 9
          · rw [if_pos hw]
            rw [show decide ((3 ≤ (x).st ∧ (x).st ≤ 9) ∧ (x).isFresh q) = decide ((x).isFresh q) from by by_cases hf : (x).isFresh q; (rw [decide_eq_true hf, decide_eq_true ⟨hw, hf⟩]); (rw [decide_eq_false hf, decide_eq_false (fun e => hf e.2)])]
            have hwd : decide ((3 : Int) ≤ (x).st ∧ ((x).st : Int) ≤ 9) = true := decide_eq_true (by omega)
            clear hw hos
            as_aux_lemma =>
              go_enter Try.func20, Try.ntmps20
              go_wp2_with (first
                | ((with_reducible refine wpList_here ?_); refine wpList_boxV (o := ⟨some 4, _, _, _, _, _⟩) rfl 47 (.tmp 1) rfl (sgx q ak false false fin false A n c) rfl _ rfl ?_; intro w0 z0 b0 s0)
                | ((with_reducible refine wpList_here ?_); refine wpList_allocV (o := ⟨some 6, _, _, _, _, _⟩) rfl 57 rfl hz zeroHd _ s0 ?_; intro w1 y1 b1 s1; have HB1 := Lib.hid (below_trans b0 b1); have HF1 := Lib.hid (H.out.below (below_trans b0 b1)); have z1 := z0.below b1; have hs1 : w1.heap.size = w.heap.size + 2 := s1; have k9 : w1.cell? ⟨w.heap.size, 9, none⟩ = some (.bool false) := (z1 9 (by rw [sgx_length]; omega)).1; have k6 : w1.cell? ⟨w.heap.size, 6, none⟩ = some (.bool false) := (z1 6 (by rw [sgx_length]; omega)).1; have k5 : w1.cell? ⟨s.fb, 5, none⟩ = some (.int .i64 (x.st : Int)) := by { have := HF1.out.fa.c5; dsimp only [F.fc] at this; exact this }; clear b1 b0 z0 s0 s1)
                | (go_at_call 35; refine (HEnd.out _ HB1.out).mono ?_; rintro e w2 ⟨rfl, rfl⟩)
                | ((with_reducible refine wpList_here ?_); refine wpList_allocV (o := ⟨some 7, _, _, _, _, _⟩) rfl 57 rfl hz zeroHd _ hs1 ?_; intro w3 h3 b3 s3; have HB3 := Lib.hid (below_trans HB1.out b3); have z3 := z1.below b3; have y3 := y1.below b3; have q7 : w3.cell? ⟨w.heap.size, 7, none⟩ = some (.bool false) := (z3 7 (by rw [sgx_length]; omega)).1; have q5 : w3.cell? ⟨w.heap.size, 5, none⟩ = some (.int .u32 (ak : Int)) := (z3 5 (by rw [sgx_length]; omega)).1; have HF3 := Lib.hid (H.out.below HB3.out); have HW4 := Lib.hid (HWi.out _ _ _ HF3.out); rw [show decide ((3 : Int) ≤ (x.fc s.qb s.ov).st ∧ ((x.fc s.qb s.ov).st : Int) ≤ 9) = true from hwd] at HW4; have hbt4 : ¬ s.T (w.heap.size + 2) := HT.out _ (by omega); have HX := Lib.hid (HDa.out _ _ _ HF3.out rfl _ false _ h3 hbt4); clear b3 z1 y1 k6 k9 k5)
                | (go_at_call 36; refine HW4.out.mono ?_; rintro e w5 ⟨rfl, rfl⟩)
                | ((with_reducible refine wpList_here ?_); refine wpList_loadV (o := ⟨some 50, _, _, _, _, _⟩) rfl 47 (.tmp 4) rfl _ _ (sgx q ak false false fin false A n c) rfl z3.range _ Try.underlying47 rfl infoSg ?_)
                | (go_at_call 44; refine HX.out.mono ?_; rintro e w6 ⟨rfl, l6, fi, h6⟩; have y6 := l6.own y3 (by decide) (HT.out _ (by omega)) (by omega); have HL6 := Lib.hid l6; clear l6)
                | ((with_reducible refine wpList_here ?_); refine wpList_loadV (o := ⟨some 53, _, _, _, _, _⟩) rfl 57 (.tmp 7) rfl _ _ (hv false fi false false (decide (x.isFresh q)) (.slice none 0 0)) rfl h6.range _ Try.underlying57 rfl infoHd ?_)
                | ((with_reducible refine wpList_here ?_); refine wpList_storeV rfl 57 (.tmp 6) (.tmp 53) rfl _ _ (hv false fi false false (decide (x.isFresh q)) (.slice none 0 0)) rfl rfl y6 rfl (hd_one _ _ _ _ _ rfl) infoHd ?_; intro w9 z9 g9 s9)
                | fail)
              refine bodyPost_ret (results_c0 rfl _ _ (w.heap.size + 1) _ _ rfl z9.range Try.underlying57 rfl infoHd) rfl ?_
              exact ⟨_, _, _, _, _, rfl, LeftH.behind H.out HB3.out (by omega) (by omega) (by omega) HL6.out g9⟩
          · rw [if_neg hw]
            rw [decide_eq_false (fun e => hw e.1)]
            have hwd : decide ((3 : Int) ≤ (x).st ∧ ((x).st : Int) ≤ 9) = false := decide_eq_false (by omega)
            clear hw hos
            as_aux_lemma =>
              go_enter Try.func20, Try.ntmps20
              go_wp2_with (first
                | ((with_reducible refine wpList_here ?_); refine wpList_boxV (o := ⟨some 4, _, _, _, _, _⟩) rfl 47 (.tmp 1) rfl (sgx q ak false false fin false A n c) rfl _ rfl ?_; intro w0 z0 b0 s0)
                | ((with_reducible refine wpList_here ?_); refine wpList_allocV (o := ⟨some 6, _, _, _, _, _⟩) rfl 57 rfl hz zeroHd _ s0 ?_; intro w1 y1 b1 s1; have HB1 := Lib.hid (below_trans b0 b1); have HF1 := Lib.hid (H.out.below (below_trans b0 b1)); have z1 := z0.below b1; have hs1 : w1.heap.size = w.heap.size + 2 := s1; have k9 : w1.cell? ⟨w.heap.size, 9, none⟩ = some (.bool false) := (z1 9 (by rw [sgx_length]; omega)).1; have k6 : w1.cell? ⟨w.heap.size, 6, none⟩ = some (.bool false) := (z1 6 (by rw [sgx_length]; omega)).1; have k5 : w1.cell? ⟨s.fb, 5, none⟩ = some (.int .i64 (x.st : Int)) := by { have := HF1.out.fa.c5; dsimp only [F.fc] at this; exact this }; clear b1 b0 z0 s0 s1)
                | (go_at_call 35; refine (HEnd.out _ HB1.out).mono ?_; rintro e w2 ⟨rfl, rfl⟩)
                | ((with_reducible refine wpList_here ?_); refine wpList_allocV (o := ⟨some 7, _, _, _, _, _⟩) rfl 57 rfl hz zeroHd _ hs1 ?_; intro w3 h3 b3 s3; have HB3 := Lib.hid (below_trans HB1.out b3); have z3 := z1.below b3; have y3 := y1.below b3; have q7 : w3.cell? ⟨w.heap.size, 7, none⟩ = some (.bool false) := (z3 7 (by rw [sgx_length]; omega)).1; have q5 : w3.cell? ⟨w.heap.size, 5, none⟩ = some (.int .u32 (ak : Int)) := (z3 5 (by rw [sgx_length]; omega)).1; have HF3 := Lib.hid (H.out.below HB3.out); have HW4 := Lib.hid (HWi.out _ _ _ HF3.out); rw [show decide ((3 : Int) ≤ (x.fc s.qb s.ov).st ∧ ((x.fc s.qb s.ov).st : Int) ≤ 9) = false from hwd] at HW4; have hbt4 : ¬ s.T (w.heap.size + 2) := HT.out _ (by omega); skip; clear b3 z1 y1 k6 k9 k5)
                | (go_at_call 36; refine HW4.out.mono ?_; rintro e w5 ⟨rfl, rfl⟩)
                | ((with_reducible refine wpList_here ?_); refine wpList_loadV (o := ⟨some 53, _, _, _, _, _⟩) rfl 57 (.tmp 7) rfl _ _ (hv false false false false false (.slice none 0 0)) rfl h3.range _ Try.underlying57 rfl infoHd ?_)
                | ((with_reducible refine wpList_here ?_); refine wpList_storeV rfl 57 (.tmp 6) (.tmp 53) rfl _ _ (hv false false false false false (.slice none 0 0)) rfl rfl y3 rfl (hd_one _ _ _ _ _ rfl) infoHd ?_; intro w9 z9 g9 s9)
                | fail)
              refine bodyPost_ret (results_c0 rfl _ _ (w.heap.size + 1) _ _ rfl z9.range Try.underlying57 rfl infoHd) rfl ?_
              exact ⟨_, _, _, _, _, rfl, LeftH.behind H.out HB3.out (by omega) (by omega) (by omega) (⟨s, rfl, HF3.out, Ch.refl _ _, fun g h => .inl h⟩ : LeftH base _ s x (w.heap.size + 2) _) g9⟩
end
end Go.Proofs.Ytnpkmkjenlhkiaa

namespace Go.Proofs.Ytnpkmkjenlhkiaa
set_option linter.unusedVariables false
set_option linter.unusedSimpArgs false
set_option maxRecDepth 20000
open Go.RowKit Go.Lib

theorem dial_eq (i : Nat) (t : Int) : F.dial i t = ⟨Es.zero, 1, 0, 0, t, 4, t, true, i, [sK.at i], on i 1, [⟨sK.at i, 0, false, false⟩]⟩ := rfl
theorem answer_eq (i q : Nat) (t : Int) : F.answer i q t = ⟨Es.zero, 2, on q 1, 0, t, 4, t, true, i, [sK.at i], on i 1, [⟨sK.at i, on q 1, true, false⟩]⟩ := rfl

def nilp : Value := .pointer none
set_option maxHeartbeats 800000 in
theorem nState (w : World) : Calls Try.prog 13 #[nilp] w fun e w' => e = .returned (.int .i64 0) ∧ w' = w := by
  unfold nilp
  go_enter Try.func13, Try.ntmps13
  go_wp2_with fail
  go_ret
  exact ⟨rfl, rfl⟩
set_option maxHeartbeats 800000 in
theorem nAt (w : World) : Calls Try.prog 12 #[nilp] w fun e w' => e = .returned (.tuple #[.int .i64 0, .bool false]) ∧ w' = w := by
  unfold nilp
  go_enter Try.func12, Try.ntmps12
  go_wp2_with fail
  go_ret2
  exact ⟨rfl, rfl⟩
set_option maxHeartbeats 800000 in
theorem nLeft (w : World) : Calls Try.prog 14 #[nilp] w fun e w' => e = .returned (.slice none 0 0) ∧ w' = w := by
  unfold nilp
  go_enter Try.func14, Try.ntmps14
  go_wp2_with fail
  go_ret
  exact ⟨rfl, rfl⟩
set_option maxHeartbeats 800000 in
theorem nOut (w : World) : Calls Try.prog 18 #[nilp] w fun e w' => e = .returned (.slice none 0 0) ∧ w' = w := by
  unfold nilp
  go_enter Try.func18, Try.ntmps18
  go_wp2_with fail
  go_ret
  exact ⟨rfl, rfl⟩
set_option maxHeartbeats 800000 in
theorem nSend (v : Value) (d : Int) (l : Bool) (t : Int) (w : World) : Calls Try.prog 22 #[nilp, v, .int .i64 d, .bool l, .int .i64 t] w fun e w' => e = .returned (.int .i64 2) ∧ w' = w := by
  unfold nilp
  go_enter Try.func22, Try.ntmps22
  go_wp2_with fail
  go_ret
  exact ⟨rfl, rfl⟩
set_option maxHeartbeats 800000 in
theorem nClose (t : Int) (w : World) : Calls Try.prog 23 #[nilp, .int .i64 t] w fun e w' => e = .returned (.int .i64 2) ∧ w' = w := by
  unfold nilp
  go_enter Try.func23, Try.ntmps23
  go_wp2_with fail
  go_ret
  exact ⟨rfl, rfl⟩
set_option maxHeartbeats 800000 in
theorem nKill (w : World) : Calls Try.prog 17 #[nilp] w fun e w' => e = .returned (.tuple #[]) ∧ w' = w := by
  unfold nilp
  go_enter Try.func17, Try.ntmps17
  go_wp2_with fail
  refine bodyPost_ret (results_none rfl _ _ _) rfl ?_
  exact ⟨rfl, rfl⟩
set_option maxHeartbeats 800000 in
theorem nMay (w : World) : Calls Try.prog 50 #[nilp] w fun e w' => e = .returned (.int .i64 2) ∧ w' = w := by
  unfold nilp
  go_enter Try.func50, Try.ntmps50
  go_wp2_with fail
  go_ret
  exact ⟨rfl, rfl⟩
set_option maxHeartbeats 800000 in
theorem nTell (w : World) : Calls Try.prog 24 #[nilp] w fun e w' => e = .returned (.int .i64 2) ∧ w' = w := by
  have HM := Lib.hid (nMay w)
  unfold nilp at *
  go_enter Try.func24, Try.ntmps24
  go_wp2_with fail
  refine HM.out.mono ?_
  rintro e w1 ⟨rfl, rfl⟩
  go_wp2_with fail
  go_ret
  exact ⟨rfl, rfl⟩
set_option maxHeartbeats 800000 in
theorem nProbe (w : World) : Calls Try.prog 25 #[nilp] w fun e w' => e = .returned (.int .i64 2) ∧ w' = w := by
  have HM := Lib.hid (nMay w)
  unfold nilp at *
  go_enter Try.func25, Try.ntmps25
  go_wp2_with fail
  refine HM.out.mono ?_
  rintro e w1 ⟨rfl, rfl⟩
  go_wp2_with fail
  go_ret
  exact ⟨rfl, rfl⟩
set_option maxHeartbeats 800000 in
theorem nRsm (w : World) : Calls Try.prog 53 #[nilp] w fun e w' => e = .returned (.int .i64 32) ∧ w' = w := by
  unfold nilp
  go_enter Try.func53, Try.ntmps53
  go_wp2_with fail
  go_ret
  exact ⟨rfl, rfl⟩
set_option maxHeartbeats 800000 in
theorem nSmooth (w : World) : Calls Try.prog 26 #[nilp] w fun e w' => e = .returned (.int .i64 32) ∧ w' = w := by
  have HM := Lib.hid (nRsm w)
  unfold nilp at *
  go_enter Try.func26, Try.ntmps26
  go_wp2_with fail
  refine HM.out.mono ?_
  rintro e w1 ⟨rfl, rfl⟩
  go_wp2_with fail
  go_ret
  exact ⟨rfl, rfl⟩
set_option maxHeartbeats 1600000 in
theorem nExpire (t : Int) (w : World) : Calls Try.prog 21 #[nilp, .int .i64 t] w fun e w' => e = .returned (.agg hz.toArray) ∧ Below w.heap.size w w' := by
  unfold nilp
  go_enter Try.func21, Try.ntmps21
  go_wp2_with (first
    | ((with_reducible refine wpList_here ?_); refine wpList_allocV (o := ⟨some 4, _, _, _, _, _⟩) rfl 57 rfl hz zeroHd _ rfl ?_; intro w1 z1 b1 s1)
    | ((with_reducible refine wpList_here ?_); refine wpList_storeV rfl 57 (.tmp 4) (.tmp 16) rfl _ _ hz rfl rfl z1 rfl (hd_one _ _ _ _ _ rfl) infoHd ?_; intro w9 z9 g9 s9)
    | fail)
  refine bodyPost_ret (results_c0 rfl _ _ w.heap.size _ _ rfl z9.range Try.underlying57 rfl infoHd) rfl ?_
  exact ⟨rfl, v_below_g b1 g9 b1.size (Nat.le_refl _)⟩
/-- A segment's cells, whatever they hold. -/
structure Sv (vs : List Value) : Prop where
  len : vs.length = 13
  one : ∀ u ∈ vs, u.oneCell' = true
theorem sgx_sv (q ak : Nat) (syn kk fin rr : Bool) (A : Option Addr) (n c : Nat) : Sv (sgx q ak syn kk fin rr A n c) := ⟨rfl, sgx_one _ _ _ _ _ _ _ _ _⟩
theorem infoSv {vs : List Value} (h : Sv vs) : (Try.prog.info? 47).map (·.size) = some vs.length := by rw [h.len]; exact infoSg
set_option maxHeartbeats 1600000 in
theorem nHear (vs : List Value) (h : Sv vs) (t : Int) (w : World) : Calls Try.prog 20 #[nilp, .agg vs.toArray, .int .i64 t] w fun e w' => e = .returned (.agg hz.toArray) ∧ Below w.heap.size w w' := by
  unfold nilp
  go_enter Try.func20, Try.ntmps20
  go_wp2_with (first
    | ((with_reducible refine wpList_here ?_); refine wpList_boxV (o := ⟨some 4, _, _, _, _, _⟩) rfl 47 (.tmp 1) rfl vs rfl _ rfl ?_; intro w0 z0 b0 s0)
    | ((with_reducible refine wpList_here ?_); refine wpList_allocV (o := ⟨some 6, _, _, _, _, _⟩) rfl 57 rfl hz zeroHd _ s0 ?_; intro w1 z1 b1 s1)
    | ((with_reducible refine wpList_here ?_); refine wpList_storeV rfl 57 (.tmp 6) (.tmp 15) rfl _ _ hz rfl rfl z1 rfl (hd_one _ _ _ _ _ rfl) infoHd ?_; intro w9 z9 g9 s9)
    | fail)
  refine bodyPost_ret (results_c0 rfl _ _ (w.heap.size + 1) _ _ rfl z9.range Try.underlying57 rfl infoHd) rfl ?_
  exact ⟨rfl, v_below_g (below_trans b0 b1) g9 (by have := (below_trans b0 b1).size; omega) (by omega)⟩
set_option maxHeartbeats 1600000 in
theorem sameNil (w : World) : Calls Try.prog 39 #[.slice none 0 0, .slice none 0 0] w fun e w' => e = .returned (.bool true) ∧ w' = w := by
  go_enter Try.func39, Try.ntmps39
  go_wp2_with fail
  go_loopw [5] (fun i wr => i = .int .i64 0 ∧ wr = w) (fun _ _ => 0)
  case atStart => exact ⟨rfl, rfl⟩
  case round =>
    obtain ⟨rfl, rfl⟩ := hrel
    go_wp2_with fail
    go_ret
    exact ⟨rfl, rfl⟩
set_option maxHeartbeats 3200000 in
theorem sameHz (w : World) : Calls Try.prog 19 #[.agg hz.toArray, .agg hz.toArray] w fun e w' => e = .returned (.bool true) ∧ Below w.heap.size w w' := by
  have HN := Lib.hid (fun W => sameNil W)
  go_enter Try.func19, Try.ntmps19
  go_wp2_with (first
    | ((with_reducible refine wpList_here ?_); refine wpList_boxV (o := ⟨some 2, _, _, _, _, _⟩) rfl 57 (.tmp 0) rfl hz rfl _ rfl ?_; intro w0 z0 b0 s0)
    | ((with_reducible refine wpList_here ?_); refine wpList_boxV (o := ⟨some 3, _, _, _, _, _⟩) rfl 57 (.tmp 1) rfl hz rfl _ s0 ?_; intro w1 z1 b1 s1; have HB := Lib.hid (below_trans b0 b1); have z2 := z0.below b1; have a0 : w1.cell? ⟨w.heap.size, 0, none⟩ = some (.bool false) := (z2 0 (by decide)).1; have a1 : w1.cell? ⟨w.heap.size, 1, none⟩ = some (.bool false) := (z2 1 (by decide)).1; have a2 : w1.cell? ⟨w.heap.size, 2, none⟩ = some (.bool false) := (z2 2 (by decide)).1; have a3 : w1.cell? ⟨w.heap.size, 3, none⟩ = some (.bool false) := (z2 3 (by decide)).1; have a4 : w1.cell? ⟨w.heap.size, 4, none⟩ = some (.bool false) := (z2 4 (by decide)).1; have a5 : w1.cell? ⟨w.heap.size, 5, none⟩ = some (.slice none 0 0) := (z2 5 (by decide)).1; have c0 : w1.cell? ⟨w.heap.size + 1, 0, none⟩ = some (.bool false) := (z1 0 (by decide)).1; have c1 : w1.cell? ⟨w.heap.size + 1, 1, none⟩ = some (.bool false) := (z1 1 (by decide)).1; have c2 : w1.cell? ⟨w.heap.size + 1, 2, none⟩ = some (.bool false) := (z1 2 (by decide)).1; have c3 : w1.cell? ⟨w.heap.size + 1, 3, none⟩ = some (.bool false) := (z1 3 (by decide)).1; have c4 : w1.cell? ⟨w.heap.size + 1, 4, none⟩ = some (.bool false) := (z1 4 (by decide)).1; have c5 : w1.cell? ⟨w.heap.size + 1, 5, none⟩ = some (.slice none 0 0) := (z1 5 (by decide)).1; clear b0 b1 z0 z1 z2)
    | (go_at_call 39; refine (HN.out _).mono ?_; rintro e w3 ⟨rfl, rfl⟩)
    | fail)
  go_ret
  exact ⟨rfl, HB.out⟩
end Go.Proofs.Ytnpkmkjenlhkiaa

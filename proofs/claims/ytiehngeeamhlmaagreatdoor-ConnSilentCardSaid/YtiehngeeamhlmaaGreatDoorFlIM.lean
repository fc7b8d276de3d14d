/- The contract of Expire. Conditions: the flow stands, with at most 2^30 pieces and at most 2^38 to be sent; ticks between 0 and 2^60. -/
import Derived.Test.YtiehngeeamhlmaaGreatDoorFlHM
namespace Go.Proofs.YtiehngeeamhlmaaGreatDoor.LF
set_option linter.unusedVariables false
set_option linter.unusedSimpArgs false
set_option maxRecDepth 20000
open Go.RowKit Go.Lib

/-- What a call brought, as cells. -/
def hv (op fin rst dead fresh : Bool) (v : Value) : List Value := [.bool op, .bool fin, .bool rst, .bool dead, .bool fresh, v]
def hz : List Value := hv false false false false false (.slice none 0 0)
theorem infoHd : (Tryz.prog.info? 144).map (·.size) = some 6 := by kernel_rfl
theorem zeroHd : (Tryz.prog.info? 144).map (·.zero) = some (some (.agg hz.toArray)) := by kernel_rfl
theorem hd_one (a b c d e : Bool) {v : Value} (h : v.oneCell' = true) : ∀ u ∈ hv a b c d e v, u.oneCell' = true := by
  intro u hu
  simp only [hv, List.mem_cons, List.not_mem_nil, or_false] at hu
  rcases hu with rfl | rfl | rfl | rfl | rfl | rfl <;> first | rfl | exact h

def F.fin_ (x : F) (st : Nat) : F := { x with st := st, df := 0, dw := 0 }
def F.tried (x : F) : F := { x with tries := x.tries + 1 }
def F.backed (x : F) : F := { x with E := x.E.back }
/-- What is due, done. -/
def F.expire (x : F) (t : Int) : F :=
  if 0 < x.dw ∧ x.df + x.dw ≤ t then
    if x.st = 9 then x.fin_ 10
    else if 4 < x.tries + 1 then x.tried.fin_ 11
    else x.tried.backed.again t
  else x
/-- Is it dead by that? -/
def F.dies (x : F) (t : Int) : Bool := decide ((0 < x.dw ∧ x.df + x.dw ≤ t) ∧ x.st ≠ 9 ∧ 4 < x.tries + 1)
theorem cellB {w w' : World} {p : Addr} {v : Value} (b : Below w.heap.size w w') (h : w.cell? p = some v) : w'.cell? p = some v := (b.cell (World.block_lt_of_cell? w p h)).trans h
theorem _root_.Go.Proofs.YtiehngeeamhlmaaGreatDoor.Own.ch {w w' : World} {b : Nat} {vs : List Value} (h : Own w b vs) (hn : 0 < vs.length) {m : Nat → Prop} (c : Ch w w' m) (hm : ¬ m b) : Own w' b vs := fun j hj => by
  have hlt := h.lt hn
  refine ⟨?_, ?_⟩
  · have h1 := (h j hj).1
    rw [List.getElem?_eq_getElem hj] at h1 ⊢
    exact c.cell h1 hm
  · have := (h j hj).2
    unfold World.frozen? at *
    rw [show w'.heap[(⟨b, j, none⟩ : Addr).block]? = w.heap[(⟨b, j, none⟩ : Addr).block]? from c.block b hlt hm]
    exact this
section
variable {base : Nat} {w w' : World} {s : Sh} {x : F}
theorem Fl.fin_ {e : Ending} (h : Fl base w s x) {st : Nat} (d : Did w s.fb ((x.fc s.qb s.ov).fin_ st) e w') : Left base w s (x.fin_ st) w' :=
  h.left d.2.1 d.2.2 rfl rfl rfl rfl rfl h.rcv
theorem Fl.backed_ {e : Ending} (h : Fl base w s x) (d : Did w s.fb ((x.fc s.qb s.ov).est x.E.back) e w') : Fl base w' s x.backed ∧ Ch w w' (fun g => g = s.fb) :=
  ⟨h.did d.2.1 d.2.2 rfl rfl rfl rfl rfl h.rcv, d.2.2⟩
theorem Fl.tried_ (h : Fl base w s x) : Fl base (w.setCell ⟨s.fb, 7, none⟩ (.int .i64 ((x.tries : Int) + 1))) s x.tried ∧ Ch w (w.setCell ⟨s.fb, 7, none⟩ (.int .i64 ((x.tries : Int) + 1))) (fun g => g = s.fb) :=
  ⟨h.did (h.fa.set 7 _ (x.tried.fc s.qb s.ov) (by show _ = Fc.cs _; unfold Fc.cs F.tried F.fc; dsimp only; rw [Int.natCast_add]; rfl)) (ch_set _ _ _ _) rfl rfl rfl rfl rfl h.rcv, ch_set _ _ _ _⟩
/-- Behind a call that leaves the flow, the block of what it answers. -/
theorem Left.own {w1 w2 : World} {x1 : F} {vs : List Value} {g : Nat} (h : Left base w1 s x1 w2) (z : Own w1 g vs) (hn : 0 < vs.length) (hg : ¬ s.T g) : Own w2 g vs := by
  obtain ⟨s2, _, _, c, _⟩ := h
  exact z.ch hn c hg
theorem Left.behind {w1 w4 w5 : World} {x1 : F} (H : Fl base w s x) (b : Below w.heap.size w w1) (hs : w.heap.size < w1.heap.size) (h : Left base w1 s x1 w4) (k : w4.grownBy w5 (some w.heap.size)) : Left base w s x1 w5 := by
  obtain ⟨s2, e, f, c, n⟩ := h
  have ck : Ch w4 w5 (fun g => g = w.heap.size) := Ch.grown (m := fun g => g = w.heap.size) (Ch.refl w4 _) k (fun g e _ => by injection e with e; exact e.symm)
  refine ⟨s2, e, f.frame ck (fun g hg e => ?_), ((Ch.of_below _ b).then_ c).trans ck (fun _ _ h => h) (fun g hg e => by omega), fun g hg => ?_⟩
  · rcases n g hg with h | h
    · have := (H.in_ h).2
      omega
    · omega
  · rcases n g hg with h | h
    · exact .inl h
    · exact .inr (Nat.le_trans b.size h)
set_option maxHeartbeats 3200000 in
theorem Expire_any (h : Fl base w s x) (hl : x.ks.length ≤ 1073741824) (hd : ∀ k ∈ x.ks, k.ds.length ≤ 1099511627776) (hn : x.os.length ≤ 274877906944) (hE : x.E.Ok) (hE2 : x.E.d < 1000000) (hf : 0 ≤ x.df ∧ x.df ≤ 1152921504606846976) (htr : x.tries ≤ 1000000) (t : Int) (ht : 0 ≤ t ∧ t ≤ 1152921504606846976) :
    Calls Tryz.prog 263 #[ptr s.fb, .int .i64 t] w fun e w' => e = .returned (.agg (hv false false false (x.dies t) false (.slice none 0 0)).toArray) ∧ Left base w s (x.expire t) w' := by
  have H := Lib.hid h
  have HR := Lib.hid (fun W => reached_any x.df x.dw t W hf ht)
  have HI : Hid (isInt t) := Lib.hid (by unfold isInt; omega)
  have HL := Lib.hid (And.intro hl (And.intro hd (And.intro hn (And.intro hE hE2))))
  have HT := Lib.hid htr
  unfold F.expire F.dies
  by_cases hdue : 0 < x.dw ∧ x.df + x.dw ≤ t
  · rw [if_pos hdue]
    have hdd : decide (0 < x.dw ∧ x.df + x.dw ≤ t) = true := decide_eq_true hdue
    rw [hdd] at HR
    by_cases h9 : x.st = 9
    · rw [if_pos h9, decide_eq_false (fun e => e.2.1 h9)]
      have HEnd := Lib.hid (fun (W : World) (b : Below w.heap.size w W) => end_any (h.below b).fa 10)
      clear h hl hd hn hE hE2 hf htr ht
      unfold ptr dl at *
      go_enter Tryz.func263, Tryz.ntmps263
      go_wp2_with (first
        | ((with_reducible refine wpList_here ?_); refine wpList_allocV (o := ⟨some 4, _, _, _, _, _⟩) rfl 144 rfl hz zeroHd _ rfl ?_; intro w1 z1 b1 s1; have HF1 := Lib.hid (H.out.below b1); have k8 := HF1.out.fa.c8; have k9 := HF1.out.fa.c9; dsimp only [F.fc] at k8 k9)
        | (go_at_call 313; refine (HR.out _).mono ?_; rintro e w2 ⟨rfl, b2⟩; have HB3 := Lib.hid (below_trans b1 b2); have HS3 : Hid (w.heap.size < w2.heap.size) := Lib.hid (by have := b2.size; omega); have z2 := z1.below b2; have HF3 := Lib.hid (H.out.below HB3.out); have j5 := HF3.out.fa.c5; have f5 := HF3.out.fa.fz 5; dsimp only [F.fc] at j5; rw [h9] at j5; clear k8 k9 z1 b1 b2 s1 HF1)
        | (go_at_call 160; refine (HEnd.out _ HB3.out).mono ?_; rintro e w4 d4; obtain rfl := d4.1; have hf4 := HF3.out.fin_ d4; have HF4 := Lib.hid hf4; have z4 := hf4.own z2 (by decide) (fun e => by have := (H.out.in_ e).2; omega); clear d4 z2 hf4)
        | ((with_reducible refine wpList_here ?_); refine wpList_storeV rfl 144 (.tmp 4) (.tmp 24) rfl _ _ hz rfl rfl z4 rfl (hd_one _ _ _ _ _ rfl) infoHd ?_; intro w9 z9 g9 s9)
        | fail)
      refine bodyPost_ret (results_c0 rfl _ _ w.heap.size _ _ rfl z9.range Tryz.underlying144 rfl infoHd) rfl ?_
      exact ⟨rfl, Left.behind H.out HB3.out HS3.out HF4.out g9⟩
    · have n9 : ((x.st : Int) == 9) = false := by rw [beq_eq_false_iff_ne]; omega
      have hwr : IntKind.i64.wrap ((x.tries : Int) + 1) = (x.tries : Int) + 1 := by rw [IntKind.wrap_i64]; omega
      rw [if_neg h9]
      by_cases h4 : 4 < x.tries + 1
      · rw [if_pos h4, decide_eq_true ⟨hdue, h9, h4⟩]
        have h4i : (4 : Int) < (x.tries : Int) + 1 := by omega
        have HEnd := Lib.hid (fun (W : World) (f : Fl base W s x.tried) => end_any f.fa 11)
        clear h hl hd hn hE hE2 hf htr ht
        unfold ptr dl at *
        go_enter Tryz.func263, Tryz.ntmps263
        go_wp2_with (first
          | ((with_reducible refine wpList_here ?_); refine wpList_allocV (o := ⟨some 4, _, _, _, _, _⟩) rfl 144 rfl hz zeroHd _ rfl ?_; intro w1 z1 b1 s1; have HF1 := Lib.hid (H.out.below b1); have k8 := HF1.out.fa.c8; have k9 := HF1.out.fa.c9; dsimp only [F.fc] at k8 k9)
          | (go_at_call 313; refine (HR.out _).mono ?_; rintro e w2 ⟨rfl, b2⟩; have HB3 := Lib.hid (below_trans b1 b2); have HS3 : Hid (w.heap.size < w2.heap.size) := Lib.hid (by have := b2.size; omega); have z2 := z1.below b2; have HF3 := Lib.hid (H.out.below HB3.out); have j5 := HF3.out.fa.c5; have f5 := HF3.out.fa.fz 5; have j7 := HF3.out.fa.c7; have f7 := HF3.out.fa.fz 7; dsimp only [F.fc] at j5 j7; clear k8 k9 z1 b1 b2 s1 HF1)
          | (go_at_call 160; (have ht3 := HF3.out.tried_); (have z4 := z2.ch (by decide) ht3.2 (fun e => by have := (H.out.in_ (.inl e)).2; omega)); refine (HEnd.out _ ht3.1).mono ?_; rintro e w4 d4; obtain rfl := d4.1; have hf4 := ht3.1.fin_ d4; have z5 := hf4.own z4 (by decide) (fun e => by have := (H.out.in_ e).2; omega); have HF4 := Lib.hid (Left.then_ rfl (ht3.2.mono (fun _ _ e => .inl e)) (fun g h => .inl h) hf4 : Left base w2 s (x.tried.fin_ 11) w4); clear d4 z2 hf4 ht3 z4)
          | ((with_reducible refine wpList_here ?_); refine wpList_storeV rfl 144 (.tmp 4) (.tmp 39) rfl _ _ (hv false false false true false (.slice none 0 0)) rfl rfl z5 rfl (hd_one _ _ _ _ _ rfl) infoHd ?_; intro w9 z9 g9 s9)
          | fail)
        refine bodyPost_ret (results_c0 rfl _ _ w.heap.size _ _ rfl z9.range Tryz.underlying144 rfl infoHd) rfl ?_
        exact ⟨rfl, Left.behind H.out HB3.out HS3.out HF4.out g9⟩
      · rw [if_neg h4, decide_eq_false (fun e => h4 e.2.2)]
        have h4i : decide ((4 : Int) < (x.tries : Int) + 1) = false := decide_eq_false (by omega)
        have HBack := Lib.hid (fun (W : World) (f : Fl base W s x.tried) => Back_any f.fa (by exact hE2))
        have HAgain := Lib.hid (fun (W : World) (f : Fl base W s x.tried.backed) => sendAgain_any f hl hd hn (Ok_back hE hE2) t HI.out)
        unfold ptr1 at HBack
        clear h hl hd hn hE hE2 hf htr ht
        unfold ptr dl at *
        go_enter Tryz.func263, Tryz.ntmps263
        go_wp2_with (first
          | ((with_reducible refine wpList_here ?_); refine wpList_allocV (o := ⟨some 4, _, _, _, _, _⟩) rfl 144 rfl hz zeroHd _ rfl ?_; intro w1 z1 b1 s1; have HF1 := Lib.hid (H.out.below b1); have k8 := HF1.out.fa.c8; have k9 := HF1.out.fa.c9; dsimp only [F.fc] at k8 k9)
          | (go_at_call 313; refine (HR.out _).mono ?_; rintro e w2 ⟨rfl, b2⟩; have HB3 := Lib.hid (below_trans b1 b2); have HS3 : Hid (w.heap.size < w2.heap.size) := Lib.hid (by have := b2.size; omega); have z2 := z1.below b2; have HF3 := Lib.hid (H.out.below HB3.out); have j5 := HF3.out.fa.c5; have f5 := HF3.out.fa.fz 5; have j7 := HF3.out.fa.c7; have f7 := HF3.out.fa.fz 7; dsimp only [F.fc] at j5 j7; clear k8 k9 z1 b1 b2 s1 HF1)
          | (go_at_call 314; (have ht3 := HF3.out.tried_); (have z4 := z2.ch (by decide) ht3.2 (fun e => by have := (H.out.in_ (.inl e)).2; omega)); refine (HBack.out _ ht3.1).mono ?_; rintro e w4 d4; obtain rfl := d4.1; have hf4 := ht3.1.backed_ d4; have z5 := z4.ch (by decide) hf4.2 (fun e => by have := (H.out.in_ (.inl e)).2; omega); have HF4 := Lib.hid hf4.1; have HC4 := Lib.hid (ht3.2.then_ hf4.2); clear d4 z2 hf4 ht3 z4)
          | (go_at_call 219; refine (HAgain.out _ HF4.out).mono ?_; rintro e w6 ⟨rfl, l6⟩; have z6 := l6.own z5 (by decide) (fun e => by have := (H.out.in_ e).2; omega); have HF6 := Lib.hid (Left.then_ rfl (HC4.out.mono (fun _ _ e => .inl e)) (fun g h => .inl h) l6 : Left base w2 s (x.tried.backed.again t) w6); clear l6 z5)
          | ((with_reducible refine wpList_here ?_); refine wpList_storeV rfl 144 (.tmp 4) (.tmp 47) rfl _ _ hz rfl rfl z6 rfl (hd_one _ _ _ _ _ rfl) infoHd ?_; intro w9 z9 g9 s9)
          | fail)
        refine bodyPost_ret (results_c0 rfl _ _ w.heap.size _ _ rfl z9.range Tryz.underlying144 rfl infoHd) rfl ?_
        exact ⟨rfl, Left.behind H.out HB3.out HS3.out HF6.out g9⟩
  · rw [if_neg hdue, decide_eq_false (fun e => hdue e.1)]
    have hdd : decide (0 < x.dw ∧ x.df + x.dw ≤ t) = false := decide_eq_false hdue
    rw [hdd] at HR
    clear h hl hd hn hE hE2 hf htr ht
    unfold ptr dl at *
    go_enter Tryz.func263, Tryz.ntmps263
    go_wp2_with (first
      | ((with_reducible refine wpList_here ?_); refine wpList_allocV (o := ⟨some 4, _, _, _, _, _⟩) rfl 144 rfl hz zeroHd _ rfl ?_; intro w1 z1 b1 s1; have HF1 := Lib.hid (H.out.below b1); have k8 := HF1.out.fa.c8; have k9 := HF1.out.fa.c9; dsimp only [F.fc] at k8 k9)
      | (go_at_call 313; refine (HR.out _).mono ?_; rintro e w2 ⟨rfl, b2⟩; have HB3 := Lib.hid (below_trans b1 b2); have HS3 : Hid (w.heap.size < w2.heap.size) := Lib.hid (by have := b2.size; omega); have z2 := z1.below b2; have HF3 := Lib.hid (H.out.below HB3.out); skip; clear k8 k9 z1 b1 b2 s1 HF1)
      | ((with_reducible refine wpList_here ?_); refine wpList_storeV rfl 144 (.tmp 4) (.tmp 16) rfl _ _ hz rfl rfl z2 rfl (hd_one _ _ _ _ _ rfl) infoHd ?_; intro w9 z9 g9 s9)
      | fail)
    refine bodyPost_ret (results_c0 rfl _ _ w.heap.size _ _ rfl z9.range Tryz.underlying144 rfl infoHd) rfl ?_
    exact ⟨rfl, Left.behind H.out HB3.out HS3.out (Left.same (H.out.below HB3.out) (Below.refl _ _)) g9⟩
end
end Go.Proofs.YtiehngeeamhlmaaGreatDoor.LF

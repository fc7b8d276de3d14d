/- The contract of hearAnswer. Conditions: the flow stands, its numbers within their bounds. -/
import Derived.Test.YtnpkmkjenlhkiaaMg12
namespace Go.Proofs.Ytnpkmkjenlhkiaa
set_option linter.unusedVariables false
set_option linter.unusedSimpArgs false
set_option maxRecDepth 20000
open Go.RowKit Go.Lib

def F.rcvd (x : F) (n : Nat) : F := { x with rcv := n }
/-- What may answer the Syn of who dialed. -/
def F.hans (x : F) (q ak : Nat) (syn kk : Bool) (t : Int) : F := if syn = true ∧ kk = true ∧ ak = x.en then (((x.rcvd (on q 1)).acked ak t).at_ 3).tell (tK x.en) else x
theorem redue_en (x : F) (t : Int) : (x.redue t).en = x.en := by unfold F.redue; split <;> rfl
theorem redue_os (x : F) (t : Int) : (x.redue t).os = x.os := by unfold F.redue; split <;> rfl
/-- An acknowledgement that lets k pieces go. -/
def F.ackd (x : F) (k : Nat) (t : Int) : F := ((if (x.cut k).tm = true then (x.cut k).samp t else x.cut k).fresh_).redue t
theorem acked_ (x : F) (a : Nat) (t : Int) : (x.gone a = [] ∧ x.acked a t = x) ∨ (x.gone a ≠ [] ∧ x.acked a t = x.ackd (x.gone a).length t) := by
  by_cases h : x.gone a = []
  · exact .inl ⟨h, if_pos h⟩
  · exact .inr ⟨h, if_neg h⟩
theorem ackd_en (x : F) (k : Nat) (t : Int) : (x.ackd k t).en = x.en := by
  unfold F.ackd
  rw [redue_en]
  show (if (x.cut k).tm = true then (x.cut k).samp t else x.cut k).en = x.en
  by_cases h : (x.cut k).tm = true
  · rw [if_pos h]; rfl
  · rw [if_neg h]; rfl
theorem ackd_os (x : F) (k : Nat) (t : Int) : (x.ackd k t).os = x.os := by
  unfold F.ackd
  rw [redue_os]
  show (if (x.cut k).tm = true then (x.cut k).samp t else x.cut k).os = x.os
  by_cases h : (x.cut k).tm = true
  · rw [if_pos h]; rfl
  · rw [if_neg h]; rfl
theorem acked_en (x : F) (a : Nat) (t : Int) : (x.acked a t).en = x.en := by
  rcases acked_ x a t with ⟨_, h⟩ | ⟨_, h⟩ <;> rw [h]
  exact ackd_en _ _ _
theorem acked_os (x : F) (a : Nat) (t : Int) : (x.acked a t).os = x.os := by
  rcases acked_ x a t with ⟨_, h⟩ | ⟨_, h⟩ <;> rw [h]
  exact ackd_os _ _ _
section
variable {base : Nat} {w w' : World} {s : Sh} {x : F}
theorem Left.behind2 {w1 w4 w5 : World} {x1 : F} {g : Nat} (H : Fl base w s x) (b : Below w.heap.size w w1) (h1 : w.heap.size ≤ g) (h2 : g < w1.heap.size) (h : Left base w1 s x1 w4) (k : w4.grownBy w5 (some g)) : Left base w s x1 w5 := by
  obtain ⟨s2, e, f, c, n⟩ := h
  have ck : Ch w4 w5 (fun j => j = g) := Ch.grown (m := fun j => j = g) (Ch.refl w4 _) k (fun j e _ => by injection e with e; exact e.symm)
  refine ⟨s2, e, f.frame ck (fun j hj e => ?_), ((Ch.of_below _ b).then_ c).trans ck (fun _ _ h => h) (fun j hj e => by omega), fun j hj => ?_⟩
  · rcases n j hj with h | h
    · have := (H.in_ h).2
      omega
    · omega
  · rcases n j hj with h | h
    · exact .inl h
    · exact .inr (Nat.le_trans b.size h)
theorem Fl.rcvd_ (h : Fl base w s x) {n : Nat} (hn : n < 4294967296) : Fl base (w.setCell ⟨s.fb, 6, none⟩ (.int .u32 (n : Int))) s (x.rcvd n) ∧ Ch w (w.setCell ⟨s.fb, 6, none⟩ (.int .u32 (n : Int))) (fun g => g = s.fb) :=
  ⟨h.did (h.fa.set 6 _ ((x.rcvd n).fc s.qb s.ov) rfl) (ch_set _ _ _ _) rfl rfl rfl rfl rfl hn, ch_set _ _ _ _⟩
theorem Fl.st_ (h : Fl base w s x) (st : Nat) : Fl base (w.setCell ⟨s.fb, 5, none⟩ (.int .i64 (st : Int))) s (x.at_ st) ∧ Ch w (w.setCell ⟨s.fb, 5, none⟩ (.int .i64 (st : Int))) (fun g => g = s.fb) :=
  ⟨h.did (h.fa.set 5 _ ((x.at_ st).fc s.qb s.ov) rfl) (ch_set _ _ _ _) rfl rfl rfl rfl rfl h.rcv, ch_set _ _ _ _⟩
/-- What a call leaves on a flow that answers what it brought: whether it was opened, and whether its data are fresh. -/
def HeardP (base : Nat) (w : World) (s : Sh) (x' : F) (fresh : Bool) (e : Ending) (w' : World) : Prop := ∃ op fin A n c, e = .returned (.agg (hv op fin false false fresh (.slice A n c)).toArray) ∧ Left base w s x' w'
set_option maxHeartbeats 6400000 in
theorem hearAnswer_any (h : Fl base w s x) (q ak : Nat) (syn kk fin rr : Bool) (A : Option Addr) (n c : Nat) (hq : q < 4294967296) (ha : ak < 4294967296) (hto : tot x.ks ≤ 2147483648) (hl : x.ks.length ≤ 1073741824) (hd : ∀ k ∈ x.ks, k.ds.length ≤ 1099511627776) (hn : x.os.length ≤ 274877906944) (hE : x.E.Ok) (hb : 0 ≤ x.bg ∧ x.bg ≤ 1152921504606846976) (t : Int) (h0 : 0 ≤ t ∧ t ≤ 1152921504606846976) :
    Calls Try.prog 41 #[ptr s.fb, .agg (sgx q ak syn kk fin rr A n c).toArray, .int .i64 t] w (HeardP base w s (x.hans q ak syn kk t) false) := by
  have H := Lib.hid h
  have HEn := Lib.hid (fun (W : World) (b : Below w.heap.size w W) => End_any (h.below b).qu)
  have HON := Lib.hid (fun W => On_any q 1 W hq (by omega))
  have HAc := Lib.hid (fun (W : World) (f : Fl base W s (x.rcvd (on q 1))) => acknowledge_any f ak ha hto hl hd hE hb t h0)
  have HN := Lib.hid hn
  have hfb := h.fa.lt
  unfold F.hans
  unfold AcP at HAc
  have hXe : ((x.rcvd (on q 1)).acked ak t).en = x.en := acked_en (x.rcvd (on q 1)) ak t
  have hXo : ((x.rcvd (on q 1)).acked ak t).os = x.os := acked_os (x.rcvd (on q 1)) ak t
  generalize (x.rcvd (on q 1)).acked ak t = X at *
  generalize (x.rcvd (on q 1)).gone ak = gs at *
  have HXe := Lib.hid hXe
  have HXo := Lib.hid hXo
  clear hXe hXo
  clear h hl hd hn hE h0 hb hto
  unfold ptr at *
  cases syn with
  | false =>
    rw [if_neg (fun e => by cases e.1)]
    as_aux_lemma =>
      go_enter Try.func41, Try.ntmps41
      go_wp2_with (first
        | ((with_reducible refine wpList_here ?_); refine wpList_boxV (o := ⟨some 4, _, _, _, _, _⟩) rfl 47 (.tmp 1) rfl (sgx q ak false kk fin rr A n c) rfl _ rfl ?_; intro w0 z0 b0 s0)
        | ((with_reducible refine wpList_here ?_); refine wpList_allocV (o := ⟨some 6, _, _, _, _, _⟩) rfl 57 rfl hz zeroHd _ s0 ?_; go_loud (intro w1 y1 b1 s1; have HB1 := Lib.hid (below_trans b0 b1).drew; have HF1 := Lib.hid (H.out.below (below_trans b0 b1).drew); have z1d : Own w1.drew w.heap.size (sgx q ak false kk fin rr A n c) := z0.below b1.drew; have y1d : Own w1.drew (w.heap.size + 1) hz := y1; have s1 : w1.heap.size = w.heap.size + 2 := s1; clear b1 b0 z0 y1 s0))
        | fail)
      generalize hwd : w1.drew = wd at *
      generalize hgz : w.heap.size = g at *
      have hsz : g ≤ wd.heap.size := by rw [← hwd]; show g ≤ w1.heap.size; omega
      have hsy : g + 1 < wd.heap.size := by rw [← hwd]; show g + 1 < w1.heap.size; omega
      have e0 : wd.cell? ⟨s.fb, 0, none⟩ = some (.pointer (some ⟨s.qb, 0, none⟩)) ∧ wd.cell? ⟨g, 5, none⟩ = some (.int .u32 (ak : Int)) ∧ wd.cell? ⟨g, 6, none⟩ = some (.bool false) ∧ wd.cell? ⟨g, 7, none⟩ = some (.bool kk) := ⟨HF1.out.fa.c0, (z1d 5 (by rw [sgx_length]; omega)).1, (z1d 6 (by rw [sgx_length]; omega)).1, (z1d 7 (by rw [sgx_length]; omega)).1⟩
      refine wp_region_noPanic ?_
      refine wp_region_held_drew (S := fun W => W.cell? ⟨s.fb, 0, none⟩ = some (.pointer (some ⟨s.qb, 0, none⟩)) ∧ W.cell? ⟨g, 5, none⟩ = some (.int .u32 (ak : Int)) ∧ W.cell? ⟨g, 6, none⟩ = some (.bool false) ∧ W.cell? ⟨g, 7, none⟩ = some (.bool kk)) (by kernel_rfl) (by rw [hwd]; exact e0) (fun _ => ?_)
      rw [hwd]
      clear hwd
      refine held_take (i := 0) (v := .pointer (some ⟨g, 6, none⟩)) (some 8) rfl rfl (by kernel_rfl) (by kernel_rfl) (by kernel_rfl) (fun _ _ _ h => h) (Or.inl ⟨by rfl, fun W hW => by go_simp⟩) e0 ?_
      simp only [Act.put, List.setIfInBounds_toArray, List.set_cons_zero, List.set_cons_succ]
      refine held_take (i := 1) (v := .bool false) (some 9) rfl rfl (by kernel_rfl) (by kernel_rfl) (by kernel_rfl) (fun _ _ _ h => h) (Or.inl ⟨by rfl, fun W hW => by have hc := hW.2.2.1; go_simp⟩) e0 ?_
      simp only [Act.put, List.setIfInBounds_toArray, List.set_cons_zero, List.set_cons_succ]
      refine held_take (i := 2) (v := .bool true) (some 10) rfl rfl (by kernel_rfl) (by kernel_rfl) (by kernel_rfl) (fun _ _ _ h => h) (Or.inl ⟨by rfl, fun W hW => by go_simp⟩) e0 ?_
      simp only [Act.put, List.setIfInBounds_toArray, List.set_cons_zero, List.set_cons_succ]
      refine held_take (i := 3) (v := .bool true) (some 11) rfl rfl (by kernel_rfl) (by kernel_rfl) (by kernel_rfl) (fun _ _ _ h => h) (Or.inl ⟨by rfl, fun W hW => by go_simp⟩) e0 ?_
      simp only [Act.put, List.setIfInBounds_toArray, List.set_cons_zero, List.set_cons_succ]
      refine held_take (i := 4) (v := undef) (some 12) rfl rfl (by kernel_rfl) (by kernel_rfl) (by kernel_rfl) (fun _ _ _ h => h) (Or.inr ⟨by rfl, by rfl⟩) e0 ?_
      simp only [Act.put, List.setIfInBounds_toArray, List.set_cons_zero, List.set_cons_succ]
      refine held_take (i := 5) (v := undef) (some 13) rfl rfl (by kernel_rfl) (by kernel_rfl) (by kernel_rfl) (fun _ _ _ h => h) (Or.inr ⟨by rfl, by rfl⟩) e0 ?_
      simp only [Act.put, List.setIfInBounds_toArray, List.set_cons_zero, List.set_cons_succ]
      refine held_take (i := 6) (v := undef) (some 14) rfl rfl (by kernel_rfl) (by kernel_rfl) (by kernel_rfl) (fun _ _ _ h => h) (Or.inr ⟨by rfl, by rfl⟩) e0 ?_
      simp only [Act.put, List.setIfInBounds_toArray, List.set_cons_zero, List.set_cons_succ]
      refine held_take (i := 7) (v := .bool true) (some 15) rfl rfl (by kernel_rfl) (by kernel_rfl) (by kernel_rfl) (fun _ _ _ h => h) (Or.inl ⟨by rfl, fun W hW => by go_simp⟩) e0 ?_
      simp only [Act.put, List.setIfInBounds_toArray, List.set_cons_zero, List.set_cons_succ]
      refine held_take (i := 8) (v := .bool true) (some 16) rfl rfl (by kernel_rfl) (by kernel_rfl) (by kernel_rfl) (fun _ _ _ h => h) (Or.inl ⟨by rfl, fun W hW => by go_simp⟩) e0 ?_
      simp only [Act.put, List.setIfInBounds_toArray, List.set_cons_zero, List.set_cons_succ]
      refine held_take (i := 9) (v := undef) (some 17) rfl rfl (by kernel_rfl) (by kernel_rfl) (by kernel_rfl) (fun _ _ _ h => h) (Or.inr ⟨by rfl, by rfl⟩) e0 ?_
      simp only [Act.put, List.setIfInBounds_toArray, List.set_cons_zero, List.set_cons_succ]
      refine held_take (i := 11) (v := undef) (some 19) rfl rfl (by kernel_rfl) (by kernel_rfl) (by kernel_rfl) (fun _ _ _ h => h) (Or.inr ⟨by rfl, by rfl⟩) e0 ?_
      simp only [Act.put, List.setIfInBounds_toArray, List.set_cons_zero, List.set_cons_succ]
      refine held_take (i := 10) (v := undef) (some 18) rfl rfl (by kernel_rfl) (by kernel_rfl) (by kernel_rfl) (fun _ _ _ h => h) (Or.inr ⟨by rfl, by rfl⟩) e0 ?_
      simp only [Act.put, List.setIfInBounds_toArray, List.set_cons_zero, List.set_cons_succ]
      refine held_take (i := 12) (v := undef) (some 20) rfl rfl (by kernel_rfl) (by kernel_rfl) (by kernel_rfl) (fun _ _ _ h => h) (Or.inr ⟨by rfl, by rfl⟩) e0 ?_
      simp only [Act.put, List.setIfInBounds_toArray, List.set_cons_zero, List.set_cons_succ]
      refine held_take (i := 13) (v := undef) (some 21) rfl rfl (by kernel_rfl) (by kernel_rfl) (by kernel_rfl) (fun _ _ _ h => h) (Or.inr ⟨by rfl, by rfl⟩) e0 ?_
      simp only [Act.put, List.setIfInBounds_toArray, List.set_cons_zero, List.set_cons_succ]
      refine held_take (i := 14) (v := undef) (some 22) rfl rfl (by kernel_rfl) (by kernel_rfl) (by kernel_rfl) (fun _ _ _ h => h) (Or.inr ⟨by rfl, by rfl⟩) e0 ?_
      simp only [Act.put, List.setIfInBounds_toArray, List.set_cons_zero, List.set_cons_succ]
      refine held_take (i := 15) (v := undef) (some 23) rfl rfl (by kernel_rfl) (by kernel_rfl) (by kernel_rfl) (fun _ _ _ h => h) (Or.inr ⟨by rfl, by rfl⟩) e0 ?_
      simp only [Act.put, List.setIfInBounds_toArray, List.set_cons_zero, List.set_cons_succ]
      refine held_take (i := 16) (v := undef) (some 24) rfl rfl (by kernel_rfl) (by kernel_rfl) (by kernel_rfl) (fun _ _ _ h => h) (Or.inr ⟨by rfl, by rfl⟩) e0 ?_
      simp only [Act.put, List.setIfInBounds_toArray, List.set_cons_zero, List.set_cons_succ]
      refine held_take (i := 17) (v := .bool true) (some 25) rfl rfl (by kernel_rfl) (by kernel_rfl) (by kernel_rfl) (fun _ _ _ h => h) (Or.inl ⟨by rfl, fun W hW => by go_simp⟩) e0 ?_
      simp only [Act.put, List.setIfInBounds_toArray, List.set_cons_zero, List.set_cons_succ]
      refine wpAnyH_done (by kernel_rfl) ?_ _
      refine NoPanic.normal ?_
      go_wp2_with (first
        | ((with_reducible refine wpList_here ?_); refine wpList_storeV rfl 57 (.tmp 6) (.tmp 26) rfl _ _ hz rfl rfl y1d rfl (hd_one _ _ _ _ _ rfl) infoHd ?_; intro w9 z9 g9 s9)
        | fail)
      refine bodyPost_ret (results_c0 rfl _ _ (g + 1) _ _ rfl z9.range Try.underlying57 rfl infoHd) rfl ?_
      exact ⟨_, _, _, _, _, rfl, Left.behind2 H.out (by rw [hgz]; exact HB1.out) (by omega) hsy (Left.same HF1.out (Below.refl _ _)) g9⟩
  | true =>
    cases kk with
    | false =>
      rw [if_neg (fun e => by cases e.2.1)]
      as_aux_lemma =>
        go_enter Try.func41, Try.ntmps41
        go_wp2_with (first
          | ((with_reducible refine wpList_here ?_); refine wpList_boxV (o := ⟨some 4, _, _, _, _, _⟩) rfl 47 (.tmp 1) rfl (sgx q ak true false fin rr A n c) rfl _ rfl ?_; intro w0 z0 b0 s0)
          | ((with_reducible refine wpList_here ?_); refine wpList_allocV (o := ⟨some 6, _, _, _, _, _⟩) rfl 57 rfl hz zeroHd _ s0 ?_; go_loud (intro w1 y1 b1 s1; have HB1 := Lib.hid (below_trans b0 b1).drew; have HF1 := Lib.hid (H.out.below (below_trans b0 b1).drew); have z1d : Own w1.drew w.heap.size (sgx q ak true false fin rr A n c) := z0.below b1.drew; have y1d : Own w1.drew (w.heap.size + 1) hz := y1; have s1 : w1.heap.size = w.heap.size + 2 := s1; clear b1 b0 z0 y1 s0))
          | fail)
        generalize hwd : w1.drew = wd at *
        generalize hgz : w.heap.size = g at *
        have hsz : g ≤ wd.heap.size := by rw [← hwd]; show g ≤ w1.heap.size; omega
        have hsy : g + 1 < wd.heap.size := by rw [← hwd]; show g + 1 < w1.heap.size; omega
        have e0 : wd.cell? ⟨s.fb, 0, none⟩ = some (.pointer (some ⟨s.qb, 0, none⟩)) ∧ wd.cell? ⟨g, 5, none⟩ = some (.int .u32 (ak : Int)) ∧ wd.cell? ⟨g, 6, none⟩ = some (.bool true) ∧ wd.cell? ⟨g, 7, none⟩ = some (.bool false) := ⟨HF1.out.fa.c0, (z1d 5 (by rw [sgx_length]; omega)).1, (z1d 6 (by rw [sgx_length]; omega)).1, (z1d 7 (by rw [sgx_length]; omega)).1⟩
        refine wp_region_noPanic ?_
        refine wp_region_held_drew (S := fun W => W.cell? ⟨s.fb, 0, none⟩ = some (.pointer (some ⟨s.qb, 0, none⟩)) ∧ W.cell? ⟨g, 5, none⟩ = some (.int .u32 (ak : Int)) ∧ W.cell? ⟨g, 6, none⟩ = some (.bool true) ∧ W.cell? ⟨g, 7, none⟩ = some (.bool false)) (by kernel_rfl) (by rw [hwd]; exact e0) (fun _ => ?_)
        rw [hwd]
        clear hwd
        refine held_take (i := 0) (v := .pointer (some ⟨g, 6, none⟩)) (some 8) rfl rfl (by kernel_rfl) (by kernel_rfl) (by kernel_rfl) (fun _ _ _ h => h) (Or.inl ⟨by rfl, fun W hW => by go_simp⟩) e0 ?_
        simp only [Act.put, List.setIfInBounds_toArray, List.set_cons_zero, List.set_cons_succ]
        refine held_take (i := 1) (v := .bool true) (some 9) rfl rfl (by kernel_rfl) (by kernel_rfl) (by kernel_rfl) (fun _ _ _ h => h) (Or.inl ⟨by rfl, fun W hW => by have hc := hW.2.2.1; go_simp⟩) e0 ?_
        simp only [Act.put, List.setIfInBounds_toArray, List.set_cons_zero, List.set_cons_succ]
        refine held_take (i := 2) (v := .bool false) (some 10) rfl rfl (by kernel_rfl) (by kernel_rfl) (by kernel_rfl) (fun _ _ _ h => h) (Or.inl ⟨by rfl, fun W hW => by go_simp⟩) e0 ?_
        simp only [Act.put, List.setIfInBounds_toArray, List.set_cons_zero, List.set_cons_succ]
        refine held_take (i := 3) (v := .bool false) (some 11) rfl rfl (by kernel_rfl) (by kernel_rfl) (by kernel_rfl) (fun _ _ _ h => h) (Or.inl ⟨by rfl, fun W hW => by go_simp⟩) e0 ?_
        simp only [Act.put, List.setIfInBounds_toArray, List.set_cons_zero, List.set_cons_succ]
        refine held_take (i := 4) (v := .pointer (some ⟨g, 7, none⟩)) (some 12) rfl rfl (by kernel_rfl) (by kernel_rfl) (by kernel_rfl) (fun _ _ _ h => h) (Or.inl ⟨by rfl, fun W hW => by go_simp⟩) e0 ?_
        simp only [Act.put, List.setIfInBounds_toArray, List.set_cons_zero, List.set_cons_succ]
        refine held_take (i := 5) (v := .bool false) (some 13) rfl rfl (by kernel_rfl) (by kernel_rfl) (by kernel_rfl) (fun _ _ _ h => h) (Or.inl ⟨by rfl, fun W hW => by have hc := hW.2.2.2; go_simp⟩) e0 ?_
        simp only [Act.put, List.setIfInBounds_toArray, List.set_cons_zero, List.set_cons_succ]
        refine held_take (i := 6) (v := .bool true) (some 14) rfl rfl (by kernel_rfl) (by kernel_rfl) (by kernel_rfl) (fun _ _ _ h => h) (Or.inl ⟨by rfl, fun W hW => by go_simp⟩) e0 ?_
        simp only [Act.put, List.setIfInBounds_toArray, List.set_cons_zero, List.set_cons_succ]
        refine held_take (i := 7) (v := .bool true) (some 15) rfl rfl (by kernel_rfl) (by kernel_rfl) (by kernel_rfl) (fun _ _ _ h => h) (Or.inl ⟨by rfl, fun W hW => by go_simp⟩) e0 ?_
        simp only [Act.put, List.setIfInBounds_toArray, List.set_cons_zero, List.set_cons_succ]
        refine held_take (i := 8) (v := .bool true) (some 16) rfl rfl (by kernel_rfl) (by kernel_rfl) (by kernel_rfl) (fun _ _ _ h => h) (Or.inl ⟨by rfl, fun W hW => by go_simp⟩) e0 ?_
        simp only [Act.put, List.setIfInBounds_toArray, List.set_cons_zero, List.set_cons_succ]
        refine held_take (i := 9) (v := undef) (some 17) rfl rfl (by kernel_rfl) (by kernel_rfl) (by kernel_rfl) (fun _ _ _ h => h) (Or.inr ⟨by rfl, by rfl⟩) e0 ?_
        simp only [Act.put, List.setIfInBounds_toArray, List.set_cons_zero, List.set_cons_succ]
        refine held_take (i := 11) (v := undef) (some 19) rfl rfl (by kernel_rfl) (by kernel_rfl) (by kernel_rfl) (fun _ _ _ h => h) (Or.inr ⟨by rfl, by rfl⟩) e0 ?_
        simp only [Act.put, List.setIfInBounds_toArray, List.set_cons_zero, List.set_cons_succ]
        refine held_take (i := 10) (v := undef) (some 18) rfl rfl (by kernel_rfl) (by kernel_rfl) (by kernel_rfl) (fun _ _ _ h => h) (Or.inr ⟨by rfl, by rfl⟩) e0 ?_
        simp only [Act.put, List.setIfInBounds_toArray, List.set_cons_zero, List.set_cons_succ]
        refine held_take (i := 12) (v := undef) (some 20) rfl rfl (by kernel_rfl) (by kernel_rfl) (by kernel_rfl) (fun _ _ _ h => h) (Or.inr ⟨by rfl, by rfl⟩) e0 ?_
        simp only [Act.put, List.setIfInBounds_toArray, List.set_cons_zero, List.set_cons_succ]
        refine held_take (i := 13) (v := undef) (some 21) rfl rfl (by kernel_rfl) (by kernel_rfl) (by kernel_rfl) (fun _ _ _ h => h) (Or.inr ⟨by rfl, by rfl⟩) e0 ?_
        simp only [Act.put, List.setIfInBounds_toArray, List.set_cons_zero, List.set_cons_succ]
        refine held_take (i := 14) (v := undef) (some 22) rfl rfl (by kernel_rfl) (by kernel_rfl) (by kernel_rfl) (fun _ _ _ h => h) (Or.inr ⟨by rfl, by rfl⟩) e0 ?_
        simp only [Act.put, List.setIfInBounds_toArray, List.set_cons_zero, List.set_cons_succ]
        refine held_take (i := 15) (v := undef) (some 23) rfl rfl (by kernel_rfl) (by kernel_rfl) (by kernel_rfl) (fun _ _ _ h => h) (Or.inr ⟨by rfl, by rfl⟩) e0 ?_
        simp only [Act.put, List.setIfInBounds_toArray, List.set_cons_zero, List.set_cons_succ]
        refine held_take (i := 16) (v := undef) (some 24) rfl rfl (by kernel_rfl) (by kernel_rfl) (by kernel_rfl) (fun _ _ _ h => h) (Or.inr ⟨by rfl, by rfl⟩) e0 ?_
        simp only [Act.put, List.setIfInBounds_toArray, List.set_cons_zero, List.set_cons_succ]
        refine held_take (i := 17) (v := .bool true) (some 25) rfl rfl (by kernel_rfl) (by kernel_rfl) (by kernel_rfl) (fun _ _ _ h => h) (Or.inl ⟨by rfl, fun W hW => by go_simp⟩) e0 ?_
        simp only [Act.put, List.setIfInBounds_toArray, List.set_cons_zero, List.set_cons_succ]
        refine wpAnyH_done (by kernel_rfl) ?_ _
        refine NoPanic.normal ?_
        go_wp2_with (first
          | ((with_reducible refine wpList_here ?_); refine wpList_storeV rfl 57 (.tmp 6) (.tmp 26) rfl _ _ hz rfl rfl y1d rfl (hd_one _ _ _ _ _ rfl) infoHd ?_; intro w9 z9 g9 s9)
          | fail)
        refine bodyPost_ret (results_c0 rfl _ _ (g + 1) _ _ rfl z9.range Try.underlying57 rfl infoHd) rfl ?_
        exact ⟨_, _, _, _, _, rfl, Left.behind2 H.out (by rw [hgz]; exact HB1.out) (by omega) hsy (Left.same HF1.out (Below.refl _ _)) g9⟩
    | true =>
      by_cases hae : ak = x.en
      · subst hae
        rw [if_pos ⟨rfl, rfl, rfl⟩]
        as_aux_lemma =>
          go_enter Try.func41, Try.ntmps41
          go_wp2_with (first
            | ((with_reducible refine wpList_here ?_); refine wpList_boxV (o := ⟨some 4, _, _, _, _, _⟩) rfl 47 (.tmp 1) rfl (sgx q x.en true true fin rr A n c) rfl _ rfl ?_; intro w0 z0 b0 s0)
            | ((with_reducible refine wpList_here ?_); refine wpList_allocV (o := ⟨some 6, _, _, _, _, _⟩) rfl 57 rfl hz zeroHd _ s0 ?_; go_loud (intro w1 y1 b1 s1; have HB1 := Lib.hid (below_trans b0 b1).drew; have HF1 := Lib.hid (H.out.below (below_trans b0 b1).drew); have z1d : Own w1.drew w.heap.size (sgx q x.en true true fin rr A n c) := z0.below b1.drew; have y1d : Own w1.drew (w.heap.size + 1) hz := y1; have s1 : w1.heap.size = w.heap.size + 2 := s1; clear b1 b0 z0 y1 s0))
            | fail)
          generalize hwd : w1.drew = wd at *
          generalize hgz : w.heap.size = g at *
          have hsz : g ≤ wd.heap.size := by rw [← hwd]; show g ≤ w1.heap.size; omega
          have hsy : g + 1 < wd.heap.size := by rw [← hwd]; show g + 1 < w1.heap.size; omega
          have e0 : wd.cell? ⟨s.fb, 0, none⟩ = some (.pointer (some ⟨s.qb, 0, none⟩)) ∧ wd.cell? ⟨g, 5, none⟩ = some (.int .u32 (x.en : Int)) ∧ wd.cell? ⟨g, 6, none⟩ = some (.bool true) ∧ wd.cell? ⟨g, 7, none⟩ = some (.bool true) := ⟨HF1.out.fa.c0, (z1d 5 (by rw [sgx_length]; omega)).1, (z1d 6 (by rw [sgx_length]; omega)).1, (z1d 7 (by rw [sgx_length]; omega)).1⟩
          refine wp_region_noPanic ?_
          refine wp_region_held_drew (S := fun W => W.cell? ⟨s.fb, 0, none⟩ = some (.pointer (some ⟨s.qb, 0, none⟩)) ∧ W.cell? ⟨g, 5, none⟩ = some (.int .u32 (x.en : Int)) ∧ W.cell? ⟨g, 6, none⟩ = some (.bool true) ∧ W.cell? ⟨g, 7, none⟩ = some (.bool true)) (by kernel_rfl) (by rw [hwd]; exact e0) (fun _ => ?_)
          rw [hwd]
          clear hwd
          refine held_take (i := 0) (v := .pointer (some ⟨g, 6, none⟩)) (some 8) rfl rfl (by kernel_rfl) (by kernel_rfl) (by kernel_rfl) (fun _ _ _ h => h) (Or.inl ⟨by rfl, fun W hW => by go_simp⟩) e0 ?_
          simp only [Act.put, List.setIfInBounds_toArray, List.set_cons_zero, List.set_cons_succ]
          refine held_take (i := 1) (v := .bool true) (some 9) rfl rfl (by kernel_rfl) (by kernel_rfl) (by kernel_rfl) (fun _ _ _ h => h) (Or.inl ⟨by rfl, fun W hW => by have hc := hW.2.2.1; go_simp⟩) e0 ?_
          simp only [Act.put, List.setIfInBounds_toArray, List.set_cons_zero, List.set_cons_succ]
          refine held_take (i := 2) (v := .bool false) (some 10) rfl rfl (by kernel_rfl) (by kernel_rfl) (by kernel_rfl) (fun _ _ _ h => h) (Or.inl ⟨by rfl, fun W hW => by go_simp⟩) e0 ?_
          simp only [Act.put, List.setIfInBounds_toArray, List.set_cons_zero, List.set_cons_succ]
          refine held_take (i := 3) (v := .bool false) (some 11) rfl rfl (by kernel_rfl) (by kernel_rfl) (by kernel_rfl) (fun _ _ _ h => h) (Or.inl ⟨by rfl, fun W hW => by go_simp⟩) e0 ?_
          simp only [Act.put, List.setIfInBounds_toArray, List.set_cons_zero, List.set_cons_succ]
          refine held_take (i := 4) (v := .pointer (some ⟨g, 7, none⟩)) (some 12) rfl rfl (by kernel_rfl) (by kernel_rfl) (by kernel_rfl) (fun _ _ _ h => h) (Or.inl ⟨by rfl, fun W hW => by go_simp⟩) e0 ?_
          simp only [Act.put, List.setIfInBounds_toArray, List.set_cons_zero, List.set_cons_succ]
          refine held_take (i := 5) (v := .bool true) (some 13) rfl rfl (by kernel_rfl) (by kernel_rfl) (by kernel_rfl) (fun _ _ _ h => h) (Or.inl ⟨by rfl, fun W hW => by have hc := hW.2.2.2; go_simp⟩) e0 ?_
          simp only [Act.put, List.setIfInBounds_toArray, List.set_cons_zero, List.set_cons_succ]
          refine held_take (i := 6) (v := .bool false) (some 14) rfl rfl (by kernel_rfl) (by kernel_rfl) (by kernel_rfl) (fun _ _ _ h => h) (Or.inl ⟨by rfl, fun W hW => by go_simp⟩) e0 ?_
          simp only [Act.put, List.setIfInBounds_toArray, List.set_cons_zero, List.set_cons_succ]
          refine held_take (i := 7) (v := .bool false) (some 15) rfl rfl (by kernel_rfl) (by kernel_rfl) (by kernel_rfl) (fun _ _ _ h => h) (Or.inl ⟨by rfl, fun W hW => by go_simp⟩) e0 ?_
          simp only [Act.put, List.setIfInBounds_toArray, List.set_cons_zero, List.set_cons_succ]
          refine held_take (i := 8) (v := .bool false) (some 16) rfl rfl (by kernel_rfl) (by kernel_rfl) (by kernel_rfl) (fun _ _ _ h => h) (Or.inl ⟨by rfl, fun W hW => by go_simp⟩) e0 ?_
          simp only [Act.put, List.setIfInBounds_toArray, List.set_cons_zero, List.set_cons_succ]
          refine held_take (i := 9) (v := .pointer (some ⟨g, 5, none⟩)) (some 17) rfl rfl (by kernel_rfl) (by kernel_rfl) (by kernel_rfl) (fun _ _ _ h => h) (Or.inl ⟨by rfl, fun W hW => by go_simp⟩) e0 ?_
          simp only [Act.put, List.setIfInBounds_toArray, List.set_cons_zero, List.set_cons_succ]
          refine held_take (i := 11) (v := .pointer (some ⟨s.fb, 0, none⟩)) (some 19) rfl rfl (by kernel_rfl) (by kernel_rfl) (by kernel_rfl) (fun _ _ _ h => h) (Or.inl ⟨by rfl, fun W hW => by go_simp⟩) e0 ?_
          simp only [Act.put, List.setIfInBounds_toArray, List.set_cons_zero, List.set_cons_succ]
          refine held_take (i := 10) (v := .int .u32 (x.en : Int)) (some 18) rfl rfl (by kernel_rfl) (by kernel_rfl) (by kernel_rfl) (fun _ _ _ h => h) (Or.inl ⟨by rfl, fun W hW => by have hc := hW.2.1; go_simp⟩) e0 ?_
          simp only [Act.put, List.setIfInBounds_toArray, List.set_cons_zero, List.set_cons_succ]
          refine held_take (i := 12) (v := .pointer (some ⟨s.fb, 0, none⟩)) (some 20) rfl rfl (by kernel_rfl) (by kernel_rfl) (by kernel_rfl) (fun _ _ _ h => h) (Or.inl ⟨by rfl, fun W hW => by go_simp⟩) e0 ?_
          simp only [Act.put, List.setIfInBounds_toArray, List.set_cons_zero, List.set_cons_succ]
          refine held_take (i := 13) (v := .pointer (some ⟨s.fb, 0, none⟩)) (some 21) rfl rfl (by kernel_rfl) (by kernel_rfl) (by kernel_rfl) (fun _ _ _ h => h) (Or.inl ⟨by rfl, fun W hW => by go_simp⟩) e0 ?_
          simp only [Act.put, List.setIfInBounds_toArray, List.set_cons_zero, List.set_cons_succ]
          refine held_take (i := 14) (v := .pointer (some ⟨s.qb, 0, none⟩)) (some 22) rfl rfl (by kernel_rfl) (by kernel_rfl) (by kernel_rfl) (fun _ _ _ h => h) (Or.inl ⟨by rfl, fun W hW => by have hc := hW.1; go_simp⟩) e0 ?_
          simp only [Act.put, List.setIfInBounds_toArray, List.set_cons_zero, List.set_cons_succ]
          refine wpAnyH_ready (rs := [15]) (by kernel_rfl) (by simp) ?_
          refine AllReadyH.cons rfl (fun K hK => ?_) AllReadyH.nil
          go_simp
          refine (HEn.out wd HB1.out).mono ?_
          rintro e w2 ⟨rfl, hw2⟩
          obtain rfl : wd = w2 := hw2.symm
          dsimp only
          refine hK.out _ _ e0 (fun _ => ?_)
          clear hK
          try simp only [Act.put, List.setIfInBounds_toArray, List.set_cons_zero, List.set_cons_succ]
          refine held_take (i := 16) (v := .bool false) (some 24) rfl rfl (by kernel_rfl) (by kernel_rfl) (by kernel_rfl) (fun _ _ _ h => h) (Or.inl ⟨by rfl, fun W hW => by go_simp⟩) e0 ?_
          simp only [Act.put, List.setIfInBounds_toArray, List.set_cons_zero, List.set_cons_succ]
          refine held_take (i := 17) (v := .bool false) (some 25) rfl rfl (by kernel_rfl) (by kernel_rfl) (by kernel_rfl) (fun _ _ _ h => h) (Or.inl ⟨by rfl, fun W hW => by go_simp⟩) e0 ?_
          simp only [Act.put, List.setIfInBounds_toArray, List.set_cons_zero, List.set_cons_succ]
          refine wpAnyH_done (by kernel_rfl) ?_ _
          refine NoPanic.normal ?_
          have k4 : wd.cell? ⟨g, 4, none⟩ = some (.int .u32 (q : Int)) := (z1d 4 (by rw [sgx_length]; omega)).1
          have hng : ¬ s.T g := fun e => by have := (H.out.in_ e).2; omega
          have hny : ¬ s.T (g + 1) := fun e => by have := (H.out.in_ e).2; omega
          go_wp2_with (first
            | (go_at_call 34; refine (HON.out _).mono ?_; rintro e w2 ⟨rfl, b2⟩; have HB2 := Lib.hid (HB1.out.trans (b2.mono hsz)); have HF2 := Lib.hid (HF1.out.below b2); have j6 := HF2.out.fa.c6; have f6 := HF2.out.fa.fz 6; have z2 := z1d.below b2; have y2 := y1d.below b2; have hs2 := b2.size; dsimp only [F.fc] at j6; have HR3 := Lib.hid (HF2.out.rcvd_ (on_lt q 1)); have z3 := z2.ch (by rw [sgx_length]; omega) HR3.out.2 (fun e => hng (.inl e)); have y3 := y2.ch (by decide) HR3.out.2 (fun e => hny (.inl e)); have HA3 := Lib.hid (HAc.out _ HR3.out.1); have k5 : (w2.setCell ⟨s.fb, 6, none⟩ (.int .u32 (on q 1 : Nat))).cell? ⟨g, 5, none⟩ = some (.int .u32 (x.en : Int)) := (z3 5 (by rw [sgx_length]; omega)).1; clear b2 z1d y1d z2 y2 k4 e0)
            | (go_at_call 60; refine HA3.out.mono ?_; rintro e w4 ⟨vo, rfl, ho, l4⟩; obtain ⟨qs, ho1, _, _⟩ := ho; obtain ⟨A4, c4, rfl, _, _⟩ := own_slice ho1; have y4 := l4.own y3 (by decide) hny; obtain ⟨s4, e4, f4, C4, n4⟩ := l4; obtain ⟨fb4, qb4, v4, l4, u4, ol4⟩ := s4; dsimp only at e4; subst e4; have HF4 := Lib.hid f4; have j5 := f4.fa.c5; have f5 := f4.fa.fz 5; have j0 := f4.fa.c0; dsimp only [F.fc] at j5 f5 j0; unfold ptr at j0; have HL4 := Lib.hid (And.intro C4 n4); have HS5 := Lib.hid (f4.st_ 3); have HE5 := Lib.hid (End_any HS5.out.1.qu); have HT5 := Lib.hid (tellAt_any HS5.out.1 _ HS5.out.1.qu.num (by show X.os.length ≤ _; rw [HXo.out]; have := HN.out; exact Nat.le_trans this (by omega))); have hen : (X.at_ 3).en = x.en := HXe.out; rw [hen] at HE5 HT5; unfold ptr at HE5 HT5; dsimp only at HE5 HT5; have hny4 : ¬ (⟨s.fb, qb4, v4, l4, u4, ol4⟩ : Sh).T (g + 1) := fun e => by { rcases n4 _ e with h | h; exact hny h; simp [World.setCell] at h; omega }; have y5 := y4.ch (by decide) HS5.out.2 (fun e => hny (.inl e)); clear ho1 f4 C4 n4 y3 y4 z3 j6 f6 k5)
            | (go_at_call 37; refine HE5.out.mono ?_; rintro e w6 ⟨rfl, rfl⟩)
            | (go_at_call 51; refine HT5.out.mono ?_; rintro e w7 ⟨rfl, l7⟩; have HL7 := Lib.hid l7; have y7 := l7.own y5 (by decide) hny4; clear l7 y5)
            | ((with_reducible refine wpList_here ?_); refine wpList_storeV rfl 57 (.tmp 6) (.tmp 49) rfl _ _ (hv true false false false false (.slice A4 gs.length c4)) rfl rfl y7 rfl (hd_one _ _ _ _ _ rfl) infoHd ?_; intro w9 z9 g9 s9)
            | fail)
          refine bodyPost_ret (results_c0 rfl _ _ (g + 1) _ _ rfl z9.range Try.underlying57 rfl infoHd) rfl ?_
          have hL4 : Left base w4 ⟨s.fb, qb4, v4, l4, u4, ol4⟩ _ w7 := Left.then_ (s1 := ⟨s.fb, qb4, v4, l4, u4, ol4⟩) rfl (HS5.out.2.mono (fun _ _ e => .inl e)) (fun g h => .inl h) HL7.out
          have hL2 := Left.then_ (s := s) (s1 := ⟨s.fb, qb4, v4, l4, u4, ol4⟩) rfl HL4.out.1 HL4.out.2 hL4
          have hL := Left.then_ (s := s) (s1 := s) rfl (HR3.out.2.mono (fun _ _ e => .inl e)) (fun g h => .inl h) hL2
          exact ⟨_, _, _, _, _, rfl, Left.behind2 H.out (by rw [hgz]; exact HB2.out) (by omega) (by omega) hL g9⟩
      · rw [if_neg (fun e => hae e.2.2)]
        have n3 : ((ak : Int) == (x.en : Int)) = false := by rw [beq_eq_false_iff_ne]; omega
        have n4 : ¬ (ak : Int) = (x.en : Int) := by omega
        as_aux_lemma =>
          go_enter Try.func41, Try.ntmps41
          go_wp2_with (first
            | ((with_reducible refine wpList_here ?_); refine wpList_boxV (o := ⟨some 4, _, _, _, _, _⟩) rfl 47 (.tmp 1) rfl (sgx q ak true true fin rr A n c) rfl _ rfl ?_; intro w0 z0 b0 s0)
            | ((with_reducible refine wpList_here ?_); refine wpList_allocV (o := ⟨some 6, _, _, _, _, _⟩) rfl 57 rfl hz zeroHd _ s0 ?_; go_loud (intro w1 y1 b1 s1; have HB1 := Lib.hid (below_trans b0 b1).drew; have HF1 := Lib.hid (H.out.below (below_trans b0 b1).drew); have z1d : Own w1.drew w.heap.size (sgx q ak true true fin rr A n c) := z0.below b1.drew; have y1d : Own w1.drew (w.heap.size + 1) hz := y1; have s1 : w1.heap.size = w.heap.size + 2 := s1; clear b1 b0 z0 y1 s0))
            | fail)
          generalize hwd : w1.drew = wd at *
          generalize hgz : w.heap.size = g at *
          have hsz : g ≤ wd.heap.size := by rw [← hwd]; show g ≤ w1.heap.size; omega
          have hsy : g + 1 < wd.heap.size := by rw [← hwd]; show g + 1 < w1.heap.size; omega
          have e0 : wd.cell? ⟨s.fb, 0, none⟩ = some (.pointer (some ⟨s.qb, 0, none⟩)) ∧ wd.cell? ⟨g, 5, none⟩ = some (.int .u32 (ak : Int)) ∧ wd.cell? ⟨g, 6, none⟩ = some (.bool true) ∧ wd.cell? ⟨g, 7, none⟩ = some (.bool true) := ⟨HF1.out.fa.c0, (z1d 5 (by rw [sgx_length]; omega)).1, (z1d 6 (by rw [sgx_length]; omega)).1, (z1d 7 (by rw [sgx_length]; omega)).1⟩
          refine wp_region_noPanic ?_
          refine wp_region_held_drew (S := fun W => W.cell? ⟨s.fb, 0, none⟩ = some (.pointer (some ⟨s.qb, 0, none⟩)) ∧ W.cell? ⟨g, 5, none⟩ = some (.int .u32 (ak : Int)) ∧ W.cell? ⟨g, 6, none⟩ = some (.bool true) ∧ W.cell? ⟨g, 7, none⟩ = some (.bool true)) (by kernel_rfl) (by rw [hwd]; exact e0) (fun _ => ?_)
          rw [hwd]
          clear hwd
          refine held_take (i := 0) (v := .pointer (some ⟨g, 6, none⟩)) (some 8) rfl rfl (by kernel_rfl) (by kernel_rfl) (by kernel_rfl) (fun _ _ _ h => h) (Or.inl ⟨by rfl, fun W hW => by go_simp⟩) e0 ?_
          simp only [Act.put, List.setIfInBounds_toArray, List.set_cons_zero, List.set_cons_succ]
          refine held_take (i := 1) (v := .bool true) (some 9) rfl rfl (by kernel_rfl) (by kernel_rfl) (by kernel_rfl) (fun _ _ _ h => h) (Or.inl ⟨by rfl, fun W hW => by have hc := hW.2.2.1; go_simp⟩) e0 ?_
          simp only [Act.put, List.setIfInBounds_toArray, List.set_cons_zero, List.set_cons_succ]
          refine held_take (i := 2) (v := .bool false) (some 10) rfl rfl (by kernel_rfl) (by kernel_rfl) (by kernel_rfl) (fun _ _ _ h => h) (Or.inl ⟨by rfl, fun W hW => by go_simp⟩) e0 ?_
          simp only [Act.put, List.setIfInBounds_toArray, List.set_cons_zero, List.set_cons_succ]
          refine held_take (i := 3) (v := .bool false) (some 11) rfl rfl (by kernel_rfl) (by kernel_rfl) (by kernel_rfl) (fun _ _ _ h => h) (Or.inl ⟨by rfl, fun W hW => by go_simp⟩) e0 ?_
          simp only [Act.put, List.setIfInBounds_toArray, List.set_cons_zero, List.set_cons_succ]
          refine held_take (i := 4) (v := .pointer (some ⟨g, 7, none⟩)) (some 12) rfl rfl (by kernel_rfl) (by kernel_rfl) (by kernel_rfl) (fun _ _ _ h => h) (Or.inl ⟨by rfl, fun W hW => by go_simp⟩) e0 ?_
          simp only [Act.put, List.setIfInBounds_toArray, List.set_cons_zero, List.set_cons_succ]
          refine held_take (i := 5) (v := .bool true) (some 13) rfl rfl (by kernel_rfl) (by kernel_rfl) (by kernel_rfl) (fun _ _ _ h => h) (Or.inl ⟨by rfl, fun W hW => by have hc := hW.2.2.2; go_simp⟩) e0 ?_
          simp only [Act.put, List.setIfInBounds_toArray, List.set_cons_zero, List.set_cons_succ]
          refine held_take (i := 6) (v := .bool false) (some 14) rfl rfl (by kernel_rfl) (by kernel_rfl) (by kernel_rfl) (fun _ _ _ h => h) (Or.inl ⟨by rfl, fun W hW => by go_simp⟩) e0 ?_
          simp only [Act.put, List.setIfInBounds_toArray, List.set_cons_zero, List.set_cons_succ]
          refine held_take (i := 7) (v := .bool false) (some 15) rfl rfl (by kernel_rfl) (by kernel_rfl) (by kernel_rfl) (fun _ _ _ h => h) (Or.inl ⟨by rfl, fun W hW => by go_simp⟩) e0 ?_
          simp only [Act.put, List.setIfInBounds_toArray, List.set_cons_zero, List.set_cons_succ]
          refine held_take (i := 8) (v := .bool false) (some 16) rfl rfl (by kernel_rfl) (by kernel_rfl) (by kernel_rfl) (fun _ _ _ h => h) (Or.inl ⟨by rfl, fun W hW => by go_simp⟩) e0 ?_
          simp only [Act.put, List.setIfInBounds_toArray, List.set_cons_zero, List.set_cons_succ]
          refine held_take (i := 9) (v := .pointer (some ⟨g, 5, none⟩)) (some 17) rfl rfl (by kernel_rfl) (by kernel_rfl) (by kernel_rfl) (fun _ _ _ h => h) (Or.inl ⟨by rfl, fun W hW => by go_simp⟩) e0 ?_
          simp only [Act.put, List.setIfInBounds_toArray, List.set_cons_zero, List.set_cons_succ]
          refine held_take (i := 11) (v := .pointer (some ⟨s.fb, 0, none⟩)) (some 19) rfl rfl (by kernel_rfl) (by kernel_rfl) (by kernel_rfl) (fun _ _ _ h => h) (Or.inl ⟨by rfl, fun W hW => by go_simp⟩) e0 ?_
          simp only [Act.put, List.setIfInBounds_toArray, List.set_cons_zero, List.set_cons_succ]
          refine held_take (i := 10) (v := .int .u32 (ak : Int)) (some 18) rfl rfl (by kernel_rfl) (by kernel_rfl) (by kernel_rfl) (fun _ _ _ h => h) (Or.inl ⟨by rfl, fun W hW => by have hc := hW.2.1; go_simp⟩) e0 ?_
          simp only [Act.put, List.setIfInBounds_toArray, List.set_cons_zero, List.set_cons_succ]
          refine held_take (i := 12) (v := .pointer (some ⟨s.fb, 0, none⟩)) (some 20) rfl rfl (by kernel_rfl) (by kernel_rfl) (by kernel_rfl) (fun _ _ _ h => h) (Or.inl ⟨by rfl, fun W hW => by go_simp⟩) e0 ?_
          simp only [Act.put, List.setIfInBounds_toArray, List.set_cons_zero, List.set_cons_succ]
          refine held_take (i := 13) (v := .pointer (some ⟨s.fb, 0, none⟩)) (some 21) rfl rfl (by kernel_rfl) (by kernel_rfl) (by kernel_rfl) (fun _ _ _ h => h) (Or.inl ⟨by rfl, fun W hW => by go_simp⟩) e0 ?_
          simp only [Act.put, List.setIfInBounds_toArray, List.set_cons_zero, List.set_cons_succ]
          refine held_take (i := 14) (v := .pointer (some ⟨s.qb, 0, none⟩)) (some 22) rfl rfl (by kernel_rfl) (by kernel_rfl) (by kernel_rfl) (fun _ _ _ h => h) (Or.inl ⟨by rfl, fun W hW => by have hc := hW.1; go_simp⟩) e0 ?_
          simp only [Act.put, List.setIfInBounds_toArray, List.set_cons_zero, List.set_cons_succ]
          refine wpAnyH_ready (rs := [15]) (by kernel_rfl) (by simp) ?_
          refine AllReadyH.cons rfl (fun K hK => ?_) AllReadyH.nil
          go_simp
          refine (HEn.out wd HB1.out).mono ?_
          rintro e w2 ⟨rfl, hw2⟩
          obtain rfl : wd = w2 := hw2.symm
          dsimp only
          refine hK.out _ _ e0 (fun _ => ?_)
          clear hK
          try simp only [Act.put, List.setIfInBounds_toArray, List.set_cons_zero, List.set_cons_succ]
          refine held_take (i := 16) (v := .bool true) (some 24) rfl rfl (by kernel_rfl) (by kernel_rfl) (by kernel_rfl) (fun _ _ _ h => h) (Or.inl ⟨by rfl, fun W hW => by go_simp⟩) e0 ?_
          simp only [Act.put, List.setIfInBounds_toArray, List.set_cons_zero, List.set_cons_succ]
          refine held_take (i := 17) (v := .bool true) (some 25) rfl rfl (by kernel_rfl) (by kernel_rfl) (by kernel_rfl) (fun _ _ _ h => h) (Or.inl ⟨by rfl, fun W hW => by go_simp⟩) e0 ?_
          simp only [Act.put, List.setIfInBounds_toArray, List.set_cons_zero, List.set_cons_succ]
          refine wpAnyH_done (by kernel_rfl) ?_ _
          refine NoPanic.normal ?_
          go_wp2_with (first
            | ((with_reducible refine wpList_here ?_); refine wpList_storeV rfl 57 (.tmp 6) (.tmp 26) rfl _ _ hz rfl rfl y1d rfl (hd_one _ _ _ _ _ rfl) infoHd ?_; intro w9 z9 g9 s9)
            | fail)
          refine bodyPost_ret (results_c0 rfl _ _ (g + 1) _ _ rfl z9.range Try.underlying57 rfl infoHd) rfl ?_
          exact ⟨_, _, _, _, _, rfl, Left.behind2 H.out (by rw [hgz]; exact HB1.out) (by omega) hsy (Left.same HF1.out (Below.refl _ _)) g9⟩
end
end Go.Proofs.Ytnpkmkjenlhkiaa

/- The contracts of tell, and of tellAt. Conditions: the flow stands, with at most 2^39 to be sent; so does the piece, apart from its queue.
The contracts of send, begun, Dial, Answer. Conditions: the flow stands, with at most 2^30 pieces and at most 2^39 to be sent; the piece has a length, and data of at most 2^40 bytes, apart from the queue; ticks between 0 and 2^60. -/
import Derived.Test.YtlcegchdkigibaaGreatDoorMg15
import Derived.Test.YtlcegchdkigibaaGreatDoorMg13
namespace Go.Proofs.YtlcegchdkigibaaGreatDoor.LF
set_option linter.unusedVariables false
set_option linter.unusedSimpArgs false
set_option maxRecDepth 20000
open Go.RowKit Go.Lib

/-- A piece is told. -/
def F.tell (x : F) (k : Ky) : F := { x with os := x.os ++ [⟨k, x.rcv, decide (x.st ≠ 1), false⟩] }
theorem own_slice {w : World} {base : Nat} {e : TypeId} {size n : Nat} {v : Value} {xs : List Value} (h : w.ownsRow base e size v n xs) : ∃ A c, v = .slice A n c ∧ n ≤ c ∧ c ≤ 9223372036854775807 := by
  rcases h.2 with ⟨rfl, rfl⟩ | ⟨g, cap, cur, rfl, _, _, h1, h2, _⟩
  · exact ⟨none, 0, rfl, Nat.le_refl _, by omega⟩
  · exact ⟨_, cap, rfl, h1, by unfold maxLen at h2; omega⟩
/-- What tell leaves. -/
def TellP (base : Nat) (w : World) (s : Sh) (x : F) (p : Pc) (w' : World) : Prop :=
  ∃ (u : Value) (ol : List Oc), Fl base w' { s with ov := u, ol := ol } (x.tell p.key) ∧ Ch w w' (fun g => g = s.fb ∨ s.ov.ownBlock = some g) ∧ (u.ownBlock = s.ov.ownBlock ∨ ∃ g, u.ownBlock = some g ∧ w.heap.size ≤ g) ∧ ∀ o ∈ ol, o ∈ s.ol ∨ o.p = p
/-- Its end. -/
theorem tell_done {base : Nat} {w w8 w9 : World} {fb qb : Nat} {v u u' : Value} {l : List Pc} {ol : List Oc} {x : F} {p : Pc} {a : Bool} (h : Fl base w ⟨fb, qb, v, l, u, ol⟩ x) (hp : PO base w p) (hap : ∀ g, p.blk = some g → ¬ Qb qb v l g)
    (b8 : Below w.heap.size w w8) (ha : a = decide (x.st ≠ 1)) (r9 : w9.ownsRow base 211 9 u' (ol.length + 1) (ov ol ++ (Oc.mk p x.rcv a false).vals)) (g9 : w8.grownBy w9 u.ownBlock) (o9 : u'.ownBlock = u.ownBlock ∨ u'.ownBlock = some w8.heap.size) :
    TellP base w ⟨fb, qb, v, l, u, ol⟩ x p (w9.setCell ⟨fb, 12, none⟩ u') := by
  have h8 := h.below b8
  have p8 := hp.below b8
  have hnu : u.ownBlock ≠ some fb := h8.ne_row
  have c9 : Ch w8 w9 (fun g => u.ownBlock = some g) := Ch.grown (m := fun g => u.ownBlock = some g) (Ch.refl w8 _) g9 (fun g e _ => e)
  have cs : Ch w9 (w9.setCell ⟨fb, 12, none⟩ u') (fun g => g = fb) := ch_set w9 fb 12 u'
  have C : Ch w8 (w9.setCell ⟨fb, 12, none⟩ u') (fun g => g = fb ∨ u.ownBlock = some g) := c9.trans cs (fun _ _ e => .inr e) (fun _ _ e => .inl e)
  have hu' : u'.ownBlock ≠ some fb := fun e => by
    rcases o9 with e1 | e1
    · exact hnu (e1 ▸ e)
    · rw [e1] at e
      injection e with e
      have : fb < w8.heap.size := h8.fa.lt
      omega
  have hpb : ∀ g, p.blk = some g → ¬ (g = fb ∨ u.ownBlock = some g) := fun g hg e => by
    obtain ⟨cs, e1⟩ := p8.obj hg
    rcases e with rfl | e
    · exact absurd (two_types h8.fa e1) (by decide)
    · obtain ⟨cs', e2⟩ := ch_ownrow h8.row e
      exact absurd (two_types e2 e1) (by decide)
  refine ⟨u', ol ++ [⟨p, x.rcv, a, false⟩], ?_, (Ch.of_below _ b8).trans C (fun _ _ e => e) (fun _ _ e => e), ?_, fun o ho => ?_⟩
  · refine ⟨?_, h8.lo, h8.qu.frame C (fun g hg e => ?_), h8.ky, h8.cn, h8.lt, ?_, ?_, fun o ho => ?_, fun o ho g hg => ?_, h8.rcv⟩
    · have hf : Fa w9 fb (x.fc qb u) := h8.fa.ch c9 hnu
      exact hf.set 12 _ _ rfl
    · rcases e with e | e
      · subst e
        exact h8.ne_queue hg
      · exact h8.row_queue e hg
    · have : ov (ol ++ [⟨p, x.rcv, a, false⟩]) = ov ol ++ (Oc.mk p x.rcv a false).vals := by rw [ov_append, ov_one1]
      show World.ownsRow _ _ _ _ _ (ol ++ [_]).length _
      rw [this, List.length_append]
      exact own_ch2 r9 cs (fun g hg e => hu' (e ▸ hg))
    · show (ol ++ [_]).map Oc.key = x.os ++ _
      rw [List.map_append, show ol.map Oc.key = x.os from h8.os, ha]
      rfl
    · rcases List.mem_append.1 ho with ho | ho
      · exact ⟨(h8.og o ho).1.ch C (fun g hg e => by rcases e with e | e; exact h8.ne_data ho (e ▸ hg); exact h8.row_data e ho hg), (h8.og o ho).2⟩
      · simp at ho
        subst ho
        exact ⟨p8.ch C hpb, h8.rcv⟩
    · rcases List.mem_append.1 ho with ho | ho
      · exact h8.ap o ho g hg
      · simp at ho
        subst ho
        exact hap g hg
  · rcases o9 with e | e
    · exact .inl e
    · exact .inr ⟨_, e, b8.size⟩
  · rcases List.mem_append.1 ho with ho | ho
    · exact .inl ho
    · simp at ho
      subst ho
      exact .inr rfl

section
variable {base : Nat} {w : World} {s : Sh} {x : F}
set_option maxHeartbeats 3200000 in
theorem tell_any (h : Fl base w s x) (p : Pc) (hp : PO base w p) (hap : ∀ g, p.blk = some g → ¬ Qb s.qb s.v s.l g) (hn : x.os.length ≤ 549755813888) :
    Calls Tryz.prog 220 #[ptr s.fb, .agg p.vals.toArray] w fun e w' => e = .returned (.tuple #[]) ∧ TellP base w s x p w' := by
  obtain ⟨fb, qb, v, l, u, ol⟩ := s
  have hos : ol.length = x.os.length := by rw [← show ol.map Oc.key = x.os from h.os, List.length_map]
  rw [← hos] at hn
  have H := Lib.hid h
  have HP := Lib.hid hp
  have HAP := Lib.hid hap
  have HN := Lib.hid hn
  have hb := (h.in_ (.inl rfl))
  have HB := Lib.hid hb
  clear h hp hap hn hos
  unfold ptr
  dsimp only at *
  go_enter Tryz.func220, Tryz.ntmps220
  go_wp2_with (first
    | ((with_reducible refine wpList_here ?_); refine wpList_boxV (o := ⟨some 3, _, _, _, _, _⟩) rfl 209 (.tmp 1) rfl p.vals rfl _ rfl ?_; intro w1 z1 b1 s1)
    | fail)
  have HB1 := Lib.hid b1.drew
  have s2 : w1.drew.heap.size = w.heap.size + 1 := s1
  have r0 : w1.drew.rangeAt w.heap.size 0 p.vals := z1.range
  have HF1 := Lib.hid (H.out.below b1.drew)
  have c12 := HF1.out.fa.c12
  have c6 := HF1.out.fa.c6
  have c5 := HF1.out.fa.c5
  clear b1 z1 s1
  dsimp only [F.fc] at c12 c6 c5
  generalize hwd : w1.drew = wd at *
  generalize hgz : w.heap.size = g at *
  generalize hst : x.st = st at *
  generalize hrc : x.rcv = rc at *
  refine wp_region_noPanic ?_
  by_cases hs1 : st = 1
  · have e0 : wd.cell? ⟨fb, 12, none⟩ = some u ∧ wd.cell? ⟨fb, 6, none⟩ = some (.int .u32 (rc : Int)) ∧ wd.cell? ⟨fb, 5, none⟩ = some (.int .i64 1) ∧ wd.rangeAt g 0 p.vals := ⟨c12, c6, by rw [c5, hs1]; rfl, r0⟩
    have hlt : fb < wd.heap.size := by omega
    clear c12 c6 c5 r0
    refine until_start (fun W => W.cell? ⟨fb, 12, none⟩ = some u ∧ W.cell? ⟨fb, 6, none⟩ = some (.int .u32 (rc : Int)) ∧ W.cell? ⟨fb, 5, none⟩ = some (.int .i64 1) ∧ W.rangeAt g 0 p.vals) 20 (by kernel_rfl) (by rw [hwd]; exact e0) (fun _ => ?_)
    rw [hwd]
    clear hwd
    refine until_take (i := 0) (v := .pointer (some ⟨fb, 0, none⟩)) (some 4) [20] rfl rfl (by kernel_rfl) (by kernel_rfl) (by kernel_rfl) (by kernel_rfl) rfl rfl (fun _ _ _ h => h) (Or.inl ⟨by rfl, fun W hW => by go_simp⟩) e0 ?_
    simp only [Act.put, List.setIfInBounds_toArray, List.set_cons_zero, List.set_cons_succ]
    refine until_take (i := 1) (v := .pointer (some ⟨fb, 0, none⟩)) (some 5) [20] rfl rfl (by kernel_rfl) (by kernel_rfl) (by kernel_rfl) (by kernel_rfl) rfl rfl (fun _ _ _ h => h) (Or.inl ⟨by rfl, fun W hW => by go_simp⟩) e0 ?_
    simp only [Act.put, List.setIfInBounds_toArray, List.set_cons_zero, List.set_cons_succ]
    refine until_take (i := 5) (v := .agg p.vals.toArray) (some 9) [20] rfl rfl (by kernel_rfl) (by kernel_rfl) (by kernel_rfl) (by kernel_rfl) rfl rfl (fun _ _ _ h => h) (yieldsIf_load_mid (by rfl) 209 (.tmp 3) rfl _ _ rfl _ _ (fun W hW => hW.2.2.2) Tryz.underlying209 rfl infoPc) e0 ?_
    simp only [Act.put, List.setIfInBounds_toArray, List.set_cons_zero, List.set_cons_succ]
    refine until_take (i := 6) (v := .pointer (some ⟨fb, 0, none⟩)) (some 10) [20] rfl rfl (by kernel_rfl) (by kernel_rfl) (by kernel_rfl) (by kernel_rfl) rfl rfl (fun _ _ _ h => h) (Or.inl ⟨by rfl, fun W hW => by go_simp⟩) e0 ?_
    simp only [Act.put, List.setIfInBounds_toArray, List.set_cons_zero, List.set_cons_succ]
    refine until_take (i := 10) (v := .pointer (some ⟨fb, 0, none⟩)) (some 14) [20] rfl rfl (by kernel_rfl) (by kernel_rfl) (by kernel_rfl) (by kernel_rfl) rfl rfl (fun _ _ _ h => h) (Or.inl ⟨by rfl, fun W hW => by go_simp⟩) e0 ?_
    simp only [Act.put, List.setIfInBounds_toArray, List.set_cons_zero, List.set_cons_succ]
    refine until_take (i := 2) (v := .pointer (some ⟨fb, 0, none⟩)) (some 6) [20] rfl rfl (by kernel_rfl) (by kernel_rfl) (by kernel_rfl) (by kernel_rfl) rfl rfl (fun _ _ _ h => h) (Or.inl ⟨by rfl, fun W hW => by go_simp⟩) e0 ?_
    simp only [Act.put, List.setIfInBounds_toArray, List.set_cons_zero, List.set_cons_succ]
    refine until_take (i := 7) (v := .pointer (some ⟨fb, 0, none⟩)) (some 11) [20] rfl rfl (by kernel_rfl) (by kernel_rfl) (by kernel_rfl) (by kernel_rfl) rfl rfl (fun _ _ _ h => h) (Or.inl ⟨by rfl, fun W hW => by go_simp⟩) e0 ?_
    simp only [Act.put, List.setIfInBounds_toArray, List.set_cons_zero, List.set_cons_succ]
    refine until_take (i := 11) (v := .pointer (some ⟨fb, 0, none⟩)) (some 15) [20] rfl rfl (by kernel_rfl) (by kernel_rfl) (by kernel_rfl) (by kernel_rfl) rfl rfl (fun _ _ _ h => h) (Or.inl ⟨by rfl, fun W hW => by go_simp⟩) e0 ?_
    simp only [Act.put, List.setIfInBounds_toArray, List.set_cons_zero, List.set_cons_succ]
    refine until_take (i := 3) (v := .pointer (some ⟨fb, 12, none⟩)) (some 7) [20] rfl rfl (by kernel_rfl) (by kernel_rfl) (by kernel_rfl) (by kernel_rfl) rfl rfl (fun _ _ _ h => h) (Or.inl ⟨by rfl, fun W hW => by go_simp⟩) e0 ?_
    simp only [Act.put, List.setIfInBounds_toArray, List.set_cons_zero, List.set_cons_succ]
    refine until_take (i := 8) (v := .pointer (some ⟨fb, 6, none⟩)) (some 12) [20] rfl rfl (by kernel_rfl) (by kernel_rfl) (by kernel_rfl) (by kernel_rfl) rfl rfl (fun _ _ _ h => h) (Or.inl ⟨by rfl, fun W hW => by go_simp⟩) e0 ?_
    simp only [Act.put, List.setIfInBounds_toArray, List.set_cons_zero, List.set_cons_succ]
    refine until_take (i := 12) (v := .pointer (some ⟨fb, 5, none⟩)) (some 16) [20] rfl rfl (by kernel_rfl) (by kernel_rfl) (by kernel_rfl) (by kernel_rfl) rfl rfl (fun _ _ _ h => h) (Or.inl ⟨by rfl, fun W hW => by go_simp⟩) e0 ?_
    simp only [Act.put, List.setIfInBounds_toArray, List.set_cons_zero, List.set_cons_succ]
    refine until_take (i := 4) (v := u) (some 8) [20] rfl rfl (by kernel_rfl) (by kernel_rfl) (by kernel_rfl) (by kernel_rfl) rfl rfl (fun _ _ _ h => h) (Or.inl ⟨by rfl, fun W hW => by have hc := hW.1; go_simp⟩) e0 ?_
    simp only [Act.put, List.setIfInBounds_toArray, List.set_cons_zero, List.set_cons_succ]
    refine until_take (i := 9) (v := .int .u32 (rc : Int)) (some 13) [20] rfl rfl (by kernel_rfl) (by kernel_rfl) (by kernel_rfl) (by kernel_rfl) rfl rfl (fun _ _ _ h => h) (Or.inl ⟨by rfl, fun W hW => by have hc := hW.2.1; go_simp⟩) e0 ?_
    simp only [Act.put, List.setIfInBounds_toArray, List.set_cons_zero, List.set_cons_succ]
    refine until_take (i := 13) (v := .int .i64 1) (some 17) [20] rfl rfl (by kernel_rfl) (by kernel_rfl) (by kernel_rfl) (by kernel_rfl) rfl rfl (fun _ _ _ h => h) (Or.inl ⟨by rfl, fun W hW => by have hc := hW.2.2.1; go_simp⟩) e0 ?_
    simp only [Act.put, List.setIfInBounds_toArray, List.set_cons_zero, List.set_cons_succ]
    refine until_take (i := 14) (v := .bool false) (some 18) [20] rfl rfl (by kernel_rfl) (by kernel_rfl) (by kernel_rfl) (by kernel_rfl) rfl rfl (fun _ _ _ h => h) (Or.inl ⟨by rfl, fun W hW => by go_simp⟩) e0 ?_
    simp only [Act.put, List.setIfInBounds_toArray, List.set_cons_zero, List.set_cons_succ]
    refine until_take (i := 15) (v := .agg (Oc.mk p rc false false).vals.toArray) (some 19) [20] rfl rfl (by kernel_rfl) (by kernel_rfl) (by kernel_rfl) (by kernel_rfl) rfl rfl (fun _ _ _ h => h) (Or.inl ⟨by rfl, fun W hW => by kernel_rfl⟩) e0 ?_
    simp only [Act.put, List.setIfInBounds_toArray, List.set_cons_zero, List.set_cons_succ]
    refine until_step (i := 16) (by kernel_rfl) rfl rfl (fun K hK => ?_)
    refine step_litG (by rfl) (.tmp 19) 204 211 (Oc.mk p rc false false).vals rfl (litO _ _) rfl _ rfl ?_
    intro w8 x8 b8 t8
    have e8 : w8.cell? ⟨fb, 12, none⟩ = some u ∧ w8.cell? ⟨fb, 6, none⟩ = some (.int .u32 (rc : Int)) ∧ w8.cell? ⟨fb, 5, none⟩ = some (.int .i64 1) ∧ w8.rangeAt g 0 p.vals := ⟨(b8.cell hlt).trans e0.1, (b8.cell hlt).trans e0.2.1, (b8.cell hlt).trans e0.2.2.1, range_below e0.2.2.2 b8⟩
    show K (Act.put _ (some 20) _) _
    refine hK.out _ _ e8 (fun _ => ?_)
    clear hK
    try simp only [Act.put, List.setIfInBounds_toArray, List.set_cons_zero, List.set_cons_succ]
    refine until_step (i := 17) (by kernel_rfl) rfl rfl (fun K hK => ?_)
    refine step_appG rfl (.tmp 8) (.tmp 20) 204 211 rfl (.agg zO.vals.toArray) 9 56 Tryz.underlying204 infoOc rfl (by decide) (by decide) base u ol.length (ov ol) rfl (HF1.out.below b8).row (some ⟨wd.heap.size, 0, none⟩) 1 1 (Oc.mk p rc false false).vals rfl ⟨rfl, Nat.le_refl _, by omega, oc_one _, fun _ => ⟨_, _, rfl, x8.range⟩⟩ (by have := HN.out; omega) (by have := b8.size; omega) ?_
    intro v9 w9 r9 g9 o9
    have e9 : w9.cell? ⟨fb, 12, none⟩ = some u ∧ w9.cell? ⟨fb, 6, none⟩ = some (.int .u32 (rc : Int)) ∧ w9.cell? ⟨fb, 5, none⟩ = some (.int .i64 1) ∧ w9.rangeAt g 0 p.vals := ⟨(g9.cell_far _ (by have := b8.size; show fb < _; omega) (fun e => (HF1.out.below b8).ne_row e.symm)).trans e8.1, (g9.cell_far _ (by have := b8.size; show fb < _; omega) (fun e => (HF1.out.below b8).ne_row e.symm)).trans e8.2.1, (g9.cell_far _ (by have := b8.size; show fb < _; omega) (fun e => (HF1.out.below b8).ne_row e.symm)).trans e8.2.2.1, fun j y hy => (g9.cell_far _ (by have := b8.size; show g < _; omega) (fun e => by have : g < w.heap.size := (own_in H.out.row e.symm).2; omega)).trans (e8.2.2.2 j y hy)⟩
    have HD := Lib.hid (tell_done H.out HP.out HAP.out (hgz ▸ (HB1.out.trans (b8.mono (by omega)))) (by rw [hst, hs1]; rfl : false = _) (hrc ▸ r9) g9 o9)
    obtain ⟨A9, k9, rfl, hk9, hm9⟩ := own_slice r9
    generalize ol.length + 1 = n9 at *
    have c9 := e9.1
    have f9 : w9.frozen? ⟨fb, 12, none⟩ = false := (g9.frozen_far _ (by have := b8.size; show fb < _; omega) (fun e => (HF1.out.below b8).ne_row e.symm)).trans ((HF1.out.below b8).fa.fz 12)
    clear r9 g9 o9 x8 e8
    show K (Act.put _ (some 21) _) _
    refine hK.out _ _ e9 (fun _ => ?_)
    clear hK
    try simp only [Act.put, List.setIfInBounds_toArray, List.set_cons_zero, List.set_cons_succ]
    refine until_take (i := 18) (v := .pointer (some ⟨fb, 0, none⟩)) (some 22) [19, 20] rfl rfl (by kernel_rfl) (by kernel_rfl) (by kernel_rfl) (by kernel_rfl) rfl rfl (fun _ _ _ h => h) (Or.inl ⟨by rfl, fun W hW => by go_simp⟩) e9 ?_
    simp only [Act.put, List.setIfInBounds_toArray, List.set_cons_zero, List.set_cons_succ]
    refine until_take (i := 19) (v := .pointer (some ⟨fb, 12, none⟩)) (some 23) [20] rfl rfl (by kernel_rfl) (by kernel_rfl) (by kernel_rfl) (by kernel_rfl) rfl rfl (fun _ _ _ h => h) (Or.inl ⟨by rfl, fun W hW => by go_simp⟩) e9 ?_
    simp only [Act.put, List.setIfInBounds_toArray, List.set_cons_zero, List.set_cons_succ]
    refine until_last (by kernel_rfl) rfl (fun K hK => ?_)
    go_simp
    refine hK.out _ _ ?_
    clear hK
    try simp only [Act.put, List.setIfInBounds_toArray, List.set_cons_zero, List.set_cons_succ]
    refine wpAnyH_done (by kernel_rfl) ?_ _
    refine NoPanic.normal ?_
    go_wp2_with fail
    go_end0
    exact ⟨rfl, HD.out⟩
  · have e0 : wd.cell? ⟨fb, 12, none⟩ = some u ∧ wd.cell? ⟨fb, 6, none⟩ = some (.int .u32 (rc : Int)) ∧ wd.cell? ⟨fb, 5, none⟩ = some (.int .i64 (st : Int)) ∧ wd.rangeAt g 0 p.vals := ⟨c12, c6, c5, r0⟩
    have n1 : ((st : Int) == 1) = false := by rw [beq_eq_false_iff_ne]; omega
    have n2 : ¬ (st : Int) = 1 := by omega
    have hlt : fb < wd.heap.size := by omega
    clear c12 c6 c5 r0
    refine until_start (fun W => W.cell? ⟨fb, 12, none⟩ = some u ∧ W.cell? ⟨fb, 6, none⟩ = some (.int .u32 (rc : Int)) ∧ W.cell? ⟨fb, 5, none⟩ = some (.int .i64 (st : Int)) ∧ W.rangeAt g 0 p.vals) 20 (by kernel_rfl) (by rw [hwd]; exact e0) (fun _ => ?_)
    rw [hwd]
    clear hwd
    refine until_take (i := 0) (v := .pointer (some ⟨fb, 0, none⟩)) (some 4) [20] rfl rfl (by kernel_rfl) (by kernel_rfl) (by kernel_rfl) (by kernel_rfl) rfl rfl (fun _ _ _ h => h) (Or.inl ⟨by rfl, fun W hW => by go_simp⟩) e0 ?_
    simp only [Act.put, List.setIfInBounds_toArray, List.set_cons_zero, List.set_cons_succ]
    refine until_take (i := 1) (v := .pointer (some ⟨fb, 0, none⟩)) (some 5) [20] rfl rfl (by kernel_rfl) (by kernel_rfl) (by kernel_rfl) (by kernel_rfl) rfl rfl (fun _ _ _ h => h) (Or.inl ⟨by rfl, fun W hW => by go_simp⟩) e0 ?_
    simp only [Act.put, List.setIfInBounds_toArray, List.set_cons_zero, List.set_cons_succ]
    refine until_take (i := 5) (v := .agg p.vals.toArray) (some 9) [20] rfl rfl (by kernel_rfl) (by kernel_rfl) (by kernel_rfl) (by kernel_rfl) rfl rfl (fun _ _ _ h => h) (yieldsIf_load_mid (by rfl) 209 (.tmp 3) rfl _ _ rfl _ _ (fun W hW => hW.2.2.2) Tryz.underlying209 rfl infoPc) e0 ?_
    simp only [Act.put, List.setIfInBounds_toArray, List.set_cons_zero, List.set_cons_succ]
    refine until_take (i := 6) (v := .pointer (some ⟨fb, 0, none⟩)) (some 10) [20] rfl rfl (by kernel_rfl) (by kernel_rfl) (by kernel_rfl) (by kernel_rfl) rfl rfl (fun _ _ _ h => h) (Or.inl ⟨by rfl, fun W hW => by go_simp⟩) e0 ?_
    simp only [Act.put, List.setIfInBounds_toArray, List.set_cons_zero, List.set_cons_succ]
    refine until_take (i := 10) (v := .pointer (some ⟨fb, 0, none⟩)) (some 14) [20] rfl rfl (by kernel_rfl) (by kernel_rfl) (by kernel_rfl) (by kernel_rfl) rfl rfl (fun _ _ _ h => h) (Or.inl ⟨by rfl, fun W hW => by go_simp⟩) e0 ?_
    simp only [Act.put, List.setIfInBounds_toArray, List.set_cons_zero, List.set_cons_succ]
    refine until_take (i := 2) (v := .pointer (some ⟨fb, 0, none⟩)) (some 6) [20] rfl rfl (by kernel_rfl) (by kernel_rfl) (by kernel_rfl) (by kernel_rfl) rfl rfl (fun _ _ _ h => h) (Or.inl ⟨by rfl, fun W hW => by go_simp⟩) e0 ?_
    simp only [Act.put, List.setIfInBounds_toArray, List.set_cons_zero, List.set_cons_succ]
    refine until_take (i := 7) (v := .pointer (some ⟨fb, 0, none⟩)) (some 11) [20] rfl rfl (by kernel_rfl) (by kernel_rfl) (by kernel_rfl) (by kernel_rfl) rfl rfl (fun _ _ _ h => h) (Or.inl ⟨by rfl, fun W hW => by go_simp⟩) e0 ?_
    simp only [Act.put, List.setIfInBounds_toArray, List.set_cons_zero, List.set_cons_succ]
    refine until_take (i := 11) (v := .pointer (some ⟨fb, 0, none⟩)) (some 15) [20] rfl rfl (by kernel_rfl) (by kernel_rfl) (by kernel_rfl) (by kernel_rfl) rfl rfl (fun _ _ _ h => h) (Or.inl ⟨by rfl, fun W hW => by go_simp⟩) e0 ?_
    simp only [Act.put, List.setIfInBounds_toArray, List.set_cons_zero, List.set_cons_succ]
    refine until_take (i := 3) (v := .pointer (some ⟨fb, 12, none⟩)) (some 7) [20] rfl rfl (by kernel_rfl) (by kernel_rfl) (by kernel_rfl) (by kernel_rfl) rfl rfl (fun _ _ _ h => h) (Or.inl ⟨by rfl, fun W hW => by go_simp⟩) e0 ?_
    simp only [Act.put, List.setIfInBounds_toArray, List.set_cons_zero, List.set_cons_succ]
    refine until_take (i := 8) (v := .pointer (some ⟨fb, 6, none⟩)) (some 12) [20] rfl rfl (by kernel_rfl) (by kernel_rfl) (by kernel_rfl) (by kernel_rfl) rfl rfl (fun _ _ _ h => h) (Or.inl ⟨by rfl, fun W hW => by go_simp⟩) e0 ?_
    simp only [Act.put, List.setIfInBounds_toArray, List.set_cons_zero, List.set_cons_succ]
    refine until_take (i := 12) (v := .pointer (some ⟨fb, 5, none⟩)) (some 16) [20] rfl rfl (by kernel_rfl) (by kernel_rfl) (by kernel_rfl) (by kernel_rfl) rfl rfl (fun _ _ _ h => h) (Or.inl ⟨by rfl, fun W hW => by go_simp⟩) e0 ?_
    simp only [Act.put, List.setIfInBounds_toArray, List.set_cons_zero, List.set_cons_succ]
    refine until_take (i := 4) (v := u) (some 8) [20] rfl rfl (by kernel_rfl) (by kernel_rfl) (by kernel_rfl) (by kernel_rfl) rfl rfl (fun _ _ _ h => h) (Or.inl ⟨by rfl, fun W hW => by have hc := hW.1; go_simp⟩) e0 ?_
    simp only [Act.put, List.setIfInBounds_toArray, List.set_cons_zero, List.set_cons_succ]
    refine until_take (i := 9) (v := .int .u32 (rc : Int)) (some 13) [20] rfl rfl (by kernel_rfl) (by kernel_rfl) (by kernel_rfl) (by kernel_rfl) rfl rfl (fun _ _ _ h => h) (Or.inl ⟨by rfl, fun W hW => by have hc := hW.2.1; go_simp⟩) e0 ?_
    simp only [Act.put, List.setIfInBounds_toArray, List.set_cons_zero, List.set_cons_succ]
    refine until_take (i := 13) (v := .int .i64 (st : Int)) (some 17) [20] rfl rfl (by kernel_rfl) (by kernel_rfl) (by kernel_rfl) (by kernel_rfl) rfl rfl (fun _ _ _ h => h) (Or.inl ⟨by rfl, fun W hW => by have hc := hW.2.2.1; go_simp⟩) e0 ?_
    simp only [Act.put, List.setIfInBounds_toArray, List.set_cons_zero, List.set_cons_succ]
    refine until_take (i := 14) (v := .bool true) (some 18) [20] rfl rfl (by kernel_rfl) (by kernel_rfl) (by kernel_rfl) (by kernel_rfl) rfl rfl (fun _ _ _ h => h) (Or.inl ⟨by rfl, fun W hW => by go_simp⟩) e0 ?_
    simp only [Act.put, List.setIfInBounds_toArray, List.set_cons_zero, List.set_cons_succ]
    refine until_take (i := 15) (v := .agg (Oc.mk p rc true false).vals.toArray) (some 19) [20] rfl rfl (by kernel_rfl) (by kernel_rfl) (by kernel_rfl) (by kernel_rfl) rfl rfl (fun _ _ _ h => h) (Or.inl ⟨by rfl, fun W hW => by kernel_rfl⟩) e0 ?_
    simp only [Act.put, List.setIfInBounds_toArray, List.set_cons_zero, List.set_cons_succ]
    refine until_step (i := 16) (by kernel_rfl) rfl rfl (fun K hK => ?_)
    refine step_litG (by rfl) (.tmp 19) 204 211 (Oc.mk p rc true false).vals rfl (litO _ _) rfl _ rfl ?_
    intro w8 x8 b8 t8
    have e8 : w8.cell? ⟨fb, 12, none⟩ = some u ∧ w8.cell? ⟨fb, 6, none⟩ = some (.int .u32 (rc : Int)) ∧ w8.cell? ⟨fb, 5, none⟩ = some (.int .i64 (st : Int)) ∧ w8.rangeAt g 0 p.vals := ⟨(b8.cell hlt).trans e0.1, (b8.cell hlt).trans e0.2.1, (b8.cell hlt).trans e0.2.2.1, range_below e0.2.2.2 b8⟩
    show K (Act.put _ (some 20) _) _
    refine hK.out _ _ e8 (fun _ => ?_)
    clear hK
    try simp only [Act.put, List.setIfInBounds_toArray, List.set_cons_zero, List.set_cons_succ]
    refine until_step (i := 17) (by kernel_rfl) rfl rfl (fun K hK => ?_)
    refine step_appG rfl (.tmp 8) (.tmp 20) 204 211 rfl (.agg zO.vals.toArray) 9 56 Tryz.underlying204 infoOc rfl (by decide) (by decide) base u ol.length (ov ol) rfl (HF1.out.below b8).row (some ⟨wd.heap.size, 0, none⟩) 1 1 (Oc.mk p rc true false).vals rfl ⟨rfl, Nat.le_refl _, by omega, oc_one _, fun _ => ⟨_, _, rfl, x8.range⟩⟩ (by have := HN.out; omega) (by have := b8.size; omega) ?_
    intro v9 w9 r9 g9 o9
    have e9 : w9.cell? ⟨fb, 12, none⟩ = some u ∧ w9.cell? ⟨fb, 6, none⟩ = some (.int .u32 (rc : Int)) ∧ w9.cell? ⟨fb, 5, none⟩ = some (.int .i64 (st : Int)) ∧ w9.rangeAt g 0 p.vals := ⟨(g9.cell_far _ (by have := b8.size; show fb < _; omega) (fun e => (HF1.out.below b8).ne_row e.symm)).trans e8.1, (g9.cell_far _ (by have := b8.size; show fb < _; omega) (fun e => (HF1.out.below b8).ne_row e.symm)).trans e8.2.1, (g9.cell_far _ (by have := b8.size; show fb < _; omega) (fun e => (HF1.out.below b8).ne_row e.symm)).trans e8.2.2.1, fun j y hy => (g9.cell_far _ (by have := b8.size; show g < _; omega) (fun e => by have : g < w.heap.size := (own_in H.out.row e.symm).2; omega)).trans (e8.2.2.2 j y hy)⟩
    have HD := Lib.hid (tell_done H.out HP.out HAP.out (hgz ▸ (HB1.out.trans (b8.mono (by omega)))) (by rw [hst]; exact (decide_eq_true hs1).symm : true = _) (hrc ▸ r9) g9 o9)
    obtain ⟨A9, k9, rfl, hk9, hm9⟩ := own_slice r9
    generalize ol.length + 1 = n9 at *
    have c9 := e9.1
    have f9 : w9.frozen? ⟨fb, 12, none⟩ = false := (g9.frozen_far _ (by have := b8.size; show fb < _; omega) (fun e => (HF1.out.below b8).ne_row e.symm)).trans ((HF1.out.below b8).fa.fz 12)
    clear r9 g9 o9 x8 e8
    show K (Act.put _ (some 21) _) _
    refine hK.out _ _ e9 (fun _ => ?_)
    clear hK
    try simp only [Act.put, List.setIfInBounds_toArray, List.set_cons_zero, List.set_cons_succ]
    refine until_take (i := 18) (v := .pointer (some ⟨fb, 0, none⟩)) (some 22) [19, 20] rfl rfl (by kernel_rfl) (by kernel_rfl) (by kernel_rfl) (by kernel_rfl) rfl rfl (fun _ _ _ h => h) (Or.inl ⟨by rfl, fun W hW => by go_simp⟩) e9 ?_
    simp only [Act.put, List.setIfInBounds_toArray, List.set_cons_zero, List.set_cons_succ]
    refine until_take (i := 19) (v := .pointer (some ⟨fb, 12, none⟩)) (some 23) [20] rfl rfl (by kernel_rfl) (by kernel_rfl) (by kernel_rfl) (by kernel_rfl) rfl rfl (fun _ _ _ h => h) (Or.inl ⟨by rfl, fun W hW => by go_simp⟩) e9 ?_
    simp only [Act.put, List.setIfInBounds_toArray, List.set_cons_zero, List.set_cons_succ]
    refine until_last (by kernel_rfl) rfl (fun K hK => ?_)
    go_simp
    refine hK.out _ _ ?_
    clear hK
    try simp only [Act.put, List.setIfInBounds_toArray, List.set_cons_zero, List.set_cons_succ]
    refine wpAnyH_done (by kernel_rfl) ?_ _
    refine NoPanic.normal ?_
    go_wp2_with fail
    go_end0
    exact ⟨rfl, HD.out⟩
theorem TellP.left {p : Pc} {w' : World} (t : TellP base w s x p w') (hb : ∀ g, p.blk = some g → s.T g ∨ w.heap.size ≤ g) : Left base w s (x.tell p.key) w' := by
  obtain ⟨u, ol, f, c, n, o⟩ := t
  refine ⟨{ s with ov := u, ol := ol }, rfl, f, c.mono (fun g _ e => by rcases e with e | e; exact .inl e; exact .inr (.inr (.inl e))), fun g hg => ?_⟩
  rcases hg with e | hg | hg | ⟨q, hq, hg⟩
  · exact .inl (.inl e)
  · exact .inl (.inr (.inl hg))
  · rcases n with n | ⟨g', n, hl⟩
    · exact .inl (.inr (.inr (.inl (n ▸ hg))))
    · have hg : u.ownBlock = some g := hg
      rw [n] at hg
      injection hg with hg
      exact .inr (hg ▸ hl)
  · rcases o q hq with h | h
    · exact .inl (.inr (.inr (.inr ⟨q, h, hg⟩)))
    · exact hb g (by rw [← h]; exact hg)

/-- A piece without anything but its place. -/
def tP (seq : Nat) : Pc := { zP with seq := seq }
def tK (seq : Nat) : Ky := ⟨seq, false, false, 0, false, []⟩
theorem tP_key (seq : Nat) : (tP seq).key = tK seq := rfl
theorem tP_blk (seq : Nat) : (tP seq).blk = none := rfl
theorem tP_ok {base : Nat} {w : World} {seq : Nat} (h : seq < 4294967296) : PO base w (tP seq) := ⟨h, ⟨by show (-9223372036854775808 : Int) ≤ 0; decide, by show (0 : Int) ≤ 9223372036854775807; decide⟩, World.ownsRow_nil _ _ _ _⟩
set_option maxHeartbeats 1600000 in
theorem tellAt_any (h : Fl base w s x) (q : Nat) (hq : q < 4294967296) (hn : x.os.length ≤ 549755813888) :
    Calls Tryz.prog 156 #[ptr s.fb, .int .u32 (q : Int)] w fun e w' => e = .returned (.tuple #[]) ∧ Left base w s (x.tell (tK q)) w' := by
  have HT := Lib.hid (tell_any h (tP q) (tP_ok hq) (fun g hg => by rw [tP_blk] at hg; cases hg) hn)
  clear h hn
  unfold ptr at *
  go_enter Tryz.func156, Tryz.ntmps156
  go_wp2_with fail
  refine HT.out.mono ?_
  rintro e w1 ⟨rfl, t⟩
  have HL := Lib.hid (t.left (fun g hg => by rw [tP_blk] at hg; cases hg))
  clear t
  go_wp2_with fail
  go_end0
  exact ⟨rfl, HL.out⟩
end
end Go.Proofs.YtlcegchdkigibaaGreatDoor.LF

namespace Go.Proofs.YtlcegchdkigibaaGreatDoor.LF
set_option linter.unusedVariables false
set_option linter.unusedSimpArgs false
set_option maxRecDepth 20000
open Go.RowKit Go.Lib

def F.push (x : F) (k : Ky) : F := { x with ks := x.ks ++ [k.at x.en], en := on x.en (k.len : Int) }
def F.began (x : F) (t : Int) : F := { x with bg := t, tm := true }
def F.due (x : F) (t : Int) : F := { x with df := t, dw := x.E.wt }
/-- A piece is sent. -/
def F.send (x : F) (k : Ky) (t : Int) : F :=
  let y := ((if x.ks = [] then x.began t else x).push k).tell (k.at x.en)
  if 0 < y.dw then y else y.due t
theorem Fl.pushed {base : Nat} {w w' : World} {s : Sh} {x : F} {k : Ky} {e : Ending} (h : Fl base w s x) (hk : 0 < k.len) (t : PushP 268 base w s.qb s.v s.l x.en k e w') :
    ∃ (q : Pc) (s' : Sh), e = .returned (.agg q.vals.toArray) ∧ q.key = k.at x.en ∧ PO base w' q ∧ (∀ g, q.blk = some g → w.heap.size ≤ g ∧ ¬ Qb s'.qb s'.v s'.l g) ∧ s'.fb = s.fb ∧ s'.qb = s.qb ∧ Fl base w' s' (x.push k) ∧ Ch w w' s.T ∧ ∀ g, s'.T g → s.T g ∨ w.heap.size ≤ g := by
  obtain ⟨q, v', l', m, rfl, hq, ho, hm, hu, hl, hlt, hold, c⟩ := t
  rw [if_pos hk] at hl
  have hbm : base ≤ m := Nat.le_trans (Nat.le_trans h.lo (Nat.le_of_lt h.fa.lt)) hm
  have hc : Ch w w' s.T := c.mono (fun g _ e => by rcases e with e | e; exact .inr (.inl (.inl e)); exact .inr (.inl (.inr (.inl e))))
  have hne : ∀ g, ¬ Qb s.qb s.v s.l g → ¬ (g = s.qb ∨ s.v.ownBlock = some g) := fun g hn e => hn (by rcases e with e | e; exact .inl e; exact .inr (.inl e))
  refine ⟨q, { s with v := v', l := l' }, rfl, hq, ho.mono hbm, fun g hg => ⟨Nat.le_trans hm (ho.lt hg).1, fun hqb => ?_⟩, rfl, rfl, ?_, hc, fun g hg => ?_⟩
  · have h1 := hlt g hqb
    have h2 := (ho.lt hg).1
    omega
  · refine ⟨h.fa.ch c (hne _ h.ne_queue), h.lo, hu, ?_, ?_, h.lt, own_ch2 h.row c (fun g hg => hne g (h.row_queue hg)), h.os, fun o ho2 => ⟨(h.og o ho2).1.ch c (fun g hg => hne g (h.ap o ho2 g hg)), (h.og o ho2).2⟩, fun o ho2 g hg hqb => ?_, h.rcv⟩
    · show l'.map Pc.key = x.ks ++ [_]
      rw [hl, h.ky]
    · exact h.cn.snoc (k.at x.en) rfl
    · rcases hold g hqb with h1 | h1
      · exact h.ap o ho2 g hg h1
      · have := ((h.og o ho2).1.lt hg).2
        omega
  · rcases hg with e | hg | hg | hg
    · exact .inl (.inl e)
    · rcases hold g hg with h1 | h1
      · exact .inl (.inr (.inl h1))
      · exact .inr h1
    · exact .inl (.inr (.inr (.inl hg)))
    · exact .inl (.inr (.inr (.inr hg)))
theorem Fl.llen {base : Nat} {w : World} {s : Sh} {x : F} (h : Fl base w s x) : s.l.length = x.ks.length := by rw [← h.ky, List.length_map]
/-- The cells of the flow behind a call. -/
theorem Left.trans_ {base : Nat} {w w1 w2 : World} {s : Sh} {x1 x2 : F} (h : Left base w s x1 w1) (k : ∀ s1 : Sh, s1.fb = s.fb → Fl base w1 s1 x1 → Left base w1 s1 x2 w2) : Left base w s x2 w2 := by
  obtain ⟨s1, e1, f1, c1, n1⟩ := h
  exact Left.then_ e1 c1 n1 (k s1 e1 f1)

/-- Push, and then tell. -/
theorem leftP {base : Nat} {w w4 w5 : World} {s s4 : Sh} {y : F} {q : Pc} (hq : ∀ g, q.blk = some g → w.heap.size ≤ g ∧ ¬ Qb s4.qb s4.v s4.l g) (C4 : Ch w w4 s.T) (n4 : ∀ g, s4.T g → s.T g ∨ w.heap.size ≤ g) (t : TellP base w4 s4 y q w5) :
    ∃ s5 : Sh, s5.fb = s4.fb ∧ Fl base w5 s5 (y.tell q.key) ∧ Ch w w5 s.T ∧ ∀ g, s5.T g → s.T g ∨ w.heap.size ≤ g := by
  obtain ⟨u, ol, f, c, n, o⟩ := t
  refine ⟨{ s4 with ov := u, ol := ol }, rfl, f, C4.trans c (fun _ _ h => h) (fun g hg h => ?_), fun g hg => ?_⟩
  · have hT : s4.T g := by rcases h with h | h; exact .inl h; exact .inr (.inr (.inl h))
    rcases n4 g hT with h | h
    · exact h
    · omega
  · rcases hg with e | hg | hg | ⟨r, hr, hg⟩
    · exact n4 g (.inl e)
    · exact n4 g (.inr (.inl hg))
    · rcases n with n | ⟨g', n, hl⟩
      · exact n4 g (.inr (.inr (.inl (n ▸ hg))))
      · have hg : u.ownBlock = some g := hg
        rw [n] at hg
        injection hg with hg
        exact .inr (hg ▸ Nat.le_trans C4.size hl)
    · rcases o r hr with h | h
      · exact n4 g (.inr (.inr (.inr ⟨r, h, hg⟩)))
      · exact .inr (hq g (by rw [← h]; exact hg)).1
section
variable {base : Nat} {w : World} {s : Sh} {x : F}
/-- What has no deadline has one. -/
theorem Fl.due_ (h : Fl base w s x) (t d : Int) (hd : d = x.E.wt) : Left base w s (x.due t) ((w.setCell ⟨s.fb, 8, none⟩ (.int .i64 t)).setCell ⟨s.fb, 9, none⟩ (.int .i64 d)) :=
  h.left (((h.fa.set 8 (.int .i64 t) { x.fc s.qb s.ov with df := t } rfl).set 9 (.int .i64 d) { x.fc s.qb s.ov with df := t, dw := d } rfl)) ((ch_set w s.fb 8 _).set 9 _) (by subst hd; rfl) rfl rfl rfl rfl h.rcv
theorem Fl.began_ (h : Fl base w s x) (t : Int) : Fl base ((w.setCell ⟨s.fb, 10, none⟩ (.int .i64 t)).setCell ⟨s.fb, 11, none⟩ (.bool true)) s (x.began t) ∧ Ch w ((w.setCell ⟨s.fb, 10, none⟩ (.int .i64 t)).setCell ⟨s.fb, 11, none⟩ (.bool true)) (fun g => g = s.fb) :=
  ⟨h.did (((h.fa.set 10 (.int .i64 t) { x.fc s.qb s.ov with bg := t } rfl).set 11 (.bool true) { x.fc s.qb s.ov with bg := t, tm := true } rfl)) ((ch_set w s.fb 10 _).set 11 _) rfl rfl rfl rfl rfl h.rcv, (ch_set w s.fb 10 _).set 11 _⟩
set_option maxHeartbeats 3200000 in
theorem send_any (h : Fl base w s x) (p : Pc) (hp : PG w p) (hap : ∀ g o s', p.dA = some ⟨g, o, s'⟩ → 0 < p.dn → g ≠ s.qb ∧ s.v.ownBlock ≠ some g ∧ g ≠ s.fb) (hd : p.dn ≤ 1099511627776) (hk : 0 < p.key.len) (hl : x.ks.length ≤ 1073741824) (hn : x.os.length ≤ 549755813888) (hE : x.E.Ok) (t : Int) (ht : isInt t) :
    Calls Tryz.prog 172 #[ptr s.fb, .agg p.vals.toArray, .int .i64 t] w fun e w' => e = .returned (.tuple #[]) ∧ Left base w s (x.send p.key t) w' := by
  have hfb := h.fa.lt
  have HLL := Lib.hid h.llen
  obtain ⟨fb, qb, v, l, u, ol⟩ := s
  dsimp only at *
  have H := Lib.hid h
  have HP := Lib.hid hp
  have HAP := Lib.hid hap
  have HLen := Lib.hid (fun W (b : Below w.heap.size w W) => Len_any (h.below b).qu)
  have HL := Lib.hid hl
  have HN := Lib.hid hn
  have HE := Lib.hid hE
  have HT0 := Lib.hid ht
  have c0 := h.fa.c0
  have HD := Lib.hid hd
  have HK := Lib.hid hk
  clear h hp hap hl hn hE hd hk ht
  dsimp only [F.fc] at c0
  unfold ptr at *
  by_cases hks : x.ks = []
  · have hl0 : l.length = 0 := by rw [HLL.out, hks]; rfl
    rw [hl0] at HLen
    go_enter Tryz.func172, Tryz.ntmps172
    go_wp2_with (first
      | ((with_reducible refine wpList_here ?_); refine wpList_boxV (o := ⟨some 4, _, _, _, _, _⟩) rfl 209 (.tmp 1) rfl p.vals rfl _ rfl ?_; intro w1 z1 b1 s1; have HB1 := Lib.hid b1; have HF1 := Lib.hid (H.out.below b1); have c0' := HF1.out.fa.c0; have f10 := HF1.out.fa.fz 10; have f11 := HF1.out.fa.fz 11; have c10 := HF1.out.fa.c10; have c11 := HF1.out.fa.c11; dsimp only [F.fc, ptr] at c0' c10 c11; clear b1 c0)
      | (go_at_call 245; refine (HLen.out _ HB1.out).mono ?_; rintro e w2 ⟨rfl, rfl⟩)
      | fail)
    have h3 := HF1.out.began_ t
    have HY := Lib.hid h3.1
    have HS3 := Lib.hid (And.intro (rfl : (⟨fb, qb, v, l, u, ol⟩ : Sh).fb = fb) (And.intro ((Ch.of_below _ HB1.out).trans (m'' := (⟨fb, qb, v, l, u, ol⟩ : Sh).T) (m := fun _ => False) h3.2 (fun _ _ h => h.elim) (fun _ _ h => .inl h)) (fun (g : Nat) (h : (⟨fb, qb, v, l, u, ol⟩ : Sh).T g) => (Or.inl h : (⟨fb, qb, v, l, u, ol⟩ : Sh).T g ∨ w.heap.size ≤ g))))
    have r3 := rangeAt_ch h3.2 z1.range (by show ¬ w.heap.size = fb; omega)
    have k3 : w2.heap.size = ((w2.setCell ⟨fb, 10, none⟩ (.int .i64 t)).setCell ⟨fb, 11, none⟩ (.bool true)).heap.size := by simp [World.setCell]
    have pg3 : PG ((w2.setCell ⟨fb, 10, none⟩ (.int .i64 t)).setCell ⟨fb, 11, none⟩ (.bool true)) p := ⟨HP.out.seq, HP.out.dsn, (HP.out.data.below HB1.out).ch h3.2 (fun g o s' e hn => (HAP.out g o s' e hn).2.2)⟩
    rw [s1] at k3
    clear h3 z1 f10 f11 c10 c11 c0' s1 HF1
    dsimp only at HY HS3 r3 pg3
    generalize (w2.setCell ⟨fb, 10, none⟩ (.int .i64 t)).setCell ⟨fb, 11, none⟩ (.bool true) = w2s at *
    have HY := Lib.hid (HY.out.below (Below.refl _ _).drew)
    have HS3 := Lib.hid (And.intro HS3.out.1 (And.intro HS3.out.2.1.drew HS3.out.2.2))
    have r3 : w2s.drew.rangeAt w.heap.size 0 p.vals := r3
    have k3 : w.heap.size + 1 = w2s.drew.heap.size := k3
    have pg3 : PG w2s.drew p := pg3.below (Below.refl _ _).drew
    generalize hwd : w2s.drew = w3 at *
    generalize hgz : w.heap.size = g at *
    have HG3 := Lib.hid (pg3)
    have HPush := Lib.hid (Push_any HY.out.qu p HG3.out (fun g o s' e hn => ⟨(HAP.out g o s' e hn).1, (HAP.out g o s' e hn).2.1⟩) HD.out (by show l.length ≤ 1073741824; have := HLL.out; have := HL.out; omega))
    have e0 : w3.cell? ⟨fb, 0, none⟩ = some (.pointer (some ⟨qb, 0, none⟩)) ∧ w3.rangeAt g 0 p.vals := ⟨HY.out.fa.c0, r3⟩
    clear r3
    unfold ptr at HPush
    dsimp only at HPush
    refine wp_region_noPanic ?_
    refine wp_region_held_drew (S := fun W => W.cell? ⟨fb, 0, none⟩ = some (.pointer (some ⟨qb, 0, none⟩)) ∧ W.rangeAt g 0 p.vals) (by kernel_rfl) (by rw [hwd]; exact e0) (fun _ => ?_)
    rw [hwd]
    clear hwd
    refine held_take (i := 0) (v := .pointer (some ⟨fb, 0, none⟩)) (some 19) rfl rfl (by kernel_rfl) (by kernel_rfl) (by kernel_rfl) (fun _ _ _ h => h) (Or.inl ⟨by rfl, fun W hW => by go_simp⟩) e0 ?_
    simp only [Act.put, List.setIfInBounds_toArray, List.set_cons_zero, List.set_cons_succ]
    refine held_take (i := 1) (v := .pointer (some ⟨fb, 0, none⟩)) (some 20) rfl rfl (by kernel_rfl) (by kernel_rfl) (by kernel_rfl) (fun _ _ _ h => h) (Or.inl ⟨by rfl, fun W hW => by go_simp⟩) e0 ?_
    simp only [Act.put, List.setIfInBounds_toArray, List.set_cons_zero, List.set_cons_succ]
    refine held_take (i := 5) (v := .agg p.vals.toArray) (some 24) rfl rfl (by kernel_rfl) (by kernel_rfl) (by kernel_rfl) (fun _ _ _ h => h) (yieldsIf_load_mid (by rfl) 209 (.tmp 4) rfl _ _ rfl _ _ (fun W hW => hW.2) Tryz.underlying209 rfl infoPc) e0 ?_
    simp only [Act.put, List.setIfInBounds_toArray, List.set_cons_zero, List.set_cons_succ]
    refine held_take (i := 2) (v := .pointer (some ⟨fb, 0, none⟩)) (some 21) rfl rfl (by kernel_rfl) (by kernel_rfl) (by kernel_rfl) (fun _ _ _ h => h) (Or.inl ⟨by rfl, fun W hW => by go_simp⟩) e0 ?_
    simp only [Act.put, List.setIfInBounds_toArray, List.set_cons_zero, List.set_cons_succ]
    refine held_take (i := 3) (v := .pointer (some ⟨fb, 0, none⟩)) (some 22) rfl rfl (by kernel_rfl) (by kernel_rfl) (by kernel_rfl) (fun _ _ _ h => h) (Or.inl ⟨by rfl, fun W hW => by go_simp⟩) e0 ?_
    simp only [Act.put, List.setIfInBounds_toArray, List.set_cons_zero, List.set_cons_succ]
    refine held_take (i := 4) (v := .pointer (some ⟨qb, 0, none⟩)) (some 23) rfl rfl (by kernel_rfl) (by kernel_rfl) (by kernel_rfl) (fun _ _ _ h => h) (Or.inl ⟨by rfl, fun W hW => by have hc := hW.1; go_simp⟩) e0 ?_
    simp only [Act.put, List.setIfInBounds_toArray, List.set_cons_zero, List.set_cons_succ]
    refine wpAnyH_ready (rs := [6]) (by kernel_rfl) (by simp) ?_
    refine AllReadyH.cons rfl (fun K hK => ?_) AllReadyH.nil
    go_simp
    refine HPush.out.mono ?_
    rintro e w4 hp4
    obtain ⟨q, s4, rfl, hq4, ho4, hn4, e4, eq4, f4, C4, n4⟩ := HY.out.pushed HK.out hp4
    obtain ⟨fb4, qb4, v4, l4, u4, ol4⟩ := s4
    dsimp only at e4 eq4 hn4
    subst e4 eq4
    have r4 : w4.rangeAt g 0 p.vals := rangeAt_ch C4 e0.2 (fun hT => by have := (H.out.in_ hT).2; omega)
    have S4 : w4.cell? ⟨fb4, 0, none⟩ = some (.pointer (some ⟨qb4, 0, none⟩)) ∧ w4.rangeAt g 0 p.vals := ⟨f4.fa.c0, r4⟩
    have hgn : ¬ (g = fb4 ∨ u4.ownBlock = some g) := fun e => by
      rcases e with e | e
      · have : fb4 < w.heap.size := (H.out.in_ (.inl rfl)).2
        omega
      · have hT : (⟨fb4, qb4, v4, l4, u4, ol4⟩ : Sh).T g := .inr (.inr (.inl e))
        rcases n4 g hT with h | h
        · have := (H.out.in_ h).2
          omega
        · omega
    have HF4 := Lib.hid f4
    have HC4 := Lib.hid (And.intro C4 n4)
    have HQ4 := Lib.hid (And.intro ho4 hn4)
    have HT := Lib.hid (tell_any f4 q ho4 (fun g hg => (hn4 g hg).2) HN.out)
    have HKq : Hid (q.key = p.key.at x.en) := Lib.hid hq4
    have HS4 := Lib.hid C4.size
    clear hp4 f4 C4 n4 ho4 hn4 hq4 HPush r4
    dsimp only
    refine hK.out _ _ S4 (fun _ => ?_)
    clear hK
    try simp only [Act.put, List.setIfInBounds_toArray, List.set_cons_zero, List.set_cons_succ]
    refine wpAnyH_ready (rs := [7]) (by kernel_rfl) (by simp) ?_
    refine AllReadyH.cons rfl (fun K hK => ?_) AllReadyH.nil
    go_simp
    unfold ptr at HT
    dsimp only at HT
    refine HT.out.mono ?_
    rintro e w5 ⟨rfl, t5⟩
    have HL5 := Lib.hid (leftP HQ4.out.2 HC4.out.1 HC4.out.2 t5)
    rw [HKq.out] at HL5
    obtain ⟨u5, ol5, f5, C5, _, _⟩ := t5
    have S5 : w5.cell? ⟨fb4, 0, none⟩ = some (.pointer (some ⟨qb4, 0, none⟩)) ∧ w5.rangeAt g 0 p.vals := ⟨f5.fa.c0, rangeAt_ch C5 S4.2 hgn⟩
    clear f5 C5 HT
    dsimp only
    refine hK.out _ _ S5 (fun _ => ?_)
    clear hK
    try simp only [Act.put, List.setIfInBounds_toArray, List.set_cons_zero, List.set_cons_succ]
    refine wpAnyH_done (by kernel_rfl) ?_ _
    refine NoPanic.normal ?_
    obtain ⟨s5, e5, f5, C5, n5⟩ := HL5.out
    have e5' : fb4 = s5.fb := e5.symm
    have HIS := Lib.hid (fun W => is_any x.df x.dw W)
    have c8 := f5.fa.c8
    have c9 := f5.fa.c9
    rw [← e5'] at c8 c9
    have HF5 := Lib.hid f5
    have HC5 := Lib.hid (And.intro C5 n5)
    have c8' : w5.cell? ⟨fb4, 8, none⟩ = some (.int .i64 x.df) := c8
    have c9' : w5.cell? ⟨fb4, 9, none⟩ = some (.int .i64 x.dw) := c9
    have HX5 := Lib.hid e5'
    clear f5 C5 n5 e5 c8 c9 HL5 e5'
    unfold dl at HIS
    by_cases hdw : 0 < x.dw
    · rw [decide_eq_true hdw] at HIS
      go_wp2_with (first
        | (go_at_call 247; refine (HIS.out _).mono ?_; rintro e w6 ⟨rfl, b6⟩; have HB6 := Lib.hid b6; clear b6)
        | fail)
      go_end0
      refine ⟨rfl, ?_⟩
      have hsend : x.send p.key t = (((x.began t).push p.key).tell (p.key.at x.en)) := by
        unfold F.send
        rw [if_pos hks]
        exact if_pos hdw
      rw [hsend]
      exact Left.then_ rfl HS3.out.2.1 (fun g h => .inl h) (Left.then_ HX5.out.symm HC5.out.1 HC5.out.2 (Left.same HF5.out HB6.out))
    · rw [decide_eq_false hdw] at HIS
      go_wp2_with (first
        | (go_at_call 247; refine (HIS.out _).mono ?_; rintro e w6 ⟨rfl, b6⟩; have HB6 := Lib.hid b6; have HW := Lib.hid (Wait_any (HF5.out.below b6).fa HE.out); unfold ptr1 at HW; rw [← HX5.out] at HW; clear b6)
        | (go_at_call 248; refine HW.out.mono ?_; rintro e w7 ⟨rfl, b7⟩; have HB7 := Lib.hid (below_trans HB6.out b7); have HF7 := Lib.hid (HF5.out.below HB7.out); have d8 := HF7.out.fa.c8; have d9 := HF7.out.fa.c9; have g8 := HF7.out.fa.fz 8; have g9 := HF7.out.fa.fz 9; rw [← HX5.out] at d8 d9 g8 g9; clear b7)
        | fail)
      go_end0
      refine ⟨rfl, ?_⟩
      have hsend : x.send p.key t = (((x.began t).push p.key).tell (p.key.at x.en)).due t := by
        unfold F.send
        rw [if_pos hks]
        exact if_neg (show ¬ 0 < x.dw by omega)
      rw [hsend]
      have HD7 := HF7.out.due_ t _ rfl
      rw [← HX5.out] at HD7
      exact Left.then_ rfl HS3.out.2.1 (fun g h => .inl h) (Left.then_ HX5.out.symm HC5.out.1 HC5.out.2 (Left.then_ rfl (Ch.of_below _ HB7.out) (fun g h => .inl h) HD7))
  · have hl0 : ((l.length : Int) == 0) = false := by rw [beq_eq_false_iff_ne]; have := HLL.out; have : x.ks.length ≠ 0 := fun e => hks (List.eq_nil_of_length_eq_zero e); omega
    go_enter Tryz.func172, Tryz.ntmps172
    go_wp2_with (first
      | ((with_reducible refine wpList_here ?_); refine wpList_boxV (o := ⟨some 4, _, _, _, _, _⟩) rfl 209 (.tmp 1) rfl p.vals rfl _ rfl ?_; intro w1 z1 b1 s1; have HB1 := Lib.hid b1; have HF1 := Lib.hid (H.out.below b1); have c0' := HF1.out.fa.c0; have f10 := HF1.out.fa.fz 10; have f11 := HF1.out.fa.fz 11; have c10 := HF1.out.fa.c10; have c11 := HF1.out.fa.c11; dsimp only [F.fc, ptr] at c0' c10 c11; clear b1 c0)
      | (go_at_call 245; refine (HLen.out _ HB1.out).mono ?_; rintro e w2 ⟨rfl, rfl⟩)
      | fail)
    have HY := Lib.hid HF1.out
    have HS3 := Lib.hid (And.intro (rfl : (⟨fb, qb, v, l, u, ol⟩ : Sh).fb = fb) (And.intro (Ch.of_below (⟨fb, qb, v, l, u, ol⟩ : Sh).T HB1.out) (fun (g : Nat) (h : (⟨fb, qb, v, l, u, ol⟩ : Sh).T g) => (Or.inl h : (⟨fb, qb, v, l, u, ol⟩ : Sh).T g ∨ w.heap.size ≤ g))))
    have r3 := z1.range
    have k3 : w.heap.size + 1 = w2.heap.size := s1.symm
    have pg3 : PG w2 p := HP.out.below HB1.out
    clear z1 f10 f11 c10 c11 c0' s1 HF1
    generalize w2 = w2s at *
    have HY := Lib.hid (HY.out.below (Below.refl _ _).drew)
    have HS3 := Lib.hid (And.intro HS3.out.1 (And.intro HS3.out.2.1.drew HS3.out.2.2))
    have r3 : w2s.drew.rangeAt w.heap.size 0 p.vals := r3
    have k3 : w.heap.size + 1 = w2s.drew.heap.size := k3
    have pg3 : PG w2s.drew p := pg3.below (Below.refl _ _).drew
    generalize hwd : w2s.drew = w3 at *
    generalize hgz : w.heap.size = g at *
    have HG3 := Lib.hid (pg3)
    have HPush := Lib.hid (Push_any HY.out.qu p HG3.out (fun g o s' e hn => ⟨(HAP.out g o s' e hn).1, (HAP.out g o s' e hn).2.1⟩) HD.out (by show l.length ≤ 1073741824; have := HLL.out; have := HL.out; omega))
    have e0 : w3.cell? ⟨fb, 0, none⟩ = some (.pointer (some ⟨qb, 0, none⟩)) ∧ w3.rangeAt g 0 p.vals := ⟨HY.out.fa.c0, r3⟩
    clear r3
    unfold ptr at HPush
    dsimp only at HPush
    refine wp_region_noPanic ?_
    refine wp_region_held_drew (S := fun W => W.cell? ⟨fb, 0, none⟩ = some (.pointer (some ⟨qb, 0, none⟩)) ∧ W.rangeAt g 0 p.vals) (by kernel_rfl) (by rw [hwd]; exact e0) (fun _ => ?_)
    rw [hwd]
    clear hwd
    refine held_take (i := 0) (v := .pointer (some ⟨fb, 0, none⟩)) (some 19) rfl rfl (by kernel_rfl) (by kernel_rfl) (by kernel_rfl) (fun _ _ _ h => h) (Or.inl ⟨by rfl, fun W hW => by go_simp⟩) e0 ?_
    simp only [Act.put, List.setIfInBounds_toArray, List.set_cons_zero, List.set_cons_succ]
    refine held_take (i := 1) (v := .pointer (some ⟨fb, 0, none⟩)) (some 20) rfl rfl (by kernel_rfl) (by kernel_rfl) (by kernel_rfl) (fun _ _ _ h => h) (Or.inl ⟨by rfl, fun W hW => by go_simp⟩) e0 ?_
    simp only [Act.put, List.setIfInBounds_toArray, List.set_cons_zero, List.set_cons_succ]
    refine held_take (i := 5) (v := .agg p.vals.toArray) (some 24) rfl rfl (by kernel_rfl) (by kernel_rfl) (by kernel_rfl) (fun _ _ _ h => h) (yieldsIf_load_mid (by rfl) 209 (.tmp 4) rfl _ _ rfl _ _ (fun W hW => hW.2) Tryz.underlying209 rfl infoPc) e0 ?_
    simp only [Act.put, List.setIfInBounds_toArray, List.set_cons_zero, List.set_cons_succ]
    refine held_take (i := 2) (v := .pointer (some ⟨fb, 0, none⟩)) (some 21) rfl rfl (by kernel_rfl) (by kernel_rfl) (by kernel_rfl) (fun _ _ _ h => h) (Or.inl ⟨by rfl, fun W hW => by go_simp⟩) e0 ?_
    simp only [Act.put, List.setIfInBounds_toArray, List.set_cons_zero, List.set_cons_succ]
    refine held_take (i := 3) (v := .pointer (some ⟨fb, 0, none⟩)) (some 22) rfl rfl (by kernel_rfl) (by kernel_rfl) (by kernel_rfl) (fun _ _ _ h => h) (Or.inl ⟨by rfl, fun W hW => by go_simp⟩) e0 ?_
    simp only [Act.put, List.setIfInBounds_toArray, List.set_cons_zero, List.set_cons_succ]
    refine held_take (i := 4) (v := .pointer (some ⟨qb, 0, none⟩)) (some 23) rfl rfl (by kernel_rfl) (by kernel_rfl) (by kernel_rfl) (fun _ _ _ h => h) (Or.inl ⟨by rfl, fun W hW => by have hc := hW.1; go_simp⟩) e0 ?_
    simp only [Act.put, List.setIfInBounds_toArray, List.set_cons_zero, List.set_cons_succ]
    refine wpAnyH_ready (rs := [6]) (by kernel_rfl) (by simp) ?_
    refine AllReadyH.cons rfl (fun K hK => ?_) AllReadyH.nil
    go_simp
    refine HPush.out.mono ?_
    rintro e w4 hp4
    obtain ⟨q, s4, rfl, hq4, ho4, hn4, e4, eq4, f4, C4, n4⟩ := HY.out.pushed HK.out hp4
    obtain ⟨fb4, qb4, v4, l4, u4, ol4⟩ := s4
    dsimp only at e4 eq4 hn4
    subst e4 eq4
    have r4 : w4.rangeAt g 0 p.vals := rangeAt_ch C4 e0.2 (fun hT => by have := (H.out.in_ hT).2; omega)
    have S4 : w4.cell? ⟨fb4, 0, none⟩ = some (.pointer (some ⟨qb4, 0, none⟩)) ∧ w4.rangeAt g 0 p.vals := ⟨f4.fa.c0, r4⟩
    have hgn : ¬ (g = fb4 ∨ u4.ownBlock = some g) := fun e => by
      rcases e with e | e
      · have : fb4 < w.heap.size := (H.out.in_ (.inl rfl)).2
        omega
      · have hT : (⟨fb4, qb4, v4, l4, u4, ol4⟩ : Sh).T g := .inr (.inr (.inl e))
        rcases n4 g hT with h | h
        · have := (H.out.in_ h).2
          omega
        · omega
    have HF4 := Lib.hid f4
    have HC4 := Lib.hid (And.intro C4 n4)
    have HQ4 := Lib.hid (And.intro ho4 hn4)
    have HT := Lib.hid (tell_any f4 q ho4 (fun g hg => (hn4 g hg).2) HN.out)
    have HKq : Hid (q.key = p.key.at x.en) := Lib.hid hq4
    have HS4 := Lib.hid C4.size
    clear hp4 f4 C4 n4 ho4 hn4 hq4 HPush r4
    dsimp only
    refine hK.out _ _ S4 (fun _ => ?_)
    clear hK
    try simp only [Act.put, List.setIfInBounds_toArray, List.set_cons_zero, List.set_cons_succ]
    refine wpAnyH_ready (rs := [7]) (by kernel_rfl) (by simp) ?_
    refine AllReadyH.cons rfl (fun K hK => ?_) AllReadyH.nil
    go_simp
    unfold ptr at HT
    dsimp only at HT
    refine HT.out.mono ?_
    rintro e w5 ⟨rfl, t5⟩
    have HL5 := Lib.hid (leftP HQ4.out.2 HC4.out.1 HC4.out.2 t5)
    rw [HKq.out] at HL5
    obtain ⟨u5, ol5, f5, C5, _, _⟩ := t5
    have S5 : w5.cell? ⟨fb4, 0, none⟩ = some (.pointer (some ⟨qb4, 0, none⟩)) ∧ w5.rangeAt g 0 p.vals := ⟨f5.fa.c0, rangeAt_ch C5 S4.2 hgn⟩
    clear f5 C5 HT
    dsimp only
    refine hK.out _ _ S5 (fun _ => ?_)
    clear hK
    try simp only [Act.put, List.setIfInBounds_toArray, List.set_cons_zero, List.set_cons_succ]
    refine wpAnyH_done (by kernel_rfl) ?_ _
    refine NoPanic.normal ?_
    obtain ⟨s5, e5, f5, C5, n5⟩ := HL5.out
    have e5' : fb4 = s5.fb := e5.symm
    have HIS := Lib.hid (fun W => is_any x.df x.dw W)
    have c8 := f5.fa.c8
    have c9 := f5.fa.c9
    rw [← e5'] at c8 c9
    have HF5 := Lib.hid f5
    have HC5 := Lib.hid (And.intro C5 n5)
    have c8' : w5.cell? ⟨fb4, 8, none⟩ = some (.int .i64 x.df) := c8
    have c9' : w5.cell? ⟨fb4, 9, none⟩ = some (.int .i64 x.dw) := c9
    have HX5 := Lib.hid e5'
    clear f5 C5 n5 e5 c8 c9 HL5 e5'
    unfold dl at HIS
    by_cases hdw : 0 < x.dw
    · rw [decide_eq_true hdw] at HIS
      go_wp2_with (first
        | (go_at_call 247; refine (HIS.out _).mono ?_; rintro e w6 ⟨rfl, b6⟩; have HB6 := Lib.hid b6; clear b6)
        | fail)
      go_end0
      refine ⟨rfl, ?_⟩
      have hsend : x.send p.key t = ((x.push p.key).tell (p.key.at x.en)) := by
        unfold F.send
        rw [if_neg hks]
        exact if_pos hdw
      rw [hsend]
      exact Left.then_ rfl HS3.out.2.1 (fun g h => .inl h) (Left.then_ HX5.out.symm HC5.out.1 HC5.out.2 (Left.same HF5.out HB6.out))
    · rw [decide_eq_false hdw] at HIS
      go_wp2_with (first
        | (go_at_call 247; refine (HIS.out _).mono ?_; rintro e w6 ⟨rfl, b6⟩; have HB6 := Lib.hid b6; have HW := Lib.hid (Wait_any (HF5.out.below b6).fa HE.out); unfold ptr1 at HW; rw [← HX5.out] at HW; clear b6)
        | (go_at_call 248; refine HW.out.mono ?_; rintro e w7 ⟨rfl, b7⟩; have HB7 := Lib.hid (below_trans HB6.out b7); have HF7 := Lib.hid (HF5.out.below HB7.out); have d8 := HF7.out.fa.c8; have d9 := HF7.out.fa.c9; have g8 := HF7.out.fa.fz 8; have g9 := HF7.out.fa.fz 9; rw [← HX5.out] at d8 d9 g8 g9; clear b7)
        | fail)
      go_end0
      refine ⟨rfl, ?_⟩
      have hsend : x.send p.key t = ((x.push p.key).tell (p.key.at x.en)).due t := by
        unfold F.send
        rw [if_neg hks]
        exact if_neg (show ¬ 0 < x.dw by omega)
      rw [hsend]
      have HD7 := HF7.out.due_ t _ rfl
      rw [← HX5.out] at HD7
      exact Left.then_ rfl HS3.out.2.1 (fun g h => .inl h) (Left.then_ HX5.out.symm HC5.out.1 HC5.out.2 (Left.then_ rfl (Ch.of_below _ HB7.out) (fun g h => .inl h) HD7))
end
theorem Fl.mono {base base' : Nat} {w : World} {s : Sh} {x : F} (h : Fl base w s x) (hb : base' ≤ base) : Fl base' w s x :=
  ⟨h.fa, Nat.le_trans hb h.lo, ⟨h.qu.obj, Nat.le_trans hb h.qu.lo, h.qu.row.mono hb, fun p hp => (h.qu.ok p hp).mono hb, h.qu.num⟩, h.ky, h.cn, h.lt, World.ownsRow.mono h.row hb, h.os, fun o ho => ⟨(h.og o ho).1.mono hb, (h.og o ho).2⟩, h.ap, h.rcv⟩
/-- A Syn. -/
def sP : Pc := { zP with syn := true }
def sK : Ky := ⟨0, true, false, 0, false, []⟩
theorem sP_ok (w : World) : PG w sP := ⟨Nat.zero_lt_succ _, ⟨by show (-9223372036854775808 : Int) ≤ 0; decide, by show (0 : Int) ≤ 9223372036854775807; decide⟩, RB.nil_ w⟩
/-- A flow that has not sent anything. -/
def F.init (i st rcv : Nat) : F := ⟨Es.zero, st, rcv, 0, 0, 0, 0, false, i, [], i, []⟩
def F.dial (i : Nat) (t : Int) : F := (F.init i 1 0).send sK t
def F.answer (i q : Nat) (t : Int) : F := (F.init i 2 (on q 1)).send sK t
/-- What a call leaves that makes a flow. -/
def MadeF (w : World) (x : F) (e : Ending) (w' : World) : Prop := ∃ s : Sh, e = .returned (ptr s.fb) ∧ Fl w.heap.size w' s x ∧ Below w.heap.size w w'
theorem Fl.fresh {w w1 : World} {qb i st rcv : Nat} (hq : ∀ base, base ≤ w.heap.size → Qu 268 base w1 qb (.slice none 0 0) [] i) (b : Below w.heap.size w w1) (hi : i < 4294967296) (hr : rcv < 4294967296) :
    Fl w.heap.size (w1.alloc (.cells ((F.init i st rcv).fc qb (.slice none 0 0)).cs 206)) ⟨w1.heap.size, qb, .slice none 0 0, [], .slice none 0 0, []⟩ (F.init i st rcv) :=
  ⟨heap_alloc_new w1 _, b.size, (hq _ (Nat.le_refl _)).below (below_a w1 _), rfl, rfl, hi, World.ownsRow_nil _ _ _ _, rfl, (fun o ho => by cases ho), (fun o ho => by cases ho), hr⟩
set_option maxHeartbeats 3200000 in
theorem begun_any (i st rcv : Nat) (t : Int) (w : World) (hi : i < 4294967296) (hr : rcv < 4294967296) (ht : isInt t) :
    Calls Tryz.prog 119 #[.int .u32 (i : Int), .int .i64 (st : Int), .int .u32 (rcv : Int), .int .i64 t] w (MadeF w ((F.init i st rcv).send sK t)) := by
  have HN := Lib.hid (New_any i w hi)
  unfold ptr at HN
  have HS := Lib.hid (fun (w1 : World) (qb : Nat) (hq : ∀ base, base ≤ w.heap.size → Qu 268 base w1 qb (.slice none 0 0) [] i) (b : Below w.heap.size w w1) =>
    send_any (Fl.fresh (st := st) hq b hi hr) sP (sP_ok _) (fun g o s' e _ => by cases e) (by decide) (by decide) (Nat.zero_le _) (Nat.zero_le _) Ok_zero t ht)
  unfold ptr at HS
  dsimp only at HS
  go_enter Tryz.func119, Tryz.ntmps119
  go_wp2_with fail
  refine HN.out.mono ?_
  rintro e w1 ⟨qb, rfl, hqb, hq, b1⟩
  clear hqb
  have HS1 := Lib.hid (HS.out w1 qb hq b1)
  have HF0 := Lib.hid (Fl.fresh (st := st) (rcv := rcv) hq b1 hi hr)
  have HB1 := Lib.hid (below_trans b1 (below_a w1 (.cells ((F.init i st rcv).fc qb (.slice none 0 0)).cs 206)))
  clear HS hq b1
  go_wp2_with fail
  refine HS1.out.mono ?_
  rintro e w2 ⟨rfl, s2, e2, f2, c2, n2⟩
  have HF2 := Lib.hid f2
  have HB2 : Hid (Below w.heap.size w w2) := Lib.hid (((Ch.of_below _ HB1.out).then_ c2).below (fun g hg hT => by have := (HF0.out.in_ hT).1; omega))
  have HE2 : Hid (w1.heap.size = s2.fb) := Lib.hid e2.symm
  clear f2 c2 n2 e2 HS1 HF0 HB1
  go_wp2_with fail
  go_ret
  exact ⟨s2, by rw [HE2.out]; rfl, HF2.out, HB2.out⟩
set_option maxHeartbeats 1600000 in
theorem Dial_any (i : Nat) (t : Int) (w : World) (hi : i < 4294967296) (ht : isInt t) : Calls Tryz.prog 72 #[.int .u32 (i : Int), .int .i64 t] w (MadeF w (F.dial i t)) := by
  have HB := Lib.hid (begun_any i 1 0 t w hi (by decide) ht)
  go_enter Tryz.func72, Tryz.ntmps72
  go_wp2_with fail
  refine HB.out.mono ?_
  rintro e w1 ⟨s, rfl, f, b⟩
  have HF := Lib.hid f
  have HB1 := Lib.hid b
  clear f b
  go_wp2_with fail
  go_ret
  exact ⟨s, rfl, HF.out, HB1.out⟩
end Go.Proofs.YtlcegchdkigibaaGreatDoor.LF

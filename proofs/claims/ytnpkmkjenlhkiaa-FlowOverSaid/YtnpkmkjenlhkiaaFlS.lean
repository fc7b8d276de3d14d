/- The contract of Kill; what a flow does that has ended. Conditions: the flow stands, with at most 2^39 to be sent. -/
import Derived.Test.YtnpkmkjenlhkiaaFlP
namespace Go.Proofs.Ytnpkmkjenlhkiaa
set_option linter.unusedVariables false
set_option linter.unusedSimpArgs false
set_option maxRecDepth 20000
open Go.RowKit Go.Lib

/-- It lets the other side know that it is reset. -/
def F.rst (x : F) (k : Ky) : F := { x with os := x.os ++ [⟨k, x.rcv, true, true⟩] }
/-- What is left of it that it resets. -/
def RstP (base : Nat) (w : World) (s : Sh) (x : F) (p : Pc) (w' : World) : Prop :=
  ∃ (u : Value) (ol : List Oc), Fl base w' { s with ov := u, ol := ol } (x.rst p.key) ∧ Ch w w' (fun g => g = s.fb ∨ s.ov.ownBlock = some g) ∧ (u.ownBlock = s.ov.ownBlock ∨ ∃ g, u.ownBlock = some g ∧ w.heap.size ≤ g) ∧ ∀ o ∈ ol, o ∈ s.ol ∨ o.p = p
/-- Its end. -/
theorem rst_done {base : Nat} {w w8 w9 : World} {fb qb : Nat} {v u u' : Value} {l : List Pc} {ol : List Oc} {x : F} {p : Pc} (h : Fl base w ⟨fb, qb, v, l, u, ol⟩ x) (hp : PO base w p) (hap : ∀ g, p.blk = some g → ¬ Qb qb v l g)
    (b8 : Below w.heap.size w w8) (r9 : w9.ownsRow base 54 9 u' (ol.length + 1) (ov ol ++ (Oc.mk p x.rcv true true).vals)) (g9 : w8.grownBy w9 u.ownBlock) (o9 : u'.ownBlock = u.ownBlock ∨ u'.ownBlock = some w8.heap.size) :
    RstP base w ⟨fb, qb, v, l, u, ol⟩ x p (w9.setCell ⟨fb, 12, none⟩ u') := by
  have h8 := h.below b8
  have p8 := hp.below b8
  have hnu : u.ownBlock ≠ some fb := h8.ne_row
  have c9 : Ch w8 w9 (fun g => u.ownBlock = some g) := Ch.grown (m := fun g => u.ownBlock = some g) (Ch.refl w8 _) g9 (fun g e _ => e)
  have cs : Ch w9 (w9.setCell ⟨fb, 12, none⟩ u') (fun g => g = fb) := ch_set w9 fb 12 u'
  have C : Ch w8 (w9.setCell ⟨fb, 12, none⟩ u') (fun g => g = fb ∨ u.ownBlock = some g) := c9.trans cs (fun _ _ e => .inr e) (fun _ _ e => .inl e)
  have hu' : u'.ownBlock ≠ some fb := fun e => by
    rcases o9 with e1 | e1
    · exact hnu (e1 ▸ e)
    · rw [e1] at e
      injection e with e
      have : fb < w8.heap.size := h8.fa.lt
      omega
  have hpb : ∀ g, p.blk = some g → ¬ (g = fb ∨ u.ownBlock = some g) := fun g hg e => by
    obtain ⟨cs, e1⟩ := p8.obj hg
    rcases e with rfl | e
    · exact absurd (two_types h8.fa e1) (by decide)
    · obtain ⟨cs', e2⟩ := ch_ownrow h8.row e
      exact absurd (two_types e2 e1) (by decide)
  refine ⟨u', ol ++ [⟨p, x.rcv, true, true⟩], ?_, (Ch.of_below _ b8).trans C (fun _ _ e => e) (fun _ _ e => e), ?_, fun o ho => ?_⟩
  · refine ⟨?_, h8.lo, h8.qu.frame C (fun g hg e => ?_), h8.ky, h8.cn, h8.lt, ?_, ?_, fun o ho => ?_, fun o ho g hg => ?_, h8.rcv⟩
    · have hf : Fa w9 fb (x.fc qb u) := h8.fa.ch c9 hnu
      exact hf.set 12 _ _ rfl
    · rcases e with e | e
      · subst e
        exact h8.ne_queue hg
      · exact h8.row_queue e hg
    · have : ov (ol ++ [⟨p, x.rcv, true, true⟩]) = ov ol ++ (Oc.mk p x.rcv true true).vals := by rw [ov_append, ov_one1]
      show World.ownsRow _ _ _ _ _ (ol ++ [_]).length _
      rw [this, List.length_append]
      exact own_ch2 r9 cs (fun g hg e => hu' (e ▸ hg))
    · show (ol ++ [_]).map Oc.key = x.os ++ _
      rw [List.map_append, show ol.map Oc.key = x.os from h8.os]
      rfl
    · rcases List.mem_append.1 ho with ho | ho
      · exact ⟨(h8.og o ho).1.ch C (fun g hg e => by rcases e with e | e; exact h8.ne_data ho (e ▸ hg); exact h8.row_data e ho hg), (h8.og o ho).2⟩
      · simp at ho
        subst ho
        exact ⟨p8.ch C hpb, h8.rcv⟩
    · rcases List.mem_append.1 ho with ho | ho
      · exact h8.ap o ho g hg
      · simp at ho
        subst ho
        exact hap g hg
  · rcases o9 with e | e
    · exact .inl e
    · exact .inr ⟨_, e, b8.size⟩
  · rcases List.mem_append.1 ho with ho | ho
    · exact .inl ho
    · simp at ho
      subst ho
      exact .inr rfl

section
variable {base : Nat} {w : World} {s : Sh} {x : F}
theorem RstP.left {p : Pc} {w' : World} (t : RstP base w s x p w') (hb : ∀ g, p.blk = some g → s.T g ∨ w.heap.size ≤ g) : Left base w s (x.rst p.key) w' := by
  obtain ⟨u, ol, f, c, n, o⟩ := t
  refine ⟨{ s with ov := u, ol := ol }, rfl, f, c.mono (fun g _ e => by rcases e with e | e; exact .inl e; exact .inr (.inr (.inl e))), fun g hg => ?_⟩
  rcases hg with e | hg | hg | ⟨q, hq, hg⟩
  · exact .inl (.inl e)
  · exact .inl (.inr (.inl hg))
  · rcases n with n | ⟨g', n, hl⟩
    · exact .inl (.inr (.inr (.inl (n ▸ hg))))
    · have hg : u.ownBlock = some g := hg
      rw [n] at hg
      injection hg with hg
      exact .inr (hg ▸ hl)
  · rcases o q hq with h | h
    · exact .inl (.inr (.inr (.inr ⟨q, h, hg⟩)))
    · exact hb g (by rw [← h]; exact hg)


def F.kill (x : F) : F := if x.st = 10 ∨ x.st = 11 then x else (x.rst (tK x.en)).fin_ 11
set_option maxHeartbeats 1600000 in
theorem Kill_dead (h : Fl base w s x) (hst : x.st = 10 ∨ x.st = 11) : Calls Try.prog 17 #[ptr s.fb] w fun e w' => e = .returned (.tuple #[]) ∧ w' = w := by
  have HE := Lib.hid (fended_any h.fa)
  rw [show decide ((x.fc s.qb s.ov).st = 10 ∨ (x.fc s.qb s.ov).st = 11) = true from decide_eq_true hst] at HE
  clear h hst
  unfold ptr at *
  go_enter Try.func17, Try.ntmps17
  go_wp2_with (first | (go_at_call 35; refine HE.out.mono ?_; rintro e w1 ⟨rfl, rfl⟩) | fail)
  refine bodyPost_ret (results_none rfl _ _ _) rfl ?_
  exact ⟨rfl, rfl⟩
set_option maxHeartbeats 3200000 in
theorem Kill_any (h : Fl base w s x) (hst : 2 ≤ x.st ∧ x.st ≤ 8) (hn : x.os.length ≤ 549755813888) : Calls Try.prog 17 #[ptr s.fb] w fun e w' => e = .returned (.tuple #[]) ∧ Left base w s ((x.rst (tK x.en)).fin_ 11) w' := by
  have HE := Lib.hid (fended_any h.fa)
  rw [show decide ((x.fc s.qb s.ov).st = 10 ∨ (x.fc s.qb s.ov).st = 11) = false from decide_eq_false (by show ¬ (x.st = 10 ∨ x.st = 11); omega)] at HE
  have HWi := Lib.hid (within_any h.fa 2 8)
  rw [show decide ((2 : Int) ≤ (x.fc s.qb s.ov).st ∧ ((x.fc s.qb s.ov).st : Int) ≤ 8) = true from decide_eq_true (by show (2 : Int) ≤ (x.st : Int) ∧ (x.st : Int) ≤ 8; omega)] at HWi
  have hos : s.ol.length = x.os.length := by rw [← h.os, List.length_map]
  obtain ⟨fb, qb, v, l, u, ol⟩ := s
  dsimp only at hos
  rw [← hos] at hn
  have H := Lib.hid h
  have HN := Lib.hid hn
  have hb := (h.in_ (.inl rfl))
  have hen := h.qu.num
  clear hn hos hst
  unfold ptr at *
  dsimp only at *
  go_enter Try.func17, Try.ntmps17
  go_wp2_with (first
    | (go_at_call 35; refine HE.out.mono ?_; rintro e w1 ⟨rfl, hw1⟩; obtain rfl : w = w1 := hw1.symm)
    | (go_at_call 36; refine HWi.out.mono ?_; rintro e w1 ⟨rfl, hw1⟩; obtain rfl : w = w1 := hw1.symm)
    | fail)
  have HFD := Lib.hid (h.below (Below.refl _ _).drew)
  have HBD := Lib.hid (Below.refl w.heap.size w).drew
  have c12 := HFD.out.fa.c12
  have c6 := HFD.out.fa.c6
  have c0 := HFD.out.fa.c0
  have HEn := Lib.hid (End_any HFD.out.qu)
  dsimp only [F.fc] at c12 c6 c0
  unfold ptr at c0 HEn
  clear h
  have hsz : w.drew.heap.size = w.heap.size := rfl
  generalize hwd : w.drew = wd at *
  generalize hrc : x.rcv = rc at *
  generalize hee : x.en = en at *
  have e0 : wd.cell? ⟨fb, 12, none⟩ = some u ∧ wd.cell? ⟨fb, 6, none⟩ = some (.int .u32 (rc : Int)) ∧ wd.cell? ⟨fb, 0, none⟩ = some (.pointer (some ⟨qb, 0, none⟩)) := ⟨c12, c6, c0⟩
  have hlt : fb < wd.heap.size := by omega
  clear c12 c6 c0
  refine wp_region_noPanic ?_
  refine until_start (fun W => W.cell? ⟨fb, 12, none⟩ = some u ∧ W.cell? ⟨fb, 6, none⟩ = some (.int .u32 (rc : Int)) ∧ W.cell? ⟨fb, 0, none⟩ = some (.pointer (some ⟨qb, 0, none⟩))) 20 (by kernel_rfl) (by rw [hwd]; exact e0) (fun _ => ?_)
  rw [hwd]
  clear hwd
  refine until_take (i := 0) (v := .pointer (some ⟨fb, 0, none⟩)) (some 10) [20] rfl rfl (by kernel_rfl) (by kernel_rfl) (by kernel_rfl) (by kernel_rfl) rfl rfl (fun _ _ _ h => h) (Or.inl ⟨by rfl, fun W hW => by go_simp⟩) e0 ?_
  simp only [Act.put, List.setIfInBounds_toArray, List.set_cons_zero, List.set_cons_succ]
  refine until_take (i := 1) (v := .pointer (some ⟨fb, 0, none⟩)) (some 11) [20] rfl rfl (by kernel_rfl) (by kernel_rfl) (by kernel_rfl) (by kernel_rfl) rfl rfl (fun _ _ _ h => h) (Or.inl ⟨by rfl, fun W hW => by go_simp⟩) e0 ?_
  simp only [Act.put, List.setIfInBounds_toArray, List.set_cons_zero, List.set_cons_succ]
  refine until_take (i := 5) (v := .pointer (some ⟨fb, 0, none⟩)) (some 15) [20] rfl rfl (by kernel_rfl) (by kernel_rfl) (by kernel_rfl) (by kernel_rfl) rfl rfl (fun _ _ _ h => h) (Or.inl ⟨by rfl, fun W hW => by go_simp⟩) e0 ?_
  simp only [Act.put, List.setIfInBounds_toArray, List.set_cons_zero, List.set_cons_succ]
  refine until_take (i := 11) (v := .pointer (some ⟨fb, 0, none⟩)) (some 21) [20] rfl rfl (by kernel_rfl) (by kernel_rfl) (by kernel_rfl) (by kernel_rfl) rfl rfl (fun _ _ _ h => h) (Or.inl ⟨by rfl, fun W hW => by go_simp⟩) e0 ?_
  simp only [Act.put, List.setIfInBounds_toArray, List.set_cons_zero, List.set_cons_succ]
  refine until_take (i := 2) (v := .pointer (some ⟨fb, 0, none⟩)) (some 12) [20] rfl rfl (by kernel_rfl) (by kernel_rfl) (by kernel_rfl) (by kernel_rfl) rfl rfl (fun _ _ _ h => h) (Or.inl ⟨by rfl, fun W hW => by go_simp⟩) e0 ?_
  simp only [Act.put, List.setIfInBounds_toArray, List.set_cons_zero, List.set_cons_succ]
  refine until_take (i := 6) (v := .pointer (some ⟨fb, 0, none⟩)) (some 16) [20] rfl rfl (by kernel_rfl) (by kernel_rfl) (by kernel_rfl) (by kernel_rfl) rfl rfl (fun _ _ _ h => h) (Or.inl ⟨by rfl, fun W hW => by go_simp⟩) e0 ?_
  simp only [Act.put, List.setIfInBounds_toArray, List.set_cons_zero, List.set_cons_succ]
  refine until_take (i := 12) (v := .pointer (some ⟨fb, 0, none⟩)) (some 22) [20] rfl rfl (by kernel_rfl) (by kernel_rfl) (by kernel_rfl) (by kernel_rfl) rfl rfl (fun _ _ _ h => h) (Or.inl ⟨by rfl, fun W hW => by go_simp⟩) e0 ?_
  simp only [Act.put, List.setIfInBounds_toArray, List.set_cons_zero, List.set_cons_succ]
  refine until_take (i := 3) (v := .pointer (some ⟨fb, 12, none⟩)) (some 13) [20] rfl rfl (by kernel_rfl) (by kernel_rfl) (by kernel_rfl) (by kernel_rfl) rfl rfl (fun _ _ _ h => h) (Or.inl ⟨by rfl, fun W hW => by go_simp⟩) e0 ?_
  simp only [Act.put, List.setIfInBounds_toArray, List.set_cons_zero, List.set_cons_succ]
  refine until_take (i := 7) (v := .pointer (some ⟨fb, 0, none⟩)) (some 17) [20] rfl rfl (by kernel_rfl) (by kernel_rfl) (by kernel_rfl) (by kernel_rfl) rfl rfl (fun _ _ _ h => h) (Or.inl ⟨by rfl, fun W hW => by go_simp⟩) e0 ?_
  simp only [Act.put, List.setIfInBounds_toArray, List.set_cons_zero, List.set_cons_succ]
  refine until_take (i := 13) (v := .pointer (some ⟨fb, 6, none⟩)) (some 23) [20] rfl rfl (by kernel_rfl) (by kernel_rfl) (by kernel_rfl) (by kernel_rfl) rfl rfl (fun _ _ _ h => h) (Or.inl ⟨by rfl, fun W hW => by go_simp⟩) e0 ?_
  simp only [Act.put, List.setIfInBounds_toArray, List.set_cons_zero, List.set_cons_succ]
  refine until_take (i := 4) (v := u) (some 14) [20] rfl rfl (by kernel_rfl) (by kernel_rfl) (by kernel_rfl) (by kernel_rfl) rfl rfl (fun _ _ _ h => h) (Or.inl ⟨by rfl, fun W hW => by have hc := hW.1; go_simp⟩) e0 ?_
  simp only [Act.put, List.setIfInBounds_toArray, List.set_cons_zero, List.set_cons_succ]
  refine until_take (i := 8) (v := .pointer (some ⟨qb, 0, none⟩)) (some 18) [20] rfl rfl (by kernel_rfl) (by kernel_rfl) (by kernel_rfl) (by kernel_rfl) rfl rfl (fun _ _ _ h => h) (Or.inl ⟨by rfl, fun W hW => by have hc := hW.2.2; go_simp⟩) e0 ?_
  simp only [Act.put, List.setIfInBounds_toArray, List.set_cons_zero, List.set_cons_succ]
  refine until_take (i := 14) (v := .int .u32 (rc : Int)) (some 24) [20] rfl rfl (by kernel_rfl) (by kernel_rfl) (by kernel_rfl) (by kernel_rfl) rfl rfl (fun _ _ _ h => h) (Or.inl ⟨by rfl, fun W hW => by have hc := hW.2.1; go_simp⟩) e0 ?_
  simp only [Act.put, List.setIfInBounds_toArray, List.set_cons_zero, List.set_cons_succ]
  refine until_step (i := 9) (by kernel_rfl) rfl rfl (fun K hK => ?_)
  go_simp
  refine HEn.out.mono ?_
  rintro e w7 ⟨rfl, hw7⟩
  obtain rfl : wd = w7 := hw7.symm
  dsimp only
  refine hK.out _ _ e0 (fun _ => ?_)
  clear hK
  try simp only [Act.put, List.setIfInBounds_toArray, List.set_cons_zero, List.set_cons_succ]
  refine until_take (i := 10) (v := .agg (tP en).vals.toArray) (some 20) [20] rfl rfl (by kernel_rfl) (by kernel_rfl) (by kernel_rfl) (by kernel_rfl) rfl rfl (fun _ _ _ h => h) (Or.inl ⟨by rfl, fun W hW => by kernel_rfl⟩) e0 ?_
  simp only [Act.put, List.setIfInBounds_toArray, List.set_cons_zero, List.set_cons_succ]
  refine until_take (i := 15) (v := .agg (Oc.mk (tP en) rc true true).vals.toArray) (some 25) [20] rfl rfl (by kernel_rfl) (by kernel_rfl) (by kernel_rfl) (by kernel_rfl) rfl rfl (fun _ _ _ h => h) (Or.inl ⟨by rfl, fun W hW => by kernel_rfl⟩) e0 ?_
  simp only [Act.put, List.setIfInBounds_toArray, List.set_cons_zero, List.set_cons_succ]
  refine until_step (i := 16) (by kernel_rfl) rfl rfl (fun K hK => ?_)
  refine step_litG (by rfl) (.tmp 25) 49 54 (Oc.mk (tP en) rc true true).vals rfl (litO _ _) rfl _ rfl ?_
  intro w8 x8 b8 t8
  have e8 : w8.cell? ⟨fb, 12, none⟩ = some u ∧ w8.cell? ⟨fb, 6, none⟩ = some (.int .u32 (rc : Int)) ∧ w8.cell? ⟨fb, 0, none⟩ = some (.pointer (some ⟨qb, 0, none⟩)) := ⟨(b8.cell hlt).trans e0.1, (b8.cell hlt).trans e0.2.1, (b8.cell hlt).trans e0.2.2⟩
  show K (Act.put _ (some 26) _) _
  refine hK.out _ _ e8 (fun _ => ?_)
  clear hK
  try simp only [Act.put, List.setIfInBounds_toArray, List.set_cons_zero, List.set_cons_succ]
  refine until_step (i := 17) (by kernel_rfl) rfl rfl (fun K hK => ?_)
  refine step_appG rfl (.tmp 14) (.tmp 26) 49 54 rfl (.agg zO.vals.toArray) 9 56 Try.underlying49 infoOc rfl (by decide) (by decide) base u ol.length (ov ol) rfl (HFD.out.below b8).row (some ⟨wd.heap.size, 0, none⟩) 1 1 (Oc.mk (tP en) rc true true).vals rfl ⟨rfl, Nat.le_refl _, by omega, oc_one _, fun _ => ⟨_, _, rfl, x8.range⟩⟩ (by have := HN.out; omega) (by have := b8.size; omega) ?_
  intro v9 w9 r9 g9 o9
  have e9 : w9.cell? ⟨fb, 12, none⟩ = some u ∧ w9.cell? ⟨fb, 6, none⟩ = some (.int .u32 (rc : Int)) ∧ w9.cell? ⟨fb, 0, none⟩ = some (.pointer (some ⟨qb, 0, none⟩)) := ⟨(g9.cell_far _ (by have := b8.size; show fb < _; omega) (fun e => (HFD.out.below b8).ne_row e.symm)).trans e8.1, (g9.cell_far _ (by have := b8.size; show fb < _; omega) (fun e => (HFD.out.below b8).ne_row e.symm)).trans e8.2.1, (g9.cell_far _ (by have := b8.size; show fb < _; omega) (fun e => (HFD.out.below b8).ne_row e.symm)).trans e8.2.2⟩
  have HD := Lib.hid (rst_done HFD.out (tP_ok hen) (fun g hg => by rw [tP_blk] at hg; cases hg) b8 (hrc ▸ r9) g9 o9)
  obtain ⟨A9, k9, rfl, hk9, hm9⟩ := own_slice r9
  generalize ol.length + 1 = n9 at *
  have c9 := e9.1
  have f9 : w9.frozen? ⟨fb, 12, none⟩ = false := (g9.frozen_far _ (by have := b8.size; show fb < _; omega) (fun e => (HFD.out.below b8).ne_row e.symm)).trans ((HFD.out.below b8).fa.fz 12)
  clear r9 g9 o9 x8 e8
  show K (Act.put _ (some 27) _) _
  refine hK.out _ _ e9 (fun _ => ?_)
  clear hK
  try simp only [Act.put, List.setIfInBounds_toArray, List.set_cons_zero, List.set_cons_succ]
  refine until_take (i := 18) (v := .pointer (some ⟨fb, 0, none⟩)) (some 28) [19, 20] rfl rfl (by kernel_rfl) (by kernel_rfl) (by kernel_rfl) (by kernel_rfl) rfl rfl (fun _ _ _ h => h) (Or.inl ⟨by rfl, fun W hW => by go_simp⟩) e9 ?_
  simp only [Act.put, List.setIfInBounds_toArray, List.set_cons_zero, List.set_cons_succ]
  refine until_take (i := 19) (v := .pointer (some ⟨fb, 12, none⟩)) (some 29) [20] rfl rfl (by kernel_rfl) (by kernel_rfl) (by kernel_rfl) (by kernel_rfl) rfl rfl (fun _ _ _ h => h) (Or.inl ⟨by rfl, fun W hW => by go_simp⟩) e9 ?_
  simp only [Act.put, List.setIfInBounds_toArray, List.set_cons_zero, List.set_cons_succ]
  refine until_last (by kernel_rfl) rfl (fun K hK => ?_)
  go_simp
  refine hK.out _ _ ?_
  clear hK
  try simp only [Act.put, List.setIfInBounds_toArray, List.set_cons_zero, List.set_cons_succ]
  refine wpAnyH_done (by kernel_rfl) ?_ _
  refine NoPanic.normal ?_
  have HL := Lib.hid (HD.out.left (fun g hg => by rw [tP_blk] at hg; cases hg))
  clear e9 c9 f9 HD
  generalize w9.setCell ⟨fb, 12, none⟩ (.slice A9 n9 k9) = w10 at *
  obtain ⟨s1, e1, f1, c1, n1⟩ := HL.out
  have e1' : fb = s1.fb := e1.symm
  have HEd := Lib.hid (end_any f1.fa 11)
  rw [← e1'] at HEd
  unfold ptr at HEd
  have HF1 := Lib.hid f1
  have HC1 := Lib.hid (And.intro e1' (And.intro c1 n1))
  clear f1 c1 n1 e1 e1' HL
  go_wp2_with (first
    | (go_at_call 38; refine HEd.out.mono ?_; rintro e w11 d11; obtain rfl := d11.1; have HLf : Hid (Left base w10 s1 ((x.rst (tP en).key).fin_ 11) w11) := Lib.hid (HF1.out.left (by rw [← HC1.out.1]; exact d11.2.1) (by rw [← HC1.out.1]; exact d11.2.2) rfl rfl rfl rfl rfl HF1.out.rcv); clear d11)
    | fail)
  go_end0
  refine ⟨rfl, ?_⟩
  rw [hee]
  exact Left.then_ rfl (Ch.of_below _ HBD.out) (fun g h => .inl h) (Left.then_ HC1.out.1.symm HC1.out.2.1 HC1.out.2.2 HLf.out)
end
end Go.Proofs.Ytnpkmkjenlhkiaa

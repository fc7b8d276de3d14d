/- The contract of the document's Push. Conditions: the queue stands, with at most 2^30 pieces; so does the piece, its data at most 2^39 bytes, apart from the queue. -/
import Derived.Test.YtkmddedfmbmgfaaOqG
namespace Go.Proofs.Ytkmddedfmbmgfaa
set_option linter.unusedVariables false
set_option linter.unusedSimpArgs false
open Go.RowKit

/-- A piece with another number and other data. -/
def Pc.of (p : Pc) (s : Nat) (A : Option Addr) (c : Nat) : Pc := { p with seq := s, dA := A, dc := c }
/-- What the document's Push leaves. -/
def PushR (t : TypeId) (base : Nat) (w : World) (qb : Nat) (v : Value) (l : List Pc) (en : Nat) (k : Ky) (e : Ending) (w' : World) : Prop :=
  ∃ (q : Pc) (v' : Value) (l' : List Pc), e = .returned (.agg q.vals.toArray) ∧ q.key = k.at en ∧ PO w.heap.size w' q ∧ Qu t base w' qb v' l' (on en (k.len : Int)) ∧
    l'.map Pc.key = l.map Pc.key ++ (if 0 < k.len then [k.at en] else []) ∧ (∀ g, Qb qb v' l' g → Qb qb v l g ∨ w.heap.size ≤ g) ∧ Ch w w' (fun k => k = qb ∨ v.ownBlock = some k)
theorem pushR_done {t : TypeId} {base : Nat} {w w12 w14 : World} {qb : Nat} {v v9 : Value} {l l' : List Pc} {en e2 : Nat} {k : Ky} {q : Pc} (H : Qu t base w qb v l en) (HQ : Qu t base w12 qb v9 l' e2) (he : on en (k.len : Int) = e2)
    (hk : l'.map Pc.key = l.map Pc.key ++ (if 0 < k.len then [k.at en] else [])) (hl : ∀ p ∈ l', p ∈ l ∨ ∀ g, p.blk = some g → w.heap.size + 2 ≤ g) (O : v9.ownBlock = v.ownBlock ∨ ∃ g, v9.ownBlock = some g ∧ w.heap.size + 2 ≤ g)
    (C : Ch w w12 (fun k => k = qb ∨ v.ownBlock = some k)) (hs : w.heap.size + 2 ≤ w12.heap.size) (hq : q.key = k.at en) (ho : PO (w.heap.size + 2) w12 q) (g14 : w12.grownBy w14 (some (w.heap.size + 1))) : PushR t base w qb v l en k (.returned (.agg q.vals.toArray)) w14 := by
  have hold : ∀ g, Qb qb v9 l' g → Qb qb v l g ∨ w.heap.size + 2 ≤ g := by
    rintro g (rfl | hg | ⟨p, hp, hg⟩)
    · exact .inl (.inl rfl)
    · rcases O with e | ⟨g', e, hlt⟩
      · exact .inl (.inr (.inl (e ▸ hg)))
      · rw [e] at hg
        injection hg with hg
        subst hg
        exact .inr hlt
    · rcases hl p hp with h | h
      · exact .inl (.inr (.inr ⟨p, h, hg⟩))
      · exact .inr (h g hg)
  have c14 : Ch w12 w14 (fun k => k = w.heap.size + 1) := Ch.grown (m := fun k => k = w.heap.size + 1) (Ch.refl w12 _) g14 (fun k e _ => by injection e with e; exact e.symm)
  refine ⟨q, v9, l', rfl, hq, (ho.kept g14 ?_).mono (by omega), ?_, hk, fun g hg => ?_, ?_⟩
  · cases hb : q.blk with
    | none => exact .inl rfl
    | some g => exact .inr fun e => by injection e with e; have := (ho.lt hb).1; omega
  · rw [he]
    refine HQ.frame c14 fun g hg e => ?_
    rcases hold g hg with h | h
    · have := (H.in_ h).2
      omega
    · omega
  · rcases hold g hg with h | h
    · exact .inl h
    · exact .inr (by omega)
  · exact C.trans (m' := fun k => k = w.heap.size + 1) c14 (fun _ _ h => h) (fun x hx e => by omega)

section
variable {base : Nat} {w : World} {qb : Nat} {v : Value} {l : List Pc} {en : Nat}
set_option maxRecDepth 20000 in
set_option maxHeartbeats 3200000 in
theorem Push_ref (h : Qu 30 base w qb v l en) (p : Pc) (hp : PG w p) (hd : p.dn ≤ 549755813888) (hl : l.length ≤ 1073741824) :
    Calls Try.prog 10 #[ptr qb, .agg p.vals.toArray] w (PushR 30 base w qb v l en p.key) := by
  have H := Lib.hid h
  have HP := Lib.hid hp
  have HD := Lib.hid hd
  have HL := Lib.hid hl
  have hlt := h.lt
  have c1 := h.c1
  have hln := len_pc hp
  have hcp := hp.data.cap
  have hmx := hp.data.max
  have h40 : p.dn ≤ 1099511627776 := by omega
  have HLEN : Hid (p.key.len ≤ 1099511627778) := Lib.hid (by rw [hln]; unfold bn; split <;> split <;> omega)
  clear h hp hd hl hln
  unfold ptr
  go_enter Try.func10, Try.ntmps10
  go_wp2_with (first
    | ((with_reducible refine wpList_here ?_); refine wpList_boxV (o := ⟨some 3, _, _, _, _, _⟩) rfl 33 (.tmp 1) rfl p.vals rfl _ rfl ?_; intro w1 z1 b1 s1)
    | ((with_reducible refine wpList_here ?_); refine wpList_allocV (o := ⟨some 4, _, _, _, _, _⟩) rfl 33 rfl zP.vals zeroPc _ s1 ?_; intro w2 z2 b2 s2; have z3 := z1.below b2; have b3 := below_trans b1 b2; have d1 : w2.cell? ⟨qb, 1, none⟩ = some (.int .u32 (en : Int)) := (b3.cell hlt).trans c1)
    | ((with_reducible refine wpList_here ?_); refine wpList_setV rfl 22 (.tmp 10) (.tmp 9) rfl _ 0 p.vals (.int .u32 (en : Int)) rfl rfl z3 (by rw [p.vals_length]; omega) rfl sizeU32 ?_; intro w4 z4 g4 s4; have z5 : Own w4 w.heap.size (p.at en).vals := z4; have y5 := z2.far g4 (by intro e; injection e with e; omega); have b5 := v_below_g b3 g4 b3.size (Nat.le_refl _); have HQ5 := Lib.hid (H.out.below b5); have r5 := HP.out.data.below b5; have k5 : w4.cell? ⟨w.heap.size, 3, none⟩ = some (.slice p.dA p.dn p.dc) := (z5 3 (by rw [Pc.vals_length]; omega)).1; clear z4 g4 z2 z3)
    | (at_builtin; refine wpList_app_nil rfl (.tmp 11) (.tmp 13) 31 5 rfl Try.underlying31 infoByte rfl p.dA p.dn p.dc p.ds rfl r5 h40 ?_; intro A6 c6 w6 r6 o6 b6; have z6 := z5.below b6; have y6 := y5.below b6; have HQ6 := Lib.hid (HQ5.out.below b6); have B6 := Lib.hid (And.intro (b5.trans (b6.mono b5.size)) b6.size); have O6 := Lib.hid o6; clear z5 y5 r5 r6 o6 b6 k5 HQ5)
    | ((with_reducible refine wpList_here ?_); refine wpList_setV rfl 31 (.tmp 16) (.tmp 15) rfl _ 3 (p.at en).vals (.slice A6 p.dn c6) rfl rfl z6 (by rw [Pc.vals_length]; omega) rfl sizeSl ?_; intro w7 z7 g7 s7; have z8 : Own w7 w.heap.size (p.of en A6 c6).vals := z7; have y8 := y6.far g7 (by intro e; injection e with e; omega); clear z7 z6 y6)
    | ((with_reducible refine wpList_here ?_); refine wpList_loadV (o := ⟨some 17, _, _, _, _, _⟩) rfl 33 (.tmp 3) rfl _ _ _ rfl z8.range _ Try.underlying33 rfl infoPc ?_))
  have B7 : Hid (Below w.heap.size w w7) := Lib.hid (v_below_g B6.out.1 g7 B6.out.1.size (Nat.le_refl _))
  have HQ7 : Hid (Qu 30 base w7 qb v l en) := Lib.hid (H.out.below B7.out)
  have hs7 : w.heap.size + 2 ≤ w7.heap.size := by have := B6.out.2; have := g7.size; omega
  have HO7 : Hid (PO (w.heap.size + 2) w7 (p.of en A6 c6)) := Lib.hid (PO.past (w := w6) ⟨H.out.num, HP.out.dsn, own_mono O6.out (by omega)⟩ g7 (by omega))
  have HKP : Hid ((p.of en A6 c6).key = p.key.at en) := Lib.hid rfl
  have HLP : Hid ((p.of en A6 c6).dn ≤ 1099511627776) := Lib.hid h40
  have hlk : (p.of en A6 c6).key.len = p.key.len := rfl
  clear O6 B6 HQ6 g7 z1 b1 b2 d1 c1 b3 b5
  generalize p.of en A6 c6 = p2 at *
  refine (rLong_any p2 _ HO7.out.pg HLP.out).mono ?_
  rintro e w9 ⟨rfl, b9⟩
  rw [hlk]
  have z9 := z8.below b9
  have y9 := y8.below b9
  have HQ9 := Lib.hid (HQ7.out.below b9)
  have HO9 := Lib.hid (HO7.out.below b9)
  have B9 := Lib.hid (B7.out.trans (b9.mono B7.out.size))
  have hs9 : w.heap.size + 2 ≤ w9.heap.size := by have := b9.size; omega
  clear z8 y8 HQ7 HO7 B7 b9
  by_cases hpos : 0 < p.key.len
  · have hpi : (0 : Int) < (p.key.len : Int) := by omega
    go_wp2_with fail
    have d9 : Below w9.heap.size w9 w9.drew := (Below.refl _ _).drew
    have HQ7 := Lib.hid (HQ9.out.below d9)
    have HO7 := Lib.hid (HO9.out.below d9)
    have B7 := Lib.hid B9.out.drew
    have hs7 : w.heap.size + 2 ≤ w9.drew.heap.size := hs9
    have z7 := z9.below d9
    have y7 := y9.below d9
    clear z9 y9 HQ9 HO9 B9 hs9 d9
    generalize hwd : w9.drew = wd at *
    have c0 := HQ7.out.c0
    have r7 := z7.range
    refine wp_region_noPanic ?_
    refine until_start (fun W => W.cell? ⟨qb, 0, none⟩ = some v ∧ W.rangeAt w.heap.size 0 p2.vals) 10 (by kernel_rfl) (by rw [hwd]; exact ⟨c0, r7⟩) (fun _ => ?_)
    rw [hwd]
    clear hwd
    refine until_take (i := 0) (v := .pointer (some ⟨qb, 0, none⟩)) (some 20) [10] rfl rfl (by kernel_rfl) (by kernel_rfl) (by kernel_rfl) (by kernel_rfl) rfl rfl (fun _ _ _ h => h) (Or.inl ⟨by rfl, fun W hW => by go_simp⟩) ⟨c0, r7⟩ ?_
    simp only [Act.put, List.setIfInBounds_toArray, List.set_cons_zero, List.set_cons_succ]
    refine until_take (i := 1) (v := .pointer (some ⟨qb, 0, none⟩)) (some 21) [10] rfl rfl (by kernel_rfl) (by kernel_rfl) (by kernel_rfl) (by kernel_rfl) rfl rfl (fun _ _ _ h => h) (Or.inl ⟨by rfl, fun W hW => by go_simp⟩) ⟨c0, r7⟩ ?_
    simp only [Act.put, List.setIfInBounds_toArray, List.set_cons_zero, List.set_cons_succ]
    refine until_take (i := 5) (v := .agg p2.vals.toArray) (some 25) [10] rfl rfl (by kernel_rfl) (by kernel_rfl) (by kernel_rfl) (by kernel_rfl) rfl rfl (fun _ _ _ h => h) (yieldsIf_load_mid (by rfl) 33 (.tmp 3) rfl _ _ rfl _ _ (fun W hW => hW.2) Try.underlying33 rfl infoPc) ⟨c0, r7⟩ ?_
    simp only [Act.put, List.setIfInBounds_toArray, List.set_cons_zero, List.set_cons_succ]
    refine until_take (i := 2) (v := .pointer (some ⟨qb, 0, none⟩)) (some 22) [10] rfl rfl (by kernel_rfl) (by kernel_rfl) (by kernel_rfl) (by kernel_rfl) rfl rfl (fun _ _ _ h => h) (Or.inl ⟨by rfl, fun W hW => by go_simp⟩) ⟨c0, r7⟩ ?_
    simp only [Act.put, List.setIfInBounds_toArray, List.set_cons_zero, List.set_cons_succ]
    refine until_take (i := 3) (v := .pointer (some ⟨qb, 0, none⟩)) (some 23) [10] rfl rfl (by kernel_rfl) (by kernel_rfl) (by kernel_rfl) (by kernel_rfl) rfl rfl (fun _ _ _ h => h) (Or.inl ⟨by rfl, fun W hW => by go_simp⟩) ⟨c0, r7⟩ ?_
    simp only [Act.put, List.setIfInBounds_toArray, List.set_cons_zero, List.set_cons_succ]
    refine until_take (i := 4) (v := v) (some 24) [10] rfl rfl (by kernel_rfl) (by kernel_rfl) (by kernel_rfl) (by kernel_rfl) rfl rfl (fun _ _ _ h => h) (Or.inl ⟨by rfl, fun W hW => by have hc := hW.1; go_simp⟩) ⟨c0, r7⟩ ?_
    simp only [Act.put, List.setIfInBounds_toArray, List.set_cons_zero, List.set_cons_succ]
    refine until_step (i := 6) (by kernel_rfl) rfl rfl (fun K hK => ?_)
    refine step_litP (by rfl) (.tmp 25) rfl p2 rfl _ rfl ?_
    intro w8 x8 b8 t8
    have e8 : w8.cell? ⟨qb, 0, none⟩ = some v ∧ w8.rangeAt w.heap.size 0 p2.vals := ⟨(HQ7.out.below b8).c0, (z7.below b8).range⟩
    show K (Act.put _ (some 26) _) _
    refine hK.out _ _ e8 (fun _ => ?_)
    clear hK
    try simp only [Act.put, List.setIfInBounds_toArray, List.set_cons_zero, List.set_cons_succ]
    refine until_step (i := 7) (by kernel_rfl) rfl rfl (fun K hK => ?_)
    refine step_appR rfl (.tmp 24) (.tmp 26) rfl base v l rfl (HQ7.out.row.below b8) wd.heap.size 1 p2 rfl x8.range (by have := HL.out; omega) (by have := (HQ7.out.in_ (.inl rfl)); have := b8.size; omega) ?_
    intro v9 w9 r9 g9 o9
    have HA9 := Lib.hid (app_frame (HQ7.out.below b8) (by decide) r9 g9 ((HO7.out.below b8).mono (show base ≤ w.heap.size + 2 by have := H.out.lo; omega)))
    have HO9 : Hid (PO (w.heap.size + 2) w9 p2) := Lib.hid ((HO7.out.below b8).beside (HQ7.out.row.below b8) g9)
    have z9 := (z7.below b8).far g9 (fun e => by have := (H.out.row.in_ e.symm).2; omega)
    have e9 : w9.cell? ⟨qb, 0, none⟩ = some v ∧ w9.rangeAt w.heap.size 0 p2.vals := ⟨HA9.out.c0, z9.range⟩
    have y9 := (y7.below b8).far g9 (fun e => by have := (H.out.row.in_ e.symm).2; omega)
    have C9 := Lib.hid (Ch.grown (m := fun k => k = qb ∨ v.ownBlock = some k) (Ch.of_below _ (B7.out.trans (b8.mono (show w.heap.size ≤ wd.heap.size by omega)))) g9 (fun k e _ => .inr e))
    have S9 : Hid (w.heap.size + 2 ≤ w8.heap.size ∧ w8.heap.size ≤ w9.heap.size) := Lib.hid ⟨by have := b8.size; omega, g9.size⟩
    obtain ⟨A9, k9, rfl, _, _⟩ := r9.slice
    generalize (l ++ [p2]).length = n9 at *
    have c9 := HA9.out.c0
    have f9 := HA9.out.f 0
    have O9 := Lib.hid o9
    clear r9 g9 o9 x8 e8 z7 y7
    show K (Act.put _ (some 27) _) _
    refine hK.out _ _ e9 (fun _ => ?_)
    clear hK
    try simp only [Act.put, List.setIfInBounds_toArray, List.set_cons_zero, List.set_cons_succ]
    refine until_take (i := 8) (v := .pointer (some ⟨qb, 0, none⟩)) (some 28) [9, 10] rfl rfl (by kernel_rfl) (by kernel_rfl) (by kernel_rfl) (by kernel_rfl) rfl rfl (fun _ _ _ h => h) (Or.inl ⟨by rfl, fun W hW => by go_simp⟩) e9 ?_
    simp only [Act.put, List.setIfInBounds_toArray, List.set_cons_zero, List.set_cons_succ]
    refine until_take (i := 9) (v := .pointer (some ⟨qb, 0, none⟩)) (some 29) [10] rfl rfl (by kernel_rfl) (by kernel_rfl) (by kernel_rfl) (by kernel_rfl) rfl rfl (fun _ _ _ h => h) (Or.inl ⟨by rfl, fun W hW => by go_simp⟩) e9 ?_
    simp only [Act.put, List.setIfInBounds_toArray, List.set_cons_zero, List.set_cons_succ]
    refine until_last (by kernel_rfl) rfl (fun K hK => ?_)
    go_simp
    have HQX := Lib.hid (HA9.out.store (by decide) (by decide))
    have g10 : w9.grownBy (w9.setCell ⟨qb, 0, none⟩ (.slice A9 n9 k9)) (some qb) := v_g_set _ _ _ _
    have HO10 : Hid (PO (w.heap.size + 2) (w9.setCell ⟨qb, 0, none⟩ (.slice A9 n9 k9)) p2) := Lib.hid (HO9.out.past g10 (by omega))
    have z10 := z9.far g10 (fun e => by injection e with e; omega)
    have y10 := y9.far g10 (fun e => by injection e with e; omega)
    have C10 := Lib.hid (Ch.setCell (m := fun k => k = qb ∨ v.ownBlock = some k) C9.out (p := ⟨qb, 0, none⟩) (fun _ => .inl rfl) (.slice A9 n9 k9))
    have S10 := Lib.hid g10.size
    clear g10 z9 y9 C9 HA9 HO9 c9 f9 e9 c0 r7 HQ7 HO7 B7 hs7
    generalize w9.setCell ⟨qb, 0, none⟩ (.slice A9 n9 k9) = w10 at *
    refine hK.out _ _ ?_
    clear hK
    try simp only [Act.put, List.setIfInBounds_toArray, List.set_cons_zero, List.set_cons_succ]
    refine wpAnyH_done (by kernel_rfl) ?_ _
    refine NoPanic.normal ?_
    go_wp2_with fail
    have d11 : Below w10.heap.size w10 w10.drew := (Below.refl _ _).drew
    have HQ11 := Lib.hid (HQX.out.below d11)
    have HO11 := Lib.hid (HO10.out.below d11)
    have C11 := Lib.hid C10.out.drew
    have hs11 : w.heap.size + 2 ≤ w10.drew.heap.size := by have := S10.out; have := S9.out; show _ ≤ w10.heap.size; omega
    have z11 := z10.below d11
    have y11 := y10.below d11
    clear z10 y10 HQX HO10 C10 d11
    generalize hwe : w10.drew = we at *
    have c11 := HQ11.out.c1
    have r11 := z11.range
    have HON := Lib.hid (fun W => rOn_any en (p.key.len : Int) W HQ11.out.num (by have := HLEN.out; omega))
    have HLG := Lib.hid (fun W (hW : PG W p2) => rLong_any p2 W hW HLP.out)
    rw [hlk] at HLG
    generalize hon : on en (p.key.len : Int) = e2 at *
    have HE2 : Hid (e2 < 4294967296) := Lib.hid (by rw [← hon]; exact on_lt _ _)
    have HEQ := Lib.hid hon
    clear hon
    refine wp_region_noPanic ?_
    refine until_start (fun W => W.cell? ⟨qb, 1, none⟩ = some (.int .u32 (en : Int)) ∧ W.rangeAt w.heap.size 0 p2.vals) 10 (by kernel_rfl) (by rw [hwe]; exact ⟨c11, r11⟩) (fun _ => ?_)
    rw [hwe]
    clear hwe
    refine until_take (i := 0) (v := .pointer (some ⟨qb, 0, none⟩)) (some 30) [10] rfl rfl (by kernel_rfl) (by kernel_rfl) (by kernel_rfl) (by kernel_rfl) rfl rfl (fun _ _ _ h => h) (Or.inl ⟨by rfl, fun W hW => by go_simp⟩) ⟨c11, r11⟩ ?_
    simp only [Act.put, List.setIfInBounds_toArray, List.set_cons_zero, List.set_cons_succ]
    refine until_take (i := 1) (v := .pointer (some ⟨qb, 0, none⟩)) (some 31) [10] rfl rfl (by kernel_rfl) (by kernel_rfl) (by kernel_rfl) (by kernel_rfl) rfl rfl (fun _ _ _ h => h) (Or.inl ⟨by rfl, fun W hW => by go_simp⟩) ⟨c11, r11⟩ ?_
    simp only [Act.put, List.setIfInBounds_toArray, List.set_cons_zero, List.set_cons_succ]
    refine until_take (i := 5) (v := .agg p2.vals.toArray) (some 35) [10] rfl rfl (by kernel_rfl) (by kernel_rfl) (by kernel_rfl) (by kernel_rfl) rfl rfl (fun _ _ _ h => h) (yieldsIf_load_mid (by rfl) 33 (.tmp 3) rfl _ _ rfl _ _ (fun W hW => hW.2) Try.underlying33 rfl infoPc) ⟨c11, r11⟩ ?_
    simp only [Act.put, List.setIfInBounds_toArray, List.set_cons_zero, List.set_cons_succ]
    refine until_take (i := 2) (v := .pointer (some ⟨qb, 0, none⟩)) (some 32) [10] rfl rfl (by kernel_rfl) (by kernel_rfl) (by kernel_rfl) (by kernel_rfl) rfl rfl (fun _ _ _ h => h) (Or.inl ⟨by rfl, fun W hW => by go_simp⟩) ⟨c11, r11⟩ ?_
    simp only [Act.put, List.setIfInBounds_toArray, List.set_cons_zero, List.set_cons_succ]
    refine until_take (i := 3) (v := .pointer (some ⟨qb, 1, none⟩)) (some 33) [10] rfl rfl (by kernel_rfl) (by kernel_rfl) (by kernel_rfl) (by kernel_rfl) rfl rfl (fun _ _ _ h => h) (Or.inl ⟨by rfl, fun W hW => by go_simp⟩) ⟨c11, r11⟩ ?_
    simp only [Act.put, List.setIfInBounds_toArray, List.set_cons_zero, List.set_cons_succ]
    refine until_take (i := 4) (v := .int .u32 (en : Int)) (some 34) [10] rfl rfl (by kernel_rfl) (by kernel_rfl) (by kernel_rfl) (by kernel_rfl) rfl rfl (fun _ _ _ h => h) (Or.inl ⟨by rfl, fun W hW => by have hc := hW.1; go_simp⟩) ⟨c11, r11⟩ ?_
    simp only [Act.put, List.setIfInBounds_toArray, List.set_cons_zero, List.set_cons_succ]
    refine until_step (i := 6) (by kernel_rfl) rfl rfl (fun K hK => ?_)
    go_simp
    refine (HLG.out _ HO11.out.pg).mono ?_
    rintro e w12 ⟨rfl, b12⟩
    have HQ12 := Lib.hid (HQ11.out.below b12)
    have HO12 := Lib.hid (HO11.out.below b12)
    have z12 := z11.below b12
    have y12 := y11.below b12
    have C12 := Lib.hid (C11.out.then_ (Ch.of_below _ b12))
    have S12 : Hid (w.heap.size + 2 ≤ w12.heap.size) := Lib.hid (by have := b12.size; omega)
    have e12 : w12.cell? ⟨qb, 1, none⟩ = some (.int .u32 (en : Int)) ∧ w12.rangeAt w.heap.size 0 p2.vals := ⟨HQ12.out.c1, z12.range⟩
    clear b12 z11 y11 c11 r11 HQ11 HO11 C11 hs11 HLG
    dsimp only
    refine hK.out _ _ e12 (fun _ => ?_)
    clear hK
    try simp only [Act.put, List.setIfInBounds_toArray, List.set_cons_zero, List.set_cons_succ]
    refine until_step (i := 7) (by kernel_rfl) rfl rfl (fun K hK => ?_)
    go_simp
    refine (HON.out _).mono ?_
    rintro e w13 ⟨rfl, b13⟩
    have HQ13 := Lib.hid (HQ12.out.below b13)
    have HO13 := Lib.hid (HO12.out.below b13)
    have z13 := z12.below b13
    have y13 := y12.below b13
    have C13 := Lib.hid (C12.out.then_ (Ch.of_below _ b13))
    have S13 : Hid (w.heap.size + 2 ≤ w13.heap.size) := Lib.hid (by have := S12.out; have := b13.size; omega)
    have e13 : w13.cell? ⟨qb, 1, none⟩ = some (.int .u32 (en : Int)) ∧ w13.rangeAt w.heap.size 0 p2.vals := ⟨HQ13.out.c1, z13.range⟩
    have c13 := HQ13.out.c1
    have f13 := HQ13.out.f 1
    clear b13 z12 y12 HQ12 HO12 C12 S12 HON e12
    dsimp only
    refine hK.out _ _ e13 (fun _ => ?_)
    clear hK
    try simp only [Act.put, List.setIfInBounds_toArray, List.set_cons_zero, List.set_cons_succ]
    refine until_take (i := 8) (v := .pointer (some ⟨qb, 0, none⟩)) (some 38) [9, 10] rfl rfl (by kernel_rfl) (by kernel_rfl) (by kernel_rfl) (by kernel_rfl) rfl rfl (fun _ _ _ h => h) (Or.inl ⟨by rfl, fun W hW => by go_simp⟩) e13 ?_
    simp only [Act.put, List.setIfInBounds_toArray, List.set_cons_zero, List.set_cons_succ]
    refine until_take (i := 9) (v := .pointer (some ⟨qb, 1, none⟩)) (some 39) [10] rfl rfl (by kernel_rfl) (by kernel_rfl) (by kernel_rfl) (by kernel_rfl) rfl rfl (fun _ _ _ h => h) (Or.inl ⟨by rfl, fun W hW => by go_simp⟩) e13 ?_
    simp only [Act.put, List.setIfInBounds_toArray, List.set_cons_zero, List.set_cons_succ]
    refine until_last (by kernel_rfl) rfl (fun K hK => ?_)
    go_simp
    have HQ16 := Lib.hid (HQ13.out.store1 (by decide) (by decide) HE2.out)
    have g16 : w13.grownBy (w13.setCell ⟨qb, 1, none⟩ (.int .u32 (e2 : Int))) (some qb) := v_g_set _ _ _ _
    have HO16 : Hid (PO (w.heap.size + 2) (w13.setCell ⟨qb, 1, none⟩ (.int .u32 (e2 : Int))) p2) := Lib.hid (HO13.out.past g16 (by omega))
    have z16 := z13.far g16 (fun e => by injection e with e; omega)
    have y16 := y13.far g16 (fun e => by injection e with e; omega)
    have C16 := Lib.hid (Ch.setCell (m := fun k => k = qb ∨ v.ownBlock = some k) C13.out (p := ⟨qb, 1, none⟩) (fun _ => .inl rfl) (.int .u32 (e2 : Int)))
    have S16 : Hid (w.heap.size + 2 ≤ (w13.setCell ⟨qb, 1, none⟩ (.int .u32 (e2 : Int))).heap.size) := Lib.hid (by have := S13.out; have := g16.size; omega)
    clear g16 z13 y13 C13 HQ13 HO13 S13 c13 f13 e13
    generalize w13.setCell ⟨qb, 1, none⟩ (.int .u32 (e2 : Int)) = w16 at *
    refine hK.out _ _ ?_
    clear hK
    try simp only [Act.put, List.setIfInBounds_toArray, List.set_cons_zero, List.set_cons_succ]
    refine wpAnyH_done (by kernel_rfl) ?_ _
    refine NoPanic.normal ?_
    go_wp2_with (first
      | ((with_reducible refine wpList_here ?_); refine wpList_loadV (o := ⟨some 40, _, _, _, _, _⟩) rfl 33 (.tmp 3) rfl _ _ _ rfl z16.range _ Try.underlying33 rfl infoPc ?_)
      | ((with_reducible refine wpList_here ?_); refine wpList_storeV rfl 33 (.tmp 4) (.tmp 40) rfl _ _ p2.vals rfl rfl y16 rfl (pc_one _) infoPc ?_; intro w17 z17 g17 s17))
    refine bodyPost_ret (results_c0 rfl _ _ (w.heap.size + 1) _ _ rfl z17.range Try.underlying33 rfl infoPc) rfl ?_
    refine pushR_done (l' := l ++ [p2]) H.out HQ16.out HEQ.out ?_ (fun x hx => ?_) ?_ C16.out S16.out HKP.out HO16.out g17
    · rw [List.map_append, if_pos hpos]
      show _ ++ [p2.key] = _
      rw [HKP.out]
    · rcases List.mem_append.1 hx with hx | hx
      · exact .inl hx
      · simp at hx
        subst hx
        exact .inr fun g hg => (HO16.out.lt hg).1
    · rcases O9.out with e | e
      · exact .inl e
      · exact .inr ⟨_, e, by have := S9.out; omega⟩
  · have hpi : decide ((0 : Int) < (p.key.len : Int)) = false := decide_eq_false (by omega)
    go_wp2_with (first
      | ((with_reducible refine wpList_here ?_); refine wpList_loadV (o := ⟨some 40, _, _, _, _, _⟩) rfl 33 (.tmp 3) rfl _ _ _ rfl z9.range _ Try.underlying33 rfl infoPc ?_)
      | ((with_reducible refine wpList_here ?_); refine wpList_storeV rfl 33 (.tmp 4) (.tmp 40) rfl _ _ p2.vals rfl rfl y9 rfl (pc_one _) infoPc ?_; intro w10 z10 g10 s10))
    refine bodyPost_ret (results_c0 rfl _ _ (w.heap.size + 1) _ _ rfl z10.range Try.underlying33 rfl infoPc) rfl ?_
    have hk0 : p.key.len = 0 := by omega
    exact pushR_done (l' := l) H.out HQ9.out (by rw [hk0]; exact on_zero H.out.num) (by rw [if_neg hpos, List.append_nil]) (fun x hx => .inl hx) (.inl rfl) (Ch.of_below _ B9.out) hs9 HKP.out HO9.out g10
end
end Go.Proofs.Ytkmddedfmbmgfaa

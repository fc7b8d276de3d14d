/- A sender's Write. Conditions: the sender stands, with at most 10^9 data in all; bytes of at most 2^39. -/
import Derived.Test.YtgcblajhdebigaaDsC
import Derived.Test.YtgcblajhdebigaaStepA
namespace Go.Proofs.Ytgcblajhdebigaa
set_option linter.unusedVariables false
set_option linter.unusedSimpArgs false
open Go.RowKit Go.Lib

section
variable {P : Program} {ops : Array Oper} {rest : List Oper} {o : Oper} {a : Act} {w : World} {Q : Exit → Act → World → Prop}
theorem wpList_want (hw : Region.wanted o (yielded ops a.tmps) = true) (h : ∀ K : Act → World → Prop, (∀ a w, wpList P ops Q rest a w → K a w) → o.wp P a w K Q) : wpList P ops Q (o :: rest) a w :=
  wpList_step fun K hK => by rw [if_pos hw]; exact h K hK
end
/-- One cell stored, wherever it lies. -/
theorem wpList_setC {P : Program} {ops : Array Oper} {rest : List Oper} {o : Oper} {a : Act} {w : World} {Q : Exit → Act → World → Prop} (hgd : Region.wanted o (yielded ops a.tmps) = true) (ty : TypeId) (x y : Operand) (ho : o.op = .store ty x y) (b k : Nat) (u v : Value) (hx : a.eval x = .pointer (some ⟨b, k, none⟩)) (hy : a.eval y = v) (hc : w.cell? ⟨b, k, none⟩ = some u) (hf : w.frozen? ⟨b, k, none⟩ = false)
    (h1 : v.oneCell' = true) (hi : (P.info? ty).map (·.size) = some 1) (h : wpList P ops Q rest (a.put o.dst undef) (w.setCell ⟨b, k, none⟩ v)) : wpList P ops Q (o :: rest) a w := by
  refine wpList_want hgd fun K hK => ?_
  have := run_storeCells_cells (P := P) b k [v] 0 w (fun j hj => by simp at hj; subst hj; simp [hc]) (fun j hj => by simp at hj; subst hj; simpa using hf) (fun u hu => by simp at hu; subst hu; exact h1)
  simp only [Nat.add_zero] at this
  have hvc : v.cells = #[v] := by cases v <;> first | rfl | cases h1
  have hrun : (storeVar ty ⟨b, k, none⟩ v).run P w = .ok () (w.setCells b k [v]) := by
    cases hq : P.info? ty with
    | none => simp [hq] at hi
    | some i =>
      have hs : i.size = 1 := by simpa [hq] using hi
      simp [storeVar, sizeOf, typeInfo, hq, hvc, hs, this]
  unfold Oper.wp execOp
  simp only [ho, hx, hy, Instr.storeAt, Instr.sureAddr, Sem.run_bind, Sem.run_pure, Result.andThen_ok, hrun]
  exact hK _ _ h

def Dq.wN (d : Dq) (n : Nat) : Nat := if d.told then 0 else min n d.room_
def Dq.wE (d : Dq) (n : Nat) : Int := if d.told then 11 else if d.room_ = 0 ∧ 0 < n then 7 else 0
def Dq.wrote (d : Dq) (b : List UInt8) : Dq := if d.told then d else d.put (min b.length d.room_) b
theorem Dq.put_zero (d : Dq) (b : List UInt8) : d.put 0 b = d := by
  unfold Dq.put
  rw [List.take_zero, List.append_nil]
def WriteP (base : Nat) (w : World) (sb : Nat) (z : Sh) (d : Dq) (n : Nat) (b : List UInt8) (e : Ending) (w' : World) : Prop :=
  e = .returned (.tuple #[.int .i64 (d.wN n : Int), .int .i64 (d.wE n)]) ∧ ∃ z', Left base w sb z (d.wrote b) w' z'

section
variable {base : Nat} {w : World} {sb : Nat} {z : Sh} {d : Dq}
theorem Dq.put_held (H : Sd base w sb z d) {k : Nat} {b : List UInt8} (hkb : k ≤ b.length) : (d.put k b).held = d.held + k ∧ (d.put k b).all.drop ((d.put k b).una - 1) = d.all.drop (d.una - 1) ++ b.take k ∧ (d.put k b).fin = d.fin + k := by
  have hn := H.nums
  refine ⟨?_, ?_, ?_⟩
  · unfold Dq.fin at hn
    unfold Dq.held Dq.fin Dq.put at *
    simp only [List.length_append, List.length_take]
    omega
  · unfold Dq.fin at hn
    show (d.all ++ b.take k).drop (d.una - 1) = _
    exact List.drop_append_of_le_length (by omega)
  · unfold Dq.fin Dq.put
    simp only [List.length_append, List.length_take]
    omega
theorem write_done (H : Sd base w sb z d) {k : Nat} {b : List UInt8} {v9 : Value} {w9 : World} (hk : k ≤ d.room_) (hkb : k ≤ b.length) (hc : d.fin + k ≤ 1073741824) (r9 : w9.ownsRow base 5 1 v9 (d.held + k) (bv (d.all.drop (d.una - 1) ++ b.take k)))
    (c9 : Ch w w9 (fun g => z.dv.ownBlock = some g)) (o9 : v9.ownBlock = z.dv.ownBlock ∨ v9.ownBlock = some w.heap.size) : Left base w sb z (d.put k b) (w9.setCell ⟨sb, 1, none⟩ v9) { z with dv := v9 } := by
  obtain ⟨e1, e2, e3⟩ := Dq.put_held H hkb
  obtain ⟨a1, a2, a3, a4, a5⟩ := H.apart
  have hlt := H.lt
  have hb9 := (c9.block sb hlt a2).trans H.blk
  have cs : Ch w9 (w9.setCell ⟨sb, 1, none⟩ v9) (fun k => k = sb) := Ch.setCell (m := fun k => k = sb) (Ch.refl w9 _) (fun _ => rfl) _
  have c : Ch w (w9.setCell ⟨sb, 1, none⟩ v9) (fun k => k = sb ∨ z.dv.ownBlock = some k) := c9.trans cs (fun _ _ e => .inr e) (fun _ _ e => .inl e)
  have ov : v9.ownBlock ≠ some sb := fun e => by
    rcases o9 with o9 | o9
    · exact a2 (o9 ▸ e)
    · rw [o9] at e
      injection e with e
      omega
  refine ⟨H.upd (blk_set hb9 1 v9) c H.ls ?_ (H.ok.put b hk) (by rw [e3]; exact hc) H.ecap, c.mono fun x hx e => e.elim .inl (fun e => .inr (.inr (.inl e))), fun x hx => ?_⟩
  · rw [e1, e2]
    exact own_ch2 r9 cs (fun g hg e => ov (e ▸ hg))
  · rcases hx with hx | hx | hx | hx
    · exact .inl (.inl hx)
    · exact .inl (.inr (.inl hx))
    · have hx' : v9.ownBlock = some x := hx
      rcases o9 with o9 | o9
      · exact .inl (.inr (.inr (.inl (o9 ▸ hx'))))
      · rw [o9] at hx'
        injection hx' with hx'
        exact .inr (by omega)
    · exact .inl (.inr (.inr (.inr hx)))

set_option maxRecDepth 8000 in
set_option maxHeartbeats 3200000 in
theorem Write_any (H : Sd base w sb z d) (hbase : base ≤ w.heap.size) (hcap : d.fin ≤ 1000000000) {A : Option Addr} {n c : Nat} {b : List UInt8} (R : RB w A n c b) (hn : n ≤ 549755813888) :
    Calls Try.prog 11 #[ptr sb, .slice A n c] w (WriteP base w sb z d n b) := by
  obtain ⟨dA, dc, hdv, hdr⟩ := H.dv
  have c1 : w.cell? ⟨sb, 1, none⟩ = some (.slice dA d.held dc) := by rw [← hdv]; exact H.cell 1
  have c5 : w.cell? ⟨sb, 5, none⟩ = some (.bool d.told) := H.cell 5
  have hnum := H.nums
  have hlen := R.len
  have hw : IntKind.i64.wrap (64 - (d.held : Int)) = (d.room_ : Int) := by
    unfold Dq.room_
    rw [IntKind.wrap_i64]
    omega
  have HH := Lib.hid H
  cases ht : d.told with
  | true =>
    rw [ht] at c5
    have HF : Hid (WriteP base w sb z d n b (.returned (.tuple #[.int .i64 0, .int .i64 11])) w) := by
      refine Lib.hid ⟨by unfold Dq.wN Dq.wE; rw [ht]; rfl, z, ?_⟩
      unfold Dq.wrote
      rw [ht]
      exact Left.refl H
    generalize d.held = hd at *
    generalize d.room_ = room at *
    unfold ptr
    clear H HH hdr hnum R hlen
    go_enter Try.func11, Try.ntmps11
    go_wp2_with fail
    go_ret2
    exact HF.out
  | false =>
    rw [ht] at c5
    by_cases hr : d.room_ = 0 ∧ 0 < n
    · have HF : Hid (WriteP base w sb z d n b (.returned (.tuple #[.int .i64 0, .int .i64 7])) w) := by
        refine Lib.hid ⟨by unfold Dq.wN Dq.wE; rw [ht, if_pos hr, hr.1, Nat.min_zero]; rfl, z, ?_⟩
        unfold Dq.wrote
        rw [ht, hr.1, Nat.min_zero, Dq.put_zero]
        exact Left.refl H
      obtain ⟨h1, h2⟩ := hr
      rw [h1] at hw
      have h3 : (0 : Int) < (n : Int) := by omega
      generalize d.held = hd at *
      unfold ptr
      clear H HH hdr hnum R hlen h1
      go_enter Try.func11, Try.ntmps11
      go_wp2_with fail
      go_ret2
      exact HF.out
    · obtain ⟨k, hk⟩ : ∃ k, k = min n d.room_ := ⟨_, rfl⟩
      have HF : Hid (∀ w' z', Left base w sb z (d.put k b) w' z' → WriteP base w sb z d n b (.returned (.tuple #[.int .i64 (k : Int), .int .i64 0])) w') := by
        refine Lib.hid (fun w' z' hl => ⟨by unfold Dq.wN Dq.wE; rw [ht, if_neg hr, hk]; rfl, z', ?_⟩)
        unfold Dq.wrote
        rw [ht, hlen, ← hk]
        exact hl
      have HD := Lib.hid (fun (v9 : Value) (w9 : World) => write_done H (k := k) (b := b) (v9 := v9) (w9 := w9) (by omega) (by omega) (by unfold Dq.room_ at hk; omega))
      have hmin : min (n : Int) (d.room_ : Int) = (k : Int) := by omega
      have HT := Lib.hid (R.take (k := k) (by omega))
      have HO : Hid (w.ownsRow base 5 1 (.slice dA d.held dc) d.held (bv (d.all.drop (d.una - 1)))) := Lib.hid (by rw [← hdv]; exact H.data)
      have hkn : (k : Int) ≤ (n : Int) := by omega
      have hnc : (n : Int) ≤ (c : Int) := by have := R.cap; omega
      have hkc : (k : Int) ≤ (c : Int) := by omega
      have hsl : ∀ W, (Instr.slice 28 (.slice A n c) none (some (.int .i64 (k : Int))) none).run Try.prog W = .ok (.slice A k c) W := fun W => by
        rw [run_slice_h (P := Try.prog) W 28 _ n c elemOf .i64 (k : Int) (by omega) (by omega)]
        try rw [sizeOfByte]
        simp [Result.andThen, sliced]
        try (intro _; cases A <;> rfl)
      have HBS := Lib.hid hbase
      have HK : Hid (d.held + k ≤ 1099511627776) := Lib.hid (by omega)
      have HDV := Lib.hid hdv
      have HFR := Lib.hid (H.fz 1)
      have hgrd : d.room_ = 0 → n = 0 := fun h => by omega
      clear R hlen hdr hdv hr hk hnum H hcap hn hbase
      generalize d.held = hd at *
      generalize d.room_ = room at *
      unfold ptr
      by_cases hroom : room = 0
      · have hn0 : ¬ ((0 : Int) < (n : Int)) := by have := hgrd hroom; omega
        have hrm : (room : Int) = 0 := by omega
        have hmin0 : min (n : Int) 0 = (k : Int) := by omega
        clear hroom hgrd
        go_enter Try.func11, Try.ntmps11
        go_wp2_with fail
        refine wp_region_noPanic ?_
        refine until_start (fun W => W.cell? ⟨sb, 1, none⟩ = some (.slice dA hd dc)) 11 (by kernel_rfl) c1 (fun _ => ?_)
        refine until_take (i := 0) (v := .pointer (some ⟨sb, 0, none⟩)) (some 33) [11] rfl rfl (by kernel_rfl) (by kernel_rfl) (by kernel_rfl) (by kernel_rfl) rfl rfl (fun _ _ _ h => h) (Or.inl ⟨by rfl, fun W hW => by go_simp⟩) c1 ?_
        simp only [Act.put, List.setIfInBounds_toArray, List.set_cons_zero, List.set_cons_succ]
        refine until_take (i := 1) (v := .pointer (some ⟨sb, 0, none⟩)) (some 34) [11] rfl rfl (by kernel_rfl) (by kernel_rfl) (by kernel_rfl) (by kernel_rfl) rfl rfl (fun _ _ _ h => h) (Or.inl ⟨by rfl, fun W hW => by go_simp⟩) c1 ?_
        simp only [Act.put, List.setIfInBounds_toArray, List.set_cons_zero, List.set_cons_succ]
        refine until_take (i := 5) (v := .slice A n c) (some 38) [11] rfl rfl (by kernel_rfl) (by kernel_rfl) (by kernel_rfl) (by kernel_rfl) rfl rfl (fun _ _ _ h => h) (Or.inl ⟨by rfl, fun W hW => by go_simp⟩) c1 ?_
        simp only [Act.put, List.setIfInBounds_toArray, List.set_cons_zero, List.set_cons_succ]
        refine until_take (i := 6) (v := .int .i64 (k : Int)) (some 39) [11] rfl rfl (by kernel_rfl) (by kernel_rfl) (by kernel_rfl) (by kernel_rfl) rfl rfl (fun _ _ _ h => h) (Or.inl ⟨by rfl, fun W hW => by go_simp⟩) c1 ?_
        simp only [Act.put, List.setIfInBounds_toArray, List.set_cons_zero, List.set_cons_succ]
        refine until_take (i := 2) (v := .pointer (some ⟨sb, 0, none⟩)) (some 35) [11] rfl rfl (by kernel_rfl) (by kernel_rfl) (by kernel_rfl) (by kernel_rfl) rfl rfl (fun _ _ _ h => h) (Or.inl ⟨by rfl, fun W hW => by go_simp⟩) c1 ?_
        simp only [Act.put, List.setIfInBounds_toArray, List.set_cons_zero, List.set_cons_succ]
        refine until_take (i := 7) (v := .slice A k c) (some 40) [11] rfl rfl (by kernel_rfl) (by kernel_rfl) (by kernel_rfl) (by kernel_rfl) rfl rfl (fun _ _ _ h => h) (Or.inl ⟨by rfl, fun W hW => by have hc := hsl W; go_simp⟩) c1 ?_
        simp only [Act.put, List.setIfInBounds_toArray, List.set_cons_zero, List.set_cons_succ]
        refine until_take (i := 3) (v := .pointer (some ⟨sb, 1, none⟩)) (some 36) [11] rfl rfl (by kernel_rfl) (by kernel_rfl) (by kernel_rfl) (by kernel_rfl) rfl rfl (fun _ _ _ h => h) (Or.inl ⟨by rfl, fun W hW => by go_simp⟩) c1 ?_
        simp only [Act.put, List.setIfInBounds_toArray, List.set_cons_zero, List.set_cons_succ]
        refine until_take (i := 4) (v := .slice dA hd dc) (some 37) [11] rfl rfl (by kernel_rfl) (by kernel_rfl) (by kernel_rfl) (by kernel_rfl) rfl rfl (fun _ _ _ h => h) (Or.inl ⟨by rfl, fun W hW => by have hc := hW; go_simp⟩) c1 ?_
        simp only [Act.put, List.setIfInBounds_toArray, List.set_cons_zero, List.set_cons_succ]
        refine until_step (i := 8) (by kernel_rfl) rfl rfl (fun K hK => ?_)
        refine step_app _ rfl (.tmp 37) (.tmp 40) 28 5 rfl undByte infoByte base (.slice dA hd dc) hd _ rfl (HO.out.drew) A k c _ rfl HT.out.drew HK.out HBS.out ?_
        intro v9 w9 r9 g9 o9
        have C9 : Ch w w9 (fun g => (Value.slice dA hd dc).ownBlock = some g) := Ch.grown (m := fun g => (Value.slice dA hd dc).ownBlock = some g) (Ch.refl w _).drew g9 (fun k e _ => e)
        have HX0 := Lib.hid (HD.out v9 w9 r9 (HDV.out ▸ C9) (HDV.out ▸ o9))
        have e9 : w9.cell? ⟨sb, 1, none⟩ = some (.slice dA hd dc) := C9.cell c1 (fun e => HH.out.apart.2.1 (HDV.out ▸ e))
        have f9 : w9.frozen? ⟨sb, 1, none⟩ = false := (World.frozen?_of_block (C9.block sb HH.out.lt (fun e => HH.out.apart.2.1 (HDV.out ▸ e)))).trans HFR.out
        obtain ⟨A9, k9, rfl, -, -⟩ := RB.of_own r9
        generalize hd + k = n9 at *
        clear r9 g9 o9 C9
        show K (Act.put _ (some 41) _) _
        refine hK.out _ _ e9 (fun _ => ?_)
        clear hK
        try simp only [Act.put, List.setIfInBounds_toArray, List.set_cons_zero, List.set_cons_succ]
        refine until_take (i := 9) (v := .pointer (some ⟨sb, 0, none⟩)) (some 42) [10, 11] rfl rfl (by kernel_rfl) (by kernel_rfl) (by kernel_rfl) (by kernel_rfl) rfl rfl (fun _ _ _ h => h) (Or.inl ⟨by rfl, fun W hW => by go_simp⟩) e9 ?_
        simp only [Act.put, List.setIfInBounds_toArray, List.set_cons_zero, List.set_cons_succ]
        refine until_take (i := 10) (v := .pointer (some ⟨sb, 1, none⟩)) (some 43) [11] rfl rfl (by kernel_rfl) (by kernel_rfl) (by kernel_rfl) (by kernel_rfl) rfl rfl (fun _ _ _ h => h) (Or.inl ⟨by rfl, fun W hW => by go_simp⟩) e9 ?_
        simp only [Act.put, List.setIfInBounds_toArray, List.set_cons_zero, List.set_cons_succ]
        refine until_last (by kernel_rfl) rfl (fun K hK => ?_)
        go_simp
        have HX := Lib.hid HX0.out
        clear HX0 e9
        generalize w9.setCell ⟨sb, 1, none⟩ (.slice A9 n9 k9) = w10 at *
        refine hK.out _ _ ?_
        clear hK
        try simp only [Act.put, List.setIfInBounds_toArray, List.set_cons_zero, List.set_cons_succ]
        refine wpAnyH_done (by kernel_rfl) ?_ _
        refine NoPanic.normal ?_
        go_wp2_with fail
        go_ret2
        exact HF.out _ _ HX.out
      · have hrm : ¬ ((room : Int) = 0) := by omega
        clear hroom hgrd
        go_enter Try.func11, Try.ntmps11
        go_wp2_with fail
        refine wp_region_noPanic ?_
        refine until_start (fun W => W.cell? ⟨sb, 1, none⟩ = some (.slice dA hd dc)) 11 (by kernel_rfl) c1 (fun _ => ?_)
        refine until_take (i := 0) (v := .pointer (some ⟨sb, 0, none⟩)) (some 33) [11] rfl rfl (by kernel_rfl) (by kernel_rfl) (by kernel_rfl) (by kernel_rfl) rfl rfl (fun _ _ _ h => h) (Or.inl ⟨by rfl, fun W hW => by go_simp⟩) c1 ?_
        simp only [Act.put, List.setIfInBounds_toArray, List.set_cons_zero, List.set_cons_succ]
        refine until_take (i := 1) (v := .pointer (some ⟨sb, 0, none⟩)) (some 34) [11] rfl rfl (by kernel_rfl) (by kernel_rfl) (by kernel_rfl) (by kernel_rfl) rfl rfl (fun _ _ _ h => h) (Or.inl ⟨by rfl, fun W hW => by go_simp⟩) c1 ?_
        simp only [Act.put, List.setIfInBounds_toArray, List.set_cons_zero, List.set_cons_succ]
        refine until_take (i := 5) (v := .slice A n c) (some 38) [11] rfl rfl (by kernel_rfl) (by kernel_rfl) (by kernel_rfl) (by kernel_rfl) rfl rfl (fun _ _ _ h => h) (Or.inl ⟨by rfl, fun W hW => by go_simp⟩) c1 ?_
        simp only [Act.put, List.setIfInBounds_toArray, List.set_cons_zero, List.set_cons_succ]
        refine until_take (i := 6) (v := .int .i64 (k : Int)) (some 39) [11] rfl rfl (by kernel_rfl) (by kernel_rfl) (by kernel_rfl) (by kernel_rfl) rfl rfl (fun _ _ _ h => h) (Or.inl ⟨by rfl, fun W hW => by go_simp⟩) c1 ?_
        simp only [Act.put, List.setIfInBounds_toArray, List.set_cons_zero, List.set_cons_succ]
        refine until_take (i := 2) (v := .pointer (some ⟨sb, 0, none⟩)) (some 35) [11] rfl rfl (by kernel_rfl) (by kernel_rfl) (by kernel_rfl) (by kernel_rfl) rfl rfl (fun _ _ _ h => h) (Or.inl ⟨by rfl, fun W hW => by go_simp⟩) c1 ?_
        simp only [Act.put, List.setIfInBounds_toArray, List.set_cons_zero, List.set_cons_succ]
        refine until_take (i := 7) (v := .slice A k c) (some 40) [11] rfl rfl (by kernel_rfl) (by kernel_rfl) (by kernel_rfl) (by kernel_rfl) rfl rfl (fun _ _ _ h => h) (Or.inl ⟨by rfl, fun W hW => by have hc := hsl W; go_simp⟩) c1 ?_
        simp only [Act.put, List.setIfInBounds_toArray, List.set_cons_zero, List.set_cons_succ]
        refine until_take (i := 3) (v := .pointer (some ⟨sb, 1, none⟩)) (some 36) [11] rfl rfl (by kernel_rfl) (by kernel_rfl) (by kernel_rfl) (by kernel_rfl) rfl rfl (fun _ _ _ h => h) (Or.inl ⟨by rfl, fun W hW => by go_simp⟩) c1 ?_
        simp only [Act.put, List.setIfInBounds_toArray, List.set_cons_zero, List.set_cons_succ]
        refine until_take (i := 4) (v := .slice dA hd dc) (some 37) [11] rfl rfl (by kernel_rfl) (by kernel_rfl) (by kernel_rfl) (by kernel_rfl) rfl rfl (fun _ _ _ h => h) (Or.inl ⟨by rfl, fun W hW => by have hc := hW; go_simp⟩) c1 ?_
        simp only [Act.put, List.setIfInBounds_toArray, List.set_cons_zero, List.set_cons_succ]
        refine until_step (i := 8) (by kernel_rfl) rfl rfl (fun K hK => ?_)
        refine step_app _ rfl (.tmp 37) (.tmp 40) 28 5 rfl undByte infoByte base (.slice dA hd dc) hd _ rfl (HO.out.drew) A k c _ rfl HT.out.drew HK.out HBS.out ?_
        intro v9 w9 r9 g9 o9
        have C9 : Ch w w9 (fun g => (Value.slice dA hd dc).ownBlock = some g) := Ch.grown (m := fun g => (Value.slice dA hd dc).ownBlock = some g) (Ch.refl w _).drew g9 (fun k e _ => e)
        have HX0 := Lib.hid (HD.out v9 w9 r9 (HDV.out ▸ C9) (HDV.out ▸ o9))
        have e9 : w9.cell? ⟨sb, 1, none⟩ = some (.slice dA hd dc) := C9.cell c1 (fun e => HH.out.apart.2.1 (HDV.out ▸ e))
        have f9 : w9.frozen? ⟨sb, 1, none⟩ = false := (World.frozen?_of_block (C9.block sb HH.out.lt (fun e => HH.out.apart.2.1 (HDV.out ▸ e)))).trans HFR.out
        obtain ⟨A9, k9, rfl, -, -⟩ := RB.of_own r9
        generalize hd + k = n9 at *
        clear r9 g9 o9 C9
        show K (Act.put _ (some 41) _) _
        refine hK.out _ _ e9 (fun _ => ?_)
        clear hK
        try simp only [Act.put, List.setIfInBounds_toArray, List.set_cons_zero, List.set_cons_succ]
        refine until_take (i := 9) (v := .pointer (some ⟨sb, 0, none⟩)) (some 42) [10, 11] rfl rfl (by kernel_rfl) (by kernel_rfl) (by kernel_rfl) (by kernel_rfl) rfl rfl (fun _ _ _ h => h) (Or.inl ⟨by rfl, fun W hW => by go_simp⟩) e9 ?_
        simp only [Act.put, List.setIfInBounds_toArray, List.set_cons_zero, List.set_cons_succ]
        refine until_take (i := 10) (v := .pointer (some ⟨sb, 1, none⟩)) (some 43) [11] rfl rfl (by kernel_rfl) (by kernel_rfl) (by kernel_rfl) (by kernel_rfl) rfl rfl (fun _ _ _ h => h) (Or.inl ⟨by rfl, fun W hW => by go_simp⟩) e9 ?_
        simp only [Act.put, List.setIfInBounds_toArray, List.set_cons_zero, List.set_cons_succ]
        refine until_last (by kernel_rfl) rfl (fun K hK => ?_)
        go_simp
        have HX := Lib.hid HX0.out
        clear HX0 e9
        generalize w9.setCell ⟨sb, 1, none⟩ (.slice A9 n9 k9) = w10 at *
        refine hK.out _ _ ?_
        clear hK
        try simp only [Act.put, List.setIfInBounds_toArray, List.set_cons_zero, List.set_cons_succ]
        refine wpAnyH_done (by kernel_rfl) ?_ _
        refine NoPanic.normal ?_
        go_wp2_with fail
        go_ret2
        exact HF.out _ _ HX.out
end
end Go.Proofs.Ytgcblajhdebigaa

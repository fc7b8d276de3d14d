/- A row of pieces parted in two, its front cleared; the contract of Ack. Conditions: the queue stands, its numbers go on from its beginning to its end, at most 2^31 in all; at most 2^30 pieces, with data of at most 2^40 bytes each.
A flow's struct in memory: its cells, stores into them; the contracts of the estimate's calls where it stands within a flow. Conditions: a flow's cells stand, the estimate's numbers within their bounds.
A deadline; which states let what be done; how a flow ends, lingers, and what its Fin, and the other one's, leads to. Conditions: a flow's cells stand, ticks between 0 and 2^60, waits between 0 and 16.
Whether a deadline is reached; which states let what be done; how a flow ends, lingers, and what its Fin, and the other one's, leads to. Conditions: a flow's cells stand, ticks between 0 and 2^60, waits between 0 and 16. -/
import Derived.Test.YtiehngeeamhlmaaGreatDoorMg6
import Derived.StillTailTactics
import Derived.Deep.RegionLaw
import Derived.Deep.RegionHeld3
import Derived.Test.YtiehngeeamhlmaaGreatDoorMg4
namespace Go.Proofs.YtiehngeeamhlmaaGreatDoor.LF
set_option linter.unusedVariables false
set_option linter.unusedSimpArgs false
set_option maxRecDepth 20000
open Go.RowKit

theorem sizePs : (Tryz.prog.info? 142).map (·.size) = some 1 := by kernel_rfl
theorem elemPs : Tryz.prog.underlying 142 = some (.slice (Tryz.prog.elem 142)) := by kernel_rfl
theorem sizeOfPc (W : World) : (sizeOf (Tryz.prog.elem 142)).run Tryz.prog W = .ok 6 W := by kernel_rfl
theorem zc_one (k : Nat) : ∀ u ∈ (Builtin.zeroCells (Value.agg zP.vals.toArray).cells k).toList, u.oneCell' = true := by
  intro u hu
  simp [Builtin.zeroCells, Pc.vals, zP, Value.cells] at hu
  obtain ⟨a, ha, rfl⟩ := hu
  have : a % 6 = 0 ∨ a % 6 = 1 ∨ a % 6 = 2 ∨ a % 6 = 3 ∨ a % 6 = 4 ∨ a % 6 = 5 := by omega
  rcases this with h | h | h | h | h | h <;> simp [h, Value.oneCell']
/-- A row parted at k: its front, cleared or not, and what is behind. -/
structure Cut (base : Nat) (A A1 A2 : Option Addr) (n c k : Nat) (l : List Pc) : Prop where
  upto : ∀ W, (Instr.slice 142 (.slice A n c) none (some (.int .i64 (k : Int))) none).run Tryz.prog W = .ok (.slice A1 k c) W
  from_ : ∀ W, (Instr.slice 142 (.slice A n c) (some (.int .i64 (k : Int))) none none).run Tryz.prog W = .ok (.slice A2 (n - k) (c - k)) W
  front : ∀ W, Row W base (.slice A n c) l → Row W base (.slice A1 k c) (l.take k)
  clear : ∀ W ty, Row W base (.slice A n c) l → ∃ W', (Builtin.clear_ #[142] ty #[.slice A1 k c]).run Tryz.prog W = .ok (.tuple #[]) W' ∧ W.grownBy W' (Value.slice A n c).ownBlock ∧ W'.heap.size = W.heap.size ∧ Row W' base (.slice A2 (n - k) (c - k)) (l.drop k)
  own : ∀ g, (Value.slice A2 (n - k) (c - k)).ownBlock = some g → (Value.slice A n c).ownBlock = some g
theorem cut_any {w : World} {base : Nat} {A : Option Addr} {n c k : Nat} {l : List Pc} (h : Row w base (.slice A n c) l) (hk : k ≤ n) : ∃ A1 A2, Cut base A A1 A2 n c k l := by
  obtain ⟨A0, c0, hv, hc1, hc2⟩ := h.slice
  injection hv with e1 e2 e3
  subst e1 e2 e3
  obtain ⟨i, hi, hz, h1, h2⟩ := info_parts infoPcF
  refine ⟨if c = 0 then A else A.map (·.add 0), if c = k then A else A.map (·.add (k * 6)), fun W => ?_, fun W => ?_, fun W hW => ?_, fun W ty hW => ?_, fun g hg => ?_⟩
  · rw [run_slice_h (P := Tryz.prog) W 142 A l.length c elemPs .i64 (k : Int) (by omega) (by omega), sizeOfPc]
    simp [Result.andThen, sliced]
  · rw [run_slice_l (P := Tryz.prog) W 142 A l.length c elemPs .i64 (k : Int) (by omega) (by omega), sizeOfPc]
    simp [Result.andThen, sliced]
  · rcases hW with ⟨hv, rfl⟩ | ⟨g, o, c3, cs, hv, hb, hg, h3, h4, h5, h6⟩
    · injection hv with e1 e2 e3
      subst e1 e3
      have hk0 : k = 0 := by simpa using hk
      subst hk0
      exact .inl ⟨rfl, rfl⟩
    · injection hv with e1 e2 e3
      subst e1 e3
      have hl : (l.take k).length = k := by rw [List.length_take]; omega
      have ha : (if c = 0 then some (⟨g, o, none⟩ : Addr) else (some (⟨g, o, none⟩ : Addr)).map (·.add 0)) = some ⟨g, o, none⟩ := by
        split
        · rfl
        · simp [Addr.add_lit]
      refine .inr ⟨g, o, c, cs, by rw [ha, hl], hb, hg, by omega, h4, h5, ?_⟩
      have e : pv l = pv (l.take k) ++ pv (l.drop k) := by rw [← pv_append, List.take_append_drop]
      rw [e] at h6
      exact (rangeAt_append.1 h6).1
  · rcases hW with ⟨hv, rfl⟩ | ⟨g, o, c3, cs, hv, hb, hg, h3, h4, h5, h6⟩
    · injection hv with e1 e2 e3
      subst e1 e3
      have hk0 : k = 0 := by simpa using hk
      subst hk0
      refine ⟨W, ?_, v_g_refl _ _, rfl, .inl ⟨rfl, rfl⟩⟩
      simp [Builtin.clear_, run_underlying Tryz.underlying142]
    · injection hv with e1 e2 e3
      subst e1 e3
      have hld : (l.drop k).length = l.length - k := List.length_drop
      have ha : (if c = 0 then some (⟨g, o, none⟩ : Addr) else (some (⟨g, o, none⟩ : Addr)).map (·.add 0)) = some ⟨g, o, none⟩ := by
        split
        · rfl
        · simp [Addr.add_lit]
      rw [ha]
      let zs := (Builtin.zeroCells (Value.agg zP.vals.toArray).cells k).toList
      have hzl : zs.length = k * 6 := zeros_length k
      have hth : W.there g o (k * 6) := there_of hg (by omega)
      have hst := run_storeCells_cells (P := Tryz.prog) g o zs 0 W (by simpa [hzl] using fun j hj => (hth j hj).1) (by simpa [hzl] using fun j hj => (hth j hj).2) (zc_one k)
      simp only [Nat.add_zero] at hst
      obtain ⟨cs', k1, k2⟩ := heap_setCells zs o W cs hg
      refine ⟨W.setCells g o zs, ?_, v_g_setCells _ _ _ _, v_size_setCells _ _ _ _, ?_⟩
      · cases k with
        | zero =>
          have : zs = [] := List.eq_nil_of_length_eq_zero (by rw [hzl])
          rw [this]
          simp [Builtin.clear_, run_underlying Tryz.underlying142, World.setCells]
        | succ k =>
          simp only [zs] at hst ⊢
          simp [Builtin.clear_, run_underlying Tryz.underlying142, zeroValue, typeInfo, hi, hz, hst]
      · by_cases hck : c = k
        · have hd0 : l.drop k = [] := List.drop_eq_nil_of_le (by omega)
          rw [if_pos hck, hd0]
          refine .inr ⟨g, o, c - k, cs', by simp; omega, hb, k1, Nat.zero_le _, by omega, by omega, fun j u hu => by simp [pv] at hu⟩
        · rw [if_neg hck]
          refine .inr ⟨g, o + k * 6, c - k, cs', by rw [hld]; simp [Addr.add_lit], hb, k1, by omega, by omega, by omega, fun j u hu => ?_⟩
          have hj := (List.getElem?_eq_some_iff.1 hu).1
          rw [cells_out (by right; right; rw [hzl]; omega)]
          have e : pv l = pv (l.take k) ++ pv (l.drop k) := by rw [← pv_append, List.take_append_drop]
          rw [e] at h6
          have := (rangeAt_append.1 h6).2 j u hu
          rwa [pv_length, List.length_take, Nat.min_eq_left hk] at this
  · cases A with
    | none => split at hg <;> cases hg
    | some a =>
      split at hg
      · exact hg
      · obtain ⟨b, o, s⟩ := a
        have e : ((some (⟨b, o, s⟩ : Addr)).map (·.add (k * 6))) = some ((⟨b, o, s⟩ : Addr).add (k * 6)) := rfl
        rw [e] at hg
        have e2 : ((⟨b, o, s⟩ : Addr).add (k * 6)).block = b := by unfold Addr.add; split <;> rfl
        injection hg with hg
        rw [e2] at hg
        exact congrArg some hg

theorem Own6.frame {base : Nat} {w w' : World} {v : Value} {ks : List Ky} {m : Nat → Prop} (h : Own6 base w v ks) (c : Ch w w' m) (hm : ∀ g, base ≤ g → ¬ m g) : Own6 base w' v ks := by
  obtain ⟨qs, h1, h2, h3⟩ := h
  exact ⟨qs, own_ch2 h1 c (fun g hg => hm g (h1.lt g hg).1), h2, fun q hq => (h3 q hq).ch c (fun g hg => hm g ((h3 q hq).lt hg).1)⟩
theorem Own6.below {base : Nat} {w w' : World} {v : Value} {ks : List Ky} (h : Own6 base w v ks) (b : Below w.heap.size w w') : Own6 base w' v ks := h.frame (Ch.of_below (fun _ => False) b) (fun _ _ e => e)
theorem own6_mono {w : World} {base base' : Nat} {v : Value} {n : Nat} {e : TypeId} {xs : List Value} (h : w.ownsRow base e 6 v n xs) (hb : base' ≤ base) : w.ownsRow base' e 6 v n xs := by
  refine ⟨h.1, ?_⟩
  rcases h.2 with hn | ⟨g, cap, cur, rfl, h1, rest⟩
  · exact .inl hn
  · exact .inr ⟨g, cap, cur, rfl, Nat.le_trans hb h1, rest⟩
theorem Own6.mono {base base' : Nat} {w : World} {v : Value} {ks : List Ky} (h : Own6 base w v ks) (hb : base' ≤ base) : Own6 base' w v ks := by
  obtain ⟨qs, h1, h2, h3⟩ := h
  exact ⟨qs, own6_mono h1 hb, h2, fun q hq => (h3 q hq).mono hb⟩
/-- What Ack leaves that takes k pieces out. -/
def AckP (t : TypeId) (base : Nat) (w : World) (qb : Nat) (v : Value) (l : List Pc) (en k : Nat) (e : Ending) (w' : World) : Prop :=
  ∃ vo v', e = .returned (.tuple #[vo, .bool true]) ∧ Own6 w.heap.size w' vo ((l.map Pc.key).take k) ∧ Qu t base w' qb v' (l.drop k) en ∧ (∀ g, v'.ownBlock = some g → v.ownBlock = some g) ∧ Ch w w' (fun k => k = qb ∨ v.ownBlock = some k)
theorem wpList_clearB {P : Program} {ops : Array Oper} {rest : List Oper} {o : Oper} {a : Act} {w : World} {Q : Exit → Act → World → Prop} (hgd : o.guard = none) (d : Operand) (t : TypeId)
    (ho : o.op = .call { callee := .builtin .clear, args := #[d], argTypes := #[t] }) (v : Value) (hd : a.eval d = v) {v' : Value} {w' : World}
    (hr : (Builtin.clear_ #[t] o.type #[v]).run P w = .ok v' w') (h : wpList P ops Q rest (a.put o.dst v') w') : wpList P ops Q (o :: rest) a w :=
  wpList_plain hgd fun _ hK => by
    unfold Oper.wp execOp
    simp only [ho, resolve, invoke, builtin, Sem.run_bind, Sem.run_pure, Result.andThen_ok, List.map_toArray, List.map_cons, List.map_nil, hd, hr]
    exact hK _ _ h

section
variable {base : Nat} {w : World} {qb : Nat} {v : Value} {l : List Pc} {en : Nat}
set_option maxHeartbeats 1600000 in
theorem Ack_no (h : Qu 258 base w qb v l en) (b a : Nat) (hb : b < 4294967296) (ha : a < 4294967296) (hc : Chn b (l.map Pc.key) en) (ht : tot (l.map Pc.key) ≤ 2147483648) (hno : tot (l.map Pc.key) < st b a) :
    Calls Tryz.prog 280 #[ptr qb, .int .u32 (a : Int)] w fun e w' => e = .returned (.tuple #[.slice none 0 0, .bool false]) ∧ Below w.heap.size w w' := by
  have HR := Lib.hid (reaches_any h b a hb ha hc ht)
  rw [decide_eq_false (by omega)] at HR
  clear h hc ht hno
  unfold ptr at *
  go_enter Tryz.func280, Tryz.ntmps280
  go_wp2_with fail
  refine (HR.out).mono ?_
  rintro e w2 ⟨rfl, b2⟩
  go_wp2_with fail
  go_ret2
  exact ⟨rfl, b2⟩

set_option maxRecDepth 20000 in
set_option maxHeartbeats 3200000 in
theorem Ack_yes (h : Qu 258 base w qb v l en) (b a : Nat) (hb : b < 4294967296) (ha : a < 4294967296) (hc : Chn b (l.map Pc.key) en) (ht : tot (l.map Pc.key) ≤ 2147483648) (hl : l.length ≤ 1073741824) (hd : ∀ p ∈ l, p.dn ≤ 1099511627776) (hyes : st b a ≤ tot (l.map Pc.key)) :
    Calls Tryz.prog 280 #[ptr qb, .int .u32 (a : Int)] w (AckP 258 base w qb v l en (cnt (l.map Pc.key) (st b a))) := by
  have HR := Lib.hid (reaches_any h b a hb ha hc ht)
  rw [decide_eq_true hyes] at HR
  have HE := Lib.hid (fun W (b : Below w.heap.size w W) => ended_any (h.below b) _ a hb ha hc hd hl)
  have hk := cnt_le (l.map Pc.key) (st b a)
  generalize cnt (l.map Pc.key) (st b a) = k at *
  rw [List.length_map] at hk
  have H := Lib.hid h
  have HD := Lib.hid hd
  have hlt := h.lt
  obtain ⟨A, c, rfl, hcp, hmx⟩ := h.row.slice
  have HNE := Lib.hid (h.apart2 (by decide))
  obtain ⟨A1, A2, hcut⟩ := cut_any h.row hk
  have HC := Lib.hid hcut
  generalize hn : l.length = n at *
  have HN := Lib.hid hn
  clear h hd hc ht hyes hcut hn
  unfold ptr at *
  go_enter Tryz.func280, Tryz.ntmps280
  go_wp2_with fail
  refine (HR.out).mono ?_
  rintro e w2 ⟨rfl, b2⟩
  go_wp2_with fail
  have HB2 := Lib.hid b2.drew
  have c2 := (H.out.below b2.drew).c0
  clear b2
  generalize hwd : w2.drew = wd at *
  refine wp_region_noPanic ?_
  refine wp_region_held_drew (S := fun W => W.cell? ⟨qb, 0, none⟩ = some (.slice A n c)) (by kernel_rfl) (by rw [hwd]; exact c2) (fun _ => ?_)
  rw [hwd]
  clear hwd
  refine held_take (i := 0) (v := .pointer (some ⟨qb, 0, none⟩)) (some 16) rfl rfl (by kernel_rfl) (by kernel_rfl) (by kernel_rfl) (fun _ _ _ h => h) (Or.inl ⟨by rfl, fun W hW => by go_simp⟩) c2 ?_
  simp only [Act.put, List.setIfInBounds_toArray, List.set_cons_zero, List.set_cons_succ]
  refine held_take (i := 4) (v := .pointer (some ⟨qb, 0, none⟩)) (some 20) rfl rfl (by kernel_rfl) (by kernel_rfl) (by kernel_rfl) (fun _ _ _ h => h) (Or.inl ⟨by rfl, fun W hW => by go_simp⟩) c2 ?_
  simp only [Act.put, List.setIfInBounds_toArray, List.set_cons_zero, List.set_cons_succ]
  refine held_take (i := 5) (v := .int .u32 (a : Int)) (some 21) rfl rfl (by kernel_rfl) (by kernel_rfl) (by kernel_rfl) (fun _ _ _ h => h) (Or.inl ⟨by rfl, fun W hW => by go_simp⟩) c2 ?_
  simp only [Act.put, List.setIfInBounds_toArray, List.set_cons_zero, List.set_cons_succ]
  refine held_take (i := 1) (v := .pointer (some ⟨qb, 0, none⟩)) (some 17) rfl rfl (by kernel_rfl) (by kernel_rfl) (by kernel_rfl) (fun _ _ _ h => h) (Or.inl ⟨by rfl, fun W hW => by go_simp⟩) c2 ?_
  simp only [Act.put, List.setIfInBounds_toArray, List.set_cons_zero, List.set_cons_succ]
  refine held_take (i := 2) (v := .pointer (some ⟨qb, 0, none⟩)) (some 18) rfl rfl (by kernel_rfl) (by kernel_rfl) (by kernel_rfl) (fun _ _ _ h => h) (Or.inl ⟨by rfl, fun W hW => by go_simp⟩) c2 ?_
  simp only [Act.put, List.setIfInBounds_toArray, List.set_cons_zero, List.set_cons_succ]
  refine held_take (i := 3) (v := .slice A n c) (some 19) rfl rfl (by kernel_rfl) (by kernel_rfl) (by kernel_rfl) (fun _ _ _ h => h) (Or.inl ⟨by rfl, fun W hW => by have hc := hW; go_simp⟩) c2 ?_
  simp only [Act.put, List.setIfInBounds_toArray, List.set_cons_zero, List.set_cons_succ]
  refine wpAnyH_ready (rs := [6]) (by kernel_rfl) (by simp) ?_
  refine AllReadyH.cons rfl (fun K hK => ?_) AllReadyH.nil
  go_simp
  refine (HE.out _ HB2.out).mono ?_
  rintro e w3 ⟨rfl, b3⟩
  have HB3 := Lib.hid (HB2.out.trans (b3.mono HB2.out.size))
  have e3 : w3.cell? ⟨qb, 0, none⟩ = some (.slice A n c) := (H.out.below HB3.out).c0
  clear b3 HB2 HE
  dsimp only
  refine hK.out _ _ e3 (fun _ => ?_)
  clear hK
  try simp only [Act.put, List.setIfInBounds_toArray, List.set_cons_zero, List.set_cons_succ]
  refine held_take (i := 7) (v := .slice A1 k c) (some 23) rfl rfl (by kernel_rfl) (by kernel_rfl) (by kernel_rfl) (fun _ _ _ h => h) (Or.inl ⟨by rfl, fun W hW => by have hc := HC.out.upto W; go_simp⟩) e3 ?_
  simp only [Act.put, List.setIfInBounds_toArray, List.set_cons_zero, List.set_cons_succ]
  refine held_take (i := 8) (v := .slice A1 k c) (some 6) rfl rfl (by kernel_rfl) (by kernel_rfl) (by kernel_rfl) (fun _ _ _ h => h) (Or.inl ⟨by rfl, fun W hW => by go_simp⟩) e3 ?_
  simp only [Act.put, List.setIfInBounds_toArray, List.set_cons_zero, List.set_cons_succ]
  refine wpAnyH_done (by kernel_rfl) ?_ _
  refine NoPanic.normal ?_
  have HQ3 := Lib.hid (H.out.below HB3.out)
  have hps : PS w3 A1 k c (l.take k) := (HC.out.front w3 HQ3.out.row).ps (fun p hp => (HQ3.out.ok p (List.mem_of_mem_take hp)).pg)
  have HA := Lib.hid (all_any A1 k c (l.take k) w3 hps (by omega) (fun p hp => HD.out p (List.mem_of_mem_take hp)))
  rw [List.map_take] at HA
  clear hps
  go_wp2_with fail
  refine (HA.out).mono ?_
  rintro e w5 ⟨vo, rfl, ho5, b5⟩
  have HQ5 := Lib.hid (HQ3.out.below b5)
  have HB5 := Lib.hid (HB3.out.trans (b5.mono HB3.out.size))
  obtain ⟨w6, e6, g6, s6, r6⟩ := HC.out.clear w5 0 HQ5.out.row
  have HX6 : Hid (Qx 258 base w6 qb (.slice A n c) (.slice A2 (n - k) (c - k)) (l.drop k) en) := Lib.hid ⟨(g6.block qb HQ5.out.lt (fun e => HNE.out e.symm)).trans HQ5.out.obj, HQ5.out.lo, r6, fun p hp => (HQ5.out.ok p (List.mem_of_mem_drop hp)).beside HQ5.out.row g6, HQ5.out.num⟩
  have C6 : Hid (Ch w w6 (fun k => k = qb ∨ (Value.slice A n c).ownBlock = some k)) := Lib.hid (Ch.grown (m := fun k => k = qb ∨ (Value.slice A n c).ownBlock = some k) (Ch.of_below _ HB5.out) g6 (fun k e _ => .inr e))
  have HO6 : Hid (Own6 w.heap.size w6 vo ((l.map Pc.key).take k)) := Lib.hid ((ho5.mono HB3.out.size).frame (Ch.grown (m := fun k => (Value.slice A n c).ownBlock = some k) (Ch.refl w5 _) g6 (fun k e _ => e)) (fun g hg e => by have := (H.out.row.in_ e).2; omega))
  have c6 := HX6.out.c0
  have f6 := HX6.out.f 0
  have hsl := HC.out.from_
  clear ho5 b5 HA HR g6 s6 r6
  go_wp2_with (first
    | ((with_reducible refine wpList_here ?_); refine wpList_clearB rfl (.tmp 26) 142 rfl _ rfl e6 ?_)
    | ((with_reducible refine wpList_here ?_); refine wpList_setC rfl 142 (.tmp 36) (.tmp 34) rfl qb 0 _ (.slice A2 (n - k) (c - k)) rfl rfl c6 f6 rfl sizePs ?_))
  go_ret2
  exact ⟨vo, _, rfl, HO6.out.frame (Ch.setCell (m := fun k => k = qb) (Ch.refl w6 _) (p := ⟨qb, 0, none⟩) (fun _ => rfl) _) (fun g hg e => by omega), HX6.out.store (by decide) (by decide), HC.out.own, Ch.setCell (m := fun k => k = qb ∨ (Value.slice A n c).ownBlock = some k) C6.out (p := ⟨qb, 0, none⟩) (fun _ => .inl rfl) _⟩
end
end Go.Proofs.YtiehngeeamhlmaaGreatDoor.LF

namespace Go.Proofs.YtiehngeeamhlmaaGreatDoor.LF
set_option linter.unusedVariables false
set_option linter.unusedSimpArgs false
set_option maxRecDepth 20000
open Go.RowKit Go.Lib

/-- What a flow's cells hold. -/
structure Fc where
  qb : Nat
  E : Es
  st : Nat
  rcv : Nat
  tries : Nat
  df : Int
  dw : Int
  bg : Int
  tm : Bool
  ov : Value
def Fc.cs (c : Fc) : Array Value := #[ptr c.qb, .bool c.E.has, .int .i64 c.E.s, .int .i64 c.E.v, .int .i64 (c.E.d : Int), .int .i64 (c.st : Int), .int .u32 (c.rcv : Int), .int .i64 (c.tries : Int), .int .i64 c.df, .int .i64 c.dw, .int .i64 c.bg, .bool c.tm, c.ov]
def Fc.est (c : Fc) (E : Es) : Fc := { c with E := E }
def ptr1 (b : Nat) : Value := .pointer (some ⟨b, 1, none⟩)
/-- At block b a flow's cells stand. -/
def Fa (w : World) (b : Nat) (c : Fc) : Prop := w.heap[b]? = some (.cells c.cs 204 (0, 0))
section
variable {w w' : World} {b : Nat} {c : Fc}
theorem Fa.lt (h : Fa w b c) : b < w.heap.size := (Array.getElem?_eq_some_iff.1 h).1
theorem Fa.at_ (h : Fa w b c) (j : Nat) : w.cell? ⟨b, j, none⟩ = c.cs[j]? := cell_of_row w b j _ _ (0, 0) h
theorem Fa.c0 (h : Fa w b c) : w.cell? ⟨b, 0, none⟩ = some (ptr c.qb) := by rw [h.at_ 0]; rfl
theorem Fa.c1 (h : Fa w b c) : w.cell? ⟨b, 1, none⟩ = some (.bool c.E.has) := by rw [h.at_ 1]; rfl
theorem Fa.c2 (h : Fa w b c) : w.cell? ⟨b, 2, none⟩ = some (.int .i64 c.E.s) := by rw [h.at_ 2]; rfl
theorem Fa.c3 (h : Fa w b c) : w.cell? ⟨b, 3, none⟩ = some (.int .i64 c.E.v) := by rw [h.at_ 3]; rfl
theorem Fa.c4 (h : Fa w b c) : w.cell? ⟨b, 4, none⟩ = some (.int .i64 (c.E.d : Int)) := by rw [h.at_ 4]; rfl
theorem Fa.c5 (h : Fa w b c) : w.cell? ⟨b, 5, none⟩ = some (.int .i64 (c.st : Int)) := by rw [h.at_ 5]; rfl
theorem Fa.c6 (h : Fa w b c) : w.cell? ⟨b, 6, none⟩ = some (.int .u32 (c.rcv : Int)) := by rw [h.at_ 6]; rfl
theorem Fa.c7 (h : Fa w b c) : w.cell? ⟨b, 7, none⟩ = some (.int .i64 (c.tries : Int)) := by rw [h.at_ 7]; rfl
theorem Fa.c8 (h : Fa w b c) : w.cell? ⟨b, 8, none⟩ = some (.int .i64 c.df) := by rw [h.at_ 8]; rfl
theorem Fa.c9 (h : Fa w b c) : w.cell? ⟨b, 9, none⟩ = some (.int .i64 c.dw) := by rw [h.at_ 9]; rfl
theorem Fa.c10 (h : Fa w b c) : w.cell? ⟨b, 10, none⟩ = some (.int .i64 c.bg) := by rw [h.at_ 10]; rfl
theorem Fa.c11 (h : Fa w b c) : w.cell? ⟨b, 11, none⟩ = some (.bool c.tm) := by rw [h.at_ 11]; rfl
theorem Fa.c12 (h : Fa w b c) : w.cell? ⟨b, 12, none⟩ = some (c.ov) := by rw [h.at_ 12]; rfl
theorem Fa.fz (h : Fa w b c) (j : Nat) : w.frozen? ⟨b, j, none⟩ = false := by simp [World.frozen?, show w.heap[b]? = _ from h]
theorem Fa.ch (h : Fa w b c) {m : Nat → Prop} (k : Ch w w' m) (hb : ¬ m b) : Fa w' b c := (k.block b h.lt hb).trans h
theorem Fa.below (h : Fa w b c) (k : Below w.heap.size w w') : Fa w' b c := (k.block b h.lt).trans h
theorem Fa.drew (h : Fa w b c) : Fa w.drew b c := h
theorem Fa.drewN (h : Fa w b c) (n : Nat) : Fa (w.drewN n) b c := h
theorem Fa.set (h : Fa w b c) (k : Nat) (v : Value) (c' : Fc) (hc : c.cs.setIfInBounds k v = c'.cs) : Fa (w.setCell ⟨b, k, none⟩ v) b c' := by
  have := h
  unfold Fa at *
  simp [World.setCell, Array.getElem?_modify, this, hc]
end
/-- What a call leaves that changes one flow's cells, and answers nothing. -/
def Did (w : World) (b : Nat) (c : Fc) (e : Ending) (w' : World) : Prop := e = .returned (.tuple #[]) ∧ Fa w' b c ∧ Ch w w' (fun k => k = b)

section
variable {w : World} {b : Nat} {c : Fc}
theorem Fa.set0 (h : Fa w b c) (x : Bool) : Fa (w.setCell ⟨b, 1, none⟩ (.bool x)) b (c.est { c.E with has := x }) := h.set 1 _ _ rfl
theorem Fa.set1 (h : Fa w b c) (x : Int) : Fa (w.setCell ⟨b, 2, none⟩ (.int .i64 x)) b (c.est { c.E with s := x }) := h.set 2 _ _ rfl
theorem Fa.set2 (h : Fa w b c) (x : Int) : Fa (w.setCell ⟨b, 3, none⟩ (.int .i64 x)) b (c.est { c.E with v := x }) := h.set 3 _ _ rfl
theorem Fa.set3 (h : Fa w b c) (x : Nat) : Fa (w.setCell ⟨b, 4, none⟩ (.int .i64 (x : Int))) b (c.est { c.E with d := x }) := h.set 4 _ _ rfl
end

set_option maxHeartbeats 1600000 in
theorem first_any {w : World} {b : Nat} {c : Fc} (R : Fa w b c) {t : Int} (h0 : 0 ≤ t) (h1 : t ≤ 1000) :
    Calls Tryz.prog 336 #[ptr1 b, .int .i64 t] w (Did w b (c.est ⟨true, t * 8, t * 2, c.E.d⟩)) := by
  have f0 := R.fz 1
  have f1 := R.fz 2
  have f2 := R.fz 3
  have c0 := R.c1
  have c1 := R.c2
  have c2 := R.c3
  have hw1 : IntKind.i64.wrap (t * 8) = t * 8 := by rw [IntKind.wrap_i64]; omega
  have hw2 : IntKind.i64.wrap (t * 4) = t * 4 := by rw [IntKind.wrap_i64]; omega
  have hq : (t * 4).tdiv 2 = t * 2 := by rw [Int.tdiv_eq_ediv_of_nonneg (by omega)]; omega
  have hw3 : IntKind.i64.wrap (t * 2) = t * 2 := by rw [IntKind.wrap_i64]; omega
  have HR := Lib.hid R
  clear R
  unfold ptr1
  go_enter Tryz.func336, Tryz.ntmps336
  go_wp2_with fail
  go_end0
  refine ⟨rfl, ?_, ?_⟩
  · exact ((HR.out.set0 true).set1 (t * 8)).set2 (t * 2)
  · exact ((ch_set w b 1 _).set 2 _).set 3 _

set_option maxHeartbeats 1600000 in
theorem later_any {w : World} {b : Nat} {c : Fc} (R : Fa w b c) (O : c.E.Ok) {t : Int} (h0 : 0 ≤ t) (h1 : t ≤ 1000) :
    Calls Tryz.prog 337 #[ptr1 b, .int .i64 t] w (Did w b (c.est ⟨c.E.has, c.E.s + (t - c.E.s.tdiv 8), c.E.v + (mag (t - c.E.s.tdiv 8) - c.E.v.tdiv 4), c.E.d⟩)) := by
  have f1 := R.fz 2
  have f2 := R.fz 3
  have c1 := R.c2
  have c2 := R.c3
  have o1 := O.s0
  have o2 := O.s1
  have o3 := O.v0
  have o4 := O.v1
  have h8 := td8 o1
  have h4 := td4 o3
  have HR := Lib.hid R
  have hw0 : IntKind.i64.wrap (c.E.s.tdiv 8) = c.E.s.tdiv 8 := by rw [IntKind.wrap_i64]; omega
  have hw1 : IntKind.i64.wrap (t - c.E.s.tdiv 8) = t - c.E.s.tdiv 8 := by rw [IntKind.wrap_i64]; omega
  have hw2 : IntKind.i64.wrap (c.E.s + (t - c.E.s.tdiv 8)) = c.E.s + (t - c.E.s.tdiv 8) := by rw [IntKind.wrap_i64]; omega
  have HX : Hid (-1000 ≤ t - c.E.s.tdiv 8 ∧ t - c.E.s.tdiv 8 ≤ 1000) := Lib.hid (by omega)
  have hw4 : IntKind.i64.wrap (c.E.v.tdiv 4) = c.E.v.tdiv 4 := by rw [IntKind.wrap_i64]; omega
  have HV : Hid (0 ≤ c.E.v ∧ c.E.v ≤ 4000 ∧ c.E.v.tdiv 4 = c.E.v / 4) := Lib.hid ⟨o3, o4, h4⟩
  clear R O o1 o2 o3 o4 h8 h4 h0 h1
  unfold ptr1 mag
  go_enter Tryz.func337, Tryz.ntmps337
  go_wp2_with fail
  have f2' : (w.setCell ⟨b, 2, none⟩ (.int .i64 (c.E.s + (t - c.E.s.tdiv 8)))).frozen? ⟨b, 3, none⟩ = false := (HR.out.set1 _).fz 3
  have c2' : (w.setCell ⟨b, 2, none⟩ (.int .i64 (c.E.s + (t - c.E.s.tdiv 8)))).cell? ⟨b, 3, none⟩ = some (.int .i64 c.E.v) := (HR.out.set1 _).c3
  have HR1 := Lib.hid (HR.out.set1 (c.E.s + (t - c.E.s.tdiv 8)))
  have HC := Lib.hid (ch_set w b 2 (.int .i64 (c.E.s + (t - c.E.s.tdiv 8))))
  clear f1 f2 c1 c2 HR hw1 hw2
  have hx := HX.out
  have hv := HV.out
  generalize t - c.E.s.tdiv 8 = x at *
  generalize w.setCell ⟨b, 2, none⟩ (.int .i64 (c.E.s + x)) = w2 at *
  have hw3 : IntKind.i64.wrap (-x) = -x := by rw [IntKind.wrap_i64]; omega
  have hw5 : IntKind.i64.wrap (max x (-x) - c.E.v.tdiv 4) = max x (-x) - c.E.v.tdiv 4 := by rw [IntKind.wrap_i64]; omega
  have hw6 : IntKind.i64.wrap (c.E.v + (max x (-x) - c.E.v.tdiv 4)) = c.E.v + (max x (-x) - c.E.v.tdiv 4) := by rw [IntKind.wrap_i64]; omega
  clear hx hv
  go_still_tail 15, (by kernel_rfl)
  change wpList _ _ _ _ _ w2.drew
  have HR2 := Lib.hid HR1.out.drew
  have HC2 := Lib.hid HC.out.drew
  have f3 : w2.drew.frozen? ⟨b, 3, none⟩ = false := f2'
  have c3 : w2.drew.cell? ⟨b, 3, none⟩ = some (.int .i64 c.E.v) := c2'
  clear HR1 HC f2' c2'
  generalize w2.drew = w3 at *
  go_wp2_with fail
  go_end0
  refine ⟨rfl, ?_, ?_⟩
  · exact HR2.out.set2 (c.E.v + (max x (-x) - c.E.v.tdiv 4))
  · exact HC2.out.set 3 _

set_option maxHeartbeats 1600000 in
theorem Sample_any {w : World} {b : Nat} {c : Fc} (R : Fa w b c) (O : c.E.Ok) (t : Int) :
    Calls Tryz.prog 281 #[ptr1 b, .int .i64 t] w (Did w b (c.est (c.E.smp t))) := by
  have hb := held_bd t
  have hmf : ∀ (fn : Fn) (first cap : Array Value) (w : World), (Instr.makeFunc fn first cap).run Tryz.prog w = .ok (.func fn first cap) w := fun _ _ _ _ => rfl
  have c0 := R.c1
  cases he : c.E.has
  · have HF := Lib.hid (first_any R hb.1 hb.2)
    have hs : c.E.smp t = ⟨true, held t * 8, held t * 2, c.E.d⟩ := by unfold Es.smp; rw [if_neg (by rw [he]; decide)]
    rw [he] at c0
    rw [hs]
    clear hs R O hb he
    unfold held ptr1 at *
    go_enter Tryz.func281, Tryz.ntmps281
    go_wp2_with (first | (go_at_call 336; refine HF.out.mono ?_; rintro e w' ⟨rfl, h1, h2⟩))
    go_end0
    exact ⟨rfl, h1, h2⟩
  · have HF := Lib.hid (later_any R O hb.1 hb.2)
    have hs : c.E.smp t = ⟨c.E.has, c.E.s + (held t - c.E.s.tdiv 8), c.E.v + (mag (held t - c.E.s.tdiv 8) - c.E.v.tdiv 4), c.E.d⟩ := by unfold Es.smp; rw [if_pos he, he]
    rw [he] at c0
    rw [hs]
    clear hs R O hb he
    unfold held ptr1 at *
    go_enter Tryz.func281, Tryz.ntmps281
    go_wp2_with (first | (go_at_call 337; refine HF.out.mono ?_; rintro e w' ⟨rfl, h1, h2⟩))
    go_end0
    exact ⟨rfl, h1, h2⟩

set_option maxHeartbeats 1600000 in
theorem Back_any {w : World} {b : Nat} {c : Fc} (R : Fa w b c) (hd : c.E.d < 1000000) :
    Calls Tryz.prog 314 #[ptr1 b] w (Did w b (c.est c.E.back)) := by
  have c3 := R.c4
  have f3 := R.fz 4
  have hw : IntKind.i64.wrap ((c.E.d : Int) + 1) = (c.E.d : Int) + 1 := by rw [IntKind.wrap_i64]; omega
  have HR := Lib.hid R
  clear R hd
  unfold ptr1
  go_enter Tryz.func314, Tryz.ntmps314
  go_wp2_with fail
  go_end0
  exact ⟨rfl, HR.out.set3 (c.E.d + 1), ch_set w b 4 _⟩

set_option maxHeartbeats 1600000 in
theorem Fresh_any {w : World} {b : Nat} {c : Fc} (R : Fa w b c) :
    Calls Tryz.prog 283 #[ptr1 b] w (Did w b (c.est c.E.fresh)) := by
  have c3 := R.c4
  have f3 := R.fz 4
  have HR := Lib.hid R
  clear R
  unfold ptr1
  go_enter Tryz.func283, Tryz.ntmps283
  go_wp2_with fail
  go_end0
  exact ⟨rfl, HR.out.set3 0, ch_set w b 4 _⟩

set_option maxHeartbeats 1600000 in
theorem Smooth_any {w : World} {b : Nat} {c : Fc} (R : Fa w b c) :
    Calls Tryz.prog 348 #[ptr1 b] w fun e w' => e = .returned (.int .i64 c.E.told) ∧ Below w.heap.size w w' := by
  have c0 := R.c1
  have c1 := R.c2
  clear R
  unfold ptr1 Es.told
  cases he : c.E.has <;> rw [he] at c0
  · rw [if_neg (by decide)]
    clear he
    go_enter Tryz.func348, Tryz.ntmps348
    go_wp2_with fail
    go_ret
    exact ⟨rfl, Below.refl _ _⟩
  · rw [if_pos rfl]
    clear he
    go_enter Tryz.func348, Tryz.ntmps348
    go_wp2_with fail
    go_ret
    exact ⟨rfl, Below.refl _ _⟩

set_option maxHeartbeats 1600000 in
theorem single_any {w : World} {b : Nat} {c : Fc} (R : Fa w b c) (O : c.E.Ok) :
    Calls Tryz.prog 308 #[ptr1 b] w fun e w' => e = .returned (.int .i64 (min c.E.one 16)) ∧ Below w.heap.size w w' := by
  have c0 := R.c1
  have c1 := R.c2
  have c2 := R.c3
  have o1 := O.s0
  have o2 := O.s1
  have o3 := O.v0
  have o4 := O.v1
  have h8 := td8 o1
  have hw0 : IntKind.i64.wrap (c.E.s.tdiv 8) = c.E.s.tdiv 8 := by rw [IntKind.wrap_i64]; omega
  have hw1 : IntKind.i64.wrap (c.E.s.tdiv 8 + max c.E.v 1) = c.E.s.tdiv 8 + max c.E.v 1 := by rw [IntKind.wrap_i64]; omega
  clear R O o1 o2 o3 o4 h8
  unfold ptr1 Es.one
  cases he : c.E.has <;> rw [he] at c0
  · rw [if_neg (by decide)]
    clear he hw0 hw1
    go_enter Tryz.func308, Tryz.ntmps308
    go_wp2_with fail
    go_ret
    exact ⟨rfl, Below.refl _ _⟩
  · rw [if_pos rfl]
    clear he
    go_enter Tryz.func308, Tryz.ntmps308
    go_wp2_with fail
    go_still_tail 11, (by kernel_rfl)
    change wpList _ _ _ _ _ w.drew
    go_wp2_with fail
    go_ret
    exact ⟨rfl, (Below.refl _ _).drew⟩

set_option maxHeartbeats 1600000 in
theorem Wait_any {w : World} {b : Nat} {c : Fc} (R : Fa w b c) (O : c.E.Ok) :
    Calls Tryz.prog 255 #[ptr1 b] w fun e w' => e = .returned (.int .i64 c.E.wt) ∧ Below w.heap.size w w' := by
  have HS := Lib.hid (single_any R O)
  have HW := Lib.hid (dbl_min c.E.one c.E.d)
  have h1 := one_bd O
  have HD := Lib.hid O.d1
  have HR := Lib.hid R
  have ew : c.E.wt = dbl c.E.d c.E.one := rfl
  rw [ew]
  clear R O ew
  generalize c.E.one = x at *
  unfold ptr1 at *
  go_enter Tryz.func255, Tryz.ntmps255
  go_wp2_with (first | (go_at_call 308; refine HS.out.mono ?_; rintro e w1 ⟨rfl, b1⟩))
  have HB := Lib.hid b1
  have HX : Hid (2 ≤ min x 16 ∧ min x 16 ≤ 5000) := Lib.hid (by omega)
  clear b1 h1 HS
  generalize min x 16 = y at *
  go_loopw [3, 4] (fun s3 s4 wr => ∃ (k : Nat) (z : Int), k ≤ c.E.d ∧ s4 = .int .i64 (k : Int) ∧ s3 = .int .i64 z ∧ 2 ≤ z ∧ z ≤ 5000 ∧ dbl (c.E.d - k) z = dbl c.E.d y ∧ Below w.heap.size w wr) (fun _ ix _ => c.E.d - (intOf ix).toNat)
  case atStart => exact ⟨0, y, Nat.zero_le _, rfl, rfl, HX.out.1, HX.out.2, rfl, HB.out⟩
  case round =>
    obtain ⟨k, z, hk, rfl, rfl, z0, z1, hz, hb⟩ := hrel
    have c3 := (HR.out.below hb).c4
    have hd := HD.out
    have HZ := Lib.hid hz
    have HB2 := Lib.hid hb
    clear hz hb
    by_cases hkd : k < c.E.d
    · by_cases hz16 : z < 16
      · have hw1 : IntKind.i64.wrap (z * 2) = z * 2 := by rw [IntKind.wrap_i64]; omega
        go_wp2_with fail
        go_roundw
        case rel =>
          refine ⟨k + 1, z * 2, by omega, by go_num, rfl, by omega, by omega, ?_, HB2.out⟩
          rw [← HZ.out, show c.E.d - k = (c.E.d - (k + 1)) + 1 from by omega, dbl_step hz16, Int.mul_comm]
        case measure => simp [intOf]; omega
      · go_wp2_with fail
        go_ret
        refine ⟨?_, HB2.out⟩
        rw [← HW.out, ← HZ.out, dbl_big (by omega), show min z 16 = 16 from by omega]
        rfl
    · obtain rfl : k = c.E.d := by omega
      go_wp2_with fail
      go_ret
      refine ⟨?_, HB2.out⟩
      rw [← HW.out, ← HZ.out, Nat.sub_self]
      rfl

theorem bf_on {a b : Nat} (ha : a < 4294967296) (hb : b < 4294967296) : decide ((st (on a 1) b : Int) < 2147483647) = bf a b := by
  unfold bf
  have h1 := st_int (on_lt a 1) hb
  have h2 := st_int ha hb
  rw [on_int] at h1
  by_cases h : 1 ≤ st a b ∧ st a b < 2147483648
  · rw [decide_eq_true h, decide_eq_true (by omega)]
  · rw [decide_eq_false h, decide_eq_false (by omega)]

set_option maxHeartbeats 800000 in
theorem Before_any (a b : Nat) (w : World) (ha : a < 4294967296) (hb : b < 4294967296) :
    Calls Tryz.prog 222 #[.int .u32 (a : Int), .int .u32 (b : Int)] w fun e w' => e = .returned (.bool (bf a b)) ∧ Below w.heap.size w w' := by
  have HO := Lib.hid (fun W => On_any a 1 W ha (by omega))
  have HI := Lib.hid (fun W => has_any (on a 1) b 2147483647 W (on_lt a 1) hb (by omega))
  rw [bf_on ha hb] at HI
  have hlt := on_lt a 1
  generalize on a 1 = x at *
  generalize bf a b = d at *
  go_enter Tryz.func222, Tryz.ntmps222
  go_wp2_with (first
    | (go_at_call 126; refine (HO.out _).mono ?_; rintro e w1 ⟨rfl, b1⟩)
    | (go_at_call 286; refine (HI.out _).mono ?_; rintro e w2 ⟨rfl, b2⟩))
  go_ret
  exact ⟨rfl, below_trans (below_trans b1 (below_a w1 _)) b2⟩

end Go.Proofs.YtiehngeeamhlmaaGreatDoor.LF

namespace Go.Proofs.YtiehngeeamhlmaaGreatDoor.LF
set_option linter.unusedVariables false
set_option linter.unusedSimpArgs false
set_option maxRecDepth 20000
open Go.RowKit Go.Lib

def dl (f d : Int) : Value := .agg #[.int .i64 f, .int .i64 d]

set_option maxHeartbeats 1600000 in
theorem is_any (f d : Int) (w : World) : Calls Tryz.prog 254 #[dl f d] w fun e w' => e = .returned (.bool (decide (0 < d))) ∧ Below w.heap.size w w' := by
  unfold dl
  by_cases h : 0 < d
  · rw [decide_eq_true h]
    go_enter Tryz.func254, Tryz.ntmps254
    go_wp2_with fail
    go_ret
    exact ⟨rfl, below_a w _⟩
  · rw [decide_eq_false h]
    go_enter Tryz.func254, Tryz.ntmps254
    go_wp2_with fail
    go_ret
    exact ⟨rfl, below_a w _⟩

/-- Where a deadline is. -/
def due (f d : Int) : Value := if 0 < d then .tuple #[.int .i64 (f + d), .bool true] else .tuple #[.int .i64 0, .bool false]
set_option maxHeartbeats 1600000 in
theorem at_any (f d : Int) (w : World) (hf : 0 ≤ f ∧ f ≤ 1152921504606846976) (hd : 0 ≤ d ∧ d ≤ 16) : Calls Tryz.prog 251 #[dl f d] w fun e w' => e = .returned (due f d) ∧ Below w.heap.size w w' := by
  unfold due
  have HI := Lib.hid (fun W => is_any f d W)
  unfold dl at *
  by_cases h : 0 < d
  · rw [decide_eq_true h] at HI
    rw [if_pos h]
    have hw1 : IntKind.i64.wrap (9223372036854775807 - d) = 9223372036854775807 - d := by rw [IntKind.wrap_i64]; omega
    have hm : min f (9223372036854775807 - d) = f := by omega
    have hw2 : IntKind.i64.wrap (f + d) = f + d := by rw [IntKind.wrap_i64]; omega
    clear h hf hd
    go_enter Tryz.func251, Tryz.ntmps251
    go_wp2_with fail
    refine (HI.out _).mono ?_
    rintro e w1 ⟨rfl, b1⟩
    have c0 : w1.cell? ⟨w.heap.size, 0, none⟩ = some (.int .i64 f) := (b1.cell (by simp)).trans (by rw [cell_of_row _ w.heap.size 0 _ _ (0, 0) (heap_alloc_new w _)]; rfl)
    have c1 : w1.cell? ⟨w.heap.size, 1, none⟩ = some (.int .i64 d) := (b1.cell (by simp)).trans (by rw [cell_of_row _ w.heap.size 1 _ _ (0, 0) (heap_alloc_new w _)]; rfl)
    have HB := Lib.hid (below_trans (below_a w _) b1)
    clear b1 HI
    go_wp2_with fail
    go_ret2
    exact ⟨rfl, HB.out⟩
  · rw [decide_eq_false h] at HI
    rw [if_neg h]
    clear h hf hd
    go_enter Tryz.func251, Tryz.ntmps251
    go_wp2_with fail
    refine (HI.out _).mono ?_
    rintro e w1 ⟨rfl, b1⟩
    have HB := Lib.hid (below_trans (below_a w _) b1)
    clear b1 HI
    go_wp2_with fail
    go_ret2
    exact ⟨rfl, HB.out⟩

/-- How many ticks from one to a later one. -/
def tks (a b : Int) : Int := if b ≤ a then 0 else b - a
set_option maxHeartbeats 1600000 in
theorem ticks_any (a b : Int) (w : World) (ha : 0 ≤ a ∧ a ≤ 1152921504606846976) (hb : 0 ≤ b ∧ b ≤ 1152921504606846976) : Calls Tryz.prog 282 #[.int .i64 a, .int .i64 b] w fun e w' => e = .returned (.int .i64 (tks a b)) ∧ w' = w := by
  unfold tks
  by_cases h : b ≤ a
  · rw [if_pos h]
    go_enter Tryz.func282, Tryz.ntmps282
    go_wp2_with fail
    go_ret
    exact ⟨rfl, rfl⟩
  · rw [if_neg h]
    have h' : decide (b ≤ a) = false := decide_eq_false h
    have h1 : IntKind.u64.wrap b = b := by rw [IntKind.wrap_u64]; omega
    have h2 : IntKind.u64.wrap a = a := by rw [IntKind.wrap_u64]; omega
    have h3 : IntKind.u64.wrap (b - a) = b - a := by rw [IntKind.wrap_u64]; omega
    have hm : min (b - a) 9223372036854775807 = b - a := by omega
    have h4 : IntKind.i64.wrap (b - a) = b - a := by rw [IntKind.wrap_i64]; omega
    clear h ha hb
    go_enter Tryz.func282, Tryz.ntmps282
    go_wp2_with fail
    go_ret
    exact ⟨rfl, rfl⟩
end Go.Proofs.YtiehngeeamhlmaaGreatDoor.LF

namespace Go.Proofs.YtiehngeeamhlmaaGreatDoor.LF
set_option linter.unusedVariables false
set_option linter.unusedSimpArgs false
set_option maxRecDepth 20000
open Go.RowKit Go.Lib

set_option maxHeartbeats 1600000 in
theorem reached_any (f d t : Int) (w : World) (hf : 0 ≤ f ∧ f ≤ 1152921504606846976) (ht : 0 ≤ t ∧ t ≤ 1152921504606846976) : Calls Tryz.prog 313 #[dl f d, .int .i64 t] w fun e w' => e = .returned (.bool (decide (0 < d ∧ f + d ≤ t))) ∧ Below w.heap.size w w' := by
  have HI := Lib.hid (fun W => is_any f d W)
  have HT := Lib.hid (fun W => ticks_any f t W hf ht)
  unfold dl at *
  by_cases h : 0 < d
  · rw [decide_eq_true h] at HI
    have e1 : decide (0 < d ∧ f + d ≤ t) = decide (d ≤ tks f t) := by
      unfold tks
      split
      · rw [decide_eq_false (by omega), decide_eq_false (by omega)]
      · by_cases h2 : f + d ≤ t
        · rw [decide_eq_true (by omega), decide_eq_true (by omega)]
        · rw [decide_eq_false (by omega), decide_eq_false (by omega)]
    rw [e1]
    clear e1 h hf ht
    generalize tks f t = x at *
    go_enter Tryz.func313, Tryz.ntmps313
    go_wp2_with fail
    generalize hgz : w.heap.size = g at *
    have s0 : (w.alloc (.cells #[.int .i64 f, .int .i64 d] 202)).drew.cell? ⟨g, 0, none⟩ = some (.int .i64 f) ∧ (w.alloc (.cells #[.int .i64 f, .int .i64 d] 202)).drew.cell? ⟨g, 1, none⟩ = some (.int .i64 d) := by
      subst hgz
      exact ⟨by show World.cell? (w.alloc _) _ = _; rw [cell_of_row _ w.heap.size 0 _ _ (0, 0) (heap_alloc_new w _)]; rfl, by show World.cell? (w.alloc _) _ = _; rw [cell_of_row _ w.heap.size 1 _ _ (0, 0) (heap_alloc_new w _)]; rfl⟩
    have hg1 : g < (w.alloc (.cells #[.int .i64 f, .int .i64 d] 202)).drew.heap.size := by
      subst hgz
      show w.heap.size < (w.alloc _).heap.size
      simp
    have HB : Hid (Below g w (w.alloc (.cells #[.int .i64 f, .int .i64 d] 202)).drew) := Lib.hid (hgz ▸ (below_a w _).drew)
    have hgs : g ≤ (w.alloc (.cells #[.int .i64 f, .int .i64 d] 202)).drew.heap.size := by omega
    generalize hwd : (w.alloc (.cells #[.int .i64 f, .int .i64 d] 202)).drew = wd at *
    refine wp_region_noPanic ?_
    refine wp_region_held_drew (S := fun W => W.cell? ⟨g, 0, none⟩ = some (.int .i64 f) ∧ W.cell? ⟨g, 1, none⟩ = some (.int .i64 d)) (by kernel_rfl) (by rw [hwd]; exact s0) (fun _ => ?_)
    rw [hwd]
    clear hwd
    refine held_take (i := 0) (v := .agg #[.int .i64 f, .int .i64 d]) (some 5) rfl rfl (by kernel_rfl) (by kernel_rfl) (by kernel_rfl) (fun _ _ _ h => h) (Or.inl ⟨by rfl, fun W hW => by have hc := hW.1; have hd := hW.2; go_simp⟩) s0 ?_
    simp only [Act.put, List.setIfInBounds_toArray, List.set_cons_zero, List.set_cons_succ]
    refine wpAnyH_ready (rs := [1]) (by kernel_rfl) (by simp) ?_
    refine AllReadyH.cons rfl (fun K hK => ?_) AllReadyH.nil
    go_simp
    refine (HI.out _).mono ?_
    rintro e w1 ⟨rfl, b1⟩
    have s1 : w1.cell? ⟨g, 0, none⟩ = some (.int .i64 f) ∧ w1.cell? ⟨g, 1, none⟩ = some (.int .i64 d) := ⟨(b1.cell hg1).trans s0.1, (b1.cell hg1).trans s0.2⟩
    have HB1 := Lib.hid (HB.out.trans (b1.mono hgs))
    clear b1
    dsimp only
    refine hK.out _ _ s1 (fun _ => ?_)
    clear hK
    try simp only [Act.put, List.setIfInBounds_toArray, List.set_cons_zero, List.set_cons_succ]
    refine held_take (i := 2) (v := .bool true) (some 7) rfl rfl (by kernel_rfl) (by kernel_rfl) (by kernel_rfl) (fun _ _ _ h => h) (Or.inl ⟨by rfl, fun W hW => by go_simp⟩) s1 ?_
    simp only [Act.put, List.setIfInBounds_toArray, List.set_cons_zero, List.set_cons_succ]
    refine held_take (i := 3) (v := .pointer (some ⟨g, 0, none⟩)) (some 8) rfl rfl (by kernel_rfl) (by kernel_rfl) (by kernel_rfl) (fun _ _ _ h => h) (Or.inl ⟨by rfl, fun W hW => by go_simp⟩) s1 ?_
    simp only [Act.put, List.setIfInBounds_toArray, List.set_cons_zero, List.set_cons_succ]
    refine held_take (i := 5) (v := .int .i64 t) (some 10) rfl rfl (by kernel_rfl) (by kernel_rfl) (by kernel_rfl) (fun _ _ _ h => h) (Or.inl ⟨by rfl, fun W hW => by go_simp⟩) s1 ?_
    simp only [Act.put, List.setIfInBounds_toArray, List.set_cons_zero, List.set_cons_succ]
    refine held_take (i := 7) (v := .pointer (some ⟨g, 1, none⟩)) (some 12) rfl rfl (by kernel_rfl) (by kernel_rfl) (by kernel_rfl) (fun _ _ _ h => h) (Or.inl ⟨by rfl, fun W hW => by go_simp⟩) s1 ?_
    simp only [Act.put, List.setIfInBounds_toArray, List.set_cons_zero, List.set_cons_succ]
    refine held_take (i := 4) (v := .int .i64 f) (some 9) rfl rfl (by kernel_rfl) (by kernel_rfl) (by kernel_rfl) (fun _ _ _ h => h) (Or.inl ⟨by rfl, fun W hW => by have hc := hW.1; go_simp⟩) s1 ?_
    simp only [Act.put, List.setIfInBounds_toArray, List.set_cons_zero, List.set_cons_succ]
    refine held_take (i := 8) (v := .int .i64 d) (some 13) rfl rfl (by kernel_rfl) (by kernel_rfl) (by kernel_rfl) (fun _ _ _ h => h) (Or.inl ⟨by rfl, fun W hW => by have hc := hW.2; go_simp⟩) s1 ?_
    simp only [Act.put, List.setIfInBounds_toArray, List.set_cons_zero, List.set_cons_succ]
    refine wpAnyH_ready (rs := [6]) (by kernel_rfl) (by simp) ?_
    refine AllReadyH.cons rfl (fun K hK => ?_) AllReadyH.nil
    go_simp
    refine (HT.out _).mono ?_
    rintro e w2 ⟨rfl, rfl⟩
    dsimp only
    refine hK.out _ _ s1 (fun _ => ?_)
    clear hK
    try simp only [Act.put, List.setIfInBounds_toArray, List.set_cons_zero, List.set_cons_succ]
    refine held_take (i := 9) (v := .bool (decide (d ≤ x))) (some 14) rfl rfl (by kernel_rfl) (by kernel_rfl) (by kernel_rfl) (fun _ _ _ h => h) (Or.inl ⟨by rfl, fun W hW => by go_simp⟩) s1 ?_
    simp only [Act.put, List.setIfInBounds_toArray, List.set_cons_zero, List.set_cons_succ]
    refine held_take (i := 10) (v := .bool (decide (d ≤ x))) (some 15) rfl rfl (by kernel_rfl) (by kernel_rfl) (by kernel_rfl) (fun _ _ _ h => h) (Or.inl ⟨by rfl, fun W hW => by go_simp⟩) s1 ?_
    simp only [Act.put, List.setIfInBounds_toArray, List.set_cons_zero, List.set_cons_succ]
    refine held_take (i := 11) (v := .bool (decide (d ≤ x))) (some 4) rfl rfl (by kernel_rfl) (by kernel_rfl) (by kernel_rfl) (fun _ _ _ h => h) (Or.inl ⟨by rfl, fun W hW => by go_simp⟩) s1 ?_
    simp only [Act.put, List.setIfInBounds_toArray, List.set_cons_zero, List.set_cons_succ]
    refine wpAnyH_done (by kernel_rfl) ?_ _
    refine NoPanic.normal ?_
    go_wp2_with fail
    go_ret
    exact ⟨rfl, by rw [hgz]; exact HB1.out⟩
  · rw [decide_eq_false h] at HI
    rw [decide_eq_false (by omega)]
    clear h hf ht
    go_enter Tryz.func313, Tryz.ntmps313
    go_wp2_with fail
    generalize hgz : w.heap.size = g at *
    have s0 : (w.alloc (.cells #[.int .i64 f, .int .i64 d] 202)).drew.cell? ⟨g, 0, none⟩ = some (.int .i64 f) ∧ (w.alloc (.cells #[.int .i64 f, .int .i64 d] 202)).drew.cell? ⟨g, 1, none⟩ = some (.int .i64 d) := by
      subst hgz
      exact ⟨by show World.cell? (w.alloc _) _ = _; rw [cell_of_row _ w.heap.size 0 _ _ (0, 0) (heap_alloc_new w _)]; rfl, by show World.cell? (w.alloc _) _ = _; rw [cell_of_row _ w.heap.size 1 _ _ (0, 0) (heap_alloc_new w _)]; rfl⟩
    have hg1 : g < (w.alloc (.cells #[.int .i64 f, .int .i64 d] 202)).drew.heap.size := by
      subst hgz
      show w.heap.size < (w.alloc _).heap.size
      simp
    have HB : Hid (Below g w (w.alloc (.cells #[.int .i64 f, .int .i64 d] 202)).drew) := Lib.hid (hgz ▸ (below_a w _).drew)
    have hgs : g ≤ (w.alloc (.cells #[.int .i64 f, .int .i64 d] 202)).drew.heap.size := by omega
    generalize hwd : (w.alloc (.cells #[.int .i64 f, .int .i64 d] 202)).drew = wd at *
    refine wp_region_noPanic ?_
    refine wp_region_held_drew (S := fun W => W.cell? ⟨g, 0, none⟩ = some (.int .i64 f) ∧ W.cell? ⟨g, 1, none⟩ = some (.int .i64 d)) (by kernel_rfl) (by rw [hwd]; exact s0) (fun _ => ?_)
    rw [hwd]
    clear hwd
    refine held_take (i := 0) (v := .agg #[.int .i64 f, .int .i64 d]) (some 5) rfl rfl (by kernel_rfl) (by kernel_rfl) (by kernel_rfl) (fun _ _ _ h => h) (Or.inl ⟨by rfl, fun W hW => by have hc := hW.1; have hd := hW.2; go_simp⟩) s0 ?_
    simp only [Act.put, List.setIfInBounds_toArray, List.set_cons_zero, List.set_cons_succ]
    refine wpAnyH_ready (rs := [1]) (by kernel_rfl) (by simp) ?_
    refine AllReadyH.cons rfl (fun K hK => ?_) AllReadyH.nil
    go_simp
    refine (HI.out _).mono ?_
    rintro e w1 ⟨rfl, b1⟩
    have s1 : w1.cell? ⟨g, 0, none⟩ = some (.int .i64 f) ∧ w1.cell? ⟨g, 1, none⟩ = some (.int .i64 d) := ⟨(b1.cell hg1).trans s0.1, (b1.cell hg1).trans s0.2⟩
    have HB1 := Lib.hid (HB.out.trans (b1.mono hgs))
    clear b1
    dsimp only
    refine hK.out _ _ s1 (fun _ => ?_)
    clear hK
    try simp only [Act.put, List.setIfInBounds_toArray, List.set_cons_zero, List.set_cons_succ]
    refine held_take (i := 2) (v := .bool false) (some 7) rfl rfl (by kernel_rfl) (by kernel_rfl) (by kernel_rfl) (fun _ _ _ h => h) (Or.inl ⟨by rfl, fun W hW => by go_simp⟩) s1 ?_
    simp only [Act.put, List.setIfInBounds_toArray, List.set_cons_zero, List.set_cons_succ]
    refine held_take (i := 3) (v := undef) (some 8) rfl rfl (by kernel_rfl) (by kernel_rfl) (by kernel_rfl) (fun _ _ _ h => h) (Or.inr ⟨by rfl, by rfl⟩) s1 ?_
    simp only [Act.put, List.setIfInBounds_toArray, List.set_cons_zero, List.set_cons_succ]
    refine held_take (i := 5) (v := undef) (some 10) rfl rfl (by kernel_rfl) (by kernel_rfl) (by kernel_rfl) (fun _ _ _ h => h) (Or.inr ⟨by rfl, by rfl⟩) s1 ?_
    simp only [Act.put, List.setIfInBounds_toArray, List.set_cons_zero, List.set_cons_succ]
    refine held_take (i := 7) (v := undef) (some 12) rfl rfl (by kernel_rfl) (by kernel_rfl) (by kernel_rfl) (fun _ _ _ h => h) (Or.inr ⟨by rfl, by rfl⟩) s1 ?_
    simp only [Act.put, List.setIfInBounds_toArray, List.set_cons_zero, List.set_cons_succ]
    refine held_take (i := 4) (v := undef) (some 9) rfl rfl (by kernel_rfl) (by kernel_rfl) (by kernel_rfl) (fun _ _ _ h => h) (Or.inr ⟨by rfl, by rfl⟩) s1 ?_
    simp only [Act.put, List.setIfInBounds_toArray, List.set_cons_zero, List.set_cons_succ]
    refine held_take (i := 8) (v := undef) (some 13) rfl rfl (by kernel_rfl) (by kernel_rfl) (by kernel_rfl) (fun _ _ _ h => h) (Or.inr ⟨by rfl, by rfl⟩) s1 ?_
    simp only [Act.put, List.setIfInBounds_toArray, List.set_cons_zero, List.set_cons_succ]
    refine held_take (i := 6) (v := undef) (some 11) rfl rfl (by kernel_rfl) (by kernel_rfl) (by kernel_rfl) (fun _ _ _ h => h) (Or.inr ⟨by rfl, by rfl⟩) s1 ?_
    simp only [Act.put, List.setIfInBounds_toArray, List.set_cons_zero, List.set_cons_succ]
    refine held_take (i := 9) (v := undef) (some 14) rfl rfl (by kernel_rfl) (by kernel_rfl) (by kernel_rfl) (fun _ _ _ h => h) (Or.inr ⟨by rfl, by rfl⟩) s1 ?_
    simp only [Act.put, List.setIfInBounds_toArray, List.set_cons_zero, List.set_cons_succ]
    refine held_take (i := 10) (v := .bool false) (some 15) rfl rfl (by kernel_rfl) (by kernel_rfl) (by kernel_rfl) (fun _ _ _ h => h) (Or.inl ⟨by rfl, fun W hW => by go_simp⟩) s1 ?_
    simp only [Act.put, List.setIfInBounds_toArray, List.set_cons_zero, List.set_cons_succ]
    refine held_take (i := 11) (v := .bool false) (some 4) rfl rfl (by kernel_rfl) (by kernel_rfl) (by kernel_rfl) (fun _ _ _ h => h) (Or.inl ⟨by rfl, fun W hW => by go_simp⟩) s1 ?_
    simp only [Act.put, List.setIfInBounds_toArray, List.set_cons_zero, List.set_cons_succ]
    refine wpAnyH_done (by kernel_rfl) ?_ _
    refine NoPanic.normal ?_
    go_wp2_with fail
    go_ret
    exact ⟨rfl, by rw [hgz]; exact HB1.out⟩

section
variable {w : World} {b : Nat} {c : Fc}
set_option maxHeartbeats 1600000 in
theorem State_any (h : Fa w b c) : Calls Tryz.prog 167 #[ptr b] w fun e w' => e = .returned (.int .i64 (c.st : Int)) ∧ w' = w := by
  have c5 := h.c5
  clear h
  unfold ptr
  go_enter Tryz.func167, Tryz.ntmps167
  go_wp2_with fail
  go_ret
  exact ⟨rfl, rfl⟩

set_option maxHeartbeats 1600000 in
theorem At_any (h : Fa w b c) (hf : 0 ≤ c.df ∧ c.df ≤ 1152921504606846976) (hd : 0 ≤ c.dw ∧ c.dw ≤ 16) : Calls Tryz.prog 185 #[ptr b] w fun e w' => e = .returned (due c.df c.dw) ∧ Below w.heap.size w w' := by
  have HA := Lib.hid (at_any c.df c.dw w hf hd)
  have c8 := h.c8
  have c9 := h.c9
  clear h hf hd
  generalize c.df = f at *
  generalize c.dw = d at *
  unfold ptr dl due at *
  by_cases h : 0 < d
  · simp only [if_pos h] at *
    clear h
    go_enter Tryz.func185, Tryz.ntmps185
    go_wp2_with fail
    refine HA.out.mono ?_
    rintro e w1 ⟨rfl, b1⟩
    go_wp2_with fail
    go_ret2
    exact ⟨rfl, b1⟩
  · simp only [if_neg h] at *
    clear h
    go_enter Tryz.func185, Tryz.ntmps185
    go_wp2_with fail
    refine HA.out.mono ?_
    rintro e w1 ⟨rfl, b1⟩
    go_wp2_with fail
    go_ret2
    exact ⟨rfl, b1⟩

set_option maxHeartbeats 1600000 in
theorem within_any (h : Fa w b c) (lo hi : Int) : Calls Tryz.prog 159 #[ptr b, .int .i64 lo, .int .i64 hi] w fun e w' => e = .returned (.bool (decide (lo ≤ c.st ∧ (c.st : Int) ≤ hi))) ∧ w' = w := by
  have c5 := h.c5
  clear h
  generalize (c.st : Int) = s at *
  unfold ptr
  by_cases h1 : lo ≤ s
  · by_cases h2 : s ≤ hi
    · rw [decide_eq_true ⟨h1, h2⟩]
      go_enter Tryz.func159, Tryz.ntmps159
      go_wp2_with fail
      go_ret
      exact ⟨rfl, rfl⟩
    · rw [decide_eq_false (by omega)]
      have h2' : decide (s ≤ hi) = false := decide_eq_false h2
      go_enter Tryz.func159, Tryz.ntmps159
      go_wp2_with fail
      go_ret
      exact ⟨rfl, rfl⟩
  · rw [decide_eq_false (by omega)]
    have h1' : decide (lo ≤ s) = false := decide_eq_false h1
    go_enter Tryz.func159, Tryz.ntmps159
    go_wp2_with fail
    go_ret
    exact ⟨rfl, rfl⟩

set_option maxHeartbeats 1600000 in
theorem fended_any (h : Fa w b c) : Calls Tryz.prog 158 #[ptr b] w fun e w' => e = .returned (.bool (decide (c.st = 10 ∨ c.st = 11))) ∧ w' = w := by
  have c5 := h.c5
  clear h
  generalize hs : c.st = s at *
  unfold ptr
  by_cases h1 : s = 10
  · subst h1
    go_enter Tryz.func158, Tryz.ntmps158
    go_wp2_with fail
    go_ret
    exact ⟨rfl, rfl⟩
  · have n1 : ((s : Int) == 10) = false := by rw [beq_eq_false_iff_ne]; omega
    by_cases h2 : s = 11
    · subst h2
      go_enter Tryz.func158, Tryz.ntmps158
      go_wp2_with fail
      go_ret
      exact ⟨rfl, rfl⟩
    · have n2 : ((s : Int) == 11) = false := by rw [beq_eq_false_iff_ne]; omega
      rw [decide_eq_false (by omega)]
      go_enter Tryz.func158, Tryz.ntmps158
      go_wp2_with fail
      go_ret
      exact ⟨rfl, rfl⟩

set_option maxHeartbeats 1600000 in
theorem sends_any (h : Fa w b c) : Calls Tryz.prog 237 #[ptr b] w fun e w' => e = .returned (.bool (decide (c.st = 3 ∨ c.st = 6))) ∧ w' = w := by
  have c5 := h.c5
  clear h
  generalize hs : c.st = s at *
  unfold ptr
  by_cases h1 : s = 3
  · subst h1
    go_enter Tryz.func237, Tryz.ntmps237
    go_wp2_with fail
    go_ret
    exact ⟨rfl, rfl⟩
  · have n1 : ((s : Int) == 3) = false := by rw [beq_eq_false_iff_ne]; omega
    by_cases h2 : s = 6
    · subst h2
      go_enter Tryz.func237, Tryz.ntmps237
      go_wp2_with fail
      go_ret
      exact ⟨rfl, rfl⟩
    · have n2 : ((s : Int) == 6) = false := by rw [beq_eq_false_iff_ne]; omega
      rw [decide_eq_false (by omega)]
      go_enter Tryz.func237, Tryz.ntmps237
      go_wp2_with fail
      go_ret
      exact ⟨rfl, rfl⟩

set_option maxHeartbeats 1600000 in
theorem takes_any (h : Fa w b c) : Calls Tryz.prog 223 #[ptr b] w fun e w' => e = .returned (.bool (decide (c.st = 3 ∨ c.st = 4 ∨ c.st = 5))) ∧ w' = w := by
  have c5 := h.c5
  clear h
  generalize hs : c.st = s at *
  unfold ptr
  by_cases h1 : s = 3
  · subst h1
    go_enter Tryz.func223, Tryz.ntmps223
    go_wp2_with fail
    go_ret
    exact ⟨rfl, rfl⟩
  · have n1 : ((s : Int) == 3) = false := by rw [beq_eq_false_iff_ne]; omega
    by_cases h2 : s = 4
    · subst h2
      go_enter Tryz.func223, Tryz.ntmps223
      go_wp2_with fail
      go_ret
      exact ⟨rfl, rfl⟩
    · have n2 : ((s : Int) == 4) = false := by rw [beq_eq_false_iff_ne]; omega
      by_cases h3 : s = 5
      · subst h3
        go_enter Tryz.func223, Tryz.ntmps223
        go_wp2_with fail
        go_ret
        exact ⟨rfl, rfl⟩
      · have n3 : ((s : Int) == 5) = false := by rw [beq_eq_false_iff_ne]; omega
        rw [decide_eq_false (by omega)]
        go_enter Tryz.func223, Tryz.ntmps223
        go_wp2_with fail
        go_ret
        exact ⟨rfl, rfl⟩

def Fc.at_ (c : Fc) (s : Nat) : Fc := { c with st := s }
def Fc.lin (c : Fc) (t : Int) : Fc := { c with st := 9, df := t, dw := 8 }
def Fc.fin_ (c : Fc) (s : Nat) : Fc := { c with st := s, df := 0, dw := 0 }
/-- What it leads to that a Fin is acknowledged; that the other one's came. -/
def Fc.fina (c : Fc) (t : Int) : Fc := if c.st = 4 then c.at_ 5 else if c.st = 7 then c.lin t else if c.st = 8 then c.fin_ 10 else c
def Fc.finc (c : Fc) (t : Int) : Fc := if c.st = 3 then c.at_ 6 else if c.st = 4 then c.at_ 7 else if c.st = 5 then c.lin t else c

set_option maxHeartbeats 1600000 in
theorem linger_any (h : Fa w b c) (t : Int) : Calls Tryz.prog 285 #[ptr b, .int .i64 t] w (Did w b (c.lin t)) := by
  have H := Lib.hid h
  have c5 := h.c5
  have c8 := h.c8
  have c9 := h.c9
  have f5 := h.fz 5
  have f8 := h.fz 8
  have f9 := h.fz 9
  clear h
  unfold ptr
  go_enter Tryz.func285, Tryz.ntmps285
  go_wp2_with fail
  go_end0
  exact ⟨rfl, ((H.out.set 5 _ (c.at_ 9) rfl).set 8 _ { c.at_ 9 with df := t } rfl).set 9 _ _ rfl, ((ch_set w b 5 _).set 8 _).set 9 _⟩

set_option maxHeartbeats 1600000 in
theorem end_any (h : Fa w b c) (s : Nat) : Calls Tryz.prog 160 #[ptr b, .int .i64 (s : Int)] w (Did w b (c.fin_ s)) := by
  have H := Lib.hid h
  have c5 := h.c5
  have c8 := h.c8
  have c9 := h.c9
  have f5 := h.fz 5
  have f8 := h.fz 8
  have f9 := h.fz 9
  clear h
  unfold ptr
  go_enter Tryz.func160, Tryz.ntmps160
  go_wp2_with fail
  go_end0
  exact ⟨rfl, ((H.out.set 5 _ (c.at_ s) rfl).set 8 _ { c.at_ s with df := 0 } rfl).set 9 _ _ rfl, ((ch_set w b 5 _).set 8 _).set 9 _⟩

theorem Did.same (h : Fa w b c) : Did w b c (.returned (.tuple #[])) w := ⟨rfl, h, Ch.refl _ _⟩

set_option maxHeartbeats 1600000 in
theorem finAcked_any (h : Fa w b c) (t : Int) : Calls Tryz.prog 220 #[ptr b, .int .i64 t] w (Did w b (c.fina t)) := by
  have H := Lib.hid h
  have HL := Lib.hid (linger_any h t)
  have HE := Lib.hid (end_any h 10)
  have c5 := h.c5
  have f5 := h.fz 5
  clear h
  unfold Fc.fina
  generalize hs : c.st = s at *
  unfold ptr at *
  by_cases h1 : s = 4
  · subst h1
    rw [if_pos rfl]
    go_enter Tryz.func220, Tryz.ntmps220
    go_wp2_with fail
    go_end0
    exact ⟨rfl, H.out.set 5 _ _ rfl, ch_set w b 5 _⟩
  · rw [if_neg h1]
    have n1 : ((s : Int) == 4) = false := by rw [beq_eq_false_iff_ne]; omega
    by_cases h2 : s = 7
    · subst h2
      rw [if_pos rfl]
      go_enter Tryz.func220, Tryz.ntmps220
      go_wp2_with fail
      refine HL.out.mono ?_
      rintro e w1 ⟨rfl, d1, d2⟩
      go_wp2_with fail
      go_end0
      exact ⟨rfl, d1, d2⟩
    · rw [if_neg h2]
      have n2 : ((s : Int) == 7) = false := by rw [beq_eq_false_iff_ne]; omega
      by_cases h3 : s = 8
      · subst h3
        rw [if_pos rfl]
        go_enter Tryz.func220, Tryz.ntmps220
        go_wp2_with fail
        refine HE.out.mono ?_
        rintro e w1 ⟨rfl, d1, d2⟩
        go_wp2_with fail
        go_end0
        exact ⟨rfl, d1, d2⟩
      · rw [if_neg h3]
        have n3 : ((s : Int) == 8) = false := by rw [beq_eq_false_iff_ne]; omega
        go_enter Tryz.func220, Tryz.ntmps220
        go_wp2_with fail
        go_end0
        exact Did.same H.out

set_option maxHeartbeats 1600000 in
theorem finCame_any (h : Fa w b c) (t : Int) : Calls Tryz.prog 224 #[ptr b, .int .i64 t] w (Did w b (c.finc t)) := by
  have H := Lib.hid h
  have HL := Lib.hid (linger_any h t)
  have c5 := h.c5
  have f5 := h.fz 5
  clear h
  unfold Fc.finc
  generalize hs : c.st = s at *
  unfold ptr at *
  by_cases h1 : s = 3
  · subst h1
    rw [if_pos rfl]
    go_enter Tryz.func224, Tryz.ntmps224
    go_wp2_with fail
    go_end0
    exact ⟨rfl, H.out.set 5 _ _ rfl, ch_set w b 5 _⟩
  · rw [if_neg h1]
    have n1 : ((s : Int) == 3) = false := by rw [beq_eq_false_iff_ne]; omega
    by_cases h2 : s = 4
    · subst h2
      rw [if_pos rfl]
      go_enter Tryz.func224, Tryz.ntmps224
      go_wp2_with fail
      go_end0
      exact ⟨rfl, H.out.set 5 _ _ rfl, ch_set w b 5 _⟩
    · rw [if_neg h2]
      have n2 : ((s : Int) == 4) = false := by rw [beq_eq_false_iff_ne]; omega
      by_cases h3 : s = 5
      · subst h3
        rw [if_pos rfl]
        go_enter Tryz.func224, Tryz.ntmps224
        go_wp2_with fail
        refine HL.out.mono ?_
        rintro e w1 ⟨rfl, d1, d2⟩
        go_wp2_with fail
        go_end0
        exact ⟨rfl, d1, d2⟩
      · rw [if_neg h3]
        have n3 : ((s : Int) == 5) = false := by rw [beq_eq_false_iff_ne]; omega
        go_enter Tryz.func224, Tryz.ntmps224
        go_wp2_with fail
        go_end0
        exact Did.same H.out
end
end Go.Proofs.YtiehngeeamhlmaaGreatDoor.LF

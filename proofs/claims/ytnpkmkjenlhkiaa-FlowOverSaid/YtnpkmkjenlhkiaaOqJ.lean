/- A row of pieces parted in two, its front cleared; the contract of Ack. Conditions: the queue stands, its numbers go on from its beginning to its end, at most 2^31 in all; at most 2^30 pieces, with data of at most 2^40 bytes each. -/
import Derived.Test.YtnpkmkjenlhkiaaOqI
namespace Go.Proofs.Ytnpkmkjenlhkiaa
set_option linter.unusedVariables false
set_option linter.unusedSimpArgs false
set_option maxRecDepth 20000
open Go.RowKit

theorem sizePs : (Try.prog.info? 42).map (·.size) = some 1 := by kernel_rfl
theorem elemPs : Try.prog.underlying 42 = some (.slice (Try.prog.elem 42)) := by kernel_rfl
theorem sizeOfPc (W : World) : (sizeOf (Try.prog.elem 42)).run Try.prog W = .ok 6 W := by kernel_rfl
theorem zc_one (k : Nat) : ∀ u ∈ (Builtin.zeroCells (Value.agg zP.vals.toArray).cells k).toList, u.oneCell' = true := by
  intro u hu
  simp [Builtin.zeroCells, Pc.vals, zP, Value.cells] at hu
  obtain ⟨a, ha, rfl⟩ := hu
  have : a % 6 = 0 ∨ a % 6 = 1 ∨ a % 6 = 2 ∨ a % 6 = 3 ∨ a % 6 = 4 ∨ a % 6 = 5 := by omega
  rcases this with h | h | h | h | h | h <;> simp [h, Value.oneCell']
/-- A row parted at k: its front, cleared or not, and what is behind. -/
structure Cut (base : Nat) (A A1 A2 : Option Addr) (n c k : Nat) (l : List Pc) : Prop where
  upto : ∀ W, (Instr.slice 42 (.slice A n c) none (some (.int .i64 (k : Int))) none).run Try.prog W = .ok (.slice A1 k c) W
  from_ : ∀ W, (Instr.slice 42 (.slice A n c) (some (.int .i64 (k : Int))) none none).run Try.prog W = .ok (.slice A2 (n - k) (c - k)) W
  front : ∀ W, Row W base (.slice A n c) l → Row W base (.slice A1 k c) (l.take k)
  clear : ∀ W ty, Row W base (.slice A n c) l → ∃ W', (Builtin.clear_ #[42] ty #[.slice A1 k c]).run Try.prog W = .ok (.tuple #[]) W' ∧ W.grownBy W' (Value.slice A n c).ownBlock ∧ W'.heap.size = W.heap.size ∧ Row W' base (.slice A2 (n - k) (c - k)) (l.drop k)
  own : ∀ g, (Value.slice A2 (n - k) (c - k)).ownBlock = some g → (Value.slice A n c).ownBlock = some g
theorem cut_any {w : World} {base : Nat} {A : Option Addr} {n c k : Nat} {l : List Pc} (h : Row w base (.slice A n c) l) (hk : k ≤ n) : ∃ A1 A2, Cut base A A1 A2 n c k l := by
  obtain ⟨A0, c0, hv, hc1, hc2⟩ := h.slice
  injection hv with e1 e2 e3
  subst e1 e2 e3
  obtain ⟨i, hi, hz, h1, h2⟩ := info_parts infoPcF
  refine ⟨if c = 0 then A else A.map (·.add 0), if c = k then A else A.map (·.add (k * 6)), fun W => ?_, fun W => ?_, fun W hW => ?_, fun W ty hW => ?_, fun g hg => ?_⟩
  · rw [run_slice_h (P := Try.prog) W 42 A l.length c elemPs .i64 (k : Int) (by omega) (by omega), sizeOfPc]
    simp [Result.andThen, sliced]
  · rw [run_slice_l (P := Try.prog) W 42 A l.length c elemPs .i64 (k : Int) (by omega) (by omega), sizeOfPc]
    simp [Result.andThen, sliced]
  · rcases hW with ⟨hv, rfl⟩ | ⟨g, o, c3, cs, hv, hb, hg, h3, h4, h5, h6⟩
    · injection hv with e1 e2 e3
      subst e1 e3
      have hk0 : k = 0 := by simpa using hk
      subst hk0
      exact .inl ⟨rfl, rfl⟩
    · injection hv with e1 e2 e3
      subst e1 e3
      have hl : (l.take k).length = k := by rw [List.length_take]; omega
      have ha : (if c = 0 then some (⟨g, o, none⟩ : Addr) else (some (⟨g, o, none⟩ : Addr)).map (·.add 0)) = some ⟨g, o, none⟩ := by
        split
        · rfl
        · simp [Addr.add_lit]
      refine .inr ⟨g, o, c, cs, by rw [ha, hl], hb, hg, by omega, h4, h5, ?_⟩
      have e : pv l = pv (l.take k) ++ pv (l.drop k) := by rw [← pv_append, List.take_append_drop]
      rw [e] at h6
      exact (rangeAt_append.1 h6).1
  · rcases hW with ⟨hv, rfl⟩ | ⟨g, o, c3, cs, hv, hb, hg, h3, h4, h5, h6⟩
    · injection hv with e1 e2 e3
      subst e1 e3
      have hk0 : k = 0 := by simpa using hk
      subst hk0
      refine ⟨W, ?_, v_g_refl _ _, rfl, .inl ⟨rfl, rfl⟩⟩
      simp [Builtin.clear_, run_underlying Try.underlying42]
    · injection hv with e1 e2 e3
      subst e1 e3
      have hld : (l.drop k).length = l.length - k := List.length_drop
      have ha : (if c = 0 then some (⟨g, o, none⟩ : Addr) else (some (⟨g, o, none⟩ : Addr)).map (·.add 0)) = some ⟨g, o, none⟩ := by
        split
        · rfl
        · simp [Addr.add_lit]
      rw [ha]
      let zs := (Builtin.zeroCells (Value.agg zP.vals.toArray).cells k).toList
      have hzl : zs.length = k * 6 := zeros_length k
      have hth : W.there g o (k * 6) := there_of hg (by omega)
      have hst := run_storeCells_cells (P := Try.prog) g o zs 0 W (by simpa [hzl] using fun j hj => (hth j hj).1) (by simpa [hzl] using fun j hj => (hth j hj).2) (zc_one k)
      simp only [Nat.add_zero] at hst
      obtain ⟨cs', k1, k2⟩ := heap_setCells zs o W cs hg
      refine ⟨W.setCells g o zs, ?_, v_g_setCells _ _ _ _, v_size_setCells _ _ _ _, ?_⟩
      · cases k with
        | zero =>
          have : zs = [] := List.eq_nil_of_length_eq_zero (by rw [hzl])
          rw [this]
          simp [Builtin.clear_, run_underlying Try.underlying42, World.setCells]
        | succ k =>
          simp only [zs] at hst ⊢
          simp [Builtin.clear_, run_underlying Try.underlying42, zeroValue, typeInfo, hi, hz, hst]
      · by_cases hck : c = k
        · have hd0 : l.drop k = [] := List.drop_eq_nil_of_le (by omega)
          rw [if_pos hck, hd0]
          refine .inr ⟨g, o, c - k, cs', by simp; omega, hb, k1, Nat.zero_le _, by omega, by omega, fun j u hu => by simp [pv] at hu⟩
        · rw [if_neg hck]
          refine .inr ⟨g, o + k * 6, c - k, cs', by rw [hld]; simp [Addr.add_lit], hb, k1, by omega, by omega, by omega, fun j u hu => ?_⟩
          have hj := (List.getElem?_eq_some_iff.1 hu).1
          rw [cells_out (by right; right; rw [hzl]; omega)]
          have e : pv l = pv (l.take k) ++ pv (l.drop k) := by rw [← pv_append, List.take_append_drop]
          rw [e] at h6
          have := (rangeAt_append.1 h6).2 j u hu
          rwa [pv_length, List.length_take, Nat.min_eq_left hk] at this
  · cases A with
    | none => split at hg <;> cases hg
    | some a =>
      split at hg
      · exact hg
      · obtain ⟨b, o, s⟩ := a
        have e : ((some (⟨b, o, s⟩ : Addr)).map (·.add (k * 6))) = some ((⟨b, o, s⟩ : Addr).add (k * 6)) := rfl
        rw [e] at hg
        have e2 : ((⟨b, o, s⟩ : Addr).add (k * 6)).block = b := by unfold Addr.add; split <;> rfl
        injection hg with hg
        rw [e2] at hg
        exact congrArg some hg

theorem Own6.frame {base : Nat} {w w' : World} {v : Value} {ks : List Ky} {m : Nat → Prop} (h : Own6 base w v ks) (c : Ch w w' m) (hm : ∀ g, base ≤ g → ¬ m g) : Own6 base w' v ks := by
  obtain ⟨qs, h1, h2, h3⟩ := h
  exact ⟨qs, own_ch2 h1 c (fun g hg => hm g (h1.lt g hg).1), h2, fun q hq => (h3 q hq).ch c (fun g hg => hm g ((h3 q hq).lt hg).1)⟩
theorem Own6.below {base : Nat} {w w' : World} {v : Value} {ks : List Ky} (h : Own6 base w v ks) (b : Below w.heap.size w w') : Own6 base w' v ks := h.frame (Ch.of_below (fun _ => False) b) (fun _ _ e => e)
theorem own6_mono {w : World} {base base' : Nat} {v : Value} {n : Nat} {e : TypeId} {xs : List Value} (h : w.ownsRow base e 6 v n xs) (hb : base' ≤ base) : w.ownsRow base' e 6 v n xs := by
  refine ⟨h.1, ?_⟩
  rcases h.2 with hn | ⟨g, cap, cur, rfl, h1, rest⟩
  · exact .inl hn
  · exact .inr ⟨g, cap, cur, rfl, Nat.le_trans hb h1, rest⟩
theorem Own6.mono {base base' : Nat} {w : World} {v : Value} {ks : List Ky} (h : Own6 base w v ks) (hb : base' ≤ base) : Own6 base' w v ks := by
  obtain ⟨qs, h1, h2, h3⟩ := h
  exact ⟨qs, own6_mono h1 hb, h2, fun q hq => (h3 q hq).mono hb⟩
/-- What Ack leaves that takes k pieces out. -/
def AckP (t : TypeId) (base : Nat) (w : World) (qb : Nat) (v : Value) (l : List Pc) (en k : Nat) (e : Ending) (w' : World) : Prop :=
  ∃ vo v', e = .returned (.tuple #[vo, .bool true]) ∧ Own6 w.heap.size w' vo ((l.map Pc.key).take k) ∧ Qu t base w' qb v' (l.drop k) en ∧ (∀ g, v'.ownBlock = some g → v.ownBlock = some g) ∧ Ch w w' (fun k => k = qb ∨ v.ownBlock = some k)
theorem wpList_clearB {P : Program} {ops : Array Oper} {rest : List Oper} {o : Oper} {a : Act} {w : World} {Q : Exit → Act → World → Prop} (hgd : o.guard = none) (d : Operand) (t : TypeId)
    (ho : o.op = .call { callee := .builtin .clear, args := #[d], argTypes := #[t] }) (v : Value) (hd : a.eval d = v) {v' : Value} {w' : World}
    (hr : (Builtin.clear_ #[t] o.type #[v]).run P w = .ok v' w') (h : wpList P ops Q rest (a.put o.dst v') w') : wpList P ops Q (o :: rest) a w :=
  wpList_plain hgd fun _ hK => by
    unfold Oper.wp execOp
    simp only [ho, resolve, invoke, builtin, Sem.run_bind, Sem.run_pure, Result.andThen_ok, List.map_toArray, List.map_cons, List.map_nil, hd, hr]
    exact hK _ _ h

section
variable {base : Nat} {w : World} {qb : Nat} {v : Value} {l : List Pc} {en : Nat}
set_option maxHeartbeats 1600000 in
theorem Ack_no (h : Qu 97 base w qb v l en) (b a : Nat) (hb : b < 4294967296) (ha : a < 4294967296) (hc : Chn b (l.map Pc.key) en) (ht : tot (l.map Pc.key) ≤ 2147483648) (hno : tot (l.map Pc.key) < st b a) :
    Calls Try.prog 72 #[ptr qb, .int .u32 (a : Int)] w fun e w' => e = .returned (.tuple #[.slice none 0 0, .bool false]) ∧ Below w.heap.size w w' := by
  have HR := Lib.hid (reaches_any h b a hb ha hc ht)
  rw [decide_eq_false (by omega)] at HR
  clear h hc ht hno
  unfold ptr at *
  go_enter Try.func72, Try.ntmps72
  go_wp2_with fail
  refine (HR.out).mono ?_
  rintro e w2 ⟨rfl, b2⟩
  go_wp2_with fail
  go_ret2
  exact ⟨rfl, b2⟩

set_option maxRecDepth 20000 in
set_option maxHeartbeats 3200000 in
theorem Ack_yes (h : Qu 97 base w qb v l en) (b a : Nat) (hb : b < 4294967296) (ha : a < 4294967296) (hc : Chn b (l.map Pc.key) en) (ht : tot (l.map Pc.key) ≤ 2147483648) (hl : l.length ≤ 1073741824) (hd : ∀ p ∈ l, p.dn ≤ 1099511627776) (hyes : st b a ≤ tot (l.map Pc.key)) :
    Calls Try.prog 72 #[ptr qb, .int .u32 (a : Int)] w (AckP 97 base w qb v l en (cnt (l.map Pc.key) (st b a))) := by
  have HR := Lib.hid (reaches_any h b a hb ha hc ht)
  rw [decide_eq_true hyes] at HR
  have HE := Lib.hid (fun W (b : Below w.heap.size w W) => ended_any (h.below b) _ a hb ha hc hd hl)
  have hk := cnt_le (l.map Pc.key) (st b a)
  generalize cnt (l.map Pc.key) (st b a) = k at *
  rw [List.length_map] at hk
  have H := Lib.hid h
  have HD := Lib.hid hd
  have hlt := h.lt
  obtain ⟨A, c, rfl, hcp, hmx⟩ := h.row.slice
  have HNE := Lib.hid (h.apart2 (by decide))
  obtain ⟨A1, A2, hcut⟩ := cut_any h.row hk
  have HC := Lib.hid hcut
  generalize hn : l.length = n at *
  have HN := Lib.hid hn
  clear h hd hc ht hyes hcut hn
  unfold ptr at *
  go_enter Try.func72, Try.ntmps72
  go_wp2_with fail
  refine (HR.out).mono ?_
  rintro e w2 ⟨rfl, b2⟩
  go_wp2_with fail
  have HB2 := Lib.hid b2.drew
  have c2 := (H.out.below b2.drew).c0
  clear b2
  generalize hwd : w2.drew = wd at *
  refine wp_region_noPanic ?_
  refine wp_region_held_drew (S := fun W => W.cell? ⟨qb, 0, none⟩ = some (.slice A n c)) (by kernel_rfl) (by rw [hwd]; exact c2) (fun _ => ?_)
  rw [hwd]
  clear hwd
  refine held_take (i := 0) (v := .pointer (some ⟨qb, 0, none⟩)) (some 16) rfl rfl (by kernel_rfl) (by kernel_rfl) (by kernel_rfl) (fun _ _ _ h => h) (Or.inl ⟨by rfl, fun W hW => by go_simp⟩) c2 ?_
  simp only [Act.put, List.setIfInBounds_toArray, List.set_cons_zero, List.set_cons_succ]
  refine held_take (i := 4) (v := .pointer (some ⟨qb, 0, none⟩)) (some 20) rfl rfl (by kernel_rfl) (by kernel_rfl) (by kernel_rfl) (fun _ _ _ h => h) (Or.inl ⟨by rfl, fun W hW => by go_simp⟩) c2 ?_
  simp only [Act.put, List.setIfInBounds_toArray, List.set_cons_zero, List.set_cons_succ]
  refine held_take (i := 5) (v := .int .u32 (a : Int)) (some 21) rfl rfl (by kernel_rfl) (by kernel_rfl) (by kernel_rfl) (fun _ _ _ h => h) (Or.inl ⟨by rfl, fun W hW => by go_simp⟩) c2 ?_
  simp only [Act.put, List.setIfInBounds_toArray, List.set_cons_zero, List.set_cons_succ]
  refine held_take (i := 1) (v := .pointer (some ⟨qb, 0, none⟩)) (some 17) rfl rfl (by kernel_rfl) (by kernel_rfl) (by kernel_rfl) (fun _ _ _ h => h) (Or.inl ⟨by rfl, fun W hW => by go_simp⟩) c2 ?_
  simp only [Act.put, List.setIfInBounds_toArray, List.set_cons_zero, List.set_cons_succ]
  refine held_take (i := 2) (v := .pointer (some ⟨qb, 0, none⟩)) (some 18) rfl rfl (by kernel_rfl) (by kernel_rfl) (by kernel_rfl) (fun _ _ _ h => h) (Or.inl ⟨by rfl, fun W hW => by go_simp⟩) c2 ?_
  simp only [Act.put, List.setIfInBounds_toArray, List.set_cons_zero, List.set_cons_succ]
  refine held_take (i := 3) (v := .slice A n c) (some 19) rfl rfl (by kernel_rfl) (by kernel_rfl) (by kernel_rfl) (fun _ _ _ h => h) (Or.inl ⟨by rfl, fun W hW => by have hc := hW; go_simp⟩) c2 ?_
  simp only [Act.put, List.setIfInBounds_toArray, List.set_cons_zero, List.set_cons_succ]
  refine wpAnyH_ready (rs := [6]) (by kernel_rfl) (by simp) ?_
  refine AllReadyH.cons rfl (fun K hK => ?_) AllReadyH.nil
  go_simp
  refine (HE.out _ HB2.out).mono ?_
  rintro e w3 ⟨rfl, b3⟩
  have HB3 := Lib.hid (HB2.out.trans (b3.mono HB2.out.size))
  have e3 : w3.cell? ⟨qb, 0, none⟩ = some (.slice A n c) := (H.out.below HB3.out).c0
  clear b3 HB2 HE
  dsimp only
  refine hK.out _ _ e3 (fun _ => ?_)
  clear hK
  try simp only [Act.put, List.setIfInBounds_toArray, List.set_cons_zero, List.set_cons_succ]
  refine held_take (i := 7) (v := .slice A1 k c) (some 23) rfl rfl (by kernel_rfl) (by kernel_rfl) (by kernel_rfl) (fun _ _ _ h => h) (Or.inl ⟨by rfl, fun W hW => by have hc := HC.out.upto W; go_simp⟩) e3 ?_
  simp only [Act.put, List.setIfInBounds_toArray, List.set_cons_zero, List.set_cons_succ]
  refine held_take (i := 8) (v := .slice A1 k c) (some 6) rfl rfl (by kernel_rfl) (by kernel_rfl) (by kernel_rfl) (fun _ _ _ h => h) (Or.inl ⟨by rfl, fun W hW => by go_simp⟩) e3 ?_
  simp only [Act.put, List.setIfInBounds_toArray, List.set_cons_zero, List.set_cons_succ]
  refine wpAnyH_done (by kernel_rfl) ?_ _
  refine NoPanic.normal ?_
  have HQ3 := Lib.hid (H.out.below HB3.out)
  have hps : PS w3 A1 k c (l.take k) := (HC.out.front w3 HQ3.out.row).ps (fun p hp => (HQ3.out.ok p (List.mem_of_mem_take hp)).pg)
  have HA := Lib.hid (all_any A1 k c (l.take k) w3 hps (by omega) (fun p hp => HD.out p (List.mem_of_mem_take hp)))
  rw [List.map_take] at HA
  clear hps
  go_wp2_with fail
  refine (HA.out).mono ?_
  rintro e w5 ⟨vo, rfl, ho5, b5⟩
  have HQ5 := Lib.hid (HQ3.out.below b5)
  have HB5 := Lib.hid (HB3.out.trans (b5.mono HB3.out.size))
  obtain ⟨w6, e6, g6, s6, r6⟩ := HC.out.clear w5 0 HQ5.out.row
  have HX6 : Hid (Qx 97 base w6 qb (.slice A n c) (.slice A2 (n - k) (c - k)) (l.drop k) en) := Lib.hid ⟨(g6.block qb HQ5.out.lt (fun e => HNE.out e.symm)).trans HQ5.out.obj, HQ5.out.lo, r6, fun p hp => (HQ5.out.ok p (List.mem_of_mem_drop hp)).beside HQ5.out.row g6, HQ5.out.num⟩
  have C6 : Hid (Ch w w6 (fun k => k = qb ∨ (Value.slice A n c).ownBlock = some k)) := Lib.hid (Ch.grown (m := fun k => k = qb ∨ (Value.slice A n c).ownBlock = some k) (Ch.of_below _ HB5.out) g6 (fun k e _ => .inr e))
  have HO6 : Hid (Own6 w.heap.size w6 vo ((l.map Pc.key).take k)) := Lib.hid ((ho5.mono HB3.out.size).frame (Ch.grown (m := fun k => (Value.slice A n c).ownBlock = some k) (Ch.refl w5 _) g6 (fun k e _ => e)) (fun g hg e => by have := (H.out.row.in_ e).2; omega))
  have c6 := HX6.out.c0
  have f6 := HX6.out.f 0
  have hsl := HC.out.from_
  clear ho5 b5 HA HR g6 s6 r6
  go_wp2_with (first
    | ((with_reducible refine wpList_here ?_); refine wpList_clearB rfl (.tmp 26) 42 rfl _ rfl e6 ?_)
    | ((with_reducible refine wpList_here ?_); refine wpList_setC rfl 42 (.tmp 36) (.tmp 34) rfl qb 0 _ (.slice A2 (n - k) (c - k)) rfl rfl c6 f6 rfl sizePs ?_))
  go_ret2
  exact ⟨vo, _, rfl, HO6.out.frame (Ch.setCell (m := fun k => k = qb) (Ch.refl w6 _) (p := ⟨qb, 0, none⟩) (fun _ => rfl) _) (fun g hg e => by omega), HX6.out.store (by decide) (by decide), HC.out.own, Ch.setCell (m := fun k => k = qb ∨ (Value.slice A n c).ownBlock = some k) C6.out (p := ⟨qb, 0, none⟩) (fun _ => .inl rfl) _⟩
end
end Go.Proofs.Ytnpkmkjenlhkiaa

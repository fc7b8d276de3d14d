/- Time goes on: the contract of Advance. Condition: the wheel stands, it has at most 2^40 timers. -/
import Derived.Test.YtkmhgcdjmfafhaaWhU
import Derived.Deep.LoopGhost
namespace Go.Proofs.Ytkmhgcdjmfafhaa
set_option linter.unusedVariables false
set_option linter.unusedSimpArgs false
open Go.RowKit

theorem own_ch2 {w w' : World} {base size : Nat} {e : TypeId} {v : Value} {n : Nat} {xs : List Value} {m : Nat → Prop} (h : w.ownsRow base e size v n xs) (c : Ch w w' m) (hm : ∀ g, v.ownBlock = some g → ¬ m g) : w'.ownsRow base e size v n xs := by
  refine ⟨h.1, ?_⟩
  rcases h.2 with hn | ⟨g, cap, cur, hv, hb, hg, rest⟩
  · exact .inl hn
  · exact .inr ⟨g, cap, cur, hv, hb, (c.block g (Array.getElem?_eq_some_iff.1 hg).1 (hm g (by rw [hv]; rfl))).trans hg, rest⟩

/-- In the order in which they are due. -/
def Ord (hd : Nat → Int) (tk : Nat → Nat) (l : List Nat) : Prop := l.Pairwise (fun a b => tk a < tk b ∨ tk a = tk b ∧ hd a < hd b)
theorem Ord.nodup {hd : Nat → Int} {tk : Nat → Nat} {l : List Nat} (h : Ord hd tk l) : l.Nodup := List.Pairwise.imp (fun {a b} h e => by subst e; omega) h

/-- While time goes on: what was due up to m; the wheel at m. -/
def Going (w : World) (lab : Nat → Nat) (wb mb : Nat) (nb : Nat → Nat) (hd : Nat → Int) (tk : Nat → Nat) (U : List Nat) (m : Nat) (wr : World) (v : Value) : Prop :=
  ∃ (lab1 : Nat → Nat) (V1 : Nat → Nat → Value) (L1 : Lists) (ob : List Nat), Wheel wr lab1 wb mb nb V1 L1 hd tk m (af tk U m) ∧ wr.ownsRow w.heap.size 53 2 v ob.length (dv (ob.map (pr hd tk))) ∧ (∀ g, v.ownBlock = some g → lab1 g = 0) ∧
    Ord hd tk ob ∧ (∀ b, b ∈ ob ↔ b ∈ U ∧ tk b ≤ m) ∧ Ch w wr (fun k => lab k ≠ 0) ∧ ∀ k, k < w.heap.size → lab1 k = lab k

section
variable {w : World} {lab : Nat → Nat} {wb mb : Nat} {nb : Nat → Nat} {V : Nat → Nat → Value} {L : Lists} {hd : Nat → Int} {tk : Nat → Nat} {n : Nat} {U : List Nat}

theorem Going.start (h : Wheel w lab wb mb nb V L hd tk n U) : Going w lab wb mb nb hd tk U n w (.slice none 0 0) := by
  refine ⟨lab, V, L, [], ?_, World.ownsRow_nil _ _ _ _, (fun g hg => by cases hg), List.Pairwise.nil, fun b => ?_, Ch.refl _ _, fun _ _ => rfl⟩
  · rw [af_start fun b hb => (h.due hb).1]
    exact h
  · constructor
    · intro hb
      cases hb
    · rintro ⟨h1, h2⟩
      have := (h.due h1).1
      omega

theorem af_fdb {m : Nat} {zs : List Nat} (hdist : ∀ a b, a ∈ af tk U m → b ∈ af tk U m → hd a = hd b → a = b) (hz : ∀ b, b ∈ zs ↔ b ∈ af tk U m ∧ tk b = m + 1) :
    (fun k => if k ∈ (zs.take zs.length).map hd then none else fdb hd (af tk U m) k) = fdb hd (af tk U (m + 1)) := by
  funext k
  rw [List.take_length]
  have sub : ∀ a, a ∈ af tk U (m + 1) → a ∈ af tk U m := fun a ha => mem_af.2 ⟨(mem_af.1 ha).1, by have := (mem_af.1 ha).2; omega⟩
  have hd2 : ∀ a b, a ∈ af tk U (m + 1) → b ∈ af tk U (m + 1) → hd a = hd b → a = b := fun a b ha hb => hdist a b (sub a ha) (sub b hb)
  cases e : fdb hd (af tk U m) k with
  | none =>
    have h1 : fdb hd (af tk U (m + 1)) k = none := by
      cases e2 : fdb hd (af tk U (m + 1)) k with
      | none => rfl
      | some c => exact absurd (fdb_some e2).2 (fdb_none e c (sub c (fdb_some e2).1))
    rw [h1]
    split <;> rfl
  | some b =>
    obtain ⟨hb, hk⟩ := fdb_some e
    subst hk
    by_cases q : tk b = m + 1
    · have hbz : b ∈ zs := (hz b).2 ⟨hb, q⟩
      rw [if_pos (List.mem_map_of_mem hbz)]
      cases e2 : fdb hd (af tk U (m + 1)) (hd b) with
      | none => rfl
      | some c =>
        obtain ⟨hc, hk⟩ := fdb_some e2
        have := hdist c b (sub c hc) hb hk
        subst this
        have := (mem_af.1 hc).2
        omega
    · have hb2 : b ∈ af tk U (m + 1) := mem_af.2 ⟨(mem_af.1 hb).1, by have := (mem_af.1 hb).2; omega⟩
      rw [if_neg, fdb_of hd2 hb2]
      intro h
      obtain ⟨c, hc, hk⟩ := List.mem_map.1 h
      obtain ⟨h1, h2⟩ := (hz c).1 hc
      have := hdist c b h1 hb hk
      subst this
      exact q h2

theorem af_len {m : Nat} {zs : List Nat} (hnd : (af tk U m).Nodup) (hzn : zs.Nodup) (hz : ∀ b, b ∈ zs ↔ b ∈ af tk U m ∧ tk b = m + 1) : (af tk U m).length - zs.length = (af tk U (m + 1)).length := by
  have h1 := filter_two (fun b => decide (tk b = m + 1)) (af tk U m)
  have h2 : ((af tk U m).filter fun b => !decide (tk b = m + 1)) = af tk U (m + 1) := by
    rw [← af_step]
    refine List.filter_congr fun b _ => ?_
    by_cases q : tk b = m + 1 <;> simp [q]
  have hm : ∀ b, b ∈ (af tk U m).filter (fun b => decide (tk b = m + 1)) ↔ b ∈ zs := fun b => by rw [List.mem_filter, decide_eq_true_iff, hz b]
  have h3 := nodup_len _ zs (hnd.filter (fun b => decide (tk b = m + 1))) fun b hb => (hm b).1 hb
  have h4 := nodup_len zs _ hzn fun b hb => (hm b).2 hb
  rw [h2] at h1
  omega

theorem Going.next {wr w5 w9 wi : World} {lab1 lab3 : Nat → Nat} {V1 V3 : Nat → Nat → Value} {L1 L3 : Lists} {m q : Nat} {ob zs : List Nat} {v : Value} (h : Wheel wr lab1 wb mb nb V1 L1 hd tk m (af tk U m)) (h5 : wr.setCell ⟨wb, 1, none⟩ (.int .i64 ((m : Int) + 1)) = w5)
    (ord1 : Ord hd tk ob) (mem1 : ∀ b, b ∈ ob ↔ b ∈ U ∧ tk b ≤ m) (ch1 : Ch w wr (fun k => lab k ≠ 0)) (l1 : ∀ k, k < w.heap.size → lab1 k = lab k)
    (r1 : Rings w9 lab3 nb V3 L3 hd tk) (r2 : Pl L3 tk (m + 1)) (r3 : zs.Nodup) (r4 : ∀ b, b ∈ zs ↔ InL L1 b ∧ tk b = m + 1) (r5 : ∀ b, InL L3 b ↔ InL L1 b ∧ tk b ≠ m + 1) (r6 : zs.Pairwise (fun a b => hd a ≤ hd b))
    (r9 : Ch (w5.drewN q) w9 (fun k => lab1 k = 3 ∨ 10 ≤ lab1 k)) (r10 : ∀ k, k < (w5.drewN q).heap.size → lab3 k = lab1 k)
    (hI : Inn w.heap.size w9 lab3 mb (af tk U m) hd tk zs (ob.map (pr hd tk)) zs.length wi v) : Going w lab wb mb nb hd tk U (m + 1) wi v := by
  have hs5 : w5.heap.size = wr.heap.size := by rw [← h5]; simp [World.setCell]
  have hs5' : (w5.drewN q).heap.size = wr.heap.size := hs5
  rw [hs5'] at r10
  have hwlt := h.lt
  have hmlt := h.map.lt
  have hw1 := h.wlab
  have hm1 := h.mlab
  have lw3 : lab3 wb = 1 := by rw [r10 wb hwlt]; exact hw1
  have lm3 : lab3 mb = 2 := by rw [r10 mb hmlt]; exact hm1
  have hz : ∀ b, b ∈ zs ↔ b ∈ af tk U m ∧ tk b = m + 1 := fun b => by rw [r4 b, h.mem b]
  have c5 : Ch wr w5 (fun k => k = wb) := by
    rw [← h5]
    exact (Ch.refl wr (fun k => k = wb)).setCell (p := ⟨wb, 1, none⟩) (fun _ => rfl) _
  have sz1 := ch1.size
  have sz9 : wr.heap.size ≤ w9.heap.size := by have := r9.size; omega
  refine ⟨lab3, V3, L3, ob ++ zs, ⟨r1.ch hI.ch fun k hk => by
      rcases hk with hk | hk
      · rw [hk, lm3]
        omega
      · omega, lw3, ?_, lm3, ?_, fun b => ?_, r2, ?_, fun a b ha hb => ?_, fun a ha => ?_⟩, ?_, hI.vlab, ?_, fun b => ?_, ?_, fun k hk => ?_⟩
  · have hne : wb ≠ mb := fun e => by rw [e] at lw3; omega
    refine (hI.ch.block wb (by omega) (fun e => by
      rcases e with e | e
      · exact hne e
      · omega)).trans ((r9.block wb (by omega) (by omega)).trans ?_)
    show w5.heap[wb]? = _
    rw [← h5]
    simp [World.setCell, Array.getElem?_modify, h.whl]
  · have hM := hI.map
    rw [af_fdb h.dist hz, af_len h.nd r3 hz] at hM
    exact hM
  · rw [r5 b, h.mem b, mem_af, mem_af]
    exact ⟨fun ⟨⟨a1, a2⟩, a3⟩ => ⟨a1, by omega⟩, fun ⟨a1, a2⟩ => ⟨⟨a1, by omega⟩, by omega⟩⟩
  · have h8 := h.nd.filter (fun b => decide (tk b ≠ m + 1))
    rw [af_step] at h8
    exact h8
  · have ha' := mem_af.1 ha
    have hb' := mem_af.1 hb
    exact h.dist a b (mem_af.2 ⟨ha'.1, by omega⟩) (mem_af.2 ⟨hb'.1, by omega⟩)
  · have ha' := mem_af.1 ha
    exact h.hI a (mem_af.2 ⟨ha'.1, by omega⟩)
  · have ho := hI.own
    rw [List.take_length, List.length_map] at ho
    rw [List.length_append, List.map_append]
    exact ho
  · unfold Ord
    rw [List.pairwise_append]
    refine ⟨ord1, ?_, fun a ha b hb => ?_⟩
    · rw [List.pairwise_iff_getElem]
      intro i j hi hj hij
      have h1 := (List.pairwise_iff_getElem.1 r6) i j hi hj hij
      have ma := (hz _).1 (List.getElem_mem hi)
      have mb' := (hz _).1 (List.getElem_mem hj)
      refine .inr ⟨by omega, ?_⟩
      have hne : hd zs[i] ≠ hd zs[j] := fun e => by
        have := (List.getElem_inj r3).1 (h.dist _ _ ma.1 mb'.1 e)
        omega
      omega
    · have h1 := (mem1 a).1 ha
      have h2 := (hz b).1 hb
      left
      omega
  · rw [List.mem_append, mem1 b, hz b, mem_af]
    refine ⟨fun hh => ?_, fun ⟨a1, a2⟩ => ?_⟩
    · rcases hh with ⟨a1, a2⟩ | ⟨⟨a1, a2⟩, a3⟩
      · exact ⟨a1, by omega⟩
      · exact ⟨a1, by omega⟩
    · by_cases e : tk b ≤ m
      · exact .inl ⟨a1, e⟩
      · exact .inr ⟨⟨a1, by omega⟩, by omega⟩
  · refine ((ch1.trans c5 (m'' := fun k => lab k ≠ 0) (fun _ _ h => h) (fun k hk e => ?_)).drewN q |>.trans r9 (m'' := fun k => lab k ≠ 0) (fun _ _ h => h) (fun k hk e => ?_)).trans hI.ch (fun _ _ h => h) (fun k hk e => ?_)
    · rw [← l1 k hk, e]
      omega
    · rw [← l1 k hk]
      omega
    · rcases e with e | e
      · rw [← l1 k hk, e]
        omega
      · omega
  · rw [r10 k (by omega)]
    exact l1 k hk

set_option maxRecDepth 100000 in
set_option maxHeartbeats 4000000 in
theorem adv_any (h : Wheel w lab wb mb nb V L hd tk n U) {t : Int} (ht : isI t) (hn : n + 20000 ≤ 4611686018427387904) (hU : U.length ≤ 1099511627775) (np : Nat) (hnp : n ≤ np) (hnp2 : np ≤ n + 10000) (hE : ∀ m : Nat, n ≤ m → ((m : Int) < min t ((n : Int) + 10000) ↔ m < np)) :
    Calls Try.prog 18 #[ptr wb, .int .i64 t] w fun e w' => ∃ v, e = .returned v ∧ Going w lab wb mb nb hd tk U np w' v := by
  have c1 := h.c1
  have HG := Lib.hid (Going.start h)
  have htk : ∀ b ∈ U, tk b ≤ 4611686018427387904 := fun b hb => by have := (h.due hb).2; omega
  clear h
  unfold ptr
  unfold isI at ht
  have hm1 : min t ((n : Int) + 10000) ≤ (n : Int) + 10000 := Int.min_le_right _ _
  obtain ⟨E, hEq⟩ : ∃ E, min t ((n : Int) + 10000) = E := ⟨_, rfl⟩
  rw [hEq] at hE hm1
  have HE := Lib.hid hE
  clear hE
  go_enter Try.func18, Try.ntmps18
  go_wp2_with fail
  clear hEq c1
  go_loopg [5] (np - n) (fun kx v wr => ∃ m : Nat, n ≤ m ∧ m ≤ np ∧ np - m ≤ kx ∧ Going w lab wb mb nb hd tk U m wr v)
  case atStart => exact ⟨n, Nat.le_refl _, hnp, Nat.le_refl _, HG.out⟩
  case round =>
    obtain ⟨m, hm, hmn, hkx, lab1, V1, L1, ob, W1, own1, vl1, ord1, mem1, ch1, l1⟩ := hrel
    have c1 := W1.c1
    have cf := W1.fz 1
    by_cases hlt : m < np
    · have hcond : (m : Int) < E := (HE.out m hm).2 hlt
      have hr1 : Rings (wr.setCell ⟨wb, 1, none⟩ (.int .i64 ((m : Int) + 1))) lab1 nb V1 L1 hd tk := W1.rings.keep (by simp [World.setCell]) fun k hk => Below.heap_setCell _ _ _ _ (fun e => by have := W1.wlab; simp only at e; rw [e] at hk; omega)
      have hal : (af tk U m).length ≤ U.length := List.length_filter_le _ _
      have hS := fun q => step_any (hr1.drewN q) m (by omega) W1.pl (af tk U m) (fun b hb => (W1.mem b).1 hb) (by omega) (fun b hb => htk b (mem_af.1 hb).1) (byH_holds hd tk)
      rw [show ((m + 1 : Nat) : Int) = (m : Int) + 1 from rfl] at hS
      have s0 : (wr.setCell ⟨wb, 1, none⟩ (.int .i64 ((m : Int) + 1))).cell? ⟨wb, 0, none⟩ = some (.pointer (some ⟨nb 2, 0, none⟩)) := by
        have hw9 : (wr.setCell ⟨wb, 1, none⟩ (.int .i64 ((m : Int) + 1))).heap[wb]? = some (.cells #[ptr (nb 2), .int .i64 ((m : Int) + 1), .map (some mb)] 63 (0, 0)) := by
          simp [World.setCell, Array.getElem?_modify, W1.whl]
        rw [cell_of_row _ wb 0 _ _ (0, 0) hw9]
        rfl
      have s1 : (wr.setCell ⟨wb, 1, none⟩ (.int .i64 ((m : Int) + 1))).cell? ⟨wb, 1, none⟩ = some (.int .i64 ((m : Int) + 1)) := World.cell?_setCell_same _ _ _ c1
      have HS := Lib.hid hS
      have HW1 := Lib.hid W1
      clear hS hr1 W1
      generalize hW5 : wr.setCell ⟨wb, 1, none⟩ (.int .i64 ((m : Int) + 1)) = W5 at *
      have HW5 := Lib.hid hW5
      have hwl := (HW1.out).wlab
      unfold ptr at *
      go_wp2_with fail
      go_region_held3 (fun W => W.cell? ⟨wb, 0, none⟩ = some (.pointer (some ⟨nb 2, 0, none⟩)) ∧ W.cell? ⟨wb, 1, none⟩ = some (.int .i64 ((m : Int) + 1)))
        (first
          | exact ⟨s0, s1⟩
          | exact ⟨j0, j1⟩)
        (first
          | (go_at_call 28; refine (HS.out 1).mono ?_; rintro e w9 ⟨A3, c3, lab3, V3, L3, zs, rfl, r1, r2, r3, r4, r5, r6, r7, r8, r9, r10, r11⟩; have j0 := r9.cell (p := ⟨wb, 0, none⟩) s0 (by simp only; omega); have j1 := r9.cell (p := ⟨wb, 1, none⟩) s1 (by simp only; omega)))
      have HNEXT := Lib.hid (fun (wi : World) (v : Value) (hI : Inn w.heap.size w9 lab3 mb (af tk U m) hd tk zs (ob.map (pr hd tk)) zs.length wi v) => Going.next HW1.out HW5.out ord1 mem1 ch1 l1 r1 r2 r3 r4 r5 r6 r9 r10 hI)
      have hW := HW1.out
      have hs5 : W5.heap.size = wr.heap.size := by rw [← HW5.out]; simp [World.setCell]
      have r10' : ∀ k, k < wr.heap.size → lab3 k = lab1 k := fun k hk => r10 k (by show k < W5.heap.size; omega)
      have hz : ∀ b, b ∈ zs ↔ b ∈ af tk U m ∧ tk b = m + 1 := fun b => by rw [r4 b, hW.mem b]
      have lw3 : lab3 wb = 1 := by rw [r10' wb hW.lt]; exact hwl
      have lm3 : lab3 mb = 2 := by rw [r10' mb hW.map.lt]; exact hW.mlab
      have c5 : Ch wr W5 (fun k => k = wb) := by
        rw [← HW5.out]
        exact (Ch.refl wr (fun k => k = wb)).setCell (p := ⟨wb, 1, none⟩) (fun _ => rfl) _
      have hob : ob.length ≤ U.length := nodup_len ob U ord1.nodup fun b hb => ((mem1 b).1 hb).1
      have hzl : ob.length + zs.length ≤ 1099511627776 := by
        have hnd : (ob ++ zs).Nodup := by
          rw [List.nodup_append]
          exact ⟨ord1.nodup, r3, fun a ha b hb e => by subst e; have h1 := ((mem1 a).1 ha).2; have h2 := ((hz a).1 hb).2; omega⟩
        have := nodup_len (ob ++ zs) U hnd fun b hb => by
          rcases List.mem_append.1 hb with hb | hb
          · exact ((mem1 b).1 hb).1
          · exact (mem_af.1 ((hz b).1 hb).1).1
        rw [List.length_append] at this
        omega
      have I0 : Inn w.heap.size w9 lab3 mb (af tk U m) hd tk zs (ob.map (pr hd tk)) 0 w9 u5 := by
        have hg0 : ∀ g, u5.ownBlock = some g → g < wr.heap.size := fun g hg => (own1.lt g hg).2
        refine ⟨?_, fun g hg => by rw [r10' g (hg0 g hg)]; exact vl1 g hg, ?_, Ch.refl _ _⟩
        · have h1 : W5.ownsRow w.heap.size 53 2 u5 ob.length (dv (ob.map (pr hd tk))) := own_ch2 own1 c5 fun g hg e => by have := vl1 g hg; rw [e] at this; omega
          have h2 := own_ch2 (w := W5.drewN 1) h1 r9 fun g hg e => by have := vl1 g hg; omega
          rw [List.length_map, List.take_zero, List.map_nil, List.append_nil]
          exact h2
        · have h1 := (hW.map.keep (c5.block mb hW.map.lt (fun e => by have := hW.mlab; rw [e] at this; omega)))
          have h2 := h1.keep (w' := w9) (r9.block mb (by show mb < W5.heap.size; have := hW.map.lt; omega) (by have := hW.mlab; omega))
          simpa using h2
      have hbs : ∀ b ∈ zs, b ∈ af tk U m ∧ lab3 b = 3 ∧ Tim w9 hd tk b ∧ isI (hd b) := fun b hb => by
        have hba := ((hz b).1 hb).1
        obtain ⟨t1, r', i', j', _, _, _, t2⟩ := hW.tim hba
        have t3 : Tim W5 hd tk b := ⟨j', t2.keep (c5.block b t2.lt (fun e => by rw [e] at t1; omega))⟩
        exact ⟨hba, by rw [r10' b t2.lt]; exact t1, r11 b t1 (t3.keep rfl), hW.hI b hba⟩
      have w9c : w9.cell? ⟨wb, 2, none⟩ = some (.map (some mb)) := by
        have h1 : W5.cell? ⟨wb, 2, none⟩ = some (.map (some mb)) := by
          rw [← HW5.out]
          exact (World.cell?_setCell_other _ _ _ _ (by intro e; injection e with _ e; omega)).trans hW.c2
        exact r9.cell (p := ⟨wb, 2, none⟩) h1 (by simp only; omega)
      have hbase : w.heap.size ≤ w9.heap.size := by have h1 := ch1.size; have h2 := r9.size; have h3 : (W5.drewN 1).heap.size = W5.heap.size := rfl; omega
      have HI0 := Lib.hid I0
      have HBS := Lib.hid hbs
      have HD := Lib.hid hW.dist
      have HR1 := Lib.hid r1.lt
      have HR3 := Lib.hid r3
      have HR7 := Lib.hid r7
      have HR8 := Lib.hid r8
      have HZL := Lib.hid hzl
      have HBASE := Lib.hid hbase
      have HW9C := Lib.hid w9c
      clear hW hs5 r10' hz c5 hob hzl I0 hbs w9c hbase r1 r2 r3 r4 r5 r6 r7 r8 r9 r10 r11 own1 vl1 ord1 mem1 ch1 l1 HS HW1 HW5 hW5 s0 s1 j0 j1
      generalize hzn : zs.length = zn at *
      have HZN := Lib.hid hzn
      clear hzn
      go_wp2_with fail
      go_loopw [5, 41] (fun v ix wi => ∃ j : Nat, j ≤ zn ∧ ix = .int .i64 j ∧ Inn w.heap.size w9 lab3 mb (af tk U m) hd tk zs (ob.map (pr hd tk)) j wi v) (fun _ ix _ => zn - (intOf ix).toNat)
      case atStart => exact ⟨0, Nat.zero_le _, rfl, HI0.out⟩
      case round =>
        obtain ⟨j, hjz, rfl, II⟩ := hrel
        by_cases hjl : j < zn
        · have hj : zs[j]? = some (zs[j]'(by rw [HZN.out]; exact hjl)) := List.getElem?_eq_getElem _
          generalize zs[j]'(by rw [HZN.out]; exact hjl) = b at hj
          obtain ⟨hba, b3, bT, bI⟩ := HBS.out b (List.mem_of_getElem? hj)
          have hkey := Inn.key (j := j) HR3.out (fun x hx => (HBS.out x hx).1) HD.out hj
          have gz : ∃ g, A3 = some ⟨g, 0, none⟩ ∧ wr.cell? ⟨g, j, none⟩ = some (ptr b) := by
            have h1 := own_ch HR7.out II.ch fun g hg e => by
              have h2 := HR8.out g hg
              rcases e with e | e
              · rw [e] at h2; omega
              · omega
            rcases h1.2 with ⟨h2, h3⟩ | ⟨g, cap, cur, h2, _⟩
            · omega
            · injection h2 with h2 _ h4
              subst h2
              subst h4
              refine ⟨g, rfl, ?_⟩
              rw [World.ownsRow.cellAt h1 j (by omega)]
              simp [hj]
          obtain ⟨g, rfl, gk2⟩ := gz
          have hkb : ∀ k, lab3 k = 3 ∨ lab3 k = 1 → ¬(k = mb ∨ w.heap.size ≤ k ∧ lab3 k = 0) := fun k hk e => by
            rcases e with e | e
            · rw [e] at hk; omega
            · omega
          have bTi : Tim wr hd tk b := bT.keep (II.ch.block b bT.lt (hkb b (.inl b3)))
          have b0 : wr.cell? ⟨b, 0, none⟩ = some (.int .i64 (hd b)) := bTi.elim fun _ t => t.c0
          have b1 : wr.cell? ⟨b, 1, none⟩ = some (.int .i64 (tk b : Int)) := bTi.elim fun _ t => t.c1
          have k2 : wr.cell? ⟨wb, 2, none⟩ = some (.map (some mb)) := II.ch.cell HW9C.out (hkb wb (.inr lw3))
          have hmne : ¬ b = mb := fun e => by rw [e] at b3; omega
          have HJ := Lib.hid hj
          have HK := Lib.hid hkey
          have HII := Lib.hid II
          have HBT := Lib.hid bTi
          have hvb : ∀ g, u5.ownBlock = some g → w.heap.size ≤ g := fun g hg => (II.own.lt g hg).1
          have HVB := Lib.hid hvb
          have HM := Lib.hid II.map
          clear hj hkey II bTi hvb
          unfold ptr at *
          go_wp2_with fail
          go_still_tail 9, (by kernel_rfl)
          change wpList _ _ _ _ _ wr.drew
          refine wpList_delM rfl _ _ rfl rfl (HM.out.keep (w' := wr.drew) rfl) bI rfl HK.out ?_
          intro w3 M3 tu
          have c3 : Ch wr w3 (fun k => k = mb) := ((Ch.refl wr (fun k => k = mb)).drew).turned tu (fun _ => rfl)
          have b03 := c3.cell b0 (by exact hmne)
          have b13 := c3.cell b1 (by exact hmne)
          have o3 : w3.ownsRow w.heap.size 53 2 u5 ((ob.map (pr hd tk)).length + j) (dv (ob.map (pr hd tk) ++ (zs.take j).map (pr hd tk))) := own_ch2 HII.out.own c3 fun g hg e => by have h1 := HII.out.vlab g hg; rw [e] at h1; omega
          have n0 : (w3.alloc (.cells #[.int .i64 (hd b), .int .i64 (tk b : Int)] 53)).cell? ⟨w3.heap.size, 0, none⟩ = some (.int .i64 (hd b)) := by
            rw [cell_of_row (w3.alloc (.cells #[.int .i64 (hd b), .int .i64 (tk b : Int)] 53)) w3.heap.size 0 #[.int .i64 (hd b), .int .i64 (tk b : Int)] 53 (0, 0) (heap_alloc_new w3 _)]
            rfl
          have n1 : (w3.alloc (.cells #[.int .i64 (hd b), .int .i64 (tk b : Int)] 53)).cell? ⟨w3.heap.size, 1, none⟩ = some (.int .i64 (tk b : Int)) := by
            rw [cell_of_row (w3.alloc (.cells #[.int .i64 (hd b), .int .i64 (tk b : Int)] 53)) w3.heap.size 1 #[.int .i64 (hd b), .int .i64 (tk b : Int)] 53 (0, 0) (heap_alloc_new w3 _)]
            rfl
          have hbl : w.heap.size ≤ (w3.alloc (.cells #[.int .i64 (hd b), .int .i64 (tk b : Int)] 53)).heap.size := by
            have h1 := HBASE.out
            have h2 := HII.out.ch.size
            have h3 := c3.size
            rw [World.size_alloc]
            omega
          have hol : (ob.map (pr hd tk)).length + j ≤ 1099511627776 := by have := HZL.out; rw [List.length_map]; omega
          have O4 := Lib.hid (o3.alloc (.cells #[.int .i64 (hd b), .int .i64 (tk b : Int)] 53))
          have HM3 := Lib.hid M3
          have HC3 := Lib.hid c3
          clear o3 M3 tu c3
          go_wp2_with (first | (at_builtin; refine wpList_app2 rfl _ _ 41 53 rfl Try.underlying41 infoDue w.heap.size _ _ _ rfl O4.out hbl _ _ _ rfl n0 n1 hol ?_; intro v' w4 own4 gr4 at4))
          go_roundw
          case rel =>
            have hnx := HII.out.next (q := 0) HJ.out HM3.out HC3.out lm3 HR1.out HBASE.out own4 gr4 at4 HVB.out
            exact ⟨j + 1, by omega, by go_num, hnx⟩
          case measure => simp [intOf]; omega
        · obtain rfl : j = zn := by omega
          go_wp2_with fail
          go_roundg (np - (m + 1))
          case measure => omega
          case rel =>
            have hnx := HNEXT.out _ _ II
            exact ⟨m + 1, by omega, by omega, Nat.le_refl _, hnx⟩
    · have hcond : ¬ (m : Int) < E := fun h => hlt ((HE.out m hm).1 h)
      obtain rfl : m = np := by omega
      go_wp2_with fail
      go_ret
      exact ⟨_, rfl, lab1, V1, L1, ob, W1, own1, vl1, ord1, mem1, ch1, l1⟩
end

end Go.Proofs.Ytkmhgcdjmfafhaa

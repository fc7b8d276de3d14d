/- One run in the place of some: over slices.Replace and slices.Insert. Conditions: the slice holds runs, at most 2^40; the new run lies in a block of its own. -/
import Derived.Test.YtancbdnpmabpfaaSpA
namespace Go.Proofs.Ytancbdnpmabpfaa
set_option linter.unusedVariables false
set_option linter.unusedSimpArgs false
open Go.RowKit

theorem sizeOfRun (W : World) : (sizeOf (Try.prog.elem 56)).run Try.prog W = .ok 2 W := by kernel_rfl
theorem elemRun : Try.prog.underlying 56 = some (.slice (Try.prog.elem 56)) := by kernel_rfl
theorem undRun : Try.prog.underlying 56 = some (.slice 61) := by kernel_rfl
theorem undInt : Try.prog.underlying 3 = some (.int .i64) := by kernel_rfl
theorem sz2 : (Try.prog.info? 61).map (·.size) = some 2 := by
  obtain ⟨i, hi, h⟩ := Option.map_eq_some_iff.1 infoRun
  simp only [Prod.mk.injEq] at h
  rw [hi]
  simp [h.2.1]
theorem slF (g o n c k : Nat) (hk : k ≤ n) (hc : k < c) (W : World) : (Instr.slice 56 (.slice (some ⟨g, o, none⟩) n c) (some (.int .i64 (k : Int))) none none).run Try.prog W = .ok (.slice (some ⟨g, o + k * 2, none⟩) (n - k) (c - k)) W := by
  rw [run_slice_l (P := Try.prog) W 56 _ n c elemRun .i64 (k : Int) (by omega) (by omega), sizeOfRun]
  have : ¬ c = k := by omega
  simp [Result.andThen, sliced, this, Addr.add_mid]
theorem slT (g o n c k : Nat) (hk : k ≤ c) (W : World) : (Instr.slice 56 (.slice (some ⟨g, o, none⟩) n c) none (some (.int .i64 (k : Int))) none).run Try.prog W = .ok (.slice (some ⟨g, o, none⟩) k c) W := by
  rw [run_slice_h (P := Try.prog) W 56 _ n c elemRun .i64 (k : Int) (by omega) (by omega), sizeOfRun]
  simp [Result.andThen, sliced, Addr.add_mid]

/-- In block g there is room for c runs from place o on. -/
def Blk (w : World) (g o c : Nat) : Prop := ∃ cs, w.heap[g]? = some (.cells cs 61 (0, 0)) ∧ o + c * 2 ≤ cs.size
section
variable {w : World} {g o c : Nat}
theorem Blk.set (h : Blk w g o c) (o' : Nat) (vs : List Value) : Blk (w.setCells g o' vs) g o c := by
  obtain ⟨cs, h1, h2⟩ := h
  obtain ⟨cs', h3, h4⟩ := heap_setCells vs o' w cs h1
  exact ⟨cs', h3, by omega⟩
theorem Blk.there (h : Blk w g o c) (j n : Nat) (hj : j + n ≤ c * 2) : w.there g (o + j) n := by
  obtain ⟨cs, h1, h2⟩ := h
  exact there_of h1 (by omega)
theorem Blk.row (h : Blk w g o c) {l : List Rn} {n : Nat} (hn : n = l.length) (h1 : n ≤ c) (h2 : c ≤ 9223372036854775807) (h3 : w.rangeAt g o (rv l)) : Row w (.slice (some ⟨g, o, none⟩) n c) l := by
  obtain ⟨cs, h4, h5⟩ := h
  subst hn
  exact .inr ⟨g, o, c, cs, rfl, h4, h1, h2, h5, h3⟩
theorem Blk.lt (h : Blk w g o c) : g < w.heap.size := by
  obtain ⟨cs, h1, _⟩ := h
  exact (Array.getElem?_eq_some_iff.1 h1).1
theorem Blk.new (w : World) (cs : List Value) (c : Nat) (h : c * 2 ≤ cs.length) : Blk (w.alloc (.cells cs.toArray 61)) w.heap.size 0 c := ⟨_, heap_alloc_new w _, by simpa using h⟩
theorem range_new (w : World) (a b : List Value) (t : TypeId) : (w.alloc (.cells (a ++ b).toArray t)).rangeAt w.heap.size 0 a := fun j v hv => by
  rw [cell_of_row _ _ _ _ _ _ (heap_alloc_new w _)]
  have := (List.getElem?_eq_some_iff.1 hv).1
  simp [List.getElem?_append_left this, hv]
end

/-- What a run in the place of some leaves. -/
def RepR (w : World) (v : Value) (l' : List Rn) (e : Ending) (w' : World) : Prop :=
  ∃ v', e = .returned v' ∧ Row w' v' l' ∧ Ch w w' (fun k => v.ownBlock = some k) ∧ ∀ k, v'.ownBlock = some k → v.ownBlock = some k ∨ w.heap.size ≤ k

set_option maxHeartbeats 1600000 in
/-- Insert at the end. -/
theorem insert_end {w : World} {v : Value} {l : List Rn} (h : Row w v l) {b : Nat} {x : Rn} (hx : w.rangeAt b 0 (rv [x])) (hU : l.length ≤ 1099511627776) :
    Calls Try.prog 60 #[v, .int .i64 (l.length : Int), .slice (some ⟨b, 0, none⟩) 1 1] w (RepR w v (l ++ [x])) := by
  have h0 := h
  rcases h with ⟨rfl, rfl⟩ | ⟨g, o, c, cs, rfl, hb, h1, h2, h3, h4⟩
  · obtain ⟨c', zs, k1, k2, k3, hr⟩ := run_nil2 (P := Try.prog) w 56 61 56 undRun infoRun b 1 x hx
    have HF : RepR w (.slice none 0 0) ([] ++ [x]) (.returned (.slice (some ⟨w.heap.size, 0, none⟩) 1 c')) (w.drew.alloc (.cells (rv [x] ++ zs).toArray 61)) :=
      ⟨_, rfl, (Blk.new w.drew _ c' (by simp [rv]; omega)).row rfl k1 k2 (range_new w.drew _ _ _), (Ch.refl w _).drew.alloc _, fun k hk => .inr (Nat.le_of_eq (Option.some.inj hk))⟩
    have HF := Lib.hid HF
    generalize w.drew.alloc (.cells (rv [x] ++ zs).toArray 61) = w1 at hr HF
    clear hx
    go_enter Try.func60, Try.ntmps60
    go_wp2_with (at_builtin; refine Lib.wpList_append_run _ rfl _ _ _ _ rfl _ _ rfl rfl _ _ hr ?_)
    go_ret
    exact HF.out
  · have hB : Blk w g o c := ⟨cs, hb, h3⟩
    by_cases hroom : l.length + 1 ≤ c
    · have hr := run_room2 (P := Try.prog) w 56 61 56 undRun infoRun g o l.length c b 1 x hx hroom (hB.there _ _ (by omega))
      have HF : RepR w (.slice (some ⟨g, o, none⟩) l.length c) (l ++ [x]) (.returned (.slice (some ⟨g, o, none⟩) (l.length + 1) c)) (w.setCells g (o + l.length * 2) (rv [x])) :=
        ⟨_, rfl, (hB.set _ _).row (by simp) hroom h2 (by
          rw [rv_append, rangeAt_append, rv_length]
          exact ⟨World.rangeAt_setCells_apart h4 _ _ _ (.inr (.inl (by rw [rv_length]; omega))), World.rangeAt_setCells_same _ _ _ _ (hB.there _ _ (by simp [rv]; omega))⟩), Ch.setCells (m := fun k => (Value.slice (some ⟨g, o, none⟩) l.length c).ownBlock = some k) (fun _ => rfl) _ _ (Ch.refl w _), fun k hk => .inl hk⟩
      have HF := Lib.hid HF
      generalize l.length = n at *
      clear hx hb h3 h4 hB h0
      go_enter Try.func60, Try.ntmps60
      go_wp2_with (at_builtin; refine Lib.wpList_append_run _ rfl _ _ _ _ rfl _ _ rfl rfl _ _ hr ?_)
      go_ret
      exact HF.out
    · obtain ⟨c', zs, k1, k2, k3, hr⟩ := run_grow2 (P := Try.prog) w 56 61 56 undRun infoRun g o l.length c b 1 (rv l) (rv_length l) h4 x hx (by omega) hU
      have HF : RepR w (.slice (some ⟨g, o, none⟩) l.length c) (l ++ [x]) (.returned (.slice (some ⟨w.heap.size, 0, none⟩) (l.length + 1) c')) (w.drew.alloc (.cells (rv l ++ rv [x] ++ zs).toArray 61)) :=
        ⟨_, rfl, (Blk.new w.drew _ c' (by simp [rv_length]; omega)).row (by simp) k1 k2 (by rw [rv_append]; exact range_new w.drew _ _ _), (Ch.refl w _).drew.alloc _, fun k hk => .inr (Nat.le_of_eq (Option.some.inj hk))⟩
      have HF := Lib.hid HF
      generalize w.drew.alloc (.cells (rv l ++ rv [x] ++ zs).toArray 61) = w1 at hr HF
      generalize l.length = n at *
      clear hx hb h3 h4 hB h0
      go_enter Try.func60, Try.ntmps60
      go_wp2_with (at_builtin; refine Lib.wpList_append_run _ rfl _ _ _ _ rfl _ _ rfl rfl _ _ hr ?_)
      go_ret
      exact HF.out

set_option maxRecDepth 8000 in
set_option maxHeartbeats 3200000 in
/-- Insert ahead of some, where there is room. -/
theorem insert_room {w : World} {g o c : Nat} {l : List Rn} (hB : Blk w g o c) (h4 : w.rangeAt g o (rv l)) (hroom : l.length + 1 ≤ c) (h2 : c ≤ 9223372036854775807) {i : Nat} (hi : i < l.length) {b : Nat} {x : Rn} (hx : w.rangeAt b 0 (rv [x])) (hb : b ≠ g) (hbs : w.heap[b]? = some (.cells (rv [x]).toArray 61 (0, 0))) (hU : l.length ≤ 1099511627776) :
    Calls Try.prog 60 #[.slice (some ⟨g, o, none⟩) l.length c, .int .i64 (i : Int), .slice (some ⟨b, 0, none⟩) 1 1] w (RepR w (.slice (some ⟨g, o, none⟩) l.length c) (l.take i ++ x :: l.drop i)) := by
  obtain ⟨n, hn⟩ : ∃ n, n = l.length := ⟨_, rfl⟩
  have hsplit := h4
  rw [← List.take_append_drop i l, rv_append, rangeAt_append, rv_length] at hsplit
  have htl : (l.take i).length = i := by simp; omega
  rw [htl] at hsplit
  obtain ⟨hs1, hs2⟩ := hsplit
  have hdl : (rv (l.drop i)).length = (n - i) * 2 := by rw [rv_length]; simp [hn]
  have hov : ∀ lb cb, (callFunc 61 #[.slice (some ⟨b, 0, none⟩) 1 1, .slice (some ⟨g, o + (i + 1) * 2, none⟩) lb cb]).run Try.prog w = .ok (.value (.bool false)) w := fun lb cb => by
    obtain ⟨cs, hg1, hg2⟩ := hB
    rw [run_callFunc_extern Try.func61 (by kernel_rfl) (by kernel_rfl) (by kernel_rfl) (e := Extern.SlicesOverlaps.overlaps #[56, 56] #[4]) (by kernel_rfl),
      Lib.run_overlaps_apart w 56 4 61 undRun 2 (fun W => by kernel_rfl) ⟨b, 0, none⟩ ⟨g, o + (i + 1) * 2, none⟩ 1 1 lb cb hb 61 61 2 cs.size (by simp [World.shape?, hbs, rv]) (by simp [World.shape?, hg1]) (by omega) (by simp [World.frozen?, hbs]) (by simp [World.frozen?, hbs])]
    rfl
  obtain ⟨W1, hW1⟩ : ∃ W1, W1 = w.drew.setCells g (o + (i + 1) * 2) (rv (l.drop i)) := ⟨_, rfl⟩
  obtain ⟨W2, hW2⟩ : ∃ W2, W2 = W1.setCells g (o + i * 2) (rv [x]) := ⟨_, rfl⟩
  have c1 : ∀ ty dc sc, (Builtin.copy_ #[56, 56] ty #[.slice (some ⟨g, o + (i + 1) * 2, none⟩) (n - i) dc, .slice (some ⟨g, o + i * 2, none⟩) (n + 1 - i) sc]).run Try.prog w.drew = .ok (goInt (n - i : Nat)) W1 := fun ty dc sc => by
    rw [hW1, run_copy2 (P := Try.prog) w.drew _ _ ty 61 g (o + (i + 1) * 2) (n - i) dc g (o + i * 2) (n + 1 - i) sc (rv (l.drop i)) undRun sz2 (by rw [hdl]; simp only [Nat.min_def]; (try split) <;> omega) (by simpa using hs2) (by rw [hdl]; simpa using hB.there _ _ (by omega)) (rv_one _)]
    congr 2
    simp only [Nat.min_def]; (try split) <;> omega
  have hxW : W1.rangeAt b 0 (rv [x]) := by rw [hW1]; exact World.rangeAt_setCells_apart (w := w.drew) (by simpa using hx) _ _ _ (.inl hb)
  have hBW : Blk W1 g o c := by rw [hW1]; exact Blk.set (w := w.drew) hB _ _
  have c2 : ∀ ty dc, (Builtin.copy_ #[56, 56] ty #[.slice (some ⟨g, o + i * 2, none⟩) (n + 1 - i) dc, .slice (some ⟨b, 0, none⟩) 1 1]).run Try.prog W1 = .ok (goInt (1 : Nat)) W2 := fun ty dc => by
    rw [hW2, run_copy2 (P := Try.prog) W1 _ _ ty 61 g (o + i * 2) (n + 1 - i) dc b 0 1 1 (rv [x]) undRun sz2 (by rw [rv_length]; simp only [Nat.min_def, List.length_singleton]; split <;> omega) hxW (hBW.there _ _ (by simp [rv]; omega)) (rv_one _)]
    congr 2
    simp only [Nat.min_def]; (try split) <;> omega
  have HF : RepR w (.slice (some ⟨g, o, none⟩) n c) (l.take i ++ x :: l.drop i) (.returned (.slice (some ⟨g, o, none⟩) (n + 1) c)) W2 := by
    refine ⟨_, rfl, ?_, ?_, fun k hk => .inl hk⟩
    · rw [hW2]
      refine (hBW.set _ _).row (by simp; omega) (by omega) h2 ?_
      rw [rv_append, rangeAt_append, rv_length, htl, show rv (x :: l.drop i) = rv [x] ++ rv (l.drop i) from rfl, rangeAt_append]
      refine ⟨World.rangeAt_setCells_apart ?_ _ _ _ (.inr (.inl (by rw [rv_length, htl]; omega))), World.rangeAt_setCells_same _ _ _ _ (hBW.there _ _ (by simp [rv]; omega)), World.rangeAt_setCells_apart ?_ _ _ _ (.inr (.inr (by simp [rv])))⟩
      · rw [hW1]
        exact World.rangeAt_setCells_apart (w := w.drew) (by simpa using hs1) _ _ _ (.inr (.inl (by rw [rv_length, htl]; omega)))
      · rw [hW1, show o + i * 2 + (rv [x]).length = o + (i + 1) * 2 from by simp [rv]; omega]
        exact World.rangeAt_setCells_same _ _ _ _ (by rw [hdl]; simpa using hB.there _ _ (by omega))
    · rw [hW2, hW1]
      exact Ch.setCells (m := fun k => (Value.slice (some ⟨g, o, none⟩) n c).ownBlock = some k) (fun _ => rfl) _ _ (Ch.setCells (m := fun k => (Value.slice (some ⟨g, o, none⟩) n c).ownBlock = some k) (fun _ => rfl) _ _ (Ch.refl w _).drew)
  have HF := Lib.hid HF
  rw [← hn]
  have hz1 : ¬ ((i : Int) = (n : Int)) := by omega
  have hz2 : ¬ ((c : Int) < (n : Int) + 1) := by omega
  have hz3 : (i : Int) ≤ n := by omega
  have hz4 : ¬ c = i := by omega
  have hz5 : ¬ c = i + 1 := by omega
  have hw1 : IntKind.i64.wrap ((i : Int) + 1) = (i : Int) + 1 := by rw [IntKind.wrap_i64]; omega
  have hz6 : (0 : Int) ≤ (i : Int) + 1 := by omega
  have hz7 : ((i : Int) + 1).toNat = i + 1 := by omega
  have hz8 : (i : Int) ≤ (n : Int) + 1 := by omega
  clear hx hbs hB h4 hs1 hs2 hxW hBW hdl htl
  have hnl := Lib.hid hn
  have hr := Lib.hid hroom
  clear hn hroom hW1 hW2
  go_enter Try.func60, Try.ntmps60
  go_wp2_with (simp only [hov])
  go_region_law (refine step_copy2 _ rfl _ _ 56 56 rfl _ _ (by simp [Act.eval, Act.put]) (by simp [Act.eval, Act.put]) (c1 _ _ _) ?_)
  go_wp2_with (at_builtin; refine wpList_copy2 _ rfl _ _ _ _ rfl _ _ rfl rfl (c2 _ _) ?_)
  go_ret
  exact HF.out

set_option maxRecDepth 8000 in
set_option maxHeartbeats 3200000 in
/-- Insert ahead of some, where there is no room. -/
theorem insert_grow {w : World} {g o c : Nat} {l : List Rn} (h4 : w.rangeAt g o (rv l)) (hg : g < w.heap.size) (hroom : c < l.length + 1) (hc : l.length ≤ c) (h2 : c ≤ 9223372036854775807) {i : Nat} (hi : i < l.length) {b : Nat} {x : Rn} (hx : w.rangeAt b 0 (rv [x])) (hbl : b < w.heap.size) (hU : l.length ≤ 1099511627776) :
    Calls Try.prog 60 #[.slice (some ⟨g, o, none⟩) l.length c, .int .i64 (i : Int), .slice (some ⟨b, 0, none⟩) 1 1] w (RepR w (.slice (some ⟨g, o, none⟩) l.length c) (l.take i ++ x :: l.drop i)) := by
  obtain ⟨n, hn⟩ : ∃ n, n = l.length := ⟨_, rfl⟩
  have hsplit := h4
  rw [← List.take_append_drop i l, rv_append, rangeAt_append, rv_length] at hsplit
  have htl : (l.take i).length = i := by simp; omega
  rw [htl] at hsplit
  obtain ⟨hs1, hs2⟩ := hsplit
  have hdl : (rv (l.drop i)).length = (n - i) * 2 := by rw [rv_length]; simp [hn]
  obtain ⟨c', zs, k1, k2, k3, hr⟩ := run_zeros2 (P := Try.prog) w 56 3 61 56 undRun undInt infoRun g o i c (n + 1 - i) (rv (l.take i)) (by rw [rv_length, htl]) hs1 (by omega) (by omega) (by omega)
  rw [show ((n + 1 - i : Nat) : Int) = (n : Int) + 1 - (i : Int) from by omega, show i + (n + 1 - i) = n + 1 from by omega] at hr
  rw [show i + (n + 1 - i) = n + 1 from by omega] at k1
  obtain ⟨W1, hW1⟩ : ∃ W1, W1 = w.drew.alloc (.cells (rv (l.take i) ++ zs).toArray 61) := ⟨_, rfl⟩
  have hsz : w.drew.heap.size = w.heap.size := rfl
  have hB1 : Blk W1 w.heap.size 0 c' := by rw [hW1]; exact Blk.new w.drew _ c' (by simp [rv_length]; omega)
  have hR1 : W1.rangeAt w.heap.size 0 (rv (l.take i)) := by rw [hW1]; exact range_new w.drew _ _ _
  have hC1 : Ch w W1 (fun k => (Value.slice (some ⟨g, o, none⟩) n c).ownBlock = some k) := by rw [hW1]; exact (Ch.refl w _).drew.alloc _
  have hx1 : W1.rangeAt b 0 (rv [x]) := by rw [hW1]; exact World.rangeAt_alloc (by simpa using hx) _
  have hs3 : W1.rangeAt g (o + i * 2) (rv (l.drop i)) := by rw [hW1]; exact World.rangeAt_alloc (by simpa using hs2) _
  rw [← hW1] at hr
  obtain ⟨hh, hhe⟩ : ∃ hh, hh = w.heap.size := ⟨_, rfl⟩
  rw [← hhe] at hr hB1 hR1
  obtain ⟨W2, hW2⟩ : ∃ W2, W2 = W1.setCells hh (i * 2) (rv [x]) := ⟨_, rfl⟩
  obtain ⟨W3, hW3⟩ : ∃ W3, W3 = W2.drew.setCells hh ((i + 1) * 2) (rv (l.drop i)) := ⟨_, rfl⟩
  have hB2 : Blk W2 hh 0 c' := by rw [hW2]; exact hB1.set _ _
  have hB3 : Blk W3 hh 0 c' := by rw [hW3]; exact Blk.set (w := W2.drew) hB2 _ _
  have th1 : W1.there hh (i * 2) 2 := by have := hB1.there (i * 2) 2 (by omega); simpa using this
  have th2 : W2.there hh ((i + 1) * 2) ((n - i) * 2) := by have := hB2.there ((i + 1) * 2) ((n - i) * 2) (by omega); simpa using this
  have c1 : ∀ ty dc, (Builtin.copy_ #[56, 56] ty #[.slice (some ⟨hh, i * 2, none⟩) (n + 1 - i) dc, .slice (some ⟨b, 0, none⟩) 1 1]).run Try.prog W1 = .ok (goInt (1 : Nat)) W2 := fun ty dc => by
    rw [hW2, run_copy2 (P := Try.prog) W1 _ _ ty 61 hh (i * 2) (n + 1 - i) dc b 0 1 1 (rv [x]) undRun sz2 (by rw [rv_length]; simp only [Nat.min_def, List.length_singleton]; (try split) <;> omega) hx1 th1 (rv_one _)]
    congr 2
    simp only [Nat.min_def]; (try split) <;> omega
  have hs4 : W2.rangeAt g (o + i * 2) (rv (l.drop i)) := by rw [hW2]; exact World.rangeAt_setCells_apart hs3 _ _ _ (.inl (by omega))
  have c2 : ∀ ty dc sc, (Builtin.copy_ #[56, 56] ty #[.slice (some ⟨hh, (i + 1) * 2, none⟩) (n - i) dc, .slice (some ⟨g, o + i * 2, none⟩) (n - i) sc]).run Try.prog W2.drew = .ok (goInt (n - i : Nat)) W3 := fun ty dc sc => by
    rw [hW3, run_copy2 (P := Try.prog) W2.drew _ _ ty 61 hh ((i + 1) * 2) (n - i) dc g (o + i * 2) (n - i) sc (rv (l.drop i)) undRun sz2 (by rw [hdl]; simp only [Nat.min_def]; (try split) <;> omega) (by simpa using hs4) (by rw [hdl]; simpa using th2) (rv_one _)]
    congr 2
    simp only [Nat.min_def]; (try split) <;> omega
  have HF : RepR w (.slice (some ⟨g, o, none⟩) n c) (l.take i ++ x :: l.drop i) (.returned (.slice (some ⟨hh, 0, none⟩) (n + 1) c')) W3 := by
    refine ⟨_, rfl, ?_, ?_, fun k hk => .inr (Nat.le_of_eq (hhe.symm.trans (Option.some.inj hk)))⟩
    · refine hB3.row (by simp; omega) k1 k2 ?_
      rw [rv_append, rangeAt_append, rv_length, htl, show rv (x :: l.drop i) = rv [x] ++ rv (l.drop i) from rfl, rangeAt_append, hW3]
      refine ⟨World.rangeAt_setCells_apart (w := W2.drew) ?_ _ _ _ (.inr (.inl (by rw [rv_length, htl]; omega))), World.rangeAt_setCells_apart (w := W2.drew) ?_ _ _ _ (.inr (.inl (by simp [rv]; omega))), ?_⟩
      · rw [hW2]
        simpa using World.rangeAt_setCells_apart hR1 hh (i * 2) (rv [x]) (.inr (.inl (by rw [rv_length, htl]; omega)))
      · rw [hW2]
        simpa using World.rangeAt_setCells_same W1 hh (i * 2) (rv [x]) th1
      · rw [show 0 + i * 2 + (rv [x]).length = (i + 1) * 2 from by simp [rv]; omega]
        exact World.rangeAt_setCells_same _ _ _ _ (by rw [hdl]; simpa using th2)
    · rw [hW3, hW2]
      exact Ch.setCells (m := fun k => (Value.slice (some ⟨g, o, none⟩) n c).ownBlock = some k) (fun hk => absurd hk (by omega)) _ _ (Ch.setCells (m := fun k => (Value.slice (some ⟨g, o, none⟩) n c).ownBlock = some k) (fun hk => absurd hk (by omega)) _ _ hC1).drew
  have HF := Lib.hid HF
  rw [← hn]
  have hz1 : ¬ ((i : Int) = (n : Int)) := by omega
  have hz2 : (c : Int) < (n : Int) + 1 := by omega
  have hz3 : (i : Int) ≤ n := by omega
  have hz4 : ¬ c = i := by omega
  have hz5 : ¬ c' = i + 1 := by omega
  have hz9 : ¬ c' = i := by omega
  have hw1 : IntKind.i64.wrap ((i : Int) + 1) = (i : Int) + 1 := by rw [IntKind.wrap_i64]; omega
  have hz6 : (0 : Int) ≤ (i : Int) + 1 := by omega
  have hz7 : ((i : Int) + 1).toNat = i + 1 := by omega
  have hz8 : (i : Int) ≤ (n : Int) + 1 := by omega
  have hz10 : (i : Int) ≤ (c : Int) := by omega
  clear hx hs1 hs2 hdl htl h4 hW1 hW2 hW3 hB1 hB2 hB3 th1 th2 hR1 hC1 hx1 hs3 hs4 hsz k3
  have hnl := Lib.hid hn
  have hr1 := Lib.hid hroom
  have hr2 := Lib.hid hc
  have hr3 := Lib.hid hhe
  clear hn hroom hc hhe
  go_enter Try.func60, Try.ntmps60
  go_wp2_with (first | (at_builtin; refine Lib.wpList_append_run _ rfl _ _ _ _ rfl _ _ rfl rfl _ _ hr ?_) | (at_builtin; refine wpList_copy2 _ rfl _ _ _ _ rfl _ _ rfl rfl (c1 _ _) ?_))
  go_region_law (refine step_copy2 _ rfl _ _ 56 56 rfl _ _ (by simp [Act.eval, Act.put]) (by simp [Act.eval, Act.put]) (c2 _ _ _) ?_)
  go_wp2_with fail
  go_ret
  exact HF.out
end Go.Proofs.Ytancbdnpmabpfaa

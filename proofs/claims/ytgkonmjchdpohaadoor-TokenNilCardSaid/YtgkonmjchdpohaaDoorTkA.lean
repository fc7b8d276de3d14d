/- All of a table's entries: the contract of All. Condition: the ticks of what was freed are whole numbers of 64 bits. -/
import Derived.Test.YtgkonmjchdpohaaDoorTkS
namespace Go.Proofs.YtgkonmjchdpohaaDoor
set_option linter.unusedVariables false
set_option linter.unusedSimpArgs false
open Go.RowKit

theorem nodup_lenN : ∀ (a b : List Nat), a.Nodup → (∀ x ∈ a, x ∈ b) → a.length ≤ b.length
  | [], b, _, _ => Nat.zero_le _
  | x :: a, b, hn, hs => by
    rw [List.nodup_cons] at hn
    have hx := hs x (List.mem_cons_self ..)
    have h1 := nodup_lenN a (b.erase x) hn.2 fun y hy => by
      have hne : y ≠ x := fun e => hn.1 (e ▸ hy)
      exact (List.mem_erase_of_ne hne).2 (hs y (List.mem_cons_of_mem _ hy))
    rw [List.length_erase_of_mem hx] at h1
    have := List.length_pos_of_mem hx
    rw [List.length_cons]
    omega

/-- While the entries are collected: those that have come. -/
structure Co (l : Ents) (left : Nat → Bool) (out : List En) : Prop where
  nd : (out.map En.tok).Nodup
  mem : ∀ x, x ∈ out ↔ ∃ p, p ∈ l ∧ left p.1 = false ∧ x = en p

theorem Co.start (l : Ents) : Co l (fun k => decide (k ∈ keys l)) [] :=
  ⟨List.nodup_nil, fun x => ⟨fun h => (by cases h), fun ⟨p, hp, h, _⟩ => by simp [mem_keys hp] at h⟩⟩
theorem Co.step {l : Ents} {left : Nat → Bool} {out : List En} (h : Co l left out) (hn : (keys l).Nodup) {k : Nat} {e : Ent} (hl : left k = true) (he : (k, e) ∈ l) : Co l (fun j => left j && !decide (j = k)) (out ++ [en (k, e)]) where
  nd := by
    rw [List.map_append, List.nodup_append]
    refine ⟨h.nd, by simp, fun a ha b hb => ?_⟩
    simp [en] at hb
    subst hb
    obtain ⟨x, hx, rfl⟩ := List.mem_map.1 ha
    obtain ⟨p, _, h2, rfl⟩ := (h.mem x).1 hx
    intro e1
    have e2 : p.1 = b := e1
    rw [e2, hl] at h2
    cases h2
  mem x := by
    rw [List.mem_append, h.mem x, List.mem_singleton]
    constructor
    · rintro (⟨p, h1, h2, h3⟩ | rfl)
      · exact ⟨p, h1, by simp [h2], h3⟩
      · exact ⟨(k, e), he, by simp, rfl⟩
    · rintro ⟨p, h1, h2, rfl⟩
      by_cases e1 : p.1 = k
      · obtain ⟨a, b⟩ := p
        subst e1
        rw [ents_inj hn he h1]
        exact .inr rfl
      · refine .inl ⟨p, h1, ?_, rfl⟩
        simpa [e1] using h2
theorem Co.done {l : Ents} {left : Nat → Bool} {out : List En} (h : Co l left out) (hk : ∀ p, p ∈ l → p.1 < 4294967296) (hl : ∀ k, k < 4294967296 → left k = false) : ∀ x, x ∈ out ↔ ∃ p, p ∈ l ∧ x = en p := fun x => by
  rw [h.mem x]
  exact ⟨fun ⟨p, h1, _, h3⟩ => ⟨p, h1, h3⟩, fun ⟨p, h1, h3⟩ => ⟨p, h1, hl _ (hk p h1), h3⟩⟩

theorem Co.len {l : Ents} {left : Nat → Bool} {out : List En} (h : Co l left out) : out.length ≤ l.length := by
  have h1 := nodup_lenN (out.map En.tok) (keys l) h.nd fun a ha => by
    obtain ⟨x, hx, rfl⟩ := List.mem_map.1 ha
    obtain ⟨p, hp, _, rfl⟩ := (h.mem x).1 hx
    exact mem_keys hp
  simpa [keys] using h1

/-- All that is told: the entries of l, rising. -/
structure Told (l : Ents) (out : List En) : Prop where
  up : out.Pairwise (fun a b => a.tok < b.tok)
  mem : ∀ x, x ∈ out ↔ ∃ p, p ∈ l ∧ x = en p
theorem Told.length {l : Ents} {out : List En} (h : Told l out) (hn : (keys l).Nodup) : out.length = l.length := by
  have h1 : (out.map En.tok).Nodup := by
    rw [List.Nodup, List.pairwise_map]
    exact h.up.imp fun hlt => by omega
  have h2 : (out.map En.tok).Perm (keys l) := by
    rw [List.perm_ext_iff_of_nodup h1 hn]
    intro a
    unfold keys
    simp only [List.mem_map]
    constructor
    · rintro ⟨x, hx, rfl⟩
      obtain ⟨p, hp, rfl⟩ := (h.mem x).1 hx
      exact ⟨p, hp, rfl⟩
    · rintro ⟨p, hp, rfl⟩
      exact ⟨en p, (h.mem _).2 ⟨p, hp, rfl⟩, rfl⟩
  have h3 := h2.length_eq
  simpa [keys] using h3
theorem Told.of {l : Ents} {out out' : List En} (hp : out'.Perm out) (hs : out'.Pairwise (fun a b => a.tok ≤ b.tok)) (hn : (out.map En.tok).Nodup) (hm : ∀ x, x ∈ out ↔ ∃ p, p ∈ l ∧ x = en p) : Told l out' := by
  refine ⟨?_, fun x => (hp.mem_iff).trans (hm x)⟩
  have hn' : (out'.map En.tok).Nodup := (hp.map En.tok).nodup_iff.2 hn
  rw [List.Nodup, List.pairwise_map] at hn'
  exact (hs.and hn').imp fun ⟨h1, h2⟩ => by omega

theorem cellsE (w : World) (a : Bool) (b c : Int) (t : TypeId) : (w.alloc (.cells #[.bool a, .int .i64 b, .int .i64 c] t)).cell? ⟨w.heap.size, 0, none⟩ = some (.bool a) ∧ (w.alloc (.cells #[.bool a, .int .i64 b, .int .i64 c] t)).cell? ⟨w.heap.size, 1, none⟩ = some (.int .i64 b) ∧ (w.alloc (.cells #[.bool a, .int .i64 b, .int .i64 c] t)).cell? ⟨w.heap.size, 2, none⟩ = some (.int .i64 c) := by
  refine ⟨?_, ?_, ?_⟩ <;> (rw [cell_of_row _ w.heap.size _ _ t (0, 0) (heap_alloc_new w _)]; rfl)
theorem cellsEn (w : World) (x : En) (t : TypeId) : ∀ j, j < 4 → (w.alloc (.cells #[.int .u32 (x.tok : Int), .int .i64 x.owner, .bool x.live, .int .i64 x.upto] t)).cell? ⟨w.heap.size, j, none⟩ = x.cells[j]? := fun j hj => by
  rw [cell_of_row _ w.heap.size j _ t (0, 0) (heap_alloc_new w _)]
  simp [En.cells]

/-- What the collecting has come to. -/
def AI (w : World) (mb : Nat) (l : Ents) (v : Value) (wr : World) : Prop :=
  ∃ left cnt out, Rg wr mb w.heap.size l left cnt ∧ wr.ownsRow w.heap.size 49 4 v out.length (ecs out) ∧ Co l left out ∧ RowKit.Below w.heap.size w wr ∧ v.ownBlock ≠ some w.heap.size ∧ out.length ≤ l.length

set_option maxRecDepth 20000 in
set_option maxHeartbeats 1600000 in
theorem tall_any {w : World} {tb mb c : Nat} {l : Ents} (h : Tb w tb mb c l) (hf : ∀ p ∈ l, isI p.2.freed) :
    Calls Tryd.prog 18 #[ptr tb] w fun e w' => ∃ v out, e = .returned v ∧ Er w' w.heap.size v out ∧ Told l out ∧ RowKit.Below w.heap.size w w' := by
  have c1 := h.c1
  have HH := Lib.hid h
  have HF := Lib.hid hf
  have HND := Lib.hid h.map.nd
  have HKY := Lib.hid h.map.key
  have htl := h.lt
  have hml := h.map.lt
  have hll : l.length ≤ 64 := Nat.le_trans h.fits h.room
  have HLL := Lib.hid hll
  clear h hf hll
  unfold ptr
  go_enter Tryd.func18, Tryd.ntmps18
  go_wp2_with (first | (at_range; refine wpList_rangeE rfl _ rfl rfl HH.out.map ?_; intro w0 R0 b0 s0))
  go_frame
  have HS : Hid (AI w mb l (.slice none 0 0) w0) := Lib.hid ⟨_, _, [], R0, World.ownsRow_nil _ _ _ _, Co.start l, b0, fun e => (by cases e), Nat.zero_le _⟩
  clear R0 b0 s0
  go_loopw [3] (fun v wr => AI w mb l v wr) (fun _ wr => wr.rangeLeft mb w.heap.size)
  case atStart => exact HS.out
  case round =>
    obtain ⟨left, cnt, out, R, own, co, b, hvb, hol⟩ := hrel
    have HRG := Lib.hid R
    have HOW := Lib.hid own
    have HCO := Lib.hid co
    have HB := Lib.hid b
    have HVB := Lib.hid hvb
    clear R own co b hvb
    go_wp2_with (first | (at_next; refine wpList_nextE rfl _ rfl rfl HRG.out ?_ ?_))
    · intro hl0
      have HM := Lib.hid (HCO.out.done HKY.out hl0)
      have HSO := Lib.hid (sort_any HOW.out (by have := HLL.out; omega))
      clear hl0
      go_wp2_with fail
      refine (HSO.out).mono ?_
      rintro e w5 ⟨rfl, out', p5, s5, er5, ch5⟩
      go_wp2_with fail
      go_ret
      refine ⟨_, out', rfl, er5, Told.of p5 s5 HCO.out.nd HM.out, ?_⟩
      exact HB.out.trans ⟨ch5.os, ch5.tape, ch5.output, ch5.size, fun k hk => ch5.block k (Nat.lt_of_lt_of_le hk HB.out.size) (by omega)⟩
    · intro k e w1 cnt1 hk hlk hin R1 hlt g1 s1 hen
      have hr := HRG.out.lt
      have hbs := HB.out.size
      have hlt2 := HRG.out.left_eq
      have HR0 := Lib.hid hlt2
      have HU := Lib.hid (fun W => until_any e W (HF.out _ hin))
      have HST := Lib.hid (HCO.out.step HND.out hlk hin)
      have HB1 : Hid (RowKit.Below w.heap.size w w1) := Lib.hid (HB.out.trans ⟨g1.os, g1.tape, g1.output, g1.size, fun j hj => g1.block j (by omega) (fun e => by injection e with e; omega)⟩)
      have HR1 := Lib.hid R1
      have HO1 : Hid (w1.ownsRow w.heap.size 49 4 u3 out.length (ecs out)) := Lib.hid (own_ch2 (m := fun k => k = w.heap.size) HOW.out ((Ch.refl _ _).grown g1 fun j e _ => by injection e with e; exact e.symm) fun g hg e => HVB.out (by rw [hg, e]))
      clear R1 g1 hlk hin hlt2
      obtain ⟨lv, ow, fr⟩ := e
      have hut : ∀ x, unt ⟨lv, ow, fr⟩ = x → en (k, ⟨lv, ow, fr⟩) = ⟨k, ow, lv, x⟩ := fun x e => by rw [← e]; rfl
      have HUT := Lib.hid (hut _ rfl)
      clear hut
      generalize unt ⟨lv, ow, fr⟩ = un at *
      dsimp only at HU hen
      have hk3 : ∀ W : World, RowKit.Below (w1.alloc (.cells #[.bool lv, .int .i64 ow, .int .i64 fr] 65)).heap.size (w1.alloc (.cells #[.bool lv, .int .i64 ow, .int .i64 fr] 65)) W → W.cell? ⟨wr.heap.size, 0, none⟩ = some (.bool lv) ∧ W.cell? ⟨wr.heap.size, 1, none⟩ = some (.int .i64 ow) ∧ W.cell? ⟨wr.heap.size, 2, none⟩ = some (.int .i64 fr) := fun W hb => by
        obtain ⟨z0, z1, z2⟩ := cellsE w1 lv ow fr 65
        rw [s1] at z0 z1 z2
        exact ⟨(hb.cell (World.block_lt_of_cell? _ _ z0)).trans z0, (hb.cell (World.block_lt_of_cell? _ _ z1)).trans z1, (hb.cell (World.block_lt_of_cell? _ _ z2)).trans z2⟩
      have HK3 := Lib.hid hk3
      have HO2 : Hid (∀ W : World, RowKit.Below (w1.alloc (.cells #[.bool lv, .int .i64 ow, .int .i64 fr] 65)).heap.size (w1.alloc (.cells #[.bool lv, .int .i64 ow, .int .i64 fr] 65)) W → W.ownsRow w.heap.size 49 4 u3 out.length (ecs out) ∧ RowKit.Below w.heap.size w W ∧ Rg W mb w.heap.size l (fun j => left j && !decide (j = k)) cnt1) := Lib.hid (fun W hb => by
        have hb0 := below_a w1 (.cells #[.bool lv, .int .i64 ow, .int .i64 fr] 65)
        have hb1 := below_trans hb0 hb
        exact ⟨own_below HO1.out hb1, HB1.out.trans (hb1.mono HB1.out.size), HR1.out.below hb1⟩)
      clear hk3
      have hs2 : (w1.alloc (.cells #[.bool lv, .int .i64 ow, .int .i64 fr] 65)).heap.size = wr.heap.size + 1 := by rw [World.size_alloc, s1]
      have HS2 := Lib.hid hs2
      clear hs2
      have HOL : Hid (out.length ≤ 1099511627776) := Lib.hid (by have := HLL.out; omega)
      have HVE : Hid (some wr.heap.size ≠ u3.ownBlock) := Lib.hid (fun e => by have := (own_in HOW.out e.symm).2; omega)
      go_wp2_with fail
      generalize w1.alloc (.cells #[.bool lv, .int .i64 ow, .int .i64 fr] 65) = W2 at *
      obtain ⟨e0, e1, e2⟩ := HK3.out W2.drew (Below.refl _ _).drew
      go_region_held3 (fun W => W.cell? ⟨wr.heap.size, 0, none⟩ = some (.bool lv) ∧ W.cell? ⟨wr.heap.size, 1, none⟩ = some (.int .i64 ow) ∧ W.cell? ⟨wr.heap.size, 2, none⟩ = some (.int .i64 fr))
        (first
          | exact ⟨e0, e1, e2⟩
          | exact ⟨f0, f1, f2⟩
          | exact ⟨i0, i1, i2⟩
          | exact ⟨g0, g1, g2⟩)
        (first
          | (go_at_call 27; refine (HU.out _).mono ?_; rintro e w5 ⟨rfl, b5⟩; have hb5 : RowKit.Below W2.heap.size W2 w5 := (Below.refl _ _).drew.trans (b5.mono (by exact Nat.le_refl _)); have hb6 := hb5.alloc hb5.size (.cells #[.int .u32 (k : Int), .int .i64 ow, .bool lv, .int .i64 un] 49); obtain ⟨f0, f1, f2⟩ := HK3.out w5 hb5; obtain ⟨i0, i1, i2⟩ := HK3.out _ hb6; have HB6 := Lib.hid hb6; have HCE := Lib.hid (cellsEn w5 ⟨k, ow, lv, un⟩ 49); have HOO := Lib.hid (HO2.out _ hb6).1; have HSZ : Hid (w.heap.size ≤ (w5.alloc (.cells #[.int .u32 (k : Int), .int .i64 ow, .bool lv, .int .i64 un] 49)).heap.size) := Lib.hid (HO2.out _ hb6).2.1.size; clear b5 hb5 hb6)
          | ((refine step_appE _ (by rfl) (.tmp 18) (.tmp 27) 43 49 (by rfl) Tryd.underlying43 infoEn w.heap.size _ out.length out (by rfl) HOO.out HSZ.out _ ⟨k, ow, lv, un⟩ (by rfl) HCE.out HOL.out ?_; intro v7 w7 ho7 hg7 hx7; have g0 := (hg7.cell_far ⟨wr.heap.size, 0, none⟩ (World.block_lt_of_cell? _ _ i0) HVE.out).trans i0; have g1 := (hg7.cell_far ⟨wr.heap.size, 1, none⟩ (World.block_lt_of_cell? _ _ i1) HVE.out).trans i1; have g2 := (hg7.cell_far ⟨wr.heap.size, 2, none⟩ (World.block_lt_of_cell? _ _ i2) HVE.out).trans i2)))
      have hmm := HO2.out _ HB6.out
      have HR7 : Hid (Rg w7 mb w.heap.size l (fun j => left j && !decide (j = k)) cnt1) := Lib.hid (hmm.2.2.keep hg7 (fun e => by have := (own_in HOW.out e).1; omega) HVB.out)
      have hb7 : RowKit.Below w.heap.size w w7 := hmm.2.1.trans ⟨hg7.os, hg7.tape, hg7.output, hg7.size, fun j hj => hg7.block j (Nat.lt_of_lt_of_le hj hmm.2.1.size) (fun e => by have := (own_in HOW.out e.symm).1; omega)⟩
      have hsz := HSZ.out
      have hvb7 : v7.ownBlock ≠ some w.heap.size := fun e => by
        rcases hx7 with h7 | h7
        · exact HVB.out (h7.symm.trans e)
        · rw [h7] at e
          injection e with e
          rw [World.size_alloc] at e
          have := HB6.out.size
          rw [World.size_alloc] at this
          have := HS2.out
          omega
      have HVB7 := Lib.hid hvb7
      clear hvb7 hsz
      have HB7 := Lib.hid hb7
      have HX7 := Lib.hid hx7
      have HO7 := Lib.hid ho7
      clear hmm hb7 hx7 ho7 hg7 g0 g1 g2
      go_wp2_with fail
      go_roundw
      case rel =>
        refine ⟨_, cnt1, out ++ [⟨k, ow, lv, un⟩], HR7.out, by rw [List.length_append]; exact HO7.out, by rw [← HUT.out]; exact HST.out, HB7.out, HVB7.out, by rw [← HUT.out]; exact HST.out.len⟩
      case measure =>
        rw [HR7.out.left_eq, HR0.out]
        exact hlt

end Go.Proofs.YtgkonmjchdpohaaDoor

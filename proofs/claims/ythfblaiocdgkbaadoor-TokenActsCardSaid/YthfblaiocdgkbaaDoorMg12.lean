/- The law's two tables side by side, and what each call does on both. Condition: the table of constants holds.
Steps of a region that draws its order, one by one, under a condition on the world: an operation taken first, with its slot said. No condition. -/
import Derived.Test.YthfblaiocdgkbaaDoorMg8
import Derived.Test.YthfblaiocdgkbaaDoorMg11
import Derived.Test.YthfblaiocdgkbaaDoorMg1
import Derived.Deep.RegionHeld3
namespace Go.Proofs.YthfblaiocdgkbaaDoor
set_option linter.unusedVariables false
set_option linter.unusedSimpArgs false
open Go.RowKit

/-- What holds of the list of entries at all times. -/
structure Gd (l : Ents) : Prop where
  nd : (keys l).Nodup
  fr : ∀ p ∈ l, 0 ≤ p.2.freed ∧ p.2.freed ≤ 100000
  oz : ∀ p ∈ l, p.2.live = false → p.2.owner = 0
  kl : ∀ p ∈ l, p.1 < 4294967296

/-- The program's table with the list l, the document's with the list k: all of both is new since W. -/
structure Sd (W w : World) (tb mb xb : Nat) (v : Value) (c : Nat) (l k : Ents) : Prop where
  ts : Ts W w tb mb c l
  rt : Rt w xb c v (k.map en)
  xn : W.heap.size ≤ xb
  tn : W.heap.size ≤ tb
  vn : ∀ g, v.ownBlock = some g → W.heap.size ≤ g ∧ g ≠ tb ∧ g ≠ mb
  a1 : xb ≠ tb
  a2 : xb ≠ mb

/-- What a call on the program's table leaves; what one on the document's leaves. -/
def Prg (w : World) (tb mb c : Nat) (l' : Ents) (val : Value) (e : Ending) (w' : World) : Prop :=
  e = .returned val ∧ Tb w' tb mb c l' ∧ Ch w w' (fun g => g = mb)
def Doc (w : World) (xb c : Nat) (v : Value) (l' : Ents) (val : Value) (e : Ending) (w' : World) : Prop :=
  e = .returned val ∧ ∃ v', Rt w' xb c v' (l'.map en) ∧ Ch w w' (fun g => g = xb ∨ v.ownBlock = some g) ∧ ∀ g, v'.ownBlock = some g → v.ownBlock = some g ∨ w.heap.size ≤ g

section
variable {W w w' : World} {tb mb xb c : Nat} {v v' : Value} {l l' k k' : Ents}
theorem Sd.mlt (h : Sd W w tb mb xb v c l k) : mb < w.heap.size := h.ts.t.map.lt
theorem Sd.prg (h : Sd W w tb mb xb v c l k) (t : Tb w' tb mb c l') (d : Ch w w' (fun g => g = mb)) : Sd W w' tb mb xb v c l' k where
  ts := h.ts.turn t d
  rt := h.rt.ch d h.a2 fun g hg => (h.vn g hg).2.2
  xn := h.xn
  tn := h.tn
  vn := h.vn
  a1 := h.a1
  a2 := h.a2
theorem Sd.doc (h : Sd W w tb mb xb v c l k) (r : Rt w' xb c v' (k'.map en)) (d : Ch w w' (fun g => g = xb ∨ v.ownBlock = some g)) (fr : ∀ g, v'.ownBlock = some g → v.ownBlock = some g ∨ w.heap.size ≤ g) : Sd W w' tb mb xb v' c l k' where
  ts := by
    have b : RowKit.Below W.heap.size W w' := h.ts.bel.trans ⟨d.os, d.tape, d.output, d.size, fun j hj => d.block j (Nat.lt_of_lt_of_le hj h.ts.bel.size) fun e => by
      have := h.xn
      rcases e with e | e
      · omega
      · have := (h.vn j e).1
        omega⟩
    exact ⟨h.ts.t.ch d (fun e => by
      rcases e with e | e
      · exact h.a1 e.symm
      · exact (h.vn _ e).2.1 rfl) (fun e => by
      rcases e with e | e
      · exact h.a2 e.symm
      · exact (h.vn _ e).2.2 rfl), fun i hi => d.cell (h.ts.tab i hi) (fun e => by
      have := h.ts.far
      have := h.xn
      rcases e with e | e
      · have e' : 0 = xb := e
        omega
      · have := (h.vn _ e).1
        have e' : W.heap.size ≤ 0 := this
        omega), b, h.ts.new, h.ts.far⟩
  rt := r
  xn := h.xn
  tn := h.tn
  vn g hg := by
    rcases fr g hg with e | e
    · exact h.vn g e
    · have := h.ts.t.lt
      have := h.mlt
      have := h.ts.bel.size
      exact ⟨by omega, by omega, by omega⟩
  a1 := h.a1
  a2 := h.a2
theorem Sd.below (h : Sd W w tb mb xb v c l k) (b : RowKit.Below w.heap.size w w') : Sd W w' tb mb xb v c l k where
  ts := h.ts.below b
  rt := h.rt.below b
  xn := h.xn
  tn := h.tn
  vn := h.vn
  a1 := h.a1
  a2 := h.a2
theorem Sd.alloc (h : Sd W w tb mb xb v c l k) (o : Obj) : Sd W (w.alloc o) tb mb xb v c l k := h.below (below_a w o)
end
theorem least_not (P : Nat → Prop) (n : Nat) : (∀ i, i < n → P i) ∨ ∃ j, j < n ∧ ¬ P j ∧ ∀ i, i < j → P i := by
  induction n with
  | zero => exact .inl fun i hi => absurd hi (by omega)
  | succ n ih =>
    rcases ih with h | ⟨j, hj, h1, h2⟩
    · by_cases hp : P n
      · refine .inl fun i hi => ?_
        by_cases e : i = n
        · subst e; exact hp
        · exact h i (by omega)
      · exact .inr ⟨n, by omega, hp, h⟩
    · exact .inr ⟨j, by omega, h1, h2⟩
theorem toks_en (l : Ents) : toks (l.map en) = keys l := by
  unfold toks keys
  rw [List.map_map]
  rfl
theorem Gd.nil : Gd [] := ⟨by simp [keys], by simp, by simp, by simp⟩
theorem Gd.add {l : Ents} (h : Gd l) {k : Nat} (hk : k < 4294967296) (hn : k ∉ keys l) (owner : Int) : Gd (l ++ [(k, ⟨true, owner, 0⟩)]) where
  nd := by
    unfold keys
    rw [List.map_append, List.nodup_append]
    refine ⟨h.nd, by simp, fun a ha b hb e => ?_⟩
    simp at hb
    subst hb e
    exact hn ha
  fr p hp := by
    rcases List.mem_append.1 hp with e | e
    · exact h.fr p e
    · simp at e
      subst e
      simp
  oz p hp hl := by
    rcases List.mem_append.1 hp with e | e
    · exact h.oz p e hl
    · simp at e
      subst e
      simp at hl
  kl p hp := by
    rcases List.mem_append.1 hp with e | e
    · exact h.kl p e
    · simp at e
      subst e
      exact hk
theorem Gd.upd {l : Ents} (h : Gd l) (k : Nat) {t : Int} (ht : 0 ≤ t ∧ t ≤ 100000) : Gd (upd l k ⟨false, 0, t⟩) where
  nd := by rw [keys_upd]; exact h.nd
  fr p hp := by
    obtain ⟨q, hq, rfl⟩ := List.mem_map.1 hp
    by_cases e : q.1 = k
    · simp [e]; exact ht
    · simp [e]; exact h.fr q hq
  oz p hp hl := by
    obtain ⟨q, hq, rfl⟩ := List.mem_map.1 hp
    by_cases e : q.1 = k
    · simp [e]
    · simp [e] at hl ⊢; exact h.oz q hq hl
  kl p hp := by
    obtain ⟨q, hq, rfl⟩ := List.mem_map.1 hp
    have := h.kl q hq
    by_cases e : q.1 = k
    · simp [e]; omega
    · simp [e]; exact this
theorem Gd.filter {l : Ents} (h : Gd l) (f : Nat × Ent → Bool) : Gd (l.filter f) where
  nd := h.nd.sublist (List.filter_sublist.map Prod.fst)
  fr p hp := h.fr p (List.mem_filter.1 hp).1
  oz p hp := h.oz p (List.mem_filter.1 hp).1
  kl p hp := h.kl p (List.mem_filter.1 hp).1
theorem filter_en {l : Ents} (h : Gd l) (t : Int) : (l.map en).filter (kpt t) = (l.filter fun p => !ov p.2 t).map en := by
  rw [List.filter_map]
  refine congrArg _ (List.filter_congr fun p hp => ?_)
  have hf := h.fr p hp
  obtain ⟨a, lv, ow, fr⟩ := p
  cases lv with
  | true => simp [kpt, en, ov]
  | false =>
    have e : min fr 9223372036854775797 = fr := by
      have : fr ≤ 100000 := hf.2
      omega
    simp [kpt, en, ov, unt, e]
    by_cases h1 : t < fr + 10
    · simp [h1]
    · simp [h1]; omega
theorem set_en {l : Ents} (h : Gd l) {k j : Nat} {t : Int} (ht : 0 ≤ t ∧ t ≤ 100000) (hj : j < l.length) (hk : (l[j]).1 = k) : (l.map en).set j ⟨k, 0, false, t + 10⟩ = (upd l k ⟨false, 0, t⟩).map en := by
  have e : min t 9223372036854775797 = t := by omega
  refine List.ext_getElem (by simp [Proofs.YthfblaiocdgkbaaDoor.upd]) fun i h1 h2 => ?_
  have hi : i < l.length := by simpa using h1
  by_cases hij : j = i
  · subst hij
    simp [Proofs.YthfblaiocdgkbaaDoor.upd, hk, en, unt, e]
  · have hne : ¬ (l[i]).1 = k := fun e1 => by
      have hn := h.nd
      unfold keys at hn
      rw [List.Nodup, List.pairwise_iff_getElem] at hn
      have this := hn
      rcases Nat.lt_or_gt_of_ne hij with hlt | hlt
      · exact this j i (by simpa using hj) (by simpa using hi) hlt (by simp [hk, e1])
      · exact this i j (by simpa using hi) (by simpa using hj) hlt (by simp [hk, e1])
    simp [Proofs.YthfblaiocdgkbaaDoor.upd, hij, hne]

section
variable {W w : World} {tb mb xb c : Nat} {v : Value} {l : Ents}
theorem tick_both (S : Sd W w tb mb xb v c l l) (G : Gd l) {t : Int} (ht : 0 ≤ t ∧ t ≤ 100000) :
    ∃ (r : Int) (l' : Ents), Gd l' ∧ Calls Tryd.prog 16 #[ptr tb, .int .i64 t] w (Prg w tb mb c l' (.int .i64 r)) ∧ ∀ w5, Sd W w5 tb mb xb v c l' l → Calls Tryd.prog 17 #[ptr xb, .int .i64 t] w5 (Doc w5 xb c v l' (.int .i64 r)) := by
  have hlc := S.ts.t.fits
  have hc := S.ts.t.room
  refine ⟨_, l.filter fun p => !ov p.2 t, G.filter _, (ttick_any S.ts.t (fun p hp => by have := G.fr p hp; unfold isI; omega) (by unfold isI; omega)).mono fun e w' h => h, fun w5 S5 => ?_⟩
  refine (rtick_any S5.rt (by rw [List.length_map]; omega) t).mono fun e w' ⟨v', h1, h2, h3, h4⟩ => ?_
  rw [filter_en G, List.length_map, List.length_map] at h1
  rw [filter_en G] at h2
  exact ⟨h1, v', h2, h3.mono fun _ _ e => .inl e, fun g hg => .inr (h4 g hg)⟩
theorem free_both (S : Sd W w tb mb xb v c l l) (G : Gd l) {k : Nat} (hk : k < 4294967296) {t : Int} (ht : 0 ≤ t ∧ t ≤ 100000) :
    ∃ (r : Int) (l' : Ents), Gd l' ∧ Calls Tryd.prog 14 #[ptr tb, .int .u32 (k : Int), .int .i64 t] w (Prg w tb mb c l' (.int .i64 r)) ∧ ∀ w5, Sd W w5 tb mb xb v c l' l → Calls Tryd.prog 15 #[ptr xb, .int .u32 (k : Int), .int .i64 t] w5 (Doc w5 xb c v l' (.int .i64 r)) := by
  have hlc := S.ts.t.fits
  have hc := S.ts.t.room
  have hnt : ((l.map en).map En.tok).Nodup := by have := toks_en l; unfold toks at this; rw [this]; exact G.nd
  cases hlv : ((fnd l k).getD Ent.none).live with
  | true =>
    obtain ⟨e, he⟩ : ∃ e, fnd l k = some e := by
      cases hf : fnd l k with
      | none => rw [hf] at hlv; simp [Ent.none] at hlv
      | some e => exact ⟨e, rfl⟩
    rw [he] at hlv
    have hm := fnd_some he
    have hme : en (k, e) ∈ l.map en := List.mem_map_of_mem hm
    refine ⟨0, upd l k ⟨false, 0, t⟩, G.upd k ht, (tfree_yes S.ts.t hk (by rw [he]; exact hlv) t).mono fun e w' h => h, fun w5 S5 => ?_⟩
    refine (rfree_yes S5.rt (by rw [List.length_map]; omega) k t (by omega) (fun r ar => ?_)).mono fun e w' ⟨j, h1, h2, h3, h4⟩ => ?_
    · obtain ⟨j, h1, h2, h3⟩ := ar.of_mem hnt hme rfl
      exact ⟨j, h1, h2, by rw [h3]; exact hlv⟩
    · obtain ⟨j2, e2, hj2, hx⟩ := h2.of_mem hnt hme rfl
      obtain rfl : j = j2 := by omega
      have hjl : j < l.length := by simpa using hj2
      have hkj : (l[j]).1 = k := by
        rw [List.getD_eq_getElem?_getD, List.getElem?_eq_getElem hj2] at hx
        have := congrArg En.tok hx
        simpa [en] using this
      rw [set_en G ht hjl hkj] at h3
      exact ⟨h1, v, h3, h4.mono fun _ _ e => .inr e, fun g hg => .inl hg⟩
  | false =>
    refine ⟨6, l, G, (tfree_no S.ts.t hk hlv t).mono fun e w' ⟨h1, h2⟩ => ⟨h1, h2 ▸ S.ts.t, h2 ▸ Ch.refl _ _⟩, fun w5 S5 => ?_⟩
    refine (rfree_no S5.rt (by rw [List.length_map]; omega) k t (fun r ar => ?_)).mono fun e w' ⟨h1, h2⟩ => ⟨h1, v, h2 ▸ S5.rt, h2 ▸ Ch.refl _ _, fun g hg => .inl hg⟩
    cases hf : fnd l k with
    | none =>
      refine .inl (ar.of_not ?_)
      have := toks_en l
      unfold toks at this
      rw [this]
      exact fnd_none.1 hf
    | some e =>
      rw [hf] at hlv
      obtain ⟨j, h1, h2, h3⟩ := ar.of_mem hnt (List.mem_map_of_mem (f := en) (fnd_some hf)) rfl
      exact .inr ⟨j, h1, h2, by rw [h3]; exact hlv⟩
theorem take_both (S : Sd W w tb mb xb v c l l) (G : Gd l) (owner : Int) {A : Option Addr} {n cc : Nat} {zs : List Int} (r : RI .u64 W A n cc zs) (hz : ∀ z ∈ zs, 0 ≤ z ∧ z < 18446744073709551616) (hn : n ≤ 20) :
    ∃ (z m e : Int) (l' : Ents), Gd l' ∧ Calls Tryd.prog 11 #[ptr tb, .int .i64 owner, .slice A n cc] w (Prg w tb mb c l' (.tuple #[.int .u64 z, .int .i64 m, .int .i64 e])) ∧ ∀ w5, Sd W w5 tb mb xb v c l' l → Calls Tryd.prog 12 #[ptr xb, .int .i64 owner, .slice A n cc] w5 (Doc w5 xb c v l' (.agg (tookV z m e).toArray)) := by
  have hlc := S.ts.t.fits
  have hc := S.ts.t.room
  have hlm : (l.map en).length = l.length := by simp
  have htk := toks_en l
  by_cases hf : l.length = c
  · exact ⟨0, 0, 15, l, G, (ttake_full S.ts.t hf).mono fun e w' ⟨h1, h2⟩ => ⟨h1, S.ts.t.below h2, Ch.of_below _ h2⟩, fun w5 S5 =>
      (rtake_full S5.rt (by rw [hlm]; exact hf) owner A n cc).mono fun e w' ⟨h1, h2⟩ => ⟨h1, v, S5.rt.below h2, Ch.of_below _ h2, fun g hg => .inl hg⟩⟩
  · have hf2 : l.length < c := by omega
    rcases least_not (fun i => kt (zs.getD i 0).toNat ∈ keys l) n with h | ⟨j, hj, h1, h2⟩
    · exact ⟨0, n, 6, l, G, (ttake_none S.ts.t S.ts.tab hf2 (r.below S.ts.bel) hz (by omega) h).mono fun e w' ⟨h1, h2⟩ => ⟨h1, S.ts.t.below h2, Ch.of_below _ h2⟩, fun w5 S5 =>
        (rtake_none S5.rt (by rw [hlm]; exact hf2) hc owner (r.below S5.ts.bel) hz (by omega) (by rw [htk]; exact h)).mono fun e w' ⟨h1, h2⟩ => ⟨h1, v, S5.rt.below h2, Ch.of_below _ h2, fun g hg => .inl hg⟩⟩
    · obtain ⟨g, o, hA, ck⟩ := r.at_ (show 0 < n by omega)
      have hg : g < W.heap.size := World.block_lt_of_cell? _ _ ck
      have hA0 : ∀ g' o', A = some ⟨g', o', none⟩ → g' = g := fun g' o' e => by
        rw [hA] at e
        injection e with e
        injection e with e1 _ _
        exact e1.symm
      refine ⟨zs.getD j 0, j, 0, _, G.add (kt_lt _) h1 owner, (ttake_hit S.ts.t S.ts.tab hf2 (r.below S.ts.bel) hz (by omega) hj h2 h1).mono fun e w' h => h, fun w5 S5 => ?_⟩
      refine (rtake_hit S5.rt (by rw [hlm]; exact hf2) hc owner (r.below S5.ts.bel) hz (by omega) hj (by rw [htk]; exact h2) rfl (by rw [htk]; exact h1) (fun g' o' e => ?_) (fun g' o' e e2 => ?_)).mono fun e w' ⟨h1, v', h3, h4, h5⟩ => ⟨h1, v', ?_, h4, h5⟩
      · have := hA0 g' o' e
        have := S.xn
        omega
      · have := hA0 g' o' e
        have := (S.vn g' e2).1
        omega
      · rw [List.map_append]
        exact h3
end
end Go.Proofs.YthfblaiocdgkbaaDoor

namespace Go.Proofs.YthfblaiocdgkbaaDoor
set_option linter.unusedVariables false
set_option linter.unusedSimpArgs false

theorem held_take {P : Program} {ops : Array Oper} {Q : Exit → Act → World → Prop} {md : Region.Mode} {S : World → Prop} {i : Nat} {oi : Oper} {v : Value} {fuel : Nat} {listed : Array Bool} {a : Act} {w : World} (d : Option Tmp) (hi : ops[i]? = some oi) (hd : oi.dst = d)
    (hs : Region.noSelect ops = true) (hf : Region.free md ops listed i = true) (hr : (Region.ready md ops listed).contains i = true)
    (hQ : ∀ c a w, Q (.panic c) (a.put d v) w → Q (.panic c) a w) (hy : YieldsIf P ops S oi v a) (hS : S w)
    (h : wpAnyH P md ops Q S fuel (listed.setIfInBounds i true) (a.put d v) w) : wpAnyH P md ops Q S (fuel + 1) listed a w := by
  subst hd
  exact wpAnyH_take hi hs hf hr hQ hy hS h
end Go.Proofs.YthfblaiocdgkbaaDoor

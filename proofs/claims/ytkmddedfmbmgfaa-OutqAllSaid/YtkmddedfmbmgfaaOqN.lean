/- A queue of short pieces, the program's or the document's, as a law keeps it; Push and Ack of it; the example. Conditions: pieces of at most 50 bytes, at most 1000. -/
import Derived.Test.YtkmddedfmbmgfaaOqM
import Derived.Test.YtkmddedfmbmgfaaOqJ
import Derived.Test.YtkmddedfmbmgfaaOqK
namespace Go.Proofs.Ytkmddedfmbmgfaa
set_option linter.unusedVariables false
set_option linter.unusedSimpArgs false
open Go.RowKit

/-- A queue from b to en that says ks, in memory newer than W. -/
structure Sq (t : TypeId) (W w : World) (qb : Nat) (v : Value) (l : List Pc) (b : Nat) (ks : List Ky) (en : Nat) : Prop where
  qu : Qu t W.heap.size w qb v l en
  ky : l.map Pc.key = ks
  ch : Chn b ks en
  lt : b < 4294967296
  sm : ∀ k ∈ ks, k.ds.length ≤ 50
  bel : Below W.heap.size W w
theorem tot_le : ∀ {ks : List Ky}, (∀ k ∈ ks, k.ds.length ≤ 50) → tot ks ≤ 52 * ks.length
  | [], _ => Nat.le_refl _
  | k :: ks, h => by
    have h1 := h k (List.mem_cons_self ..)
    have h2 := tot_le (ks := ks) (fun x hx => h x (List.mem_cons_of_mem _ hx))
    have h3 : k.len ≤ 52 := by
      unfold Ky.len bn
      split <;> split <;> omega
    show k.len + tot ks ≤ _
    rw [List.length_cons]
    omega
theorem dn_le {t : TypeId} {W w : World} {qb : Nat} {v : Value} {l : List Pc} {b : Nat} {ks : List Ky} {en : Nat} (h : Sq t W w qb v l b ks en) : ∀ p ∈ l, p.dn ≤ 50 := fun p hp => by
  have h1 := h.sm p.key (by rw [← h.ky]; exact List.mem_map_of_mem hp)
  have h2 := (h.qu.ok p hp).pg.data.len
  have h3 : p.key.ds = p.ds := rfl
  rw [h3] at h1
  omega
section
variable {t : TypeId} {W w w' : World} {qb : Nat} {v : Value} {l : List Pc} {b : Nat} {ks : List Ky} {en : Nat}
theorem Sq.llen (h : Sq t W w qb v l b ks en) : l.length = ks.length := by rw [← h.ky, List.length_map]
theorem Sq.below (h : Sq t W w qb v l b ks en) (bl : Below w.heap.size w w') : Sq t W w' qb v l b ks en := ⟨h.qu.below bl, h.ky, h.ch, h.lt, h.sm, h.bel.trans (bl.mono h.bel.size)⟩
theorem Sq.in_ (h : Sq t W w qb v l b ks en) {g : Nat} (hg : Qb qb v l g) : W.heap.size ≤ g ∧ g < w.heap.size := h.qu.in_ hg
/-- Whatever has turned lies apart. -/
theorem Sq.frame (h : Sq t W w qb v l b ks en) {m : Nat → Prop} (c : Ch w w' m) (hm : ∀ g, Qb qb v l g → ¬ m g) (hn : ∀ g, m g → W.heap.size ≤ g) : Sq t W w' qb v l b ks en :=
  ⟨h.qu.frame c hm, h.ky, h.ch, h.lt, h.sm, ((Ch.of_below m h.bel).then_ c).below (fun x hx e => by have := hn x e; omega)⟩
end
/-- The keys behind a Push. -/
def pushK (ks : List Ky) (k : Ky) : List Ky := if 0 < k.len then ks ++ [k] else ks
theorem pushK_len (ks : List Ky) (k : Ky) : (pushK ks k).length ≤ ks.length + 1 := by
  unfold pushK
  split <;> simp
theorem pushK_sm {ks : List Ky} {k : Ky} (h : ∀ x ∈ ks, x.ds.length ≤ 50) (hk : k.ds.length ≤ 50) : ∀ x ∈ pushK ks k, x.ds.length ≤ 50 := by
  unfold pushK
  split
  · intro x hx
    rcases List.mem_append.1 hx with hx | hx
    · exact h x hx
    · simp at hx
      subst hx
      exact hk
  · exact h
theorem pushK_ch {ks : List Ky} {k : Ky} {b en : Nat} (h : Chn b ks en) (hk : k.seq = en) (he : en < 4294967296) : Chn b (pushK ks k) (on en (k.len : Int)) := by
  unfold pushK
  split
  · exact h.snoc k hk
  · have h0 : k.len = 0 := by omega
    have e : on en ((k.len : Nat) : Int) = en := by
      rw [h0]
      exact on_zero he
    rw [e]
    exact h
/-- Two queues lie apart. -/
def Apt (qb : Nat) (v : Value) (l : List Pc) (xb : Nat) (u : Value) (r : List Pc) : Prop := ∀ g, Qb qb v l g → Qb xb u r g → False

/-- What Push leaves, of a queue as a law keeps it. -/
def SPush (W w : World) (qb : Nat) (v : Value) (l : List Pc) (b : Nat) (ks : List Ky) (en : Nat) (k : Ky) (e : Ending) (w' : World) : Prop :=
  ∃ (q : Pc) (v' : Value) (l' : List Pc) (m : Nat), e = .returned (.agg q.vals.toArray) ∧ q.key = k.at en ∧ PO m w' q ∧ w.heap.size ≤ m ∧ Sq 54 W w' qb v' l' b (pushK ks (k.at en)) (on en (k.len : Int)) ∧
    (∀ g, Qb qb v' l' g → g < m) ∧ (∀ g, Qb qb v' l' g → Qb qb v l g ∨ w.heap.size ≤ g) ∧ Ch w w' (fun k => k = qb ∨ v.ownBlock = some k)
theorem spush_any {W w : World} {qb : Nat} {v : Value} {l : List Pc} {b : Nat} {ks : List Ky} {en : Nat} (h : Sq 54 W w qb v l b ks en) (hn : ks.length ≤ 1000) (p : Pc) (hp : PG w p) (hd : p.dn ≤ 50) (hap : ∀ g o s, p.dA = some ⟨g, o, s⟩ → 0 < p.dn → g ≠ qb ∧ v.ownBlock ≠ some g) :
    Calls Try.prog 9 #[ptr qb, .agg p.vals.toArray] w (SPush W w qb v l b ks en p.key) := by
  refine (Push_any h.qu p hp hap (by omega) (by rw [h.llen]; omega)).mono ?_
  rintro e w' ⟨q, v', l', m, h1, h2, h3, h4, h5, h6, h7, h8, h9⟩
  have hds : p.key.ds.length ≤ 50 := by
    have := hp.data.len
    have e3 : p.key.ds = p.ds := rfl
    rw [e3]
    omega
  refine ⟨q, v', l', m, h1, h2, h3, h4, ⟨h5, ?_, pushK_ch h.ch rfl h.qu.num, h.lt, pushK_sm h.sm hds, ?_⟩, h7, h8, h9⟩
  · rw [h6, h.ky]
    unfold pushK
    rw [len_at]
    split <;> simp
  · exact ((Ch.of_below (fun k => k = qb ∨ v.ownBlock = some k) h.bel).then_ h9).below (fun x hx e => by
      rcases e with e | e
      · have := h.qu.lo
        omega
      · have := (h.qu.row.in_ e).1
        omega)
/-- The same of the document's. -/
def SPushR (W w : World) (qb : Nat) (v : Value) (l : List Pc) (b : Nat) (ks : List Ky) (en : Nat) (k : Ky) (e : Ending) (w' : World) : Prop :=
  ∃ (q : Pc) (v' : Value) (l' : List Pc), e = .returned (.agg q.vals.toArray) ∧ q.key = k.at en ∧ PO w.heap.size w' q ∧ Sq 30 W w' qb v' l' b (pushK ks (k.at en)) (on en (k.len : Int)) ∧
    (∀ g, Qb qb v' l' g → Qb qb v l g ∨ w.heap.size ≤ g) ∧ Ch w w' (fun k => k = qb ∨ v.ownBlock = some k)
theorem spush_ref {W w : World} {qb : Nat} {v : Value} {l : List Pc} {b : Nat} {ks : List Ky} {en : Nat} (h : Sq 30 W w qb v l b ks en) (hn : ks.length ≤ 1000) (p : Pc) (hp : PG w p) (hd : p.dn ≤ 50) :
    Calls Try.prog 10 #[ptr qb, .agg p.vals.toArray] w (SPushR W w qb v l b ks en p.key) := by
  refine (Push_ref h.qu p hp (by omega) (by rw [h.llen]; omega)).mono ?_
  rintro e w' ⟨q, v', l', h1, h2, h3, h5, h6, h8, h9⟩
  have hds : p.key.ds.length ≤ 50 := by
    have := hp.data.len
    have e3 : p.key.ds = p.ds := rfl
    rw [e3]
    omega
  refine ⟨q, v', l', h1, h2, h3, ⟨h5, ?_, pushK_ch h.ch rfl h.qu.num, h.lt, pushK_sm h.sm hds, ?_⟩, h8, h9⟩
  · rw [h6, h.ky]
    unfold pushK
    rw [len_at]
    split <;> simp
  · exact ((Ch.of_below (fun k => k = qb ∨ v.ownBlock = some k) h.bel).then_ h9).below (fun x hx e => by
      rcases e with e | e
      · have := h.qu.lo
        omega
      · have := (h.qu.row.in_ e).1
        omega)

/-- The beginning behind an Ack of a that takes k. -/
def begK (b : Nat) (ks : List Ky) (d : Nat) : Nat := on b (tot (ks.take (cnt ks d)) : Int)
section
variable {W w : World} {qb : Nat} {v : Value} {l : List Pc} {b : Nat} {ks : List Ky} {en : Nat}
theorem Sq.drop {t : TypeId} {w' : World} {v' : Value} (h : Sq t W w qb v l b ks en) (d : Nat) (hq : Qu t W.heap.size w' qb v' (l.drop (cnt ks d)) en) {m : Nat → Prop} (c : Ch w w' m) (hm : ∀ g, m g → W.heap.size ≤ g) : Sq t W w' qb v' (l.drop (cnt ks d)) (begK b ks d) (ks.drop (cnt ks d)) en :=
  ⟨hq, by rw [List.map_drop, h.ky], h.ch.drop _ h.lt (cnt_le ks d), on_lt _ _, fun k hk => h.sm k (List.mem_of_mem_drop hk), ((Ch.of_below m h.bel).then_ c).below (fun x hx e => by have := hm x e; omega)⟩
/-- What Ack leaves that takes. -/
def SAck (W w : World) (qb : Nat) (v : Value) (l : List Pc) (b : Nat) (ks : List Ky) (en d : Nat) (e : Ending) (w' : World) : Prop :=
  ∃ vo v' l', e = .returned (.tuple #[vo, .bool true]) ∧ Own6 w.heap.size w' vo (ks.take (cnt ks d)) ∧ Sq 54 W w' qb v' l' (begK b ks d) (ks.drop (cnt ks d)) en ∧ (∀ g, Qb qb v' l' g → Qb qb v l g) ∧ Ch w w' (fun k => k = qb ∨ v.ownBlock = some k)
theorem sack_yes (h : Sq 54 W w qb v l b ks en) (hn : ks.length ≤ 1000) (a : Nat) (ha : a < 4294967296) (hy : st b a ≤ tot ks) :
    Calls Try.prog 14 #[ptr qb, .int .u32 (a : Int)] w (SAck W w qb v l b ks en (st b a)) := by
  have ht := tot_le h.sm
  have hc := h.ch
  have hk := h.ky
  have := Ack_yes h.qu b a h.lt ha (by rw [hk]; exact hc) (by rw [hk]; omega) (by rw [h.llen]; omega) (fun p hp => by have := dn_le h p hp; omega) (by rw [hk]; exact hy)
  rw [hk] at this
  refine this.mono ?_
  rintro e w' ⟨vo, v', h1, h2, h3, h4, h5⟩
  rw [hk] at h2
  refine ⟨vo, v', _, h1, h2, h.drop _ h3 h5 (fun g e => by
    rcases e with e | e
    · have := h.qu.lo
      omega
    · exact (h.qu.row.in_ e).1), fun g hg => ?_, h5⟩
  rcases hg with e | e | ⟨p, hp, e⟩
  · exact .inl e
  · exact .inr (.inl (h4 g e))
  · exact .inr (.inr ⟨p, List.mem_of_mem_drop hp, e⟩)
theorem sack_no (h : Sq 54 W w qb v l b ks en) (hn : ks.length ≤ 1000) (a : Nat) (ha : a < 4294967296) (hy : tot ks < st b a) :
    Calls Try.prog 14 #[ptr qb, .int .u32 (a : Int)] w fun e w' => e = .returned (.tuple #[.slice none 0 0, .bool false]) ∧ Below w.heap.size w w' := by
  have ht := tot_le h.sm
  have hc := h.ch
  have hk := h.ky
  exact Ack_no h.qu b a h.lt ha (by rw [hk]; exact hc) (by rw [hk]; omega) (by rw [hk]; exact hy)
/-- What the document's Ack leaves that takes. -/
def SAckR (W w : World) (qb : Nat) (v : Value) (l : List Pc) (b : Nat) (ks : List Ky) (en d : Nat) (e : Ending) (w' : World) : Prop :=
  ∃ vo v' l' r, e = .returned (.agg (akv vo true).toArray) ∧ Row w' w.heap.size vo r ∧ (∀ p ∈ r, PG w' p) ∧ r.map Pc.key = ks.take (cnt ks d) ∧ Sq 30 W w' qb v' l' (begK b ks d) (ks.drop (cnt ks d)) en ∧ (∀ g, Qb qb v' l' g → Qb qb v l g ∨ w.heap.size ≤ g) ∧ Ch w w' (fun k => k = qb)
theorem sackR_yes (h : Sq 30 W w qb v l b ks en) (hn : ks.length ≤ 1000) (a : Nat) (ha : a < 4294967296) (hy : st b a ≤ tot ks) :
    Calls Try.prog 15 #[ptr qb, .int .u32 (a : Int)] w (SAckR W w qb v l b ks en (st b a)) := by
  have ht := tot_le h.sm
  have hc := h.ch
  have hk := h.ky
  have := AckR_yes h.qu b a h.lt ha (by rw [hk]; exact hc) (by rw [hk]; omega) (by rw [h.llen]; omega) (fun p hp => by have := dn_le h p hp; omega) (by rw [hk]; exact hy)
  rw [hk] at this
  refine this.mono ?_
  rintro e w' ⟨vo, v', h1, h2, h2', h3, h4, h5⟩
  refine ⟨vo, v', _, _, h1, h2, fun p hp => (h2' p hp).pg, by rw [List.map_take, hk], h.drop _ h3 h5 (fun g e => by have := h.qu.lo; omega), fun g hg => ?_, h5⟩
  rcases hg with e | e | ⟨p, hp, e⟩
  · exact .inl (.inl e)
  · exact .inr (h4 g e)
  · exact .inl (.inr (.inr ⟨p, List.mem_of_mem_drop hp, e⟩))
theorem sackR_no (h : Sq 30 W w qb v l b ks en) (hn : ks.length ≤ 1000) (a : Nat) (ha : a < 4294967296) (hy : tot ks < st b a) :
    Calls Try.prog 15 #[ptr qb, .int .u32 (a : Int)] w fun e w' => e = .returned (.agg (akv (.slice none 0 0) false).toArray) ∧ Below w.heap.size w w' := by
  have ht := tot_le h.sm
  have hc := h.ch
  have hk := h.ky
  exact AckR_no h.qu b a h.lt ha (by rw [hk]; exact hc) (by rw [hk]; omega) (by rw [hk]; exact hy)
end
theorem snew_any (W w : World) (s : Nat) (hs : s < 4294967296) (hb : Below W.heap.size W w) : Calls Try.prog 8 #[.int .u32 (s : Int)] w fun e w' => ∃ qb, e = .returned (ptr qb) ∧ qb = w.heap.size ∧ Sq 54 W w' qb (.slice none 0 0) [] s [] s ∧ Below w.heap.size w w' := by
  refine (New_any s w hs).mono ?_
  rintro e w' ⟨qb, h1, h2, h3, h4⟩
  exact ⟨qb, h1, h2, ⟨h3 _ hb.size, rfl, rfl, hs, (fun k hk => by cases hk), hb.trans (h4.mono hb.size)⟩, h4⟩
end Go.Proofs.Ytkmddedfmbmgfaa

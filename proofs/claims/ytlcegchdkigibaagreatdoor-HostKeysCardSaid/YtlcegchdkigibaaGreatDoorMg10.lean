/- A host in memory: its cells, and those of what a handle stands for; its table of tokens, its rows. No condition. -/
import Derived.Test.YtlcegchdkigibaaGreatDoorMg4
import Derived.Test.YtlcegchdkigibaaGreatDoorMg6
import Derived.Test.YtlcegchdkigibaaGreatDoorMg9
namespace Go.Proofs.YtlcegchdkigibaaGreatDoor
set_option linter.unusedVariables false
set_option linter.unusedSimpArgs false
set_option maxRecDepth 20000
open Go.RowKit Go.Lib

/-- What a host's cells hold. -/
structure Hv where
  pv : Value
  sd : Nat
  dn : Nat
  po : Value
  tb : Nat
  tk : Int
  md : Int
  hv : Value
  sv : Value
def Hv.cs (h : Hv) : Array Value := #[h.pv, .int .u64 (h.sd : Int), .int .u64 (h.dn : Int), h.po, cptr h.tb, .int .i64 h.tk, .int .i64 h.md, h.hv, h.sv]
/-- At block b a host's cells stand. -/
def Ha (w : World) (b : Nat) (h : Hv) : Prop := w.heap[b]? = some (.cells h.cs 67 (0, 0))
/-- What the cells of a handle's connection hold. -/
structure Xv where
  cb : Nat
  hn : Int
  wh : Int
  pt : Int
  cm : Int
def Xv.cs (x : Xv) : Array Value := #[cptr x.cb, .int .i64 x.hn, .int .i64 x.wh, .int .i64 x.pt, .int .i64 x.cm]
def Xa (w : World) (b : Nat) (x : Xv) : Prop := w.heap[b]? = some (.cells x.cs 79 (0, 0))
section
variable {w w' : World} {b : Nat} {h : Hv} {x : Xv}
theorem Ha.lt (k : Ha w b h) : b < w.heap.size := (Array.getElem?_eq_some_iff.1 k).1
theorem Ha.at_ (k : Ha w b h) (j : Nat) : w.cell? ⟨b, j, none⟩ = h.cs[j]? := cell_of_row w b j _ _ (0, 0) k
theorem Ha.fz (k : Ha w b h) (j : Nat) : w.frozen? ⟨b, j, none⟩ = false := by simp [World.frozen?, show w.heap[b]? = _ from k]
theorem Ha.ch (k : Ha w b h) {m : Nat → Prop} (c : Ch w w' m) (hb : ¬ m b) : Ha w' b h := (c.block b k.lt hb).trans k
theorem Ha.below (k : Ha w b h) (c : Below w.heap.size w w') : Ha w' b h := (c.block b k.lt).trans k
theorem Ha.set (k : Ha w b h) (j : Nat) (v : Value) (h' : Hv) (hc : h.cs.setIfInBounds j v = h'.cs) : Ha (w.setCell ⟨b, j, none⟩ v) b h' := by
  have := k
  unfold Ha at *
  simp [World.setCell, Array.getElem?_modify, this, hc]
theorem Ha.pv_ (k : Ha w b h) : w.cell? ⟨b, 0, none⟩ = some h.pv := by rw [k.at_ 0]; rfl
theorem Ha.sd_ (k : Ha w b h) : w.cell? ⟨b, 1, none⟩ = some (.int .u64 (h.sd : Int)) := by rw [k.at_ 1]; rfl
theorem Ha.dn_ (k : Ha w b h) : w.cell? ⟨b, 2, none⟩ = some (.int .u64 (h.dn : Int)) := by rw [k.at_ 2]; rfl
theorem Ha.po_ (k : Ha w b h) : w.cell? ⟨b, 3, none⟩ = some h.po := by rw [k.at_ 3]; rfl
theorem Ha.tb_ (k : Ha w b h) : w.cell? ⟨b, 4, none⟩ = some (cptr h.tb) := by rw [k.at_ 4]; rfl
theorem Ha.tk_ (k : Ha w b h) : w.cell? ⟨b, 5, none⟩ = some (.int .i64 h.tk) := by rw [k.at_ 5]; rfl
theorem Ha.md_ (k : Ha w b h) : w.cell? ⟨b, 6, none⟩ = some (.int .i64 h.md) := by rw [k.at_ 6]; rfl
theorem Ha.hv_ (k : Ha w b h) : w.cell? ⟨b, 7, none⟩ = some h.hv := by rw [k.at_ 7]; rfl
theorem Ha.sv_ (k : Ha w b h) : w.cell? ⟨b, 8, none⟩ = some h.sv := by rw [k.at_ 8]; rfl
theorem Xa.lt (k : Xa w b x) : b < w.heap.size := (Array.getElem?_eq_some_iff.1 k).1
theorem Xa.at_ (k : Xa w b x) (j : Nat) : w.cell? ⟨b, j, none⟩ = x.cs[j]? := cell_of_row w b j _ _ (0, 0) k
theorem Xa.fz (k : Xa w b x) (j : Nat) : w.frozen? ⟨b, j, none⟩ = false := by simp [World.frozen?, show w.heap[b]? = _ from k]
theorem Xa.ch (k : Xa w b x) {m : Nat → Prop} (c : Ch w w' m) (hb : ¬ m b) : Xa w' b x := (c.block b k.lt hb).trans k
theorem Xa.below (k : Xa w b x) (c : Below w.heap.size w w') : Xa w' b x := (c.block b k.lt).trans k
theorem Xa.set (k : Xa w b x) (j : Nat) (v : Value) (x' : Xv) (hc : x.cs.setIfInBounds j v = x'.cs) : Xa (w.setCell ⟨b, j, none⟩ v) b x' := by
  have := k
  unfold Xa at *
  simp [World.setCell, Array.getElem?_modify, this, hc]
theorem Xa.cb_ (k : Xa w b x) : w.cell? ⟨b, 0, none⟩ = some (cptr x.cb) := by rw [k.at_ 0]; rfl
theorem Xa.hn_ (k : Xa w b x) : w.cell? ⟨b, 1, none⟩ = some (.int .i64 x.hn) := by rw [k.at_ 1]; rfl
theorem Xa.wh_ (k : Xa w b x) : w.cell? ⟨b, 2, none⟩ = some (.int .i64 x.wh) := by rw [k.at_ 2]; rfl
theorem Xa.pt_ (k : Xa w b x) : w.cell? ⟨b, 3, none⟩ = some (.int .i64 x.pt) := by rw [k.at_ 3]; rfl
theorem Xa.cm_ (k : Xa w b x) : w.cell? ⟨b, 4, none⟩ = some (.int .i64 x.cm) := by rw [k.at_ 4]; rfl
end
/-- Blocks of two types are two. -/
theorem blk_ne {w : World} {a b : Nat} {t u : TypeId} {cs ds : Array Value} (h : w.heap[a]? = some (.cells cs t (0, 0))) (k : w.heap[b]? = some (.cells ds u (0, 0))) (e : t ≠ u) : a ≠ b := by
  rintro rfl
  rw [h] at k
  injection k with k
  injection k with _ k
  exact e k
theorem map_ne {w : World} {mb b : Nat} {l : LT.Ents} {t : TypeId} {cs : Array Value} (h : LT.MapE w mb l) (k : w.heap[b]? = some (.cells cs t (0, 0))) : mb ≠ b := by
  rintro rfl
  obtain ⟨D, ⟨es, cl, hb, _⟩, _⟩ := h
  rw [hb] at k
  injection k with k
  cases k
/-- The keys that were primed: a slice in memory behind B, or none. -/
def Pr (B : Nat) (w : World) (v : Value) (ps : List Nat) : Prop :=
  ∃ A n c, v = .slice A n c ∧ RI .u64 w A n c (ps.map Int.ofNat) ∧ (∀ p ∈ ps, p < 18446744073709551616) ∧ ∀ a, A = some a → B ≤ a.block ∧ ∃ cs, w.heap[a.block]? = some (.cells cs 22 (0, 0))
/-- The table of digests stands, whatever turns behind B. -/
def TB (B : Nat) (w : World) : Prop := ∀ W, Below B w W → LK.Tab W
theorem TB.here {B : Nat} {w : World} (h : TB B w) : LK.Tab w := h w (Below.refl B w)
theorem TB.step {B : Nat} {w w' : World} (h : TB B w) (b : Below B w w') : TB B w' := fun W k => h W (b.trans k)
/-- A host stands, but for the keys that were primed: nothing of it lies below B. -/
structure Hc (B : Nat) (w : World) (hb : Nat) (h : Hv) (mb : Nat) (l : LT.Ents) (xs : List Nat) (m : Nat) (gs : List Value) : Prop where
  ha : Ha w hb h
  lo : B ≤ hb
  tb : LT.Tb w h.tb mb 4 l
  tl : B ≤ h.tb ∧ B ≤ mb
  hw : w.ownsRow B 77 1 h.hv xs.length (xs.map cptr)
  sw : w.ownsRow B 40 13 h.sv m gs
  sm : h.sd < 18446744073709551616 ∧ h.dn < 18446744073709551616
/-- A host stands. -/
structure Hs (B : Nat) (w : World) (hb : Nat) (h : Hv) (mb : Nat) (l : LT.Ents) (ps xs : List Nat) (m : Nat) (gs : List Value) : Prop where
  c : Hc B w hb h mb l xs m gs
  pr : Pr B w h.pv ps
section
variable {B : Nat} {w w' : World} {hb mb : Nat} {h : Hv} {l : LT.Ents} {ps xs : List Nat} {m : Nat} {gs : List Value}
theorem Pr.ch {v : Value} (p : Pr B w v ps) {q : Nat → Prop} (c : Ch w w' q) (hq : ∀ g cs, w.heap[g]? = some (.cells cs 22 (0, 0)) → ¬ q g) : Pr B w' v ps := by
  obtain ⟨A, n, cc, e, r, hp, ha⟩ := p
  refine ⟨A, n, cc, e, ⟨r.1, r.2.1, r.2.2.1, fun hn => ?_⟩, hp, fun a e => ?_⟩
  · obtain ⟨b, o, rfl, hc⟩ := r.2.2.2 hn
    obtain ⟨_, cs, hcs⟩ := ha _ rfl
    exact ⟨b, o, rfl, fun j hj => c.cell (hc j hj) (hq b cs hcs)⟩
  · obtain ⟨hB, cs, hcs⟩ := ha a e
    exact ⟨hB, cs, (c.block a.block (Array.getElem?_eq_some_iff.1 hcs).1 (hq _ cs hcs)).trans hcs⟩
theorem Pr.below {v : Value} (p : Pr B w v ps) (c : Below w.heap.size w w') : Pr B w' v ps := p.ch (Ch.of_below (fun _ => False) c) (fun _ _ _ e => e)
theorem Pr.nil_ (B : Nat) (w : World) : Pr B w (.slice none 0 0) [] := ⟨none, 0, 0, rfl, RI.nil_ _ _, (fun p hp => by cases hp), fun a e => by cases e⟩
theorem Pr.of_own {v : Value} {n : Nat} (o : w.ownsRow B 22 1 v n (iv .u64 (ps.map Int.ofNat))) (hp : ∀ p ∈ ps, p < 18446744073709551616) : Pr B w v ps := by
  obtain ⟨A, c, e, r, ho⟩ := RI.of_own o
  refine ⟨A, n, c, e, r, hp, fun a ea => ?_⟩
  have hg : v.ownBlock = some a.block := by rw [ho, ea]; rfl
  exact ⟨(own_in o hg).1, ch_ownrow o hg⟩
theorem Pr.lt {v : Value} (p : Pr B w v ps) {g : Nat} (hg : v.ownBlock = some g) : g < w.heap.size := by
  obtain ⟨A, n, c, rfl, r, hp, ha⟩ := p
  cases A with
  | none => cases hg
  | some a =>
    obtain ⟨_, cs, hc⟩ := ha a rfl
    obtain rfl : a.block = g := by injection hg
    exact (Array.getElem?_eq_some_iff.1 hc).1
/-- What has turned is not where they lie. -/
theorem Pr.ch2 {v : Value} (p : Pr B w v ps) {q : Nat → Prop} (c : Ch w w' q) (hq : ∀ g, v.ownBlock = some g → ¬ q g) : Pr B w' v ps := by
  obtain ⟨A, n, cc, rfl, r, hp, ha⟩ := p
  refine ⟨A, n, cc, rfl, ⟨r.1, r.2.1, r.2.2.1, fun hn => ?_⟩, hp, fun a e => ?_⟩
  · obtain ⟨b, o, rfl, hc⟩ := r.2.2.2 hn
    exact ⟨b, o, rfl, fun j hj => c.cell (hc j hj) (hq b rfl)⟩
  · obtain ⟨hB, cs, hcs⟩ := ha a e
    subst e
    exact ⟨hB, cs, (c.block a.block (Array.getElem?_eq_some_iff.1 hcs).1 (hq _ rfl)).trans hcs⟩
theorem src_ri {k : IntKind} {A : Option Addr} {n c : Nat} {zs : List Int} (r : RI k w A n c zs) : Src w A n c 1 (iv k zs) :=
  ⟨by rw [iv_length, r.len]; omega, r.cap, r.max, iv_one k zs, fun hn => by
    obtain ⟨b, o, e, hc⟩ := r.2.2.2 hn
    refine ⟨b, o, e, fun j u hu => ?_⟩
    obtain ⟨hj, rfl⟩ := iv_get k zs j u hu
    exact hc j (by rw [← r.len]; exact hj)⟩
theorem Hc.lt (s : Hc B w hb h mb l xs m gs) : hb < w.heap.size := s.ha.lt
theorem Hc.le (s : Hc B w hb h mb l xs m gs) : B ≤ w.heap.size := Nat.le_trans s.lo (Nat.le_of_lt s.lt)
/-- What has turned is no part of it. -/
theorem Hc.ch (s : Hc B w hb h mb l xs m gs) {q : Nat → Prop} (c : Ch w w' q) (h1 : ¬ q hb) (h2 : ¬ q h.tb) (h3 : ¬ q mb) (h5 : ∀ g, h.hv.ownBlock = some g → ¬ q g) (h6 : ∀ g, h.sv.ownBlock = some g → ¬ q g) : Hc B w' hb h mb l xs m gs :=
  ⟨s.ha.ch c h1, s.lo, s.tb.ch c h2 h3, s.tl, own_ch2 s.hw c h5, own_ch2 s.sw c h6, s.sm⟩
theorem Hc.below (s : Hc B w hb h mb l xs m gs) (c : Below w.heap.size w w') : Hc B w' hb h mb l xs m gs :=
  s.ch (Ch.of_below (fun _ => False) c) (fun e => e) (fun e => e) (fun e => e) (fun _ _ e => e) (fun _ _ e => e)
/-- What has turned is a block of another type. -/
theorem Hc.other (s : Hc B w hb h mb l xs m gs) {q : Nat → Prop} (c : Ch w w' q) {t : TypeId} (hq : ∀ g, q g → g < w.heap.size → ∃ cs, w.heap[g]? = some (.cells cs t (0, 0)))
    (ht : t ≠ 67 ∧ t ≠ 99 ∧ t ≠ 77 ∧ t ≠ 40) : Hc B w' hb h mb l xs m gs := by
  refine s.ch c (fun e => ?_) (fun e => ?_) (fun e => ?_) (fun g hg e => ?_) (fun g hg e => ?_)
  · obtain ⟨cs, k⟩ := hq _ e s.lt
    exact blk_ne k s.ha ht.1 rfl
  · obtain ⟨cs, k⟩ := hq _ e s.tb.lt
    exact blk_ne k s.tb.blk ht.2.1 rfl
  · obtain ⟨cs, k⟩ := hq _ e s.tb.map.lt
    exact map_ne s.tb.map k rfl
  · obtain ⟨ds, hc⟩ := ch_ownrow s.hw hg
    obtain ⟨cs, k⟩ := hq _ e (own_in s.hw hg).2
    exact blk_ne k hc ht.2.2.1 rfl
  · obtain ⟨ds, hc⟩ := ch_ownrow s.sw hg
    obtain ⟨cs, k⟩ := hq _ e (own_in s.sw hg).2
    exact blk_ne k hc ht.2.2.2 rfl
/-- Its own cells turned: what its rows are is told anew. -/
theorem Hc.own (s : Hc B w hb h mb l xs m gs) (c : Ch w w' (fun k => k = hb)) {h' : Hv} (ha : Ha w' hb h') (e1 : h'.tb = h.tb) (e2 : h'.sd = h.sd) (hd : h'.dn < 18446744073709551616) {xs' : List Nat} {m' : Nat} {gs' : List Value}
    (hw : w.ownsRow B 77 1 h'.hv xs'.length (xs'.map cptr)) (sw : w.ownsRow B 40 13 h'.sv m' gs') : Hc B w' hb h' mb l xs' m' gs' := by
  refine ⟨ha, s.lo, ?_, ?_, own_ch2 hw c (fun g hg e => ?_), own_ch2 sw c (fun g hg e => ?_), ⟨by rw [e2]; exact s.sm.1, hd⟩⟩
  · rw [e1]
    exact s.tb.ch c (fun e => blk_ne s.tb.blk s.ha (by decide) e) (map_ne s.tb.map s.ha)
  · rw [e1]
    exact s.tl
  · obtain ⟨cs, hc⟩ := ch_ownrow hw hg
    exact blk_ne hc s.ha (by decide) e
  · obtain ⟨cs, hc⟩ := ch_ownrow sw hg
    exact blk_ne hc s.ha (by decide) e
theorem Pr.own {v : Value} (p : Pr B w v ps) (s : Ha w hb h) (c : Ch w w' (fun k => k = hb)) : Pr B w' v ps := p.ch c (fun g cs hg e => blk_ne hg s (by decide) e)
theorem Hs.below (s : Hs B w hb h mb l ps xs m gs) (c : Below w.heap.size w w') : Hs B w' hb h mb l ps xs m gs := ⟨s.c.below c, s.pr.below c⟩
/-- A row grew that is none of its own cells. -/
theorem grown_q {e : TypeId} {size n : Nat} {v : Value} {ys : List Value} (o : w.ownsRow B e size v n ys) : ∀ g, v.ownBlock = some g → g < w.heap.size → ∃ cs, w.heap[g]? = some (.cells cs e (0, 0)) := fun g hg _ => ch_ownrow o hg
theorem grown_chv {v : Value} (g : w.grownBy w' v.ownBlock) : Ch w w' (fun k => v.ownBlock = some k) := Ch.grown (Ch.refl w _) g (fun k e _ => e)
theorem chm_below {q : Nat → Prop} (c : Ch w w' q) (hq : ∀ k, q k → k < w.heap.size → B ≤ k) (hB : B ≤ w.heap.size) : Below B w w' :=
  ⟨c.os, c.tape, c.output, c.size, fun k hk => c.block k (by omega) (fun e => by have := hq k e (by omega); omega)⟩
end
end Go.Proofs.YtlcegchdkigibaaGreatDoor

/- Two open flows and what is between them: a packet comes. No condition.
Two open flows: all that is on the way comes; a tick; how many deadlines are ahead. No condition. -/
import Derived.Test.YtnpkmkjenlhkiaaMg30
namespace Go.Proofs.Ytnpkmkjenlhkiaa
set_option linter.unusedVariables false
set_option linter.unusedSimpArgs false
set_option maxRecDepth 20000

/-- Two flows, what is between them, the clock. -/
structure Wd where
  x : F
  y : F
  way : List Pk
  t : Nat
def flip (k : Pk) : Pk := ⟨1 - k.to, k.o⟩
def Wd.swap (w : Wd) : Wd := ⟨w.y, w.x, w.way.map flip, w.t⟩
def Wd.del (w : Wd) : Wd :=
  match w.way with
  | [] => w
  | k :: r =>
    if k.to = 1 then ⟨w.x, (w.y.hearO k.o w.t).quiet, addw 0 r (w.y.hearO k.o w.t).os, w.t⟩
    else ⟨(w.x.hearO k.o w.t).quiet, w.y, addw 1 r (w.x.hearO k.o w.t).os, w.t⟩
structure JW (ox i i' : Nat) (w : Wd) (h h' : List Ky) (m a m' a' : Nat) : Prop where
  x : Sd ox w.x i h i' h' m a m'
  y : Sd (3 - ox) w.y i' h' i h m' a' m
  xo : w.x.os = []
  yo : w.y.os = []
  wl : w.way.length ≤ 60
  way : ∀ k ∈ w.way, k.to ≤ 1 ∧ (k.to = 0 → POk k.o i' h' i h m' ∧ Pq (3 - ox) k.o) ∧ (k.to = 1 → POk k.o i h i' h' m ∧ Pq ox k.o)
  ox_ : ox = 1 ∨ ox = 2
  sm : tot h < 2147483648 ∧ tot h' < 2147483648
theorem JW.swap {ox i i' : Nat} {w : Wd} {h h' : List Ky} {m a m' a' : Nat} (J : JW ox i i' w h h' m a m' a') : JW (3 - ox) i' i w.swap h' h m' a' m a := by
  have e : 3 - (3 - ox) = ox := by have := J.ox_; omega
  refine ⟨J.y, by rw [e]; exact J.x, J.yo, J.xo, by show (w.way.map flip).length ≤ 60; rw [List.length_map]; exact J.wl, fun k hk => ?_, by have := J.ox_; omega, J.sm.2, J.sm.1⟩
  obtain ⟨k0, hk0, rfl⟩ := List.mem_map.1 (show k ∈ w.way.map flip from hk)
  have h9 := J.way k0 hk0
  rw [e]
  refine ⟨by show 1 - k0.to ≤ 1; omega, fun e => ?_, fun e => ?_⟩
  · have e : 1 - k0.to = 0 := e
    exact h9.2.2 (by omega)
  · have e : 1 - k0.to = 1 := e
    exact h9.2.1 (by omega)
/-- An acknowledgement of A pieces is on the way to the flow d. -/
def PendA (d i : Nat) (h : List Ky) (A s : Nat) (way : List Pk) : Prop := ∃ k ∈ way, k.to = d ∧ k.o.acks = true ∧ (∃ r, A ≤ r ∧ r ≤ h.length ∧ k.o.ack = on i (tot (h.take r) : Int)) ∧ (k.o.k.syn = true ↔ s = 1)
def keys (d : Nat) (way : List Pk) : List Ky := (way.filter (fun k => k.to == d)).map (fun k => k.o.k)
/-- The pieces up to A are on the way to the flow d. -/
def PendP (d : Nat) (h : List Ky) (mo A : Nat) (way : List Pk) : Prop := ∃ j, j ≤ mo ∧ j < A ∧ ((h.take A).drop j).Sublist (keys d way)
/-- The flow d will have A pieces acknowledged. -/
def Pend (d i : Nat) (h : List Ky) (mo a A s s' : Nat) (way : List Pk) : Prop := A ≤ a ∨ 10 ≤ s ∨ 10 ≤ s' ∨ PendA d i h A s way ∨ PendP (1 - d) h mo A way
theorem keys_cons (d : Nat) (k : Pk) (r : List Pk) : keys d (k :: r) = if k.to = d then k.o.k :: keys d r else keys d r := by
  unfold keys
  by_cases e : k.to = d
  · rw [if_pos e, List.filter_cons_of_pos (by simpa using e)]; rfl
  · rw [if_neg e, List.filter_cons_of_neg (by simpa using e)]
theorem keys_append (d : Nat) (l r : List Pk) : keys d (l ++ r) = keys d l ++ keys d r := by unfold keys; rw [List.filter_append, List.map_append]
theorem keys_flip (d : Nat) (hd : d ≤ 1) : ∀ (way : List Pk), (∀ k ∈ way, k.to ≤ 1) → keys (1 - d) (way.map flip) = keys d way
  | [], _ => rfl
  | k :: r, h => by
    have ih := keys_flip d hd r (fun x hx => h x (List.mem_cons_of_mem _ hx))
    have hk := h k List.mem_cons_self
    rw [List.map_cons, keys_cons, keys_cons, ih]
    have e : (flip k).to = 1 - k.to := rfl
    by_cases e2 : k.to = d
    · rw [if_pos e2, if_pos (by rw [e]; omega)]; rfl
    · rw [if_neg e2, if_neg (by rw [e]; omega)]
theorem Pend.flip {d i : Nat} {h : List Ky} {mo a A s s' : Nat} {way : List Pk} (hd : d ≤ 1) (hw : ∀ k ∈ way, k.to ≤ 1) (p : Pend d i h mo a A s s' way) : Pend (1 - d) i h mo a A s s' (way.map flip) := by
  rcases p with p | p | p | ⟨k, hk, h1, h2⟩ | ⟨j, h1, h2, h3⟩
  · exact .inl p
  · exact .inr (.inl p)
  · exact .inr (.inr (.inl p))
  · exact .inr (.inr (.inr (.inl ⟨Go.Proofs.Ytnpkmkjenlhkiaa.flip k, List.mem_map_of_mem hk, by show 1 - k.to = 1 - d; rw [h1], h2⟩)))
  · refine .inr (.inr (.inr (.inr ⟨j, h1, h2, ?_⟩)))
    rw [keys_flip (1 - d) (by omega) way hw]
    exact h3
theorem flip_flip {way : List Pk} (hw : ∀ k ∈ way, k.to ≤ 1) : (way.map flip).map flip = way := by
  rw [List.map_map]
  have : ∀ k ∈ way, (flip ∘ flip) k = k := fun k hk => by
    have := hw k hk
    show Pk.mk (1 - (1 - k.to)) k.o = k
    rw [show 1 - (1 - k.to) = k.to from by omega]
  rw [List.map_congr_left this, List.map_id']
/-- How many packets one may come to. -/
def wk (ex ey : Nat) (k : Pk) : Nat := if k.o.k.syn = true ∧ k.o.acks = false then 3 else if k.o.k.syn = false ∧ k.o.k.ds.length + bn k.o.k.fin = 0 ∧ k.o.k.seq = (if k.to = 1 then ex else ey) then 1 else 2
def wsum (ex ey : Nat) : List Pk → Nat
  | [] => 0
  | k :: r => wk ex ey k + wsum ex ey r
theorem wsum_append (ex ey : Nat) (l r : List Pk) : wsum ex ey (l ++ r) = wsum ex ey l + wsum ex ey r := by
  induction l with
  | nil => show wsum ex ey r = 0 + wsum ex ey r; omega
  | cons k l ih => show wk ex ey k + wsum ex ey (l ++ r) = wk ex ey k + wsum ex ey l + wsum ex ey r; omega
theorem wk_bd (ex ey : Nat) (k : Pk) : 1 ≤ wk ex ey k ∧ wk ex ey k ≤ 3 := by
  unfold wk
  by_cases c1 : k.o.k.syn = true ∧ k.o.acks = false
  · rw [if_pos c1]; omega
  · rw [if_neg c1]
    by_cases c2 : k.o.k.syn = false ∧ k.o.k.ds.length + bn k.o.k.fin = 0 ∧ k.o.k.seq = (if k.to = 1 then ex else ey)
    · rw [if_pos c2]; omega
    · rw [if_neg c2]; omega
theorem wsum_le (ex ey : Nat) (l : List Pk) : wsum ex ey l ≤ 3 * l.length := by
  induction l with
  | nil => exact Nat.zero_le _
  | cons k l ih =>
    have := (wk_bd ex ey k).2
    rw [List.length_cons]
    show wk ex ey k + wsum ex ey l ≤ _
    omega
theorem wk_flip (ex ey : Nat) (k : Pk) (hk : k.to ≤ 1) : wk ey ex (flip k) = wk ex ey k := by
  have e : (flip k).to = 1 - k.to := rfl
  have e2 : (if (flip k).to = 1 then ey else ex) = (if k.to = 1 then ex else ey) := by
    rw [e]
    by_cases h : k.to = 1
    · rw [if_pos h, if_neg (show ¬ (1 - k.to = 1) by omega)]
    · rw [if_neg h, if_pos (show 1 - k.to = 1 by omega)]
  show (if k.o.k.syn = true ∧ k.o.acks = false then 3 else if k.o.k.syn = false ∧ k.o.k.ds.length + bn k.o.k.fin = 0 ∧ k.o.k.seq = (if (flip k).to = 1 then ey else ex) then 1 else 2) = _
  rw [e2]
  rfl
theorem wsum_flip (ex ey : Nat) : ∀ (l : List Pk), (∀ k ∈ l, k.to ≤ 1) → wsum ey ex (l.map flip) = wsum ex ey l
  | [], _ => rfl
  | k :: r, h => by
    have ih := wsum_flip ex ey r (fun x hx => h x (List.mem_cons_of_mem _ hx))
    show wk ey ex (flip k) + wsum ey ex (r.map flip) = _
    rw [ih, wk_flip ex ey k (h k List.mem_cons_self)]
    rfl
theorem Sd.more {op i i' m a mo mo2 : Nat} {h h' : List Ky} {x : F} (D : Sd op x i h i' h' m a mo) (h1 : mo ≤ mo2) (h2 : mo2 ≤ h.length) : Sd op x i h i' h' m a mo2 := ⟨D.S, D.al, D.ks, D.b, Nat.le_trans D.am h1, h2, D.fl, D.E, D.ar⟩
/-- What a packet that comes to the second flow does. -/
structure Dl (ox i i' : Nat) (w w' : Wd) (h h' : List Ky) (m a m' a' m2 a2 m2' a2' : Nat) : Prop where
  J : JW ox i i' w' h h' m2 a2 m2' a2'
  hm : m ≤ m2 ∧ a ≤ a2 ∧ m' ≤ m2' ∧ a' ≤ a2'
  px : ∀ A, A ≤ h.length → Pend 0 i h m' a A w.x.st w.y.st w.way → Pend 0 i h m2' a2 A w'.x.st w'.y.st w'.way
  py : ∀ A, A ≤ h'.length → Pend 1 i' h' m a' A w.y.st w.x.st w.way → Pend 1 i' h' m2 a2' A w'.y.st w'.x.st w'.way
  ox_ : 10 ≤ w.x.st → w'.x = w.x
  oy : 10 ≤ w.y.st → w'.y = w.y
  ws : wsum w'.x.en w'.y.en w'.way < wsum w.x.en w.y.en w.way
  en : w'.x.en = w.x.en ∧ w'.y.en = w.y.en
  t : w'.t = w.t
set_option maxHeartbeats 3200000 in
theorem JW.del1 {ox i i' : Nat} {w : Wd} {h h' : List Ky} {m a m' a' : Nat} (J : JW ox i i' w h h' m a m' a') {k : Pk} {r : List Pk} (hw : w.way = k :: r) (hk : k.to = 1) :
    ∃ m2' a2', Dl ox i i' w w.del h h' m a m' a' m a m2' a2' ∧ data (h.take m2') = data (h.take m') ++ (if w.y.heardO k.o w.t = true then k.o.k.ds else []) := by
  have hkw : k ∈ w.way := by rw [hw]; exact List.mem_cons_self
  obtain ⟨K, Q⟩ := (J.way k hkw).2.2 hk
  obtain ⟨m2, a2, l, Hh⟩ := J.y.hear (op' := ox) (by have := J.ox_; omega) J.x.S.his J.x.fl J.sm.1 k.o K Q w.t
  have hwl : r.length ≤ 59 := by have := J.wl; rw [hw] at this; simp at this; omega
  have hll : l.length ≤ 1 := by
    rcases Hh.ans with e | ⟨o2, e, _⟩ <;> rw [e]
    · exact Nat.zero_le _
    · exact Nat.le_refl _
  have hos := Hh.os
  rw [J.yo, List.nil_append] at hos
  have hdel : w.del = ⟨w.x, (w.y.hearO k.o w.t).quiet, r ++ l.map (Pk.mk 0), w.t⟩ := by
    unfold Wd.del
    rw [hw]
    show (if k.to = 1 then (⟨w.x, (w.y.hearO k.o w.t).quiet, addw 0 r (w.y.hearO k.o w.t).os, w.t⟩ : Wd) else _) = _
    rw [if_pos hk, hos, addw_all (by omega)]
  obtain ⟨y1, hy1⟩ : ∃ y1, y1 = w.y.hearO k.o w.t := ⟨_, rfl⟩
  rw [← hy1] at Hh hos hdel
  rw [hdel]
  have hyar := J.y.ar
  have hxar := J.x.ar
  have h1ar := Hh.sd.ar
  have hox := J.ox_
  have hm2 := Hh.sd.S.mle
  have hmem : ∀ k2, k2 ∈ r → k2 ∈ w.way := fun k2 h9 => by rw [hw]; exact List.mem_cons_of_mem _ h9
  have hnew : ∀ o2, l = [o2] → Ans (3 - ox) w.y h' i h m2 k.o o2 := fun o2 e => by
    rcases Hh.ans with e2 | ⟨o3, e2, A⟩
    · rw [e2] at e; cases e
    · rw [e2] at e; injection e with e; rw [← e]; exact A
  have hy2 : w.y.st = 2 → 3 - ox = 2 := fun e => by unfold Ar at hyar; omega
  have hst10 : 10 ≤ w.y.st → y1.st = w.y.st := fun e => by rw [(Hh.over e).1]
  have hJ : JW ox i i' ⟨w.x, y1.quiet, r ++ l.map (Pk.mk 0), w.t⟩ h h' m a m2 a2 := by
    refine ⟨J.x.more Hh.hm hm2, Hh.sd.quiet, J.xo, rfl, by show (r ++ l.map (Pk.mk 0)).length ≤ 60; rw [List.length_append, List.length_map]; omega, fun k2 hk2 => ?_, hox, J.sm⟩
    have hk2 : k2 ∈ r ++ l.map (Pk.mk 0) := hk2
    rcases List.mem_append.1 hk2 with hk2 | hk2
    · have h9 := J.way k2 (hmem k2 hk2)
      exact ⟨h9.1, fun e => ⟨(h9.2.1 e).1.mono (by rw [List.take_length]) (Nat.le_refl _) (by rw [List.take_length]) Hh.hm J.y.S.mle, (h9.2.1 e).2⟩, h9.2.2⟩
    · obtain ⟨o2, ho2, rfl⟩ := List.mem_map.1 hk2
      have hl1 : l = [o2] := by
        rcases Hh.ans with e | ⟨o3, e, _⟩
        · rw [e] at ho2; cases ho2
        · rw [e] at ho2 ⊢; simp only [List.mem_singleton] at ho2; rw [ho2]
      have A := hnew o2 hl1
      exact ⟨Nat.zero_le _, fun _ => ⟨A.pok J.y.S.his, A.pq hy2⟩, fun e => by cases e⟩
  refine ⟨m2, a2, ⟨hJ, ⟨Nat.le_refl _, Nat.le_refl _, Hh.hm, Hh.ha⟩, fun A hA p => ?_, fun A hA p => ?_, fun _ => rfl, fun e => ?_, ?_, ⟨rfl, Hh.en⟩, rfl⟩, Hh.dt⟩
  · -- what the first one waits for
    show Pend 0 i h m2 a A w.x.st y1.st (r ++ l.map (Pk.mk 0))
    by_cases d1 : A ≤ a
    · exact .inl d1
    by_cases d2 : 10 ≤ w.x.st
    · exact .inr (.inl d2)
    by_cases d3 : 10 ≤ y1.st
    · exact .inr (.inr (.inl d3))
    rcases p with p | p | p | ⟨kk, hkk, c1, c2⟩ | ⟨j, c1, c2, c3⟩
    · exact absurd p d1
    · exact absurd p d2
    · exact absurd (by rw [hst10 p]; exact p) d3
    · rw [hw] at hkk
      rcases List.mem_cons.1 hkk with e | e
      · rw [e] at c1; omega
      · exact .inr (.inr (.inr (.inl ⟨kk, List.mem_append_left _ e, c1, c2⟩)))
    · rw [hw, keys_cons, if_pos hk] at c3
      rcases List.sublist_cons_iff.1 c3 with c3 | ⟨r2, c4, c5⟩
      · refine .inr (.inr (.inr (.inr ⟨j, Nat.le_trans c1 Hh.hm, c2, ?_⟩)))
        rw [keys_append]
        exact c3.trans (List.sublist_append_left _ _)
      · have hjA : (h.take A)[j]? = some k.o.k := by
          have h9 : ((h.take A).drop j)[0]? = some k.o.k := by rw [c4]; rfl
          rw [List.getElem?_drop] at h9
          exact h9
        have hj : h[j]? = some k.o.k := by rw [List.getElem?_take, if_pos c2] at hjA; exact hjA
        have hr2 : r2 = (h.take A).drop (j + 1) := by
          have h9 : ((h.take A).drop j).drop 1 = r2 := by rw [c4]; rfl
          rw [List.drop_drop] at h9
          exact h9.symm
        obtain ⟨g1, o2, g2, g3⟩ := Hh.p2 (by omega) j hj c1 (fun e => by
          have hm0 := J.y.S.r1 e
          have ham := J.x.am
          unfold Ar at hyar hxar
          omega)
        by_cases hlast : j + 1 < A
        · refine .inr (.inr (.inr (.inr ⟨j + 1, g1, hlast, ?_⟩)))
          rw [← hr2, keys_append]
          exact c5.trans (List.sublist_append_left _ _)
        · have A2 := hnew o2 g2
          refine .inr (.inr (.inr (.inl ⟨⟨0, o2⟩, by rw [g2]; simp, rfl, A2.acks, ⟨m2, by omega, hm2, A2.ack⟩, ?_⟩)))
          rw [g3]
          have hm0 := J.x.S.r1
          have ham := J.y.am
          unfold Ar at hyar hxar
          constructor
          · rintro ⟨e1, e2⟩
            omega
          · intro e1
            have := hm0 e1
            constructor
            · omega
            · omega
  · -- what the second one waits for
    show Pend 1 i' h' m a2 A y1.st w.x.st (r ++ l.map (Pk.mk 0))
    by_cases d1 : A ≤ a2
    · exact .inl d1
    by_cases d2 : 10 ≤ y1.st
    · exact .inr (.inl d2)
    by_cases d3 : 10 ≤ w.x.st
    · exact .inr (.inr (.inl d3))
    have d4 : ¬ 10 ≤ w.y.st := fun e => d2 (by rw [hst10 e]; exact e)
    have hha := Hh.ha
    rcases p with p | p | p | ⟨kk, hkk, c1, c2, ⟨r0, c3, c4, c5⟩, c6⟩ | ⟨j, c1, c2, c3⟩
    · omega
    · exact absurd p d4
    · exact absurd p d3
    · rw [hw] at hkk
      rcases List.mem_cons.1 hkk with e | e
      · subst e
        have := Hh.p1 c2 (by omega) r0 (by omega) c4 c5 c6
        omega
      · refine .inr (.inr (.inr (.inl ⟨kk, List.mem_append_left _ e, c1, c2, ⟨r0, c3, c4, c5⟩, c6.trans ?_⟩)))
        unfold Ar at hyar h1ar
        constructor
        · intro e1; omega
        · intro e1; omega
    · refine .inr (.inr (.inr (.inr ⟨j, c1, c2, ?_⟩)))
      rw [hw, keys_cons, if_neg (by omega)] at c3
      rw [keys_append]
      exact c3.trans (List.sublist_append_left _ _)
  · show y1.quiet = w.y
    rw [(Hh.over e).1]
    exact quiet_same J.yo
  · show wsum w.x.en y1.en (r ++ l.map (Pk.mk 0)) < wsum w.x.en w.y.en w.way
    rw [Hh.en, hw, wsum_append]
    show wsum w.x.en w.y.en r + wsum w.x.en w.y.en (l.map (Pk.mk 0)) < wk w.x.en w.y.en k + wsum w.x.en w.y.en r
    have hb := wk_bd w.x.en w.y.en k
    rcases Hh.ans with e | ⟨o2, e, A⟩
    · rw [e]
      show _ + 0 < _
      omega
    · rw [e]
      show _ + (wk w.x.en w.y.en ⟨0, o2⟩ + 0) < _
      have hne : ¬ (k.o.k.syn = false ∧ k.o.k.ds.length + bn k.o.k.fin = 0 ∧ k.o.k.seq = (if k.to = 1 then w.x.en else w.y.en)) := fun h9 => by
        rw [if_pos hk] at h9
        have h8 := Hh.p3 w.x.en J.x.S.his h9.1 h9.2.1 h9.2.2
        rw [e] at h8
        cases h8
      rcases A.k with ⟨e1, _⟩ | ⟨e1, _⟩ | ⟨e1, _, _, e2, e3⟩
      · have h1 : wk w.x.en w.y.en ⟨0, o2⟩ = 1 := by
          unfold wk
          rw [if_neg (by show ¬ (o2.k.syn = true ∧ _); rw [e1]; rintro ⟨h, _⟩; cases h), if_pos (by show o2.k.syn = false ∧ o2.k.ds.length + bn o2.k.fin = 0 ∧ o2.k.seq = _; rw [e1]; exact ⟨rfl, rfl, rfl⟩)]
        have h2 : 2 ≤ wk w.x.en w.y.en k := by
          unfold wk
          by_cases c1 : k.o.k.syn = true ∧ k.o.acks = false
          · rw [if_pos c1]; omega
          · rw [if_neg c1, if_neg hne]; omega
        omega
      · have h1 : wk w.x.en w.y.en ⟨0, o2⟩ = 1 := by
          unfold wk
          rw [if_neg (by show ¬ (o2.k.syn = true ∧ _); rw [e1]; rintro ⟨h, _⟩; cases h), if_pos (by show o2.k.syn = false ∧ o2.k.ds.length + bn o2.k.fin = 0 ∧ o2.k.seq = _; rw [e1]; exact ⟨rfl, rfl, rfl⟩)]
        have h2 : 2 ≤ wk w.x.en w.y.en k := by
          unfold wk
          by_cases c1 : k.o.k.syn = true ∧ k.o.acks = false
          · rw [if_pos c1]; omega
          · rw [if_neg c1, if_neg hne]; omega
        omega
      · have h1 : wk w.x.en w.y.en ⟨0, o2⟩ = 2 := by
          unfold wk
          rw [if_neg (by show ¬ (_ ∧ o2.acks = false); rw [A.acks]; rintro ⟨_, h⟩; cases h), if_neg (by show ¬ (o2.k.syn = false ∧ _); rw [e1]; rintro ⟨h, _⟩; cases h)]
        have h2 : wk w.x.en w.y.en k = 3 := if_pos ⟨e3, e2⟩
        omega
end Go.Proofs.Ytnpkmkjenlhkiaa

namespace Go.Proofs.Ytnpkmkjenlhkiaa
set_option linter.unusedVariables false
set_option linter.unusedSimpArgs false
set_option maxRecDepth 20000

def Le1 (way : List Pk) : Prop := ∀ k ∈ way, k.to ≤ 1
theorem addw_flip (k : Nat) (w : List Pk) (os : List Ou) : (addw k w os).map flip = addw (1 - k) (w.map flip) os := by
  unfold addw
  rw [List.map_append, List.map_take, List.map_map, List.length_map]
  rfl
theorem Le1.addw {w : List Pk} (h : Le1 w) {k : Nat} (hk : k ≤ 1) (os : List Ou) : Le1 (addw k w os) := fun x hx => by
  rcases addw_mem hx with hx | ⟨o, _, rfl⟩
  · exact h x hx
  · exact hk
theorem Le1.del {w : Wd} (h : Le1 w.way) : Le1 w.del.way := by
  unfold Wd.del
  cases hw : w.way with
  | nil => dsimp only; exact h
  | cons k r =>
    have hr : Le1 r := fun x hx => h x (by rw [hw]; exact List.mem_cons_of_mem _ hx)
    dsimp only
    by_cases e : k.to = 1
    · rw [if_pos e]; exact hr.addw (by omega) _
    · rw [if_neg e]; exact hr.addw (by omega) _
theorem del_swap {w : Wd} (h : Le1 w.way) : w.del.swap = w.swap.del := by
  unfold Wd.del
  cases hw : w.way with
  | nil =>
    have : w.swap.way = [] := by show w.way.map flip = []; rw [hw]; rfl
    rw [this]
  | cons k r =>
    have hk := h k (by rw [hw]; exact List.mem_cons_self)
    have hs : w.swap.way = flip k :: r.map flip := by show w.way.map flip = _; rw [hw]; rfl
    rw [hs]
    dsimp only
    by_cases e : k.to = 1
    · rw [if_pos e, if_neg (show ¬ ((flip k).to = 1) by show ¬ (1 - k.to = 1); omega)]
      show Wd.mk _ _ ((addw 0 r _).map flip) _ = _
      rw [addw_flip]
      rfl
    · rw [if_neg e, if_pos (show (flip k).to = 1 by show 1 - k.to = 1; omega)]
      show Wd.mk _ _ ((addw 1 r _).map flip) _ = _
      rw [addw_flip]
      rfl
theorem swap_swap {w : Wd} (h : Le1 w.way) : w.swap.swap = w := by
  show Wd.mk w.x w.y ((w.way.map flip).map flip) w.t = w
  rw [flip_flip h]
theorem JW.le1 {ox i i' : Nat} {w : Wd} {h h' : List Ky} {m a m' a' : Nat} (J : JW ox i i' w h h' m a m' a') : Le1 w.way := fun k hk => (J.way k hk).1
/-- A packet comes, whichever. -/
theorem JW.del {ox i i' : Nat} {w : Wd} {h h' : List Ky} {m a m' a' : Nat} (J : JW ox i i' w h h' m a m' a') {k : Pk} {r : List Pk} (hw : w.way = k :: r) :
    ∃ m2 a2 m2' a2', Dl ox i i' w w.del h h' m a m' a' m2 a2 m2' a2' ∧ data (h.take m2') = data (h.take m') ++ (if k.to = 1 ∧ w.y.heardO k.o w.t = true then k.o.k.ds else []) ∧ data (h'.take m2) = data (h'.take m) ++ (if ¬ k.to = 1 ∧ w.x.heardO k.o w.t = true then k.o.k.ds else []) := by
  have hle := J.le1
  have hk := hle k (by rw [hw]; exact List.mem_cons_self)
  by_cases e : k.to = 1
  · obtain ⟨m2, a2, D, d⟩ := J.del1 hw e
    refine ⟨m, a, m2, a2, D, ?_, ?_⟩
    · rw [d]
      by_cases c : w.y.heardO k.o w.t = true
      · rw [if_pos c, if_pos ⟨e, c⟩]
      · rw [if_neg c, if_neg (fun h => c h.2)]
    · rw [if_neg (fun h => h.1 e), List.append_nil]
  · have Js := J.swap
    obtain ⟨m2, a2, D, d⟩ := Js.del1 (k := flip k) (r := r.map flip) (by show w.way.map flip = _; rw [hw]; rfl) (show 1 - k.to = 1 by omega)
    rw [← del_swap hle] at D
    have e3 : 3 - (3 - ox) = ox := by have := J.ox_; omega
    have hle2 := hle.del
    have hss := swap_swap hle2
    have J2 := D.J.swap
    rw [e3, hss] at J2
    have fl2 : (w.del.way.map flip).map flip = w.del.way := flip_flip hle2
    refine ⟨m2, a2, m', a', ⟨J2, ⟨D.hm.2.2.1, D.hm.2.2.2, Nat.le_refl _, Nat.le_refl _⟩, fun A hA p => ?_, fun A hA p => ?_, fun h => D.oy h, fun h => D.ox_ h, ?_, ⟨D.en.2, D.en.1⟩, D.t⟩, ?_, ?_⟩
    · have h9 := D.py A hA (p.flip (by omega) hle)
      have h8 := h9.flip (by omega) (fun k2 hk2 => by obtain ⟨k3, hk3, rfl⟩ := List.mem_map.1 (show k2 ∈ w.del.way.map flip from hk2); show 1 - k3.to ≤ 1; omega)
      have h8 : Pend 0 i h m' a2 A w.del.x.st w.del.y.st ((w.del.way.map flip).map flip) := h8
      rw [fl2] at h8
      exact h8
    · have h9 := D.px A hA (p.flip (by omega) hle)
      have h8 := h9.flip (by omega) (fun k2 hk2 => by obtain ⟨k3, hk3, rfl⟩ := List.mem_map.1 (show k2 ∈ w.del.way.map flip from hk2); show 1 - k3.to ≤ 1; omega)
      have h8 : Pend 1 i' h' m2 a' A w.del.y.st w.del.x.st ((w.del.way.map flip).map flip) := h8
      rw [fl2] at h8
      exact h8
    · have h9 := D.ws
      have h9 : wsum w.del.y.en w.del.x.en (w.del.way.map flip) < wsum w.y.en w.x.en (w.way.map flip) := h9
      rw [wsum_flip w.del.x.en w.del.y.en _ hle2, wsum_flip w.x.en w.y.en _ hle] at h9
      exact h9
    · rw [if_neg (fun h => e h.1), List.append_nil]
    · rw [d]
      show _ ++ (if w.x.heardO k.o w.t = true then k.o.k.ds else []) = _
      by_cases c : w.x.heardO k.o w.t = true
      · rw [if_pos c, if_pos ⟨e, c⟩]
      · rw [if_neg c, if_neg (fun h => c h.2)]
def Wd.set : Nat → Wd → Wd
  | 0, w => w
  | n + 1, w => if w.way = [] then w else w.del.set n
theorem wset_nil (n : Nat) (w : Wd) (h : w.way = []) : w.set n = w := by
  cases n with
  | zero => rfl
  | succ n => exact if_pos h
theorem set_swap : ∀ (n : Nat) (w : Wd), Le1 w.way → (w.set n).swap = w.swap.set n
  | 0, w, _ => rfl
  | n + 1, w, h => by
    show (if w.way = [] then w else w.del.set n).swap = if w.swap.way = [] then w.swap else w.swap.del.set n
    by_cases e : w.way = []
    · rw [if_pos e, if_pos (show w.swap.way = [] by show w.way.map flip = []; rw [e]; rfl)]
    · rw [if_neg e, if_neg (show ¬ w.swap.way = [] from fun e2 => e (List.map_eq_nil_iff.1 e2)), ← del_swap h]
      exact set_swap n w.del h.del
/-- Behind all that comes. -/
structure St2 (ox i i' : Nat) (w w' : Wd) (h h' : List Ky) (m a m' a' m2 a2 m2' a2' : Nat) : Prop where
  J : JW ox i i' w' h h' m2 a2 m2' a2'
  way : w'.way = []
  hm : m ≤ m2 ∧ a ≤ a2 ∧ m' ≤ m2' ∧ a' ≤ a2'
  px : ∀ A, A ≤ h.length → Pend 0 i h m' a A w.x.st w.y.st w.way → Pend 0 i h m2' a2 A w'.x.st w'.y.st w'.way
  ox_ : 10 ≤ w.x.st → w'.x = w.x
  oy : 10 ≤ w.y.st → w'.y = w.y
  t : w'.t = w.t
theorem JW.set {ox i i' : Nat} {h h' : List Ky} : ∀ (n : Nat) (w : Wd) (m a m' a' : Nat), JW ox i i' w h h' m a m' a' → wsum w.x.en w.y.en w.way ≤ n → ∃ m2 a2 m2' a2', St2 ox i i' w (w.set n) h h' m a m' a' m2 a2 m2' a2'
  | n, w, m, a, m', a', J, hn => by
    cases hw : w.way with
    | nil =>
      rw [wset_nil n w hw]
      exact ⟨m, a, m', a', J, hw, ⟨Nat.le_refl _, Nat.le_refl _, Nat.le_refl _, Nat.le_refl _⟩, fun A _ p => p, fun _ => rfl, fun _ => rfl, rfl⟩
    | cons k r =>
      obtain ⟨m2, a2, m2', a2', D, _⟩ := J.del hw
      have hws := D.ws
      cases n with
      | zero => omega
      | succ n =>
        obtain ⟨m3, a3, m3', a3', S⟩ := JW.set n w.del m2 a2 m2' a2' D.J (by omega)
        have e : w.set (n + 1) = w.del.set n := if_neg (by rw [hw]; exact List.cons_ne_nil _ _)
        rw [e]
        refine ⟨m3, a3, m3', a3', S.J, S.way, ⟨Nat.le_trans D.hm.1 S.hm.1, Nat.le_trans D.hm.2.1 S.hm.2.1, Nat.le_trans D.hm.2.2.1 S.hm.2.2.1, Nat.le_trans D.hm.2.2.2 S.hm.2.2.2⟩, fun A hA p => S.px A hA (D.px A hA p), fun h9 => ?_, fun h9 => ?_, S.t.trans D.t⟩
        · have := D.ox_ h9
          rw [← this] at h9 ⊢
          exact S.ox_ h9
        · have := D.oy h9
          rw [← this] at h9 ⊢
          exact S.oy h9
/-- A flow that is over answers nothing. -/
theorem over_hear (y : F) (h : y.st = 10 ∨ y.st = 11) (o : Ou) (t : Int) : y.hearO o t = y := by
  unfold F.hearO F.hear
  rw [if_pos h]
theorem set_over : ∀ (n : Nat) (w : Wd), (w.y.st = 10 ∨ w.y.st = 11) → w.y.os = [] → (∀ k ∈ w.way, k.to = 1) → (w.set n).x = w.x
  | 0, w, _, _, _ => rfl
  | n + 1, w, h, ho, hk => by
    show (if w.way = [] then w else w.del.set n).x = w.x
    by_cases e : w.way = []
    · rw [if_pos e]
    · rw [if_neg e]
      cases hw : w.way with
      | nil => exact absurd hw e
      | cons k r =>
        have hk1 := hk k (by rw [hw]; exact List.mem_cons_self)
        have ed : w.del = ⟨w.x, w.y, r, w.t⟩ := by
          unfold Wd.del
          rw [hw]
          show (if k.to = 1 then (⟨w.x, (w.y.hearO k.o w.t).quiet, addw 0 r (w.y.hearO k.o w.t).os, w.t⟩ : Wd) else _) = _
          rw [if_pos hk1, over_hear w.y h, ho, addw_none, quiet_same ho]
        rw [ed]
        exact set_over n ⟨w.x, w.y, r, w.t⟩ h ho (fun k2 hk2 => hk k2 (by rw [hw]; exact List.mem_cons_of_mem _ hk2))
def Wd.tick (w : Wd) : Wd := ⟨(w.x.expire (w.t + 1 : Nat)).quiet, (w.y.expire (w.t + 1 : Nat)).quiet, addw 0 (addw 1 w.way (w.x.expire (w.t + 1 : Nat)).os) (w.y.expire (w.t + 1 : Nat)).os, w.t + 1⟩
def Wd.tk (w : Wd) : Wd := w.tick.set 200
def six (n : Nat) : Nat := (n + 59) / 60
/-- How many deadlines are ahead, at most. -/
def Wd.mu (w : Wd) : Nat := if w.x.st < 10 then (if w.y.st < 10 then 6 + six w.x.ks.length + six w.y.ks.length else 5 - w.x.tries) else (if w.y.st < 10 then 5 - w.y.tries else 0)
theorem mu_swap (w : Wd) : w.swap.mu = w.mu := by
  show (if w.y.st < 10 then (if w.x.st < 10 then 6 + six w.y.ks.length + six w.x.ks.length else 5 - w.y.tries) else (if w.x.st < 10 then 5 - w.x.tries else 0)) = _
  unfold Wd.mu
  by_cases h1 : w.x.st < 10
  · by_cases h2 : w.y.st < 10
    · rw [if_pos h1, if_pos h2, if_pos h1, if_pos h2]; omega
    · simp only [if_pos h1, if_neg h2]
  · by_cases h2 : w.y.st < 10
    · rw [if_neg h1, if_pos h2, if_neg h1, if_pos h2]
    · simp only [if_neg h1, if_neg h2]
/-- One behind death or the end: few are ahead. -/
theorem mu_five (w : Wd) (h : 10 ≤ w.x.st ∨ 10 ≤ w.y.st) : w.mu ≤ 5 := by
  unfold Wd.mu
  by_cases h1 : w.x.st < 10
  · rw [if_pos h1, if_neg (by omega)]; omega
  · rw [if_neg h1]
    split <;> omega
theorem Ex.os {op : Nat} {x y : F} {t : Int} {i : Nat} {h : List Ky} {i' : Nat} {h' : List Ky} {m a mo : Nat} (E : Ex op x y t i h i' h' m a mo) (D : Sd op x i h i' h' m a mo) (ho : x.os = []) : Sd op y i h i' h' m a mo ∧ ∀ o ∈ y.os, POk o i h i' h' m ∧ Pq op o := by
  cases E with
  | no d e => subst e; exact ⟨D, fun o h9 => by rw [ho] at h9; cases h9⟩
  | over d sd st os => exact ⟨sd, fun o h9 => by rw [os, ho] at h9; cases h9⟩
  | again d sd st lt tr al os ks =>
    refine ⟨sd, fun o h9 => ?_⟩
    rw [os, ho, List.nil_append] at h9
    exact D.told_ok (by omega) o h9
/-- A tick. -/
theorem JW.tick {ox i i' : Nat} {w : Wd} {h h' : List Ky} {m a m' a' : Nat} (J : JW ox i i' w h h' m a m' a') (hx : w.x.E.d < 1000000) (hy : w.y.E.d < 1000000) : JW ox i i' w.tick h h' m a m' a' := by
  have X := (J.x.expire ((w.t + 1 : Nat) : Int) hx).os J.x J.xo
  have Y := (J.y.expire ((w.t + 1 : Nat) : Int) hy).os J.y J.yo
  refine ⟨X.1.quiet, Y.1.quiet, rfl, rfl, addw_len (addw_len J.wl), fun k hk => ?_, J.ox_, J.sm⟩
  have hk : k ∈ addw 0 (addw 1 w.way (w.x.expire ((w.t + 1 : Nat) : Int)).os) (w.y.expire ((w.t + 1 : Nat) : Int)).os := hk
  rcases addw_mem hk with hk | ⟨o, ho, rfl⟩
  · rcases addw_mem hk with hk | ⟨o, ho, rfl⟩
    · exact J.way k hk
    · exact ⟨Nat.le_refl _, (fun e => by cases e), fun _ => X.2 o ho⟩
  · exact ⟨Nat.zero_le _, fun _ => Y.2 o ho, fun e => by cases e⟩
theorem ks_len {op : Nat} {x : F} {i : Nat} {h : List Ky} {i' : Nat} {h' : List Ky} {m a mo : Nat} (D : Sd op x i h i' h' m a mo) : x.ks.length = h.length - a := by rw [D.ks, List.length_drop]
theorem keys_mk (d : Nat) (os : List Ou) : keys d (os.map (Pk.mk d)) = os.map Ou.k := by
  induction os with
  | nil => rfl
  | cons o os ih => rw [List.map_cons, keys_cons, if_pos rfl, ih]; rfl
theorem told_keys (x : F) (l : List Ky) : (told x l).map Ou.k = l := by
  unfold told
  rw [List.map_map]
  exact List.map_id' l
theorem take_sub {α : Type} (l : List α) {n m : Nat} (h : n ≤ m) : (l.take n).Sublist (l.take m) := by
  have e : l.take n = (l.take m).take n := by rw [List.take_take, Nat.min_eq_left h]
  rw [e]
  exact List.take_sublist _ _
set_option maxHeartbeats 3200000 in
/-- The first flow's deadline: fewer are ahead. -/
theorem JW.due {ox i i' : Nat} {w : Wd} {h h' : List Ky} {m a m' a' : Nat} (J : JW ox i i' w h h' m a m' a') (hw : w.way = []) (hx : w.x.E.d < 1000000) (hy : w.y.E.d < 1000000) (hd : w.x.isDue ((w.t + 1 : Nat) : Int)) : w.tk.mu < w.mu := by
  have J1 := J.tick hx hy
  have hws : wsum w.tick.x.en w.tick.y.en w.tick.way ≤ 200 := by
    have := wsum_le w.tick.x.en w.tick.y.en w.tick.way
    have := J1.wl
    omega
  obtain ⟨m2, a2, m2', a2', S⟩ := JW.set 200 w.tick m a m' a' J1 hws
  have hxar := J.x.ar
  have hyar := J.y.ar
  have h2x := S.J.x.ar
  have h2y := S.J.y.ar
  have hx10 : w.x.st < 10 := by unfold F.isDue at hd; unfold Ar at hxar; omega
  have htr : w.x.tries ≤ 4 := by unfold Ar at hxar; omega
  have EX := J.x.expire ((w.t + 1 : Nat) : Int) hx
  have EY := J.y.expire ((w.t + 1 : Nat) : Int) hy
  show (w.tick.set 200).mu < w.mu
  obtain ⟨v, hv⟩ : ∃ v, v = w.tick.set 200 := ⟨_, rfl⟩
  have hov : 10 ≤ w.y.st → (w.y.expire ((w.t + 1 : Nat) : Int)) = w.y := fun e => by
    refine if_neg ?_
    rintro ⟨h9, _⟩
    unfold Ar at hyar
    omega
  rw [← hv] at S h2x h2y ⊢
  cases EX with
  | no d _ => exact absurd hd d
  | over d sd st os =>
    have e1 : v.x = w.tick.x := S.ox_ st
    have e2 : 10 ≤ v.x.st := by rw [e1]; exact st
    by_cases hy10 : w.y.st < 10
    · have h5 := mu_five v (.inl e2)
      have h6 : w.mu = 6 + six w.x.ks.length + six w.y.ks.length := by unfold Wd.mu; rw [if_pos hx10, if_pos hy10]
      omega
    · have e3 : v.y = w.tick.y := S.oy (by show 10 ≤ (w.y.expire ((w.t + 1 : Nat) : Int)).st; rw [hov (by omega)]; omega)
      have e4 : 10 ≤ v.y.st := by rw [e3]; show 10 ≤ (w.y.expire ((w.t + 1 : Nat) : Int)).st; rw [hov (by omega)]; omega
      have h5 : v.mu = 0 := by unfold Wd.mu; rw [if_neg (by omega), if_neg (by omega)]
      have h6 : w.mu = 5 - w.x.tries := by unfold Wd.mu; rw [if_pos hx10, if_neg hy10]
      omega
  | again d sd st lt tr al os ks =>
    have hos : (w.x.expire ((w.t + 1 : Nat) : Int)).os = told w.x (h.drop a) := by rw [os, J.xo, List.nil_append]
    by_cases hy10 : w.y.st < 10
    · have h6 : w.mu = 6 + six w.x.ks.length + six w.y.ks.length := by unfold Wd.mu; rw [if_pos hx10, if_pos hy10]
      by_cases hvx : v.x.st < 10
      · by_cases hvy : v.y.st < 10
        · have h5 : v.mu = 6 + six v.x.ks.length + six v.y.ks.length := by unfold Wd.mu; rw [if_pos hvx, if_pos hvy]
          -- the first sixty come
          obtain ⟨A, hA⟩ : ∃ A, A = a + min 60 (h.length - a) := ⟨_, rfl⟩
          have hp : Pend 0 i h m' a A w.tick.x.st w.tick.y.st w.tick.way := by
            refine .inr (.inr (.inr (.inr ⟨a, J.x.am, by omega, ?_⟩)))
            have hwy : w.tick.way = addw 0 (addw 1 w.way (w.x.expire ((w.t + 1 : Nat) : Int)).os) (w.y.expire ((w.t + 1 : Nat) : Int)).os := rfl
            have h1 : addw 1 w.way (w.x.expire ((w.t + 1 : Nat) : Int)).os = ((told w.x (h.drop a)).take 60).map (Pk.mk 1) := by
              rw [hw, hos]
              unfold addw
              rw [List.nil_append, List.map_take]
              rfl
            rw [hwy, h1]
            unfold addw
            rw [keys_append, keys_mk, List.map_take, told_keys]
            refine List.Sublist.trans ?_ (List.sublist_append_left _ _)
            rw [List.drop_take]
            exact take_sub _ (by omega)
          have hq := S.px A (by omega) hp
          have hA2 : A ≤ a2 := by
            rcases hq with q | q | q | ⟨k, hk, _⟩ | ⟨j, q1, q2, q3⟩
            · exact q
            · omega
            · omega
            · rw [S.way] at hk; cases hk
            · rw [S.way] at q3
              have := q3.length_le
              rw [List.length_drop, List.length_take] at this
              have h0 : (keys (1 - 0) ([] : List Pk)).length = 0 := rfl
              have := J.x.al
              omega
          have l1 := ks_len J.x
          have l2 := ks_len J.y
          have l3 := ks_len S.J.x
          have l4 := ks_len S.J.y
          have := S.hm.2.2.2
          rw [h5, h6, l1, l2, l3, l4]
          unfold six
          omega
        · have h5 := mu_five v (.inr (by omega))
          omega
      · have h5 := mu_five v (.inl (by omega))
        omega
    · have hye := hov (by omega)
      have e3 : v.y = w.tick.y := S.oy (by show 10 ≤ (w.y.expire ((w.t + 1 : Nat) : Int)).st; rw [hye]; omega)
      have e5 : v.x = w.tick.x := by
        rw [hv]
        refine set_over 200 w.tick ?_ rfl (fun k hk => ?_)
        · show (w.y.expire ((w.t + 1 : Nat) : Int)).st = 10 ∨ (w.y.expire ((w.t + 1 : Nat) : Int)).st = 11
          rw [hye]
          unfold Ar at hyar
          omega
        · have hk : k ∈ addw 0 (addw 1 w.way (w.x.expire ((w.t + 1 : Nat) : Int)).os) (w.y.expire ((w.t + 1 : Nat) : Int)).os := hk
          rw [hye, J.yo, addw_none, hw] at hk
          rcases addw_mem hk with hk | ⟨o, _, rfl⟩
          · cases hk
          · rfl
      have e4 : ¬ v.y.st < 10 := by
        rw [e3]
        show ¬ (w.y.expire ((w.t + 1 : Nat) : Int)).st < 10
        rw [hye]
        exact hy10
      have e6 : v.x.tries = w.x.tries + 1 := by rw [e5]; exact tr
      have h6 : w.mu = 5 - w.x.tries := by unfold Wd.mu; rw [if_pos hx10, if_neg hy10]
      have h5 : v.mu ≤ 5 - v.x.tries := by
        unfold Wd.mu
        rw [if_neg e4, if_neg e4]
        split <;> omega
      omega
end Go.Proofs.Ytnpkmkjenlhkiaa

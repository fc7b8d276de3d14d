/- What was ever sent, by whom, and how much of it came: what holds of one side whatever it hears and sends. No condition.
One side, whatever it hears, sends, and lets expire. No condition.
One side hears, lets expire, sends: what was sent, and what came. No condition.
Two flows and what is between them: what comes is a beginning of what was sent. No condition but so many steps. -/
import Derived.Test.YtnpkmkjenlhkiaaMg17
namespace Go.Proofs.Ytnpkmkjenlhkiaa
set_option linter.unusedVariables false
set_option linter.unusedSimpArgs false
set_option maxRecDepth 20000

def data (ks : List Ky) : List UInt8 := ks.flatMap Ky.ds
theorem data_append (l r : List Ky) : data (l ++ r) = data l ++ data r := by simp [data]
/-- All that one side ever sent: from i to en. -/
structure Hist (i : Nat) (h : List Ky) (en : Nat) : Prop where
  lt : i < 4294967296
  ch : Chn i h en
  pos : ∀ k ∈ h, 0 < k.len ∧ k.ds.length ≤ 12
  syn : ∀ k r, h = k :: r → k.syn = true ∧ k.ds = [] ∧ k.fin = false ∧ ∀ x ∈ r, x.syn = false
  small : tot h ≤ 2147483648
/-- A packet of that side, which had so many of the other one's pieces. -/
structure POk (o : Ou) (i : Nat) (h : List Ky) (i' : Nat) (h' : List Ky) (m : Nat) : Prop where
  rst : o.rst = false
  k : o.k ∈ h ∨ ∃ j, j ≤ h.length ∧ o.k = tK (on i (tot (h.take j) : Int))
  ack : o.acks = true → ∃ r, 1 ≤ r ∧ r ≤ m ∧ o.ack = on i' (tot (h'.take r) : Int)
/-- One side: what it sent, what is left of it, how much of the other one's came. -/
structure Side (x : F) (i : Nat) (h : List Ky) (i' : Nat) (h' : List Ky) (m : Nat) : Prop where
  his : Hist i h x.en
  q : ∃ a, a ≤ h.length ∧ x.ks = h.drop a ∧ x.b = on i (tot (h.take a) : Int)
  mle : m ≤ h'.length
  rc : x.st ≠ 1 → x.st ≠ 11 → 1 ≤ m ∧ x.rcv = on i' (tot (h'.take m) : Int)
  r1 : x.st = 1 → m = 0
  os : ∀ o ∈ x.os, POk o i h i' h' m

theorem tot_take_mono : ∀ (h : List Ky) {a b : Nat}, a ≤ b → tot (h.take a) ≤ tot (h.take b)
  | [], _, _, _ => by simp
  | k :: h, 0, _, _ => by simp [tot]
  | k :: h, a + 1, 0, hab => by omega
  | k :: h, a + 1, b + 1, hab => by
    have := tot_take_mono h (show a ≤ b by omega)
    simp only [List.take_succ_cons, tot]
    omega
theorem tot_take_le (h : List Ky) (a : Nat) : tot (h.take a) ≤ tot h := by
  have := tot_take_mono h (show a ≤ max a h.length by omega)
  rwa [List.take_of_length_le (show h.length ≤ max a h.length by omega)] at this
theorem tot_take_lt {h : List Ky} (hp : ∀ k ∈ h, 0 < k.len) {a b : Nat} (hab : a < b) (hb : a < h.length) : tot (h.take a) < tot (h.take b) := by
  have h1 := tot_take_mono h (show a + 1 ≤ b by omega)
  have h2 : h.take (a + 1) = h.take a ++ [h[a]] := List.take_succ_eq_append_getElem hb
  have h3 := hp h[a] (List.getElem_mem hb)
  rw [h2, tot_append] at h1
  simp only [tot] at h1
  omega
theorem on_inj {i a b : Nat} (ha : a < 4294967296) (hb : b < 4294967296) (h : on i (a : Int) = on i (b : Int)) : a = b := by
  unfold on at h
  omega
/-- A place says how many pieces are ahead of it. -/
theorem Hist.inj {i : Nat} {h : List Ky} {en a b : Nat} (H : Hist i h en) (ha : a ≤ h.length) (hb : b ≤ h.length) (e : on i (tot (h.take a) : Int) = on i (tot (h.take b) : Int)) : a = b := by
  have h1 := tot_take_le h a
  have h2 := tot_take_le h b
  have h3 := H.small
  have e := on_inj (by omega) (by omega) e
  rcases Nat.lt_trichotomy a b with hlt | heq | hgt
  · have := tot_take_lt (fun k hk => (H.pos k hk).1) hlt (by omega)
    omega
  · exact heq
  · have := tot_take_lt (fun k hk => (H.pos k hk).1) hgt (by omega)
    omega
theorem Hist.seq {i : Nat} {h : List Ky} {en j : Nat} {k : Ky} (H : Hist i h en) (hj : h[j]? = some k) : k.seq = on i (tot (h.take j) : Int) := H.ch.at_ j k H.lt hj
theorem Hist.en {i : Nat} {h : List Ky} {en : Nat} (H : Hist i h en) : en = on i (tot (h.take h.length) : Int) := by rw [List.take_length]; exact H.ch.end_ H.lt
theorem Hist.next {i : Nat} {h : List Ky} {j : Nat} {k : Ky} (hj : h[j]? = some k) : on i (tot (h.take (j + 1)) : Int) = on (on i (tot (h.take j) : Int)) (k.len : Int) ∧ data (h.take (j + 1)) = data (h.take j) ++ k.ds := by
  obtain ⟨hlt, e⟩ := List.getElem?_eq_some_iff.1 hj
  have h2 : h.take (j + 1) = h.take j ++ [k] := by rw [List.take_succ_eq_append_getElem hlt, e]
  rw [h2, tot_append, on_on]
  exact ⟨rfl, by rw [data_append]; simp [data]⟩
theorem Hist.syn0 {i : Nat} {h : List Ky} {en : Nat} {k : Ky} (H : Hist i h en) (hk : k ∈ h) (hs : k.syn = true) : h[0]? = some k ∧ k.ds = [] ∧ k.len = 1 := by
  cases h with
  | nil => cases hk
  | cons k0 r =>
    have h1 := H.syn k0 r rfl
    rcases List.mem_cons.1 hk with e | e
    · subst e
      refine ⟨rfl, h1.2.1, ?_⟩
      unfold Ky.len
      rw [h1.1, h1.2.1, h1.2.2.1]
      rfl
    · have := h1.2.2.2 k e
      rw [hs] at this
      cases this
theorem Hist.pos1 {i : Nat} {h : List Ky} {en j : Nat} {k : Ky} (H : Hist i h en) (hj : h[j]? = some k) (h1 : 1 ≤ j) : k.syn = false := by
  cases h with
  | nil => simp at hj
  | cons k0 r =>
    have h2 := H.syn k0 r rfl
    have : k ∈ r := by
      cases j with
      | zero => omega
      | succ j => exact List.mem_of_getElem? (by simpa using hj)
    exact h2.2.2.2 k this

/-- More was sent, and more came, since. -/
theorem POk.mono {o : Ou} {i i' : Nat} {h h2 h' h2' : List Ky} {m m2 : Nat} (p : POk o i h i' h' m) (e : h2.take h.length = h) (el : h.length ≤ h2.length) (e' : h2'.take h'.length = h') (hm : m ≤ m2) (hml : m ≤ h'.length) : POk o i h2 i' h2' m2 := by
  have hsub : ∀ j, j ≤ h.length → h2.take j = h.take j := fun j hj => by
    rw [← e, List.take_take, Nat.min_eq_left hj]
  have hsub' : ∀ j, j ≤ h'.length → h2'.take j = h'.take j := fun j hj => by
    rw [← e', List.take_take, Nat.min_eq_left hj]
  refine ⟨p.rst, ?_, fun ha => ?_⟩
  · rcases p.k with h1 | ⟨j, hj, h1⟩
    · rw [← e] at h1
      exact .inl (List.mem_of_mem_take h1)
    · exact .inr ⟨j, by omega, by rw [hsub j hj]; exact h1⟩
  · obtain ⟨r, h1, h2, h3⟩ := p.ack ha
    exact ⟨r, h1, by omega, by rw [hsub' r (by omega)]; exact h3⟩
theorem take_self_append (l r : List Ky) : (l ++ r).take l.length = l := by simp
end Go.Proofs.Ytnpkmkjenlhkiaa

namespace Go.Proofs.Ytnpkmkjenlhkiaa
set_option linter.unusedVariables false
set_option linter.unusedSimpArgs false
set_option maxRecDepth 20000

/-- A state that is neither the first one nor dead. -/
def Live (s : Nat) : Prop := s ≠ 1 ∧ s ≠ 11
theorem fina_live (x : F) (t : Int) (h : Live x.st) : Live (x.fina t).st := by
  unfold F.fina
  by_cases h1 : x.st = 4
  · rw [if_pos h1]; show Live 5; unfold Live; omega
  · rw [if_neg h1]
    by_cases h2 : x.st = 7
    · rw [if_pos h2]; show Live 9; unfold Live; omega
    · rw [if_neg h2]
      by_cases h3 : x.st = 8
      · rw [if_pos h3]; show Live 10; unfold Live; omega
      · rw [if_neg h3]; exact h
theorem hk1_live (x : F) (k : Ky) (t : Int) (h : Live x.st) : Live (x.hk1 k t).st := by
  unfold F.hk1
  by_cases h1 : k.syn = true ∧ x.st = 2
  · rw [if_pos h1]; show Live 3; unfold Live; omega
  · rw [if_neg h1]
    by_cases h2 : k.fin = true
    · rw [if_pos h2]; exact fina_live x t h
    · rw [if_neg h2]; exact h
theorem hks_live (t : Int) : ∀ (ks : List Ky) (x : F), Live x.st → Live (x.hks ks t).st
  | [], x, h => by rw [hks_nil]; exact h
  | k :: ks, x, h => hks_live t ks (x.hk1 k t) (hk1_live x k t h)
theorem hacks_live (x : F) (hb : x.b < 4294967296) (ak : Nat) (kk : Bool) (t : Int) (h : Live x.st) : Live (x.hacks ak kk t).st := by
  unfold F.hacks
  by_cases h1 : kk = true
  · rw [if_pos h1]
    refine hks_live t (x.gone ak) (x.acked ak t) ?_
    rw [(acked_same x hb ak t).2.2.1]
    exact h
  · rw [if_neg h1]; exact h
/-- What hearing does to what is awaited, and to the state; whether data are fresh. -/
inductive Hr (x : F) (q ak : Nat) (syn kk : Bool) (ln : Nat) (y : F) (fr : Bool) : Prop where
  | same (h : y = x) (f : fr = false)
  | answered (h : x.st = 1) (s : syn = true) (k : kk = true) (a : ak = x.en) (r : y.rcv = on q 1) (st : y.st = 3) (f : fr = false)
  | other (h : Live x.st) (l : Live y.st) (r : y.rcv = x.rcv) (f : fr = false)
  | fresh (h : Live x.st) (l : Live y.st) (s : syn = false) (e : q = x.rcv) (r : y.rcv = on x.rcv (ln : Int)) (f : fr = true)
theorem hear_cases (x : F) (hb : x.b < 4294967296) (q ak : Nat) (syn kk fin : Bool) (ln : Nat) (t : Int) : Hr x q ak syn kk ln (x.hear q ak syn kk fin ln t) (x.heard q ak syn kk t) := by
  unfold F.hear F.heard
  by_cases h0 : x.st = 10 ∨ x.st = 11
  · rw [if_pos h0, if_pos h0]; exact .same rfl rfl
  · rw [if_neg h0, if_neg h0]
    by_cases h1 : x.st = 1
    · rw [if_pos h1, if_pos h1]
      unfold F.hans
      by_cases h2 : syn = true ∧ kk = true ∧ ak = x.en
      · rw [if_pos h2]
        refine .answered h1 h2.1 h2.2.1 h2.2.2 ?_ rfl rfl
        have h3 := (acked_same (x.rcvd (on q 1)) hb ak t).2.2.2
        obtain ⟨X, hX⟩ : ∃ X, X = (x.rcvd (on q 1)).acked ak t := ⟨_, rfl⟩
        rw [← hX] at h3 ⊢
        exact h3
      · rw [if_neg h2]; exact .same rfl rfl
    · have hL : Live x.st := ⟨h1, fun e => h0 (.inr e)⟩
      rw [if_neg h1, if_neg h1]
      by_cases h2 : syn = true
      · rw [if_pos h2, if_pos h2]
        unfold F.hsyn
        by_cases h3 : x.st = 2 ∧ kk = false ∧ q = on x.rcv (-1)
        · rw [if_pos h3]; exact .other hL hL rfl rfl
        · rw [if_neg h3]; exact .other hL hL rfl rfl
      · rw [if_neg h2, if_neg h2]
        have hs : syn = false := by simpa using h2
        obtain ⟨a, g1, g2, g3, g4, g5, g6⟩ := hacks_same x hb ak kk t
        have hl := hacks_live x hb ak kk t hL
        obtain ⟨y, hy⟩ : ∃ y, y = x.hacks ak kk t := ⟨_, rfl⟩
        rw [← hy] at g6 hl ⊢
        by_cases h3 : 3 ≤ y.st ∧ y.st ≤ 9
        · rw [if_pos h3]
          have k2 := takes_st y q ln fin t h3
          have k3 := takes_rcv y q ln fin t
          have hz : ∀ z : F, (if 0 < ln ∨ bf q y.rcv = true then z.tell (tK y.en) else z).rcv = z.rcv ∧ (if 0 < ln ∨ bf q y.rcv = true then z.tell (tK y.en) else z).st = z.st := fun z => by
            by_cases h4 : 0 < ln ∨ bf q y.rcv = true
            · rw [if_pos h4]; exact ⟨rfl, rfl⟩
            · rw [if_neg h4]; exact ⟨rfl, rfl⟩
          have hd := hz (y.takes q ln fin t)
          unfold F.hdata
          obtain ⟨z, hzz⟩ : ∃ z, z = y.takes q ln fin t := ⟨_, rfl⟩
          rw [← hzz] at k2 k3 hd ⊢
          have hlz : Live (if 0 < ln ∨ bf q y.rcv = true then z.tell (tK y.en) else z).st := by rw [hd.2]; unfold Live; omega
          by_cases h5 : y.isFresh q
          · rw [if_pos h5] at k3
            exact .fresh hL hlz hs (h5.1.trans g6) (by rw [hd.1, k3, g6]) (decide_eq_true ⟨h3, h5⟩)
          · rw [if_neg h5] at k3
            exact .other hL hlz (by rw [hd.1, k3, g6]) (decide_eq_false (fun e => h5 e.2))
        · rw [if_neg h3]
          exact .other hL hl g6 (decide_eq_false (fun e => h3 e.1))

theorem suffix_drop {h ks : List Ky} {i a b0 c : Nat} {b : Nat} (ha : a ≤ h.length) (hk : ks = h.drop a) (hb : b = on i (tot (h.take a) : Int)) (hc : c ≤ ks.length) : a + c ≤ h.length ∧ ks.drop c = h.drop (a + c) ∧ on b (tot (ks.take c) : Int) = on i (tot (h.take (a + c)) : Int) := by
  subst hk
  rw [List.length_drop] at hc
  refine ⟨by omega, by rw [List.drop_drop], ?_⟩
  rw [hb, on_on, ← tot_append]
  congr 2
  congr 1
  rw [List.take_add]
/-- Pieces that are left are pieces that were sent. -/
theorem Side.sub {x : F} {i i' m : Nat} {h h' : List Ky} (S : Side x i h i' h' m) {k : Ky} (hk : k ∈ x.ks) : k ∈ h := by
  obtain ⟨a, _, h2, _⟩ := S.q
  rw [h2] at hk
  exact List.mem_of_mem_drop hk
/-- What moves nothing new keeps the side. -/
theorem Side.mv {x y : F} {i i' m m2 : Nat} {h h' : List Ky} (S : Side x i h i' h' m) (M : Mv x y) (hm : m ≤ m2) (hl : m2 ≤ h'.length) (rc : y.st ≠ 1 → y.st ≠ 11 → 1 ≤ m2 ∧ y.rcv = on i' (tot (h'.take m2) : Int)) (r1 : y.st = 1 → m2 = 0) (hd : y.st = 11 → y.os = x.os) : Side y i h i' h' m2 := by
  obtain ⟨a, ha, hk, hb⟩ := S.q
  obtain ⟨c, hc, hk2, hb2⟩ := M.q
  have h3 := suffix_drop (b0 := 0) ha hk hb hc
  refine ⟨by rw [M.en]; exact S.his, ⟨a + c, h3.1, by rw [hk2, h3.2.1], by rw [hb2, h3.2.2]⟩, hl, rc, r1, fun o ho => ?_⟩
  have old : ∀ o ∈ x.os, POk o i h i' h' m2 := fun o ho => (S.os o ho).mono (by rw [List.take_length]) (Nat.le_refl _) (by rw [List.take_length]) hm S.mle
  by_cases hy : y.st = 11
  · rw [hd hy] at ho
    exact old o ho
  · obtain ⟨l, hos, hl2⟩ := M.os
    rw [hos] at ho
    rcases List.mem_append.1 ho with ho | ho
    · exact old o ho
    · have T := hl2 o ho
      refine ⟨T.rst, ?_, fun hak => ?_⟩
      · rcases T.k with h1 | h1
        · exact .inl (S.sub h1)
        · exact .inr ⟨h.length, Nat.le_refl _, by rw [h1, S.his.en]⟩
      · obtain ⟨e1, e2⟩ := T.ack hak
        obtain ⟨e3, e4⟩ := rc e2 hy
        exact ⟨m2, e3, Nat.le_refl _, by rw [e1, e4]⟩
end Go.Proofs.Ytnpkmkjenlhkiaa

namespace Go.Proofs.Ytnpkmkjenlhkiaa
set_option linter.unusedVariables false
set_option linter.unusedSimpArgs false
set_option maxRecDepth 20000

theorem Side.blt {x : F} {i i' m : Nat} {h h' : List Ky} (S : Side x i h i' h' m) : x.b < 4294967296 := by
  obtain ⟨a, _, _, hb⟩ := S.q
  rw [hb]
  exact on_lt _ _
theorem Ky.len_nosyn {k : Ky} (h : k.syn = false) : k.len = k.ds.length + bn k.fin := by
  unfold Ky.len
  rw [h]
  show k.ds.length + 0 + bn k.fin = _
  omega
/-- A packet of the other side is heard. -/
theorem Side.hear {x : F} {i i' m m2 : Nat} {h h' : List Ky} {en' : Nat} (S : Side x i h i' h' m) (H' : Hist i' h' en') (o : Ou) (K : POk o i' h' i h m2) (t : Int) :
    ∃ m3, Side (x.hearO o t) i h i' h' m3 ∧ m ≤ m3 ∧ data (h'.take m3) = data (h'.take m) ++ (if x.heardO o t = true then o.k.ds else []) := by
  have hb := S.blt
  have M := Mv.hear x hb o.k.seq o.ack o.k.syn o.acks o.k.fin (o.k.ds.length + bn o.k.fin) t
  have C := hear_cases x hb o.k.seq o.ack o.k.syn o.acks o.k.fin (o.k.ds.length + bn o.k.fin) t
  unfold F.hearO F.heardO
  generalize x.hear o.k.seq o.ack o.k.syn o.acks o.k.fin (o.k.ds.length + bn o.k.fin) t = y at *
  generalize x.heard o.k.seq o.ack o.k.syn o.acks t = fr at *
  cases C with
  | same e f =>
    subst e f
    exact ⟨m, S, Nat.le_refl _, by simp⟩
  | answered h1 s k a r st f =>
    subst f
    have hm := S.r1 h1
    have hk : o.k ∈ h' := by
      rcases K.k with h2 | ⟨j, _, h2⟩
      · exact h2
      · rw [h2] at s
        cases s
    have h0 := H'.syn0 hk s
    have hlt := (List.getElem?_eq_some_iff.1 h0.1).1
    have hn := Hist.next (i := i') h0.1
    have hsq := H'.seq h0.1
    refine ⟨1, S.mv M (by omega) (by omega) (fun _ _ => ⟨Nat.le_refl _, ?_⟩) (fun e => by rw [st] at e; cases e) (fun e => by rw [st] at e; cases e), by omega, ?_⟩
    · rw [r, hn.1, ← hsq, h0.2.2]
      rfl
    · rw [hm, hn.2, h0.2.1]
      simp
  | other hx hy r f =>
    subst f
    have hrc := S.rc hx.1 hx.2
    exact ⟨m, S.mv M (Nat.le_refl _) S.mle (fun _ _ => ⟨hrc.1, by rw [r]; exact hrc.2⟩) (fun e => absurd e hy.1) (fun e => absurd e hy.2), Nat.le_refl _, by simp⟩
  | fresh hx hy s e r f =>
    subst f
    have hrc := S.rc hx.1 hx.2
    rw [if_pos rfl]
    rcases K.k with hk | ⟨j, hj, hk⟩
    · obtain ⟨j, hj⟩ := List.getElem?_of_mem hk
      have hjl := (List.getElem?_eq_some_iff.1 hj).1
      have hsq := H'.seq hj
      rw [e, hrc.2] at hsq
      have hjm : m = j := H'.inj S.mle (by omega) hsq
      subst hjm
      have hn := Hist.next (i := i') hj
      refine ⟨m + 1, S.mv M (by omega) (by omega) (fun _ _ => ⟨by omega, ?_⟩) (fun e => absurd e hy.1) (fun e => absurd e hy.2), by omega, hn.2⟩
      rw [r, hn.1, hrc.2, Ky.len_nosyn s]
    · have hds : o.k.ds = [] := by rw [hk]; rfl
      have hfi : o.k.fin = false := by rw [hk]; rfl
      refine ⟨m, S.mv M (Nat.le_refl _) S.mle (fun _ _ => ⟨hrc.1, ?_⟩) (fun e => absurd e hy.1) (fun e => absurd e hy.2), Nat.le_refl _, by rw [hds]; simp⟩
      rw [r, hds, hfi, ← hrc.2]
      refine on_zero ?_
      rw [hrc.2]
      exact on_lt _ _
theorem expire_live (x : F) (t : Int) : ((x.expire t).st = x.st ∧ (x.expire t).rcv = x.rcv) ∨ (x.expire t).st = 10 ∧ (x.expire t).rcv = x.rcv ∧ x.st = 9 ∨ (x.expire t).st = 11 ∧ (x.expire t).os = x.os := by
  unfold F.expire
  by_cases h0 : 0 < x.dw ∧ x.df + x.dw ≤ t
  · rw [if_pos h0]
    by_cases h1 : x.st = 9
    · rw [if_pos h1]; exact .inr (.inl ⟨rfl, rfl, h1⟩)
    · rw [if_neg h1]
      by_cases h2 : 4 < x.tries + 1
      · rw [if_pos h2]; exact .inr (.inr ⟨rfl, rfl⟩)
      · rw [if_neg h2]; exact .inl ⟨rfl, rfl⟩
  · rw [if_neg h0]; exact .inl ⟨rfl, rfl⟩
theorem expire_dead (x : F) (t : Int) (h : x.st = 11) (hw : x.dw = 0) : x.expire t = x := if_neg (by rw [hw]; rintro ⟨h, _⟩; exact absurd h (by decide))
/-- Time goes on. -/
theorem Side.expire {x : F} {i i' m : Nat} {h h' : List Ky} (S : Side x i h i' h' m) (t : Int) (hd : x.st = 11 → x.dw = 0) : Side (x.expire t) i h i' h' m := by
  by_cases h11 : x.st = 11
  · rw [expire_dead x t h11 (hd h11)]
    exact S
  have M := Mv.expire x S.blt t
  have C := expire_live x t
  generalize x.expire t = y at *
  rcases C with ⟨e1, e2⟩ | ⟨e1, e2, e3⟩ | ⟨e1, e2⟩
  · exact S.mv M (Nat.le_refl _) S.mle (fun a b => by rw [e1] at a; rw [e2]; exact S.rc a h11) (fun a => S.r1 (by rw [← e1]; exact a)) (fun a => absurd (e1 ▸ a) h11)
  · exact S.mv M (Nat.le_refl _) S.mle (fun a b => by rw [e2]; exact S.rc (by omega) h11) (fun a => by omega) (fun a => by omega)
  · exact S.mv M (Nat.le_refl _) S.mle (fun a b => absurd e1 b) (fun a => by omega) (fun _ => e2)
/-- What sending leaves as it was, and what it doesn't. -/
theorem send_same (x : F) (k : Ky) (t : Int) : (x.send k t).ks = x.ks ++ [k.at x.en] ∧ (x.send k t).en = on x.en (k.len : Int) ∧ (x.send k t).b = x.b ∧ (x.send k t).rcv = x.rcv ∧ (x.send k t).st = x.st ∧ (x.send k t).os = x.os ++ [⟨k.at x.en, x.rcv, decide (x.st ≠ 1), false⟩] := by
  unfold F.send
  dsimp only
  by_cases h : x.ks = []
  · rw [if_pos h]
    split <;> exact ⟨rfl, rfl, rfl, rfl, rfl, rfl⟩
  · rw [if_neg h]
    split <;> exact ⟨rfl, rfl, rfl, rfl, rfl, rfl⟩
/-- One more piece, that is no Syn. -/
theorem Hist.snoc {i : Nat} {h : List Ky} {en : Nat} (H : Hist i h en) {k : Ky} (hn : h ≠ []) (hk : 0 < k.len ∧ k.ds.length ≤ 12) (hs : k.syn = false) (hb : tot h + k.len ≤ 2147483648) : Hist i (h ++ [k.at en]) (on en (k.len : Int)) := by
  refine ⟨H.lt, H.ch.snoc (k.at en) rfl, fun x hx => ?_, fun k0 r e => ?_, by rw [tot_append]; show tot h + (k.len + 0) ≤ _; omega⟩
  · rcases List.mem_append.1 hx with hx | hx
    · exact H.pos x hx
    · simp at hx
      subst hx
      exact hk
  · cases h with
    | nil => exact absurd rfl hn
    | cons k1 r1 =>
      rw [List.cons_append] at e
      injection e with e1 e2
      subst e1 e2
      have h1 := H.syn k1 r1 rfl
      refine ⟨h1.1, h1.2.1, h1.2.2.1, fun x hx => ?_⟩
      rcases List.mem_append.1 hx with hx | hx
      · exact h1.2.2.2 x hx
      · simp at hx
        subst hx
        exact hs
/-- A side sends a piece. -/
theorem Side.send {x : F} {i i' m : Nat} {h h' : List Ky} (S : Side x i h i' h' m) (k : Ky) (t : Int) (hl : Live x.st) (hn : h ≠ []) (hk : 0 < k.len ∧ k.ds.length ≤ 12) (hs : k.syn = false) (hb : tot h + k.len ≤ 2147483648) : Side (x.send k t) i (h ++ [k.at x.en]) i' h' m := by
  obtain ⟨s1, s2, s3, s4, s5, s6⟩ := send_same x k t
  generalize x.send k t = y at *
  have hrc := S.rc hl.1 hl.2
  obtain ⟨a, ha, hks, hbb⟩ := S.q
  refine ⟨by rw [s2]; exact S.his.snoc hn hk hs hb, ⟨a, by rw [List.length_append]; omega, by rw [s1, hks, List.drop_append_of_le_length ha], by rw [s3, hbb, List.take_append_of_le_length ha]⟩, S.mle, fun e1 e2 => ⟨hrc.1, by rw [s4]; exact hrc.2⟩, fun e => absurd (s5 ▸ e) hl.1, fun o ho => ?_⟩
  rw [s6] at ho
  rcases List.mem_append.1 ho with ho | ho
  · exact (S.os o ho).mono (take_self_append _ _) (by rw [List.length_append]; omega) (by rw [List.take_length]) (Nat.le_refl _) S.mle
  · simp at ho
    subst ho
    exact ⟨rfl, .inl (by simp), fun _ => ⟨m, hrc.1, Nat.le_refl _, hrc.2⟩⟩
/-- The other side has sent more. -/
theorem Side.grow {x : F} {i i' m : Nat} {h h' h2 : List Ky} (S : Side x i h i' h' m) (e : h2.take h'.length = h') (el : h'.length ≤ h2.length) : Side x i h i' h2 m := by
  have hsub : ∀ j, j ≤ h'.length → h2.take j = h'.take j := fun j hj => by
    rw [← e, List.take_take, Nat.min_eq_left hj]
  exact ⟨S.his, S.q, Nat.le_trans S.mle el, fun a b => by have := S.rc a b; exact ⟨this.1, by rw [hsub m S.mle]; exact this.2⟩, S.r1, fun o ho => (S.os o ho).mono (by rw [List.take_length]) (Nat.le_refl _) e (Nat.le_refl _) S.mle⟩
theorem Side.quiet {x : F} {i i' m : Nat} {h h' : List Ky} (S : Side x i h i' h' m) : Side x.quiet i h i' h' m := ⟨S.his, S.q, S.mle, S.rc, S.r1, fun o ho => by cases ho⟩
end Go.Proofs.Ytnpkmkjenlhkiaa

namespace Go.Proofs.Ytnpkmkjenlhkiaa
set_option linter.unusedVariables false
set_option linter.unusedSimpArgs false
set_option maxRecDepth 20000

/-- Within so many steps: what each side sent, what came of it. -/
structure Inv (i : Nat) (n : Nat) (p : P) (h0 h1 : List Ky) (m0 m1 : Nat) : Prop where
  a : Side p.f0 i h0 9000 h1 m0
  b : ∀ f, p.f1 = some f → Side f 9000 h1 i h0 m1
  no : p.f1 = none → h1 = [] ∧ m1 = 0
  ml : m1 ≤ h0.length
  way : ∀ k ∈ p.way, k.to ≤ 1 ∧ (k.to = 1 → POk k.o i h0 9000 h1 m0) ∧ (k.to = 0 → POk k.o 9000 h1 i h0 m1)
  s0 : p.s0 = data h0
  s1 : p.s1 = data h1
  c0 : p.c0 = data (h1.take m0)
  c1 : p.c1 = data (h0.take m1)
  l0 : h0 ≠ [] ∧ h0.length ≤ n + 1 ∧ tot h0 ≤ 20 * (n + 1)
  l1 : h1.length ≤ n + 1 ∧ tot h1 ≤ 20 * (n + 1)
  f1 : ∀ f, p.f1 = some f → h1 ≠ []
  dd : (p.f0.st = 11 → p.f0.dw = 0) ∧ ∀ f, p.f1 = some f → f.st = 11 → f.dw = 0
theorem data_prefix (h : List Ky) (m : Nat) : data (h.take m) <+: data h := by
  refine ⟨data (h.drop m), ?_⟩
  rw [← data_append, List.take_append_drop]
theorem Inv.pair {i n : Nat} {p : P} {h0 h1 : List Ky} {m0 m1 : Nat} (I : Inv i n p h0 h1 m0 m1) : p.c1 <+: p.s0 ∧ p.c0 <+: p.s1 := by
  rw [I.c1, I.s0, I.c0, I.s1]
  exact ⟨data_prefix _ _, data_prefix _ _⟩
theorem addw_mem {k : Nat} {w : List Pk} {os : List Ou} {x : Pk} (h : x ∈ addw k w os) : x ∈ w ∨ ∃ o ∈ os, x = ⟨k, o⟩ := by
  unfold addw at h
  rcases List.mem_append.1 h with h | h
  · exact .inl h
  · obtain ⟨o, ho, e⟩ := List.mem_map.1 (List.mem_of_mem_take h)
    exact .inr ⟨o, ho, e.symm⟩
theorem Inv.flush {i n : Nat} {p : P} {h0 h1 : List Ky} {m0 m1 : Nat} (I : Inv i n p h0 h1 m0 m1) : Inv i n p.flush h0 h1 m0 m1 := by
  refine ⟨I.a.quiet, fun f hf => ?_, fun hf => ?_, I.ml, fun k hk => ?_, I.s0, I.s1, I.c0, I.c1, I.l0, I.l1, fun f hf => ?_, I.dd.1, fun f hf => ?_⟩
  · have hf : p.f1.map F.quiet = some f := hf
    obtain ⟨g, hg, rfl⟩ := Option.map_eq_some_iff.1 hf
    exact (I.b g hg).quiet
  · have hf : p.f1.map F.quiet = none := hf
    exact I.no (Option.map_eq_none_iff.1 hf)
  · have hk : k ∈ addw 0 (addw 1 p.way p.f0.os) (outs p.f1) := hk
    rcases addw_mem hk with hk | ⟨o, ho, rfl⟩
    · rcases addw_mem hk with hk | ⟨o, ho, rfl⟩
      · exact I.way k hk
      · exact ⟨Nat.le_refl _, fun _ => I.a.os o ho, fun e => by cases e⟩
    · refine ⟨Nat.zero_le _, (fun e => by cases e), fun _ => ?_⟩
      cases hf : p.f1 with
      | none => rw [hf] at ho; cases ho
      | some f => rw [hf] at ho; exact (I.b f hf).os o ho
  · have hf : p.f1.map F.quiet = some f := hf
    obtain ⟨g, hg, rfl⟩ := Option.map_eq_some_iff.1 hf
    exact I.f1 g hg
  · have hf : p.f1.map F.quiet = some f := hf
    obtain ⟨g, hg, rfl⟩ := Option.map_eq_some_iff.1 hf
    exact I.dd.2 g hg
/-- Without a deadline when dead: that stays so. -/
theorem dd_hear (x : F) (hb : x.b < 4294967296) (h : x.st = 11 → x.dw = 0) (o : Ou) (t : Int) : (x.hearO o t).st = 11 → (x.hearO o t).dw = 0 := by
  have C := hear_cases x hb o.k.seq o.ack o.k.syn o.acks o.k.fin (o.k.ds.length + bn o.k.fin) t
  unfold F.hearO
  generalize x.hear o.k.seq o.ack o.k.syn o.acks o.k.fin (o.k.ds.length + bn o.k.fin) t = y at *
  cases C with
  | same e f => subst e; exact h
  | answered h1 s k a r st f => intro e; rw [st] at e; cases e
  | other hx hy r f => exact fun e => absurd e hy.2
  | fresh hx hy s e r f => exact fun e => absurd e hy.2
theorem dd_expire (x : F) (h : x.st = 11 → x.dw = 0) (t : Int) : (x.expire t).st = 11 → (x.expire t).dw = 0 := by
  unfold F.expire
  by_cases h0 : 0 < x.dw ∧ x.df + x.dw ≤ t
  · rw [if_pos h0]
    by_cases h1 : x.st = 9
    · rw [if_pos h1]; intro e; cases e
    · rw [if_neg h1]
      by_cases h2 : 4 < x.tries + 1
      · rw [if_pos h2]; intro _; rfl
      · rw [if_neg h2]
        intro e
        have := h e
        omega
  · rw [if_neg h0]; exact h
/-- A packet comes. -/
theorem Inv.comes {i n : Nat} {p : P} {h0 h1 : List Ky} {m0 m1 : Nat} (I : Inv i n p h0 h1 m0 m1) (k : Pk) (hk : k.to ≤ 1 ∧ (k.to = 1 → POk k.o i h0 9000 h1 m0) ∧ (k.to = 0 → POk k.o 9000 h1 i h0 m1)) :
    ∃ h1' m0' m1', Inv i n (p.comes k) h0 h1' m0' m1' := by
  unfold P.comes
  by_cases h1k : k.to = 1
  · rw [if_pos h1k]
    have K := hk.2.1 h1k
    cases hf : p.f1 with
    | none =>
      dsimp only
      by_cases hs : k.o.k.syn = true ∧ k.o.acks = false ∧ k.o.rst = false
      · rw [if_pos hs]
        obtain ⟨e1, e2⟩ := I.no hf
        subst e1 e2
        have hm0 : m0 = 0 := by have := I.a.mle; simpa using this
        have hin : k.o.k ∈ h0 := by
          rcases K.k with h2 | ⟨j, _, h2⟩
          · exact h2
          · rw [h2] at hs
            cases hs.1
        have h0s := I.a.his.syn0 hin hs.1
        have hlt := (List.getElem?_eq_some_iff.1 h0s.1).1
        have hn := Hist.next (i := i) h0s.1
        have hsq := I.a.his.seq h0s.1
        have hH : Hist 9000 [sK.at 9000] (on 9000 1) := ⟨by decide, ⟨rfl, rfl⟩, (fun x hx => by
          simp at hx
          subst hx
          exact ⟨by decide, by decide⟩), (fun x r e => by
          injection e with e1 e2
          subst e1 e2
          exact ⟨rfl, rfl, rfl, fun x hx => by cases hx⟩), by decide⟩
        have hrcv : on k.o.k.seq 1 = on i (tot (h0.take 1) : Int) := by
          rw [hn.1, ← hsq, h0s.2.2]
          rfl
        have hSb : Side (F.answer 9000 k.o.k.seq p.t) 9000 [sK.at 9000] i h0 1 := by
          rw [answer_eq]
          refine ⟨hH, ⟨0, Nat.zero_le _, rfl, rfl⟩, by omega, fun _ _ => ⟨Nat.le_refl _, hrcv⟩, (fun e => by cases e), fun o ho => ?_⟩
          simp at ho
          subst ho
          exact ⟨rfl, .inl (by simp), fun _ => ⟨1, Nat.le_refl _, Nat.le_refl _, hrcv⟩⟩
        refine ⟨[sK.at 9000], m0, 1, I.a.grow rfl (Nat.zero_le _), (fun f e => by injection e with e; subst e; exact hSb), (fun e => by cases e), by omega, fun x hx => ?_, I.s0, by rw [I.s1]; rfl, by rw [I.c0, hm0]; rfl, ?_, I.l0, ⟨by simp, by show tot [sK.at 9000] ≤ _; simp [tot, sK, Ky.at, Ky.len, bn]; omega⟩, (fun f e => by simp), I.dd.1, fun f e hd => ?_⟩
        · have := I.way x hx
          refine ⟨this.1, fun e => (this.2.1 e).mono (by rw [List.take_length]) (Nat.le_refl _) rfl (Nat.le_refl _) I.a.mle, fun e => (this.2.2 e).mono rfl (Nat.zero_le _) (by rw [List.take_length]) (Nat.zero_le _) (Nat.zero_le _)⟩
        · rw [I.c1, hn.2, h0s.2.1]
          simp
        · injection e with e
          subst e
          rw [answer_eq] at hd
          cases hd
      · rw [if_neg hs]
        exact ⟨h1, m0, m1, I⟩
    | some f =>
      dsimp only
      obtain ⟨m3, S, hm, hd⟩ := (I.b f hf).hear I.a.his k.o K p.t
      refine ⟨h1, m0, m3, I.a, (fun g e => by injection e with e; subst e; exact S), (fun e => by cases e), S.mle, fun x hx => ?_, I.s0, I.s1, I.c0, ?_, I.l0, I.l1, (fun g e => I.f1 f hf), I.dd.1, fun g e => ?_⟩
      · have := I.way x hx
        exact ⟨this.1, this.2.1, fun e => (this.2.2 e).mono (by rw [List.take_length]) (Nat.le_refl _) (by rw [List.take_length]) hm I.ml⟩
      · show p.c1 ++ _ = _
        rw [hd, I.c1]
      · injection e with e
        subst e
        exact dd_hear f (I.b f hf).blt (I.dd.2 f hf) k.o p.t
  · rw [if_neg h1k]
    have K := hk.2.2 (by omega)
    cases hf : p.f1 with
    | none =>
      -- nothing comes of a flow that is not there
      obtain ⟨e1, e2⟩ := I.no hf
      subst e1
      have hm0 : m0 = 0 := by have := I.a.mle; simpa using this
      have hH : Hist 9000 [] 9000 := ⟨by decide, rfl, (fun x hx => by cases hx), (fun x r e => by cases e), by decide⟩
      obtain ⟨m3, S, hm, hd⟩ := I.a.hear hH k.o K p.t
      have hm3 : m3 = 0 := by have := S.mle; simpa using this
      refine ⟨[], m3, m1, S, (fun g e => by cases e), fun _ => ⟨rfl, e2⟩, I.ml, fun x hx => ?_, I.s0, I.s1, ?_, I.c1, I.l0, I.l1, (fun g e => by cases e), ⟨dd_hear _ I.a.blt I.dd.1 k.o p.t, fun g e => by cases e⟩⟩
      · have := I.way x hx
        exact ⟨this.1, fun e => (this.2.1 e).mono (by rw [List.take_length]) (Nat.le_refl _) rfl hm I.a.mle, this.2.2⟩
      · show p.c0 ++ _ = _
        rw [hd, I.c0]
    | some f =>
      have Sb := I.b f hf
      obtain ⟨m3, S, hm, hd⟩ := I.a.hear Sb.his k.o K p.t
      refine ⟨h1, m3, m1, S, fun g e => I.b g (hf.trans e), (fun e => by cases e), I.ml, fun x hx => ?_, I.s0, I.s1, ?_, I.c1, I.l0, I.l1, fun g e => I.f1 g (hf.trans e), ⟨dd_hear _ I.a.blt I.dd.1 k.o p.t, fun g e => I.dd.2 g (hf.trans e)⟩⟩
      · have := I.way x hx
        exact ⟨this.1, fun e => (this.2.1 e).mono (by rw [List.take_length]) (Nat.le_refl _) (by rw [List.take_length]) hm I.a.mle, this.2.2⟩
      · show p.c0 ++ _ = _
        rw [hd, I.c0]
end Go.Proofs.Ytnpkmkjenlhkiaa

/- One side of a pair hears: data. No condition.
One side of a pair hears a packet of the other one. No condition.
One side of a pair: time, what it sends. No condition. -/
import Derived.Test.YtnpkmkjenlhkiaaMg29
namespace Go.Proofs.Ytnpkmkjenlhkiaa
set_option linter.unusedVariables false
set_option linter.unusedSimpArgs false
set_option maxRecDepth 20000

/-- What a packet brings: a piece, or nothing. -/
def Bring (h' : List Ky) (j ln : Nat) (fin : Bool) (ds : List UInt8) : Prop := (∃ k, h'[j]? = some k ∧ k.syn = false ∧ ln = k.len ∧ fin = k.fin ∧ ds = k.ds) ∨ (ln = 0 ∧ fin = false ∧ ds = [] ∧ j ≤ h'.length)
section
variable {op i i' m a mo : Nat} {h h' : List Ky} {x : F}
theorem bf_takes {en' : Nat} (H' : Hist i' h' en') (hsm : tot h' < 2147483648) {j m : Nat} (hj : j ≤ h'.length) (hm : m ≤ h'.length) : bf (on i' (tot (h'.take j) : Int)) (on i' (tot (h'.take m) : Int)) = decide (j < m) := by
  have h1 := tot_take_le h' j
  have h2 := tot_take_le h' m
  have h3 := st_on_on (i := i') (A := tot (h'.take j)) (R := tot (h'.take m)) (by omega) (by omega)
  unfold bf
  by_cases hjm : j < m
  · have h4 := tot_take_lt (fun k hk => (H'.pos k hk).1) hjm (by omega)
    rw [h3.1 (by omega), decide_eq_true hjm, decide_eq_true]
    omega
  · have h4 := tot_take_mono h' (show m ≤ j by omega)
    rw [decide_eq_false hjm, decide_eq_false]
    rintro ⟨h5, h6⟩
    rcases Nat.lt_or_ge (tot (h'.take m)) (tot (h'.take j)) with h7 | h7
    · rw [h3.2 h7] at h6
      omega
    · rw [h3.1 h7] at h5
      omega
theorem finc_sum (y : F) (t : Int) : (y.finc t).tries = y.tries ∧ (y.finc t).E = y.E := by
  unfold F.finc
  split
  · exact ⟨rfl, rfl⟩
  · split
    · exact ⟨rfl, rfl⟩
    · split <;> exact ⟨rfl, rfl⟩
theorem takes_sum (z : F) (q ln : Nat) (fin : Bool) (t : Int) : (z.takes q ln fin t).tries = z.tries ∧ (z.takes q ln fin t).E = z.E ∧ (z.takes q ln fin t).st = (if z.isFresh q ∧ fin = true then finS z.st else z.st) ∧ (z.takes q ln fin t).dw = (if z.isFresh q ∧ fin = true ∧ z.st = 5 then 8 else z.dw) := by
  unfold F.takes
  by_cases h1 : z.isFresh q
  · rw [if_pos h1]
    by_cases h2 : fin = true
    · rw [if_pos h2, if_pos ⟨h1, h2⟩]
      have S1 := finc_sum (z.rcvd (on z.rcv (ln : Int))) t
      have S2 := finc_S (z.rcvd (on z.rcv (ln : Int))) t
      refine ⟨S1.1, S1.2, S2.1, S2.2.trans ?_⟩
      show (if z.st = 5 then (8 : Int) else z.dw) = _
      by_cases h5 : z.st = 5
      · rw [if_pos h5, if_pos ⟨h1, h2, h5⟩]
      · rw [if_neg h5, if_neg (fun e => h5 e.2.2)]
    · rw [if_neg h2, if_neg (fun e => h2 e.2), if_neg (fun e => h2 e.2.1)]
      exact ⟨rfl, rfl, rfl, rfl⟩
  · rw [if_neg h1, if_neg (fun e => h1 e.1), if_neg (fun e => h1 e.1)]
    exact ⟨rfl, rfl, rfl, rfl⟩
/-- Data that come to a side. -/
theorem Sd.hdata {z : F} {en' : Nat} (D : Sd op z i h i' h' m a mo) (H' : Hist i' h' en') (hfl : FinLast h') (hsm : tot h' < 2147483648) (h39 : 3 ≤ z.st ∧ z.st ≤ 9) (j ln : Nat) (fin : Bool) (ds : List UInt8) (hB : Bring h' j ln fin ds) (t : Int) :
    ∃ m', Sd op (z.hdata (on i' (tot (h'.take j) : Int)) ln fin t) i h i' h' m' a mo ∧ m ≤ m' ∧ (0 < ln → j ≤ m → j + 1 ≤ m') ∧ (z.hdata (on i' (tot (h'.take j) : Int)) ln fin t).en = z.en
      ∧ (z.hdata (on i' (tot (h'.take j) : Int)) ln fin t).os = z.os ++ (if 0 < ln ∨ j < m then [⟨tK z.en, on i' (tot (h'.take m') : Int), true, false⟩] else [])
      ∧ data (h'.take m') = data (h'.take m) ++ (if z.isFresh (on i' (tot (h'.take j) : Int)) then ds else []) ∧ 1 ≤ m'
      ∧ 3 ≤ (z.hdata (on i' (tot (h'.take j) : Int)) ln fin t).st ∧ (z.hdata (on i' (tot (h'.take j) : Int)) ln fin t).st ≤ 9 := by
  obtain ⟨hm1, hrc⟩ := D.S.rc (by omega) (by omega)
  have hml := D.S.mle
  have hjl : j ≤ h'.length := by
    rcases hB with ⟨k, hk, _⟩ | ⟨_, _, _, h9⟩
    · have := (List.getElem?_eq_some_iff.1 hk).1; omega
    · exact h9
  have hbf := bf_takes H' hsm hjl hml
  rw [← hrc] at hbf
  obtain ⟨q, hq⟩ : ∃ q, q = on i' (tot (h'.take j) : Int) := ⟨_, rfl⟩
  rw [← hq] at hbf ⊢
  have hqm : q = z.rcv ↔ j = m := by
    rw [hq, hrc]
    exact ⟨fun e => H'.inj hjl hml e, fun e => by rw [e]⟩
  have T1 := takes_same z q ln fin t
  have T2 := takes_rcv z q ln fin t
  have T3 := takes_sum z q ln fin t
  have T4 := takes_st z q ln fin t h39
  have har := D.ar
  have fle := fn_le h'
  -- what is told
  have tell : ∀ (w : F), (if 0 < ln ∨ bf q z.rcv = true then w.tell (tK z.en) else w) = (if 0 < ln ∨ j < m then w.tell (tK z.en) else w) := fun w => by
    rw [hbf]
    by_cases h9 : 0 < ln ∨ j < m
    · rw [if_pos h9, if_pos (by rcases h9 with h9 | h9; exact .inl h9; exact .inr (decide_eq_true h9))]
    · rw [if_neg h9, if_neg (fun e => h9 (by rcases e with e | e; exact .inl e; exact .inr (of_decide_eq_true e)))]
  have hd : z.hdata q ln fin t = (if 0 < ln ∨ j < m then (z.takes q ln fin t).tell (tK z.en) else z.takes q ln fin t) := tell (z.takes q ln fin t)
  -- all of it, given what came
  have mk : ∀ m', m ≤ m' → m' ≤ h'.length → (z.takes q ln fin t).rcv = on i' (tot (h'.take m') : Int) → Ar op (z.takes q ln fin t).st a m' h.length h'.length (fn h) (fn h') (z.takes q ln fin t).tries (z.takes q ln fin t).dw → (0 < ln → j ≤ m → j + 1 ≤ m') → data (h'.take m') = data (h'.take m) ++ (if z.isFresh q then ds else []) →
      ∃ m', Sd op (z.hdata q ln fin t) i h i' h' m' a mo ∧ m ≤ m' ∧ (0 < ln → j ≤ m → j + 1 ≤ m') ∧ (z.hdata q ln fin t).en = z.en ∧ (z.hdata q ln fin t).os = z.os ++ (if 0 < ln ∨ j < m then [⟨tK z.en, on i' (tot (h'.take m') : Int), true, false⟩] else []) ∧ data (h'.take m') = data (h'.take m) ++ (if z.isFresh q then ds else []) ∧ 1 ≤ m' ∧ 3 ≤ (z.hdata q ln fin t).st ∧ (z.hdata q ln fin t).st ≤ 9 := fun m' h1 h2 h3 h4 h5 h6 => by
    rw [hd]
    obtain ⟨w, hw⟩ : ∃ w, w = z.takes q ln fin t := ⟨_, rfl⟩
    rw [← hw] at T1 T2 T3 T4 h3 h4 ⊢
    have sd : ∀ u : F, u.en = w.en → u.ks = w.ks → u.b = w.b → u.st = w.st → u.rcv = w.rcv → u.E = w.E → u.tries = w.tries → u.dw = w.dw → (∀ o ∈ u.os, POk o i h i' h' m') → Sd op u i h i' h' m' a mo := fun u e1 e2 e3 e4 e5 e6 e7 e8 e9 =>
      ⟨⟨by rw [e1, T1.2.2.1]; exact D.S.his, ⟨a, D.al, by rw [e2, T1.2.1, D.ks], by rw [e3, T1.1, D.b]⟩, h2, fun _ _ => ⟨by omega, by rw [e5, h3]⟩, fun e => by rw [e4] at e; omega, e9⟩, D.al, by rw [e2, T1.2.1, D.ks], by rw [e3, T1.1, D.b], D.am, D.mo, D.fl, by rw [e6, T3.2.1]; exact D.E, by rw [e4, e7, e8]; exact h4⟩
    have old : ∀ o ∈ z.os, POk o i h i' h' m' := fun o ho => (D.S.os o ho).mono (by rw [List.take_length]) (Nat.le_refl _) (by rw [List.take_length]) h1 hml
    by_cases h9 : 0 < ln ∨ j < m
    · rw [if_pos h9]
      have hst1 : w.st ≠ 1 := by omega
      refine ⟨m', sd _ rfl rfl rfl rfl rfl rfl rfl rfl (fun o ho => ?_), h1, h5, T1.2.2.1, ?_, h6, by omega, T4.1, T4.2⟩
      · have ho : o ∈ w.os ++ [⟨tK z.en, w.rcv, decide (w.st ≠ 1), false⟩] := ho
        rw [T1.2.2.2] at ho
        rcases List.mem_append.1 ho with ho | ho
        · exact old o ho
        · simp only [List.mem_singleton] at ho
          subst ho
          exact ⟨rfl, .inr ⟨h.length, Nat.le_refl _, by rw [D.S.his.en]⟩, fun _ => ⟨m', by omega, Nat.le_refl _, h3⟩⟩
      · show w.os ++ [(⟨tK z.en, w.rcv, decide (w.st ≠ 1), false⟩ : Ou)] = _
        rw [T1.2.2.2, h3, decide_eq_true hst1, if_pos h9]
    · rw [if_neg h9]
      exact ⟨m', sd _ rfl rfl rfl rfl rfl rfl rfl rfl (fun o ho => old o (by rw [← T1.2.2.2]; exact ho)), h1, h5, T1.2.2.1, by rw [if_neg h9, List.append_nil]; exact T1.2.2.2, h6, by omega, T4.1, T4.2⟩
  by_cases hf : z.isFresh q
  · have hjm := hqm.1 hf.1
    rw [if_pos hf] at T2
    rcases hB with ⟨k, hk, hsy, hln, hfin, hds⟩ | ⟨hln, hfin, hds, _⟩
    · subst hjm
      have hn := Hist.next (i := i') hk
      have hjl2 := (List.getElem?_eq_some_iff.1 hk).1
      refine mk (j + 1) (by omega) (by omega) ?_ ?_ (fun _ _ => Nat.le_refl _) ?_
      · rw [T2, hrc, hn.1, hln]
      · rw [T3.1, T3.2.2.1, T3.2.2.2]
        by_cases hfk : k.fin = true
        · have e1 := hfl _ _ hk hfk
          have e2 := fn_yes (List.mem_of_getElem? hk) hfk
          rw [hfin, if_pos ⟨hf, hfk⟩]
          unfold Ar at har ⊢
          rcases hf.2 with e | e | e
          · rw [e] at har ⊢
            rw [show finS 3 = 6 from rfl, if_neg (by rintro ⟨_, _, h⟩; omega)]
            omega
          · rw [e] at har ⊢
            rw [show finS 4 = 7 from rfl, if_neg (by rintro ⟨_, _, h⟩; omega)]
            omega
          · rw [show finS z.st = 9 by rw [e]; rfl, if_pos ⟨hf, hfk, e⟩]
            rw [e] at har
            omega
        · rw [hfin, if_neg (fun e => hfk e.2), if_neg (fun e => hfk e.2.1)]
          unfold Ar at har ⊢
          have := hf.2
          omega
      · rw [if_pos hf, hn.2, hds]
    · refine mk m (Nat.le_refl _) hml ?_ ?_ (fun e => absurd e (by omega)) (by rw [if_pos hf, hds, List.append_nil])
      · rw [T2, hln, ← hrc]
        exact on_zero (by rw [hrc]; exact on_lt _ _)
      · rw [T3.1, T3.2.2.1, T3.2.2.2, hfin, if_neg (by rintro ⟨_, h⟩; cases h), if_neg (by rintro ⟨_, h, _⟩; cases h)]
        exact har
  · rw [if_neg hf] at T2
    refine mk m (Nat.le_refl _) hml (T2.trans hrc) ?_ (fun hln hjm => ?_) (by rw [if_neg hf, List.append_nil])
    · rw [T3.1, T3.2.2.1, T3.2.2.2, if_neg (fun e => hf e.1), if_neg (fun e => hf e.1)]
      exact har
    · rcases Nat.lt_or_ge j m with h9 | h9
      · exact h9
      · obtain rfl : j = m := by omega
        rcases hB with ⟨k, hk, _⟩ | ⟨h9, _⟩
        · have hjl2 := (List.getElem?_eq_some_iff.1 hk).1
          have : ¬ (z.st = 3 ∨ z.st = 4 ∨ z.st = 5) := fun e => hf ⟨hqm.2 rfl, e⟩
          unfold Ar at har
          omega
        · omega
end
end Go.Proofs.Ytnpkmkjenlhkiaa

namespace Go.Proofs.Ytnpkmkjenlhkiaa
set_option linter.unusedVariables false
set_option linter.unusedSimpArgs false
set_option maxRecDepth 20000

/-- How a side that begins so tells what came. -/
def Pq (op : Nat) (o : Ou) : Prop := (o.acks = true ∨ o.k.syn = true) ∧ (o.k.syn = true → (o.acks = true ↔ op = 2))
/-- What a side answers: nothing, or what came; or its Syn once more. -/
structure Ans (op : Nat) (x : F) (h : List Ky) (i' : Nat) (h' : List Ky) (m3 : Nat) (o o2 : Ou) : Prop where
  rst : o2.rst = false
  acks : o2.acks = true
  ack : o2.ack = on i' (tot (h'.take m3) : Int)
  m1 : 1 ≤ m3
  k : (o2.k = tK x.en ∧ x.st ≠ 1) ∨ (o2.k = tK x.en ∧ x.st = 1) ∨ (o2.k.syn = true ∧ o2.k ∈ h ∧ x.st = 2 ∧ o.acks = false ∧ o.k.syn = true)
theorem Ans.pok {op : Nat} {x : F} {i : Nat} {h : List Ky} {i' : Nat} {h' : List Ky} {m3 : Nat} {o o2 : Ou} (A : Ans op x h i' h' m3 o o2) (H : Hist i h x.en) : POk o2 i h i' h' m3 := by
  refine ⟨A.rst, ?_, fun _ => ⟨m3, A.m1, Nat.le_refl _, A.ack⟩⟩
  rcases A.k with ⟨e, _⟩ | ⟨e, _⟩ | ⟨_, e, _⟩
  · exact .inr ⟨h.length, Nat.le_refl _, by rw [e, H.en]⟩
  · exact .inr ⟨h.length, Nat.le_refl _, by rw [e, H.en]⟩
  · exact .inl e
theorem Ans.pq {op : Nat} {x : F} {h : List Ky} {i' : Nat} {h' : List Ky} {m3 : Nat} {o o2 : Ou} (A : Ans op x h i' h' m3 o o2) (ho : x.st = 2 → op = 2) : Pq op o2 := by
  refine ⟨.inl A.acks, fun hs => ⟨fun _ => ?_, fun _ => A.acks⟩⟩
  rcases A.k with ⟨e, _⟩ | ⟨e, _⟩ | ⟨_, _, e, _⟩
  · rw [e] at hs; cases hs
  · rw [e] at hs; cases hs
  · exact ho e
section
variable {op i i' m a mo : Nat} {h h' : List Ky} {x : F}
/-- What hearing comes to. -/
structure Hd (op : Nat) (x y : F) (fr : Bool) (i : Nat) (h : List Ky) (i' : Nat) (h' : List Ky) (m a mo : Nat) (o : Ou) (m3 a3 : Nat) (l : List Ou) : Prop where
  sd : Sd op y i h i' h' m3 a3 mo
  hm : m ≤ m3
  ha : a ≤ a3
  en : y.en = x.en
  os : y.os = x.os ++ l
  dt : data (h'.take m3) = data (h'.take m) ++ (if fr = true then o.k.ds else [])
  over : 10 ≤ x.st → y = x ∧ l = []
  ans : l = [] ∨ ∃ o2, l = [o2] ∧ Ans op x h i' h' m3 o o2
  /-- an acknowledgement counts -/
  p1 : o.acks = true → x.st < 10 → ∀ r, 1 ≤ r → r ≤ h.length → o.ack = on i (tot (h.take r) : Int) → (o.k.syn = true ↔ x.st = 1) → r ≤ a3
  /-- a piece that isn't ahead comes, and is answered -/
  p2 : y.st < 10 → ∀ j, h'[j]? = some o.k → j ≤ m → (x.st = 1 → h'.length = 1) → j + 1 ≤ m3 ∧ ∃ o2, l = [o2] ∧ (o2.k.syn = true ↔ j = 0 ∧ x.st = 2)
  /-- what only tells all isn't answered -/
  p3 : ∀ en', Hist i' h' en' → o.k.syn = false → o.k.ds.length + bn o.k.fin = 0 → o.k.seq = en' → l = []
theorem Sd.clt (D : Sd op x i h i' h' m a mo) : x.b < 4294967296 := D.S.blt
theorem hist_one {en' : Nat} (H' : Hist i' h' en') (h1 : 0 < h'.length) : ∃ k r, h' = k :: r ∧ k.syn = true ∧ k.seq = i' ∧ k.len = 1 ∧ tot (h'.take 1) = 1 ∧ k.ds = [] := by
  cases h' with
  | nil => simp at h1
  | cons k r =>
    have hs := H'.syn k r rfl
    have hl : k.len = 1 := by unfold Ky.len; rw [hs.1, hs.2.1, hs.2.2.1]; rfl
    have hq := H'.seq (j := 0) (k := k) rfl
    refine ⟨k, r, rfl, hs.1, by rw [hq]; exact on_zero H'.lt, hl, ?_, hs.2.1⟩
    show k.len + 0 = 1
    omega
theorem same_hd {op' : Nat} {fr : Bool} {o : Ou} (D : Sd op x i h i' h' m a mo) (hfr : fr = false) (h1 : o.acks = true → x.st < 10 → ∀ r, 1 ≤ r → r ≤ h.length → o.ack = on i (tot (h.take r) : Int) → (o.k.syn = true ↔ x.st = 1) → r ≤ a) (h2 : x.st < 10 → ∀ j, h'[j]? = some o.k → j ≤ m → (x.st = 1 → h'.length = 1) → False) : Hd op x x fr i h i' h' m a mo o m a [] :=
  ⟨D, Nat.le_refl _, Nat.le_refl _, rfl, (List.append_nil _).symm, by rw [hfr]; simp, fun _ => ⟨rfl, rfl⟩, .inl rfl, h1, fun a b c d e => (h2 a b c d e).elim, fun _ _ _ _ _ => rfl⟩
set_option maxHeartbeats 3200000 in
theorem Sd.hear {op' en' : Nat} (D : Sd op x i h i' h' m a mo) (hop : op + op' = 3) (H' : Hist i' h' en') (hfl : FinLast h') (hsm : tot h' < 2147483648) (o : Ou) (K : POk o i' h' i h mo) (Q : Pq op' o) (t : Int) :
    ∃ m3 a3 l, Hd op x (x.hearO o t) (x.heardO o t) i h i' h' m a mo o m3 a3 l := by
  have har := D.ar
  have hmo := D.mo
  have hs11 : x.st ≤ 11 := har.1.2
  have H := D.S.his
  unfold F.hearO F.heardO F.hear F.heard
  by_cases h0 : x.st = 10 ∨ x.st = 11
  · rw [if_pos h0, if_pos h0]
    exact ⟨m, a, [], same_hd (op' := op') D rfl (fun _ h9 => by omega) (fun h9 => by omega)⟩
  rw [if_neg h0, if_neg h0]
  have hsynk : o.k.syn = true → h'[0]? = some o.k ∧ ∃ k r, h' = k :: r ∧ o.k = k ∧ k.syn = true ∧ k.seq = i' ∧ k.len = 1 ∧ tot (h'.take 1) = 1 ∧ k.ds = [] := fun hs => by
    have hin : o.k ∈ h' := by
      rcases K.k with e | ⟨j, _, e⟩
      · exact e
      · rw [e] at hs; cases hs
    have h1 := H'.syn0 hin hs
    obtain ⟨k, r, e, e2⟩ := hist_one H' (List.getElem?_eq_some_iff.1 h1.1).1
    refine ⟨h1.1, k, r, e, ?_, e2⟩
    have := h1.1
    rw [e] at this
    injection this with this
    exact this.symm
  by_cases h1 : x.st = 1
  · -- who dialed waits for the answer
    rw [if_pos h1, if_pos h1]
    have hop1 : op = 1 := by unfold Ar at har; omega
    have hop2 : op' = 2 := by omega
    have ha0 : a = 0 := by unfold Ar at har; omega
    have hlh : h.length = 1 := by unfold Ar at har; omega
    have hm0 := D.S.r1 h1
    obtain ⟨k0, r0, eh, hk0, _, hk0l, ht1, _⟩ := hist_one H (by omega)
    have hen : x.en = on i (tot (h.take 1) : Int) := by have := H.en; rw [hlh] at this; exact this
    have hrr : ∀ r, 1 ≤ r → r ≤ h.length → o.ack = on i (tot (h.take r) : Int) → o.ack = x.en := fun r h2 h3 h4 => by
      obtain rfl : r = 1 := by omega
      rw [h4, hen]
    unfold F.hans
    by_cases hc : o.k.syn = true ∧ o.acks = true ∧ o.ack = x.en
    · rw [if_pos hc]
      obtain ⟨hj0, k, r, eh', ek, hks, hkq, hkl, htk, hkd⟩ := hsynk hc.1
      obtain ⟨rr, hr1, hr2, hr3⟩ := K.ack hc.2.1
      have hg : (x.rcvd (on o.k.seq 1)).gone o.ack = h := by
        show x.gone o.ack = h
        rw [hc.2.2, hen, D.gone (by omega), ha0]
        exact List.take_of_length_le (by rw [List.drop_zero]; omega)
      have hac : (x.rcvd (on o.k.seq 1)).acked o.ack t = (x.rcvd (on o.k.seq 1)).ackd 1 t := by
        rcases acked_ (x.rcvd (on o.k.seq 1)) o.ack t with ⟨e, _⟩ | ⟨_, e⟩
        · rw [hg] at e; rw [e] at hlh; cases hlh
        · rw [e, hg, hlh]
      have A := ackd_same (x.rcvd (on o.k.seq 1)) 1 t
      have A1 := ackd_sum (x.rcvd (on o.k.seq 1)) 1 t D.E
      have A2 := ackd_en (x.rcvd (on o.k.seq 1)) 1 t
      have A3 := ackd_os (x.rcvd (on o.k.seq 1)) 1 t
      obtain ⟨y, hy⟩ : ∃ y, y = (x.rcvd (on o.k.seq 1)).ackd 1 t := ⟨_, rfl⟩
      rw [← hy] at A A1 A2 A3 hac
      rw [hac]
      have hdk : (x.rcvd (on o.k.seq 1)).ks.drop 1 = [] := by
        show x.ks.drop 1 = []
        rw [D.ks, ha0, eh, show r0 = [] from by rw [eh] at hlh; simpa using hlh]
        rfl
      have yks : y.ks = h.drop 1 := by rw [A.1, hdk]; exact (List.drop_eq_nil_iff.2 (by omega)).symm
      have yb : y.b = on i (tot (h.take 1) : Int) := by
        rw [A.2.1]
        show on x.b (tot (x.ks.take 1) : Int) = _
        rw [D.b, D.ks, ha0, on_on]
        show on i ((0 + tot (h.take 1) : Nat) : Int) = _
        rw [Nat.zero_add]
      have yrc : y.rcv = on i' (tot (h'.take 1) : Int) := by
        rw [A.2.2.2.1]
        show on o.k.seq 1 = _
        rw [ek, hkq, htk]
        rfl
      have ydw : y.dw = 0 := A1.2.1 hdk
      have hll : 1 ≤ h'.length := by rw [eh']; simp
      refine ⟨1, 1, [⟨tK x.en, on i' (tot (h'.take 1) : Int), true, false⟩], ⟨⟨⟨by show Hist i h y.en; rw [A2]; exact H, ⟨1, by omega, yks, yb⟩, hll, fun _ _ => ⟨Nat.le_refl _, yrc⟩, (fun e => by cases e), fun o9 ho9 => ?_⟩, by omega, yks, yb, by omega, hmo, D.fl, A1.1, ?_⟩, by omega, by omega, A2, ?_, ?_, fun e => by omega, .inr ⟨_, rfl, ⟨rfl, rfl, rfl, Nat.le_refl _, .inr (.inl ⟨rfl, h1⟩)⟩⟩, fun _ _ r _ hr _ _ => by omega, fun _ j hj hjm _ => ⟨by omega, _, rfl, ?_⟩, fun en2 _ hs => ?_⟩⟩
      · have ho9 : o9 ∈ y.os ++ [⟨tK x.en, y.rcv, true, false⟩] := ho9
        rw [A3] at ho9
        rcases List.mem_append.1 ho9 with ho9 | ho9
        · exact (D.S.os o9 ho9).mono (by rw [List.take_length]) (Nat.le_refl _) (by rw [List.take_length]) (by omega) D.S.mle
        · simp only [List.mem_singleton] at ho9
          subst ho9
          exact ⟨rfl, .inr ⟨h.length, Nat.le_refl _, by rw [H.en]⟩, fun _ => ⟨1, Nat.le_refl _, Nat.le_refl _, yrc⟩⟩
      · show Ar op 3 1 1 h.length h'.length (fn h) (fn h') y.tries y.dw
        rw [ydw, A.2.2.2.2]
        unfold Ar at har ⊢
        omega
      · show y.os ++ [(⟨tK x.en, y.rcv, true, false⟩ : Ou)] = _
        rw [A3, yrc]
        rfl
      · rw [if_neg (by decide), List.append_nil, hm0, eh']
        show k.ds ++ [] = []
        rw [hkd]
        rfl
      · constructor
        · intro e; cases e
        · rintro ⟨_, e⟩; omega
      · rw [hc.1] at hs; cases hs
    · rw [if_neg hc]
      refine ⟨m, a, [], same_hd (op' := op') D rfl (fun hak _ r hr1 hr2 hr3 hsy => absurd ⟨hsy.2 h1, hak, hrr r hr1 hr2 hr3⟩ hc) (fun _ j hj hjm hl1 => ?_)⟩
      have hl1 := hl1 h1
      have hj0 : j = 0 := by omega
      subst hj0
      obtain ⟨k, r, e, hks, _⟩ := hist_one H' (by omega)
      have ek : o.k = k := by rw [e] at hj; injection hj with hj; exact hj.symm
      have hs : o.k.syn = true := by rw [ek]; exact hks
      have hak := (Q.2 hs).2 hop2
      obtain ⟨rr, hr1, hr2, hr3⟩ := K.ack hak
      exact hc ⟨hs, hak, hrr rr hr1 (by omega) hr3⟩
  rw [if_neg h1, if_neg h1]
  obtain ⟨hm1, hrc⟩ := D.S.rc h1 (by omega)
  have hml := D.S.mle
  by_cases hs : o.k.syn = true
  · -- a Syn once more
    rw [if_pos hs, if_pos hs]
    obtain ⟨hj0, k, r, eh', ek, hks, hkq, hkl, htk, hkd⟩ := hsynk hs
    have hpos : ∀ j, h'[j]? = some o.k → j = 0 := fun j hj => by
      rcases Nat.eq_zero_or_pos j with e | e
      · exact e
      · have := H'.pos1 hj e
        rw [hs] at this
        cases this
    have hq1 : m = 1 → o.k.seq = on x.rcv (-1) := fun e => by
      rw [hrc, e, htk, ek, hkq]
      have := H'.lt
      unfold on
      omega
    unfold F.hsyn
    by_cases hc : x.st = 2 ∧ o.acks = false ∧ o.k.seq = on x.rcv (-1)
    · rw [if_pos hc]
      have ha0 : a = 0 := by unfold Ar at har; omega
      have hlh : h.length = 1 := by unfold Ar at har; omega
      obtain ⟨k0, r0, eh, hk0, _⟩ := hist_one H (by omega)
      have hr0 : r0 = [] := by rw [eh] at hlh; simpa using hlh
      have hks0 : x.ks = [k0] := by rw [D.ks, ha0, eh, hr0]; rfl
      have hwt := wt_bd D.E
      have hst1 : x.st ≠ 1 := h1
      refine ⟨m, a, [⟨k0, on i' (tot (h'.take m) : Int), true, false⟩], ⟨⟨⟨H, ⟨a, D.al, D.ks, D.b⟩, hml, fun _ _ => ⟨hm1, hrc⟩, fun e => absurd e h1, fun o9 ho9 => ?_⟩, D.al, D.ks, D.b, D.am, hmo, D.fl, D.E, ?_⟩, Nat.le_refl _, Nat.le_refl _, rfl, ?_, by simp, fun e => by omega, .inr ⟨_, rfl, ⟨rfl, rfl, rfl, hm1, .inr (.inr ⟨hk0, by rw [eh]; exact List.mem_cons_self, hc.1, hc.2.1, hs⟩)⟩⟩, fun _ _ r9 _ _ _ hsy => absurd (hsy.1 hs) h1, fun _ j hj hjm _ => ⟨by have := hpos j hj; omega, _, rfl, ?_⟩, fun en2 _ hs9 => by rw [hs] at hs9; cases hs9⟩⟩
      · have ho9 : o9 ∈ x.os ++ x.ks.map fun k => ⟨k, x.rcv, decide (x.st ≠ 1), false⟩ := ho9
        rw [hks0] at ho9
        rcases List.mem_append.1 ho9 with ho9 | ho9
        · exact D.S.os o9 ho9
        · simp only [List.map_cons, List.map_nil, List.mem_singleton] at ho9
          subst ho9
          exact ⟨rfl, .inl (by rw [eh]; exact List.mem_cons_self), fun _ => ⟨m, hm1, Nat.le_refl _, hrc⟩⟩
      · show Ar op x.st a m h.length h'.length (fn h) (fn h') x.tries x.E.wt
        unfold Ar at har ⊢
        omega
      · show x.os ++ x.ks.map (fun k => (⟨k, x.rcv, decide (x.st ≠ 1), false⟩ : Ou)) = _
        rw [hks0, decide_eq_true hst1, ← hrc]
        rfl
      · constructor
        · intro _; exact ⟨hpos j hj, hc.1⟩
        · intro _; exact hk0
    · rw [if_neg hc]
      have hst1 : x.st ≠ 1 := h1
      refine ⟨m, a, [⟨tK x.en, on i' (tot (h'.take m) : Int), true, false⟩], ⟨⟨⟨H, ⟨a, D.al, D.ks, D.b⟩, hml, fun _ _ => ⟨hm1, hrc⟩, fun e => absurd e h1, fun o9 ho9 => ?_⟩, D.al, D.ks, D.b, D.am, hmo, D.fl, D.E, har⟩, Nat.le_refl _, Nat.le_refl _, rfl, ?_, by simp, fun e => by omega, .inr ⟨_, rfl, ⟨rfl, rfl, rfl, hm1, .inl ⟨rfl, h1⟩⟩⟩, fun _ _ r9 _ _ _ hsy => absurd (hsy.1 hs) h1, fun _ j hj hjm _ => ⟨by have := hpos j hj; omega, _, rfl, ?_⟩, fun en2 _ hs9 => by rw [hs] at hs9; cases hs9⟩⟩
      · have ho9 : o9 ∈ x.os ++ [⟨tK x.en, x.rcv, decide (x.st ≠ 1), false⟩] := ho9
        rcases List.mem_append.1 ho9 with ho9 | ho9
        · exact D.S.os o9 ho9
        · simp only [List.mem_singleton] at ho9
          subst ho9
          exact ⟨rfl, .inr ⟨h.length, Nat.le_refl _, by rw [H.en]⟩, fun _ => ⟨m, hm1, Nat.le_refl _, hrc⟩⟩
      · show x.os ++ [(⟨tK x.en, x.rcv, decide (x.st ≠ 1), false⟩ : Ou)] = _
        rw [decide_eq_true hst1, ← hrc]
      · constructor
        · intro e; cases e
        · rintro ⟨_, e⟩
          have hop1 : op' = 1 := by unfold Ar at har; omega
          have hak : o.acks = false := by
            cases e9 : o.acks with
            | false => rfl
            | true => have := (Q.2 hs).1 e9; omega
          exact absurd ⟨e, hak, hq1 (by unfold Ar at har; omega)⟩ hc
  -- neither
  rw [if_neg hs, if_neg hs]
  have hsf : o.k.syn = false := by simpa using hs
  have hak : o.acks = true := by
    rcases Q.1 with e | e
    · exact e
    · exact absurd e hs
  obtain ⟨r, hr1, hr2, hr3⟩ := K.ack hak
  obtain ⟨a', Dz, ha, hra, z1, z2, z3, z4, z5⟩ := D.hacks h1 (by omega) o.ack o.acks t r (fun _ => ⟨hr2, hr3⟩)
  have hra := hra hak
  obtain ⟨z, hz⟩ : ∃ z, z = x.hacks o.ack o.acks t := ⟨_, rfl⟩
  rw [← hz] at Dz z1 z2 z3 z4 z5 ⊢
  have harz := Dz.ar
  have hz3 : 3 ≤ z.st ∧ z.st ≤ 10 := by unfold Ar at harz; omega
  have p1 : ∀ r9, 1 ≤ r9 → r9 ≤ h.length → o.ack = on i (tot (h.take r9) : Int) → r9 ≤ a' := fun r9 _ h9 e => by
    have := H.inj (a := r) (b := r9) (by omega) h9 (hr3.symm.trans e)
    omega
  -- what it brings
  obtain ⟨j, hB, hq, hjk⟩ : ∃ j, Bring h' j (o.k.ds.length + bn o.k.fin) o.k.fin o.k.ds ∧ o.k.seq = on i' (tot (h'.take j) : Int) ∧ (h'[j]? = some o.k ∨ o.k.ds.length + bn o.k.fin = 0) := by
    rcases K.k with e | ⟨j, hj, e⟩
    · obtain ⟨j, hj⟩ := List.getElem?_of_mem e
      exact ⟨j, .inl ⟨o.k, hj, hsf, (Ky.len_nosyn hsf).symm, rfl, rfl⟩, H'.seq hj, .inl hj⟩
    · refine ⟨j, .inr ⟨?_, ?_, ?_, hj⟩, ?_, .inr ?_⟩ <;> rw [e] <;> rfl
  by_cases h39 : 3 ≤ z.st ∧ z.st ≤ 9
  · rw [if_pos h39, hq]
    obtain ⟨m', D2, g1, g2, g3, g4, g5, g6, g7, g8⟩ := Dz.hdata H' hfl hsm h39 j (o.k.ds.length + bn o.k.fin) o.k.fin o.k.ds hB t
    have hfr : decide ((3 ≤ z.st ∧ z.st ≤ 9) ∧ z.isFresh (on i' (tot (h'.take j) : Int))) = true ↔ z.isFresh (on i' (tot (h'.take j) : Int)) := by
      rw [decide_eq_true_iff]
      exact ⟨fun e => e.2, fun e => ⟨h39, e⟩⟩
    refine ⟨m', a', _, ⟨D2, g1, ha, g3.trans z3, g4.trans (by rw [z1]), ?_, fun e => by omega, ?_, fun _ _ r9 c1 c2 c3 _ => p1 r9 c1 c2 c3, fun _ j9 hj9 hjm _ => ?_, fun en2 H2 _ c2 c3 => ?_⟩⟩
    · rw [g5]
      by_cases e : z.isFresh (on i' (tot (h'.take j) : Int))
      · rw [if_pos e, if_pos (hfr.2 e)]
      · rw [if_neg e, if_neg (fun e2 => e (hfr.1 e2))]
    · by_cases e : 0 < o.k.ds.length + bn o.k.fin ∨ j < m
      · rw [if_pos e]
        exact .inr ⟨_, rfl, ⟨rfl, rfl, rfl, g6, .inl ⟨by rw [z3], h1⟩⟩⟩
      · rw [if_neg e]; exact .inl rfl
    · have hpos := (H'.pos _ (List.mem_of_getElem? hj9)).1
      rw [Ky.len_nosyn hsf] at hpos
      have hjj : j = j9 := by
        rcases hjk with e | e
        · exact H'.inj (by have := (List.getElem?_eq_some_iff.1 e).1; omega) (by have := (List.getElem?_eq_some_iff.1 hj9).1; omega) (by rw [← hq, H'.seq hj9])
        · omega
      subst hjj
      refine ⟨g2 hpos hjm, ⟨tK z.en, on i' (tot (h'.take m') : Int), true, false⟩, by rw [if_pos (.inl hpos)], ?_⟩
      constructor
      · intro e; cases e
      · rintro ⟨e, e2⟩
        subst e
        obtain ⟨k, r9, e3, hks, _⟩ := hist_one H' (List.getElem?_eq_some_iff.1 hj9).1
        rw [e3] at hj9
        injection hj9 with hj9
        rw [← hj9, hks] at hsf
        cases hsf
    · rw [if_neg]
      rintro (e | e)
      · omega
      · have h9 := H2.en
        rw [← c3, hq] at h9
        have := H2.inj (a := j) (b := h'.length) (by
          rcases hB with ⟨k, hk, _⟩ | ⟨_, _, _, e9⟩
          · have := (List.getElem?_eq_some_iff.1 hk).1; omega
          · exact e9) (Nat.le_refl _) h9
        omega
  · rw [if_neg h39]
    have hz10 : z.st = 10 := by omega
    refine ⟨m, a', [], ⟨Dz, Nat.le_refl _, ha, z3, by rw [z1, List.append_nil], ?_, fun e => by omega, .inl rfl, fun _ _ r9 c1 c2 c3 _ => p1 r9 c1 c2 c3, fun e => by omega, fun _ _ _ _ _ => rfl⟩⟩
    rw [if_neg (fun e => h39 (of_decide_eq_true e).1), List.append_nil]
end
end Go.Proofs.Ytnpkmkjenlhkiaa

namespace Go.Proofs.Ytnpkmkjenlhkiaa
set_option linter.unusedVariables false
set_option linter.unusedSimpArgs false
set_option maxRecDepth 20000

section
variable {op i i' m a mo : Nat} {h h' : List Ky} {x : F}
def F.isDue (x : F) (t : Int) : Prop := 0 < x.dw ∧ x.df + x.dw ≤ t
instance (x : F) (t : Int) : Decidable (x.isDue t) := by unfold F.isDue; exact inferInstance
theorem Sd.quiet (D : Sd op x i h i' h' m a mo) : Sd op x.quiet i h i' h' m a mo := ⟨D.S.quiet, D.al, D.ks, D.b, D.am, D.mo, D.fl, D.E, D.ar⟩
/-- A side's own pieces, told. -/
def told (x : F) (l : List Ky) : List Ou := l.map fun k => ⟨k, x.rcv, decide (x.st ≠ 1), false⟩
theorem Sd.told_ok (D : Sd op x i h i' h' m a mo) (h11 : x.st ≠ 11) : ∀ o ∈ told x (h.drop a), POk o i h i' h' m ∧ Pq op o := fun o ho => by
  obtain ⟨k, hk, rfl⟩ := List.mem_map.1 ho
  have har := D.ar
  have hin : k ∈ h := List.mem_of_mem_drop hk
  obtain ⟨j, hj⟩ := List.getElem?_of_mem hk
  rw [List.getElem?_drop] at hj
  have hj1 := (List.getElem?_eq_some_iff.1 hj).1
  have hs0 : k.syn = true → a = 0 := fun hs => by
    rcases Nat.eq_zero_or_pos a with e | e
    · exact e
    · have := D.S.his.pos1 hj (by omega)
      rw [hs] at this
      cases this
  refine ⟨⟨rfl, .inl hin, fun e => ⟨m, ?_⟩⟩, ?_, fun hs => ?_⟩
  · have h1 : x.st ≠ 1 := by simpa using e
    have := D.S.rc h1 h11
    exact ⟨this.1, Nat.le_refl _, this.2⟩
  · by_cases h1 : x.st = 1
    · right
      have hlh : h.length = 1 := by unfold Ar at har; omega
      have hj0 : a + j = 0 := by omega
      obtain ⟨k0, r, e, hk0, _⟩ := hist_one D.S.his (by omega)
      rw [hj0, e] at hj
      injection hj with hj
      rw [← hj]
      exact hk0
    · left
      exact decide_eq_true h1
  · have h0 := hs0 hs
    have : x.st = op := by unfold Ar at har; omega
    show decide (x.st ≠ 1) = true ↔ op = 2
    rw [decide_eq_true_iff]
    unfold Ar at har
    omega
/-- Time goes on. -/
inductive Ex (op : Nat) (x y : F) (t : Int) (i : Nat) (h : List Ky) (i' : Nat) (h' : List Ky) (m a mo : Nat) : Prop where
  | no (d : ¬ x.isDue t) (e : y = x)
  | over (d : x.isDue t) (sd : Sd op y i h i' h' m a mo) (st : 10 ≤ y.st) (os : y.os = x.os)
  | again (d : x.isDue t) (sd : Sd op y i h i' h' m a mo) (st : y.st = x.st) (lt : x.st < 9) (tr : y.tries = x.tries + 1) (al : a < h.length) (os : y.os = x.os ++ told x (h.drop a)) (ks : y.ks = x.ks)
theorem Sd.expire (D : Sd op x i h i' h' m a mo) (t : Int) (hd : x.E.d < 1000000) : Ex op x (x.expire t) t i h i' h' m a mo := by
  have har := D.ar
  unfold F.expire
  by_cases h0 : 0 < x.dw ∧ x.df + x.dw ≤ t
  · rw [if_pos h0]
    by_cases h1 : x.st = 9
    · rw [if_pos h1]
      refine .over h0 ⟨⟨D.S.his, ⟨a, D.al, D.ks, D.b⟩, D.S.mle, fun _ _ => D.S.rc (by omega) (by omega), (fun e => by cases e), D.S.os⟩, D.al, D.ks, D.b, D.am, D.mo, D.fl, D.E, ?_⟩ (by show 10 ≤ 10; omega) rfl
      show Ar op 10 a m h.length h'.length (fn h) (fn h') x.tries 0
      unfold Ar at har ⊢
      omega
    · rw [if_neg h1]
      by_cases h2 : 4 < x.tries + 1
      · rw [if_pos h2]
        refine .over h0 ⟨⟨D.S.his, ⟨a, D.al, D.ks, D.b⟩, D.S.mle, fun _ e => absurd rfl e, (fun e => by cases e), D.S.os⟩, D.al, D.ks, D.b, D.am, D.mo, D.fl, D.E, ?_⟩ (by show 10 ≤ 11; omega) rfl
        show Ar op 11 a m h.length h'.length (fn h) (fn h') (x.tries + 1) 0
        unfold Ar at har ⊢
        omega
      · rw [if_neg h2]
        have h11 : x.st ≠ 11 := by unfold Ar at har; omega
        have hal : a < h.length := by unfold Ar at har; omega
        have hE : x.E.back.Ok := Ok_back D.E hd
        have hw := wt_bd hE
        have hos : (x.tried.backed.again t).os = x.os ++ told x (h.drop a) := by
          show x.os ++ x.ks.map _ = _
          rw [D.ks]
          rfl
        refine .again h0 ⟨⟨D.S.his, ⟨a, D.al, D.ks, D.b⟩, D.S.mle, fun e1 e2 => D.S.rc e1 e2, fun e => D.S.r1 e, fun o ho => ?_⟩, D.al, D.ks, D.b, D.am, D.mo, D.fl, hE, ?_⟩ rfl (by unfold Ar at har; omega) rfl hal hos rfl
        · rw [hos] at ho
          rcases List.mem_append.1 ho with ho | ho
          · exact D.S.os o ho
          · exact (D.told_ok h11 o ho).1
        · show Ar op x.st a m h.length h'.length (fn h) (fn h') (x.tries + 1) x.E.back.wt
          unfold Ar at har ⊢
          omega
  · rw [if_neg h0]
    exact .no h0 rfl
theorem fn_append (h : List Ky) (k : Ky) : fn (h ++ [k]) = if fn h = 1 ∨ k.fin = true then 1 else 0 := by
  have e : (h ++ [k]).any Ky.fin = (h.any Ky.fin || k.fin) := by simp
  unfold fn
  rw [e]
  cases h.any Ky.fin <;> cases k.fin <;> simp
theorem FinLast.snoc {h : List Ky} (h0 : fn h = 0) (k : Ky) : FinLast (h ++ [k]) := fun j k2 hj hf => by
  rcases Nat.lt_or_ge j h.length with hl | hl
  · rw [List.getElem?_append_left hl] at hj
    have := fn_no h0 (List.mem_of_getElem? hj)
    rw [hf] at this
    cases this
  · have := (List.getElem?_eq_some_iff.1 hj).1
    rw [List.length_append] at this ⊢
    have : [k].length = 1 := rfl
    omega

set_option maxHeartbeats 3200000 in
theorem Sd.send (D : Sd op x i h i' h' m a mo) (k : Ky) (t : Int) (s2 : Nat) (hst : x.st = 3 ∨ x.st = 6) (hk : 0 < k.len ∧ k.ds.length ≤ 12) (hs : k.syn = false) (hb : tot h + k.len ≤ 2147483648) (h2 : (k.fin = false ∧ s2 = x.st) ∨ (k.fin = true ∧ s2 = if x.st = 3 then 4 else 8)) :
    Sd op ((x.send k t).at_ s2) i (h ++ [k.at x.en]) i' h' m a mo ∧ ((x.send k t).at_ s2).os = x.os ++ [⟨k.at x.en, x.rcv, true, false⟩] ∧ POk ⟨k.at x.en, x.rcv, true, false⟩ i (h ++ [k.at x.en]) i' h' m ∧ Pq op ⟨k.at x.en, x.rcv, true, false⟩ := by
  have har := D.ar
  have hl : Live x.st := by unfold Live; omega
  have hne : h ≠ [] := fun e => by
    have h1 := D.al
    have h2 := D.mo
    rw [e] at h1
    unfold Ar at har
    simp at h1
    have h3 : a = 0 := h1
    omega
  have S := D.S.send k t hl hne hk hs hb
  obtain ⟨s1, s2', s3, s4, s5, s6⟩ := send_same x k t
  have hrc := D.S.rc hl.1 hl.2
  have hx1 : decide (x.st ≠ 1) = true := decide_eq_true hl.1
  rw [hx1] at s6
  have hf0 : fn h = 0 := by unfold Ar at har; omega
  have hdw : 0 < (x.send k t).dw ∧ (x.send k t).tries = x.tries ∧ (x.send k t).E = x.E := by
    have hw := wt_bd D.E
    unfold F.send
    dsimp only
    by_cases h0 : x.ks = []
    · rw [if_pos h0]
      split
      · rename_i h9; exact ⟨h9, rfl, rfl⟩
      · exact ⟨by show 0 < x.E.wt; omega, rfl, rfl⟩
    · rw [if_neg h0]
      split
      · rename_i h9; exact ⟨h9, rfl, rfl⟩
      · exact ⟨by show 0 < x.E.wt; omega, rfl, rfl⟩
  have hfn := fn_append h (k.at x.en)
  rw [hf0] at hfn
  obtain ⟨y, hy⟩ : ∃ y, y = x.send k t := ⟨_, rfl⟩
  rw [← hy] at S s1 s2' s3 s4 s5 s6 hdw ⊢
  have hall : a ≤ (h ++ [k.at x.en]).length := by have := D.al; rw [List.length_append]; omega
  have hks : y.ks = (h ++ [k.at x.en]).drop a := by rw [s1, D.ks, List.drop_append_of_le_length D.al]
  have hbb : y.b = on i (tot ((h ++ [k.at x.en]).take a) : Int) := by rw [s3, D.b, List.take_append_of_le_length D.al]
  have hs2 : s2 ≠ 1 ∧ s2 ≠ 11 := by
    rcases h2 with ⟨_, e⟩ | ⟨_, e⟩
    · rw [e]; exact hl
    · rw [e]; split <;> omega
  refine ⟨⟨⟨S.his, ⟨a, hall, hks, hbb⟩, S.mle, fun _ _ => ⟨hrc.1, by show y.rcv = _; rw [s4]; exact hrc.2⟩, fun e => absurd e hs2.1, S.os⟩, hall, hks, hbb, D.am, by have := D.mo; rw [List.length_append]; omega, FinLast.snoc hf0 _, by show y.E.Ok; rw [hdw.2.2]; exact D.E, ?_⟩, s6, ?_, .inl rfl, fun e => ?_⟩
  · show Ar op s2 a m (h ++ [k.at x.en]).length h'.length (fn (h ++ [k.at x.en])) (fn h') y.tries y.dw
    have hd := hdw.1
    have hal := D.al
    rw [hdw.2.1, List.length_append, hfn]
    show Ar op s2 a m (h.length + 1) h'.length (if (0 : Nat) = 1 ∨ k.fin = true then 1 else 0) (fn h') x.tries y.dw
    rcases h2 with ⟨e1, e2⟩ | ⟨e1, e2⟩
    · rw [e1, if_neg (by rintro (h | h) <;> cases h), e2]
      unfold Ar at har ⊢
      omega
    · rw [e1, if_pos (.inr rfl), e2]
      rcases hst with e | e
      · rw [if_pos e]
        unfold Ar at har ⊢
        omega
      · rw [if_neg (by omega)]
        unfold Ar at har ⊢
        omega
  · exact ⟨rfl, .inl (by simp), fun _ => ⟨m, hrc.1, Nat.le_refl _, hrc.2⟩⟩
  · have e : k.syn = true := e
    rw [hs] at e
    cases e
/-- The other side has sent more. -/
theorem Sd.grow (D : Sd op x i h i' h' m a mo) (k : Ky) (hf : fn h' = 0) : Sd op x i h i' (h' ++ [k]) m a mo := by
  refine ⟨D.S.grow (take_self_append _ _) (by rw [List.length_append]; omega), D.al, D.ks, D.b, D.am, D.mo, D.fl, D.E, ?_⟩
  have har := D.ar
  have := fn_le (h' ++ [k])
  rw [hf] at har
  unfold Ar at har ⊢
  omega
end
end Go.Proofs.Ytnpkmkjenlhkiaa

/- Two flows and what is between them, as what they say: the law's steps without a program; what a call does to a flow's pieces and to what it lets be sent. No condition.
What is told, made a segment; the law's bytes. No condition.
The law's bytes. No condition.
The law's pair in memory: two flows, the packets on the way, what was sent and what came; each block with a label. No condition. -/
import Derived.Test.YtnpkmkjenlhkiaaMg16
namespace Go.Proofs.Ytnpkmkjenlhkiaa
set_option linter.unusedVariables false
set_option linter.unusedSimpArgs false
set_option maxRecDepth 20000

/-- A packet on its way: to whom. -/
structure Pk where
  to : Nat
  o : Ou
structure P where
  f0 : F
  f1 : Option F
  way : List Pk
  s0 : List UInt8
  s1 : List UInt8
  c0 : List UInt8
  c1 : List UInt8
  t : Nat
/-- What is to be sent, onto the way. -/
def addw (k : Nat) (w : List Pk) (os : List Ou) : List Pk := w ++ (os.map (Pk.mk k)).take (60 - w.length)
def outs : Option F → List Ou
  | some f => f.os
  | none => []
def P.flush (p : P) : P := { p with f0 := p.f0.quiet, f1 := p.f1.map F.quiet, way := addw 0 (addw 1 p.way p.f0.os) (outs p.f1) }
def F.hearO (f : F) (o : Ou) (t : Int) : F := f.hear o.k.seq o.ack o.k.syn o.acks o.k.fin (o.k.ds.length + bn o.k.fin) t
def F.heardO (f : F) (o : Ou) (t : Int) : Bool := f.heard o.k.seq o.ack o.k.syn o.acks t
def P.comes (p : P) (k : Pk) : P :=
  if k.to = 1 then
    match p.f1 with
    | none => if k.o.k.syn = true ∧ k.o.acks = false ∧ k.o.rst = false then { p with f1 := some (F.answer 9000 k.o.k.seq p.t) } else p
    | some f => { p with f1 := some (f.hearO k.o p.t), c1 := p.c1 ++ (if f.heardO k.o p.t = true then k.o.k.ds else []) }
  else { p with f0 := p.f0.hearO k.o p.t, c0 := p.c0 ++ (if p.f0.heardO k.o p.t = true then k.o.k.ds else []) }
/-- The bytes of the law. -/
def byt (n : Int) (j : Nat) : UInt8 := UInt8.ofNat ((7 * (j : Int) + n) % 256).toNat
def byts (n : Int) : List UInt8 := (List.range (min (max n 0) 12).toNat).map (byt n)
def P.at_ (p : P) (I : Int) : Nat := min (max I 0).toNat (p.way.length - 1)
def oput (f : Option F) (b : List UInt8) (t : Int) : Option F := f.map fun f => f.put 1 false b t
def oputE (f : Option F) (b : List UInt8) : Int := match f with | some f => f.putE b | none => 2
def P.act (p : P) (k I : Int) : P :=
  if (0 ≤ k ∧ k ≤ 2) ∧ p.way ≠ [] then
    match p.way[p.at_ I]? with
    | none => p
    | some w =>
      if k = 1 then { p with way := p.way.eraseIdx (p.at_ I) }
      else if k = 2 then p.comes w
      else { p with way := p.way.eraseIdx (p.at_ I) }.comes w
  else if k = 3 then { p with f0 := p.f0.put 1 false (byts I) p.t, s0 := p.s0 ++ (if p.f0.putE (byts I) = 0 then byts I else []) }
  else if k = 4 then { p with f1 := oput p.f1 (byts I) p.t, s1 := p.s1 ++ (if oputE p.f1 (byts I) = 0 then byts I else []) }
  else if k = 5 then { p with f0 := p.f0.close p.t }
  else if k = 6 then { p with f1 := p.f1.map fun f => f.close p.t }
  else if k = 7 then { p with t := p.t + 1, f0 := p.f0.expire (p.t + 1 : Nat), f1 := p.f1.map fun f => f.expire (p.t + 1 : Nat) }
  else p
def P.step (p : P) (k I : Int) : P := (p.flush.act k I).flush
def P.init (i : Nat) : P := ⟨F.dial i 0, none, [], [], [], [], [], 0⟩

/-- What is told by a flow: its pieces, or only what came. -/
structure Tells (ks : List Ky) (en rcv : Nat) (st : Nat) (o : Ou) : Prop where
  rst : o.rst = false
  k : o.k ∈ ks ∨ o.k = tK en
  ack : o.acks = true → o.ack = rcv ∧ st ≠ 1
  no : o.acks = false → st = 1 ∧ o.k ∈ ks
/-- A call that sends nothing new: pieces may have gone, what is left is told. -/
structure Mv (x y : F) : Prop where
  en : y.en = x.en
  q : ∃ a, a ≤ x.ks.length ∧ y.ks = x.ks.drop a ∧ y.b = on x.b (tot (x.ks.take a) : Int)
  os : ∃ l, y.os = x.os ++ l ∧ ∀ o ∈ l, Tells x.ks x.en y.rcv y.st o
theorem drop_zero_b {x : F} (hb : x.b < 4294967296) : x.b = on x.b (tot (x.ks.take 0) : Int) := (on_zero hb).symm
theorem Mv.same {x y : F} (hb : x.b < 4294967296) (h1 : y.en = x.en) (h2 : y.ks = x.ks) (h3 : y.b = x.b) (h4 : y.os = x.os) : Mv x y :=
  ⟨h1, ⟨0, Nat.zero_le _, by rw [h2]; rfl, by rw [h3]; exact drop_zero_b hb⟩, [], by rw [h4, List.append_nil], fun o ho => by cases ho⟩
theorem Mv.tell {x y : F} (h : Mv x y) (hst : y.st ≠ 1) : Mv x (y.tell (tK y.en)) := by
  obtain ⟨l, h1, h2⟩ := h.os
  refine ⟨h.en, h.q, l ++ [⟨tK y.en, y.rcv, decide (y.st ≠ 1), false⟩], ?_, fun o ho => ?_⟩
  · show y.os ++ _ = _
    rw [h1, List.append_assoc]
  · rcases List.mem_append.1 ho with ho | ho
    · exact h2 o ho
    · simp at ho
      subst ho
      exact ⟨rfl, .inr (by rw [h.en]), fun _ => ⟨rfl, hst⟩, fun e => by simp [hst] at e⟩
theorem Mv.tells {x y : F} (hb : x.b < 4294967296) (h1 : y.en = x.en) (h2 : y.ks = x.ks) (h3 : y.b = x.b) (h4 : y.os = x.os) : Mv x (y.tells y.ks) := by
  refine ⟨h1, ⟨0, Nat.zero_le _, by show y.ks = _; rw [h2]; rfl, by show y.b = _; rw [h3]; exact drop_zero_b hb⟩, y.ks.map fun k => ⟨k, y.rcv, decide (y.st ≠ 1), false⟩, by show y.os ++ _ = _; rw [h4], fun o ho => ?_⟩
  obtain ⟨k, hk, rfl⟩ := List.mem_map.1 ho
  rw [h2] at hk
  refine ⟨rfl, .inl hk, fun e => ⟨rfl, ?_⟩, fun e => ⟨?_, hk⟩⟩
  · have : ¬ y.st = 1 := by simpa using e
    exact this
  · have : y.st = 1 := by simpa using e
    exact this
/-- What an acknowledgement that lets k pieces go leaves as it was, and what it doesn't. -/
theorem ackd_same (x : F) (k : Nat) (t : Int) : (x.ackd k t).ks = x.ks.drop k ∧ (x.ackd k t).b = on x.b (tot (x.ks.take k) : Int) ∧ (x.ackd k t).st = x.st ∧ (x.ackd k t).rcv = x.rcv ∧ (x.ackd k t).tries = 0 := by
  unfold F.ackd
  generalize hz : (if (x.cut k).tm = true then (x.cut k).samp t else x.cut k) = z
  have hz2 : z.ks = x.ks.drop k ∧ z.b = on x.b (tot (x.ks.take k) : Int) ∧ z.st = x.st ∧ z.rcv = x.rcv := by
    rw [← hz]
    by_cases h : (x.cut k).tm = true
    · rw [if_pos h]; exact ⟨rfl, rfl, rfl, rfl⟩
    · rw [if_neg h]; exact ⟨rfl, rfl, rfl, rfl⟩
  unfold F.redue
  by_cases h : z.fresh_.ks = []
  · rw [if_pos h]; exact ⟨hz2.1, hz2.2.1, hz2.2.2.1, hz2.2.2.2, rfl⟩
  · rw [if_neg h]; exact ⟨hz2.1, hz2.2.1, hz2.2.2.1, hz2.2.2.2, rfl⟩
/-- The pieces that go are the first ones. -/
theorem gone_take (x : F) (a : Nat) : x.gone a = x.ks.take (x.gone a).length ∧ (x.gone a).length ≤ x.ks.length := by
  unfold F.gone
  by_cases h : Go.Proofs.Ytnpkmkjenlhkiaa.st x.b a ≤ tot x.ks
  · rw [if_pos h]
    have := cnt_le x.ks (Go.Proofs.Ytnpkmkjenlhkiaa.st x.b a)
    rw [List.length_take, Nat.min_eq_left this]
    exact ⟨rfl, this⟩
  · rw [if_neg h]
    exact ⟨rfl, Nat.zero_le _⟩
theorem acked_same (x : F) (hb : x.b < 4294967296) (a : Nat) (t : Int) : (x.acked a t).ks = x.ks.drop (x.gone a).length ∧ (x.acked a t).b = on x.b (tot (x.ks.take (x.gone a).length) : Int) ∧ (x.acked a t).st = x.st ∧ (x.acked a t).rcv = x.rcv := by
  rcases acked_ x a t with ⟨h0, h⟩ | ⟨_, h⟩ <;> rw [h]
  · rw [h0]
    exact ⟨rfl, (on_zero hb).symm, rfl, rfl⟩
  · have := ackd_same x (x.gone a).length t
    exact ⟨this.1, this.2.1, this.2.2.1, this.2.2.2.1⟩
theorem hk1_same (x : F) (k : Ky) (t : Int) : (x.hk1 k t).b = x.b ∧ (x.hk1 k t).ks = x.ks ∧ (x.hk1 k t).en = x.en ∧ (x.hk1 k t).os = x.os ∧ (x.hk1 k t).rcv = x.rcv := by
  unfold F.hk1
  by_cases h1 : k.syn = true ∧ x.st = 2
  · rw [if_pos h1]; exact ⟨rfl, rfl, rfl, rfl, rfl⟩
  · rw [if_neg h1]
    by_cases h2 : k.fin = true
    · rw [if_pos h2]; exact fina_same x t
    · rw [if_neg h2]; exact ⟨rfl, rfl, rfl, rfl, rfl⟩
theorem hks_same (t : Int) : ∀ (ks : List Ky) (x : F), (x.hks ks t).b = x.b ∧ (x.hks ks t).ks = x.ks ∧ (x.hks ks t).en = x.en ∧ (x.hks ks t).os = x.os ∧ (x.hks ks t).rcv = x.rcv
  | [], x => by rw [hks_nil]; exact ⟨rfl, rfl, rfl, rfl, rfl⟩
  | k :: ks, x => by
    have h1 : x.hks (k :: ks) t = (x.hk1 k t).hks ks t := rfl
    have h2 := hks_same t ks (x.hk1 k t)
    have h3 := hk1_same x k t
    rw [h1, h2.1, h2.2.1, h2.2.2.1, h2.2.2.2.1, h2.2.2.2.2]
    exact h3
theorem hacks_same (x : F) (hb : x.b < 4294967296) (ak : Nat) (kk : Bool) (t : Int) : ∃ a, a ≤ x.ks.length ∧ (x.hacks ak kk t).ks = x.ks.drop a ∧ (x.hacks ak kk t).b = on x.b (tot (x.ks.take a) : Int) ∧ (x.hacks ak kk t).en = x.en ∧ (x.hacks ak kk t).os = x.os ∧ (x.hacks ak kk t).rcv = x.rcv := by
  unfold F.hacks
  by_cases h : kk = true
  · rw [if_pos h]
    have h1 : x.hack ak t = (x.acked ak t).hks (x.gone ak) t := rfl
    have h2 := hks_same t (x.gone ak) (x.acked ak t)
    have h3 := acked_same x hb ak t
    exact ⟨_, (gone_take x ak).2, by rw [h1, h2.2.1, h3.1], by rw [h1, h2.1, h3.2.1], by rw [h1, h2.2.2.1, acked_en], by rw [h1, h2.2.2.2.1, acked_os], by rw [h1, h2.2.2.2.2, h3.2.2.2]⟩
  · rw [if_neg h]
    exact ⟨0, Nat.zero_le _, rfl, (on_zero hb).symm, rfl, rfl, rfl⟩
theorem takes_same (x : F) (q ln : Nat) (fin : Bool) (t : Int) : (x.takes q ln fin t).b = x.b ∧ (x.takes q ln fin t).ks = x.ks ∧ (x.takes q ln fin t).en = x.en ∧ (x.takes q ln fin t).os = x.os := by
  unfold F.takes
  by_cases h : x.isFresh q
  · rw [if_pos h]
    by_cases h2 : fin = true
    · rw [if_pos h2]
      have := finc_same (x.rcvd (on x.rcv (ln : Int))) t
      exact ⟨this.1, this.2.1, this.2.2.1, this.2.2.2.1⟩
    · rw [if_neg h2]; exact ⟨rfl, rfl, rfl, rfl⟩
  · rw [if_neg h]; exact ⟨rfl, rfl, rfl, rfl⟩
theorem takes_rcv (x : F) (q ln : Nat) (fin : Bool) (t : Int) : (x.takes q ln fin t).rcv = if x.isFresh q then on x.rcv (ln : Int) else x.rcv := by
  unfold F.takes
  by_cases h : x.isFresh q
  · rw [if_pos h, if_pos h]
    by_cases h2 : fin = true
    · rw [if_pos h2, (finc_same _ _).2.2.2.2]; rfl
    · rw [if_neg h2]; rfl
  · rw [if_neg h, if_neg h]
theorem finc_st (x : F) (t : Int) (h : 3 ≤ x.st ∧ x.st ≤ 9) : 3 ≤ (x.finc t).st ∧ (x.finc t).st ≤ 9 := by
  unfold F.finc
  by_cases h1 : x.st = 3
  · rw [if_pos h1]; show 3 ≤ 6 ∧ 6 ≤ 9; omega
  · rw [if_neg h1]
    by_cases h2 : x.st = 4
    · rw [if_pos h2]; show 3 ≤ 7 ∧ 7 ≤ 9; omega
    · rw [if_neg h2]
      by_cases h3 : x.st = 5
      · rw [if_pos h3]; show 3 ≤ 9 ∧ 9 ≤ 9; omega
      · rw [if_neg h3]; exact h
theorem takes_st (x : F) (q ln : Nat) (fin : Bool) (t : Int) (h : 3 ≤ x.st ∧ x.st ≤ 9) : 3 ≤ (x.takes q ln fin t).st ∧ (x.takes q ln fin t).st ≤ 9 := by
  unfold F.takes
  by_cases h1 : x.isFresh q
  · rw [if_pos h1]
    by_cases h2 : fin = true
    · rw [if_pos h2]; exact finc_st _ t h
    · rw [if_neg h2]; exact h
  · rw [if_neg h1]; exact h
theorem Mv.hans (x : F) (hb : x.b < 4294967296) (q ak : Nat) (syn kk : Bool) (t : Int) : Mv x (x.hans q ak syn kk t) := by
  unfold F.hans
  by_cases h2 : syn = true ∧ kk = true ∧ ak = x.en
  · rw [if_pos h2]
    have h3 := acked_same (x.rcvd (on q 1)) hb ak t
    have h4 := (gone_take (x.rcvd (on q 1)) ak).2
    have h5 : ((x.rcvd (on q 1)).acked ak t).en = x.en := acked_en (x.rcvd (on q 1)) ak t
    have h6 : ((x.rcvd (on q 1)).acked ak t).os = x.os := acked_os (x.rcvd (on q 1)) ak t
    obtain ⟨X, hX⟩ : ∃ X, X = (x.rcvd (on q 1)).acked ak t := ⟨_, rfl⟩
    obtain ⟨n, hn⟩ : ∃ n, n = ((x.rcvd (on q 1)).gone ak).length := ⟨_, rfl⟩
    rw [← hX] at h3 h5 h6 ⊢
    rw [← hn] at h3 h4
    clear hX hn
    have h7 : Mv x (X.at_ 3) := ⟨h5, ⟨n, h4, h3.1, h3.2.1⟩, [], by rw [List.append_nil]; exact h6, fun o ho => by cases ho⟩
    have h8 := h7.tell (by show (3 : Nat) ≠ 1; omega)
    rw [show (X.at_ 3).en = x.en from h5] at h8
    exact h8
  · rw [if_neg h2]; exact Mv.same hb rfl rfl rfl rfl
theorem Mv.again (x : F) (hb : x.b < 4294967296) (t : Int) : Mv x (x.again t) := by
  have h4 := Mv.tells (x := x) (y := x) hb rfl rfl rfl rfl
  exact ⟨h4.en, h4.q, h4.os⟩
theorem Mv.hsyn (x : F) (hb : x.b < 4294967296) (h1 : x.st ≠ 1) (q : Nat) (kk : Bool) (t : Int) : Mv x (x.hsyn q kk t) := by
  unfold F.hsyn
  by_cases h3 : x.st = 2 ∧ kk = false ∧ q = on x.rcv (-1)
  · rw [if_pos h3]; exact Mv.again x hb t
  · rw [if_neg h3]; exact (Mv.same (x := x) (y := x) hb rfl rfl rfl rfl).tell h1
theorem Mv.hrest (x : F) (hb : x.b < 4294967296) (q ak : Nat) (kk fin : Bool) (ln : Nat) (t : Int) : Mv x (if 3 ≤ (x.hacks ak kk t).st ∧ (x.hacks ak kk t).st ≤ 9 then (x.hacks ak kk t).hdata q ln fin t else x.hacks ak kk t) := by
  obtain ⟨a, g1, g2, g3, g4, g5, g6⟩ := hacks_same x hb ak kk t
  generalize x.hacks ak kk t = y at *
  have hy : Mv x y := ⟨g4, ⟨a, g1, g2, g3⟩, [], by rw [List.append_nil]; exact g5, fun o ho => by cases ho⟩
  by_cases h3 : 3 ≤ y.st ∧ y.st ≤ 9
  · rw [if_pos h3]
    unfold F.hdata
    have k1 := takes_same y q ln fin t
    have k2 := takes_st y q ln fin t h3
    generalize y.takes q ln fin t = z at *
    have hz : Mv x z := ⟨k1.2.2.1.trans g4, ⟨a, g1, k1.2.1.trans g2, k1.1.trans g3⟩, [], by rw [List.append_nil]; exact k1.2.2.2.trans g5, fun o ho => by cases ho⟩
    by_cases h4 : 0 < ln ∨ bf q y.rcv = true
    · rw [if_pos h4]
      have := hz.tell (by omega)
      rw [k1.2.2.1] at this
      exact this
    · rw [if_neg h4]; exact hz
  · rw [if_neg h3]; exact hy
/-- Hearing sends nothing new. -/
theorem Mv.hear (x : F) (hb : x.b < 4294967296) (q ak : Nat) (syn kk fin : Bool) (ln : Nat) (t : Int) : Mv x (x.hear q ak syn kk fin ln t) := by
  unfold F.hear
  by_cases h0 : x.st = 10 ∨ x.st = 11
  · rw [if_pos h0]; exact Mv.same hb rfl rfl rfl rfl
  · rw [if_neg h0]
    by_cases h1 : x.st = 1
    · rw [if_pos h1]; exact Mv.hans x hb q ak syn kk t
    · rw [if_neg h1]
      by_cases h2 : syn = true
      · rw [if_pos h2]; exact Mv.hsyn x hb h1 q kk t
      · rw [if_neg h2]; exact Mv.hrest x hb q ak kk fin ln t
/-- Nor does what is due. -/
theorem Mv.expire (x : F) (hb : x.b < 4294967296) (t : Int) : Mv x (x.expire t) := by
  unfold F.expire
  by_cases h0 : 0 < x.dw ∧ x.df + x.dw ≤ t
  · rw [if_pos h0]
    by_cases h1 : x.st = 9
    · rw [if_pos h1]; exact Mv.same hb rfl rfl rfl rfl
    · rw [if_neg h1]
      by_cases h2 : 4 < x.tries + 1
      · rw [if_pos h2]; exact Mv.same hb rfl rfl rfl rfl
      · rw [if_neg h2]
        have h4 := Mv.tells (x := x) (y := x.tried.backed) hb rfl rfl rfl rfl
        exact ⟨h4.en, h4.q, h4.os⟩
  · rw [if_neg h0]; exact Mv.same hb rfl rfl rfl rfl
end Go.Proofs.Ytnpkmkjenlhkiaa

namespace Go.Proofs.Ytnpkmkjenlhkiaa
set_option linter.unusedVariables false
set_option linter.unusedSimpArgs false
set_option maxRecDepth 20000
open Go.RowKit Go.Lib

def zSg : List Value := (Oc.mk zP 0 false false).sg
theorem zeroSg : (Try.prog.info? 47).map (·.zero) = some (some (.agg zSg.toArray)) := by kernel_rfl
set_option maxHeartbeats 1600000 in
theorem segment_any (o : Oc) (w : World) : Calls Try.prog 54 #[.agg o.vals.toArray] w fun e w' => e = .returned (.agg o.sg.toArray) ∧ Below w.heap.size w w' := by
  obtain ⟨⟨sq, sy, fi, dA, dn, dc, dsn, la, ds⟩, ak, kk, rr⟩ := o
  go_enter Try.func54, Try.ntmps54
  go_wp2_with (first
    | ((with_reducible refine wpList_here ?_); refine wpList_boxV (o := ⟨some 1, _, _, _, _, _⟩) rfl 54 (.tmp 0) rfl (Oc.vals ⟨⟨sq, sy, fi, dA, dn, dc, dsn, la, ds⟩, ak, kk, rr⟩) rfl _ rfl ?_; intro w0 z0 b0 s0)
    | ((with_reducible refine wpList_here ?_); refine wpList_allocV (o := ⟨some 2, _, _, _, _, _⟩) rfl 47 rfl zSg zeroSg _ s0 ?_; intro w1 z1 b1 s1; have HB := Lib.hid (below_trans b0 b1); have y := z0.below b1; have k0 : w1.cell? ⟨w.heap.size, 0, none⟩ = some (.int .u32 (sq : Int)) := (y 0 (by show 0 < 9; omega)).1; have k1 : w1.cell? ⟨w.heap.size, 1, none⟩ = some (.bool sy) := (y 1 (by show 1 < 9; omega)).1; have k2 : w1.cell? ⟨w.heap.size, 2, none⟩ = some (.bool fi) := (y 2 (by show 2 < 9; omega)).1; have k3 : w1.cell? ⟨w.heap.size, 3, none⟩ = some (.slice dA dn dc) := (y 3 (by show 3 < 9; omega)).1; have k6 : w1.cell? ⟨w.heap.size, 6, none⟩ = some (.int .u32 (ak : Int)) := (y 6 (by show 6 < 9; omega)).1; have k7 : w1.cell? ⟨w.heap.size, 7, none⟩ = some (.bool kk) := (y 7 (by show 7 < 9; omega)).1; have k8 : w1.cell? ⟨w.heap.size, 8, none⟩ = some (.bool rr) := (y 8 (by show 8 < 9; omega)).1; clear b0 b1 z0 y)
    | ((with_reducible refine wpList_here ?_); refine wpList_storeV rfl 47 (.tmp 2) (.tmp 21) rfl _ _ (Oc.sg ⟨⟨sq, sy, fi, dA, dn, dc, dsn, la, ds⟩, ak, kk, rr⟩) rfl rfl z1 rfl (sg_one _) infoSg ?_; intro w9 z9 g9 s9)
    | fail)
  refine bodyPost_ret (results_c0 rfl _ _ (w.heap.size + 1) _ _ rfl z9.range Try.underlying47 rfl infoSg) rfl ?_
  exact ⟨rfl, v_below_g HB.out g9 HB.out.size (by omega)⟩

theorem byt_wrap (n : Int) (j : Nat) (hj : j < 12) : IntKind.u8.wrap (IntKind.i64.wrap (7 * (j : Int) + n)) = ((byt n j).toNat : Int) := by
  unfold byt
  rw [UInt8.toNat_ofNat', IntKind.wrap_i64]
  show IntKind.u8.wrap _ = _
  rw [IntKind.wrap_u8]
  omega
end Go.Proofs.Ytnpkmkjenlhkiaa

namespace Go.Proofs.Ytnpkmkjenlhkiaa
set_option linter.unusedVariables false
set_option linter.unusedSimpArgs false
set_option maxRecDepth 20000
open Go.RowKit Go.Lib

/-- So many of them are laid. -/
def Laidj (n : Int) (j : Nat) (xs : List Value) : Prop := xs.take j = bv ((List.range j).map (byt n))
theorem laid_set {n : Int} {j : Nat} {xs : List Value} (h : Laidj n j xs) (hj : j < xs.length) : Laidj n (j + 1) (xs.set j (.int .u8 ((byt n j).toNat : Int))) := by
  unfold Laidj at *
  have h1 : (xs.set j (.int .u8 ((byt n j).toNat : Int))).take (j + 1) = xs.take j ++ [.int .u8 ((byt n j).toNat : Int)] := by
    rw [List.take_succ_eq_append_getElem (by rw [List.length_set]; exact hj)]
    congr 1
    · rw [List.take_set_of_le (Nat.le_refl _)]
    · simp
  rw [h1, h, List.range_succ]
  simp [bv]
set_option maxHeartbeats 1600000 in
theorem bytes_any (n : Int) (w : World) (hn : isInt n) : Calls Try.prog 31 #[.int .i64 n] w (OwnMade w (min (max n 0) 12).toNat (byts n)) := by
  have hm12 : (min (max n 0) 12).toNat ≤ 12 := by omega
  have hmi : min (max n 0) 12 = ((min (max n 0) 12).toNat : Int) := by omega
  have hby : byts n = (List.range (min (max n 0) 12).toNat).map (byt n) := rfl
  rw [hby]
  generalize (min (max n 0) 12).toNat = m at *
  have HN := Lib.hid hn
  clear hn hby
  go_enter Try.func31, Try.ntmps31
  go_wp2_with (first
    | (at_make; refine wpList_makeB rfl (.tmp 7) (.tmp 7) 30 5 rfl Try.underlying30 infoByte m rfl rfl (by omega) _ rfl ?_; intro xs w1 o1 b1; have HO1 := Lib.hid o1; have HB1 := Lib.hid b1; clear o1 b1)
    | fail)
  go_loopw [11] (fun v wr => ∃ (j : Nat) (ys : List Value), j ≤ m ∧ v = .int .i64 (j : Int) ∧ Laidj n j ys ∧ wr.ownsRow w.heap.size 5 1 (.slice (some ⟨w.heap.size, 0, none⟩) m m) m ys ∧ Below w.heap.size w wr) (fun v _ => m - (intOf v).toNat)
  case atStart => exact ⟨0, xs, Nat.zero_le _, rfl, rfl, HO1.out, HB1.out⟩
  case round =>
    obtain ⟨j, ys, hj, rfl, hl, ho, hb⟩ := hrel
    have hyl : ys.length = m := by have := ho.1; omega
    by_cases hlt : j < m
    · have hli : (j : Int) < (m : Int) := by omega
      have hst := (World.ownsRow.stored ho j (.int .u8 ((byt n j).toNat : Int))).1
      have hlaid := laid_set hl (by rw [hyl]; exact hlt)
      have HS := Lib.hid (And.intro hst (And.intro hlaid (v_below_g hb (v_g_set wr w.heap.size j (.int .u8 ((byt n j).toNat : Int))) hb.size (Nat.le_refl _))))
      have hc := World.ownsRow.cellAt ho j (by omega)
      rw [List.getElem?_eq_getElem (show j < ys.length by omega)] at hc
      have hf := World.ownsRow.frozenAt ho j
      have hw1 : IntKind.i64.wrap (7 * (j : Int)) = 7 * (j : Int) := by rw [IntKind.wrap_i64]; omega
      have hw2 := byt_wrap n j (by omega)
      clear hst hlaid ho hl hb
      go_wp2_with fail
      have hw3 : wrap64 (7 * (j : Int) + n) % 256 = ((byt n j).toNat : Int) := by
        unfold wrap64 byt
        rw [UInt8.toNat_ofNat']
        omega
      rw [hw3]
      exact ⟨⟨j + 1, _, by omega, by rw [Int.natCast_add]; rfl, HS.out.2.1, HS.out.1, HS.out.2.2⟩, by simp [intOf]; omega⟩
    · obtain rfl : j = m := by omega
      have hys : ys = bv ((List.range j).map (byt n)) := by
        have h1 : ys.take j = ys := List.take_of_length_le (by omega)
        rw [← h1]
        exact hl
      subst hys
      obtain ⟨A, c, e, hr, _⟩ := RB.of_own ho
      injection e with e1 e2 e3
      subst e1 e3
      have HE := Lib.hid (And.intro hr (And.intro ho hb))
      clear hr ho hb hl hyl
      go_wp2_with fail
      go_ret
      exact ⟨_, _, rfl, HE.out.1, HE.out.2.1, HE.out.2.2⟩
end Go.Proofs.Ytnpkmkjenlhkiaa

namespace Go.Proofs.Ytnpkmkjenlhkiaa
set_option linter.unusedVariables false
set_option linter.unusedSimpArgs false
set_option maxRecDepth 20000
open Go.RowKit Go.Lib

/-- A packet, with its piece. -/
structure Pm where
  to : Nat
  o : Oc
def Pm.key (k : Pm) : Pk := ⟨k.to, k.o.key⟩
def Pm.vals (k : Pm) : List Value := .int .i64 (k.to : Int) :: k.o.sg
theorem Pm.vals_length (k : Pm) : k.vals.length = 14 := rfl
theorem pm_one (k : Pm) : ∀ u ∈ k.vals, u.oneCell' = true := by
  intro u hu
  rcases List.mem_cons.1 hu with rfl | hu
  · rfl
  · exact sg_one k.o u hu
def zPm : Pm := ⟨0, zO⟩
def pkv (l : List Pm) : List Value := l.flatMap Pm.vals
theorem pkv_append (l r : List Pm) : pkv (l ++ r) = pkv l ++ pkv r := by simp [pkv]
theorem pkv_one1 (k : Pm) : pkv [k] = k.vals := by simp [pkv]
theorem pkv_length (l : List Pm) : (pkv l).length = l.length * 14 := by
  induction l with
  | nil => rfl
  | cons o r ih =>
    have : pkv (o :: r) = o.vals ++ pkv r := rfl
    rw [this, List.length_append, ih, o.vals_length, List.length_cons]
    omega
theorem pkv_one (l : List Pm) : ∀ u ∈ pkv l, u.oneCell' = true := by
  intro u hu
  obtain ⟨p, _, hp⟩ := List.mem_flatMap.1 hu
  exact pm_one p u hp
theorem pkv_at (l : List Pm) : ∀ (j i : Nat), j < l.length → i < 14 → (pkv l)[j * 14 + i]? = (l.getD j zPm).vals[i]? := by
  induction l with
  | nil => intro j i hj; simp at hj
  | cons o r ih =>
    intro j i hj hi
    have e : pkv (o :: r) = o.vals ++ pkv r := rfl
    rw [e]
    cases j with
    | zero =>
      rw [List.getElem?_append_left (by rw [o.vals_length]; omega), Nat.zero_mul, Nat.zero_add]
      rfl
    | succ j =>
      rw [List.getElem?_append_right (by rw [o.vals_length]; omega), o.vals_length, show (j + 1) * 14 + i - 14 = j * 14 + i from by omega, ih j i (by simpa using hj) hi]
      rfl
theorem own_rangeK {w : World} {base g n c j : Nat} {l : List Pm} (h : w.ownsRow base 69 14 (.slice (some ⟨g, 0, none⟩) n c) n (pkv l)) (hj : j < n) : w.rangeAt g (j * 14) (l.getD j zPm).vals := by
  have hl : l.length = n := by have := h.1; rw [pkv_length] at this; omega
  intro i u hu
  have hi : i < 14 := (List.getElem?_eq_some_iff.1 hu).1
  rw [World.ownsRow.cellAt h (j * 14 + i) (by omega), pkv_at l j i (by omega) hi]
  exact hu
theorem infoPk : (Try.prog.info? 69).map (fun i => (i.zero, i.size, i.bytes)) = some (some (.agg zPm.vals.toArray), 14, 112) := by kernel_rfl
theorem sizePk : (Try.prog.info? 69).map (·.size) = some 14 := by kernel_rfl
theorem zeroPk : (Try.prog.info? 69).map (·.zero) = some (some (.agg zPm.vals.toArray)) := by kernel_rfl
theorem litK (w : World) (k : Pm) : (Instr.buildSlice 29 1 #[(0, .agg k.vals.toArray)]).run Try.prog w = .ok (.slice (some ⟨w.heap.size, 0, none⟩) 1 1) (w.alloc (.cells k.vals.toArray 69)) := by kernel_rfl

/-- Where a pair lies. -/
structure Ms where
  a : Sh
  b : Option Sh
  wv : Value
  ws : List Pm
  sv0 : Value
  sv1 : Value
  cv0 : Value
  cv1 : Value
def f1v : Option Sh → Value
  | none => .pointer none
  | some s => ptr s.fb
def Ms.cs (m : Ms) (t : Nat) : Array Value := #[ptr m.a.fb, f1v m.b, m.wv, m.sv0, m.sv1, m.cv0, m.cv1, .int .i64 (t : Int)]
/-- A row of bytes, whose block has a label. -/
structure Bl (base : Nat) (w : World) (lab : Nat → Nat) (v : Value) (l : List UInt8) (c : Nat) : Prop where
  row : w.ownsRow base 5 1 v l.length (bv l)
  lab : ∀ g, v.ownBlock = some g → lab g = c
/-- The pair p stands at pb. -/
structure PR (GB : Option Nat) (base : Nat) (w : World) (pb : Nat) (p : P) (m : Ms) (lab : Nat → Nat) : Prop where
  obj : w.heap[pb]? = some (.cells (m.cs p.t) 33 (0, 0))
  lo : base ≤ pb
  fa : Fl base w m.a p.f0
  fb : ∀ f, p.f1 = some f → ∃ s, m.b = some s ∧ Fl base w s f
  fn : p.f1 = none → m.b = none
  way : w.ownsRow base 69 14 m.wv m.ws.length (pkv m.ws)
  key : m.ws.map Pm.key = p.way
  og : ∀ k ∈ m.ws, PO base w k.o.p ∧ k.o.ack < 4294967296 ∧ k.to ≤ 1
  s0 : Bl base w lab m.sv0 p.s0 5
  s1 : Bl base w lab m.sv1 p.s1 6
  c0 : Bl base w lab m.cv0 p.c0 7
  c1 : Bl base w lab m.cv1 p.c1 8
  la : ∀ g, m.a.T g → lab g = 1
  lb : ∀ s, m.b = some s → ∀ g, s.T g → lab g = 2
  lp : lab pb = 3
  lw : ∀ g, m.wv.ownBlock = some g → lab g = 4
  ld : ∀ k ∈ m.ws, ∀ g, k.o.p.blk = some g → lab g = 9
  bx : ∀ g, GB = some g → w.heap[g]? = some (.cells #[.pointer (some ⟨pb, 0, none⟩)] 25 (0, 0)) ∧ lab g = 10
section
variable {GB : Option Nat} {base : Nat} {w w' : World} {pb : Nat} {p : P} {m : Ms} {lab lab' : Nat → Nat}
theorem Bl.frame {v : Value} {l : List UInt8} {c d : Nat} (h : Bl base w lab v l c) {M : Nat → Prop} (k : Ch w w' M) (hM : ∀ g, M g → lab g = d) (hd : d ≠ c) (hl : ∀ g, g < w.heap.size → lab g = c → lab' g = c) : Bl base w' lab' v l c :=
  ⟨own_ch2 h.row k (fun g hg e => hd ((hM g e).symm.trans (h.lab g hg))), fun g hg => hl g (own_in h.row hg).2 (h.lab g hg)⟩
theorem PR.at_ (h : PR GB base w pb p m lab) (j : Nat) : w.cell? ⟨pb, j, none⟩ = (m.cs p.t)[j]? := cell_of_row w pb j _ _ (0, 0) h.obj
theorem PR.fz (h : PR GB base w pb p m lab) (j : Nat) : w.frozen? ⟨pb, j, none⟩ = false := frozen_of h.obj j
theorem PR.lt (h : PR GB base w pb p m lab) : pb < w.heap.size := (Array.getElem?_eq_some_iff.1 h.obj).1
theorem PR.bx_lt (h : PR GB base w pb p m lab) {g : Nat} (hg : GB = some g) : g < w.heap.size := (Array.getElem?_eq_some_iff.1 (h.bx g hg).1).1
/-- New memory alone. -/
theorem PR.below (h : PR GB base w pb p m lab) (b : Below w.heap.size w w') : PR GB base w' pb p m lab :=
  ⟨(b.block pb h.lt).trans h.obj, h.lo, h.fa.below b, fun f hf => by
    obtain ⟨s, e, k⟩ := h.fb f hf
    exact ⟨s, e, k.below b⟩, h.fn, own_below h.way b, h.key, fun k hk => ⟨(h.og k hk).1.below b, (h.og k hk).2⟩, ⟨own_below h.s0.row b, h.s0.lab⟩, ⟨own_below h.s1.row b, h.s1.lab⟩, ⟨own_below h.c0.row b, h.c0.lab⟩, ⟨own_below h.c1.row b, h.c1.lab⟩, h.la, h.lb, h.lp, h.lw, h.ld, fun g hg => ⟨(b.block g (h.bx_lt hg)).trans (h.bx g hg).1, (h.bx g hg).2⟩⟩
/-- A call on the first flow. -/
theorem PR.flow0 (h : PR GB base w pb p m lab) {x : F} (l : Left base w m.a x w') : ∃ m' lab', PR GB base w' pb { p with f0 := x } m' lab' ∧ m'.a.fb = m.a.fb ∧ m' = { m with a := m'.a } ∧ ∀ g, g < w.heap.size → lab' g = lab g := by
  obtain ⟨s', e, f, c, n⟩ := l
  let lab' : Nat → Nat := fun g => if g < w.heap.size then lab g else 1
  have hold : ∀ g, g < w.heap.size → lab' g = lab g := fun g hg => if_pos hg
  have hnew : ∀ g, w.heap.size ≤ g → lab' g = 1 := fun g hg => if_neg (by omega)
  have hM : ∀ g, m.a.T g → lab g = 1 := h.la
  have hk : ∀ {d : Nat} (g : Nat), g < w.heap.size → lab g = d → lab' g = d := fun g hg e => (hold g hg).trans e
  refine ⟨{ m with a := s' }, lab', ⟨?_, h.lo, f, fun g hg => ?_, h.fn, own_ch2 h.way c (fun g hg e => by have := hM g e; have := h.lw g hg; omega), h.key, fun k hk2 => ⟨(h.og k hk2).1.ch c (fun g hg e => by have := hM g e; have := h.ld k hk2 g hg; omega), (h.og k hk2).2⟩,
    h.s0.frame c hM (by decide) (fun g a b => hk g a b), h.s1.frame c hM (by decide) (fun g a b => hk g a b), h.c0.frame c hM (by decide) (fun g a b => hk g a b), h.c1.frame c hM (by decide) (fun g a b => hk g a b),
    fun g hg => ?_, fun s hs g hg => ?_, hk pb h.lt h.lp, fun g hg => hk g (own_in h.way hg).2 (h.lw g hg), fun k hk2 g hg => hk g ((h.og k hk2).1.lt hg).2 (h.ld k hk2 g hg), fun g hg => ⟨(c.block g (h.bx_lt hg) (fun e => by have := hM g e; have := (h.bx g hg).2; omega)).trans (h.bx g hg).1, (hold g (h.bx_lt hg)).trans (h.bx g hg).2⟩⟩, e, rfl, hold⟩
  · have h1 := (c.block pb h.lt (fun e => by have := hM pb e; have := h.lp; omega)).trans h.obj
    rw [h1]
    unfold Ms.cs
    dsimp only
    rw [e]
  · obtain ⟨s, e2, k⟩ := h.fb g hg
    exact ⟨s, e2, k.frame c (fun j hj e => by have := hM j e; have := h.lb s e2 j hj; omega)⟩
  · rcases n g hg with h1 | h1
    · exact hk g (h.fa.in_ h1).2 (h.la g h1)
    · exact hnew g h1
  · cases hf : p.f1 with
    | none => rw [h.fn hf] at hs; cases hs
    | some f1 =>
      obtain ⟨s2, e2, k⟩ := h.fb f1 hf
      rw [e2] at hs
      injection hs with hs
      subst hs
      exact hk g (k.in_ hg).2 (h.lb s2 e2 g hg)
/-- A call on the second one. -/
theorem PR.flow1 (h : PR GB base w pb p m lab) {f x : F} (hf : p.f1 = some f) {s : Sh} (hs : m.b = some s) (l : Left base w s x w') : ∃ s' lab', s'.fb = s.fb ∧ PR GB base w' pb { p with f1 := some x } { m with b := some s' } lab' ∧ ∀ g, g < w.heap.size → lab' g = lab g := by
  obtain ⟨s2, e2, k2⟩ := h.fb f hf
  rw [hs] at e2
  injection e2 with e2
  subst e2
  obtain ⟨s', e, f', c, n⟩ := l
  let lab' : Nat → Nat := fun g => if g < w.heap.size then lab g else 2
  have hold : ∀ g, g < w.heap.size → lab' g = lab g := fun g hg => if_pos hg
  have hnew : ∀ g, w.heap.size ≤ g → lab' g = 2 := fun g hg => if_neg (by omega)
  have hM : ∀ g, s.T g → lab g = 2 := h.lb s hs
  have hk : ∀ {d : Nat} (g : Nat), g < w.heap.size → lab g = d → lab' g = d := fun g hg e => (hold g hg).trans e
  refine ⟨s', lab', e, ⟨?_, h.lo, h.fa.frame c (fun j hj e => by have := hM j e; have := h.la j hj; omega), fun g hg => ⟨s', rfl, by have hg : some x = some g := hg; injection hg with hg; rw [← hg]; exact f'⟩, (fun e => by cases e), own_ch2 h.way c (fun g hg e => by have := hM g e; have := h.lw g hg; omega), h.key, fun k hk2 => ⟨(h.og k hk2).1.ch c (fun g hg e => by have := hM g e; have := h.ld k hk2 g hg; omega), (h.og k hk2).2⟩,
    h.s0.frame c hM (by decide) (fun g a b => hk g a b), h.s1.frame c hM (by decide) (fun g a b => hk g a b), h.c0.frame c hM (by decide) (fun g a b => hk g a b), h.c1.frame c hM (by decide) (fun g a b => hk g a b),
    fun g hg => hk g (h.fa.in_ hg).2 (h.la g hg), fun s2 hs2 g hg => ?_, hk pb h.lt h.lp, fun g hg => hk g (own_in h.way hg).2 (h.lw g hg), fun k hk2 g hg => hk g ((h.og k hk2).1.lt hg).2 (h.ld k hk2 g hg), fun g hg => ⟨(c.block g (h.bx_lt hg) (fun e => by have := hM g e; have := (h.bx g hg).2; omega)).trans (h.bx g hg).1, (hold g (h.bx_lt hg)).trans (h.bx g hg).2⟩⟩, hold⟩
  · have h1 := (c.block pb h.lt (fun e => by have := hM pb e; have := h.lp; omega)).trans h.obj
    rw [h1]
    unfold Ms.cs f1v
    rw [hs]
    dsimp only
    rw [e]
  · have hs2 : some s' = some s2 := hs2
    injection hs2 with hs2
    subst hs2
    rcases n g hg with h1 | h1
    · exact hk g (k2.in_ h1).2 (hM g h1)
    · exact hnew g h1
end
end Go.Proofs.Ytnpkmkjenlhkiaa

/- What a flow wants to be sent, as rows in memory; a flow as a list of what it says; a flow in memory, and what of the memory it is. No condition. -/
import Derived.Test.YtnpkmkjenlhkiaaFlC
import Derived.Test.YtnpkmkjenlhkiaaGen
namespace Go.Proofs.Ytnpkmkjenlhkiaa
set_option linter.unusedVariables false
set_option linter.unusedSimpArgs false
set_option maxRecDepth 20000
open Go.RowKit Go.Lib

/-- What is to be sent, as it says. -/
structure Ou where
  k : Ky
  ack : Nat
  acks : Bool
  rst : Bool
/-- .. with its piece. -/
structure Oc where
  p : Pc
  ack : Nat
  acks : Bool
  rst : Bool
def Oc.key (o : Oc) : Ou := ⟨o.p.key, o.ack, o.acks, o.rst⟩
def Oc.vals (o : Oc) : List Value := o.p.vals ++ [.int .u32 (o.ack : Int), .bool o.acks, .bool o.rst]
theorem Oc.vals_length (o : Oc) : o.vals.length = 9 := rfl
theorem oc_one (o : Oc) : ∀ u ∈ o.vals, u.oneCell' = true := by
  intro u hu
  simp only [Oc.vals, Pc.vals, List.mem_append, List.mem_cons, List.not_mem_nil, or_false] at hu
  rcases hu with (rfl | rfl | rfl | rfl | rfl | rfl) | rfl | rfl | rfl <;> rfl
def zO : Oc := ⟨zP, 0, false, false⟩
/-- All of them, as cells. -/
def ov (l : List Oc) : List Value := l.flatMap Oc.vals
theorem ov_append (l r : List Oc) : ov (l ++ r) = ov l ++ ov r := by simp [ov]
theorem ov_one1 (o : Oc) : ov [o] = o.vals := by simp [ov]
theorem ov_length (l : List Oc) : (ov l).length = l.length * 9 := by
  induction l with
  | nil => rfl
  | cons o r ih =>
    have : ov (o :: r) = o.vals ++ ov r := rfl
    rw [this, List.length_append, ih, o.vals_length, List.length_cons]
    omega
theorem ov_one (l : List Oc) : ∀ u ∈ ov l, u.oneCell' = true := by
  intro u hu
  obtain ⟨p, _, hp⟩ := List.mem_flatMap.1 hu
  exact oc_one p u hp
theorem ov_at (l : List Oc) : ∀ (j i : Nat), j < l.length → i < 9 → (ov l)[j * 9 + i]? = (l.getD j zO).vals[i]? := by
  induction l with
  | nil => intro j i hj; simp at hj
  | cons o r ih =>
    intro j i hj hi
    have e : ov (o :: r) = o.vals ++ ov r := rfl
    rw [e]
    cases j with
    | zero =>
      rw [List.getElem?_append_left (by rw [o.vals_length]; omega), Nat.zero_mul, Nat.zero_add]
      rfl
    | succ j =>
      rw [List.getElem?_append_right (by rw [o.vals_length]; omega), o.vals_length, show (j + 1) * 9 + i - 9 = j * 9 + i from by omega, ih j i (by simpa using hj) hi]
      rfl
/-- One of a row that holds them. -/
theorem own_rangeO {w : World} {base g n c j : Nat} {l : List Oc} (h : w.ownsRow base 54 9 (.slice (some ⟨g, 0, none⟩) n c) n (ov l)) (hj : j < n) : w.rangeAt g (j * 9) (l.getD j zO).vals := by
  have hl : l.length = n := by have := h.1; rw [ov_length] at this; omega
  intro i u hu
  have hi : i < 9 := (List.getElem?_eq_some_iff.1 hu).1
  rw [World.ownsRow.cellAt h (j * 9 + i) (by omega), ov_at l j i (by omega) hi]
  exact hu
theorem infoOc : (Try.prog.info? 54).map (fun i => (i.zero, i.size, i.bytes)) = some (some (.agg zO.vals.toArray), 9, 56) := by kernel_rfl
theorem sizeOc : (Try.prog.info? 54).map (·.size) = some 9 := by kernel_rfl
theorem litO (w : World) (o : Oc) : (Instr.buildSlice 49 1 #[(0, .agg o.vals.toArray)]).run Try.prog w = .ok (.slice (some ⟨w.heap.size, 0, none⟩) 1 1) (w.alloc (.cells o.vals.toArray 54)) := by kernel_rfl

/-- A flow: the estimate, the state, what it awaits, how often it tried, its deadline, when its first ones were sent and whether that still counts; its pieces, from b to en; what is to be sent. -/
structure F where
  E : Es
  st : Nat
  rcv : Nat
  tries : Nat
  df : Int
  dw : Int
  bg : Int
  tm : Bool
  b : Nat
  ks : List Ky
  en : Nat
  os : List Ou
def F.fc (x : F) (qb : Nat) (v : Value) : Fc := ⟨qb, x.E, x.st, x.rcv, x.tries, x.df, x.dw, x.bg, x.tm, v⟩
/-- Where it lies: its struct, its queue, the queue's row and pieces, the row of what is to be sent. -/
structure Sh where
  fb : Nat
  qb : Nat
  v : Value
  l : List Pc
  ov : Value
  ol : List Oc
/-- The blocks that are a flow's. -/
def Sh.T (s : Sh) (g : Nat) : Prop := g = s.fb ∨ Qb s.qb s.v s.l g ∨ s.ov.ownBlock = some g ∨ ∃ o ∈ s.ol, o.p.blk = some g
/-- A flow x stands in w, and lies so. -/
structure Fl (base : Nat) (w : World) (s : Sh) (x : F) : Prop where
  fa : Fa w s.fb (x.fc s.qb s.ov)
  lo : base ≤ s.fb
  qu : Qu 97 base w s.qb s.v s.l x.en
  ky : s.l.map Pc.key = x.ks
  cn : Chn x.b x.ks x.en
  lt : x.b < 4294967296
  row : w.ownsRow base 54 9 s.ov s.ol.length (ov s.ol)
  os : s.ol.map Oc.key = x.os
  og : ∀ o ∈ s.ol, PO base w o.p ∧ o.ack < 4294967296
  ap : ∀ o ∈ s.ol, ∀ g, o.p.blk = some g → ¬ Qb s.qb s.v s.l g
  rcv : x.rcv < 4294967296
section
variable {base : Nat} {w w' : World} {s : Sh} {x x' : F}
theorem Fl.in_ (h : Fl base w s x) {g : Nat} (hg : s.T g) : base ≤ g ∧ g < w.heap.size := by
  rcases hg with rfl | hg | hg | ⟨o, ho, hg⟩
  · exact ⟨h.lo, h.fa.lt⟩
  · exact h.qu.in_ hg
  · exact own_in h.row hg
  · exact (h.og o ho).1.lt hg
theorem Fl.frame (h : Fl base w s x) {m : Nat → Prop} (c : Ch w w' m) (hm : ∀ g, s.T g → ¬ m g) : Fl base w' s x :=
  ⟨h.fa.ch c (hm _ (.inl rfl)), h.lo, h.qu.frame c (fun g hg => hm g (.inr (.inl hg))), h.ky, h.cn, h.lt, own_ch2 h.row c (fun g hg => hm g (.inr (.inr (.inl hg)))), h.os,
    fun o ho => ⟨(h.og o ho).1.ch c (fun g hg => hm g (.inr (.inr (.inr ⟨o, ho, hg⟩)))), (h.og o ho).2⟩, h.ap, h.rcv⟩
theorem Fl.below (h : Fl base w s x) (b : Below w.heap.size w w') : Fl base w' s x := h.frame (Ch.of_below (fun _ => False) b) (fun _ _ e => e)
/-- Blocks of unlike types. -/
theorem two_types {w : World} {g : Nat} {cs cs' : Array Value} {t t' : TypeId} {f f' : Nat × Nat} (h : w.heap[g]? = some (.cells cs t f)) (h' : w.heap[g]? = some (.cells cs' t' f')) : t = t' := by
  rw [h] at h'
  injection h' with h'
  injection h'
theorem Fl.queue_obj (h : Fl base w s x) {g : Nat} (hg : Qb s.qb s.v s.l g) : ∃ cs t, w.heap[g]? = some (.cells cs t (0, 0)) ∧ (t = 97 ∨ t = 52 ∨ t = 5) := by
  rcases hg with rfl | hg | ⟨p, hp, hg⟩
  · exact ⟨_, _, h.qu.obj, .inl rfl⟩
  · obtain ⟨cs, e⟩ := h.qu.row.obj hg
    exact ⟨cs, _, e, .inr (.inl rfl)⟩
  · obtain ⟨cs, e⟩ := (h.qu.ok p hp).obj hg
    exact ⟨cs, _, e, .inr (.inr rfl)⟩
theorem Fl.ne_queue (h : Fl base w s x) : ¬ Qb s.qb s.v s.l s.fb := fun hg => by
  obtain ⟨cs, t, e, ht⟩ := h.queue_obj hg
  have := two_types h.fa e
  subst this
  rcases ht with ht | ht | ht <;> exact absurd ht (by decide)
theorem Fl.ne_row (h : Fl base w s x) : s.ov.ownBlock ≠ some s.fb := fun hg => by
  obtain ⟨cs, e⟩ := ch_ownrow h.row hg
  exact absurd (two_types h.fa e) (by decide)
theorem Fl.ne_data (h : Fl base w s x) {o : Oc} (ho : o ∈ s.ol) : o.p.blk ≠ some s.fb := fun hg => by
  obtain ⟨cs, e⟩ := (h.og o ho).1.obj hg
  exact absurd (two_types h.fa e) (by decide)
theorem Fl.row_queue (h : Fl base w s x) {g : Nat} (hg : s.ov.ownBlock = some g) : ¬ Qb s.qb s.v s.l g := fun hq => by
  obtain ⟨cs, t, e, ht⟩ := h.queue_obj hq
  obtain ⟨cs', e'⟩ := ch_ownrow h.row hg
  have := two_types e' e
  subst this
  rcases ht with ht | ht | ht <;> exact absurd ht (by decide)
theorem Fl.row_data (h : Fl base w s x) {g : Nat} (hg : s.ov.ownBlock = some g) {o : Oc} (ho : o ∈ s.ol) : o.p.blk ≠ some g := fun hd => by
  obtain ⟨cs, e⟩ := (h.og o ho).1.obj hd
  obtain ⟨cs', e'⟩ := ch_ownrow h.row hg
  exact absurd (two_types e' e) (by decide)
/-- Only the struct's own cells have changed. -/
theorem Fl.did (h : Fl base w s x) {c' : Fc} (d : Fa w' s.fb c') (k : Ch w w' (fun g => g = s.fb)) (he : c' = x'.fc s.qb s.ov) (h1 : x'.b = x.b) (h2 : x'.ks = x.ks) (h3 : x'.en = x.en) (h4 : x'.os = x.os) (h5 : x'.rcv < 4294967296) : Fl base w' s x' :=
  ⟨he ▸ d, h.lo, h3 ▸ h.qu.frame k (fun g hg e => h.ne_queue (e ▸ hg)), h2 ▸ h.ky, by rw [h1, h2, h3]; exact h.cn, h1 ▸ h.lt, own_ch2 h.row k (fun g hg e => h.ne_row (e ▸ hg)), h4 ▸ h.os,
    fun o ho => ⟨(h.og o ho).1.ch k (fun g hg e => h.ne_data ho (e ▸ hg)), (h.og o ho).2⟩, h.ap, h5⟩
end
/-- What a call on a flow leaves: the flow x' stands, at the same place, and nothing has changed but what was its. -/
def Left (base : Nat) (w : World) (s : Sh) (x' : F) (w' : World) : Prop :=
  ∃ s' : Sh, s'.fb = s.fb ∧ Fl base w' s' x' ∧ Ch w w' s.T ∧ ∀ g, s'.T g → s.T g ∨ w.heap.size ≤ g
section
variable {base : Nat} {w w' : World} {s : Sh} {x x' : F}
theorem Fl.left (h : Fl base w s x) {c' : Fc} (d : Fa w' s.fb c') (k : Ch w w' (fun g => g = s.fb)) (he : c' = x'.fc s.qb s.ov) (h1 : x'.b = x.b) (h2 : x'.ks = x.ks) (h3 : x'.en = x.en) (h4 : x'.os = x.os) (h5 : x'.rcv < 4294967296) : Left base w s x' w' :=
  ⟨s, rfl, h.did d k he h1 h2 h3 h4 h5, k.mono (fun g _ e => .inl e), fun g hg => .inl hg⟩
theorem Left.same (h : Fl base w s x) (b : Below w.heap.size w w') : Left base w s x w' := ⟨s, rfl, h.below b, Ch.of_below _ b, fun g hg => .inl hg⟩
/-- One call behind the other. -/
theorem Left.then_ {w1 w2 : World} {s1 : Sh} {x2 : F} (hs : s1.fb = s.fb) (c : Ch w w1 s.T) (n : ∀ g, s1.T g → s.T g ∨ w.heap.size ≤ g) (h : Left base w1 s1 x2 w2) : Left base w s x2 w2 := by
  obtain ⟨s2, e2, f2, c2, n2⟩ := h
  refine ⟨s2, e2.trans hs, f2, c.trans c2 (fun _ _ h => h) (fun g hg h => ?_), fun g hg => ?_⟩
  · rcases n g h with h | h
    · exact h
    · omega
  · rcases n2 g hg with h | h
    · exact n g h
    · exact .inr (Nat.le_trans c.size h)
end
end Go.Proofs.Ytnpkmkjenlhkiaa

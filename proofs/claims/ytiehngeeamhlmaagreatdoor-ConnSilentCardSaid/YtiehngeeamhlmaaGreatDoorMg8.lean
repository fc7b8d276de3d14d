/- What a flow wants to be sent, as rows in memory; a flow as a list of what it says; a flow in memory, and what of the memory it is. No condition.
The contracts of tell, and of tellAt. Conditions: the flow stands, with at most 2^39 to be sent; so does the piece, apart from its queue. -/
import Derived.Test.YtiehngeeamhlmaaGreatDoorMg7
import Derived.Test.YtiehngeeamhlmaaGreatDoorMg4
namespace Go.Proofs.YtiehngeeamhlmaaGreatDoor.LF
set_option linter.unusedVariables false
set_option linter.unusedSimpArgs false
set_option maxRecDepth 20000
open Go.RowKit Go.Lib

/-- What is to be sent, as it says. -/
structure Ou where
  k : Ky
  ack : Nat
  acks : Bool
  rst : Bool
/-- .. with its piece. -/
structure Oc where
  p : Pc
  ack : Nat
  acks : Bool
  rst : Bool
def Oc.key (o : Oc) : Ou := ⟨o.p.key, o.ack, o.acks, o.rst⟩
def Oc.vals (o : Oc) : List Value := o.p.vals ++ [.int .u32 (o.ack : Int), .bool o.acks, .bool o.rst]
theorem Oc.vals_length (o : Oc) : o.vals.length = 9 := rfl
theorem oc_one (o : Oc) : ∀ u ∈ o.vals, u.oneCell' = true := by
  intro u hu
  simp only [Oc.vals, Pc.vals, List.mem_append, List.mem_cons, List.not_mem_nil, or_false] at hu
  rcases hu with (rfl | rfl | rfl | rfl | rfl | rfl) | rfl | rfl | rfl <;> rfl
def zO : Oc := ⟨zP, 0, false, false⟩
/-- All of them, as cells. -/
def ov (l : List Oc) : List Value := l.flatMap Oc.vals
theorem ov_append (l r : List Oc) : ov (l ++ r) = ov l ++ ov r := by simp [ov]
theorem ov_one1 (o : Oc) : ov [o] = o.vals := by simp [ov]
theorem ov_length (l : List Oc) : (ov l).length = l.length * 9 := by
  induction l with
  | nil => rfl
  | cons o r ih =>
    have : ov (o :: r) = o.vals ++ ov r := rfl
    rw [this, List.length_append, ih, o.vals_length, List.length_cons]
    omega
theorem ov_one (l : List Oc) : ∀ u ∈ ov l, u.oneCell' = true := by
  intro u hu
  obtain ⟨p, _, hp⟩ := List.mem_flatMap.1 hu
  exact oc_one p u hp
theorem ov_at (l : List Oc) : ∀ (j i : Nat), j < l.length → i < 9 → (ov l)[j * 9 + i]? = (l.getD j zO).vals[i]? := by
  induction l with
  | nil => intro j i hj; simp at hj
  | cons o r ih =>
    intro j i hj hi
    have e : ov (o :: r) = o.vals ++ ov r := rfl
    rw [e]
    cases j with
    | zero =>
      rw [List.getElem?_append_left (by rw [o.vals_length]; omega), Nat.zero_mul, Nat.zero_add]
      rfl
    | succ j =>
      rw [List.getElem?_append_right (by rw [o.vals_length]; omega), o.vals_length, show (j + 1) * 9 + i - 9 = j * 9 + i from by omega, ih j i (by simpa using hj) hi]
      rfl
/-- One of a row that holds them. -/
theorem own_rangeO {w : World} {base g n c j : Nat} {l : List Oc} (h : w.ownsRow base 208 9 (.slice (some ⟨g, 0, none⟩) n c) n (ov l)) (hj : j < n) : w.rangeAt g (j * 9) (l.getD j zO).vals := by
  have hl : l.length = n := by have := h.1; rw [ov_length] at this; omega
  intro i u hu
  have hi : i < 9 := (List.getElem?_eq_some_iff.1 hu).1
  rw [World.ownsRow.cellAt h (j * 9 + i) (by omega), ov_at l j i (by omega) hi]
  exact hu
theorem infoOc : (Tryz.prog.info? 208).map (fun i => (i.zero, i.size, i.bytes)) = some (some (.agg zO.vals.toArray), 9, 56) := by kernel_rfl
theorem sizeOc : (Tryz.prog.info? 208).map (·.size) = some 9 := by kernel_rfl
theorem litO (w : World) (o : Oc) : (Instr.buildSlice 140 1 #[(0, .agg o.vals.toArray)]).run Tryz.prog w = .ok (.slice (some ⟨w.heap.size, 0, none⟩) 1 1) (w.alloc (.cells o.vals.toArray 208)) := by kernel_rfl

/-- A flow: the estimate, the state, what it awaits, how often it tried, its deadline, when its first ones were sent and whether that still counts; its pieces, from b to en; what is to be sent. -/
structure F where
  E : Es
  st : Nat
  rcv : Nat
  tries : Nat
  df : Int
  dw : Int
  bg : Int
  tm : Bool
  b : Nat
  ks : List Ky
  en : Nat
  os : List Ou
def F.fc (x : F) (qb : Nat) (v : Value) : Fc := ⟨qb, x.E, x.st, x.rcv, x.tries, x.df, x.dw, x.bg, x.tm, v⟩
/-- Where it lies: its struct, its queue, the queue's row and pieces, the row of what is to be sent. -/
structure Sh where
  fb : Nat
  qb : Nat
  v : Value
  l : List Pc
  ov : Value
  ol : List Oc
/-- The blocks that are a flow's. -/
def Sh.T (s : Sh) (g : Nat) : Prop := g = s.fb ∨ Qb s.qb s.v s.l g ∨ s.ov.ownBlock = some g ∨ ∃ o ∈ s.ol, o.p.blk = some g
/-- A flow x stands in w, and lies so. -/
structure Fl (base : Nat) (w : World) (s : Sh) (x : F) : Prop where
  fa : Fa w s.fb (x.fc s.qb s.ov)
  lo : base ≤ s.fb
  qu : Qu 258 base w s.qb s.v s.l x.en
  ky : s.l.map Pc.key = x.ks
  cn : Chn x.b x.ks x.en
  lt : x.b < 4294967296
  row : w.ownsRow base 208 9 s.ov s.ol.length (ov s.ol)
  os : s.ol.map Oc.key = x.os
  og : ∀ o ∈ s.ol, PO base w o.p ∧ o.ack < 4294967296
  ap : ∀ o ∈ s.ol, ∀ g, o.p.blk = some g → ¬ Qb s.qb s.v s.l g
  rcv : x.rcv < 4294967296
section
variable {base : Nat} {w w' : World} {s : Sh} {x x' : F}
theorem Fl.in_ (h : Fl base w s x) {g : Nat} (hg : s.T g) : base ≤ g ∧ g < w.heap.size := by
  rcases hg with rfl | hg | hg | ⟨o, ho, hg⟩
  · exact ⟨h.lo, h.fa.lt⟩
  · exact h.qu.in_ hg
  · exact own_in h.row hg
  · exact (h.og o ho).1.lt hg
theorem Fl.frame (h : Fl base w s x) {m : Nat → Prop} (c : Ch w w' m) (hm : ∀ g, s.T g → ¬ m g) : Fl base w' s x :=
  ⟨h.fa.ch c (hm _ (.inl rfl)), h.lo, h.qu.frame c (fun g hg => hm g (.inr (.inl hg))), h.ky, h.cn, h.lt, own_ch2 h.row c (fun g hg => hm g (.inr (.inr (.inl hg)))), h.os,
    fun o ho => ⟨(h.og o ho).1.ch c (fun g hg => hm g (.inr (.inr (.inr ⟨o, ho, hg⟩)))), (h.og o ho).2⟩, h.ap, h.rcv⟩
theorem Fl.below (h : Fl base w s x) (b : Below w.heap.size w w') : Fl base w' s x := h.frame (Ch.of_below (fun _ => False) b) (fun _ _ e => e)
/-- Blocks of unlike types. -/
theorem two_types {w : World} {g : Nat} {cs cs' : Array Value} {t t' : TypeId} {f f' : Nat × Nat} (h : w.heap[g]? = some (.cells cs t f)) (h' : w.heap[g]? = some (.cells cs' t' f')) : t = t' := by
  rw [h] at h'
  injection h' with h'
  injection h'
theorem Fl.queue_obj (h : Fl base w s x) {g : Nat} (hg : Qb s.qb s.v s.l g) : ∃ cs t, w.heap[g]? = some (.cells cs t (0, 0)) ∧ (t = 258 ∨ t = 206 ∨ t = 5) := by
  rcases hg with rfl | hg | ⟨p, hp, hg⟩
  · exact ⟨_, _, h.qu.obj, .inl rfl⟩
  · obtain ⟨cs, e⟩ := h.qu.row.obj hg
    exact ⟨cs, _, e, .inr (.inl rfl)⟩
  · obtain ⟨cs, e⟩ := (h.qu.ok p hp).obj hg
    exact ⟨cs, _, e, .inr (.inr rfl)⟩
theorem Fl.ne_queue (h : Fl base w s x) : ¬ Qb s.qb s.v s.l s.fb := fun hg => by
  obtain ⟨cs, t, e, ht⟩ := h.queue_obj hg
  have := two_types h.fa e
  subst this
  rcases ht with ht | ht | ht <;> exact absurd ht (by decide)
theorem Fl.ne_row (h : Fl base w s x) : s.ov.ownBlock ≠ some s.fb := fun hg => by
  obtain ⟨cs, e⟩ := ch_ownrow h.row hg
  exact absurd (two_types h.fa e) (by decide)
theorem Fl.ne_data (h : Fl base w s x) {o : Oc} (ho : o ∈ s.ol) : o.p.blk ≠ some s.fb := fun hg => by
  obtain ⟨cs, e⟩ := (h.og o ho).1.obj hg
  exact absurd (two_types h.fa e) (by decide)
theorem Fl.row_queue (h : Fl base w s x) {g : Nat} (hg : s.ov.ownBlock = some g) : ¬ Qb s.qb s.v s.l g := fun hq => by
  obtain ⟨cs, t, e, ht⟩ := h.queue_obj hq
  obtain ⟨cs', e'⟩ := ch_ownrow h.row hg
  have := two_types e' e
  subst this
  rcases ht with ht | ht | ht <;> exact absurd ht (by decide)
theorem Fl.row_data (h : Fl base w s x) {g : Nat} (hg : s.ov.ownBlock = some g) {o : Oc} (ho : o ∈ s.ol) : o.p.blk ≠ some g := fun hd => by
  obtain ⟨cs, e⟩ := (h.og o ho).1.obj hd
  obtain ⟨cs', e'⟩ := ch_ownrow h.row hg
  exact absurd (two_types e' e) (by decide)
/-- Only the struct's own cells have changed. -/
theorem Fl.did (h : Fl base w s x) {c' : Fc} (d : Fa w' s.fb c') (k : Ch w w' (fun g => g = s.fb)) (he : c' = x'.fc s.qb s.ov) (h1 : x'.b = x.b) (h2 : x'.ks = x.ks) (h3 : x'.en = x.en) (h4 : x'.os = x.os) (h5 : x'.rcv < 4294967296) : Fl base w' s x' :=
  ⟨he ▸ d, h.lo, h3 ▸ h.qu.frame k (fun g hg e => h.ne_queue (e ▸ hg)), h2 ▸ h.ky, by rw [h1, h2, h3]; exact h.cn, h1 ▸ h.lt, own_ch2 h.row k (fun g hg e => h.ne_row (e ▸ hg)), h4 ▸ h.os,
    fun o ho => ⟨(h.og o ho).1.ch k (fun g hg e => h.ne_data ho (e ▸ hg)), (h.og o ho).2⟩, h.ap, h5⟩
end
/-- What a call on a flow leaves: the flow x' stands, at the same place, and nothing has changed but what was its. -/
def Left (base : Nat) (w : World) (s : Sh) (x' : F) (w' : World) : Prop :=
  ∃ s' : Sh, s'.fb = s.fb ∧ Fl base w' s' x' ∧ Ch w w' s.T ∧ ∀ g, s'.T g → s.T g ∨ w.heap.size ≤ g
section
variable {base : Nat} {w w' : World} {s : Sh} {x x' : F}
theorem Fl.left (h : Fl base w s x) {c' : Fc} (d : Fa w' s.fb c') (k : Ch w w' (fun g => g = s.fb)) (he : c' = x'.fc s.qb s.ov) (h1 : x'.b = x.b) (h2 : x'.ks = x.ks) (h3 : x'.en = x.en) (h4 : x'.os = x.os) (h5 : x'.rcv < 4294967296) : Left base w s x' w' :=
  ⟨s, rfl, h.did d k he h1 h2 h3 h4 h5, k.mono (fun g _ e => .inl e), fun g hg => .inl hg⟩
theorem Left.same (h : Fl base w s x) (b : Below w.heap.size w w') : Left base w s x w' := ⟨s, rfl, h.below b, Ch.of_below _ b, fun g hg => .inl hg⟩
/-- One call behind the other. -/
theorem Left.then_ {w1 w2 : World} {s1 : Sh} {x2 : F} (hs : s1.fb = s.fb) (c : Ch w w1 s.T) (n : ∀ g, s1.T g → s.T g ∨ w.heap.size ≤ g) (h : Left base w1 s1 x2 w2) : Left base w s x2 w2 := by
  obtain ⟨s2, e2, f2, c2, n2⟩ := h
  refine ⟨s2, e2.trans hs, f2, c.trans c2 (fun _ _ h => h) (fun g hg h => ?_), fun g hg => ?_⟩
  · rcases n g h with h | h
    · exact h
    · omega
  · rcases n2 g hg with h | h
    · exact n g h
    · exact .inr (Nat.le_trans c.size h)
end
end Go.Proofs.YtiehngeeamhlmaaGreatDoor.LF

namespace Go.Proofs.YtiehngeeamhlmaaGreatDoor.LF
set_option linter.unusedVariables false
set_option linter.unusedSimpArgs false
set_option maxRecDepth 20000
open Go.RowKit Go.Lib

/-- A piece is told. -/
def F.tell (x : F) (k : Ky) : F := { x with os := x.os ++ [⟨k, x.rcv, decide (x.st ≠ 1), false⟩] }
theorem own_slice {w : World} {base : Nat} {e : TypeId} {size n : Nat} {v : Value} {xs : List Value} (h : w.ownsRow base e size v n xs) : ∃ A c, v = .slice A n c ∧ n ≤ c ∧ c ≤ 9223372036854775807 := by
  rcases h.2 with ⟨rfl, rfl⟩ | ⟨g, cap, cur, rfl, _, _, h1, h2, _⟩
  · exact ⟨none, 0, rfl, Nat.le_refl _, by omega⟩
  · exact ⟨_, cap, rfl, h1, by unfold maxLen at h2; omega⟩
/-- What tell leaves. -/
def TellP (base : Nat) (w : World) (s : Sh) (x : F) (p : Pc) (w' : World) : Prop :=
  ∃ (u : Value) (ol : List Oc), Fl base w' { s with ov := u, ol := ol } (x.tell p.key) ∧ Ch w w' (fun g => g = s.fb ∨ s.ov.ownBlock = some g) ∧ (u.ownBlock = s.ov.ownBlock ∨ ∃ g, u.ownBlock = some g ∧ w.heap.size ≤ g) ∧ ∀ o ∈ ol, o ∈ s.ol ∨ o.p = p
/-- Its end. -/
theorem tell_done {base : Nat} {w w8 w9 : World} {fb qb : Nat} {v u u' : Value} {l : List Pc} {ol : List Oc} {x : F} {p : Pc} {a : Bool} (h : Fl base w ⟨fb, qb, v, l, u, ol⟩ x) (hp : PO base w p) (hap : ∀ g, p.blk = some g → ¬ Qb qb v l g)
    (b8 : Below w.heap.size w w8) (ha : a = decide (x.st ≠ 1)) (r9 : w9.ownsRow base 208 9 u' (ol.length + 1) (ov ol ++ (Oc.mk p x.rcv a false).vals)) (g9 : w8.grownBy w9 u.ownBlock) (o9 : u'.ownBlock = u.ownBlock ∨ u'.ownBlock = some w8.heap.size) :
    TellP base w ⟨fb, qb, v, l, u, ol⟩ x p (w9.setCell ⟨fb, 12, none⟩ u') := by
  have h8 := h.below b8
  have p8 := hp.below b8
  have hnu : u.ownBlock ≠ some fb := h8.ne_row
  have c9 : Ch w8 w9 (fun g => u.ownBlock = some g) := Ch.grown (m := fun g => u.ownBlock = some g) (Ch.refl w8 _) g9 (fun g e _ => e)
  have cs : Ch w9 (w9.setCell ⟨fb, 12, none⟩ u') (fun g => g = fb) := ch_set w9 fb 12 u'
  have C : Ch w8 (w9.setCell ⟨fb, 12, none⟩ u') (fun g => g = fb ∨ u.ownBlock = some g) := c9.trans cs (fun _ _ e => .inr e) (fun _ _ e => .inl e)
  have hu' : u'.ownBlock ≠ some fb := fun e => by
    rcases o9 with e1 | e1
    · exact hnu (e1 ▸ e)
    · rw [e1] at e
      injection e with e
      have : fb < w8.heap.size := h8.fa.lt
      omega
  have hpb : ∀ g, p.blk = some g → ¬ (g = fb ∨ u.ownBlock = some g) := fun g hg e => by
    obtain ⟨cs, e1⟩ := p8.obj hg
    rcases e with rfl | e
    · exact absurd (two_types h8.fa e1) (by decide)
    · obtain ⟨cs', e2⟩ := ch_ownrow h8.row e
      exact absurd (two_types e2 e1) (by decide)
  refine ⟨u', ol ++ [⟨p, x.rcv, a, false⟩], ?_, (Ch.of_below _ b8).trans C (fun _ _ e => e) (fun _ _ e => e), ?_, fun o ho => ?_⟩
  · refine ⟨?_, h8.lo, h8.qu.frame C (fun g hg e => ?_), h8.ky, h8.cn, h8.lt, ?_, ?_, fun o ho => ?_, fun o ho g hg => ?_, h8.rcv⟩
    · have hf : Fa w9 fb (x.fc qb u) := h8.fa.ch c9 hnu
      exact hf.set 12 _ _ rfl
    · rcases e with e | e
      · subst e
        exact h8.ne_queue hg
      · exact h8.row_queue e hg
    · have : ov (ol ++ [⟨p, x.rcv, a, false⟩]) = ov ol ++ (Oc.mk p x.rcv a false).vals := by rw [ov_append, ov_one1]
      show World.ownsRow _ _ _ _ _ (ol ++ [_]).length _
      rw [this, List.length_append]
      exact own_ch2 r9 cs (fun g hg e => hu' (e ▸ hg))
    · show (ol ++ [_]).map Oc.key = x.os ++ _
      rw [List.map_append, show ol.map Oc.key = x.os from h8.os, ha]
      rfl
    · rcases List.mem_append.1 ho with ho | ho
      · exact ⟨(h8.og o ho).1.ch C (fun g hg e => by rcases e with e | e; exact h8.ne_data ho (e ▸ hg); exact h8.row_data e ho hg), (h8.og o ho).2⟩
      · simp at ho
        subst ho
        exact ⟨p8.ch C hpb, h8.rcv⟩
    · rcases List.mem_append.1 ho with ho | ho
      · exact h8.ap o ho g hg
      · simp at ho
        subst ho
        exact hap g hg
  · rcases o9 with e | e
    · exact .inl e
    · exact .inr ⟨_, e, b8.size⟩
  · rcases List.mem_append.1 ho with ho | ho
    · exact .inl ho
    · simp at ho
      subst ho
      exact .inr rfl

section
variable {base : Nat} {w : World} {s : Sh} {x : F}
set_option maxHeartbeats 3200000 in
theorem tell_any (h : Fl base w s x) (p : Pc) (hp : PO base w p) (hap : ∀ g, p.blk = some g → ¬ Qb s.qb s.v s.l g) (hn : x.os.length ≤ 549755813888) :
    Calls Tryz.prog 213 #[ptr s.fb, .agg p.vals.toArray] w fun e w' => e = .returned (.tuple #[]) ∧ TellP base w s x p w' := by
  obtain ⟨fb, qb, v, l, u, ol⟩ := s
  have hos : ol.length = x.os.length := by rw [← show ol.map Oc.key = x.os from h.os, List.length_map]
  rw [← hos] at hn
  have H := Lib.hid h
  have HP := Lib.hid hp
  have HAP := Lib.hid hap
  have HN := Lib.hid hn
  have hb := (h.in_ (.inl rfl))
  have HB := Lib.hid hb
  clear h hp hap hn hos
  unfold ptr
  dsimp only at *
  go_enter Tryz.func213, Tryz.ntmps213
  go_wp2_with (first
    | ((with_reducible refine wpList_here ?_); refine wpList_boxV (o := ⟨some 3, _, _, _, _, _⟩) rfl 206 (.tmp 1) rfl p.vals rfl _ rfl ?_; intro w1 z1 b1 s1)
    | fail)
  have HB1 := Lib.hid b1.drew
  have s2 : w1.drew.heap.size = w.heap.size + 1 := s1
  have r0 : w1.drew.rangeAt w.heap.size 0 p.vals := z1.range
  have HF1 := Lib.hid (H.out.below b1.drew)
  have c12 := HF1.out.fa.c12
  have c6 := HF1.out.fa.c6
  have c5 := HF1.out.fa.c5
  clear b1 z1 s1
  dsimp only [F.fc] at c12 c6 c5
  generalize hwd : w1.drew = wd at *
  generalize hgz : w.heap.size = g at *
  generalize hst : x.st = st at *
  generalize hrc : x.rcv = rc at *
  refine wp_region_noPanic ?_
  by_cases hs1 : st = 1
  · have e0 : wd.cell? ⟨fb, 12, none⟩ = some u ∧ wd.cell? ⟨fb, 6, none⟩ = some (.int .u32 (rc : Int)) ∧ wd.cell? ⟨fb, 5, none⟩ = some (.int .i64 1) ∧ wd.rangeAt g 0 p.vals := ⟨c12, c6, by rw [c5, hs1]; rfl, r0⟩
    have hlt : fb < wd.heap.size := by omega
    clear c12 c6 c5 r0
    refine until_start (fun W => W.cell? ⟨fb, 12, none⟩ = some u ∧ W.cell? ⟨fb, 6, none⟩ = some (.int .u32 (rc : Int)) ∧ W.cell? ⟨fb, 5, none⟩ = some (.int .i64 1) ∧ W.rangeAt g 0 p.vals) 20 (by kernel_rfl) (by rw [hwd]; exact e0) (fun _ => ?_)
    rw [hwd]
    clear hwd
    refine until_take (i := 0) (v := .pointer (some ⟨fb, 0, none⟩)) (some 4) [20] rfl rfl (by kernel_rfl) (by kernel_rfl) (by kernel_rfl) (by kernel_rfl) rfl rfl (fun _ _ _ h => h) (Or.inl ⟨by rfl, fun W hW => by go_simp⟩) e0 ?_
    simp only [Act.put, List.setIfInBounds_toArray, List.set_cons_zero, List.set_cons_succ]
    refine until_take (i := 1) (v := .pointer (some ⟨fb, 0, none⟩)) (some 5) [20] rfl rfl (by kernel_rfl) (by kernel_rfl) (by kernel_rfl) (by kernel_rfl) rfl rfl (fun _ _ _ h => h) (Or.inl ⟨by rfl, fun W hW => by go_simp⟩) e0 ?_
    simp only [Act.put, List.setIfInBounds_toArray, List.set_cons_zero, List.set_cons_succ]
    refine until_take (i := 5) (v := .agg p.vals.toArray) (some 9) [20] rfl rfl (by kernel_rfl) (by kernel_rfl) (by kernel_rfl) (by kernel_rfl) rfl rfl (fun _ _ _ h => h) (yieldsIf_load_mid (by rfl) 206 (.tmp 3) rfl _ _ rfl _ _ (fun W hW => hW.2.2.2) Tryz.underlying206 rfl infoPc) e0 ?_
    simp only [Act.put, List.setIfInBounds_toArray, List.set_cons_zero, List.set_cons_succ]
    refine until_take (i := 6) (v := .pointer (some ⟨fb, 0, none⟩)) (some 10) [20] rfl rfl (by kernel_rfl) (by kernel_rfl) (by kernel_rfl) (by kernel_rfl) rfl rfl (fun _ _ _ h => h) (Or.inl ⟨by rfl, fun W hW => by go_simp⟩) e0 ?_
    simp only [Act.put, List.setIfInBounds_toArray, List.set_cons_zero, List.set_cons_succ]
    refine until_take (i := 10) (v := .pointer (some ⟨fb, 0, none⟩)) (some 14) [20] rfl rfl (by kernel_rfl) (by kernel_rfl) (by kernel_rfl) (by kernel_rfl) rfl rfl (fun _ _ _ h => h) (Or.inl ⟨by rfl, fun W hW => by go_simp⟩) e0 ?_
    simp only [Act.put, List.setIfInBounds_toArray, List.set_cons_zero, List.set_cons_succ]
    refine until_take (i := 2) (v := .pointer (some ⟨fb, 0, none⟩)) (some 6) [20] rfl rfl (by kernel_rfl) (by kernel_rfl) (by kernel_rfl) (by kernel_rfl) rfl rfl (fun _ _ _ h => h) (Or.inl ⟨by rfl, fun W hW => by go_simp⟩) e0 ?_
    simp only [Act.put, List.setIfInBounds_toArray, List.set_cons_zero, List.set_cons_succ]
    refine until_take (i := 7) (v := .pointer (some ⟨fb, 0, none⟩)) (some 11) [20] rfl rfl (by kernel_rfl) (by kernel_rfl) (by kernel_rfl) (by kernel_rfl) rfl rfl (fun _ _ _ h => h) (Or.inl ⟨by rfl, fun W hW => by go_simp⟩) e0 ?_
    simp only [Act.put, List.setIfInBounds_toArray, List.set_cons_zero, List.set_cons_succ]
    refine until_take (i := 11) (v := .pointer (some ⟨fb, 0, none⟩)) (some 15) [20] rfl rfl (by kernel_rfl) (by kernel_rfl) (by kernel_rfl) (by kernel_rfl) rfl rfl (fun _ _ _ h => h) (Or.inl ⟨by rfl, fun W hW => by go_simp⟩) e0 ?_
    simp only [Act.put, List.setIfInBounds_toArray, List.set_cons_zero, List.set_cons_succ]
    refine until_take (i := 3) (v := .pointer (some ⟨fb, 12, none⟩)) (some 7) [20] rfl rfl (by kernel_rfl) (by kernel_rfl) (by kernel_rfl) (by kernel_rfl) rfl rfl (fun _ _ _ h => h) (Or.inl ⟨by rfl, fun W hW => by go_simp⟩) e0 ?_
    simp only [Act.put, List.setIfInBounds_toArray, List.set_cons_zero, List.set_cons_succ]
    refine until_take (i := 8) (v := .pointer (some ⟨fb, 6, none⟩)) (some 12) [20] rfl rfl (by kernel_rfl) (by kernel_rfl) (by kernel_rfl) (by kernel_rfl) rfl rfl (fun _ _ _ h => h) (Or.inl ⟨by rfl, fun W hW => by go_simp⟩) e0 ?_
    simp only [Act.put, List.setIfInBounds_toArray, List.set_cons_zero, List.set_cons_succ]
    refine until_take (i := 12) (v := .pointer (some ⟨fb, 5, none⟩)) (some 16) [20] rfl rfl (by kernel_rfl) (by kernel_rfl) (by kernel_rfl) (by kernel_rfl) rfl rfl (fun _ _ _ h => h) (Or.inl ⟨by rfl, fun W hW => by go_simp⟩) e0 ?_
    simp only [Act.put, List.setIfInBounds_toArray, List.set_cons_zero, List.set_cons_succ]
    refine until_take (i := 4) (v := u) (some 8) [20] rfl rfl (by kernel_rfl) (by kernel_rfl) (by kernel_rfl) (by kernel_rfl) rfl rfl (fun _ _ _ h => h) (Or.inl ⟨by rfl, fun W hW => by have hc := hW.1; go_simp⟩) e0 ?_
    simp only [Act.put, List.setIfInBounds_toArray, List.set_cons_zero, List.set_cons_succ]
    refine until_take (i := 9) (v := .int .u32 (rc : Int)) (some 13) [20] rfl rfl (by kernel_rfl) (by kernel_rfl) (by kernel_rfl) (by kernel_rfl) rfl rfl (fun _ _ _ h => h) (Or.inl ⟨by rfl, fun W hW => by have hc := hW.2.1; go_simp⟩) e0 ?_
    simp only [Act.put, List.setIfInBounds_toArray, List.set_cons_zero, List.set_cons_succ]
    refine until_take (i := 13) (v := .int .i64 1) (some 17) [20] rfl rfl (by kernel_rfl) (by kernel_rfl) (by kernel_rfl) (by kernel_rfl) rfl rfl (fun _ _ _ h => h) (Or.inl ⟨by rfl, fun W hW => by have hc := hW.2.2.1; go_simp⟩) e0 ?_
    simp only [Act.put, List.setIfInBounds_toArray, List.set_cons_zero, List.set_cons_succ]
    refine until_take (i := 14) (v := .bool false) (some 18) [20] rfl rfl (by kernel_rfl) (by kernel_rfl) (by kernel_rfl) (by kernel_rfl) rfl rfl (fun _ _ _ h => h) (Or.inl ⟨by rfl, fun W hW => by go_simp⟩) e0 ?_
    simp only [Act.put, List.setIfInBounds_toArray, List.set_cons_zero, List.set_cons_succ]
    refine until_take (i := 15) (v := .agg (Oc.mk p rc false false).vals.toArray) (some 19) [20] rfl rfl (by kernel_rfl) (by kernel_rfl) (by kernel_rfl) (by kernel_rfl) rfl rfl (fun _ _ _ h => h) (Or.inl ⟨by rfl, fun W hW => by kernel_rfl⟩) e0 ?_
    simp only [Act.put, List.setIfInBounds_toArray, List.set_cons_zero, List.set_cons_succ]
    refine until_step (i := 16) (by kernel_rfl) rfl rfl (fun K hK => ?_)
    refine step_litG (by rfl) (.tmp 19) 140 208 (Oc.mk p rc false false).vals rfl (litO _ _) rfl _ rfl ?_
    intro w8 x8 b8 t8
    have e8 : w8.cell? ⟨fb, 12, none⟩ = some u ∧ w8.cell? ⟨fb, 6, none⟩ = some (.int .u32 (rc : Int)) ∧ w8.cell? ⟨fb, 5, none⟩ = some (.int .i64 1) ∧ w8.rangeAt g 0 p.vals := ⟨(b8.cell hlt).trans e0.1, (b8.cell hlt).trans e0.2.1, (b8.cell hlt).trans e0.2.2.1, range_below e0.2.2.2 b8⟩
    show K (Act.put _ (some 20) _) _
    refine hK.out _ _ e8 (fun _ => ?_)
    clear hK
    try simp only [Act.put, List.setIfInBounds_toArray, List.set_cons_zero, List.set_cons_succ]
    refine until_step (i := 17) (by kernel_rfl) rfl rfl (fun K hK => ?_)
    refine step_appG rfl (.tmp 8) (.tmp 20) 140 208 rfl (.agg zO.vals.toArray) 9 56 Tryz.underlying140 infoOc rfl (by decide) (by decide) base u ol.length (ov ol) rfl (HF1.out.below b8).row (some ⟨wd.heap.size, 0, none⟩) 1 1 (Oc.mk p rc false false).vals rfl ⟨rfl, Nat.le_refl _, by omega, oc_one _, fun _ => ⟨_, _, rfl, x8.range⟩⟩ (by have := HN.out; omega) (by have := b8.size; omega) ?_
    intro v9 w9 r9 g9 o9
    have e9 : w9.cell? ⟨fb, 12, none⟩ = some u ∧ w9.cell? ⟨fb, 6, none⟩ = some (.int .u32 (rc : Int)) ∧ w9.cell? ⟨fb, 5, none⟩ = some (.int .i64 1) ∧ w9.rangeAt g 0 p.vals := ⟨(g9.cell_far _ (by have := b8.size; show fb < _; omega) (fun e => (HF1.out.below b8).ne_row e.symm)).trans e8.1, (g9.cell_far _ (by have := b8.size; show fb < _; omega) (fun e => (HF1.out.below b8).ne_row e.symm)).trans e8.2.1, (g9.cell_far _ (by have := b8.size; show fb < _; omega) (fun e => (HF1.out.below b8).ne_row e.symm)).trans e8.2.2.1, fun j y hy => (g9.cell_far _ (by have := b8.size; show g < _; omega) (fun e => by have : g < w.heap.size := (own_in H.out.row e.symm).2; omega)).trans (e8.2.2.2 j y hy)⟩
    have HD := Lib.hid (tell_done H.out HP.out HAP.out (hgz ▸ (HB1.out.trans (b8.mono (by omega)))) (by rw [hst, hs1]; rfl : false = _) (hrc ▸ r9) g9 o9)
    obtain ⟨A9, k9, rfl, hk9, hm9⟩ := own_slice r9
    generalize ol.length + 1 = n9 at *
    have c9 := e9.1
    have f9 : w9.frozen? ⟨fb, 12, none⟩ = false := (g9.frozen_far _ (by have := b8.size; show fb < _; omega) (fun e => (HF1.out.below b8).ne_row e.symm)).trans ((HF1.out.below b8).fa.fz 12)
    clear r9 g9 o9 x8 e8
    show K (Act.put _ (some 21) _) _
    refine hK.out _ _ e9 (fun _ => ?_)
    clear hK
    try simp only [Act.put, List.setIfInBounds_toArray, List.set_cons_zero, List.set_cons_succ]
    refine until_take (i := 18) (v := .pointer (some ⟨fb, 0, none⟩)) (some 22) [19, 20] rfl rfl (by kernel_rfl) (by kernel_rfl) (by kernel_rfl) (by kernel_rfl) rfl rfl (fun _ _ _ h => h) (Or.inl ⟨by rfl, fun W hW => by go_simp⟩) e9 ?_
    simp only [Act.put, List.setIfInBounds_toArray, List.set_cons_zero, List.set_cons_succ]
    refine until_take (i := 19) (v := .pointer (some ⟨fb, 12, none⟩)) (some 23) [20] rfl rfl (by kernel_rfl) (by kernel_rfl) (by kernel_rfl) (by kernel_rfl) rfl rfl (fun _ _ _ h => h) (Or.inl ⟨by rfl, fun W hW => by go_simp⟩) e9 ?_
    simp only [Act.put, List.setIfInBounds_toArray, List.set_cons_zero, List.set_cons_succ]
    refine until_last (by kernel_rfl) rfl (fun K hK => ?_)
    go_simp
    refine hK.out _ _ ?_
    clear hK
    try simp only [Act.put, List.setIfInBounds_toArray, List.set_cons_zero, List.set_cons_succ]
    refine wpAnyH_done (by kernel_rfl) ?_ _
    refine NoPanic.normal ?_
    go_wp2_with fail
    go_end0
    exact ⟨rfl, HD.out⟩
  · have e0 : wd.cell? ⟨fb, 12, none⟩ = some u ∧ wd.cell? ⟨fb, 6, none⟩ = some (.int .u32 (rc : Int)) ∧ wd.cell? ⟨fb, 5, none⟩ = some (.int .i64 (st : Int)) ∧ wd.rangeAt g 0 p.vals := ⟨c12, c6, c5, r0⟩
    have n1 : ((st : Int) == 1) = false := by rw [beq_eq_false_iff_ne]; omega
    have n2 : ¬ (st : Int) = 1 := by omega
    have hlt : fb < wd.heap.size := by omega
    clear c12 c6 c5 r0
    refine until_start (fun W => W.cell? ⟨fb, 12, none⟩ = some u ∧ W.cell? ⟨fb, 6, none⟩ = some (.int .u32 (rc : Int)) ∧ W.cell? ⟨fb, 5, none⟩ = some (.int .i64 (st : Int)) ∧ W.rangeAt g 0 p.vals) 20 (by kernel_rfl) (by rw [hwd]; exact e0) (fun _ => ?_)
    rw [hwd]
    clear hwd
    refine until_take (i := 0) (v := .pointer (some ⟨fb, 0, none⟩)) (some 4) [20] rfl rfl (by kernel_rfl) (by kernel_rfl) (by kernel_rfl) (by kernel_rfl) rfl rfl (fun _ _ _ h => h) (Or.inl ⟨by rfl, fun W hW => by go_simp⟩) e0 ?_
    simp only [Act.put, List.setIfInBounds_toArray, List.set_cons_zero, List.set_cons_succ]
    refine until_take (i := 1) (v := .pointer (some ⟨fb, 0, none⟩)) (some 5) [20] rfl rfl (by kernel_rfl) (by kernel_rfl) (by kernel_rfl) (by kernel_rfl) rfl rfl (fun _ _ _ h => h) (Or.inl ⟨by rfl, fun W hW => by go_simp⟩) e0 ?_
    simp only [Act.put, List.setIfInBounds_toArray, List.set_cons_zero, List.set_cons_succ]
    refine until_take (i := 5) (v := .agg p.vals.toArray) (some 9) [20] rfl rfl (by kernel_rfl) (by kernel_rfl) (by kernel_rfl) (by kernel_rfl) rfl rfl (fun _ _ _ h => h) (yieldsIf_load_mid (by rfl) 206 (.tmp 3) rfl _ _ rfl _ _ (fun W hW => hW.2.2.2) Tryz.underlying206 rfl infoPc) e0 ?_
    simp only [Act.put, List.setIfInBounds_toArray, List.set_cons_zero, List.set_cons_succ]
    refine until_take (i := 6) (v := .pointer (some ⟨fb, 0, none⟩)) (some 10) [20] rfl rfl (by kernel_rfl) (by kernel_rfl) (by kernel_rfl) (by kernel_rfl) rfl rfl (fun _ _ _ h => h) (Or.inl ⟨by rfl, fun W hW => by go_simp⟩) e0 ?_
    simp only [Act.put, List.setIfInBounds_toArray, List.set_cons_zero, List.set_cons_succ]
    refine until_take (i := 10) (v := .pointer (some ⟨fb, 0, none⟩)) (some 14) [20] rfl rfl (by kernel_rfl) (by kernel_rfl) (by kernel_rfl) (by kernel_rfl) rfl rfl (fun _ _ _ h => h) (Or.inl ⟨by rfl, fun W hW => by go_simp⟩) e0 ?_
    simp only [Act.put, List.setIfInBounds_toArray, List.set_cons_zero, List.set_cons_succ]
    refine until_take (i := 2) (v := .pointer (some ⟨fb, 0, none⟩)) (some 6) [20] rfl rfl (by kernel_rfl) (by kernel_rfl) (by kernel_rfl) (by kernel_rfl) rfl rfl (fun _ _ _ h => h) (Or.inl ⟨by rfl, fun W hW => by go_simp⟩) e0 ?_
    simp only [Act.put, List.setIfInBounds_toArray, List.set_cons_zero, List.set_cons_succ]
    refine until_take (i := 7) (v := .pointer (some ⟨fb, 0, none⟩)) (some 11) [20] rfl rfl (by kernel_rfl) (by kernel_rfl) (by kernel_rfl) (by kernel_rfl) rfl rfl (fun _ _ _ h => h) (Or.inl ⟨by rfl, fun W hW => by go_simp⟩) e0 ?_
    simp only [Act.put, List.setIfInBounds_toArray, List.set_cons_zero, List.set_cons_succ]
    refine until_take (i := 11) (v := .pointer (some ⟨fb, 0, none⟩)) (some 15) [20] rfl rfl (by kernel_rfl) (by kernel_rfl) (by kernel_rfl) (by kernel_rfl) rfl rfl (fun _ _ _ h => h) (Or.inl ⟨by rfl, fun W hW => by go_simp⟩) e0 ?_
    simp only [Act.put, List.setIfInBounds_toArray, List.set_cons_zero, List.set_cons_succ]
    refine until_take (i := 3) (v := .pointer (some ⟨fb, 12, none⟩)) (some 7) [20] rfl rfl (by kernel_rfl) (by kernel_rfl) (by kernel_rfl) (by kernel_rfl) rfl rfl (fun _ _ _ h => h) (Or.inl ⟨by rfl, fun W hW => by go_simp⟩) e0 ?_
    simp only [Act.put, List.setIfInBounds_toArray, List.set_cons_zero, List.set_cons_succ]
    refine until_take (i := 8) (v := .pointer (some ⟨fb, 6, none⟩)) (some 12) [20] rfl rfl (by kernel_rfl) (by kernel_rfl) (by kernel_rfl) (by kernel_rfl) rfl rfl (fun _ _ _ h => h) (Or.inl ⟨by rfl, fun W hW => by go_simp⟩) e0 ?_
    simp only [Act.put, List.setIfInBounds_toArray, List.set_cons_zero, List.set_cons_succ]
    refine until_take (i := 12) (v := .pointer (some ⟨fb, 5, none⟩)) (some 16) [20] rfl rfl (by kernel_rfl) (by kernel_rfl) (by kernel_rfl) (by kernel_rfl) rfl rfl (fun _ _ _ h => h) (Or.inl ⟨by rfl, fun W hW => by go_simp⟩) e0 ?_
    simp only [Act.put, List.setIfInBounds_toArray, List.set_cons_zero, List.set_cons_succ]
    refine until_take (i := 4) (v := u) (some 8) [20] rfl rfl (by kernel_rfl) (by kernel_rfl) (by kernel_rfl) (by kernel_rfl) rfl rfl (fun _ _ _ h => h) (Or.inl ⟨by rfl, fun W hW => by have hc := hW.1; go_simp⟩) e0 ?_
    simp only [Act.put, List.setIfInBounds_toArray, List.set_cons_zero, List.set_cons_succ]
    refine until_take (i := 9) (v := .int .u32 (rc : Int)) (some 13) [20] rfl rfl (by kernel_rfl) (by kernel_rfl) (by kernel_rfl) (by kernel_rfl) rfl rfl (fun _ _ _ h => h) (Or.inl ⟨by rfl, fun W hW => by have hc := hW.2.1; go_simp⟩) e0 ?_
    simp only [Act.put, List.setIfInBounds_toArray, List.set_cons_zero, List.set_cons_succ]
    refine until_take (i := 13) (v := .int .i64 (st : Int)) (some 17) [20] rfl rfl (by kernel_rfl) (by kernel_rfl) (by kernel_rfl) (by kernel_rfl) rfl rfl (fun _ _ _ h => h) (Or.inl ⟨by rfl, fun W hW => by have hc := hW.2.2.1; go_simp⟩) e0 ?_
    simp only [Act.put, List.setIfInBounds_toArray, List.set_cons_zero, List.set_cons_succ]
    refine until_take (i := 14) (v := .bool true) (some 18) [20] rfl rfl (by kernel_rfl) (by kernel_rfl) (by kernel_rfl) (by kernel_rfl) rfl rfl (fun _ _ _ h => h) (Or.inl ⟨by rfl, fun W hW => by go_simp⟩) e0 ?_
    simp only [Act.put, List.setIfInBounds_toArray, List.set_cons_zero, List.set_cons_succ]
    refine until_take (i := 15) (v := .agg (Oc.mk p rc true false).vals.toArray) (some 19) [20] rfl rfl (by kernel_rfl) (by kernel_rfl) (by kernel_rfl) (by kernel_rfl) rfl rfl (fun _ _ _ h => h) (Or.inl ⟨by rfl, fun W hW => by kernel_rfl⟩) e0 ?_
    simp only [Act.put, List.setIfInBounds_toArray, List.set_cons_zero, List.set_cons_succ]
    refine until_step (i := 16) (by kernel_rfl) rfl rfl (fun K hK => ?_)
    refine step_litG (by rfl) (.tmp 19) 140 208 (Oc.mk p rc true false).vals rfl (litO _ _) rfl _ rfl ?_
    intro w8 x8 b8 t8
    have e8 : w8.cell? ⟨fb, 12, none⟩ = some u ∧ w8.cell? ⟨fb, 6, none⟩ = some (.int .u32 (rc : Int)) ∧ w8.cell? ⟨fb, 5, none⟩ = some (.int .i64 (st : Int)) ∧ w8.rangeAt g 0 p.vals := ⟨(b8.cell hlt).trans e0.1, (b8.cell hlt).trans e0.2.1, (b8.cell hlt).trans e0.2.2.1, range_below e0.2.2.2 b8⟩
    show K (Act.put _ (some 20) _) _
    refine hK.out _ _ e8 (fun _ => ?_)
    clear hK
    try simp only [Act.put, List.setIfInBounds_toArray, List.set_cons_zero, List.set_cons_succ]
    refine until_step (i := 17) (by kernel_rfl) rfl rfl (fun K hK => ?_)
    refine step_appG rfl (.tmp 8) (.tmp 20) 140 208 rfl (.agg zO.vals.toArray) 9 56 Tryz.underlying140 infoOc rfl (by decide) (by decide) base u ol.length (ov ol) rfl (HF1.out.below b8).row (some ⟨wd.heap.size, 0, none⟩) 1 1 (Oc.mk p rc true false).vals rfl ⟨rfl, Nat.le_refl _, by omega, oc_one _, fun _ => ⟨_, _, rfl, x8.range⟩⟩ (by have := HN.out; omega) (by have := b8.size; omega) ?_
    intro v9 w9 r9 g9 o9
    have e9 : w9.cell? ⟨fb, 12, none⟩ = some u ∧ w9.cell? ⟨fb, 6, none⟩ = some (.int .u32 (rc : Int)) ∧ w9.cell? ⟨fb, 5, none⟩ = some (.int .i64 (st : Int)) ∧ w9.rangeAt g 0 p.vals := ⟨(g9.cell_far _ (by have := b8.size; show fb < _; omega) (fun e => (HF1.out.below b8).ne_row e.symm)).trans e8.1, (g9.cell_far _ (by have := b8.size; show fb < _; omega) (fun e => (HF1.out.below b8).ne_row e.symm)).trans e8.2.1, (g9.cell_far _ (by have := b8.size; show fb < _; omega) (fun e => (HF1.out.below b8).ne_row e.symm)).trans e8.2.2.1, fun j y hy => (g9.cell_far _ (by have := b8.size; show g < _; omega) (fun e => by have : g < w.heap.size := (own_in H.out.row e.symm).2; omega)).trans (e8.2.2.2 j y hy)⟩
    have HD := Lib.hid (tell_done H.out HP.out HAP.out (hgz ▸ (HB1.out.trans (b8.mono (by omega)))) (by rw [hst]; exact (decide_eq_true hs1).symm : true = _) (hrc ▸ r9) g9 o9)
    obtain ⟨A9, k9, rfl, hk9, hm9⟩ := own_slice r9
    generalize ol.length + 1 = n9 at *
    have c9 := e9.1
    have f9 : w9.frozen? ⟨fb, 12, none⟩ = false := (g9.frozen_far _ (by have := b8.size; show fb < _; omega) (fun e => (HF1.out.below b8).ne_row e.symm)).trans ((HF1.out.below b8).fa.fz 12)
    clear r9 g9 o9 x8 e8
    show K (Act.put _ (some 21) _) _
    refine hK.out _ _ e9 (fun _ => ?_)
    clear hK
    try simp only [Act.put, List.setIfInBounds_toArray, List.set_cons_zero, List.set_cons_succ]
    refine until_take (i := 18) (v := .pointer (some ⟨fb, 0, none⟩)) (some 22) [19, 20] rfl rfl (by kernel_rfl) (by kernel_rfl) (by kernel_rfl) (by kernel_rfl) rfl rfl (fun _ _ _ h => h) (Or.inl ⟨by rfl, fun W hW => by go_simp⟩) e9 ?_
    simp only [Act.put, List.setIfInBounds_toArray, List.set_cons_zero, List.set_cons_succ]
    refine until_take (i := 19) (v := .pointer (some ⟨fb, 12, none⟩)) (some 23) [20] rfl rfl (by kernel_rfl) (by kernel_rfl) (by kernel_rfl) (by kernel_rfl) rfl rfl (fun _ _ _ h => h) (Or.inl ⟨by rfl, fun W hW => by go_simp⟩) e9 ?_
    simp only [Act.put, List.setIfInBounds_toArray, List.set_cons_zero, List.set_cons_succ]
    refine until_last (by kernel_rfl) rfl (fun K hK => ?_)
    go_simp
    refine hK.out _ _ ?_
    clear hK
    try simp only [Act.put, List.setIfInBounds_toArray, List.set_cons_zero, List.set_cons_succ]
    refine wpAnyH_done (by kernel_rfl) ?_ _
    refine NoPanic.normal ?_
    go_wp2_with fail
    go_end0
    exact ⟨rfl, HD.out⟩
theorem TellP.left {p : Pc} {w' : World} (t : TellP base w s x p w') (hb : ∀ g, p.blk = some g → s.T g ∨ w.heap.size ≤ g) : Left base w s (x.tell p.key) w' := by
  obtain ⟨u, ol, f, c, n, o⟩ := t
  refine ⟨{ s with ov := u, ol := ol }, rfl, f, c.mono (fun g _ e => by rcases e with e | e; exact .inl e; exact .inr (.inr (.inl e))), fun g hg => ?_⟩
  rcases hg with e | hg | hg | ⟨q, hq, hg⟩
  · exact .inl (.inl e)
  · exact .inl (.inr (.inl hg))
  · rcases n with n | ⟨g', n, hl⟩
    · exact .inl (.inr (.inr (.inl (n ▸ hg))))
    · have hg : u.ownBlock = some g := hg
      rw [n] at hg
      injection hg with hg
      exact .inr (hg ▸ hl)
  · rcases o q hq with h | h
    · exact .inl (.inr (.inr (.inr ⟨q, h, hg⟩)))
    · exact hb g (by rw [← h]; exact hg)

/-- A piece without anything but its place. -/
def tP (seq : Nat) : Pc := { zP with seq := seq }
def tK (seq : Nat) : Ky := ⟨seq, false, false, 0, false, []⟩
theorem tP_key (seq : Nat) : (tP seq).key = tK seq := rfl
theorem tP_blk (seq : Nat) : (tP seq).blk = none := rfl
theorem tP_ok {base : Nat} {w : World} {seq : Nat} (h : seq < 4294967296) : PO base w (tP seq) := ⟨h, ⟨by show (-9223372036854775808 : Int) ≤ 0; decide, by show (0 : Int) ≤ 9223372036854775807; decide⟩, World.ownsRow_nil _ _ _ _⟩
set_option maxHeartbeats 1600000 in
theorem tellAt_any (h : Fl base w s x) (q : Nat) (hq : q < 4294967296) (hn : x.os.length ≤ 549755813888) :
    Calls Tryz.prog 151 #[ptr s.fb, .int .u32 (q : Int)] w fun e w' => e = .returned (.tuple #[]) ∧ Left base w s (x.tell (tK q)) w' := by
  have HT := Lib.hid (tell_any h (tP q) (tP_ok hq) (fun g hg => by rw [tP_blk] at hg; cases hg) hn)
  clear h hn
  unfold ptr at *
  go_enter Tryz.func151, Tryz.ntmps151
  go_wp2_with fail
  refine HT.out.mono ?_
  rintro e w1 ⟨rfl, t⟩
  have HL := Lib.hid (t.left (fun g hg => by rw [tP_blk] at hg; cases hg))
  clear t
  go_wp2_with fail
  go_end0
  exact ⟨rfl, HL.out⟩
end
end Go.Proofs.YtiehngeeamhlmaaGreatDoor.LF

/- The document's manager in memory: its calls that tell and take back. Conditions: it stands. -/
import Derived.Test.YtpkhalneclmoeaaPaM
namespace Go.Proofs.Ytpkhalneclmoeaa
set_option linter.unusedVariables false
set_option linter.unusedSimpArgs false
open Go.RowKit Go.Lib

theorem adr_congr {f g : Nat → Bool} {n : Nat} (e : ∀ k, k < n → f k = g k) : adr f n = adr g n := by
  unfold adr
  rw [List.filter_congr fun x hx => e x (List.mem_range.1 hx)]
theorem adr_in {f : Nat → Bool} {k n : Nat} (hk : k < n) : decide ((k : Int) ∈ adr f n) = f k := by
  have : (k : Int) ∈ adr f n ↔ f k = true := by
    rw [adr_mem]
    constructor
    · rintro ⟨i, hi, h, e⟩
      obtain rfl : k = i := by omega
      exact h
    · intro h
      exact ⟨k, hk, h, rfl⟩
  cases hf : f k
  · exact decide_eq_false fun h => by rw [this.1 h] at hf; cases hf
  · exact decide_eq_true (this.2 hf)
theorem adr_mor (f : Nat → Bool) (i : Nat) : adr (mor (adr f 4) (i : Int)) 4 = adr (upd f i true) 4 := adr_congr fun k hk => by
  unfold mor upd
  rw [adr_in hk]
  by_cases e : k = i
  · rw [if_pos e, decide_eq_true (by omega)]
    rfl
  · rw [if_neg e, decide_eq_false (by omega)]
    rfl
theorem adr_less (f : Nat → Bool) (i n : Nat) : (adr f n).filter (fun z => !decide (z = (i : Int))) = adr (upd f i false) n := by
  unfold adr
  rw [List.filter_map, List.filter_filter]
  congr 1
  refine List.filter_congr fun k _ => ?_
  unfold upd
  by_cases e : k = i
  · simp [e]
  · have e2 : ¬ (k : Int) = (i : Int) := by omega
    simp [e, e2]

/-- Where the document's manager has its lists. -/
structure Rx where
  oA : Option Addr
  on : Nat
  oc : Nat
  tA : Option Addr
  tn : Nat
  tc : Nat
  lA : Option Addr
  ln : Nat
  lc : Nat
def Rx.vals (y : Rx) (m : Nat) : List Value := [.slice y.oA y.on y.oc, .slice y.tA y.tn y.tc, .slice y.lA y.ln y.lc, .int .i64 (m : Int)]
/-- What its calls may write. -/
def Rx.T (y : Rx) (xb : Nat) (k : Nat) : Prop := k = xb ∨ (Value.slice y.lA y.ln y.lc).ownBlock = some k
structure Rf (base : Nat) (w : World) (xb : Nat) (p : Pm) (L : List (Int × Int)) (y : Rx) : Prop where
  blk : Bk w xb 56 (y.vals p.mo)
  o : w.ownsRow base 3 1 (.slice y.oA y.on y.oc) y.on (iv .i64 (adr p.ow 4))
  t : w.ownsRow base 3 1 (.slice y.tA y.tn y.tc) y.tn (iv .i64 (adr p.ot 4))
  l : w.ownsRow base 48 2 (.slice y.lA y.ln y.lc) y.ln (pv L)
  nd : L.Nodup
  mem : ∀ x, x ∈ L ↔ x ∈ prs p.fl 16
theorem own_type {w : World} {base size : Nat} {e : TypeId} {v : Value} {n : Nat} {xs : List Value} (h : w.ownsRow base e size v n xs) {b : Nat} {t : TypeId} {vs : List Value} (k : Bk w b t vs) (ht : t ≠ e) : v.ownBlock ≠ some b := fun hb => by
  obtain ⟨cs, hc⟩ := ch_ownrow h hb
  have := Option.some.inj (Eq.trans (Eq.symm k) hc)
  injection this with _ h2 _
  exact ht h2
theorem own_apart {w : World} {base size size' : Nat} {e e' : TypeId} {v v' : Value} {n n' : Nat} {xs xs' : List Value} (h : w.ownsRow base e size v n xs) (h' : w.ownsRow base e' size' v' n' xs') (ht : e ≠ e') {b : Nat} (hb : v.ownBlock = some b) : v'.ownBlock ≠ some b := fun hb' => by
  obtain ⟨cs, hc⟩ := ch_ownrow h hb
  obtain ⟨cs', hc'⟩ := ch_ownrow h' hb'
  have := Option.some.inj (Eq.trans (Eq.symm hc) hc')
  injection this with _ h2 _
  exact ht h2
theorem St.bk {w : World} {b : Nat} {p : Pm} (h : St w b p) : Bk w b 67 p.cs.toList := by
  unfold Bk
  rw [Array.toArray_toList]
  exact h
section
variable {base : Nat} {w w' : World} {xb : Nat} {p : Pm} {L : List (Int × Int)} {y : Rx}
theorem Rf.len (h : Rf base w xb p L y) : L.length = p.cnt := same_len h.nd (prs_nodup _ _) h.mem
theorem Rf.ln (h : Rf base w xb p L y) : y.ln = p.cnt := (own_pairs h.l).1.symm.trans h.len
theorem cnt_le (p : Pm) : p.cnt ≤ 16 := prs_len _ _
theorem Rf.ch (h : Rf base w xb p L y) {m : Nat → Prop} (k : Ch w w' m) (hx : ¬ m xb) (ho : ∀ g, (Value.slice y.oA y.on y.oc).ownBlock = some g → ¬ m g) (ht : ∀ g, (Value.slice y.tA y.tn y.tc).ownBlock = some g → ¬ m g) (hl : ∀ g, (Value.slice y.lA y.ln y.lc).ownBlock = some g → ¬ m g) : Rf base w' xb p L y :=
  ⟨h.blk.ch k hx, own_ch2 h.o k ho, own_ch2 h.t k ht, own_ch2 h.l k hl, h.nd, h.mem⟩
theorem Rf.below (h : Rf base w xb p L y) (k : Below w.heap.size w w') : Rf base w' xb p L y :=
  ⟨h.blk.below k, own_below h.o k, own_below h.t k, own_below h.l k, h.nd, h.mem⟩
theorem Rf.drewN (h : Rf base w xb p L y) (n : Nat) : Rf base (w.drewN n) xb p L y := h.below (below_dn (Below.refl _ _) n)
/-- A block of another type is none of its. -/
theorem Rf.apart (h : Rf base w xb p L y) {b : Nat} {t : TypeId} {vs : List Value} (k : Bk w b t vs) (h1 : t ≠ 56) (h2 : t ≠ 48) : ¬ y.T xb b := by
  rintro (e | e)
  · exact k.ne h.blk h1 e
  · exact own_type h.l k h2 e
/-- Another block, of another type, was written. -/
theorem Rf.far (h : Rf base w xb p L y) {b : Nat} {t : TypeId} {vs : List Value} (k : Bk w b t vs) (c : Ch w w' (fun x => x = b)) (h1 : t ≠ 56) (h2 : t ≠ 48) (h3 : t ≠ 3) : Rf base w' xb p L y :=
  h.ch c (fun e => k.ne h.blk h1 e.symm) (fun g hg e => own_type h.o k h3 (by rw [hg, e])) (fun g hg e => own_type h.t k h3 (by rw [hg, e])) (fun g hg e => own_type h.l k h2 (by rw [hg, e]))
/-- Its own block was written. -/
theorem Rf.own_far (h : Rf base w xb p L y) (c : Ch w w' (fun x => x = xb)) : (w'.ownsRow base 3 1 (.slice y.oA y.on y.oc) y.on (iv .i64 (adr p.ow 4))) ∧ (w'.ownsRow base 3 1 (.slice y.tA y.tn y.tc) y.tn (iv .i64 (adr p.ot 4))) ∧ (w'.ownsRow base 48 2 (.slice y.lA y.ln y.lc) y.ln (pv L)) :=
  ⟨own_ch2 h.o c (fun g hg e => own_type h.o h.blk (by decide) (by rw [hg, e])), own_ch2 h.t c (fun g hg e => own_type h.t h.blk (by decide) (by rw [hg, e])), own_ch2 h.l c (fun g hg e => own_type h.l h.blk (by decide) (by rw [hg, e]))⟩
theorem Rf.setO (h : Rf base w xb p L y) {A : Option Addr} {n c i : Nat} {b : Bool} (o : w.ownsRow base 3 1 (.slice A n c) n (iv .i64 (adr (upd p.ow i b) 4))) : Rf base (w.setCell ⟨xb, 0, none⟩ (.slice A n c)) xb (p.setO i b) L { y with oA := A, on := n, oc := c } := by
  obtain ⟨h1, h2, h3⟩ := h.own_far (ch_set (b := xb) (k := 0) (v := .slice A n c))
  exact ⟨h.blk.set 0 (.slice A n c), own_ch2 o ch_set (fun g hg e => own_type o h.blk (by decide) (by rw [hg, e])), h2, h3, h.nd, h.mem⟩
theorem Rf.setT (h : Rf base w xb p L y) {A : Option Addr} {n c i : Nat} {b : Bool} (o : w.ownsRow base 3 1 (.slice A n c) n (iv .i64 (adr (upd p.ot i b) 4))) : Rf base (w.setCell ⟨xb, 1, none⟩ (.slice A n c)) xb (p.setT i b) L { y with tA := A, tn := n, tc := c } := by
  obtain ⟨h1, h2, h3⟩ := h.own_far (ch_set (b := xb) (k := 1) (v := .slice A n c))
  exact ⟨h.blk.set 1 (.slice A n c), h1, own_ch2 o ch_set (fun g hg e => own_type o h.blk (by decide) (by rw [hg, e])), h3, h.nd, h.mem⟩
theorem Rf.ro (h : Rf base w xb p L y) : RI .i64 w y.oA y.on y.oc (adr p.ow 4) := by
  obtain ⟨A, c, e, r, -⟩ := RI.of_own h.o
  injection e with e1 _ e2
  subst e1 e2
  exact r
theorem Rf.rt (h : Rf base w xb p L y) : RI .i64 w y.tA y.tn y.tc (adr p.ot 4) := by
  obtain ⟨A, c, e, r, -⟩ := RI.of_own h.t
  injection e with e1 _ e2
  subst e1 e2
  exact r
theorem Rf.rl (h : Rf base w xb p L y) : PS w y.lA y.ln y.lc L := by
  obtain ⟨A, c, e, r⟩ := PS.of_own h.l
  injection e with e1 _ e2
  subst e1 e2
  exact r
theorem Rf.on4 (h : Rf base w xb p L y) : y.on ≤ 4 := by have := h.ro.len; have := adr_len p.ow 4; omega
theorem Rf.tn4 (h : Rf base w xb p L y) : y.tn ≤ 4 := by have := h.rt.len; have := adr_len p.ot 4; omega
theorem Rf.c0 (h : Rf base w xb p L y) : w.cell? ⟨xb, 0, none⟩ = some (.slice y.oA y.on y.oc) := h.blk.cell 0
theorem Rf.c1 (h : Rf base w xb p L y) : w.cell? ⟨xb, 1, none⟩ = some (.slice y.tA y.tn y.tc) := h.blk.cell 1
theorem Rf.c2 (h : Rf base w xb p L y) : w.cell? ⟨xb, 2, none⟩ = some (.slice y.lA y.ln y.lc) := h.blk.cell 2
theorem Rf.c3 (h : Rf base w xb p L y) : w.cell? ⟨xb, 3, none⟩ = some (.int .i64 (p.mo : Int)) := h.blk.cell 3
theorem Rf.has_o (h : Rf base w xb p L y) {i : Nat} (hi : i < 4) : Calls Try.prog 32 #[.slice y.oA y.on y.oc, .int .i64 (i : Int)] w fun e w' => e = .returned (.bool (p.ow i)) ∧ w' = w := by
  have := has_any h.ro (i : Int)
  rwa [adr_in hi] at this
theorem Rf.has_t (h : Rf base w xb p L y) {i : Nat} (hi : i < 4) : Calls Try.prog 32 #[.slice y.tA y.tn y.tc, .int .i64 (i : Int)] w fun e w' => e = .returned (.bool (p.ot i)) ∧ w' = w := by
  have := has_any h.rt (i : Int)
  rwa [adr_in hi] at this
end

/-- What a call of the document's leaves. -/
def LeftR (base : Nat) (w : World) (xb : Nat) (y : Rx) (p' : Pm) (w' : World) : Prop := ∃ L' y', Rf base w' xb p' L' y' ∧ Ch w w' (y.T xb)
def DidR (base : Nat) (w : World) (xb : Nat) (y : Rx) (v : Value) (p' : Pm) (e : Ending) (w' : World) : Prop := e = .returned v ∧ LeftR base w xb y p' w'
def DidNR (base : Nat) (w : World) (xb : Nat) (y : Rx) (p' : Pm) (e : Ending) (w' : World) : Prop := (∃ v, e = .returned v) ∧ LeftR base w xb y p' w'
theorem chT {w w' : World} {y : Rx} {xb k : Nat} {v : Value} (b : Below w.heap.size w w') : Ch w (w'.setCell ⟨xb, k, none⟩ v) (y.T xb) := (Ch.of_below _ b).then_ ((ch_set (b := xb)).mono fun _ _ e => .inl e)

theorem rtell_any {base : Nat} {w : World} {xb : Nat} {p : Pm} {L : List (Int × Int)} {y : Rx} (h : Rf base w xb p L y) (hb : base ≤ w.heap.size) (x : Int) : Calls Try.prog 11 #[ptr xb, .int .i64 x] w (DidR base w xb y (.int .i64 (p.tellE x)) (p.tellS x)) := by
  have HX := Lib.hid (rmay_any x w)
  have c0 := h.c0
  have f0 := h.blk.fz 0
  have HR := Lib.hid h
  unfold ptr
  cases hm : mb x
  · rw [hm] at HX
    rw [tellE_no hm, tellS_no hm]
    clear h hm c0 f0
    go_enter Try.func11, Try.ntmps11
    go_wp2_with fail
    refine (HX.out).mono ?_
    rintro e w1 ⟨rfl, rfl⟩
    go_wp2_with fail
    go_ret
    exact ⟨rfl, L, y, HR.out, Ch.refl _ _⟩
  · rw [hm] at HX
    obtain ⟨i, rfl, hi⟩ := mb_nat hm
    have HH := Lib.hid (h.has_o hi)
    have HMO := Lib.hid (more_any h.ro (i : Int))
    rw [adr_mor] at HMO
    rw [tellE_yes hi, tellS_yes hi]
    have HI := Lib.hid (@Pm.setO_same p i true)
    have HBB := Lib.hid hb
    clear h hm hb
    cases hp : p.ow i
    · rw [hp] at HH
      rw [if_neg (show ¬ (false = true) from by decide)]
      clear hp HI
      go_enter Try.func11, Try.ntmps11
      go_wp2_with fail
      refine (HX.out).mono ?_
      rintro e w1 ⟨rfl, rfl⟩
      go_wp2_with fail
      refine (HH.out).mono ?_
      rintro e w1 ⟨rfl, rfl⟩
      go_wp2_with fail
      refine (HMO.out).mono ?_
      rintro e w2 ⟨A, n, c, rfl, o2, b2⟩
      have HO := Lib.hid (own_mono2 o2 HBB.out)
      have HR2 := Lib.hid (HR.out.below b2)
      have HB2 := Lib.hid b2
      have c2 := HR2.out.c0
      have f2 := HR2.out.blk.fz 0
      clear o2 b2 c0 f0
      go_wp2_with fail
      go_ret
      exact ⟨rfl, L, _, HR2.out.setO HO.out, chT HB2.out⟩
    · rw [hp] at HH
      rw [if_pos rfl, HI.out hp]
      clear hp HI
      go_enter Try.func11, Try.ntmps11
      go_wp2_with fail
      refine (HX.out).mono ?_
      rintro e w1 ⟨rfl, rfl⟩
      go_wp2_with fail
      refine (HH.out).mono ?_
      rintro e w1 ⟨rfl, rfl⟩
      go_wp2_with fail
      go_ret
      exact ⟨rfl, L, y, HR.out, Ch.refl _ _⟩

theorem runtell_any {base : Nat} {w : World} {xb : Nat} {p : Pm} {L : List (Int × Int)} {y : Rx} (h : Rf base w xb p L y) (hb : base ≤ w.heap.size) (x : Int) : Calls Try.prog 13 #[ptr xb, .int .i64 x] w (DidR base w xb y (.int .i64 (p.untE x)) (p.untS x)) := by
  have HX := Lib.hid (rmay_any x w)
  have c0 := h.c0
  have f0 := h.blk.fz 0
  have HR := Lib.hid h
  unfold ptr
  cases hm : mb x
  · rw [hm] at HX
    rw [untE_no hm, untS_no hm]
    clear h hm c0 f0
    go_enter Try.func13, Try.ntmps13
    go_wp2_with fail
    refine (HX.out).mono ?_
    rintro e w1 ⟨rfl, rfl⟩
    go_wp2_with fail
    go_ret
    exact ⟨rfl, L, y, HR.out, Ch.refl _ _⟩
  · rw [hm] at HX
    obtain ⟨i, rfl, hi⟩ := mb_nat hm
    have HH := Lib.hid (h.has_o hi)
    have HMO := Lib.hid (less_any h.ro (by have := h.on4; omega) (i : Int))
    rw [adr_less] at HMO
    rw [untE_yes hi, untS_yes hi]
    have HI := Lib.hid (@Pm.setO_same p i false)
    have HBB := Lib.hid hb
    clear h hm hb
    cases hp : p.ow i
    · rw [hp] at HH
      rw [if_neg (show ¬ (false = true) from by decide), HI.out hp]
      clear hp HI
      go_enter Try.func13, Try.ntmps13
      go_wp2_with fail
      refine (HX.out).mono ?_
      rintro e w1 ⟨rfl, rfl⟩
      go_wp2_with fail
      refine (HH.out).mono ?_
      rintro e w1 ⟨rfl, rfl⟩
      go_wp2_with fail
      go_ret
      exact ⟨rfl, L, y, HR.out, Ch.refl _ _⟩
    · rw [hp] at HH
      rw [if_pos rfl]
      clear hp HI
      go_enter Try.func13, Try.ntmps13
      go_wp2_with fail
      refine (HX.out).mono ?_
      rintro e w1 ⟨rfl, rfl⟩
      go_wp2_with fail
      refine (HH.out).mono ?_
      rintro e w1 ⟨rfl, rfl⟩
      go_wp2_with fail
      refine (HMO.out).mono ?_
      rintro e w2 ⟨A, n, c, rfl, o2, b2⟩
      have HO := Lib.hid (own_mono2 o2 HBB.out)
      have HR2 := Lib.hid (HR.out.below b2)
      have HB2 := Lib.hid b2
      have c2 := HR2.out.c0
      have f2 := HR2.out.blk.fz 0
      clear o2 b2 c0 f0
      go_wp2_with fail
      go_ret
      exact ⟨rfl, L, _, HR2.out.setO HO.out, chT HB2.out⟩

theorem rtold_any {base : Nat} {w : World} {xb : Nat} {p : Pm} {L : List (Int × Int)} {y : Rx} (h : Rf base w xb p L y) (hb : base ≤ w.heap.size) (x : Int) : Calls Try.prog 15 #[ptr xb, .int .i64 x] w (DidNR base w xb y (p.toldS x)) := by
  have HX := Lib.hid (rmay_any x w)
  have c0 := h.c1
  have HR := Lib.hid h
  unfold ptr
  cases hm : mb x
  · rw [hm] at HX
    rw [toldS_no hm]
    clear h hm c0
    go_enter Try.func15, Try.ntmps15
    go_wp2_with fail
    refine (HX.out).mono ?_
    rintro e w1 ⟨rfl, rfl⟩
    go_wp2_with fail
    go_end0
    exact ⟨⟨_, rfl⟩, L, y, HR.out, Ch.refl _ _⟩
  · rw [hm] at HX
    obtain ⟨i, rfl, hi⟩ := mb_nat hm
    have HMO := Lib.hid (more_any h.rt (i : Int))
    rw [adr_mor] at HMO
    rw [toldS_yes hi]
    have HBB := Lib.hid hb
    clear h hm hb
    go_enter Try.func15, Try.ntmps15
    go_wp2_with fail
    refine (HX.out).mono ?_
    rintro e w1 ⟨rfl, rfl⟩
    go_wp2_with fail
    refine (HMO.out).mono ?_
    rintro e w2 ⟨A, n, c, rfl, o2, b2⟩
    have HO := Lib.hid (own_mono2 o2 HBB.out)
    have HR2 := Lib.hid (HR.out.below b2)
    have HB2 := Lib.hid b2
    have c2 := HR2.out.c1
    have f2 := HR2.out.blk.fz 1
    clear o2 b2 c0
    go_wp2_with fail
    go_end0
    exact ⟨⟨_, rfl⟩, L, _, HR2.out.setT HO.out, chT HB2.out⟩
end Go.Proofs.Ytpkhalneclmoeaa

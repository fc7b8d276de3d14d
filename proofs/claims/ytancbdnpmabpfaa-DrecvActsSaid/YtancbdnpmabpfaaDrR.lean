/- The document's receiver in memory; its Edge, Next, New, Tell. Conditions: it stands. -/
import Derived.Test.YtancbdnpmabpfaaDrC
namespace Go.Proofs.Ytancbdnpmabpfaa
set_option linter.unusedVariables false
set_option linter.unusedSimpArgs false
open Go.RowKit Go.Lib

theorem own_slice {w : World} {base : Nat} {e : TypeId} {size n : Nat} {v : Value} {xs : List Value} (h : w.ownsRow base e size v n xs) : ∃ A c, v = .slice A n c ∧ n ≤ c ∧ c ≤ 9223372036854775807 := by
  rcases h.2 with ⟨rfl, rfl⟩ | ⟨g, cap, cur, rfl, _, _, h1, h2, _⟩
  · exact ⟨none, 0, rfl, Nat.le_refl _, by omega⟩
  · exact ⟨_, cap, rfl, h1, by unfold maxLen at h2; omega⟩
/-- Where the document's receiver lies; its rows. -/
structure Ry where
  av : Value
  iv : Value
  lb : List UInt8
  li : List Bool
def Ry.T (xb : Nat) (y : Ry) (k : Nat) : Prop := k = xb ∨ y.av.ownBlock = some k ∨ y.iv.ownBlock = some k
def rcells (y : Ry) (rd en : Nat) : Array Value := #[y.av, y.iv, .int .i64 (rd : Int), .int .i64 (en : Int)]
structure Rf (base : Nat) (w : World) (xb : Nat) (y : Ry) (M : Nat → Option UInt8) (rd en : Nat) : Prop where
  blk : w.heap[xb]? = some (.cells (rcells y rd en) 53 (0, 0))
  b : w.ownsRow base 5 1 y.av y.lb.length (bv y.lb)
  i : w.ownsRow base 4 1 y.iv y.li.length (bo y.li)
  len : y.lb.length = y.li.length
  ri : ∀ j, j < y.li.length → y.li.getD j false = inM M (j + 1)
  rb : ∀ j b, j < y.li.length → M (j + 1) = some b → y.lb.getD j 0 = b
  top : ∀ n, y.li.length < n → M n = none
  cap : y.li.length ≤ rd + 33
  lo : base ≤ xb
structure LeftR (base : Nat) (w : World) (xb : Nat) (y : Ry) (d' : Dr) (w' : World) (y' : Ry) : Prop where
  s : Rf base w' xb y' d'.M d'.rd d'.en
  ch : Ch w w' (y.T xb)
  new : ∀ k, y'.T xb k → y.T xb k ∨ w.heap.size ≤ k
section
variable {base : Nat} {w w' : World} {xb : Nat} {y : Ry} {M : Nat → Option UInt8} {rd en : Nat} {d d' : Dr}
theorem Rf.lt (h : Rf base w xb y M rd en) : xb < w.heap.size := (Array.getElem?_eq_some_iff.1 h.blk).1
theorem Rf.cell (h : Rf base w xb y M rd en) (j : Nat) : w.cell? ⟨xb, j, none⟩ = (rcells y rd en)[j]? := by rw [cell_of_row w xb j _ _ (0, 0) h.blk]
theorem Rf.fz (h : Rf base w xb y M rd en) (j : Nat) : w.frozen? ⟨xb, j, none⟩ = false := frozen_of h.blk j
theorem Rf.in_ (h : Rf base w xb y M rd en) {k : Nat} (hk : y.T xb k) : base ≤ k ∧ k < w.heap.size := by
  rcases hk with rfl | hk | hk
  · exact ⟨h.lo, h.lt⟩
  · exact own_in h.b hk
  · exact own_in h.i hk
theorem Rf.apart (h : Rf base w xb y M rd en) : y.av.ownBlock ≠ some xb ∧ y.iv.ownBlock ≠ some xb ∧ ∀ g, y.av.ownBlock = some g → y.iv.ownBlock ≠ some g := by
  refine ⟨fun e => ?_, fun e => ?_, fun g e e2 => ?_⟩
  · obtain ⟨cs, h1⟩ := own_obj h.b e
    exact two_types h1 h.blk (by decide)
  · obtain ⟨cs, h1⟩ := own_obj h.i e
    exact two_types h1 h.blk (by decide)
  · obtain ⟨cs, h1⟩ := own_obj h.b e
    obtain ⟨cs', h2⟩ := own_obj h.i e2
    exact two_types h1 h2 (by decide)
theorem Rf.frame (h : Rf base w xb y M rd en) {m : Nat → Prop} (c : Ch w w' m) (hm : ∀ k, y.T xb k → ¬ m k) : Rf base w' xb y M rd en :=
  ⟨(c.block xb h.lt (hm xb (.inl rfl))).trans h.blk, own_ch2 h.b c (fun g hg => hm g (.inr (.inl hg))), own_ch2 h.i c (fun g hg => hm g (.inr (.inr hg))), h.len, h.ri, h.rb, h.top, h.cap, h.lo⟩
theorem Rf.below (h : Rf base w xb y M rd en) (b : Below w.heap.size w w') : Rf base w' xb y M rd en := h.frame (Ch.of_below (fun _ => False) b) (fun _ _ e => e)
theorem Rf.dn (h : Rf base w xb y M rd en) (n : Nat) : Rf base (w.drewN n) xb y M rd en := h.below (below_dn (Below.refl _ _) n)
theorem LeftR.refl (h : Rf base w xb y d.M d.rd d.en) : LeftR base w xb y d w y := ⟨h, Ch.refl _ _, fun _ h => .inl h⟩
theorem LeftR.of_below (h : Rf base w xb y d.M d.rd d.en) (b : Below w.heap.size w w') : LeftR base w xb y d w' y := ⟨h.below b, Ch.of_below _ b, fun _ h => .inl h⟩
theorem LeftR.then_ {w2 : World} {y1 y2 : Ry} {d1 d2 : Dr} (h : LeftR base w xb y d1 w' y1) (k : LeftR base w' xb y1 d2 w2 y2) : LeftR base w xb y d2 w2 y2 :=
  ⟨k.s, h.ch.trans k.ch (fun _ _ x => x) (fun x hx e => (h.new x e).elim id (fun q => absurd hx (by omega))), fun x hx => (k.new x hx).elim (h.new x) (fun q => .inr (Nat.le_trans h.ch.size q))⟩
theorem LeftR.after {w2 : World} {y1 : Ry} {d1 : Dr} (h : LeftR base w xb y d1 w' y1) (b : Below w'.heap.size w' w2) : LeftR base w xb y d1 w2 y1 := h.then_ (LeftR.of_below h.s b)
theorem LeftR.ahead {w0 : World} {y1 : Ry} {d1 : Dr} (h : LeftR base w xb y d1 w' y1) (b : Below w0.heap.size w0 w) : LeftR base w0 xb y d1 w' y1 :=
  ⟨h.s, (Ch.of_below _ b).then_ h.ch, fun k hk => (h.new k hk).imp id (fun q => Nat.le_trans b.size q)⟩
/-- One cell of its own turns. -/
theorem Rf.setc (H : Rf base w xb y M rd en) (j : Nat) (u : Value) {rd' en' : Nat} (hc : rcells y rd' en' = (rcells y rd en).setIfInBounds j u) (hr : rd ≤ rd') : Rf base (w.setCell ⟨xb, j, none⟩ u) xb y M rd' en' ∧ Ch w (w.setCell ⟨xb, j, none⟩ u) (fun k => k = xb) := by
  have c : Ch w (w.setCell ⟨xb, j, none⟩ u) (fun k => k = xb) := Ch.setCell (m := fun k => k = xb) (Ch.refl w _) (fun _ => rfl) _
  obtain ⟨a1, a2, a3⟩ := H.apart
  have hb := blk_set H.blk j u
  rw [← hc] at hb
  exact ⟨⟨hb, own_ch2 H.b c (fun g hg e => a1 (e ▸ hg)), own_ch2 H.i c (fun g hg e => a2 (e ▸ hg)), H.len, H.ri, H.rb, H.top, Nat.le_trans H.cap (by omega), H.lo⟩, c⟩
/-- What a number's place says. -/
theorem Rf.some_le (H : Rf base w xb y M rd en) {n : Nat} (h : (M n).isSome = true) : n ≤ y.li.length := by
  rcases Nat.lt_or_ge y.li.length n with hh | hh
  · rw [H.top n hh] at h
    cases h
  · exact hh
theorem redge_any (H : Rf base w xb y M rd en) (hr : rd ≤ 100000) : Calls Try.prog 31 #[ptr xb] w fun e w' => e = .returned (.int .i64 ((rd + 33 : Nat) : Int)) ∧ w' = w := by
  have c2 := H.cell 2
  unfold rcells at c2
  have hw : IntKind.i64.wrap ((rd : Int) + 33) = ((rd + 33 : Nat) : Int) := by rw [IntKind.wrap_i64]; omega
  generalize rd + 33 = r3 at *
  clear H hr
  unfold ptr
  go_enter Try.func31, Try.ntmps31
  go_wp2_with fail
  go_ret
  exact ⟨rfl, rfl⟩
set_option maxRecDepth 20000 in
set_option maxHeartbeats 1600000 in
theorem rnext_any (H : Rf base w xb y M rd en) (hr : rd ≤ 100000) {nx : Nat} (h1 : 1 ≤ nx) (ha : ∀ n, 1 ≤ n → n < nx → (M n).isSome = true) (hn : M nx = none) : Calls Try.prog 12 #[ptr xb] w fun e w' => e = .returned (.int .i64 (nx : Int)) ∧ w' = w := by
  have c1 := H.cell 1
  unfold rcells at c1
  have HI := Lib.hid H
  obtain ⟨A, c, hv, hcap, hmax⟩ := own_slice H.i
  replace c1 : w.cell? ⟨xb, 1, none⟩ = some (.slice A y.li.length c) := by rw [← hv]; exact c1
  have hlc := H.cap
  have HV := Lib.hid hv
  have HA := Lib.hid ha
  have HN := Lib.hid hn
  have hnl : nx ≤ y.li.length + 1 := by
    rcases Nat.lt_or_ge 1 nx with h | h
    · have := H.some_le (ha (nx - 1) (by omega) (by omega))
      omega
    · omega
  have HLE := Lib.hid (fun n h => H.some_le (n := n) h)
  have HB := Lib.hid (And.intro hlc hr)
  have HMX := Lib.hid hmax
  have hb3 : ∀ q : Nat, q ≤ nx → IntKind.i64.wrap ((q : Int) - 1) = (q : Int) - 1 ∧ IntKind.i64.wrap ((q : Int) + 1) = (q : Int) + 1 := fun q hq => by constructor <;> (rw [IntKind.wrap_i64]; omega)
  have HW := Lib.hid hb3
  clear H hv ha hn hlc hr hmax hb3
  generalize hln : y.li.length = ln at *
  have HL := Lib.hid hln
  clear hln
  unfold ptr
  go_enter Try.func12, Try.ntmps12
  go_wp2_with fail
  go_loopw [3] (fun ix wr => ∃ q : Nat, ix = .int .i64 (q : Int) ∧ 1 ≤ q ∧ q ≤ nx ∧ wr = w) (fun ix _ => nx - (intOf ix).toNat)
  case atStart => exact ⟨1, rfl, Nat.le_refl _, h1, rfl⟩
  case round =>
    obtain ⟨q, rfl, q1, q2, rfl⟩ := hrel
    by_cases hq : q ≤ ln
    · have hqI : (q : Int) ≤ (ln : Int) := by omega
      obtain ⟨g, cap, hv2, -, -, -, x0, -⟩ := own_bool HI.out.i (j := q - 1) (by rw [HL.out]; omega)
      have e := HV.out.symm.trans hv2
      injection e with e1 e2 e3
      subst e1
      have hri := HI.out.ri (q - 1) (by rw [HL.out]; omega)
      rw [hri, show q - 1 + 1 = q from by omega] at x0
      have hw : IntKind.i64.wrap ((q : Int) - 1) = ((q - 1 : Nat) : Int) := by rw [(HW.out q q2).1]; omega
      have hw1 := (HW.out q q2).2
      have hjl : ((q - 1 : Nat) : Int) < (ln : Int) := by omega
      have hjn : q - 1 < ln := by omega
      clear hv2 hri e2 e3
      generalize q - 1 = j at *
      by_cases hlt : q < nx
      · rw [show inM M q = true from HA.out q q1 hlt] at x0
        go_wp2_with fail
        go_roundw
        case rel => exact ⟨q + 1, by go_num, by omega, by omega, trivial⟩
        case measure =>
          show nx - ((q : Int) + 1).toNat < nx - (q : Int).toNat
          omega
      · obtain rfl : q = nx := by omega
        rw [show inM M q = false from by unfold inM; rw [HN.out]; rfl] at x0
        go_wp2_with fail
        go_ret
        exact ⟨rfl, rfl⟩
    · have hqI : ¬ (q : Int) ≤ (ln : Int) := by omega
      obtain rfl : q = nx := by
        rcases Nat.lt_or_ge q nx with h | h
        · exact absurd (HLE.out q (HA.out q q1 h)) hq
        · omega
      go_wp2_with fail
      go_ret
      exact ⟨rfl, rfl⟩

def RNewP (base : Nat) (w : World) (e : Ending) (w' : World) : Prop := ∃ (xb : Nat) (y : Ry), e = .returned (ptr xb) ∧ Rf base w' xb y Dr.new.M Dr.new.rd Dr.new.en ∧ Below w.heap.size w w' ∧ ∀ k, y.T xb k → w.heap.size ≤ k
theorem rnew_any (base : Nat) (w : World) (hb : base ≤ w.heap.size) : Calls Try.prog 10 #[] w (RNewP base w) := by
  have HF : Hid (RNewP base w (.returned (ptr w.heap.size)) (w.alloc (.cells #[.slice none 0 0, .slice none 0 0, .int .i64 0, .int .i64 0] 53))) := by
    refine Lib.hid ⟨w.heap.size, ⟨.slice none 0 0, .slice none 0 0, [], []⟩, rfl, ⟨heap_alloc_new w _, World.ownsRow_nil _ _ _ _, World.ownsRow_nil _ _ _ _, rfl, fun j h => by simp at h, fun j b h => by simp at h, fun _ _ => rfl, by simp, hb⟩, below_a w _, fun k hk => ?_⟩
    rcases hk with hk | hk | hk
    · omega
    · cases hk
    · cases hk
  unfold ptr at *
  go_enter Try.func10, Try.ntmps10
  go_wp2_with fail
  go_ret
  exact HF.out

def RTellP (base : Nat) (w : World) (xb : Nat) (y : Ry) (d : Dr) (x : Int) (e : Ending) (w' : World) : Prop := e = .returned (.bool (d.may x)) ∧ LeftR base w xb y (d.tell x) w' y
theorem rtell_no (H : Rf base w xb y d.M d.rd d.en) {x : Int} (h : d.may x = false) : RTellP base w xb y d x (.returned (.bool false)) w := by
  refine ⟨by rw [h], ?_⟩
  unfold Dr.tell
  rw [h]
  exact LeftR.refl H
theorem rtell_yes (H : Rf base w xb y d.M d.rd d.en) {x : Int} (h : d.may x = true) (h0 : 0 ≤ x) : RTellP base w xb y d x (.returned (.bool true)) (w.setCell ⟨xb, 3, none⟩ (.int .i64 x)) := by
  obtain ⟨r, c⟩ := H.setc 3 (.int .i64 x) (rd' := d.rd) (en' := x.toNat) (by
    show #[_, _, _, Value.int .i64 (x.toNat : Int)] = _
    rw [show (x.toNat : Int) = x from by omega]
    rfl) (Nat.le_refl _)
  refine ⟨by rw [h], ?_⟩
  unfold Dr.tell
  rw [if_pos h]
  exact ⟨r, c.mono fun _ _ e => .inl e, fun _ h => .inl h⟩
set_option maxRecDepth 20000 in
set_option maxHeartbeats 3200000 in
theorem rtell_any (H : Rf base w xb y d.M d.rd d.en) (hok : d.ok) (ht : d.t ≤ 1000) (x : Int) : Calls Try.prog 16 #[ptr xb, .int .i64 x] w (RTellP base w xb y d x) := by
  have h1 := hok.lo
  have h2 := hok.cap
  have h4 := hok.nx_le
  have HN := Lib.hid (rnext_any H (by omega) (by omega) hok.all hok.nxt)
  have HE := Lib.hid (redge_any H (by omega))
  have HI := Lib.hid H
  have HOK := Lib.hid hok
  have c3 := H.cell 3
  have c1 := H.cell 1
  unfold rcells at c3 c1
  by_cases hm1 : (d.nx : Int) ≤ x
  · by_cases hm2 : x ≤ ((d.rd + 33 : Nat) : Int)
    · by_cases hm3 : d.en = 0 ∨ x = (d.en : Int)
      · obtain ⟨X, rfl⟩ : ∃ X : Nat, x = (X : Int) := ⟨x.toNat, by omega⟩
        obtain ⟨A, c, hv, hcap, hmax⟩ := own_slice H.i
        replace c1 : w.cell? ⟨xb, 1, none⟩ = some (.slice A y.li.length c) := by rw [← hv]; exact c1
        have hlc := H.cap
        have HV := Lib.hid hv
        have HY : Hid ((∀ n : Nat, X ≤ n → d.M n = none) → RTellP base w xb y d (X : Int) (.returned (.bool true)) (w.setCell ⟨xb, 3, none⟩ (.int .i64 (X : Int)))) := Lib.hid (fun h => rtell_yes HI.out ((Dr.may_iff HOK.out).2 ⟨hm1, hm2, hm3, fun n hn => h n (by omega)⟩) (by omega))
        have HNO : Hid (∀ n : Nat, X ≤ n → inM d.M n = true → RTellP base w xb y d (X : Int) (.returned (.bool false)) w) := Lib.hid (fun n hn hs => rtell_no HI.out (by
          cases hc : d.may (X : Int) with
          | false => rfl
          | true =>
            have := ((Dr.may_iff HOK.out).1 hc).2.2.2 n (by omega)
            unfold inM at hs
            rw [this] at hs
            cases hs))
        have HTP := Lib.hid H.top
        have f3 := H.fz 3
        have hX1 : 1 ≤ X := by omega
        have g1 : ¬ (X : Int) < (d.nx : Int) := by omega
        have g2 : ¬ ((d.rd + 33 : Nat) : Int) < (X : Int) := by omega
        have g3 : (0 < d.en ∧ (X : Int) = (d.en : Int)) ∨ d.en = 0 := by omega
        have hlb : y.li.length ≤ 40000 := by omega
        have k1 : decide ((X : Int) < (d.nx : Int)) = false := decide_eq_false g1
        have k2 : decide (((d.rd + 33 : Nat) : Int) < (X : Int)) = false := decide_eq_false g2
        have HMX := Lib.hid (And.intro hmax (And.intro hlc hlb))
        have hb3 : ∀ q : Nat, q ≤ y.li.length + X + 1 → IntKind.i64.wrap ((q : Int) - 1) = (q : Int) - 1 ∧ IntKind.i64.wrap ((q : Int) + 1) = (q : Int) + 1 := fun q hq => by constructor <;> (rw [IntKind.wrap_i64]; omega)
        have HW := Lib.hid hb3
        clear H hv hm1 hm2 hm3 hok h1 h2 h4 ht hmax hlc hlb hb3
        generalize d.rd + 33 = r3 at *
        generalize d.nx = nx at *
        generalize hln : y.li.length = ln at *
        have HL := Lib.hid hln
        clear hln
        unfold ptr at *
        have key : ∀ en : Nat, en = d.en → Calls Try.prog 16 #[.pointer (some ⟨xb, 0, none⟩), .int .i64 (X : Int)] w (RTellP base w xb y d (X : Int)) := by
          intro en hen
          rw [← hen] at c3 g3
          clear hen
          rcases g3 with ⟨g3, g4⟩ | g3
          · rw [← g4] at c3
            have g5 : (0 : Int) < (X : Int) := by omega
            have k3 : ((X : Int) != (X : Int)) = false := by simp
            clear g4 g3
            go_enter Try.func16, Try.ntmps16
            go_wp2_with fail
            refine (HN.out).mono ?_
            rintro e w1 ⟨rfl, rfl⟩
            go_wp2_with fail
            refine (HE.out).mono ?_
            rintro e w9 ⟨rfl, rfl⟩
            go_wp2_with fail
            go_loopw [5] (fun ix wr => ∃ q : Nat, ix = .int .i64 (q : Int) ∧ X ≤ q ∧ (∀ n, X ≤ n → n < q → d.M n = none) ∧ wr = w9 ∧ q ≤ ln + X + 1) (fun ix _ => ln + X + 1 - (intOf ix).toNat)
            case atStart => exact ⟨X, rfl, Nat.le_refl _, fun n h1 h2 => absurd h2 (by omega), rfl, by omega⟩
            case round =>
              obtain ⟨q, rfl, q1, q2, rfl, q3⟩ := hrel
              have HQ := Lib.hid q2
              clear q2
              by_cases hq : q ≤ ln
              · have hqI : (q : Int) ≤ (ln : Int) := by omega
                obtain ⟨g, cap, hv2, -, -, -, x0, -⟩ := own_bool HI.out.i (j := q - 1) (by rw [HL.out]; omega)
                have e := HV.out.symm.trans hv2
                injection e with e1 e2 e3
                subst e1
                have hri := HI.out.ri (q - 1) (by rw [HL.out]; omega)
                rw [hri, show q - 1 + 1 = q from by omega] at x0
                have hw : IntKind.i64.wrap ((q : Int) - 1) = ((q - 1 : Nat) : Int) := by rw [(HW.out q q3).1]; omega
                have hw1 := (HW.out q q3).2
                have hjl : ((q - 1 : Nat) : Int) < (ln : Int) := by omega
                have hjn : q - 1 < ln := by omega
                clear hv2 hri e2 e3
                generalize q - 1 = j at *
                cases hb : inM d.M q with
                | true =>
                  have HR := Lib.hid (HNO.out q q1 hb)
                  rw [hb] at x0
                  clear hb
                  go_wp2_with fail
                  go_ret
                  exact HR.out
                | false =>
                  have HB := Lib.hid hb
                  rw [hb] at x0
                  clear hb
                  go_wp2_with fail
                  go_roundw
                  case rel => exact ⟨q + 1, by go_num, by omega, fun n h1 h2 => by
                    rcases Nat.lt_or_ge n q with h | h
                    · exact HQ.out n h1 h
                    · obtain rfl : n = q := by omega
                      have := HB.out
                      unfold inM at this
                      simpa using this, trivial, by omega⟩
                  case measure =>
                    show ln + X + 1 - ((q : Int) + 1).toNat < ln + X + 1 - (q : Int).toNat
                    omega
              · have hqI : ¬ (q : Int) ≤ (ln : Int) := by omega
                have HR := Lib.hid (HY.out (fun n hn => by
                  rcases Nat.lt_or_ge n q with h | h
                  · exact HQ.out n hn h
                  · exact HTP.out n (by omega)))
                go_wp2_with fail
                go_ret
                exact HR.out
          · subst g3
            go_enter Try.func16, Try.ntmps16
            go_wp2_with fail
            refine (HN.out).mono ?_
            rintro e w1 ⟨rfl, rfl⟩
            go_wp2_with fail
            refine (HE.out).mono ?_
            rintro e w9 ⟨rfl, rfl⟩
            go_wp2_with fail
            go_loopw [5] (fun ix wr => ∃ q : Nat, ix = .int .i64 (q : Int) ∧ X ≤ q ∧ (∀ n, X ≤ n → n < q → d.M n = none) ∧ wr = w9 ∧ q ≤ ln + X + 1) (fun ix _ => ln + X + 1 - (intOf ix).toNat)
            case atStart => exact ⟨X, rfl, Nat.le_refl _, fun n h1 h2 => absurd h2 (by omega), rfl, by omega⟩
            case round =>
              obtain ⟨q, rfl, q1, q2, rfl, q3⟩ := hrel
              have HQ := Lib.hid q2
              clear q2
              by_cases hq : q ≤ ln
              · have hqI : (q : Int) ≤ (ln : Int) := by omega
                obtain ⟨g, cap, hv2, -, -, -, x0, -⟩ := own_bool HI.out.i (j := q - 1) (by rw [HL.out]; omega)
                have e := HV.out.symm.trans hv2
                injection e with e1 e2 e3
                subst e1
                have hri := HI.out.ri (q - 1) (by rw [HL.out]; omega)
                rw [hri, show q - 1 + 1 = q from by omega] at x0
                have hw : IntKind.i64.wrap ((q : Int) - 1) = ((q - 1 : Nat) : Int) := by rw [(HW.out q q3).1]; omega
                have hw1 := (HW.out q q3).2
                have hjl : ((q - 1 : Nat) : Int) < (ln : Int) := by omega
                have hjn : q - 1 < ln := by omega
                clear hv2 hri e2 e3
                generalize q - 1 = j at *
                cases hb : inM d.M q with
                | true =>
                  have HR := Lib.hid (HNO.out q q1 hb)
                  rw [hb] at x0
                  clear hb
                  go_wp2_with fail
                  go_ret
                  exact HR.out
                | false =>
                  have HB := Lib.hid hb
                  rw [hb] at x0
                  clear hb
                  go_wp2_with fail
                  go_roundw
                  case rel => exact ⟨q + 1, by go_num, by omega, fun n h1 h2 => by
                    rcases Nat.lt_or_ge n q with h | h
                    · exact HQ.out n h1 h
                    · obtain rfl : n = q := by omega
                      have := HB.out
                      unfold inM at this
                      simpa using this, trivial, by omega⟩
                  case measure =>
                    show ln + X + 1 - ((q : Int) + 1).toNat < ln + X + 1 - (q : Int).toNat
                    omega
              · have hqI : ¬ (q : Int) ≤ (ln : Int) := by omega
                have HR := Lib.hid (HY.out (fun n hn => by
                  rcases Nat.lt_or_ge n q with h | h
                  · exact HQ.out n hn h
                  · exact HTP.out n (by omega)))
                go_wp2_with fail
                go_ret
                exact HR.out
        exact key d.en rfl
      · have hno : d.may x = false := by
          cases hc : d.may x with
          | false => rfl
          | true => exact absurd ((Dr.may_iff hok).1 hc).2.2.1 hm3
        have HR := Lib.hid (rtell_no H hno)
        have g1 : ¬ x < (d.nx : Int) := by omega
        have g2 : ¬ ((d.rd + 33 : Nat) : Int) < x := by omega
        have g3 : (0 : Int) < (d.en : Int) := by omega
        have g4 : ¬ (d.en : Int) = x := by omega
        have k1 : decide (x < (d.nx : Int)) = false := decide_eq_false g1
        have k2 : decide (((d.rd + 33 : Nat) : Int) < x) = false := decide_eq_false g2
        have k3 : ((d.en : Int) != x) = true := by simpa using g4
        clear H hok h1 h2 h4 ht HI HOK hm1 hm2 hm3 hno c1
        generalize d.rd + 33 = r3 at *
        generalize d.nx = nx at *
        unfold ptr at *
        go_enter Try.func16, Try.ntmps16
        go_wp2_with fail
        refine (HN.out).mono ?_
        rintro e w1 ⟨rfl, rfl⟩
        go_wp2_with fail
        refine (HE.out).mono ?_
        rintro e w1 ⟨rfl, rfl⟩
        go_wp2_with fail
        go_ret
        exact HR.out
    · have hno : d.may x = false := by
        cases hc : d.may x with
        | false => rfl
        | true => exact absurd ((Dr.may_iff hok).1 hc).2.1 hm2
      have HR := Lib.hid (rtell_no H hno)
      have g1 : ¬ x < (d.nx : Int) := by omega
      have g2 : ((d.rd + 33 : Nat) : Int) < x := by omega
      have k1 : decide (x < (d.nx : Int)) = false := decide_eq_false g1
      have k2 : decide (((d.rd + 33 : Nat) : Int) < x) = true := decide_eq_true g2
      clear H hok h1 h2 h4 ht HI HOK hm1 hm2 hno c1
      generalize d.rd + 33 = r3 at *
      generalize d.nx = nx at *
      unfold ptr at *
      go_enter Try.func16, Try.ntmps16
      go_wp2_with fail
      refine (HN.out).mono ?_
      rintro e w1 ⟨rfl, rfl⟩
      go_wp2_with fail
      refine (HE.out).mono ?_
      rintro e w1 ⟨rfl, rfl⟩
      go_wp2_with fail
      go_ret
      exact HR.out
  · have hno : d.may x = false := by
      cases hc : d.may x with
      | false => rfl
      | true => exact absurd ((Dr.may_iff hok).1 hc).1 hm1
    have HR := Lib.hid (rtell_no H hno)
    have g1 : x < (d.nx : Int) := by omega
    clear H hok h1 h2 h4 ht HI HOK hm1 hno c1 HE
    generalize d.nx = nx at *
    unfold ptr at *
    go_enter Try.func16, Try.ntmps16
    go_wp2_with fail
    refine (HN.out).mono ?_
    rintro e w1 ⟨rfl, rfl⟩
    go_wp2_with fail
    go_ret
    exact HR.out
end
end Go.Proofs.Ytancbdnpmabpfaa

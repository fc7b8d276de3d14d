/- The document's Put. Conditions: its receiver stands, with at most 999 calls of Put behind it; the bytes lie in older memory, at most 1000; numbers from -1000 to 2^31. -/
import Derived.Test.YtancbdnpmabpfaaDrS
import Derived.Test.YtancbdnpmabpfaaDrN
namespace Go.Proofs.Ytancbdnpmabpfaa
set_option linter.unusedVariables false
set_option linter.unusedSimpArgs false
open Go.RowKit Go.Lib

/-- The document's receiver as a law that began in W keeps it. -/
structure Xv (W w : World) (xb : Nat) (y : Ry) (d : Dr) : Prop where
  s : Rf W.heap.size w xb y d.M d.rd d.en
  bel : Below W.heap.size W w
section
variable {W w w' : World} {xb : Nat} {y y' : Ry} {d d' : Dr}
theorem Xv.step (h : Xv W w xb y d) (l : LeftR W.heap.size w xb y d' w' y') : Xv W w' xb y' d' :=
  ⟨l.s, ((Ch.of_below (y.T xb) h.bel).then_ l.ch).below (fun x hx e => by have := (h.s.in_ e).1; omega)⟩
theorem Xv.below (h : Xv W w xb y d) (b : Below w.heap.size w w') : Xv W w' xb y d := ⟨h.s.below b, h.bel.trans (b.mono h.bel.size)⟩
end
section
variable {base : Nat} {w w' : World} {xb : Nat} {y : Ry} {M : Nat → Option UInt8} {rd en : Nat} {d : Dr}
/-- In the midst of a place more. -/
theorem Rf.pad0 (H : Rf base w xb y M rd en) {w8 w9 : World} {iv : Value} (b8 : Below w.heap.size w w8) (g9 : w8.grownBy w9 y.iv.ownBlock) : w9.cell? ⟨xb, 1, none⟩ = some y.iv ∧ w9.frozen? ⟨xb, 1, none⟩ = false ∧ w.heap.size ≤ w9.heap.size ∧ ∀ w10, w10 = w9.setCell ⟨xb, 1, none⟩ iv → w10.cell? ⟨xb, 0, none⟩ = some y.av ∧ w10.frozen? ⟨xb, 0, none⟩ = false ∧ w10.ownsRow base 5 1 y.av y.lb.length (bv y.lb) ∧ w.heap.size ≤ w10.heap.size := by
  obtain ⟨a1, a2, a3⟩ := H.apart
  have hlt := H.lt
  have c9 : Ch w w9 (fun k => y.iv.ownBlock = some k) := Ch.grown (m := fun k => y.iv.ownBlock = some k) (Ch.of_below _ b8) g9 (fun k e _ => e)
  have h9 := (c9.block xb hlt a2).trans H.blk
  refine ⟨by rw [cell_of_row _ xb 1 _ _ (0, 0) h9]; rfl, frozen_of h9 1, c9.size, ?_⟩
  rintro w10 rfl
  have c10 : Ch w9 (w9.setCell ⟨xb, 1, none⟩ iv) (fun k => k = xb) := Ch.setCell (m := fun k => k = xb) (Ch.refl w9 _) (fun _ => rfl) _
  have h1 := blk_set h9 1 iv
  exact ⟨by rw [cell_of_row _ xb 0 _ _ (0, 0) h1]; rfl, frozen_of h1 0, own_ch2 (own_ch2 H.b c9 (fun g hg e => a3 g hg e)) c10 (fun g hg e => a1 (e ▸ hg)), Nat.le_trans c9.size c10.size⟩
/-- One place more. -/
theorem Rf.pad (H : Rf base w xb y M rd en) (hl : y.li.length < rd + 33) {w8 w9 w10 w11 w12 w13 : World} {av iv : Value} (b8 : Below w.heap.size w w8)
    (o9 : w9.ownsRow base 4 1 iv (y.li.length + 1) (bo y.li ++ bo [false])) (g9 : w8.grownBy w9 y.iv.ownBlock) (h9 : iv.ownBlock = y.iv.ownBlock ∨ iv.ownBlock = some w8.heap.size)
    (e10 : w10 = w9.setCell ⟨xb, 1, none⟩ iv) (b11 : Below w10.heap.size w10 w11)
    (o12 : w12.ownsRow base 5 1 av (y.lb.length + 1) (bv (y.lb ++ [0]))) (g12 : w11.grownBy w12 y.av.ownBlock) (h12 : av.ownBlock = y.av.ownBlock ∨ av.ownBlock = some w11.heap.size)
    (e13 : w13 = w12.setCell ⟨xb, 0, none⟩ av) : Rf base w13 xb ⟨av, iv, y.lb ++ [0], y.li ++ [false]⟩ M rd en ∧ Ch w w13 (y.T xb) ∧ ∀ k, Ry.T xb ⟨av, iv, y.lb ++ [0], y.li ++ [false]⟩ k → y.T xb k ∨ w.heap.size ≤ k := by
  obtain ⟨a1, a2, a3⟩ := H.apart
  have hlt := H.lt
  have s8 := b8.size
  have c9 : Ch w w9 (fun k => y.iv.ownBlock = some k) := Ch.grown (m := fun k => y.iv.ownBlock = some k) (Ch.of_below _ b8) g9 (fun k e _ => e)
  have c10 : Ch w9 w10 (fun k => k = xb) := by rw [e10]; exact Ch.setCell (m := fun k => k = xb) (Ch.refl w9 _) (fun _ => rfl) _
  have s9 : w.heap.size ≤ w9.heap.size := c9.size
  have s10 : w9.heap.size ≤ w10.heap.size := c10.size
  have c12 : Ch w10 w12 (fun k => y.av.ownBlock = some k) := Ch.grown (m := fun k => y.av.ownBlock = some k) (Ch.of_below _ b11) g12 (fun k e _ => e)
  have c13 : Ch w12 w13 (fun k => k = xb) := by rw [e13]; exact Ch.setCell (m := fun k => k = xb) (Ch.refl w12 _) (fun _ => rfl) _
  have h0 := (c9.block xb hlt a2).trans H.blk
  have h1 : w10.heap[xb]? = some (.cells ((rcells y rd en).setIfInBounds 1 iv) 53 (0, 0)) := by rw [e10]; exact blk_set h0 1 iv
  have h2 := (c12.block xb (by omega) a1).trans h1
  have h3 : w13.heap[xb]? = some (.cells (((rcells y rd en).setIfInBounds 1 iv).setIfInBounds 0 av) 53 (0, 0)) := by rw [e13]; exact blk_set h2 0 av
  have niv : ∀ g, iv.ownBlock = some g → g ≠ xb ∧ y.av.ownBlock ≠ some g := fun g hg => by
    rcases h9 with h | h
    · exact ⟨fun e => a2 (by rw [← h, hg, e]), fun e => a3 g e (h ▸ hg)⟩
    · rw [h] at hg
      injection hg with hg
      refine ⟨by omega, fun e => ?_⟩
      have := (own_in H.b e).2
      omega
  have nav : ∀ g, av.ownBlock = some g → g ≠ xb := fun g hg => by
    rcases h12 with h | h
    · exact fun e => a1 (by rw [← h, hg, e])
    · rw [h] at hg
      injection hg with hg
      have := b11.size
      omega
  have hli : (y.li ++ [false]).length = y.li.length + 1 := by simp
  have hlb : (y.lb ++ [0]).length = y.lb.length + 1 := by simp
  refine ⟨⟨h3, ?_, ?_, by rw [hli, hlb, H.len], fun j hj => ?_, fun j b hj hb => ?_, fun n hn => ?_, by rw [hli]; omega, H.lo⟩, ?_, fun k hk => ?_⟩
  · show w13.ownsRow base _ 1 av (y.lb ++ [0]).length (bv (y.lb ++ [0]))
    rw [hlb]
    exact own_ch2 o12 c13 (fun g hg => nav g hg)
  · show w13.ownsRow base _ 1 iv (y.li ++ [false]).length (bo (y.li ++ [false]))
    rw [hli, bo_append]
    exact own_ch2 (own_ch2 (own_ch2 o9 c10 (fun g hg => (niv g hg).1)) c12 (fun g hg => (niv g hg).2)) c13 (fun g hg => (niv g hg).1)
  · have hj' : j < (y.li ++ [false]).length := hj
    rw [hli] at hj'
    show (y.li ++ [false]).getD j false = _
    rcases Nat.lt_or_ge j y.li.length with hh | hh
    · rw [List.getD_eq_getElem?_getD, List.getElem?_append_left hh, ← List.getD_eq_getElem?_getD]
      exact H.ri j hh
    · obtain rfl : j = y.li.length := by omega
      rw [List.getD_eq_getElem?_getD, List.getElem?_append_right (Nat.le_refl _), Nat.sub_self]
      unfold inM
      rw [H.top _ (Nat.lt_succ_self _)]
      rfl
  · have hj' : j < (y.li ++ [false]).length := hj
    rw [hli] at hj'
    show (y.lb ++ [0]).getD j 0 = _
    have hlen := H.len
    rcases Nat.lt_or_ge j y.li.length with hh | hh
    · rw [List.getD_eq_getElem?_getD, List.getElem?_append_left (by omega), ← List.getD_eq_getElem?_getD]
      exact H.rb j b hh hb
    · obtain rfl : j = y.li.length := by omega
      rw [H.top _ (Nat.lt_succ_self _)] at hb
      cases hb
  · have hn' : (y.li ++ [false]).length < n := hn
    rw [hli] at hn'
    exact H.top n (by omega)
  · exact (((c9.then_ (Ch.mono (m' := fun k => y.iv.ownBlock = some k) (Ch.refl w9 (fun _ => False)) (fun _ _ e => e.elim))).trans c10 (m'' := y.T xb) (fun _ _ e => .inr (.inr e)) (fun _ _ e => .inl e)).trans c12 (m'' := y.T xb) (fun _ _ e => e) (fun _ _ e => .inr (.inl e))).trans c13 (fun _ _ e => e) (fun _ _ e => .inl e)
  · rcases hk with hk | hk | hk
    · exact .inl (.inl hk)
    · have hk' : av.ownBlock = some k := hk
      rcases h12 with h | h
      · exact .inl (.inr (.inl (h ▸ hk')))
      · rw [h] at hk'
        injection hk' with hk'
        have := b11.size
        exact .inr (by omega)
    · have hk' : iv.ownBlock = some k := hk
      rcases h9 with h | h
      · exact .inl (.inr (.inr (h ▸ hk')))
      · rw [h] at hk'
        injection hk' with hk'
        exact .inr (by omega)
/-- In the midst of a datum that comes. -/
theorem Rf.put0 (H : Rf base w xb y M rd en) {j ig ag ic ac : Nat} (hiv : y.iv = .slice (some ⟨ig, 0, none⟩) y.li.length ic) (hav : y.av = .slice (some ⟨ag, 0, none⟩) y.lb.length ac) (hj : j < y.lb.length) : ∀ w1, w1 = (w.setCell ⟨ig, j, none⟩ (.bool true)).drew → w1.cell? ⟨xb, 0, none⟩ = some (.slice (some ⟨ag, 0, none⟩) y.lb.length ac) ∧ (∃ u, w1.cell? ⟨ag, j, none⟩ = some (.int .u8 u)) ∧ w1.frozen? ⟨ag, j, none⟩ = false ∧ w1.ownsRow base 5 1 y.av y.lb.length (bv y.lb) := by
  rintro w1 rfl
  obtain ⟨a1, a2, a3⟩ := H.apart
  have c : Ch w (w.setCell ⟨ig, j, none⟩ (.bool true)).drew (fun k => k = ig) := (Ch.setCell (m := fun k => k = ig) (Ch.refl w _) (fun _ => rfl) _).drew
  have ho := own_ch2 H.b c (fun g hg e => a3 g hg (by rw [e, hiv]; rfl))
  have hb := (c.block xb H.lt (fun e => a2 (by rw [e, hiv]; rfl))).trans H.blk
  obtain ⟨g, cap, hv, -, -, -, x0, xf⟩ := own_at ho hj
  have e := hav.symm.trans hv
  injection e with e1 e2 e3
  injection e1 with e1
  injection e1 with e1
  subst e1
  exact ⟨by rw [cell_of_row _ xb 0 _ _ (0, 0) hb, ← hav]; rfl, ⟨_, x0⟩, xf, ho⟩
/-- A datum comes. -/
theorem Rf.put1 (H : Rf base w xb y M rd en) {j ig ag ic ac : Nat} (hiv : y.iv = .slice (some ⟨ig, 0, none⟩) y.li.length ic) (hav : y.av = .slice (some ⟨ag, 0, none⟩) y.lb.length ac) (hj : j < y.li.length) (bt : UInt8) {M' : Nat → Option UInt8} (hM : M' = fun n => if n = j + 1 then some bt else M n) :
    Rf base ((w.setCell ⟨ig, j, none⟩ (.bool true)).drew.setCell ⟨ag, j, none⟩ (.int .u8 (bt.toNat : Int))) xb { y with lb := y.lb.set j bt, li := y.li.set j true } M' rd en ∧ Ch w ((w.setCell ⟨ig, j, none⟩ (.bool true)).drew.setCell ⟨ag, j, none⟩ (.int .u8 (bt.toNat : Int))) (y.T xb) := by
  obtain ⟨a1, a2, a3⟩ := H.apart
  have hlen := H.len
  have hig : y.iv.ownBlock = some ig := by rw [hiv]; rfl
  have hag : y.av.ownBlock = some ag := by rw [hav]; rfl
  have c1 : Ch w (w.setCell ⟨ig, j, none⟩ (.bool true)).drew (fun k => k = ig) := (Ch.setCell (m := fun k => k = ig) (Ch.refl w _) (fun _ => rfl) _).drew
  obtain ⟨-, -, -, ho⟩ := H.put0 (j := j) hiv hav (by omega) _ rfl
  have hi1 : (w.setCell ⟨ig, j, none⟩ (.bool true)).drew.ownsRow base 4 1 y.iv y.li.length (bo (y.li.set j true)) := by
    obtain ⟨g, cap, hv, -, -, -, -, -, hs⟩ := own_bool H.i hj
    have e := hiv.symm.trans hv
    injection e with e1 e2 e3
    injection e1 with e1
    injection e1 with e1
    subst e1
    exact own_ch2 (m := fun _ => False) (hs true) (Ch.refl (w.setCell ⟨ig, j, none⟩ (.bool true)) _).drew (fun _ _ e => e)
  generalize (w.setCell ⟨ig, j, none⟩ (.bool true)).drew = w1 at *
  have c2 : Ch w1 (w1.setCell ⟨ag, j, none⟩ (.int .u8 (bt.toNat : Int))) (fun k => k = ag) := Ch.setCell (m := fun k => k = ag) (Ch.refl w1 _) (fun _ => rfl) _
  have hne : ig ≠ ag := fun e => a3 ag hag (e ▸ hig)
  have hb2 : (w1.setCell ⟨ag, j, none⟩ (.int .u8 (bt.toNat : Int))).ownsRow base 5 1 y.av y.lb.length (bv (y.lb.set j bt)) := by
    rw [hav] at ho ⊢
    have h := own_set (j := j) ho (x := (bt.toNat : Int)) (by omega) (by have := bt.toNat_lt; omega)
    rw [Int.toNat_natCast, UInt8.ofNat_toNat] at h
    exact h
  have hbk := (c2.block xb (Nat.lt_of_lt_of_le H.lt c1.size) (fun e => a1 (e ▸ hag))).trans ((c1.block xb H.lt (fun e => a2 (e ▸ hig))).trans H.blk)
  have hll : (y.li.set j true).length = y.li.length := List.length_set ..
  have hlb : (y.lb.set j bt).length = y.lb.length := List.length_set ..
  refine ⟨⟨hbk, ?_, ?_, by rw [hll, hlb]; exact hlen, fun k hk => ?_, fun k b hk hkb => ?_, fun n hn => ?_, by rw [hll]; exact H.cap, H.lo⟩, c1.trans c2 (fun _ _ e => .inr (.inr (e ▸ hig))) (fun _ _ e => .inr (.inl (e ▸ hag)))⟩
  · show World.ownsRow _ _ _ _ _ (y.lb.set j bt).length _
    rw [hlb]
    exact hb2
  · show World.ownsRow _ _ _ _ _ (y.li.set j true).length _
    rw [hll]
    exact own_ch2 hi1 c2 (fun g hg e => hne (by rw [hig] at hg; injection hg with hg; omega))
  · have hk' : k < (y.li.set j true).length := hk
    rw [hll] at hk'
    show (y.li.set j true).getD k false = inM M' (k + 1)
    have hMk : inM M' (k + 1) = if k = j then true else inM M (k + 1) := by
      unfold inM
      rw [hM]
      by_cases e : k = j
      · simp [e]
      · simp [e]
    rw [hMk, List.getD_eq_getElem?_getD, List.getElem?_set]
    by_cases e : j = k
    · subst e
      simp [hj]
    · rw [if_neg e, if_neg (fun h => e h.symm), ← List.getD_eq_getElem?_getD]
      exact H.ri k hk'
  · have hk' : k < (y.li.set j true).length := hk
    rw [hll] at hk'
    show (y.lb.set j bt).getD k 0 = b
    rw [hM] at hkb
    rw [List.getD_eq_getElem?_getD, List.getElem?_set]
    by_cases e : j = k
    · subst e
      rw [if_pos rfl, if_pos (by omega)]
      have h2 : (if j + 1 = j + 1 then some bt else M (j + 1)) = some b := hkb
      rw [if_pos rfl] at h2
      injection h2
    · rw [if_neg e, ← List.getD_eq_getElem?_getD]
      have h2 : (if k + 1 = j + 1 then some bt else M (k + 1)) = some b := hkb
      rw [if_neg (by omega)] at h2
      exact H.rb k b hk' h2
  · have hn' : (y.li.set j true).length < n := hn
    rw [hll] at hn'
    rw [hM]
    show (if n = j + 1 then some bt else M n) = none
    rw [if_neg (by omega)]
    exact H.top n hn'
end
end Go.Proofs.Ytancbdnpmabpfaa

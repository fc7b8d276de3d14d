/- A receiver's cut and Read. Conditions: the receiver stands. -/
import Derived.Test.YtancbdnpmabpfaaDrB
namespace Go.Proofs.Ytancbdnpmabpfaa
set_option linter.unusedVariables false
set_option linter.unusedSimpArgs false
open Go.RowKit Go.Lib

set_option maxHeartbeats 1600000 in
/-- A copy of bytes that are somewhere, were they none. -/
theorem cloneS_any {w : World} {a : Addr} {n c : Nat} {l : List UInt8} (h : RB w (some a) n c l) (hn : n ≤ 1099511627776) : Calls Try.prog 52 #[.slice (some a) n c] w (OwnMade w n l) := by
  have he : ∀ W, (binOp .eql 28 (.slice (some a) n c) (.slice none 0 0)).run Try.prog W = .ok (.bool false) W := fun W => run_eql_slice_nil W _ _ _ n c 0 0 undByte
  go_enter Try.func52, Try.ntmps52
  go_wp2_with (at_builtin; refine wpList_app_lit rfl _ _ _ _ rfl undByte infoByte rfl _ n c l rfl h hn ?_; intro A' c' w' q1 q2 q3)
  go_ret
  exact ⟨_, _, rfl, q1, q2, q3⟩

/-- What a call answers, as bytes in newer memory, apart from the receiver. -/
structure Tk (w w' : World) (rb : Nat) (z' : Sh) (v : Value) (n : Nat) (l : List UInt8) : Prop where
  row : ∃ A c, v = .slice A n c ∧ RB w' A n c l
  far : ∀ g, v.ownBlock = some g → w.heap.size ≤ g ∧ g < w'.heap.size ∧ ¬ z'.T rb g
theorem Tk.below {w w' w2 : World} {rb : Nat} {z' : Sh} {v : Value} {n : Nat} {l : List UInt8} (h : Tk w w' rb z' v n l) (b : Below w'.heap.size w' w2) : Tk w w2 rb z' v n l := by
  obtain ⟨A, c, e, r⟩ := h.row
  exact ⟨⟨A, c, e, r.below b⟩, fun g hg => by obtain ⟨h1, h2, h3⟩ := h.far g hg; exact ⟨h1, Nat.lt_of_lt_of_le h2 b.size, h3⟩⟩
def CutP (base : Nat) (w : World) (rb : Nat) (z : Sh) (d : Dr) (k : Nat) (e : Ending) (w' : World) : Prop :=
  ∃ v z', e = .returned v ∧ Tk w w' rb z' v k (d.dat.take k) ∧ Left base w rb z (d.readN k) w' z'

section
variable {base : Nat} {w : World} {rb : Nat} {z : Sh} {d : Dr}
/-- The receiver once its first data were cut off. -/
theorem cut_done (H : Rc base w rb z d) {k : Nat} (hk : k ≤ d.held) {w1 w2 : World} {v1 v2 : Value} (b1 : Below w.heap.size w w1) (o1 : w1.ownsRow w.heap.size 5 1 v1 k (bv (d.dat.take k))) (o2 : w2.ownsRow base 5 1 v2 (d.dat.length - k) (bv (d.dat.drop k))) (c2 : Ch w1 w2 (fun g => z.dv.ownBlock = some g)) (e2 : v2.ownBlock = z.dv.ownBlock) :
    Left base w rb z (d.readN k) (w2.setCell ⟨rb, 1, none⟩ v2) { z with dv := v2 } ∧ Tk w (w2.setCell ⟨rb, 1, none⟩ v2) rb { z with dv := v2 } v1 k (d.dat.take k) := by
  have H1 := H.below b1
  have hl := d.dat_readN hk
  obtain ⟨r, m⟩ := H1.w.setd (D' := d.dat.drop k) (by rw [List.length_drop]; exact o2) c2 (.inl e2)
  have hs := b1.size
  have cs : Ch w2 (w2.setCell ⟨rb, 1, none⟩ v2) (fun k => k = rb) := Ch.setCell (m := fun k => k = rb) (Ch.refl w2 _) (fun _ => rfl) _
  have hlt := H.w.lt
  have far : ∀ g, v1.ownBlock = some g → w.heap.size ≤ g ∧ g < w1.heap.size ∧ ¬ z.T rb g := fun g hg => by
    have := own_in o1 hg
    exact ⟨this.1, this.2, fun e => by have := (H.w.in_ e).2; omega⟩
  have hs2 := c2.size
  have hs3 := cs.size
  refine ⟨⟨⟨by rw [hl]; exact r, H.ls, H.ok.readN hk, H.cap⟩, m.ahead b1⟩, ?_, fun g hg => ?_⟩
  · obtain ⟨A, c, e, r1, _⟩ := RB.of_own o1
    have hfar : ∀ g, v1.ownBlock = some g → ¬ (z.dv.ownBlock = some g) := fun g hg e => (far g hg).2.2 (.inr (.inr (.inr (.inl e))))
    have o3 := own_ch2 (own_ch2 o1 c2 hfar) cs (fun g hg e => by have := (far g hg).1; omega)
    obtain ⟨A', c', e', r3, _⟩ := RB.of_own o3
    exact ⟨A', c', e', r3⟩
  · obtain ⟨h1, h2, h3⟩ := far g hg
    refine ⟨h1, by omega, fun e => h3 ?_⟩
    rcases e with e | e | e | e | e
    · exact .inl e
    · exact .inr (.inl e)
    · exact .inr (.inr (.inl e))
    · have e' : v2.ownBlock = some g := e
      rw [e2] at e'
      exact .inr (.inr (.inr (.inl e')))
    · exact .inr (.inr (.inr (.inr e)))
set_option maxHeartbeats 1600000 in
theorem cut_any (H : Rc base w rb z d) {k : Nat} (hk : k ≤ d.held) (h0 : 0 < d.held) : Calls Try.prog 35 #[ptr rb, .int .i64 (k : Int)] w (CutP base w rb z d k) := by
  have hn := H.nums
  obtain ⟨A, c, e, r⟩ := H.w.dv
  have c1 : w.cell? ⟨rb, 1, none⟩ = some (.slice A d.dat.length c) := by rw [← e]; exact H.w.cell 1
  have HO := Lib.hid H
  have hdl : d.dat.length = d.held := hn.2.2.2.2.2.2.1
  obtain ⟨g, o, rfl, -⟩ := r.at_ (j := 0) (by omega)
  have hcap := r.cap
  have hmax := r.max
  have hsl : ∀ W, (Instr.slice 28 (.slice (some ⟨g, o, none⟩) d.dat.length c) none (some (.int .i64 (k : Int))) none).run Try.prog W = .ok (.slice (some ⟨g, o, none⟩) k c) W := fun W => by
    rw [run_slice_h (P := Try.prog) W 28 _ _ c elemOf .i64 (k : Int) (by omega) (by omega), sizeOfByte]
    have : ¬ c = 0 := by omega
    simp [Result.andThen, sliced, this, Addr.add_lit]
  have HC := Lib.hid (cloneS_any (r.take (k := k) (by omega)) (by omega))
  have HE := Lib.hid e
  have HDL := Lib.hid hdl
  have HK := Lib.hid hk
  clear H r hn e hdl hk h0
  unfold ptr
  generalize hln : d.dat.length = n at *
  have HL := Lib.hid hln
  clear hln
  go_enter Try.func35, Try.ntmps35
  go_wp2_with fail
  refine (HC.out).mono ?_
  rintro e w1 ⟨A1, c1', rfl, r1, o1, b1⟩
  have d1 := keepc b1 c1
  have H1 := Lib.hid (HO.out.below b1)
  have HB1 := Lib.hid b1
  have HO1 := Lib.hid o1
  have HD := Lib.hid (delete_any (HL.out ▸ HE.out ▸ H1.out.w.data) (k := k) (by have := HK.out; have := HDL.out; omega) (by have := HDL.out; have := HO.out.nums; omega))
  clear r1 o1 b1 HC c1
  go_wp2_with fail
  refine (HD.out).mono ?_
  rintro e w2 ⟨v2, rfl, o2, c2, e2⟩
  obtain ⟨A2, c2', rfl, r2, _⟩ := RB.of_own o2
  have HF := Lib.hid (cut_done HO.out HK.out HB1.out HO1.out (by rw [HL.out]; exact o2) (c2.mono (fun x _ h => by rw [HE.out]; exact h)) (by rw [e2, HE.out]))
  have x1 : w2.cell? ⟨rb, 1, none⟩ = some (.slice (some ⟨g, o, none⟩) n c) := c2.cell d1 (fun e => by have := H1.out.w.apart.dr; rw [HE.out] at this; exact this e)
  have f1 : w2.frozen? ⟨rb, 1, none⟩ = false := frozen_of ((c2.block rb H1.out.w.lt (fun e => by have := H1.out.w.apart.dr; rw [HE.out] at this; exact this e)).trans H1.out.w.blk) 1
  clear o2 c2 e2 r2 HD d1
  go_wp2_with fail
  go_ret
  exact ⟨_, _, rfl, HF.out.2, HF.out.1⟩

def ReadP (base : Nat) (w : World) (rb : Nat) (z : Sh) (d : Dr) (m : Int) (e : Ending) (w' : World) : Prop :=
  ∃ v z', e = .returned (.tuple #[v, .int .i64 d.err]) ∧ Tk w w' rb z' v (d.most m) (d.got m) ∧ Left base w rb z (d.read m) w' z'
theorem read_none (H : Rc base w rb z d) (h0 : d.held = 0) (m : Int) {w' : World} (b : Below w.heap.size w w') : ReadP base w rb z d m (.returned (.tuple #[.slice none 0 0, .int .i64 d.err])) w' := by
  have hm : d.most m = 0 := by unfold Dr.most; omega
  refine ⟨_, z, rfl, ⟨⟨none, 0, by rw [hm], ?_⟩, fun g hg => by cases hg⟩, ?_⟩
  · unfold Dr.got
    rw [hm, List.take_zero]
    exact RB.nil_ _
  · unfold Dr.read
    rw [hm]
    exact Left.of_below H b
set_option maxHeartbeats 1600000 in
theorem Read_any (H : Rc base w rb z d) {m : Int} (hm : isI m) : Calls Try.prog 17 #[ptr rb, .int .i64 m] w (ReadP base w rb z d m) := by
  have hn := H.nums
  obtain ⟨A, c, e, r⟩ := H.w.dv
  have c1 : w.cell? ⟨rb, 1, none⟩ = some (.slice A d.dat.length c) := by rw [← e]; exact H.w.cell 1
  rw [hn.2.2.2.2.2.2.1] at c1
  have HO := Lib.hid H
  by_cases h0 : d.held = 0
  · have HE := Lib.hid (Ended_any H)
    rw [h0] at c1
    have HR := Lib.hid (fun w' b => read_none H h0 m (w' := w') b)
    by_cases he : d.nx = d.en
    · have e1 : d.ended = true := decide_eq_true he
      have e2 : d.err = 11 := by unfold Dr.err; rw [if_neg (by omega), if_pos he]
      rw [e1] at HE
      rw [e2] at HR
      clear H r hn e h0 he e1 e2
      unfold ptr at *
      go_enter Try.func17, Try.ntmps17
      go_wp2_with fail
      refine (HE.out).mono ?_
      rintro e w1 ⟨rfl, n, rfl⟩
      go_wp2_with fail
      go_ret2
      exact HR.out _ (below_dn (Below.refl _ _) _)
    · have e1 : d.ended = false := decide_eq_false he
      have e2 : d.err = 10 := by unfold Dr.err; rw [if_neg (by omega), if_neg he]
      rw [e1] at HE
      rw [e2] at HR
      clear H r hn e h0 he e1 e2
      unfold ptr at *
      go_enter Try.func17, Try.ntmps17
      go_wp2_with fail
      refine (HE.out).mono ?_
      rintro e w1 ⟨rfl, n, rfl⟩
      go_wp2_with fail
      go_ret2
      exact HR.out _ (below_dn (Below.refl _ _) _)
  · have h1 : (0 : Int) < (d.held : Int) := by omega
    have hmn : min (max m 0) (d.held : Int) = (d.most m : Int) := by unfold Dr.most; omega
    have HC := Lib.hid (cut_any H (k := d.most m) (d.most_le m) (by omega))
    have HER : Hid (d.err = 0) := Lib.hid (by unfold Dr.err; rw [if_pos (by omega)])
    clear H r hn e h0
    unfold ptr at *
    have HF : Hid (∀ e w', CutP base w rb z d (d.most m) e w' → ∃ v, e = .returned v ∧ ReadP base w rb z d m (.returned (.tuple #[v, .int .i64 0])) w') := Lib.hid (by
      rintro e w' ⟨v, z', rfl, T, L⟩
      exact ⟨v, rfl, v, z', by rw [HER.out], T, L⟩)
    generalize d.most m = k at *
    generalize d.held = hd at *
    go_enter Try.func17, Try.ntmps17
    go_wp2_with fail
    refine (HC.out).mono ?_
    intro e w1 h
    obtain ⟨v, rfl, h2⟩ := HF.out e w1 h
    have HX := Lib.hid h2
    clear h h2 HC HF
    go_wp2_with fail
    go_ret2
    exact HX.out
end
end Go.Proofs.Ytancbdnpmabpfaa

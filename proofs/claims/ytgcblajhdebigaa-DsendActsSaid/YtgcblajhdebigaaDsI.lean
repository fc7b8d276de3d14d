/- A sender as a law keeps it; the example of the chapter; a sender that isn't there; the law DsendNil. No condition. -/
import Derived.Test.YtgcblajhdebigaaDsH
import Derived.Laws.BytesArg
import Derived.Laws.IdiomStrings
import Derived.Lib.SlBytesConst
namespace Go.Proofs.Ytgcblajhdebigaa
set_option linter.unusedVariables false
set_option linter.unusedSimpArgs false
open Go.RowKit Go.Lib

/-- What 'string(b)' gives. -/
theorem rb_text {P : Program} {w : World} {A : Option Addr} {n c : Nat} {l : List UInt8} (h : RB w A n c l) (src e dst : TypeId) (hs : P.underlying src = some (.slice e)) (he : P.underlying e = some (.int .u8)) (hd : P.underlying dst = some .string) :
    (convert src dst (.slice A n c)).run P w = .ok (.string ⟨l.toArray⟩) w := by
  obtain ⟨rfl, h2, h3, h4⟩ := h
  rcases Nat.eq_zero_or_pos l.length with h0 | h0
  · obtain rfl : l = [] := List.eq_nil_of_length_eq_zero h0
    cases A with
    | none => exact run_convert_bytes_nil (P := P) w src e hs he _ _ dst hd
    | some a => exact run_convert_bytes_back (P := P) w src dst e a c [] hs he hd (fun j hj => absurd hj (by simp))
  · obtain ⟨b, o, rfl, hc⟩ := h4 h0
    refine run_convert_bytes_back (P := P) w src dst e _ c l hs he hd (fun j hj => ?_)
    rw [Addr.add_lit, hc j hj]
    simp [hj]
theorem rb_litf (w : World) (l : List UInt8) (t : TypeId) (fr : Nat × Nat) (hl : l.length ≤ maxLen) : RB (w.alloc (.cells (bv l).toArray t fr)) (some ⟨w.heap.size, 0, none⟩) l.length l.length l := by
  refine ⟨rfl, Nat.le_refl _, hl, fun _ => ⟨_, 0, rfl, fun j hj => ?_⟩⟩
  rw [Nat.zero_add]
  have h := cell_of_row (w.alloc (.cells (bv l).toArray t fr)) w.heap.size j (bv l).toArray t fr (heap_alloc_new w _)
  rw [h]
  simpa using bv_at l j hj
theorem text_at (w : World) (C : Array Value) (n c : Nat) :
    (convert 28 28 (.slice (some ⟨w.heap.size, 0, none⟩) n c)).run Try.prog (w.alloc (.cells C 5)) = .ok (.slice (some ⟨w.heap.size, 0, none⟩) n c) (w.alloc (.cells C 5 (C.size, C.size + 1))) :=
  Lib.run_convert_bytes_const (P := Try.prog) w 28 5 C n c Try.underlying28 Try.underlying5

/-- A sender as a law that began in W keeps it. -/
structure Sv (W w : World) (sb : Nat) (z : Sh) (d : Dq) : Prop where
  s : Sd W.heap.size w sb z d
  bel : Below W.heap.size W w
section
variable {W w w' : World} {sb : Nat} {z z' : Sh} {d d' : Dq}
theorem Sv.step (h : Sv W w sb z d) (l : Left W.heap.size w sb z d' w' z') : Sv W w' sb z' d' := ⟨l.s, l.bel h.s (Nat.le_refl _) h.bel⟩
theorem Sv.below (h : Sv W w sb z d) (b : Below w.heap.size w w') : Sv W w' sb z d := ⟨h.s.below b, h.bel.trans (b.mono h.bel.size)⟩
/-- Bytes that lie apart from the sender. -/
structure Far (w : World) (sb : Nat) (z : Sh) (v : Value) (n : Nat) (l : List UInt8) : Prop where
  rb : ∃ A c, v = .slice A n c ∧ RB w A n c l
  far : ∀ g, v.ownBlock = some g → ¬ z.T sb g
theorem Far.below {v : Value} {n : Nat} {l : List UInt8} (h : Far w sb z v n l) (b : Below w.heap.size w w') : Far w' sb z v n l := by
  obtain ⟨A, c, e, r⟩ := h.rb
  exact ⟨⟨A, c, e, r.below b⟩, h.far⟩
theorem Far.step {base : Nat} {v : Value} {n : Nat} {l : List UInt8} (h : Far w sb z v n l) (k : Left base w sb z d' w' z') : ∃ A c, v = .slice A n c ∧ RB w' A n c l := by
  obtain ⟨A, c, e, r⟩ := h.rb
  exact ⟨A, c, e, rb_ch r k.ch (fun g o s hA hn => h.far g (by rw [e, hA]; rfl))⟩
theorem TookB.far_ {m : Nat} {v : Value} (h : TookB w sb d m v w' z') : Far w' sb z' v (d.most m) (d.got m) := ⟨h.rb, fun g hg => (h.far g hg).2⟩
end
theorem new_sv (W w : World) (hb : Below W.heap.size W w) : Calls Try.prog 9 #[] w fun e w' => ∃ (sb : Nat) (z : Sh), e = .returned (ptr sb) ∧ Sv W w' sb z Dq.new ∧ (∀ k, z.T sb k → w.heap.size ≤ k) ∧ Below w.heap.size w w' :=
  (New_sd W.heap.size w hb.size).mono fun e w' ⟨sb, z, he, hs, hbel, hlo⟩ => ⟨sb, z, he, ⟨hs, hb.trans (hbel.mono hb.size)⟩, hlo, hbel⟩

def abc : Dq := Dq.new.wrote [97, 98, 99]
theorem abc_0 : Dq.new.wN 3 = 3 ∧ Dq.new.wE 3 = 0 ∧ abc.dsn (mostOf 2) = 1 ∧ abc.most (mostOf 2) = 2 ∧ abc.got (mostOf 2) = [97, 98] ∧ (abc.take (mostOf 2)).dsn (mostOf 2) = 3 ∧ (abc.take (mostOf 2)).most (mostOf 2) = 1 ∧ (abc.take (mostOf 2)).got (mostOf 2) = [99] := by decide

set_option maxRecDepth 8000 in
set_option maxHeartbeats 3200000 in
theorem wakes_any (W : World) : Calls Try.prog 8 #[] W (Yes W) := by
  have HN := Lib.hid (new_sv W W (Below.refl _ _))
  obtain ⟨k1, k2, k3, k4, k5, k6, k7, k8⟩ := abc_0
  have K := Lib.hid (And.intro k1 (And.intro k2 (And.intro k3 (And.intro k4 (And.intro k5 (And.intro k6 (And.intro k7 k8)))))))
  clear k1 k2 k3 k4 k5 k6 k7 k8
  go_enter Try.func8, Try.ntmps8
  go_wp2_with fail
  refine (HN.out).mono ?_
  rintro e w1 ⟨sb, z1, rfl, S1, -, -⟩
  have hcv := text_at w1 #[.int .u8 97, .int .u8 98, .int .u8 99] 3 3
  have hcv : (convert 28 28 (.slice (some ⟨w1.heap.size, 0, none⟩) 3 3)).run Try.prog (w1.alloc (.cells #[.int .u8 97, .int .u8 98, .int .u8 99] 5)) = .ok (.slice (some ⟨w1.heap.size, 0, none⟩) 3 3) (w1.alloc (.cells #[.int .u8 97, .int .u8 98, .int .u8 99] 5 (3, 4))) := hcv
  have HS1 := Lib.hid (S1.below (below_a w1 (.cells #[.int .u8 97, .int .u8 98, .int .u8 99] 5 (3, 4))))
  have HW1 : Hid (Calls Try.prog 11 #[ptr sb, .slice (some ⟨w1.heap.size, 0, none⟩) 3 3] (w1.alloc (.cells #[.int .u8 97, .int .u8 98, .int .u8 99] 5 (3, 4))) (WriteP W.heap.size (w1.alloc (.cells #[.int .u8 97, .int .u8 98, .int .u8 99] 5 (3, 4))) sb z1 Dq.new 3 [97, 98, 99])) :=
    Lib.hid (Write_any HS1.out.s HS1.out.bel.size (by decide) (rb_litf w1 [97, 98, 99] 5 (3, 4) (by unfold maxLen; simp)) (by omega))
  clear S1 HN
  unfold ptr at *
  go_wp2_with fail
  refine (HW1.out).mono ?_
  rintro e w2 ⟨rfl, z2, L2⟩
  rw [K.out.1, K.out.2.1]
  have HS2 : Hid (Sv W w2 sb z2 abc) := Lib.hid (HS1.out.step L2)
  have HT2 := Lib.hid (Take_any HS2.out.s (m := 2) (by unfold isI; omega))
  unfold ptr at HT2
  clear L2 HS1 HW1 hcv
  go_wp2_with fail
  refine (HT2.out).mono ?_
  rintro e w3 ⟨v3, z3, rfl, B3, L3⟩
  rw [K.out.2.2.1]
  have HS3 := Lib.hid (HS2.out.step L3)
  have HB3 := Lib.hid B3.far_
  have HT3 := Lib.hid (Take_any HS3.out.s (m := 2) (by unfold isI; omega))
  unfold ptr at HT3
  clear B3 L3 HS2 HT2
  go_wp2_with fail
  refine (HT3.out).mono ?_
  rintro e w4 ⟨v4, z4, rfl, B4, L4⟩
  rw [K.out.2.2.2.2.2.1]
  obtain ⟨A3, c3, rfl, r3⟩ := HB3.out.step L4
  obtain ⟨A4, c4, rfl, r4⟩ := B4.rb
  have HS4 := Lib.hid (HS3.out.step L4)
  rw [K.out.2.2.2.2.1] at r3
  rw [K.out.2.2.2.2.2.2.2] at r4
  have t3 := rb_text (P := Try.prog) r3 28 5 9 Try.underlying28 Try.underlying5 Try.underlying9
  have t4 := rb_text (P := Try.prog) r4 28 5 9 Try.underlying28 Try.underlying5 Try.underlying9
  clear B4 L4 HS3 HT3 HB3 r3 r4
  go_wp2_with fail
  go_ret
  exact ⟨rfl, HS4.out.bel⟩
end Go.Proofs.Ytgcblajhdebigaa

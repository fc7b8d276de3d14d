/- The contract of setting a field. Conditions: the field's address leads to an option's cell, which may be written; the number is one of 64 bits. -/
import Derived.Test.YtbbpemndkphgeaaDoorOptN
namespace Go.Proofs.YtbbpemndkphgeaaDoor
set_option linter.unusedVariables false
set_option linter.unusedSimpArgs false
open Go.RowKit

/-- What setting a cell leaves. -/
def SetMade (W : World) (g s : Nat) (v : Value) (is : Bool) (e : Ending) (w' : World) : Prop :=
  ∃ o, e = .returned (.bool is) ∧ w' = (W.setCell ⟨g, s, none⟩ v).alloc o
theorem wrap_i64 {n : Nat} (h : n < 18446744073709551616) : wrap64 (n : Int) = s64 n := by
  unfold s64 wrap64
  split <;> omega

set_option maxHeartbeats 400000 in
theorem set_64 (g s wd x n : Nat) (w : World) (hn : n < 18446744073709551616) (hc : w.cell? ⟨g, s, none⟩ = some (.int .u64 (x : Int))) (hf : w.frozen? ⟨g, s, none⟩ = false) :
    Calls Tryd.prog 69 #[.agg #[.iface 97 (.pointer (some ⟨g, s, none⟩)), .int .i64 (wd : Int)], .int .u64 (n : Int)] w (SetMade w g s (.int .u64 (n : Int)) true) := by
  have h1 := as_64
  have hl := World.block_lt_of_cell? w _ hc
  go_enter Tryd.func69, Tryd.ntmps69
  go_wp2
  go_ret
  exact ⟨_, rfl, rfl⟩
set_option maxHeartbeats 400000 in
theorem set_32 (g s wd x n : Nat) (w : World) (hn : n < 18446744073709551616) (hc : w.cell? ⟨g, s, none⟩ = some (.int .u32 (x : Int))) (hf : w.frozen? ⟨g, s, none⟩ = false) :
    Calls Tryd.prog 69 #[.agg #[.iface 98 (.pointer (some ⟨g, s, none⟩)), .int .i64 (wd : Int)], .int .u64 (n : Int)] w (SetMade w g s (.int .u32 ((n : Int) % 4294967296)) true) := by
  have h1 := as_64_32
  have h2 := as_32
  have hl := World.block_lt_of_cell? w _ hc
  go_enter Tryd.func69, Tryd.ntmps69
  go_wp2
  go_ret
  exact ⟨_, rfl, rfl⟩
set_option maxHeartbeats 400000 in
theorem set_int (g s wd n : Nat) (x : Int) (w : World) (hn : n < 18446744073709551616) (hc : w.cell? ⟨g, s, none⟩ = some (.int .i64 x)) (hf : w.frozen? ⟨g, s, none⟩ = false) :
    Calls Tryd.prog 69 #[.agg #[.iface 99 (.pointer (some ⟨g, s, none⟩)), .int .i64 (wd : Int)], .int .u64 (n : Int)] w (SetMade w g s (.int .i64 (s64 n)) true) := by
  have h1 := as_64_int
  have h2 := as_32_int
  have h3 := as_int
  have hl := World.block_lt_of_cell? w _ hc
  have HW := Lib.hid (wrap_i64 hn)
  go_enter Tryd.func69, Tryd.ntmps69
  go_wp2
  go_ret
  exact ⟨_, rfl, by rw [← HW.out]⟩
set_option maxHeartbeats 400000 in
theorem set_bool (g s wd n : Nat) (x : Bool) (w : World) (hn : n < 18446744073709551616) (hc : w.cell? ⟨g, s, none⟩ = some (.bool x)) (hf : w.frozen? ⟨g, s, none⟩ = false) :
    Calls Tryd.prog 69 #[.agg #[.iface 100 (.pointer (some ⟨g, s, none⟩)), .int .i64 (wd : Int)], .int .u64 (n : Int)] w (SetMade w g s (.bool ((n : Int) == 1)) (decide ((n : Int) ≤ 1))) := by
  have h1 := as_64_bool
  have h2 := as_32_bool
  have h3 := as_int_bool
  have h4 := as_bool
  have hl := World.block_lt_of_cell? w _ hc
  go_enter Tryd.func69, Tryd.ntmps69
  go_wp2
  go_ret
  exact ⟨_, rfl, rfl⟩

/-- A cell that holds a byte is no cell of an option. -/
theorem vals_no_byte (o : Opt) (s : Nat) (x : Int) : o.vals[s]? ≠ some (.int .u8 x) := by
  intro h
  have hm := List.mem_of_getElem? h
  simp [Opt.vals] at hm
/-- All bytes stay. -/
def Bytes8 (w w' : World) : Prop := ∀ (p : Addr) (x : Int), w.cell? p = some (.int .u8 x) → w'.cell? p = some (.int .u8 x)
theorem Bytes8.of_below {w w' : World} (h : Below w.heap.size w w') : Bytes8 w w' := fun p x hp => (h.cell (World.block_lt_of_cell? w _ hp)).trans hp
theorem Bytes8.trans {a b c : World} (h : Bytes8 a b) (k : Bytes8 b c) : Bytes8 a c := fun p x hp => k p x (h p x hp)
theorem RB.bytes {w w' : World} {A : Option Addr} {n c : Nat} {l : List UInt8} (h : RB w A n c l) (hb : Bytes8 w w') : RB w' A n c l :=
  ⟨h.1, h.2.1, h.2.2.1, fun hn => by
    obtain ⟨b, o, e, hc⟩ := h.2.2.2 hn
    exact ⟨b, o, e, fun j hj => hb _ _ (hc j hj)⟩⟩
/-- What setting a field leaves. -/
def PutMade (W : World) (g : Nat) (o : Opt) (is : Bool) (e : Ending) (w' : World) : Prop := e = .returned (.bool is) ∧ Own w' g o.vals ∧ W.grownBy w' (some g) ∧ Bytes8 W w'
theorem SetMade.to {W : World} {g s : Nat} {v : Value} {is : Bool} {o o' : Opt} (h : Own W g o.vals) (hs : s < 14) (hv : o'.vals = o.vals.set s v) : ∀ e w', SetMade W g s v is e w' → PutMade W g o' is e w' := by
  rintro e w' ⟨x, rfl, rfl⟩
  refine ⟨rfl, ?_, (v_g_set W g s v).trans (v_g_below (below_a _ x) _), fun p y hp => ?_⟩
  · rw [hv]
    exact (h.set s hs v).below (below_a _ x)
  · have hne : p ≠ ⟨g, s, none⟩ := by
      rintro rfl
      rw [(h s hs).1] at hp
      exact vals_no_byte o s y hp
    have h1 : (W.setCell ⟨g, s, none⟩ v).cell? p = some (.int .u8 y) := by rw [World.cell?_setCell_other _ _ _ _ (fun e => hne e.symm)]; exact hp
    exact ((below_a _ x).cell (World.block_lt_of_cell? _ _ h1)).trans h1
theorem int_le_one (n : Nat) : decide ((n : Int) ≤ 1) = decide (n ≤ 1) := by rw [Bool.eq_iff_iff]; simp; omega
theorem int_is_one (n : Nat) : ((n : Int) == 1) = (n == 1) := by rw [Bool.eq_iff_iff]; simp; omega

/-- A field set. -/
theorem set_any (g : Nat) (f : Nat × Nat) (o : Opt) (n : Nat) (w : World) (h : Own w g o.vals) (hn : n < 18446744073709551616) (hs : spot f.1) :
    Calls Tryd.prog 69 #[.agg (fv g f).toArray, .int .u64 (n : Int)] w (PutMade w g (o.put f.1 n) (okN f.1 n)) := by
  obtain ⟨s, wd⟩ := f
  obtain ⟨hc, hf⟩ := h s (by rw [o.vals_length]; unfold spot at hs; simp at hs; omega)
  rcases spot_or hs with h' | h' | h' | h' | h' | h' | h' | h' | h' | h' | h' | h' | h' <;> simp only at h' <;> subst h'
  · exact (set_64 g 1 wd o.key n w hn hc hf).mono (SetMade.to h (by omega) rfl)
  · exact (set_64 g 2 wd o.mac n w hn hc hf).mono (SetMade.to h (by omega) rfl)
  · exact (set_32 g 3 wd o.token n w hn hc hf).mono (SetMade.to h (by omega) (by simp [Opt.vals, Opt.put]))
  · exact (set_32 g 4 wd o.nonce n w hn hc hf).mono (SetMade.to h (by omega) (by simp [Opt.vals, Opt.put]))
  · exact (set_int g 5 wd n o.addr w hn hc hf).mono (SetMade.to h (by omega) rfl)
  · exact (set_int g 6 wd n o.reason w hn hc hf).mono (SetMade.to h (by omega) rfl)
  · have := set_bool g 7 wd n o.backup w hn hc hf; rw [int_le_one, int_is_one] at this; exact this.mono (SetMade.to h (by omega) rfl)
  · have := set_bool g 8 wd n o.hasAck w hn hc hf; rw [int_le_one, int_is_one] at this; exact this.mono (SetMade.to h (by omega) rfl)
  · exact (set_int g 9 wd n o.ack w hn hc hf).mono (SetMade.to h (by omega) rfl)
  · have := set_bool g 10 wd n o.hasMap w hn hc hf; rw [int_le_one, int_is_one] at this; exact this.mono (SetMade.to h (by omega) rfl)
  · exact (set_int g 11 wd n o.dsn w hn hc hf).mono (SetMade.to h (by omega) rfl)
  · exact (set_int g 12 wd n o.len w hn hc hf).mono (SetMade.to h (by omega) rfl)
  · have := set_bool g 13 wd n o.fin w hn hc hf; rw [int_le_one, int_is_one] at this; exact this.mono (SetMade.to h (by omega) rfl)
end Go.Proofs.YtbbpemndkphgeaaDoor

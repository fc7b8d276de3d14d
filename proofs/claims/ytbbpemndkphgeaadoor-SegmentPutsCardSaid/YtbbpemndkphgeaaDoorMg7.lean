/- The contract of setting a field. Conditions: the field's address leads to an option's cell, which may be written; the number is one of 64 bits.
The contracts of long, fit and told: how many bytes fields have, whether what stands in them fits, and what they tell. Conditions: the slice holds an option's fields.
The contracts of octet.Cut. Condition: the slice holds bytes, at most 2^39 of them.
The contracts of octet.Take. Condition: the slices hold bytes, at most 2^39 of them.
The contracts of fill and bare: fields filled from bytes; whether nothing is left when a kind's own fields are taken off. Conditions: the slice holds an option's fields; the bytes are as many as they have. -/
import Derived.Test.YtbbpemndkphgeaaDoorMg3
import Derived.Test.YtbbpemndkphgeaaDoorMg6
import Derived.Deep.RegionWith
import Derived.Laws.BitsAllLaws
namespace Go.Proofs.YtbbpemndkphgeaaDoor
set_option linter.unusedVariables false
set_option linter.unusedSimpArgs false
open Go.RowKit

/-- What setting a cell leaves. -/
def SetMade (W : World) (g s : Nat) (v : Value) (is : Bool) (e : Ending) (w' : World) : Prop :=
  ∃ o, e = .returned (.bool is) ∧ w' = (W.setCell ⟨g, s, none⟩ v).alloc o
theorem wrap_i64 {n : Nat} (h : n < 18446744073709551616) : wrap64 (n : Int) = s64 n := by
  unfold s64 wrap64
  split <;> omega

set_option maxHeartbeats 400000 in
theorem set_64 (g s wd x n : Nat) (w : World) (hn : n < 18446744073709551616) (hc : w.cell? ⟨g, s, none⟩ = some (.int .u64 (x : Int))) (hf : w.frozen? ⟨g, s, none⟩ = false) :
    Calls Tryd.prog 69 #[.agg #[.iface 97 (.pointer (some ⟨g, s, none⟩)), .int .i64 (wd : Int)], .int .u64 (n : Int)] w (SetMade w g s (.int .u64 (n : Int)) true) := by
  have h1 := as_64
  have hl := World.block_lt_of_cell? w _ hc
  go_enter Tryd.func69, Tryd.ntmps69
  go_wp2
  go_ret
  exact ⟨_, rfl, rfl⟩
set_option maxHeartbeats 400000 in
theorem set_32 (g s wd x n : Nat) (w : World) (hn : n < 18446744073709551616) (hc : w.cell? ⟨g, s, none⟩ = some (.int .u32 (x : Int))) (hf : w.frozen? ⟨g, s, none⟩ = false) :
    Calls Tryd.prog 69 #[.agg #[.iface 98 (.pointer (some ⟨g, s, none⟩)), .int .i64 (wd : Int)], .int .u64 (n : Int)] w (SetMade w g s (.int .u32 ((n : Int) % 4294967296)) true) := by
  have h1 := as_64_32
  have h2 := as_32
  have hl := World.block_lt_of_cell? w _ hc
  go_enter Tryd.func69, Tryd.ntmps69
  go_wp2
  go_ret
  exact ⟨_, rfl, rfl⟩
set_option maxHeartbeats 400000 in
theorem set_int (g s wd n : Nat) (x : Int) (w : World) (hn : n < 18446744073709551616) (hc : w.cell? ⟨g, s, none⟩ = some (.int .i64 x)) (hf : w.frozen? ⟨g, s, none⟩ = false) :
    Calls Tryd.prog 69 #[.agg #[.iface 99 (.pointer (some ⟨g, s, none⟩)), .int .i64 (wd : Int)], .int .u64 (n : Int)] w (SetMade w g s (.int .i64 (s64 n)) true) := by
  have h1 := as_64_int
  have h2 := as_32_int
  have h3 := as_int
  have hl := World.block_lt_of_cell? w _ hc
  have HW := Lib.hid (wrap_i64 hn)
  go_enter Tryd.func69, Tryd.ntmps69
  go_wp2
  go_ret
  exact ⟨_, rfl, by rw [← HW.out]⟩
set_option maxHeartbeats 400000 in
theorem set_bool (g s wd n : Nat) (x : Bool) (w : World) (hn : n < 18446744073709551616) (hc : w.cell? ⟨g, s, none⟩ = some (.bool x)) (hf : w.frozen? ⟨g, s, none⟩ = false) :
    Calls Tryd.prog 69 #[.agg #[.iface 100 (.pointer (some ⟨g, s, none⟩)), .int .i64 (wd : Int)], .int .u64 (n : Int)] w (SetMade w g s (.bool ((n : Int) == 1)) (decide ((n : Int) ≤ 1))) := by
  have h1 := as_64_bool
  have h2 := as_32_bool
  have h3 := as_int_bool
  have h4 := as_bool
  have hl := World.block_lt_of_cell? w _ hc
  go_enter Tryd.func69, Tryd.ntmps69
  go_wp2
  go_ret
  exact ⟨_, rfl, rfl⟩

/-- A cell that holds a byte is no cell of an option. -/
theorem vals_no_byte (o : Opt) (s : Nat) (x : Int) : o.vals[s]? ≠ some (.int .u8 x) := by
  intro h
  have hm := List.mem_of_getElem? h
  simp [Opt.vals] at hm
/-- All bytes stay. -/
def Bytes8 (w w' : World) : Prop := ∀ (p : Addr) (x : Int), w.cell? p = some (.int .u8 x) → w'.cell? p = some (.int .u8 x)
theorem Bytes8.of_below {w w' : World} (h : Below w.heap.size w w') : Bytes8 w w' := fun p x hp => (h.cell (World.block_lt_of_cell? w _ hp)).trans hp
theorem Bytes8.trans {a b c : World} (h : Bytes8 a b) (k : Bytes8 b c) : Bytes8 a c := fun p x hp => k p x (h p x hp)
theorem RB.bytes {w w' : World} {A : Option Addr} {n c : Nat} {l : List UInt8} (h : RB w A n c l) (hb : Bytes8 w w') : RB w' A n c l :=
  ⟨h.1, h.2.1, h.2.2.1, fun hn => by
    obtain ⟨b, o, e, hc⟩ := h.2.2.2 hn
    exact ⟨b, o, e, fun j hj => hb _ _ (hc j hj)⟩⟩
/-- What setting a field leaves. -/
def PutMade (W : World) (g : Nat) (o : Opt) (is : Bool) (e : Ending) (w' : World) : Prop := e = .returned (.bool is) ∧ Own w' g o.vals ∧ W.grownBy w' (some g) ∧ Bytes8 W w'
theorem SetMade.to {W : World} {g s : Nat} {v : Value} {is : Bool} {o o' : Opt} (h : Own W g o.vals) (hs : s < 14) (hv : o'.vals = o.vals.set s v) : ∀ e w', SetMade W g s v is e w' → PutMade W g o' is e w' := by
  rintro e w' ⟨x, rfl, rfl⟩
  refine ⟨rfl, ?_, (v_g_set W g s v).trans (v_g_below (below_a _ x) _), fun p y hp => ?_⟩
  · rw [hv]
    exact (h.set s hs v).below (below_a _ x)
  · have hne : p ≠ ⟨g, s, none⟩ := by
      rintro rfl
      rw [(h s hs).1] at hp
      exact vals_no_byte o s y hp
    have h1 : (W.setCell ⟨g, s, none⟩ v).cell? p = some (.int .u8 y) := by rw [World.cell?_setCell_other _ _ _ _ (fun e => hne e.symm)]; exact hp
    exact ((below_a _ x).cell (World.block_lt_of_cell? _ _ h1)).trans h1
theorem int_le_one (n : Nat) : decide ((n : Int) ≤ 1) = decide (n ≤ 1) := by rw [Bool.eq_iff_iff]; simp; omega
theorem int_is_one (n : Nat) : ((n : Int) == 1) = (n == 1) := by rw [Bool.eq_iff_iff]; simp; omega

/-- A field set. -/
theorem set_any (g : Nat) (f : Nat × Nat) (o : Opt) (n : Nat) (w : World) (h : Own w g o.vals) (hn : n < 18446744073709551616) (hs : spot f.1) :
    Calls Tryd.prog 69 #[.agg (fv g f).toArray, .int .u64 (n : Int)] w (PutMade w g (o.put f.1 n) (okN f.1 n)) := by
  obtain ⟨s, wd⟩ := f
  obtain ⟨hc, hf⟩ := h s (by rw [o.vals_length]; unfold spot at hs; simp at hs; omega)
  rcases spot_or hs with h' | h' | h' | h' | h' | h' | h' | h' | h' | h' | h' | h' | h' <;> simp only at h' <;> subst h'
  · exact (set_64 g 1 wd o.key n w hn hc hf).mono (SetMade.to h (by omega) rfl)
  · exact (set_64 g 2 wd o.mac n w hn hc hf).mono (SetMade.to h (by omega) rfl)
  · exact (set_32 g 3 wd o.token n w hn hc hf).mono (SetMade.to h (by omega) (by simp [Opt.vals, Opt.put]))
  · exact (set_32 g 4 wd o.nonce n w hn hc hf).mono (SetMade.to h (by omega) (by simp [Opt.vals, Opt.put]))
  · exact (set_int g 5 wd n o.addr w hn hc hf).mono (SetMade.to h (by omega) rfl)
  · exact (set_int g 6 wd n o.reason w hn hc hf).mono (SetMade.to h (by omega) rfl)
  · have := set_bool g 7 wd n o.backup w hn hc hf; rw [int_le_one, int_is_one] at this; exact this.mono (SetMade.to h (by omega) rfl)
  · have := set_bool g 8 wd n o.hasAck w hn hc hf; rw [int_le_one, int_is_one] at this; exact this.mono (SetMade.to h (by omega) rfl)
  · exact (set_int g 9 wd n o.ack w hn hc hf).mono (SetMade.to h (by omega) rfl)
  · have := set_bool g 10 wd n o.hasMap w hn hc hf; rw [int_le_one, int_is_one] at this; exact this.mono (SetMade.to h (by omega) rfl)
  · exact (set_int g 11 wd n o.dsn w hn hc hf).mono (SetMade.to h (by omega) rfl)
  · exact (set_int g 12 wd n o.len w hn hc hf).mono (SetMade.to h (by omega) rfl)
  · have := set_bool g 13 wd n o.fin w hn hc hf; rw [int_le_one, int_is_one] at this; exact this.mono (SetMade.to h (by omega) rfl)
end Go.Proofs.YtbbpemndkphgeaaDoor

namespace Go.Proofs.YtbbpemndkphgeaaDoor
set_option linter.unusedVariables false
set_option linter.unusedSimpArgs false
open Go.RowKit

theorem zeroField : (Tryd.prog.info? 85).map (·.zero) = some (some (.agg [Value.nilIface, Value.int .i64 0].toArray)) := by kernel_rfl
/-- The field in place j. -/
def at2 (l : List (Nat × Nat)) (j : Nat) : Nat × Nat := l.getD j (0, 0)
theorem at2_mem {l : List (Nat × Nat)} {j : Nat} (h : j < l.length) : at2 l j ∈ l := by
  unfold at2
  simp [List.getD_eq_getElem?_getD, List.getElem?_eq_getElem h]
theorem take_at2 {l : List (Nat × Nat)} {j : Nat} (h : j < l.length) : l.take (j + 1) = l.take j ++ [at2 l j] := by
  rw [List.take_succ_eq_append_getElem h]
  simp [at2, List.getD_eq_getElem?_getD, List.getElem?_eq_getElem h]
theorem long_append (a b : List (Nat × Nat)) : long (a ++ b) = long a + long b := by simp [long]
theorem long_one (f : Nat × Nat) : long [f] = f.2 := by simp [long]
theorem long_le {l : List (Nat × Nat)} (h : ∀ f ∈ l, f.2 ≤ 8) : long l ≤ 8 * l.length := by
  induction l with
  | nil => simp [long]
  | cons f r ih =>
    have h1 := ih fun f hf => h f (List.mem_cons_of_mem _ hf)
    have h2 := h f (List.mem_cons_self ..)
    have : long (f :: r) = f.2 + long r := by simp [long]
    simp only [List.length_cons]
    omega
theorem Fine.wide {l : List (Nat × Nat)} (h : Fine l) {j : Nat} (hj : j < l.length) : spot (at2 l j).1 ∧ 1 ≤ (at2 l j).2 ∧ (at2 l j).2 ≤ 8 := h.1 _ (at2_mem hj)
theorem Fine.long {l : List (Nat × Nat)} (h : Fine l) (k : Nat) : long (l.take k) ≤ 48 := by
  have h1 := long_le (l := l.take k) fun f hf => (h.1 f (List.mem_of_mem_take hf)).2.2
  have h2 : (l.take k).length ≤ 6 := Nat.le_trans (List.length_take_le' ..) h.2.1
  omega

set_option maxRecDepth 8000 in
set_option maxHeartbeats 1600000 in
theorem long_any (A : Option Addr) (n c g : Nat) (l : List (Nat × Nat)) (w : World) (h : FL w A n c g l) (hl : Fine l) :
    Calls Tryd.prog 64 #[.slice A n c] w fun e w' => e = .returned (.int .i64 (long l : Nat)) ∧ Below w.heap.size w w' := by
  have hmx := h.max
  have hcp := h.cap
  have HLN := Lib.hid h.len
  have h48 := hl.long
  go_enter Tryd.func64, Tryd.ntmps64
  go_wp2_with fail
  go_loopw [3, 8] (fun v i wr => ∃ j : Nat, j ≤ n ∧ i = .int .i64 j ∧ v = .int .i64 (long (l.take j) : Nat) ∧ Below w.heap.size w wr) (fun _ i _ => n - (intOf i).toNat)
  case atStart => exact ⟨0, Nat.zero_le _, rfl, rfl, Below.refl _ _⟩
  case round =>
    obtain ⟨j, hj, rfl, rfl, hb⟩ := hrel
    by_cases hlt : j < n
    · obtain ⟨b, o, rfl, hc0⟩ := h.at_ hlt
      have hc : wr.rangeAt b (o + j * 2) (fv g (at2 l j)) := range_below hc0 hb
      have hw := hl.wide (j := j) (by rw [HLN.out]; exact hlt)
      have hT := h48 j
      have HS := Lib.hid (show long (l.take (j + 1)) = long (l.take j) + (at2 l j).2 from by rw [take_at2 (by rw [HLN.out]; exact hlt), long_append, long_one])
      clear h hc0 h48
      generalize long (l.take j) = x at *
      generalize at2 l j = f at *
      go_wp2_with (first
        | ((with_reducible refine wpList_here ?_); refine wpList_loadV rfl 85 (.tmp 10) rfl b _ (fv g f) rfl hc _ Tryd.underlying85 rfl infoField ?_)
        | ((with_reducible refine wpList_here ?_); refine wpList_allocV rfl 85 rfl _ zeroField _ rfl ?_; intro w1 z1 b1 s1)
        | ((with_reducible refine wpList_here ?_); refine wpList_storeV rfl 85 (.tmp 5) (.tmp 11) rfl _ _ (fv g f) rfl rfl z1 rfl (fv_one g f) infoField ?_; intro w2 z2 g2 s2; have k2 : w2.cell? ⟨wr.heap.size, 1, none⟩ = some (.int .i64 (f.2 : Int)) := (z2 1 (Nat.succ_lt_succ (Nat.zero_lt_succ _))).1))
      have hb2 := v_below_g (below_trans hb b1) g2 (by have := hb.size; omega) hb.size
      go_roundw
      case rel => exact ⟨j + 1, by omega, by go_num, by rw [HS.out]; go_num, hb2⟩
      case measure => simp [intOf]; omega
    · obtain rfl : j = n := by omega
      have HE := Lib.hid (show l.take j = l from List.take_of_length_le (by rw [HLN.out]; exact Nat.le_refl _))
      go_wp2_with fail
      go_ret
      rw [HE.out]
      exact ⟨rfl, hb⟩

/-- What stands in each world of a round: the option, the field, and all that was there. -/
def Rst (w W : World) (g q : Nat) (o : Opt) (f : Nat × Nat) : Prop := Own W g o.vals ∧ Own W q (fv g f) ∧ Below w.heap.size w W
theorem Rst.keep {w W W' : World} {g q : Nat} {o : Opt} {f : Nat × Nat} (h : Rst w W g q o f) (hb : Below W.heap.size W W') : Rst w W' g q o f :=
  ⟨h.1.below hb, h.2.1.below hb, below_trans h.2.2 hb⟩
theorem Rst.c0 {w W : World} {g q : Nat} {o : Opt} {f : Nat × Nat} (h : Rst w W g q o f) : W.cell? ⟨q, 0, none⟩ = some (.iface (pt f.1) (.pointer (some ⟨g, f.1, none⟩))) := (h.2.1 0 (Nat.zero_lt_succ _)).1
theorem Rst.c1 {w W : World} {g q : Nat} {o : Opt} {f : Nat × Nat} (h : Rst w W g q o f) : W.cell? ⟨q, 1, none⟩ = some (.int .i64 (f.2 : Int)) := (h.2.1 1 (Nat.succ_lt_succ (Nat.zero_lt_succ _))).1

theorem shr_run (x wd : Nat) (h1 : 1 ≤ wd) (h8 : wd ≤ 8) (W : World) : (Op.shift .shr .u64 (x : Int) .i64 (IntKind.i64.wrap (8 * (wd : Int)))).run Tryd.prog W = .ok (.int .u64 ((x / 256 ^ wd : Nat) : Int)) W := by
  have e1 : IntKind.i64.wrap (8 * (wd : Int)) = ((8 * wd : Nat) : Int) := by
    have := IntWalk.i64_in (8 * (wd : Int)) (by omega)
    rw [this]
    omega
  have e2 : (256 : Nat) ^ wd = 2 ^ (8 * wd) := by rw [Nat.pow_mul]
  have e3 : min (((8 * wd : Nat) : Int).toNat) IntKind.u64.bits = 8 * wd := by simp [IntKind.bits]; omega
  rw [e1, e2]
  simp only [Op.shift, e3]
  rw [if_neg (by omega)]
  simp only [Sem.run_pure]
  rw [Int.fdiv_eq_ediv_of_nonneg _ (by exact Int.le_of_lt (Int.pow_pos (by omega)))]
  simp
theorem fitB_append (o : Opt) (a b : List (Nat × Nat)) : fitB o (a ++ b) = (fitB o a && fitB o b) := by simp [fitB]
theorem fitB_one (o : Opt) (f : Nat × Nat) : fitB o [f] = decide (o.num f.1 < 256 ^ f.2) := by simp [fitB]

set_option maxRecDepth 8000 in
set_option maxHeartbeats 1600000 in
theorem fit_any (A : Option Addr) (n c g : Nat) (l : List (Nat × Nat)) (o : Opt) (w : World) (h : FL w A n c g l) (hl : Fine l) (ho : Own w g o.vals) (hok : o.ok) :
    Calls Tryd.prog 54 #[.slice A n c] w fun e w' => e = .returned (.bool (fitB o l)) ∧ Below w.heap.size w w' := by
  have hmx := h.max
  have hcp := h.cap
  have HLN := Lib.hid h.len
  go_enter Tryd.func54, Tryd.ntmps54
  go_wp2_with fail
  go_loopw [7] (fun i wr => ∃ j : Nat, j ≤ n ∧ i = .int .i64 j ∧ fitB o (l.take j) = true ∧ Below w.heap.size w wr) (fun i _ => n - (intOf i).toNat)
  case atStart => exact ⟨0, Nat.zero_le _, rfl, rfl, Below.refl _ _⟩
  case round =>
    obtain ⟨j, hj, rfl, hfit, hb⟩ := hrel
    have HFIT := Lib.hid hfit
    clear hfit
    by_cases hlt : j < n
    · obtain ⟨b, a, rfl, hc0⟩ := h.at_ hlt
      have hc : wr.rangeAt b (a + j * 2) (fv g (at2 l j)) := range_below hc0 hb
      have hw := hl.wide (j := j) (by rw [HLN.out]; exact hlt)
      have HS := Lib.hid (show l.take (j + 1) = l.take j ++ [at2 l j] from take_at2 (by rw [HLN.out]; exact hlt))
      have hx := num_lt64 hok hw.1
      have ho1 := ho.below hb
      clear h hc0
      generalize at2 l j = f at *
      go_wp2_with (first
        | ((with_reducible refine wpList_here ?_); refine wpList_loadV rfl 85 (.tmp 9) rfl b _ (fv g f) rfl hc _ Tryd.underlying85 rfl infoField ?_)
        | ((with_reducible refine wpList_here ?_); refine wpList_allocV rfl 85 rfl _ zeroField _ rfl ?_; intro w1 z1 b1 s1)
        | ((with_reducible refine wpList_here ?_); refine wpList_storeV rfl 85 (.tmp 4) (.tmp 10) rfl _ _ (fv g f) rfl rfl z1 rfl (fv_one g f) infoField ?_; intro w2 z2 g2 s2))
      have hb2 := v_below_g (below_trans hb b1) g2 (by have := hb.size; omega) hb.size
      have ho2 := (ho1.below b1).far g2 (by intro e; injection e with e; have := ho1.lt (Nat.zero_lt_succ _); omega)
      have h0 : Rst w w2 g wr.heap.size o f := ⟨ho2, z2, hb2⟩
      have h1 := h0.c0
      have h2 := h0.c1
      have hs1 := hw.1
      have hsh := fun W => shr_run (o.num f.1) f.2 hw.2.1 hw.2.2 W
      have HN := Lib.hid (fun W h => number_any g f o W h hok hs1)
      have HQ : Hid (o.num f.1 < 256 ^ f.2 ↔ o.num f.1 / 256 ^ f.2 = 0) := Lib.hid (by rw [Nat.div_eq_zero_iff]; have : 0 < 256 ^ f.2 := Nat.pow_pos (by omega); omega)
      generalize o.num f.1 / 256 ^ f.2 = q at *
      by_cases hq : q = 0
      · subst hq
        have HQ2 := Lib.hid (HQ.out.2 rfl)
        clear hc ho1 z1 b1 g2 ho2 z2 hb2 s1 s2 HQ
        go_region_held3 (fun W => W.cell? ⟨wr.heap.size, 0, none⟩ = some (.iface (pt f.1) (.pointer (some ⟨g, f.1, none⟩))) ∧ W.cell? ⟨wr.heap.size, 1, none⟩ = some (.int .i64 (f.2 : Int)) ∧ Rst w W g wr.heap.size o f)
          (first
            | exact ⟨h0.c0, h0.c1, h0⟩
            | exact ⟨h3.c0, h3.c1, h3⟩
            | exact ⟨(h0.keep (Below.refl _ _).drew).c0, (h0.keep (Below.refl _ _).drew).c1, h0.keep (Below.refl _ _).drew⟩)
          (first | (go_at_call 57; refine (HN.out _ (h0.keep (Below.refl _ _).drew).1).mono ?_; rintro e w9 ⟨rfl, b9⟩; have h3 := (h0.keep (Below.refl _ _).drew).keep b9))
        go_wp2_with fail
        go_roundw
        case rel => exact ⟨j + 1, by omega, by go_num, by rw [HS.out, fitB_append, HFIT.out, fitB_one, decide_eq_true HQ2.out]; rfl, h3.2.2⟩
        case measure => simp [intOf]; omega
      · have hq1 : ((q : Int) != 0) = true := by simp; omega
        have HQ2 := Lib.hid (fun e => hq (HQ.out.1 e))
        clear hc ho1 z1 b1 g2 ho2 z2 hb2 s1 s2 HQ hq
        go_region_held3 (fun W => W.cell? ⟨wr.heap.size, 0, none⟩ = some (.iface (pt f.1) (.pointer (some ⟨g, f.1, none⟩))) ∧ W.cell? ⟨wr.heap.size, 1, none⟩ = some (.int .i64 (f.2 : Int)) ∧ Rst w W g wr.heap.size o f)
          (first
            | exact ⟨h0.c0, h0.c1, h0⟩
            | exact ⟨h3.c0, h3.c1, h3⟩
            | exact ⟨(h0.keep (Below.refl _ _).drew).c0, (h0.keep (Below.refl _ _).drew).c1, h0.keep (Below.refl _ _).drew⟩)
          (first | (go_at_call 57; refine (HN.out _ (h0.keep (Below.refl _ _).drew).1).mono ?_; rintro e w9 ⟨rfl, b9⟩; have h3 := (h0.keep (Below.refl _ _).drew).keep b9))
        go_wp2_with fail
        go_ret
        refine ⟨?_, h3.2.2⟩
        have e : fitB o l = false := by
          cases hc : fitB o l with
          | false => rfl
          | true =>
            exfalso
            have h5 : fitB o (l.take (j + 1)) = true := by
              have := List.all_eq_true.1 hc
              exact List.all_eq_true.2 fun x hx => this x (List.mem_of_mem_take hx)
            rw [HS.out, fitB_append, fitB_one, Bool.and_eq_true] at h5
            exact HQ2.out (of_decide_eq_true h5.2)
        rw [e]
        rfl
    · obtain rfl : j = n := by omega
      have HE := Lib.hid (show l.take j = l from List.take_of_length_le (by rw [HLN.out]; exact Nat.le_refl _))
      go_wp2_with fail
      go_ret
      refine ⟨?_, hb⟩
      have := HFIT.out
      rw [HE.out] at this
      rw [this]
      rfl
end Go.Proofs.YtbbpemndkphgeaaDoor

namespace Go.Proofs.YtbbpemndkphgeaaDoor
set_option linter.unusedSimpArgs false
set_option linter.unusedVariables false
open Go.RowKit

/-- What octet.Cut leaves where it cuts. -/
def CutMade (W : World) (n1 : Nat) (l1 : List UInt8) (n2 : Nat) (l2 : List UInt8) (e : Ending) (w' : World) : Prop :=
  ∃ A1 c1 A2 c2, e = .returned (.tuple #[.slice A1 n1 c1, .slice A2 n2 c2, .int .i64 0]) ∧ RB w' A1 n1 c1 l1 ∧ RB w' A2 n2 c2 l2 ∧ Below W.heap.size W w'

set_option maxHeartbeats 800000 in
theorem Cut_ok (A : Option Addr) (n c k : Nat) (l : List UInt8) (w : World) (h : RB w A n c l) (hk : k ≤ n) (ht : n ≤ 549755813888) :
    Calls Tryd.prog 31 #[.slice A n c, .int .i64 (k : Int)] w (CutMade w k (l.take k) (n - k) (l.drop k)) := by
  have hn := h.max
  have hn' := h.cap
  have hk1 : k ≤ 1099511627776 := by omega
  have hk2 : n - k ≤ 1099511627776 := by omega
  obtain ⟨A2, hrun, h2⟩ := h.from_ hk
  have h1 := h.take hk
  go_enter Tryd.func31, Tryd.ntmps31
  go_wp2
  clear h
  go_region_with (first
    | (go_at_call 21; refine (Join_one (B := A) (m := k) (d := c) (l := l.take k) ?_ (h1.below ?_) hk1).mono ?_; (first | exact cell_new _ _ _ | exact cell_new2 _ _ _ _ | exact cell_old2 _ _ _ _); (first | exact below_d (below_a _ _) | exact below_d (below_a2 _ _ _)); rintro e w1 ⟨B1, c1, rfl, hr1, hb1⟩; (first | have hbw1 := below_trans (below_d (below_a w _)) hb1 | have hbw1 := below_trans (below_d (below_a2 w _ _)) hb1); first | have hc2 := cell_later hb1 (cell_new2 _ _ (.slice A2 (n - k) (c - k)) _) | have hc2 := cell_later hb1 (cell_old2 _ _ (.slice A2 (n - k) (c - k)) _) | have hc2 := True.intro)
    | (go_at_call 21; refine (Join_one (B := A2) (m := n - k) (d := c - k) (l := l.drop k) ?_ (h2.below ?_) hk2).mono ?_; (first | exact cell_new _ _ _ | exact hc2); (first | exact hbw1 | exact below_trans hbw1 (below_a _ _)); rintro e w2 ⟨B2, c2, rfl, hr2, hb2⟩; first | (have hr3 := hr1.below hb2; have hbw2 := below_trans hbw1 hb2) | (have hr3 := (hr1.alloc _).below hb2; have hbw2 := below_trans (below_trans hbw1 (below_a _ _)) hb2)))
  all_goals
    go_wp2
    go_ret3
    exact ⟨_, _, _, _, rfl, hr3, hr2, hbw2⟩
/-- What a call of three results leaves that is refused. -/
theorem Cut_below (A : Option Addr) (n c : Nat) (k : Int) (w : World) (hk : k < 0) :
    Calls Tryd.prog 31 #[.slice A n c, .int .i64 k] w fun e w' => e = .returned (.tuple #[.slice none 0 0, .slice none 0 0, .int .i64 1]) ∧ w = w' := by
  go_enter Tryd.func31, Tryd.ntmps31
  go_wp2
  go_ret3
  exact ⟨rfl, rfl⟩

theorem Cut_above (A : Option Addr) (n c : Nat) (k : Int) (w : World) (hk : (n : Int) < k) :
    Calls Tryd.prog 31 #[.slice A n c, .int .i64 k] w fun e w' => e = .returned (.tuple #[.slice none 0 0, .slice none 0 0, .int .i64 3]) ∧ w = w' := by
  have h0 : ¬ k < 0 := by omega
  go_enter Tryd.func31, Tryd.ntmps31
  go_wp2
  go_ret3
  exact ⟨rfl, rfl⟩
end Go.Proofs.YtbbpemndkphgeaaDoor

namespace Go.Proofs.YtbbpemndkphgeaaDoor
set_option linter.unusedSimpArgs false
set_option linter.unusedVariables false
open Go.RowKit

theorem or_byte (x y : Nat) (hx : x ≤ 72057594037927935) (hy : y < 2 ^ 8) : bits .or .u64 ((x : Int) * 256) (y : Int) = ((256 * x + y : Nat) : Int) := by
  have h := u64_or_nat (x * 256) y (by omega) (by omega)
  rw [Int.natCast_mul] at h
  refine h.trans ?_
  have e : x * 256 ||| y = 256 * x + y := by
    rw [show x * 256 = 2 ^ 8 * x from by rw [Nat.mul_comm]]
    exact (Nat.two_pow_add_eq_or_of_lt hy x).symm
  rw [e]

/-- What octet.Take leaves where it takes. -/
def TakeMade (W : World) (x : Nat) (n2 : Nat) (l2 : List UInt8) (e : Ending) (w' : World) : Prop :=
  ∃ A2 c2, e = .returned (.tuple #[.int .u64 (x : Int), .slice A2 n2 c2, .int .i64 0]) ∧ RB w' A2 n2 c2 l2 ∧ Below W.heap.size W w'

set_option maxHeartbeats 800000 in
theorem Take_ok (A : Option Addr) (n c : Nat) (k : Int) (l : List UInt8) (w : World) (h : RB w A n c l) (hk : wn k ≤ n) (ht : n ≤ 549755813888) :
    Calls Tryd.prog 47 #[.slice A n c, .int .i64 k] w (TakeMade w (num (l.take (wn k))) (n - wn k) (l.drop (wn k))) := by
  have hlo := wn_lo k
  have hhi := wn_hi k
  go_enter Tryd.func47, Tryd.ntmps47
  go_wp2_with (first
    | (go_at_call 58; refine (width_any _ _).mono ?_; rintro e w' ⟨rfl, rfl⟩)
    | (go_at_call 31; refine (Cut_ok _ _ _ _ _ _ h hk ht).mono ?_; rintro e w1 ⟨A1, c1, A2, c2, rfl, hr1, hr2, hb1⟩))
  have hl := Lib.hid hr1.len
  have hm := hr1.max
  clear h
  generalize wn k = K at *
  generalize l.take K = d at *
  go_loop [10, 26] (fun x i => ∃ j : Nat, j ≤ K ∧ i = .int .i64 j ∧ x = .int .u64 (num (d.take j) : Nat)) (fun _ i => K - (intOf i).toNat)
  case atStart => exact ⟨0, Nat.zero_le _, rfl, rfl⟩
  case round =>
    obtain ⟨j, hj, rfl, rfl⟩ := hrel
    by_cases hlt : j < K
    · have hb := num_take_seven d j (by omega)
      have hx := (d.getD j 0).toNat_lt
      have HS := Lib.hid (num_step d j (by rw [hl.out]; exact hlt))
      obtain ⟨b, o, rfl, hc⟩ := hr1.at_ hlt
      clear hr1 hr2
      generalize num (d.take j) = x at *
      generalize (d.getD j 0).toNat = y at *
      go_wp2
      go_round
      case rel => exact ⟨j + 1, by omega, by go_num, by rw [HS.out, or_byte x y hb hx]⟩
      case measure => simp [intOf]; omega
    · obtain rfl : j = K := by omega
      have HD := Lib.hid (show d.take j = d from List.take_of_length_le (by rw [hl.out]; exact Nat.le_refl _))
      rw [HD.out]
      go_wp2
      go_ret3
      exact ⟨_, _, rfl, hr2, hb1⟩
theorem Take_few (A : Option Addr) (n c : Nat) (k : Int) (w : World) (hk : n < wn k) :
    Calls Tryd.prog 47 #[.slice A n c, .int .i64 k] w fun e w' => e = .returned (.tuple #[.int .u64 0, .slice none 0 0, .int .i64 3]) ∧ w = w' := by
  go_enter Tryd.func47, Tryd.ntmps47
  go_wp2_with (first
    | (go_at_call 58; refine (width_any _ _).mono ?_; rintro e w' ⟨rfl, rfl⟩)
    | (go_at_call 31; refine (Cut_above _ _ _ _ _ (by omega)).mono ?_; rintro e w1 ⟨rfl, rfl⟩))
  go_ret3
  exact ⟨rfl, rfl⟩

/-- Take, of a number's bytes and what is behind them. -/
theorem Take_at (A : Option Addr) (n c : Nat) (k : Int) (d l : List UInt8) (w : World) (hd : d.length = wn k) (h : RB w A (wn k + n) c (d ++ l)) (ht : n ≤ 1073741824) :
    Calls Tryd.prog 47 #[.slice A (wn k + n) c, .int .i64 k] w (TakeMade w (num d) n l) := by
  have hhi := wn_hi k
  have h1 := Take_ok A (wn k + n) c k (d ++ l) w h (by omega) (by omega)
  rw [List.take_left' hd, List.drop_left' hd, show wn k + n - wn k = n from by omega] at h1
  exact h1
end Go.Proofs.YtbbpemndkphgeaaDoor

namespace Go.Proofs.YtbbpemndkphgeaaDoor
set_option linter.unusedVariables false
set_option linter.unusedSimpArgs false
open Go.RowKit

theorem drop_at2 {l : List (Nat × Nat)} {j : Nat} (h : j < l.length) : l.drop j = at2 l j :: l.drop (j + 1) := by
  rw [List.drop_eq_getElem_cons h]
  simp [at2, List.getD_eq_getElem?_getD, List.getElem?_eq_getElem h]
theorem long_cons (f : Nat × Nat) (r : List (Nat × Nat)) : long (f :: r) = f.2 + long r := by simp [long]
theorem wn_wide {k : Nat} (h : 1 ≤ k) (h' : k ≤ 8) : wn (k : Int) = k := by
  have := wn_mid (n := (k : Int)) (by omega) (by omega)
  omega
theorem pow_wide {k : Nat} (h : k ≤ 8) : 256 ^ k ≤ 18446744073709551616 := Nat.le_trans (Nat.pow_le_pow_right (by decide) h) (by decide)
theorem num_wide (b : List UInt8) {k : Nat} (h : k ≤ 8) : num (b.take k) < 18446744073709551616 := by
  have h1 := num_lt (b.take k)
  have h2 : 256 ^ (b.take k).length ≤ 256 ^ k := Nat.pow_le_pow_right (by decide) (List.length_take_le _ _)
  have h3 := pow_wide h
  omega

theorem prs_ok : ∀ (l : List (Nat × Nat)) (o : Opt) (b : List UInt8), o.ok → (∀ f ∈ l, spot f.1 ∧ 1 ≤ f.2 ∧ f.2 ≤ 8) → (prs o l b).ok
  | [], o, b, h, _ => h
  | f :: r, o, b, h, hf => by
    have h1 := hf f (List.mem_cons_self ..)
    exact prs_ok r _ _ (put_ok h (num_wide b h1.2.2) h1.1) fun x hx => hf x (List.mem_cons_of_mem _ hx)
/-- What fill leaves. -/
def FillMade (W : World) (g : Nat) (o : Opt) (l : List (Nat × Nat)) (bs : List UInt8) (e : Ending) (w' : World) : Prop :=
  e = .returned (.bool (okL l bs)) ∧ W.grownBy w' (some g) ∧ Bytes8 W w' ∧ (okL l bs = true → Own w' g (prs o l bs).vals)

/-- Where a round of fill stands. -/
def Fst (W : World) (A : Option Addr) (n c g : Nat) (o : Opt) (l : List (Nat × Nat)) (bs : List UInt8) (j : Nat) (v : Value) (wr : World) : Prop :=
  ∃ (A1 : Option Addr) (c1 : Nat) (b1 : List UInt8) (o1 : Opt), v = .slice A1 (long (l.drop j)) c1 ∧ RB wr A1 (long (l.drop j)) c1 b1 ∧ FL wr A n c g l ∧ Own wr g o1.vals ∧ W.grownBy wr (some g) ∧ Bytes8 W wr ∧
    okL l bs = okL (l.drop j) b1 ∧ prs o l bs = prs o1 (l.drop j) b1

set_option maxRecDepth 8000 in
set_option maxHeartbeats 1600000 in
theorem fill_any (A : Option Addr) (n c g : Nat) (l : List (Nat × Nat)) (o : Opt) (B : Option Addr) (d : Nat) (bs : List UInt8) (w : World) (h : FL w A n c g l) (hl : Fine l) (ho : Own w g o.vals) (hr : RB w B (long l) d bs) :
    Calls Tryd.prog 65 #[.slice A n c, .slice B (long l) d] w (FillMade w g o l bs) := by
  have hmx := h.max
  have hcp := h.cap
  have HLN := Lib.hid h.len
  have h48 : ∀ j, long (l.drop j) ≤ 48 := fun j => by
    have h1 := long_append (l.take j) (l.drop j)
    rw [List.take_append_drop] at h1
    have h2 := hl.long l.length
    rw [List.take_of_length_le (Nat.le_refl _)] at h2
    omega
  go_enter Tryd.func65, Tryd.ntmps65
  go_wp2_with fail
  go_loopw [1, 12] (fun v i wr => ∃ j : Nat, j ≤ n ∧ i = .int .i64 j ∧ Fst w A n c g o l bs j v wr) (fun _ i _ => n - (intOf i).toNat)
  case atStart => exact ⟨0, Nat.zero_le _, rfl, B, d, bs, o, rfl, hr, h, ho, v_g_refl w _, fun _ _ hp => hp, rfl, rfl⟩
  case round =>
    obtain ⟨j, hj, rfl, A1, c1, b1, o1, rfl, hr1, hf1, ho1, hg1, hy1, e1, e2⟩ := hrel
    have E1 := Lib.hid e1
    have E2 := Lib.hid e2
    clear h ho hr e1 e2
    by_cases hlt : j < n
    · obtain ⟨b, a, rfl, hc0⟩ := hf1.at_ hlt
      have hc : wr.rangeAt b (a + j * 2) (fv g (at2 l j)) := hc0
      have hw := hl.wide (j := j) (by rw [HLN.out]; exact hlt)
      have HD := Lib.hid (drop_at2 (l := l) (j := j) (by rw [HLN.out]; exact hlt))
      have hT := h48 j
      have HLG := Lib.hid (show long (l.drop j) = (at2 l j).2 + long (l.drop (j + 1)) from by rw [HD.out, long_cons])
      clear hc0 h48
      rw [HLG.out] at hr1 hT ⊢
      generalize hm : long (l.drop (j + 1)) = m at *
      have HM := Lib.hid hm
      clear hm
      generalize at2 l j = f at *
      have hwn := wn_wide hw.2.1 hw.2.2
      have hx := num_wide b1 hw.2.2
      have HT : Hid (∀ W, RB W A1 (f.2 + m) c1 b1 → Calls Tryd.prog 47 #[.slice A1 (f.2 + m) c1, .int .i64 (f.2 : Int)] W (TakeMade W (num (b1.take f.2)) m (b1.drop f.2))) := Lib.hid (fun W hW => by
        have := Take_ok A1 (f.2 + m) c1 (f.2 : Int) b1 W hW (by omega) (by omega)
        rw [hwn, show f.2 + m - f.2 = m from by omega] at this
        exact this)
      have HP := Lib.hid (fun W (h : Own W g o1.vals) => set_any g f o1 (num (b1.take f.2)) W h hx hw.1)
      have HOK : Hid (okL l bs = (okN f.1 (num (b1.take f.2)) && okL (l.drop (j + 1)) (b1.drop f.2))) := Lib.hid (by rw [E1.out, HD.out]; rfl)
      have HPR : Hid (prs o l bs = prs (o1.put f.1 (num (b1.take f.2))) (l.drop (j + 1)) (b1.drop f.2)) := Lib.hid (by rw [E2.out, HD.out]; rfl)
      generalize num (b1.take f.2) = x at *
      generalize b1.drop f.2 = b2 at *
      clear hwn
      have hcap := hr1.cap
      have hmax := hr1.max
      cases hk : okN f.1 x with
      | true =>
        rw [hk] at HP HOK
        clear hk
        go_wp2_with (first
          | ((with_reducible refine wpList_here ?_); refine wpList_loadV rfl 85 (.tmp 14) rfl b _ (fv g f) rfl hc _ Tryd.underlying85 rfl infoField ?_)
          | ((with_reducible refine wpList_here ?_); refine wpList_allocV rfl 85 rfl _ zeroField _ rfl ?_; intro w1 z1 d1 s1)
          | ((with_reducible refine wpList_here ?_); refine wpList_storeV rfl 85 (.tmp 6) (.tmp 15) rfl _ _ (fv g f) rfl rfl z1 rfl (fv_one g f) infoField ?_; intro w2 z2 g2 s2; have k2 : w2.cell? ⟨wr.heap.size, 1, none⟩ = some (.int .i64 (f.2 : Int)) := (z2 1 (Nat.succ_lt_succ (Nat.zero_lt_succ _))).1))
        have d2 := v_below_g d1 g2 d1.size (Nat.le_refl _)
        have r2 := hr1.below d2
        have f2 := hf1.below d2
        have o2 := ho1.below d2
        have g3 := hg1.trans (v_g_below d2 (some g))
        have y2 := hy1.trans (Bytes8.of_below d2)
        clear hr1 hf1 ho1 hg1 z1 d1 g2 d2 s1 s2 hc
        refine (HT.out _ r2).mono ?_
        rintro e w3 ⟨A2, c2, rfl, r3, d3⟩
        have z3 := z2.below d3
        have f3 := f2.below d3
        have o3 := o2.below d3
        have g4 := g3.trans (v_g_below d3 (some g))
        have y3 := y2.trans (Bytes8.of_below d3)
        clear r2 f2 o2 g3 d3 z2 k2
        go_wp2_with (first
          | ((with_reducible refine wpList_here ?_); refine wpList_loadV rfl 85 (.tmp 6) rfl _ _ (fv g f) rfl z3.range _ Tryd.underlying85 rfl infoField ?_))
        refine (HP.out _ o3).mono ?_
        rintro e w5 ⟨rfl, o5, g5, y5⟩
        have f5 := f3.put g5
        have r5 := r3.bytes y5
        have g6 := g4.trans g5
        have y6 := y3.trans y5
        clear o3 f3 r3 g4 g5 z3
        go_wp2_with fail
        go_roundw
        case rel => exact ⟨j + 1, by omega, by go_num, A2, c2, b2, _, by rw [HM.out], by rw [HM.out]; exact r5, f5, o5, g6, y6, by rw [HOK.out, Bool.true_and], HPR.out⟩
        case measure => simp [intOf]; omega
      | false =>
        rw [hk] at HP HOK
        clear hk
        go_wp2_with (first
          | ((with_reducible refine wpList_here ?_); refine wpList_loadV rfl 85 (.tmp 14) rfl b _ (fv g f) rfl hc _ Tryd.underlying85 rfl infoField ?_)
          | ((with_reducible refine wpList_here ?_); refine wpList_allocV rfl 85 rfl _ zeroField _ rfl ?_; intro w1 z1 d1 s1)
          | ((with_reducible refine wpList_here ?_); refine wpList_storeV rfl 85 (.tmp 6) (.tmp 15) rfl _ _ (fv g f) rfl rfl z1 rfl (fv_one g f) infoField ?_; intro w2 z2 g2 s2; have k2 : w2.cell? ⟨wr.heap.size, 1, none⟩ = some (.int .i64 (f.2 : Int)) := (z2 1 (Nat.succ_lt_succ (Nat.zero_lt_succ _))).1))
        have d2 := v_below_g d1 g2 d1.size (Nat.le_refl _)
        have r2 := hr1.below d2
        have f2 := hf1.below d2
        have o2 := ho1.below d2
        have g3 := hg1.trans (v_g_below d2 (some g))
        have y2 := hy1.trans (Bytes8.of_below d2)
        clear hr1 hf1 ho1 hg1 z1 d1 g2 d2 s1 s2 hc
        refine (HT.out _ r2).mono ?_
        rintro e w3 ⟨A2, c2, rfl, r3, d3⟩
        have z3 := z2.below d3
        have f3 := f2.below d3
        have o3 := o2.below d3
        have g4 := g3.trans (v_g_below d3 (some g))
        have y3 := y2.trans (Bytes8.of_below d3)
        clear r2 f2 o2 g3 d3 z2 k2
        go_wp2_with (first
          | ((with_reducible refine wpList_here ?_); refine wpList_loadV rfl 85 (.tmp 6) rfl _ _ (fv g f) rfl z3.range _ Tryd.underlying85 rfl infoField ?_))
        refine (HP.out _ o3).mono ?_
        rintro e w5 ⟨rfl, o5, g5, y5⟩
        have f5 := f3.put g5
        have r5 := r3.bytes y5
        have g6 := g4.trans g5
        have y6 := y3.trans y5
        clear o3 f3 r3 g4 g5 z3
        go_wp2_with fail
        go_ret
        exact ⟨by rw [HOK.out]; rfl, g6, y6, fun hc => by rw [HOK.out] at hc; cases hc⟩
    · obtain rfl : j = n := by omega
      have HD := Lib.hid (show l.drop j = [] from List.drop_eq_nil_of_le (by rw [HLN.out]; exact Nat.le_refl _))
      have E3 : Hid (okL l bs = true) := Lib.hid (by rw [E1.out, HD.out]; rfl)
      have E4 : Hid (prs o l bs = o1) := Lib.hid (by rw [E2.out, HD.out]; rfl)
      go_wp2_with fail
      go_ret
      exact ⟨by rw [E3.out]; rfl, hg1, hy1, fun _ => by rw [E4.out]; exact ho1⟩
end Go.Proofs.YtbbpemndkphgeaaDoor

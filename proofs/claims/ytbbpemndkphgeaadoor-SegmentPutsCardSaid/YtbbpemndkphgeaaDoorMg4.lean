/- The contracts of bits and headOf: four truths as one number; the numbers ahead of a segment's bytes. Condition: the segment stands. -/
import Derived.Test.YtbbpemndkphgeaaDoorMg2
import Derived.Test.YtbbpemndkphgeaaDoorMg3
namespace Go.Proofs.YtbbpemndkphgeaaDoor
set_option linter.unusedVariables false
set_option linter.unusedSimpArgs false
open Go.RowKit

/-- Four truths, and how many of them have gone in. -/
def flK (a b c d : Bool) : Nat → Nat
  | 0 => 0
  | 1 => b2n a
  | 2 => b2n a + 2 * b2n b
  | 3 => b2n a + 2 * b2n b + 4 * b2n c
  | _ => flN a b c d
theorem flK_lt (a b c d : Bool) (k : Nat) : flK a b c d k < 16 := by
  have h1 := b2n_le a
  have h2 := b2n_le b
  have h3 := b2n_le c
  have h4 := b2n_le d
  unfold flK
  split <;> (try unfold flN) <;> omega

theorem or0 (b c d : Bool) : bits .or .u64 ((flK true b c d 0 : Nat) : Int) 1 = ((flK true b c d 1 : Nat) : Int) := by cases b <;> cases c <;> cases d <;> kernel_rfl
theorem or1 (a c d : Bool) : bits .or .u64 ((flK a true c d 1 : Nat) : Int) 2 = ((flK a true c d 2 : Nat) : Int) := by cases a <;> cases c <;> cases d <;> kernel_rfl
theorem or2 (a b d : Bool) : bits .or .u64 ((flK a b true d 2 : Nat) : Int) 4 = ((flK a b true d 3 : Nat) : Int) := by cases a <;> cases b <;> cases d <;> kernel_rfl
theorem or3 (a b c : Bool) : bits .or .u64 ((flK a b c true 3 : Nat) : Int) 8 = ((flK a b c true 4 : Nat) : Int) := by cases a <;> cases b <;> cases c <;> kernel_rfl
theorem nor0 (b c d : Bool) : flK false b c d 0 = flK false b c d 1 := rfl
theorem nor1 (a c d : Bool) : flK a false c d 1 = flK a false c d 2 := rfl
theorem nor2 (a b d : Bool) : flK a b false d 2 = flK a b false d 3 := rfl
theorem nor3 (a b c : Bool) : flK a b c false 3 = flK a b c false 4 := rfl

set_option maxRecDepth 8000 in
set_option maxHeartbeats 1600000 in
theorem bits_any (a b c d : Bool) (g : Nat) (w : World) (h : w.rangeAt g 0 [.bool a, .bool b, .bool c, .bool d]) :
    Calls Tryd.prog 42 #[.slice (some ⟨g, 0, none⟩) 4 4] w fun e w' => e = .returned (.int .u64 (flN a b c d : Nat)) ∧ w = w' := by
  have c0 : w.cell? ⟨g, 0, none⟩ = some (.bool a) := h 0 _ rfl
  have c1 : w.cell? ⟨g, 1, none⟩ = some (.bool b) := h 1 _ rfl
  have c2 : w.cell? ⟨g, 2, none⟩ = some (.bool c) := h 2 _ rfl
  have c3 : w.cell? ⟨g, 3, none⟩ = some (.bool d) := h 3 _ rfl
  clear h
  go_enter Tryd.func42, Tryd.ntmps42
  go_wp2_with fail
  go_loop [3, 8] (fun x i => ∃ k : Nat, k ≤ 4 ∧ i = .int .i64 k ∧ x = .int .u64 (flK a b c d k : Nat)) (fun _ i => 4 - (intOf i).toNat)
  case atStart => exact ⟨0, Nat.zero_le _, rfl, rfl⟩
  case round =>
    obtain ⟨k, hk, rfl, rfl⟩ := hrel
    rcases (by omega : k = 0 ∨ k = 1 ∨ k = 2 ∨ k = 3 ∨ k = 4) with rfl | rfl | rfl | rfl | rfl
    · cases a
      · go_wp2
        go_round
        case rel => exact ⟨1, by omega, rfl, by rw [nor0 b c d]⟩
        case measure => simp [intOf]
      · go_wp2
        go_round
        case rel => exact ⟨1, by omega, rfl, by rw [or0 b c d]⟩
        case measure => simp [intOf]
    · cases b
      · go_wp2
        go_round
        case rel => exact ⟨2, by omega, rfl, by rw [nor1 a c d]⟩
        case measure => simp [intOf]
      · go_wp2
        go_round
        case rel => exact ⟨2, by omega, rfl, by rw [or1 a c d]⟩
        case measure => simp [intOf]
    · cases c
      · go_wp2
        go_round
        case rel => exact ⟨3, by omega, rfl, by rw [nor2 a b d]⟩
        case measure => simp [intOf]
      · go_wp2
        go_round
        case rel => exact ⟨3, by omega, rfl, by rw [or2 a b d]⟩
        case measure => simp [intOf]
    · cases d
      · go_wp2
        go_round
        case rel => exact ⟨4, by omega, rfl, by rw [nor3 a b c]⟩
        case measure => simp [intOf]
      · go_wp2
        go_round
        case rel => exact ⟨4, by omega, rfl, by rw [or3 a b c]⟩
        case measure => simp [intOf]
    · go_wp2
      go_ret
      exact ⟨rfl, rfl⟩
/-- What stands while a segment's numbers are gathered. -/
def Hst (w W : World) (s : Seg) : Prop := Own W w.heap.size s.vals ∧ (∃ hs, hs.length = 10 ∧ Own W (w.heap.size + 1) (hv hs)) ∧ Below w.heap.size w W
theorem Hst.keep {w W W' : World} {s : Seg} (h : Hst w W s) (hb : Below W.heap.size W W') : Hst w W' s := by
  obtain ⟨h1, ⟨hs, hl, h2⟩, h3⟩ := h
  exact ⟨h1.below hb, ⟨hs, hl, h2.below hb⟩, below_trans h3 hb⟩
theorem Hst.put {w W : World} {s : Seg} (h : Hst w W s) (l : List Nat) (hl : l.length = 10) : Hst w (W.setCells (w.heap.size + 1) 0 (hv l)) s ∧ Own (W.setCells (w.heap.size + 1) 0 (hv l)) (w.heap.size + 1) (hv l) := by
  obtain ⟨h1, ⟨hs, hl', h2⟩, h3⟩ := h
  have hp := h2.put (vs := hv l) (by rw [hv_length, hv_length, hl, hl'])
  have hg := v_g_setCells (w.heap.size + 1) (hv l) 0 W
  exact ⟨⟨h1.far hg (by intro e; injection e with e; omega), ⟨l, hl, hp⟩, v_below_g h3 hg h3.size (by omega)⟩, hp⟩
theorem sc0 {W : World} {g : Nat} {s : Seg} (h : Own W g s.vals) : W.cell? ⟨g, 0, none⟩ = some (.int .i64 s.src) := (h 0 (by rw [s.vals_length]; omega)).1
theorem sc1 {W : World} {g : Nat} {s : Seg} (h : Own W g s.vals) : W.cell? ⟨g, 1, none⟩ = some (.int .i64 s.dst) := (h 1 (by rw [s.vals_length]; omega)).1
theorem sc2 {W : World} {g : Nat} {s : Seg} (h : Own W g s.vals) : W.cell? ⟨g, 2, none⟩ = some (.int .i64 s.sport) := (h 2 (by rw [s.vals_length]; omega)).1
theorem sc3 {W : World} {g : Nat} {s : Seg} (h : Own W g s.vals) : W.cell? ⟨g, 3, none⟩ = some (.int .i64 s.dport) := (h 3 (by rw [s.vals_length]; omega)).1
theorem sc4 {W : World} {g : Nat} {s : Seg} (h : Own W g s.vals) : W.cell? ⟨g, 4, none⟩ = some (.int .u32 (s.seq : Int)) := (h 4 (by rw [s.vals_length]; omega)).1
theorem sc5 {W : World} {g : Nat} {s : Seg} (h : Own W g s.vals) : W.cell? ⟨g, 5, none⟩ = some (.int .u32 (s.ack : Int)) := (h 5 (by rw [s.vals_length]; omega)).1
theorem sc6 {W : World} {g : Nat} {s : Seg} (h : Own W g s.vals) : W.cell? ⟨g, 6, none⟩ = some (.bool s.syn) := (h 6 (by rw [s.vals_length]; omega)).1
theorem sc7 {W : World} {g : Nat} {s : Seg} (h : Own W g s.vals) : W.cell? ⟨g, 7, none⟩ = some (.bool s.acks) := (h 7 (by rw [s.vals_length]; omega)).1
theorem sc8 {W : World} {g : Nat} {s : Seg} (h : Own W g s.vals) : W.cell? ⟨g, 8, none⟩ = some (.bool s.fin) := (h 8 (by rw [s.vals_length]; omega)).1
theorem sc9 {W : World} {g : Nat} {s : Seg} (h : Own W g s.vals) : W.cell? ⟨g, 9, none⟩ = some (.bool s.rst) := (h 9 (by rw [s.vals_length]; omega)).1
theorem sc10 {W : World} {g : Nat} {s : Seg} (h : Own W g s.vals) : W.cell? ⟨g, 10, none⟩ = some (.int .i64 s.win) := (h 10 (by rw [s.vals_length]; omega)).1
theorem sc11 {W : World} {g : Nat} {s : Seg} (h : Own W g s.vals) : W.cell? ⟨g, 11, none⟩ = some (.slice s.oA s.on s.oc) := (h 11 (by rw [s.vals_length]; omega)).1
theorem sc12 {W : World} {g : Nat} {s : Seg} (h : Own W g s.vals) : W.cell? ⟨g, 12, none⟩ = some (.slice s.dA s.dn s.dc) := (h 12 (by rw [s.vals_length]; omega)).1
theorem zeroHead : (Tryd.prog.info? 46).map (·.zero) = some (some (.agg (hv [0, 0, 0, 0, 0, 0, 0, 0, 0, 0]).toArray)) := by kernel_rfl
theorem infoHead : (Tryd.prog.info? 46).map (·.size) = some 10 := by kernel_rfl
theorem u64_nat {n : Nat} (h : n < 18446744073709551616) : u64 (n : Int) = n := by
  have := u64_int (n : Int)
  omega
theorem head_vals (s : Seg) (hq : s.seq < 4294967296) (ha : s.ack < 4294967296) (hn : s.on ≤ 9223372036854775807) (hd : s.dn ≤ 9223372036854775807) :
    (#[.int .u64 (IntKind.u64.wrap (s.src)), .int .u64 (IntKind.u64.wrap (s.dst)), .int .u64 (IntKind.u64.wrap (s.sport)), .int .u64 (IntKind.u64.wrap (s.dport)), .int .u64 (IntKind.u64.wrap (s.seq : Int)), .int .u64 (IntKind.u64.wrap (s.ack : Int)), .int .u64 (flN s.syn s.acks s.fin s.rst : Nat), .int .u64 (IntKind.u64.wrap (s.win)), .int .u64 (IntKind.u64.wrap (s.on : Int)), .int .u64 (IntKind.u64.wrap (s.dn : Int))] : Array Value) = (hv s.head).toArray := by
  have e1 : u64 (s.seq : Int) = s.seq := u64_nat (by omega)
  have e2 : u64 (s.ack : Int) = s.ack := u64_nat (by omega)
  have e3 : u64 (s.on : Int) = s.on := u64_nat (by omega)
  have e4 : u64 (s.dn : Int) = s.dn := u64_nat (by omega)
  simp only [wrap_u64, hv, Seg.head, List.map_cons, List.map_nil, e1, e2, e3, e4]

set_option maxRecDepth 8000 in
set_option maxHeartbeats 3200000 in
theorem headOf_any (s : Seg) (w : World) (h : SG w s) :
    Calls Tryd.prog 22 #[.agg s.vals.toArray] w fun e w' => e = .returned (.agg (hv s.head).toArray) ∧ Below w.heap.size w w' := by
  have HV := Lib.hid (congrArg Value.agg (head_vals s h.seq h.ack (Nat.le_trans h.opts.cap h.opts.max) (Nat.le_trans h.data.cap h.data.max)))
  have HTH : Hid (∀ (hs : List Nat) (W : World), hs.length = 10 → Own W (w.heap.size + 1) (hv hs) → W.there (w.heap.size + 1) 0 (hv s.head).toArray.size) := Lib.hid (by
    intro hs W hl ho
    have := ho.there
    rw [hv_length, hl] at this
    exact this)
  clear h
  go_enter Tryd.func22, Tryd.ntmps22
  go_wp2_with (first
    | ((with_reducible refine wpList_here ?_); refine wpList_boxV (o := ⟨some 1, _, _, _, _, _⟩) rfl 26 (.tmp 0) rfl s.vals rfl _ rfl ?_; intro w1 z1 b1 s1)
    | ((with_reducible refine wpList_here ?_); refine wpList_allocV (o := ⟨some 2, _, _, _, _, _⟩) rfl 46 rfl _ zeroHead _ s1 ?_; intro w2 z2 b2 s2))
  have h0k : Hst w w2 s := ⟨z1.below b2, ⟨_, rfl, z2⟩, below_trans b1 b2⟩
  have h0 := h0k.keep (Below.refl _ _).drew
  refine wp_region_noPanic ?_
  refine wp_region_held_drew (S := fun W => Hst w W s) (by kernel_rfl) h0 (fun _ => ?_)
  refine held_take (i := 0) (v := .pointer (some ⟨w.heap.size, 0, none⟩)) (some 3) rfl rfl (by kernel_rfl) (by kernel_rfl) (by kernel_rfl) (fun _ _ _ h => h) (Or.inl ⟨by rfl, fun W hW => by go_simp⟩) h0 ?_
  simp only [Act.put, List.setIfInBounds_toArray, List.set_cons_zero, List.set_cons_succ]
  refine held_take (i := 1) (v := .int .i64 s.src) (some 4) rfl rfl (by kernel_rfl) (by kernel_rfl) (by kernel_rfl) (fun _ _ _ h => h) (Or.inl ⟨by rfl, fun W hW => by have hc := sc0 hW.1; go_simp⟩) h0 ?_
  simp only [Act.put, List.setIfInBounds_toArray, List.set_cons_zero, List.set_cons_succ]
  refine held_take (i := 2) (v := .int .u64 (IntKind.u64.wrap (s.src))) (some 5) rfl rfl (by kernel_rfl) (by kernel_rfl) (by kernel_rfl) (fun _ _ _ h => h) (Or.inl ⟨by rfl, fun W hW => by go_simp⟩) h0 ?_
  simp only [Act.put, List.setIfInBounds_toArray, List.set_cons_zero, List.set_cons_succ]
  refine held_take (i := 3) (v := .pointer (some ⟨w.heap.size, 1, none⟩)) (some 6) rfl rfl (by kernel_rfl) (by kernel_rfl) (by kernel_rfl) (fun _ _ _ h => h) (Or.inl ⟨by rfl, fun W hW => by go_simp⟩) h0 ?_
  simp only [Act.put, List.setIfInBounds_toArray, List.set_cons_zero, List.set_cons_succ]
  refine held_take (i := 4) (v := .int .i64 s.dst) (some 7) rfl rfl (by kernel_rfl) (by kernel_rfl) (by kernel_rfl) (fun _ _ _ h => h) (Or.inl ⟨by rfl, fun W hW => by have hc := sc1 hW.1; go_simp⟩) h0 ?_
  simp only [Act.put, List.setIfInBounds_toArray, List.set_cons_zero, List.set_cons_succ]
  refine held_take (i := 5) (v := .int .u64 (IntKind.u64.wrap (s.dst))) (some 8) rfl rfl (by kernel_rfl) (by kernel_rfl) (by kernel_rfl) (fun _ _ _ h => h) (Or.inl ⟨by rfl, fun W hW => by go_simp⟩) h0 ?_
  simp only [Act.put, List.setIfInBounds_toArray, List.set_cons_zero, List.set_cons_succ]
  refine held_take (i := 6) (v := .pointer (some ⟨w.heap.size, 2, none⟩)) (some 9) rfl rfl (by kernel_rfl) (by kernel_rfl) (by kernel_rfl) (fun _ _ _ h => h) (Or.inl ⟨by rfl, fun W hW => by go_simp⟩) h0 ?_
  simp only [Act.put, List.setIfInBounds_toArray, List.set_cons_zero, List.set_cons_succ]
  refine held_take (i := 7) (v := .int .i64 s.sport) (some 10) rfl rfl (by kernel_rfl) (by kernel_rfl) (by kernel_rfl) (fun _ _ _ h => h) (Or.inl ⟨by rfl, fun W hW => by have hc := sc2 hW.1; go_simp⟩) h0 ?_
  simp only [Act.put, List.setIfInBounds_toArray, List.set_cons_zero, List.set_cons_succ]
  refine held_take (i := 8) (v := .int .u64 (IntKind.u64.wrap (s.sport))) (some 11) rfl rfl (by kernel_rfl) (by kernel_rfl) (by kernel_rfl) (fun _ _ _ h => h) (Or.inl ⟨by rfl, fun W hW => by go_simp⟩) h0 ?_
  simp only [Act.put, List.setIfInBounds_toArray, List.set_cons_zero, List.set_cons_succ]
  refine held_take (i := 9) (v := .pointer (some ⟨w.heap.size, 3, none⟩)) (some 12) rfl rfl (by kernel_rfl) (by kernel_rfl) (by kernel_rfl) (fun _ _ _ h => h) (Or.inl ⟨by rfl, fun W hW => by go_simp⟩) h0 ?_
  simp only [Act.put, List.setIfInBounds_toArray, List.set_cons_zero, List.set_cons_succ]
  refine held_take (i := 10) (v := .int .i64 s.dport) (some 13) rfl rfl (by kernel_rfl) (by kernel_rfl) (by kernel_rfl) (fun _ _ _ h => h) (Or.inl ⟨by rfl, fun W hW => by have hc := sc3 hW.1; go_simp⟩) h0 ?_
  simp only [Act.put, List.setIfInBounds_toArray, List.set_cons_zero, List.set_cons_succ]
  refine held_take (i := 11) (v := .int .u64 (IntKind.u64.wrap (s.dport))) (some 14) rfl rfl (by kernel_rfl) (by kernel_rfl) (by kernel_rfl) (fun _ _ _ h => h) (Or.inl ⟨by rfl, fun W hW => by go_simp⟩) h0 ?_
  simp only [Act.put, List.setIfInBounds_toArray, List.set_cons_zero, List.set_cons_succ]
  refine held_take (i := 12) (v := .pointer (some ⟨w.heap.size, 4, none⟩)) (some 15) rfl rfl (by kernel_rfl) (by kernel_rfl) (by kernel_rfl) (fun _ _ _ h => h) (Or.inl ⟨by rfl, fun W hW => by go_simp⟩) h0 ?_
  simp only [Act.put, List.setIfInBounds_toArray, List.set_cons_zero, List.set_cons_succ]
  refine held_take (i := 13) (v := .int .u32 (s.seq : Int)) (some 16) rfl rfl (by kernel_rfl) (by kernel_rfl) (by kernel_rfl) (fun _ _ _ h => h) (Or.inl ⟨by rfl, fun W hW => by have hc := sc4 hW.1; go_simp⟩) h0 ?_
  simp only [Act.put, List.setIfInBounds_toArray, List.set_cons_zero, List.set_cons_succ]
  refine held_take (i := 14) (v := .int .u64 (IntKind.u64.wrap (s.seq : Int))) (some 17) rfl rfl (by kernel_rfl) (by kernel_rfl) (by kernel_rfl) (fun _ _ _ h => h) (Or.inl ⟨by rfl, fun W hW => by go_simp⟩) h0 ?_
  simp only [Act.put, List.setIfInBounds_toArray, List.set_cons_zero, List.set_cons_succ]
  refine held_take (i := 15) (v := .pointer (some ⟨w.heap.size, 5, none⟩)) (some 18) rfl rfl (by kernel_rfl) (by kernel_rfl) (by kernel_rfl) (fun _ _ _ h => h) (Or.inl ⟨by rfl, fun W hW => by go_simp⟩) h0 ?_
  simp only [Act.put, List.setIfInBounds_toArray, List.set_cons_zero, List.set_cons_succ]
  refine held_take (i := 16) (v := .int .u32 (s.ack : Int)) (some 19) rfl rfl (by kernel_rfl) (by kernel_rfl) (by kernel_rfl) (fun _ _ _ h => h) (Or.inl ⟨by rfl, fun W hW => by have hc := sc5 hW.1; go_simp⟩) h0 ?_
  simp only [Act.put, List.setIfInBounds_toArray, List.set_cons_zero, List.set_cons_succ]
  refine held_take (i := 17) (v := .int .u64 (IntKind.u64.wrap (s.ack : Int))) (some 20) rfl rfl (by kernel_rfl) (by kernel_rfl) (by kernel_rfl) (fun _ _ _ h => h) (Or.inl ⟨by rfl, fun W hW => by go_simp⟩) h0 ?_
  simp only [Act.put, List.setIfInBounds_toArray, List.set_cons_zero, List.set_cons_succ]
  refine held_take (i := 18) (v := .pointer (some ⟨w.heap.size, 6, none⟩)) (some 21) rfl rfl (by kernel_rfl) (by kernel_rfl) (by kernel_rfl) (fun _ _ _ h => h) (Or.inl ⟨by rfl, fun W hW => by go_simp⟩) h0 ?_
  simp only [Act.put, List.setIfInBounds_toArray, List.set_cons_zero, List.set_cons_succ]
  refine held_take (i := 19) (v := .bool s.syn) (some 22) rfl rfl (by kernel_rfl) (by kernel_rfl) (by kernel_rfl) (fun _ _ _ h => h) (Or.inl ⟨by rfl, fun W hW => by have hc := sc6 hW.1; go_simp⟩) h0 ?_
  simp only [Act.put, List.setIfInBounds_toArray, List.set_cons_zero, List.set_cons_succ]
  refine held_take (i := 20) (v := .pointer (some ⟨w.heap.size, 7, none⟩)) (some 23) rfl rfl (by kernel_rfl) (by kernel_rfl) (by kernel_rfl) (fun _ _ _ h => h) (Or.inl ⟨by rfl, fun W hW => by go_simp⟩) h0 ?_
  simp only [Act.put, List.setIfInBounds_toArray, List.set_cons_zero, List.set_cons_succ]
  refine held_take (i := 21) (v := .bool s.acks) (some 24) rfl rfl (by kernel_rfl) (by kernel_rfl) (by kernel_rfl) (fun _ _ _ h => h) (Or.inl ⟨by rfl, fun W hW => by have hc := sc7 hW.1; go_simp⟩) h0 ?_
  simp only [Act.put, List.setIfInBounds_toArray, List.set_cons_zero, List.set_cons_succ]
  refine held_take (i := 22) (v := .pointer (some ⟨w.heap.size, 8, none⟩)) (some 25) rfl rfl (by kernel_rfl) (by kernel_rfl) (by kernel_rfl) (fun _ _ _ h => h) (Or.inl ⟨by rfl, fun W hW => by go_simp⟩) h0 ?_
  simp only [Act.put, List.setIfInBounds_toArray, List.set_cons_zero, List.set_cons_succ]
  refine held_take (i := 23) (v := .bool s.fin) (some 26) rfl rfl (by kernel_rfl) (by kernel_rfl) (by kernel_rfl) (fun _ _ _ h => h) (Or.inl ⟨by rfl, fun W hW => by have hc := sc8 hW.1; go_simp⟩) h0 ?_
  simp only [Act.put, List.setIfInBounds_toArray, List.set_cons_zero, List.set_cons_succ]
  refine held_take (i := 24) (v := .pointer (some ⟨w.heap.size, 9, none⟩)) (some 27) rfl rfl (by kernel_rfl) (by kernel_rfl) (by kernel_rfl) (fun _ _ _ h => h) (Or.inl ⟨by rfl, fun W hW => by go_simp⟩) h0 ?_
  simp only [Act.put, List.setIfInBounds_toArray, List.set_cons_zero, List.set_cons_succ]
  refine held_take (i := 25) (v := .bool s.rst) (some 28) rfl rfl (by kernel_rfl) (by kernel_rfl) (by kernel_rfl) (fun _ _ _ h => h) (Or.inl ⟨by rfl, fun W hW => by have hc := sc9 hW.1; go_simp⟩) h0 ?_
  simp only [Act.put, List.setIfInBounds_toArray, List.set_cons_zero, List.set_cons_succ]
  refine held_take (i := 28) (v := .pointer (some ⟨w.heap.size, 10, none⟩)) (some 31) rfl rfl (by kernel_rfl) (by kernel_rfl) (by kernel_rfl) (fun _ _ _ h => h) (Or.inl ⟨by rfl, fun W hW => by go_simp⟩) h0 ?_
  simp only [Act.put, List.setIfInBounds_toArray, List.set_cons_zero, List.set_cons_succ]
  refine held_take (i := 29) (v := .int .i64 s.win) (some 32) rfl rfl (by kernel_rfl) (by kernel_rfl) (by kernel_rfl) (fun _ _ _ h => h) (Or.inl ⟨by rfl, fun W hW => by have hc := sc10 hW.1; go_simp⟩) h0 ?_
  simp only [Act.put, List.setIfInBounds_toArray, List.set_cons_zero, List.set_cons_succ]
  refine held_take (i := 30) (v := .int .u64 (IntKind.u64.wrap (s.win))) (some 33) rfl rfl (by kernel_rfl) (by kernel_rfl) (by kernel_rfl) (fun _ _ _ h => h) (Or.inl ⟨by rfl, fun W hW => by go_simp⟩) h0 ?_
  simp only [Act.put, List.setIfInBounds_toArray, List.set_cons_zero, List.set_cons_succ]
  refine held_take (i := 31) (v := .pointer (some ⟨w.heap.size, 11, none⟩)) (some 34) rfl rfl (by kernel_rfl) (by kernel_rfl) (by kernel_rfl) (fun _ _ _ h => h) (Or.inl ⟨by rfl, fun W hW => by go_simp⟩) h0 ?_
  simp only [Act.put, List.setIfInBounds_toArray, List.set_cons_zero, List.set_cons_succ]
  refine held_take (i := 32) (v := .slice s.oA s.on s.oc) (some 35) rfl rfl (by kernel_rfl) (by kernel_rfl) (by kernel_rfl) (fun _ _ _ h => h) (Or.inl ⟨by rfl, fun W hW => by have hc := sc11 hW.1; go_simp⟩) h0 ?_
  simp only [Act.put, List.setIfInBounds_toArray, List.set_cons_zero, List.set_cons_succ]
  refine held_take (i := 33) (v := .int .i64 (s.on : Int)) (some 36) rfl rfl (by kernel_rfl) (by kernel_rfl) (by kernel_rfl) (fun _ _ _ h => h) (Or.inl ⟨by rfl, fun W hW => by go_simp⟩) h0 ?_
  simp only [Act.put, List.setIfInBounds_toArray, List.set_cons_zero, List.set_cons_succ]
  refine held_take (i := 34) (v := .int .u64 (IntKind.u64.wrap (s.on : Int))) (some 37) rfl rfl (by kernel_rfl) (by kernel_rfl) (by kernel_rfl) (fun _ _ _ h => h) (Or.inl ⟨by rfl, fun W hW => by go_simp⟩) h0 ?_
  simp only [Act.put, List.setIfInBounds_toArray, List.set_cons_zero, List.set_cons_succ]
  refine held_take (i := 35) (v := .pointer (some ⟨w.heap.size, 12, none⟩)) (some 38) rfl rfl (by kernel_rfl) (by kernel_rfl) (by kernel_rfl) (fun _ _ _ h => h) (Or.inl ⟨by rfl, fun W hW => by go_simp⟩) h0 ?_
  simp only [Act.put, List.setIfInBounds_toArray, List.set_cons_zero, List.set_cons_succ]
  refine held_take (i := 36) (v := .slice s.dA s.dn s.dc) (some 39) rfl rfl (by kernel_rfl) (by kernel_rfl) (by kernel_rfl) (fun _ _ _ h => h) (Or.inl ⟨by rfl, fun W hW => by have hc := sc12 hW.1; go_simp⟩) h0 ?_
  simp only [Act.put, List.setIfInBounds_toArray, List.set_cons_zero, List.set_cons_succ]
  refine held_take (i := 37) (v := .int .i64 (s.dn : Int)) (some 40) rfl rfl (by kernel_rfl) (by kernel_rfl) (by kernel_rfl) (fun _ _ _ h => h) (Or.inl ⟨by rfl, fun W hW => by go_simp⟩) h0 ?_
  simp only [Act.put, List.setIfInBounds_toArray, List.set_cons_zero, List.set_cons_succ]
  refine held_take (i := 38) (v := .int .u64 (IntKind.u64.wrap (s.dn : Int))) (some 41) rfl rfl (by kernel_rfl) (by kernel_rfl) (by kernel_rfl) (fun _ _ _ h => h) (Or.inl ⟨by rfl, fun W hW => by go_simp⟩) h0 ?_
  simp only [Act.put, List.setIfInBounds_toArray, List.set_cons_zero, List.set_cons_succ]
  refine wpAnyH_ready (rs := [26]) (by kernel_rfl) (by simp) ?_
  refine AllReadyH.cons rfl (fun K hK => ?_) AllReadyH.nil
  go_simp
  have hB : Hid (((w2.alloc (.cells #[.bool s.syn, .bool s.acks, .bool s.fin, .bool s.rst] 4)).drew).rangeAt (w.heap.size + 1 + 1) 0 [.bool s.syn, .bool s.acks, .bool s.fin, .bool s.rst]) := Lib.hid (by rw [← s2]; exact (Own.new w2 [.bool s.syn, .bool s.acks, .bool s.fin, .bool s.rst] 4).range)
  have s3 : Hst w ((w2.alloc (.cells #[.bool s.syn, .bool s.acks, .bool s.fin, .bool s.rst] 4)).drew) s := h0k.keep ((below_a w2 (.cells #[.bool s.syn, .bool s.acks, .bool s.fin, .bool s.rst] 4)).drew)
  refine hK.out _ _ s3 (fun _ => ?_)
  clear hK
  try simp only [Act.put, List.setIfInBounds_toArray, List.set_cons_zero, List.set_cons_succ]
  refine wpAnyH_ready (rs := [27]) (by kernel_rfl) (by simp) ?_
  refine AllReadyH.cons rfl (fun K hK => ?_) AllReadyH.nil
  go_simp
  refine (bits_any s.syn s.acks s.fin s.rst _ _ hB.out).mono ?_
  rintro e w4 ⟨rfl, rfl⟩
  dsimp only
  refine hK.out _ _ s3 (fun _ => ?_)
  clear hK
  try simp only [Act.put, List.setIfInBounds_toArray, List.set_cons_zero, List.set_cons_succ]
  refine held_take (i := 39) (v := .agg #[.int .u64 (IntKind.u64.wrap (s.src)), .int .u64 (IntKind.u64.wrap (s.dst)), .int .u64 (IntKind.u64.wrap (s.sport)), .int .u64 (IntKind.u64.wrap (s.dport)), .int .u64 (IntKind.u64.wrap (s.seq : Int)), .int .u64 (IntKind.u64.wrap (s.ack : Int)), .int .u64 (flN s.syn s.acks s.fin s.rst : Nat), .int .u64 (IntKind.u64.wrap (s.win)), .int .u64 (IntKind.u64.wrap (s.on : Int)), .int .u64 (IntKind.u64.wrap (s.dn : Int))]) (some 42) rfl rfl (by kernel_rfl) (by kernel_rfl) (by kernel_rfl) (fun _ _ _ h => h) (Or.inl ⟨by rfl, fun W hW => by go_simp⟩) s3 ?_
  simp only [Act.put, List.setIfInBounds_toArray, List.set_cons_zero, List.set_cons_succ]
  refine wpAnyH_ready (rs := [40]) (by kernel_rfl) (by simp) ?_
  refine AllReadyH.cons rfl (fun K hK => ?_) AllReadyH.nil
  rw [if_pos (by rfl)]
  obtain ⟨hs, hl, ho5⟩ := s3.2.1
  refine wp_store_mid 46 (.tmp 2) (.tmp 42) rfl (w.heap.size + 1) 0 (hv s.head).toArray rfl HV.out (HTH.out _ _ hl ho5) infoHead (all_oneCell_toArray (hv_one _)) ?_
  have s5 := s3.put s.head rfl
  refine hK.out _ _ s5.1 (fun _ => ?_)
  clear hK
  refine wpAnyH_done (by kernel_rfl) ?_ _
  refine NoPanic.normal ?_
  go_wp2_with fail
  refine bodyPost_ret (results_c0 rfl _ _ (w.heap.size + 1) (hv s.head) _ rfl s5.2.range Tryd.underlying46 rfl infoHead) rfl ?_
  exact ⟨rfl, s5.1.2.2⟩
end Go.Proofs.YtbbpemndkphgeaaDoor

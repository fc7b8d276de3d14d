/- Contracts: how long a segment is that was told; hearSyn, hearAnswer. Conditions: the flow stands, its numbers within their bounds. -/
import Derived.Test.YtnpkmkjenlhkiaaMg11
namespace Go.Proofs.Ytnpkmkjenlhkiaa
set_option linter.unusedVariables false
set_option linter.unusedSimpArgs false
set_option maxRecDepth 20000
open Go.RowKit Go.Lib

def sgx (q ak : Nat) (syn kk fin rr : Bool) (A : Option Addr) (n c : Nat) : List Value := [.int .i64 0, .int .i64 0, .int .i64 0, .int .i64 0, .int .u32 (q : Int), .int .u32 (ak : Int), .bool syn, .bool kk, .bool fin, .bool rr, .int .i64 0, .slice none 0 0, .slice A n c]
theorem sgx_length (q ak : Nat) (syn kk fin rr : Bool) (A : Option Addr) (n c : Nat) : (sgx q ak syn kk fin rr A n c).length = 13 := rfl
theorem sgx_one (q ak : Nat) (syn kk fin rr : Bool) (A : Option Addr) (n c : Nat) : ∀ u ∈ sgx q ak syn kk fin rr A n c, u.oneCell' = true := by
  intro u hu
  simp only [sgx, List.mem_cons, List.not_mem_nil, or_false] at hu
  rcases hu with rfl | rfl | rfl | rfl | rfl | rfl | rfl | rfl | rfl | rfl | rfl | rfl | rfl <;> rfl
theorem sg_sgx (o : Oc) : o.sg = sgx o.p.seq o.ack o.p.syn o.acks o.p.fin o.rst o.p.dA o.p.dn o.p.dc := rfl

set_option maxRecDepth 20000 in
set_option maxHeartbeats 1600000 in
theorem Long_sg (q ak : Nat) (syn kk fin rr : Bool) (dA : Option Addr) (dn dc : Nat) (w : World) (hl : dn ≤ dc) (hm : dc ≤ 9223372036854775807) (hd : dn ≤ 1099511627776) :
    Calls Try.prog 62 #[.agg (sgx q ak syn kk fin rr dA dn dc).toArray] w fun e w' => e = .returned (.int .i64 ((dn + bn syn + bn fin : Nat) : Int)) ∧ Below w.heap.size w w' := by
  cases syn <;> cases fin
  · go_enter Try.func62, Try.ntmps62
    go_wp2_with (first
      | ((with_reducible refine wpList_here ?_); refine wpList_boxV (o := ⟨some 1, _, _, _, _, _⟩) rfl 47 (.tmp 0) rfl (sgx q ak false kk false rr dA dn dc) rfl _ rfl ?_; intro w1 z1 b1 s1; have k6 : w1.cell? ⟨w.heap.size, 6, none⟩ = some (.bool false) := (z1 6 (by rw [sgx_length]; omega)).1; have k8 : w1.cell? ⟨w.heap.size, 8, none⟩ = some (.bool false) := (z1 8 (by rw [sgx_length]; omega)).1; have k12 : w1.cell? ⟨w.heap.size, 12, none⟩ = some (.slice dA dn dc) := (z1 12 (by rw [sgx_length]; omega)).1))
    have i0 := fun W => run_index_row W 110 4 2 #[.bool false, .bool false] 0 _ Try.underlying110 szBool aggBool (by omega) (by omega) rfl
    have i1 := fun W => run_index_row W 110 4 2 #[.bool false, .bool false] 1 _ Try.underlying110 szBool aggBool (by omega) (by omega) rfl
    go_loopw [3, 14] (fun x i wr => wr = w1 ∧ ((i = .int .i64 0 ∧ x = .int .i64 (dn : Int)) ∨ (i = .int .i64 1 ∧ x = .int .i64 ((dn + bn false : Nat) : Int)) ∨ (i = .int .i64 2 ∧ x = .int .i64 ((dn + bn false + bn false : Nat) : Int)))) (fun _ i _ => 2 - (intOf i).toNat)
    case atStart => exact ⟨rfl, Or.inl ⟨rfl, rfl⟩⟩
    case round =>
      obtain ⟨rfl, ⟨rfl, rfl⟩ | ⟨rfl, rfl⟩ | ⟨rfl, rfl⟩⟩ := hrel
      · go_wp2
        go_roundw
        case rel => exact ⟨trivial, Or.inr (Or.inl ⟨rfl, rfl⟩)⟩
        case measure => simp [intOf]
      · simp only [bn, if_true, Bool.false_eq_true, if_false, Nat.add_zero]
        go_wp2
        go_roundw
        case rel => exact ⟨trivial, Or.inr (Or.inr ⟨rfl, rfl⟩)⟩
        case measure => simp [intOf]
      · go_wp2
        go_ret
        exact ⟨rfl, b1⟩
  · go_enter Try.func62, Try.ntmps62
    go_wp2_with (first
      | ((with_reducible refine wpList_here ?_); refine wpList_boxV (o := ⟨some 1, _, _, _, _, _⟩) rfl 47 (.tmp 0) rfl (sgx q ak false kk true rr dA dn dc) rfl _ rfl ?_; intro w1 z1 b1 s1; have k6 : w1.cell? ⟨w.heap.size, 6, none⟩ = some (.bool false) := (z1 6 (by rw [sgx_length]; omega)).1; have k8 : w1.cell? ⟨w.heap.size, 8, none⟩ = some (.bool true) := (z1 8 (by rw [sgx_length]; omega)).1; have k12 : w1.cell? ⟨w.heap.size, 12, none⟩ = some (.slice dA dn dc) := (z1 12 (by rw [sgx_length]; omega)).1))
    have i0 := fun W => run_index_row W 110 4 2 #[.bool false, .bool true] 0 _ Try.underlying110 szBool aggBool (by omega) (by omega) rfl
    have i1 := fun W => run_index_row W 110 4 2 #[.bool false, .bool true] 1 _ Try.underlying110 szBool aggBool (by omega) (by omega) rfl
    go_loopw [3, 14] (fun x i wr => wr = w1 ∧ ((i = .int .i64 0 ∧ x = .int .i64 (dn : Int)) ∨ (i = .int .i64 1 ∧ x = .int .i64 ((dn + bn false : Nat) : Int)) ∨ (i = .int .i64 2 ∧ x = .int .i64 ((dn + bn false + bn true : Nat) : Int)))) (fun _ i _ => 2 - (intOf i).toNat)
    case atStart => exact ⟨rfl, Or.inl ⟨rfl, rfl⟩⟩
    case round =>
      obtain ⟨rfl, ⟨rfl, rfl⟩ | ⟨rfl, rfl⟩ | ⟨rfl, rfl⟩⟩ := hrel
      · go_wp2
        go_roundw
        case rel => exact ⟨trivial, Or.inr (Or.inl ⟨rfl, rfl⟩)⟩
        case measure => simp [intOf]
      · simp only [bn, if_true, Bool.false_eq_true, if_false, Nat.add_zero]
        go_wp2
        go_roundw
        case rel => exact ⟨trivial, Or.inr (Or.inr ⟨rfl, rfl⟩)⟩
        case measure => simp [intOf]
      · go_wp2
        go_ret
        exact ⟨rfl, b1⟩
  · go_enter Try.func62, Try.ntmps62
    go_wp2_with (first
      | ((with_reducible refine wpList_here ?_); refine wpList_boxV (o := ⟨some 1, _, _, _, _, _⟩) rfl 47 (.tmp 0) rfl (sgx q ak true kk false rr dA dn dc) rfl _ rfl ?_; intro w1 z1 b1 s1; have k6 : w1.cell? ⟨w.heap.size, 6, none⟩ = some (.bool true) := (z1 6 (by rw [sgx_length]; omega)).1; have k8 : w1.cell? ⟨w.heap.size, 8, none⟩ = some (.bool false) := (z1 8 (by rw [sgx_length]; omega)).1; have k12 : w1.cell? ⟨w.heap.size, 12, none⟩ = some (.slice dA dn dc) := (z1 12 (by rw [sgx_length]; omega)).1))
    have i0 := fun W => run_index_row W 110 4 2 #[.bool true, .bool false] 0 _ Try.underlying110 szBool aggBool (by omega) (by omega) rfl
    have i1 := fun W => run_index_row W 110 4 2 #[.bool true, .bool false] 1 _ Try.underlying110 szBool aggBool (by omega) (by omega) rfl
    go_loopw [3, 14] (fun x i wr => wr = w1 ∧ ((i = .int .i64 0 ∧ x = .int .i64 (dn : Int)) ∨ (i = .int .i64 1 ∧ x = .int .i64 ((dn + bn true : Nat) : Int)) ∨ (i = .int .i64 2 ∧ x = .int .i64 ((dn + bn true + bn false : Nat) : Int)))) (fun _ i _ => 2 - (intOf i).toNat)
    case atStart => exact ⟨rfl, Or.inl ⟨rfl, rfl⟩⟩
    case round =>
      obtain ⟨rfl, ⟨rfl, rfl⟩ | ⟨rfl, rfl⟩ | ⟨rfl, rfl⟩⟩ := hrel
      · go_wp2
        go_roundw
        case rel => exact ⟨trivial, Or.inr (Or.inl ⟨rfl, rfl⟩)⟩
        case measure => simp [intOf]
      · simp only [bn, if_true, Bool.false_eq_true, if_false, Nat.add_zero]
        go_wp2
        go_roundw
        case rel => exact ⟨trivial, Or.inr (Or.inr ⟨rfl, rfl⟩)⟩
        case measure => simp [intOf]
      · go_wp2
        go_ret
        exact ⟨rfl, b1⟩
  · go_enter Try.func62, Try.ntmps62
    go_wp2_with (first
      | ((with_reducible refine wpList_here ?_); refine wpList_boxV (o := ⟨some 1, _, _, _, _, _⟩) rfl 47 (.tmp 0) rfl (sgx q ak true kk true rr dA dn dc) rfl _ rfl ?_; intro w1 z1 b1 s1; have k6 : w1.cell? ⟨w.heap.size, 6, none⟩ = some (.bool true) := (z1 6 (by rw [sgx_length]; omega)).1; have k8 : w1.cell? ⟨w.heap.size, 8, none⟩ = some (.bool true) := (z1 8 (by rw [sgx_length]; omega)).1; have k12 : w1.cell? ⟨w.heap.size, 12, none⟩ = some (.slice dA dn dc) := (z1 12 (by rw [sgx_length]; omega)).1))
    have i0 := fun W => run_index_row W 110 4 2 #[.bool true, .bool true] 0 _ Try.underlying110 szBool aggBool (by omega) (by omega) rfl
    have i1 := fun W => run_index_row W 110 4 2 #[.bool true, .bool true] 1 _ Try.underlying110 szBool aggBool (by omega) (by omega) rfl
    go_loopw [3, 14] (fun x i wr => wr = w1 ∧ ((i = .int .i64 0 ∧ x = .int .i64 (dn : Int)) ∨ (i = .int .i64 1 ∧ x = .int .i64 ((dn + bn true : Nat) : Int)) ∨ (i = .int .i64 2 ∧ x = .int .i64 ((dn + bn true + bn true : Nat) : Int)))) (fun _ i _ => 2 - (intOf i).toNat)
    case atStart => exact ⟨rfl, Or.inl ⟨rfl, rfl⟩⟩
    case round =>
      obtain ⟨rfl, ⟨rfl, rfl⟩ | ⟨rfl, rfl⟩ | ⟨rfl, rfl⟩⟩ := hrel
      · go_wp2
        go_roundw
        case rel => exact ⟨trivial, Or.inr (Or.inl ⟨rfl, rfl⟩)⟩
        case measure => simp [intOf]
      · simp only [bn, if_true, Bool.false_eq_true, if_false, Nat.add_zero]
        go_wp2
        go_roundw
        case rel => exact ⟨trivial, Or.inr (Or.inr ⟨rfl, rfl⟩)⟩
        case measure => simp [intOf]
      · go_wp2
        go_ret
        exact ⟨rfl, b1⟩


section
variable {base : Nat} {w w' : World} {s : Sh} {x : F}
theorem Left.before {w1 w2 : World} {x1 : F} (b : Below w.heap.size w w1) (h : Left base w1 s x1 w2) : Left base w s x1 w2 := Left.then_ rfl (Ch.of_below _ b) (fun g h => .inl h) h
/-- A Syn that comes where one came already. -/
def F.hsyn (x : F) (q : Nat) (kk : Bool) (t : Int) : F := if x.st = 2 ∧ kk = false ∧ q = on x.rcv (-1) then x.again t else x.tell (tK x.en)
set_option maxHeartbeats 3200000 in
theorem hearSyn_any (h : Fl base w s x) (q ak : Nat) (syn kk fin rr : Bool) (A : Option Addr) (n c : Nat) (hq : q < 4294967296) (hl : x.ks.length ≤ 1073741824) (hd : ∀ k ∈ x.ks, k.ds.length ≤ 1099511627776) (hn : x.os.length ≤ 274877906944) (hE : x.E.Ok) (t : Int) (ht : isInt t) :
    Calls Try.prog 42 #[ptr s.fb, .agg (sgx q ak syn kk fin rr A n c).toArray, .int .i64 t] w fun e w' => e = .returned (.tuple #[]) ∧ Left base w s (x.hsyn q kk t) w' := by
  have H := Lib.hid h
  have HAg := Lib.hid (fun (W : World) (b : Below w.heap.size w W) => sendAgain_any (h.below b) hl hd hn hE t ht)
  have HTe := Lib.hid (fun (W : World) (b : Below w.heap.size w W) => tellAt_any (h.below b) x.en h.qu.num (by omega))
  have HEn := Lib.hid (fun (W : World) (b : Below w.heap.size w W) => End_any (h.below b).qu)
  have HON := Lib.hid (fun W => On_any x.rcv (-1) W h.rcv (by omega))
  have hfb := h.fa.lt
  have c0 := h.fa.c0
  dsimp only [F.fc] at c0
  unfold F.hsyn
  clear h hl hd hn hE ht
  unfold ptr at *
  by_cases h1 : x.st = 2
  · cases kk with
    | true =>
      rw [if_neg (fun e => by cases e.2.1)]
      go_enter Try.func42, Try.ntmps42
      go_wp2_with (first
        | ((with_reducible refine wpList_here ?_); refine wpList_boxV (o := ⟨some 4, _, _, _, _, _⟩) rfl 47 (.tmp 1) rfl (sgx q ak syn true fin rr A n c) rfl _ rfl ?_; intro w1 z1 b1 s1; have HB1 := Lib.hid b1.drew; have HF1 := Lib.hid (H.out.below b1.drew); have z1d : Own w1.drew w.heap.size (sgx q ak syn true fin rr A n c) := z1; clear b1 z1)
        | fail)
      generalize hwd : w1.drew = wd at *
      generalize hgz : w.heap.size = g at *
      have hsz : g ≤ wd.heap.size := by rw [← hwd]; show g ≤ w1.heap.size; omega
      have e0 : wd.cell? ⟨s.fb, 5, none⟩ = some (.int .i64 2) ∧ wd.cell? ⟨s.fb, 6, none⟩ = some (.int .u32 (x.rcv : Int)) ∧ wd.cell? ⟨g, 4, none⟩ = some (.int .u32 (q : Int)) ∧ wd.cell? ⟨g, 7, none⟩ = some (.bool true) := ⟨by have := HF1.out.fa.c5; dsimp only [F.fc] at this; rw [h1] at this; exact this, HF1.out.fa.c6, (z1d 4 (by rw [sgx_length]; omega)).1, (z1d 7 (by rw [sgx_length]; omega)).1⟩
      clear z1d s1
      refine wp_region_noPanic ?_
      refine wp_region_held_drew (S := fun W => W.cell? ⟨s.fb, 5, none⟩ = some (.int .i64 2) ∧ W.cell? ⟨s.fb, 6, none⟩ = some (.int .u32 (x.rcv : Int)) ∧ W.cell? ⟨g, 4, none⟩ = some (.int .u32 (q : Int)) ∧ W.cell? ⟨g, 7, none⟩ = some (.bool true)) (by kernel_rfl) (by rw [hwd]; exact e0) (fun _ => ?_)
      rw [hwd]
      clear hwd
      refine held_take (i := 0) (v := .pointer (some ⟨s.fb, 0, none⟩)) (some 6) rfl rfl (by kernel_rfl) (by kernel_rfl) (by kernel_rfl) (fun _ _ _ h => h) (Or.inl ⟨by rfl, fun W hW => by go_simp⟩) e0 ?_
      simp only [Act.put, List.setIfInBounds_toArray, List.set_cons_zero, List.set_cons_succ]
      refine held_take (i := 1) (v := .pointer (some ⟨s.fb, 0, none⟩)) (some 7) rfl rfl (by kernel_rfl) (by kernel_rfl) (by kernel_rfl) (fun _ _ _ h => h) (Or.inl ⟨by rfl, fun W hW => by go_simp⟩) e0 ?_
      simp only [Act.put, List.setIfInBounds_toArray, List.set_cons_zero, List.set_cons_succ]
      refine held_take (i := 2) (v := .pointer (some ⟨s.fb, 5, none⟩)) (some 8) rfl rfl (by kernel_rfl) (by kernel_rfl) (by kernel_rfl) (fun _ _ _ h => h) (Or.inl ⟨by rfl, fun W hW => by go_simp⟩) e0 ?_
      simp only [Act.put, List.setIfInBounds_toArray, List.set_cons_zero, List.set_cons_succ]
      refine held_take (i := 3) (v := .int .i64 2) (some 9) rfl rfl (by kernel_rfl) (by kernel_rfl) (by kernel_rfl) (fun _ _ _ h => h) (Or.inl ⟨by rfl, fun W hW => by have hc := hW.1; go_simp⟩) e0 ?_
      simp only [Act.put, List.setIfInBounds_toArray, List.set_cons_zero, List.set_cons_succ]
      refine held_take (i := 4) (v := .bool true) (some 10) rfl rfl (by kernel_rfl) (by kernel_rfl) (by kernel_rfl) (fun _ _ _ h => h) (Or.inl ⟨by rfl, fun W hW => by go_simp⟩) e0 ?_
      simp only [Act.put, List.setIfInBounds_toArray, List.set_cons_zero, List.set_cons_succ]
      refine held_take (i := 5) (v := .bool true) (some 11) rfl rfl (by kernel_rfl) (by kernel_rfl) (by kernel_rfl) (fun _ _ _ h => h) (Or.inl ⟨by rfl, fun W hW => by go_simp⟩) e0 ?_
      simp only [Act.put, List.setIfInBounds_toArray, List.set_cons_zero, List.set_cons_succ]
      refine held_take (i := 6) (v := .pointer (some ⟨g, 7, none⟩)) (some 12) rfl rfl (by kernel_rfl) (by kernel_rfl) (by kernel_rfl) (fun _ _ _ h => h) (Or.inl ⟨by rfl, fun W hW => by go_simp⟩) e0 ?_
      simp only [Act.put, List.setIfInBounds_toArray, List.set_cons_zero, List.set_cons_succ]
      refine held_take (i := 7) (v := .bool true) (some 13) rfl rfl (by kernel_rfl) (by kernel_rfl) (by kernel_rfl) (fun _ _ _ h => h) (Or.inl ⟨by rfl, fun W hW => by have hc := hW.2.2.2; go_simp⟩) e0 ?_
      simp only [Act.put, List.setIfInBounds_toArray, List.set_cons_zero, List.set_cons_succ]
      refine held_take (i := 8) (v := .bool false) (some 14) rfl rfl (by kernel_rfl) (by kernel_rfl) (by kernel_rfl) (fun _ _ _ h => h) (Or.inl ⟨by rfl, fun W hW => by go_simp⟩) e0 ?_
      simp only [Act.put, List.setIfInBounds_toArray, List.set_cons_zero, List.set_cons_succ]
      refine held_take (i := 9) (v := .bool false) (some 15) rfl rfl (by kernel_rfl) (by kernel_rfl) (by kernel_rfl) (fun _ _ _ h => h) (Or.inl ⟨by rfl, fun W hW => by go_simp⟩) e0 ?_
      simp only [Act.put, List.setIfInBounds_toArray, List.set_cons_zero, List.set_cons_succ]
      refine held_take (i := 10) (v := .bool false) (some 16) rfl rfl (by kernel_rfl) (by kernel_rfl) (by kernel_rfl) (fun _ _ _ h => h) (Or.inl ⟨by rfl, fun W hW => by go_simp⟩) e0 ?_
      simp only [Act.put, List.setIfInBounds_toArray, List.set_cons_zero, List.set_cons_succ]
      refine held_take (i := 11) (v := undef) (some 17) rfl rfl (by kernel_rfl) (by kernel_rfl) (by kernel_rfl) (fun _ _ _ h => h) (Or.inr ⟨by rfl, by rfl⟩) e0 ?_
      simp only [Act.put, List.setIfInBounds_toArray, List.set_cons_zero, List.set_cons_succ]
      refine held_take (i := 13) (v := undef) (some 19) rfl rfl (by kernel_rfl) (by kernel_rfl) (by kernel_rfl) (fun _ _ _ h => h) (Or.inr ⟨by rfl, by rfl⟩) e0 ?_
      simp only [Act.put, List.setIfInBounds_toArray, List.set_cons_zero, List.set_cons_succ]
      refine held_take (i := 12) (v := undef) (some 18) rfl rfl (by kernel_rfl) (by kernel_rfl) (by kernel_rfl) (fun _ _ _ h => h) (Or.inr ⟨by rfl, by rfl⟩) e0 ?_
      simp only [Act.put, List.setIfInBounds_toArray, List.set_cons_zero, List.set_cons_succ]
      refine held_take (i := 14) (v := undef) (some 20) rfl rfl (by kernel_rfl) (by kernel_rfl) (by kernel_rfl) (fun _ _ _ h => h) (Or.inr ⟨by rfl, by rfl⟩) e0 ?_
      simp only [Act.put, List.setIfInBounds_toArray, List.set_cons_zero, List.set_cons_succ]
      refine held_take (i := 15) (v := undef) (some 21) rfl rfl (by kernel_rfl) (by kernel_rfl) (by kernel_rfl) (fun _ _ _ h => h) (Or.inr ⟨by rfl, by rfl⟩) e0 ?_
      simp only [Act.put, List.setIfInBounds_toArray, List.set_cons_zero, List.set_cons_succ]
      refine held_take (i := 16) (v := undef) (some 22) rfl rfl (by kernel_rfl) (by kernel_rfl) (by kernel_rfl) (fun _ _ _ h => h) (Or.inr ⟨by rfl, by rfl⟩) e0 ?_
      simp only [Act.put, List.setIfInBounds_toArray, List.set_cons_zero, List.set_cons_succ]
      refine held_take (i := 17) (v := undef) (some 23) rfl rfl (by kernel_rfl) (by kernel_rfl) (by kernel_rfl) (fun _ _ _ h => h) (Or.inr ⟨by rfl, by rfl⟩) e0 ?_
      simp only [Act.put, List.setIfInBounds_toArray, List.set_cons_zero, List.set_cons_succ]
      refine held_take (i := 18) (v := undef) (some 24) rfl rfl (by kernel_rfl) (by kernel_rfl) (by kernel_rfl) (fun _ _ _ h => h) (Or.inr ⟨by rfl, by rfl⟩) e0 ?_
      simp only [Act.put, List.setIfInBounds_toArray, List.set_cons_zero, List.set_cons_succ]
      refine held_take (i := 19) (v := .bool false) (some 25) rfl rfl (by kernel_rfl) (by kernel_rfl) (by kernel_rfl) (fun _ _ _ h => h) (Or.inl ⟨by rfl, fun W hW => by go_simp⟩) e0 ?_
      simp only [Act.put, List.setIfInBounds_toArray, List.set_cons_zero, List.set_cons_succ]
      refine wpAnyH_done (by kernel_rfl) ?_ _
      refine NoPanic.normal ?_
      have HX := Lib.hid (HTe.out _ HB1.out)
      have HY := Lib.hid (HEn.out _ HB1.out)
      have k0 := (H.out.below (by rw [hgz]; exact HB1.out)).fa.c0
      dsimp only [F.fc] at k0
      unfold ptr at k0
      go_wp2_with (first
        | (go_at_call 37; refine HY.out.mono ?_; rintro e w3 ⟨rfl, rfl⟩)
        | (go_at_call 51; refine HX.out.mono ?_; rintro e w4 ⟨rfl, l4⟩; have HL4 := Lib.hid l4; clear l4)
        | fail)
      go_end0
      exact ⟨rfl, Left.before (by rw [hgz]; exact HB1.out) HL4.out⟩
    | false =>
      by_cases h3 : q = on x.rcv (-1)
      · rw [if_pos ⟨h1, rfl, h3⟩]
        rw [← h3] at HON
        go_enter Try.func42, Try.ntmps42
        go_wp2_with (first
          | ((with_reducible refine wpList_here ?_); refine wpList_boxV (o := ⟨some 4, _, _, _, _, _⟩) rfl 47 (.tmp 1) rfl (sgx q ak syn false fin rr A n c) rfl _ rfl ?_; intro w1 z1 b1 s1; have HB1 := Lib.hid b1.drew; have HF1 := Lib.hid (H.out.below b1.drew); have z1d : Own w1.drew w.heap.size (sgx q ak syn false fin rr A n c) := z1; clear b1 z1)
          | fail)
        generalize hwd : w1.drew = wd at *
        generalize hgz : w.heap.size = g at *
        have hsz : g ≤ wd.heap.size := by rw [← hwd]; show g ≤ w1.heap.size; omega
        have e0 : wd.cell? ⟨s.fb, 5, none⟩ = some (.int .i64 2) ∧ wd.cell? ⟨s.fb, 6, none⟩ = some (.int .u32 (x.rcv : Int)) ∧ wd.cell? ⟨g, 4, none⟩ = some (.int .u32 (q : Int)) ∧ wd.cell? ⟨g, 7, none⟩ = some (.bool false) := ⟨by have := HF1.out.fa.c5; dsimp only [F.fc] at this; rw [h1] at this; exact this, HF1.out.fa.c6, (z1d 4 (by rw [sgx_length]; omega)).1, (z1d 7 (by rw [sgx_length]; omega)).1⟩
        clear z1d s1
        refine wp_region_noPanic ?_
        refine wp_region_held_drew (S := fun W => W.cell? ⟨s.fb, 5, none⟩ = some (.int .i64 2) ∧ W.cell? ⟨s.fb, 6, none⟩ = some (.int .u32 (x.rcv : Int)) ∧ W.cell? ⟨g, 4, none⟩ = some (.int .u32 (q : Int)) ∧ W.cell? ⟨g, 7, none⟩ = some (.bool false)) (by kernel_rfl) (by rw [hwd]; exact e0) (fun _ => ?_)
        rw [hwd]
        clear hwd
        refine held_take (i := 0) (v := .pointer (some ⟨s.fb, 0, none⟩)) (some 6) rfl rfl (by kernel_rfl) (by kernel_rfl) (by kernel_rfl) (fun _ _ _ h => h) (Or.inl ⟨by rfl, fun W hW => by go_simp⟩) e0 ?_
        simp only [Act.put, List.setIfInBounds_toArray, List.set_cons_zero, List.set_cons_succ]
        refine held_take (i := 1) (v := .pointer (some ⟨s.fb, 0, none⟩)) (some 7) rfl rfl (by kernel_rfl) (by kernel_rfl) (by kernel_rfl) (fun _ _ _ h => h) (Or.inl ⟨by rfl, fun W hW => by go_simp⟩) e0 ?_
        simp only [Act.put, List.setIfInBounds_toArray, List.set_cons_zero, List.set_cons_succ]
        refine held_take (i := 2) (v := .pointer (some ⟨s.fb, 5, none⟩)) (some 8) rfl rfl (by kernel_rfl) (by kernel_rfl) (by kernel_rfl) (fun _ _ _ h => h) (Or.inl ⟨by rfl, fun W hW => by go_simp⟩) e0 ?_
        simp only [Act.put, List.setIfInBounds_toArray, List.set_cons_zero, List.set_cons_succ]
        refine held_take (i := 3) (v := .int .i64 2) (some 9) rfl rfl (by kernel_rfl) (by kernel_rfl) (by kernel_rfl) (fun _ _ _ h => h) (Or.inl ⟨by rfl, fun W hW => by have hc := hW.1; go_simp⟩) e0 ?_
        simp only [Act.put, List.setIfInBounds_toArray, List.set_cons_zero, List.set_cons_succ]
        refine held_take (i := 4) (v := .bool true) (some 10) rfl rfl (by kernel_rfl) (by kernel_rfl) (by kernel_rfl) (fun _ _ _ h => h) (Or.inl ⟨by rfl, fun W hW => by go_simp⟩) e0 ?_
        simp only [Act.put, List.setIfInBounds_toArray, List.set_cons_zero, List.set_cons_succ]
        refine held_take (i := 5) (v := .bool true) (some 11) rfl rfl (by kernel_rfl) (by kernel_rfl) (by kernel_rfl) (fun _ _ _ h => h) (Or.inl ⟨by rfl, fun W hW => by go_simp⟩) e0 ?_
        simp only [Act.put, List.setIfInBounds_toArray, List.set_cons_zero, List.set_cons_succ]
        refine held_take (i := 6) (v := .pointer (some ⟨g, 7, none⟩)) (some 12) rfl rfl (by kernel_rfl) (by kernel_rfl) (by kernel_rfl) (fun _ _ _ h => h) (Or.inl ⟨by rfl, fun W hW => by go_simp⟩) e0 ?_
        simp only [Act.put, List.setIfInBounds_toArray, List.set_cons_zero, List.set_cons_succ]
        refine held_take (i := 7) (v := .bool false) (some 13) rfl rfl (by kernel_rfl) (by kernel_rfl) (by kernel_rfl) (fun _ _ _ h => h) (Or.inl ⟨by rfl, fun W hW => by have hc := hW.2.2.2; go_simp⟩) e0 ?_
        simp only [Act.put, List.setIfInBounds_toArray, List.set_cons_zero, List.set_cons_succ]
        refine held_take (i := 8) (v := .bool true) (some 14) rfl rfl (by kernel_rfl) (by kernel_rfl) (by kernel_rfl) (fun _ _ _ h => h) (Or.inl ⟨by rfl, fun W hW => by go_simp⟩) e0 ?_
        simp only [Act.put, List.setIfInBounds_toArray, List.set_cons_zero, List.set_cons_succ]
        refine held_take (i := 9) (v := .bool true) (some 15) rfl rfl (by kernel_rfl) (by kernel_rfl) (by kernel_rfl) (fun _ _ _ h => h) (Or.inl ⟨by rfl, fun W hW => by go_simp⟩) e0 ?_
        simp only [Act.put, List.setIfInBounds_toArray, List.set_cons_zero, List.set_cons_succ]
        refine held_take (i := 10) (v := .bool true) (some 16) rfl rfl (by kernel_rfl) (by kernel_rfl) (by kernel_rfl) (fun _ _ _ h => h) (Or.inl ⟨by rfl, fun W hW => by go_simp⟩) e0 ?_
        simp only [Act.put, List.setIfInBounds_toArray, List.set_cons_zero, List.set_cons_succ]
        refine held_take (i := 11) (v := .pointer (some ⟨g, 4, none⟩)) (some 17) rfl rfl (by kernel_rfl) (by kernel_rfl) (by kernel_rfl) (fun _ _ _ h => h) (Or.inl ⟨by rfl, fun W hW => by go_simp⟩) e0 ?_
        simp only [Act.put, List.setIfInBounds_toArray, List.set_cons_zero, List.set_cons_succ]
        refine held_take (i := 13) (v := .pointer (some ⟨s.fb, 0, none⟩)) (some 19) rfl rfl (by kernel_rfl) (by kernel_rfl) (by kernel_rfl) (fun _ _ _ h => h) (Or.inl ⟨by rfl, fun W hW => by go_simp⟩) e0 ?_
        simp only [Act.put, List.setIfInBounds_toArray, List.set_cons_zero, List.set_cons_succ]
        refine held_take (i := 12) (v := .int .u32 (q : Int)) (some 18) rfl rfl (by kernel_rfl) (by kernel_rfl) (by kernel_rfl) (fun _ _ _ h => h) (Or.inl ⟨by rfl, fun W hW => by have hc := hW.2.2.1; go_simp⟩) e0 ?_
        simp only [Act.put, List.setIfInBounds_toArray, List.set_cons_zero, List.set_cons_succ]
        refine held_take (i := 14) (v := .pointer (some ⟨s.fb, 0, none⟩)) (some 20) rfl rfl (by kernel_rfl) (by kernel_rfl) (by kernel_rfl) (fun _ _ _ h => h) (Or.inl ⟨by rfl, fun W hW => by go_simp⟩) e0 ?_
        simp only [Act.put, List.setIfInBounds_toArray, List.set_cons_zero, List.set_cons_succ]
        refine held_take (i := 15) (v := .pointer (some ⟨s.fb, 6, none⟩)) (some 21) rfl rfl (by kernel_rfl) (by kernel_rfl) (by kernel_rfl) (fun _ _ _ h => h) (Or.inl ⟨by rfl, fun W hW => by go_simp⟩) e0 ?_
        simp only [Act.put, List.setIfInBounds_toArray, List.set_cons_zero, List.set_cons_succ]
        refine held_take (i := 16) (v := .int .u32 (x.rcv : Int)) (some 22) rfl rfl (by kernel_rfl) (by kernel_rfl) (by kernel_rfl) (fun _ _ _ h => h) (Or.inl ⟨by rfl, fun W hW => by have hc := hW.2.1; go_simp⟩) e0 ?_
        simp only [Act.put, List.setIfInBounds_toArray, List.set_cons_zero, List.set_cons_succ]
        refine wpAnyH_ready (rs := [17]) (by kernel_rfl) (by simp) ?_
        refine AllReadyH.cons rfl (fun K hK => ?_) AllReadyH.nil
        go_simp
        refine (HON.out _).mono ?_
        rintro e w2 ⟨rfl, b2⟩
        have HB1 := Lib.hid (HB1.out.trans (b2.mono hsz))
        have e0 : w2.cell? ⟨s.fb, 5, none⟩ = some (.int .i64 2) ∧ w2.cell? ⟨s.fb, 6, none⟩ = some (.int .u32 (x.rcv : Int)) ∧ w2.cell? ⟨g, 4, none⟩ = some (.int .u32 (q : Int)) ∧ w2.cell? ⟨g, 7, none⟩ = some (.bool false) := ⟨cellB b2 e0.1, cellB b2 e0.2.1, cellB b2 e0.2.2.1, cellB b2 e0.2.2.2⟩
        clear b2
        dsimp only
        refine hK.out _ _ e0 (fun _ => ?_)
        clear hK
        try simp only [Act.put, List.setIfInBounds_toArray, List.set_cons_zero, List.set_cons_succ]
        refine held_take (i := 18) (v := .bool true) (some 24) rfl rfl (by kernel_rfl) (by kernel_rfl) (by kernel_rfl) (fun _ _ _ h => h) (Or.inl ⟨by rfl, fun W hW => by go_simp⟩) e0 ?_
        simp only [Act.put, List.setIfInBounds_toArray, List.set_cons_zero, List.set_cons_succ]
        refine held_take (i := 19) (v := .bool true) (some 25) rfl rfl (by kernel_rfl) (by kernel_rfl) (by kernel_rfl) (fun _ _ _ h => h) (Or.inl ⟨by rfl, fun W hW => by go_simp⟩) e0 ?_
        simp only [Act.put, List.setIfInBounds_toArray, List.set_cons_zero, List.set_cons_succ]
        refine wpAnyH_done (by kernel_rfl) ?_ _
        refine NoPanic.normal ?_
        have HX := Lib.hid (HAg.out _ HB1.out)
        go_wp2_with (first
          | (go_at_call 47; refine HX.out.mono ?_; rintro e w4 ⟨rfl, l4⟩; have HL4 := Lib.hid l4; clear l4)
          | fail)
        refine bodyPost_ret (results_none rfl _ _ _) rfl ?_
        exact ⟨rfl, Left.before (by rw [hgz]; exact HB1.out) HL4.out⟩
      · rw [if_neg (fun e => h3 e.2.2)]
        have n3 : ((q : Int) == ((on x.rcv (-1) : Nat) : Int)) = false := by rw [beq_eq_false_iff_ne]; omega
        have n4 : ¬ (q : Int) = ((on x.rcv (-1) : Nat) : Int) := by omega
        go_enter Try.func42, Try.ntmps42
        go_wp2_with (first
          | ((with_reducible refine wpList_here ?_); refine wpList_boxV (o := ⟨some 4, _, _, _, _, _⟩) rfl 47 (.tmp 1) rfl (sgx q ak syn false fin rr A n c) rfl _ rfl ?_; intro w1 z1 b1 s1; have HB1 := Lib.hid b1.drew; have HF1 := Lib.hid (H.out.below b1.drew); have z1d : Own w1.drew w.heap.size (sgx q ak syn false fin rr A n c) := z1; clear b1 z1)
          | fail)
        generalize hwd : w1.drew = wd at *
        generalize hgz : w.heap.size = g at *
        have hsz : g ≤ wd.heap.size := by rw [← hwd]; show g ≤ w1.heap.size; omega
        have e0 : wd.cell? ⟨s.fb, 5, none⟩ = some (.int .i64 2) ∧ wd.cell? ⟨s.fb, 6, none⟩ = some (.int .u32 (x.rcv : Int)) ∧ wd.cell? ⟨g, 4, none⟩ = some (.int .u32 (q : Int)) ∧ wd.cell? ⟨g, 7, none⟩ = some (.bool false) := ⟨by have := HF1.out.fa.c5; dsimp only [F.fc] at this; rw [h1] at this; exact this, HF1.out.fa.c6, (z1d 4 (by rw [sgx_length]; omega)).1, (z1d 7 (by rw [sgx_length]; omega)).1⟩
        clear z1d s1
        refine wp_region_noPanic ?_
        refine wp_region_held_drew (S := fun W => W.cell? ⟨s.fb, 5, none⟩ = some (.int .i64 2) ∧ W.cell? ⟨s.fb, 6, none⟩ = some (.int .u32 (x.rcv : Int)) ∧ W.cell? ⟨g, 4, none⟩ = some (.int .u32 (q : Int)) ∧ W.cell? ⟨g, 7, none⟩ = some (.bool false)) (by kernel_rfl) (by rw [hwd]; exact e0) (fun _ => ?_)
        rw [hwd]
        clear hwd
        refine held_take (i := 0) (v := .pointer (some ⟨s.fb, 0, none⟩)) (some 6) rfl rfl (by kernel_rfl) (by kernel_rfl) (by kernel_rfl) (fun _ _ _ h => h) (Or.inl ⟨by rfl, fun W hW => by go_simp⟩) e0 ?_
        simp only [Act.put, List.setIfInBounds_toArray, List.set_cons_zero, List.set_cons_succ]
        refine held_take (i := 1) (v := .pointer (some ⟨s.fb, 0, none⟩)) (some 7) rfl rfl (by kernel_rfl) (by kernel_rfl) (by kernel_rfl) (fun _ _ _ h => h) (Or.inl ⟨by rfl, fun W hW => by go_simp⟩) e0 ?_
        simp only [Act.put, List.setIfInBounds_toArray, List.set_cons_zero, List.set_cons_succ]
        refine held_take (i := 2) (v := .pointer (some ⟨s.fb, 5, none⟩)) (some 8) rfl rfl (by kernel_rfl) (by kernel_rfl) (by kernel_rfl) (fun _ _ _ h => h) (Or.inl ⟨by rfl, fun W hW => by go_simp⟩) e0 ?_
        simp only [Act.put, List.setIfInBounds_toArray, List.set_cons_zero, List.set_cons_succ]
        refine held_take (i := 3) (v := .int .i64 2) (some 9) rfl rfl (by kernel_rfl) (by kernel_rfl) (by kernel_rfl) (fun _ _ _ h => h) (Or.inl ⟨by rfl, fun W hW => by have hc := hW.1; go_simp⟩) e0 ?_
        simp only [Act.put, List.setIfInBounds_toArray, List.set_cons_zero, List.set_cons_succ]
        refine held_take (i := 4) (v := .bool true) (some 10) rfl rfl (by kernel_rfl) (by kernel_rfl) (by kernel_rfl) (fun _ _ _ h => h) (Or.inl ⟨by rfl, fun W hW => by go_simp⟩) e0 ?_
        simp only [Act.put, List.setIfInBounds_toArray, List.set_cons_zero, List.set_cons_succ]
        refine held_take (i := 5) (v := .bool true) (some 11) rfl rfl (by kernel_rfl) (by kernel_rfl) (by kernel_rfl) (fun _ _ _ h => h) (Or.inl ⟨by rfl, fun W hW => by go_simp⟩) e0 ?_
        simp only [Act.put, List.setIfInBounds_toArray, List.set_cons_zero, List.set_cons_succ]
        refine held_take (i := 6) (v := .pointer (some ⟨g, 7, none⟩)) (some 12) rfl rfl (by kernel_rfl) (by kernel_rfl) (by kernel_rfl) (fun _ _ _ h => h) (Or.inl ⟨by rfl, fun W hW => by go_simp⟩) e0 ?_
        simp only [Act.put, List.setIfInBounds_toArray, List.set_cons_zero, List.set_cons_succ]
        refine held_take (i := 7) (v := .bool false) (some 13) rfl rfl (by kernel_rfl) (by kernel_rfl) (by kernel_rfl) (fun _ _ _ h => h) (Or.inl ⟨by rfl, fun W hW => by have hc := hW.2.2.2; go_simp⟩) e0 ?_
        simp only [Act.put, List.setIfInBounds_toArray, List.set_cons_zero, List.set_cons_succ]
        refine held_take (i := 8) (v := .bool true) (some 14) rfl rfl (by kernel_rfl) (by kernel_rfl) (by kernel_rfl) (fun _ _ _ h => h) (Or.inl ⟨by rfl, fun W hW => by go_simp⟩) e0 ?_
        simp only [Act.put, List.setIfInBounds_toArray, List.set_cons_zero, List.set_cons_succ]
        refine held_take (i := 9) (v := .bool true) (some 15) rfl rfl (by kernel_rfl) (by kernel_rfl) (by kernel_rfl) (fun _ _ _ h => h) (Or.inl ⟨by rfl, fun W hW => by go_simp⟩) e0 ?_
        simp only [Act.put, List.setIfInBounds_toArray, List.set_cons_zero, List.set_cons_succ]
        refine held_take (i := 10) (v := .bool true) (some 16) rfl rfl (by kernel_rfl) (by kernel_rfl) (by kernel_rfl) (fun _ _ _ h => h) (Or.inl ⟨by rfl, fun W hW => by go_simp⟩) e0 ?_
        simp only [Act.put, List.setIfInBounds_toArray, List.set_cons_zero, List.set_cons_succ]
        refine held_take (i := 11) (v := .pointer (some ⟨g, 4, none⟩)) (some 17) rfl rfl (by kernel_rfl) (by kernel_rfl) (by kernel_rfl) (fun _ _ _ h => h) (Or.inl ⟨by rfl, fun W hW => by go_simp⟩) e0 ?_
        simp only [Act.put, List.setIfInBounds_toArray, List.set_cons_zero, List.set_cons_succ]
        refine held_take (i := 13) (v := .pointer (some ⟨s.fb, 0, none⟩)) (some 19) rfl rfl (by kernel_rfl) (by kernel_rfl) (by kernel_rfl) (fun _ _ _ h => h) (Or.inl ⟨by rfl, fun W hW => by go_simp⟩) e0 ?_
        simp only [Act.put, List.setIfInBounds_toArray, List.set_cons_zero, List.set_cons_succ]
        refine held_take (i := 12) (v := .int .u32 (q : Int)) (some 18) rfl rfl (by kernel_rfl) (by kernel_rfl) (by kernel_rfl) (fun _ _ _ h => h) (Or.inl ⟨by rfl, fun W hW => by have hc := hW.2.2.1; go_simp⟩) e0 ?_
        simp only [Act.put, List.setIfInBounds_toArray, List.set_cons_zero, List.set_cons_succ]
        refine held_take (i := 14) (v := .pointer (some ⟨s.fb, 0, none⟩)) (some 20) rfl rfl (by kernel_rfl) (by kernel_rfl) (by kernel_rfl) (fun _ _ _ h => h) (Or.inl ⟨by rfl, fun W hW => by go_simp⟩) e0 ?_
        simp only [Act.put, List.setIfInBounds_toArray, List.set_cons_zero, List.set_cons_succ]
        refine held_take (i := 15) (v := .pointer (some ⟨s.fb, 6, none⟩)) (some 21) rfl rfl (by kernel_rfl) (by kernel_rfl) (by kernel_rfl) (fun _ _ _ h => h) (Or.inl ⟨by rfl, fun W hW => by go_simp⟩) e0 ?_
        simp only [Act.put, List.setIfInBounds_toArray, List.set_cons_zero, List.set_cons_succ]
        refine held_take (i := 16) (v := .int .u32 (x.rcv : Int)) (some 22) rfl rfl (by kernel_rfl) (by kernel_rfl) (by kernel_rfl) (fun _ _ _ h => h) (Or.inl ⟨by rfl, fun W hW => by have hc := hW.2.1; go_simp⟩) e0 ?_
        simp only [Act.put, List.setIfInBounds_toArray, List.set_cons_zero, List.set_cons_succ]
        refine wpAnyH_ready (rs := [17]) (by kernel_rfl) (by simp) ?_
        refine AllReadyH.cons rfl (fun K hK => ?_) AllReadyH.nil
        go_simp
        refine (HON.out _).mono ?_
        rintro e w2 ⟨rfl, b2⟩
        have HB1 := Lib.hid (HB1.out.trans (b2.mono hsz))
        have e0 : w2.cell? ⟨s.fb, 5, none⟩ = some (.int .i64 2) ∧ w2.cell? ⟨s.fb, 6, none⟩ = some (.int .u32 (x.rcv : Int)) ∧ w2.cell? ⟨g, 4, none⟩ = some (.int .u32 (q : Int)) ∧ w2.cell? ⟨g, 7, none⟩ = some (.bool false) := ⟨cellB b2 e0.1, cellB b2 e0.2.1, cellB b2 e0.2.2.1, cellB b2 e0.2.2.2⟩
        clear b2
        dsimp only
        refine hK.out _ _ e0 (fun _ => ?_)
        clear hK
        try simp only [Act.put, List.setIfInBounds_toArray, List.set_cons_zero, List.set_cons_succ]
        refine held_take (i := 18) (v := .bool false) (some 24) rfl rfl (by kernel_rfl) (by kernel_rfl) (by kernel_rfl) (fun _ _ _ h => h) (Or.inl ⟨by rfl, fun W hW => by go_simp⟩) e0 ?_
        simp only [Act.put, List.setIfInBounds_toArray, List.set_cons_zero, List.set_cons_succ]
        refine held_take (i := 19) (v := .bool false) (some 25) rfl rfl (by kernel_rfl) (by kernel_rfl) (by kernel_rfl) (fun _ _ _ h => h) (Or.inl ⟨by rfl, fun W hW => by go_simp⟩) e0 ?_
        simp only [Act.put, List.setIfInBounds_toArray, List.set_cons_zero, List.set_cons_succ]
        refine wpAnyH_done (by kernel_rfl) ?_ _
        refine NoPanic.normal ?_
        have HX := Lib.hid (HTe.out _ HB1.out)
        have HY := Lib.hid (HEn.out _ HB1.out)
        have k0 := (H.out.below (by rw [hgz]; exact HB1.out)).fa.c0
        dsimp only [F.fc] at k0
        unfold ptr at k0
        go_wp2_with (first
          | (go_at_call 37; refine HY.out.mono ?_; rintro e w3 ⟨rfl, rfl⟩)
          | (go_at_call 51; refine HX.out.mono ?_; rintro e w4 ⟨rfl, l4⟩; have HL4 := Lib.hid l4; clear l4)
          | fail)
        go_end0
        exact ⟨rfl, Left.before (by rw [hgz]; exact HB1.out) HL4.out⟩
  · rw [if_neg (fun e => h1 e.1)]
    have n1 : ((x.st : Int) == 2) = false := by rw [beq_eq_false_iff_ne]; omega
    have n2 : ¬ (x.st : Int) = 2 := by omega
    cases kk
    · go_enter Try.func42, Try.ntmps42
      go_wp2_with (first
        | ((with_reducible refine wpList_here ?_); refine wpList_boxV (o := ⟨some 4, _, _, _, _, _⟩) rfl 47 (.tmp 1) rfl (sgx q ak syn false fin rr A n c) rfl _ rfl ?_; intro w1 z1 b1 s1; have HB1 := Lib.hid b1.drew; have HF1 := Lib.hid (H.out.below b1.drew); have z1d : Own w1.drew w.heap.size (sgx q ak syn false fin rr A n c) := z1; clear b1 z1)
        | fail)
      generalize hwd : w1.drew = wd at *
      generalize hgz : w.heap.size = g at *
      have hsz : g ≤ wd.heap.size := by rw [← hwd]; show g ≤ w1.heap.size; omega
      have e0 : wd.cell? ⟨s.fb, 5, none⟩ = some (.int .i64 (x.st : Int)) ∧ wd.cell? ⟨s.fb, 6, none⟩ = some (.int .u32 (x.rcv : Int)) ∧ wd.cell? ⟨g, 4, none⟩ = some (.int .u32 (q : Int)) ∧ wd.cell? ⟨g, 7, none⟩ = some (.bool false) := ⟨HF1.out.fa.c5, HF1.out.fa.c6, (z1d 4 (by rw [sgx_length]; omega)).1, (z1d 7 (by rw [sgx_length]; omega)).1⟩
      clear z1d s1
      refine wp_region_noPanic ?_
      refine wp_region_held_drew (S := fun W => W.cell? ⟨s.fb, 5, none⟩ = some (.int .i64 (x.st : Int)) ∧ W.cell? ⟨s.fb, 6, none⟩ = some (.int .u32 (x.rcv : Int)) ∧ W.cell? ⟨g, 4, none⟩ = some (.int .u32 (q : Int)) ∧ W.cell? ⟨g, 7, none⟩ = some (.bool false)) (by kernel_rfl) (by rw [hwd]; exact e0) (fun _ => ?_)
      rw [hwd]
      clear hwd
      refine held_take (i := 0) (v := .pointer (some ⟨s.fb, 0, none⟩)) (some 6) rfl rfl (by kernel_rfl) (by kernel_rfl) (by kernel_rfl) (fun _ _ _ h => h) (Or.inl ⟨by rfl, fun W hW => by go_simp⟩) e0 ?_
      simp only [Act.put, List.setIfInBounds_toArray, List.set_cons_zero, List.set_cons_succ]
      refine held_take (i := 1) (v := .pointer (some ⟨s.fb, 0, none⟩)) (some 7) rfl rfl (by kernel_rfl) (by kernel_rfl) (by kernel_rfl) (fun _ _ _ h => h) (Or.inl ⟨by rfl, fun W hW => by go_simp⟩) e0 ?_
      simp only [Act.put, List.setIfInBounds_toArray, List.set_cons_zero, List.set_cons_succ]
      refine held_take (i := 2) (v := .pointer (some ⟨s.fb, 5, none⟩)) (some 8) rfl rfl (by kernel_rfl) (by kernel_rfl) (by kernel_rfl) (fun _ _ _ h => h) (Or.inl ⟨by rfl, fun W hW => by go_simp⟩) e0 ?_
      simp only [Act.put, List.setIfInBounds_toArray, List.set_cons_zero, List.set_cons_succ]
      refine held_take (i := 3) (v := .int .i64 (x.st : Int)) (some 9) rfl rfl (by kernel_rfl) (by kernel_rfl) (by kernel_rfl) (fun _ _ _ h => h) (Or.inl ⟨by rfl, fun W hW => by have hc := hW.1; go_simp⟩) e0 ?_
      simp only [Act.put, List.setIfInBounds_toArray, List.set_cons_zero, List.set_cons_succ]
      refine held_take (i := 4) (v := .bool false) (some 10) rfl rfl (by kernel_rfl) (by kernel_rfl) (by kernel_rfl) (fun _ _ _ h => h) (Or.inl ⟨by rfl, fun W hW => by go_simp⟩) e0 ?_
      simp only [Act.put, List.setIfInBounds_toArray, List.set_cons_zero, List.set_cons_succ]
      refine held_take (i := 5) (v := .bool false) (some 11) rfl rfl (by kernel_rfl) (by kernel_rfl) (by kernel_rfl) (fun _ _ _ h => h) (Or.inl ⟨by rfl, fun W hW => by go_simp⟩) e0 ?_
      simp only [Act.put, List.setIfInBounds_toArray, List.set_cons_zero, List.set_cons_succ]
      refine held_take (i := 6) (v := undef) (some 12) rfl rfl (by kernel_rfl) (by kernel_rfl) (by kernel_rfl) (fun _ _ _ h => h) (Or.inr ⟨by rfl, by rfl⟩) e0 ?_
      simp only [Act.put, List.setIfInBounds_toArray, List.set_cons_zero, List.set_cons_succ]
      refine held_take (i := 7) (v := undef) (some 13) rfl rfl (by kernel_rfl) (by kernel_rfl) (by kernel_rfl) (fun _ _ _ h => h) (Or.inr ⟨by rfl, by rfl⟩) e0 ?_
      simp only [Act.put, List.setIfInBounds_toArray, List.set_cons_zero, List.set_cons_succ]
      refine held_take (i := 8) (v := undef) (some 14) rfl rfl (by kernel_rfl) (by kernel_rfl) (by kernel_rfl) (fun _ _ _ h => h) (Or.inr ⟨by rfl, by rfl⟩) e0 ?_
      simp only [Act.put, List.setIfInBounds_toArray, List.set_cons_zero, List.set_cons_succ]
      refine held_take (i := 9) (v := .bool false) (some 15) rfl rfl (by kernel_rfl) (by kernel_rfl) (by kernel_rfl) (fun _ _ _ h => h) (Or.inl ⟨by rfl, fun W hW => by go_simp⟩) e0 ?_
      simp only [Act.put, List.setIfInBounds_toArray, List.set_cons_zero, List.set_cons_succ]
      refine held_take (i := 10) (v := .bool false) (some 16) rfl rfl (by kernel_rfl) (by kernel_rfl) (by kernel_rfl) (fun _ _ _ h => h) (Or.inl ⟨by rfl, fun W hW => by go_simp⟩) e0 ?_
      simp only [Act.put, List.setIfInBounds_toArray, List.set_cons_zero, List.set_cons_succ]
      refine held_take (i := 11) (v := undef) (some 17) rfl rfl (by kernel_rfl) (by kernel_rfl) (by kernel_rfl) (fun _ _ _ h => h) (Or.inr ⟨by rfl, by rfl⟩) e0 ?_
      simp only [Act.put, List.setIfInBounds_toArray, List.set_cons_zero, List.set_cons_succ]
      refine held_take (i := 13) (v := undef) (some 19) rfl rfl (by kernel_rfl) (by kernel_rfl) (by kernel_rfl) (fun _ _ _ h => h) (Or.inr ⟨by rfl, by rfl⟩) e0 ?_
      simp only [Act.put, List.setIfInBounds_toArray, List.set_cons_zero, List.set_cons_succ]
      refine held_take (i := 12) (v := undef) (some 18) rfl rfl (by kernel_rfl) (by kernel_rfl) (by kernel_rfl) (fun _ _ _ h => h) (Or.inr ⟨by rfl, by rfl⟩) e0 ?_
      simp only [Act.put, List.setIfInBounds_toArray, List.set_cons_zero, List.set_cons_succ]
      refine held_take (i := 14) (v := undef) (some 20) rfl rfl (by kernel_rfl) (by kernel_rfl) (by kernel_rfl) (fun _ _ _ h => h) (Or.inr ⟨by rfl, by rfl⟩) e0 ?_
      simp only [Act.put, List.setIfInBounds_toArray, List.set_cons_zero, List.set_cons_succ]
      refine held_take (i := 15) (v := undef) (some 21) rfl rfl (by kernel_rfl) (by kernel_rfl) (by kernel_rfl) (fun _ _ _ h => h) (Or.inr ⟨by rfl, by rfl⟩) e0 ?_
      simp only [Act.put, List.setIfInBounds_toArray, List.set_cons_zero, List.set_cons_succ]
      refine held_take (i := 16) (v := undef) (some 22) rfl rfl (by kernel_rfl) (by kernel_rfl) (by kernel_rfl) (fun _ _ _ h => h) (Or.inr ⟨by rfl, by rfl⟩) e0 ?_
      simp only [Act.put, List.setIfInBounds_toArray, List.set_cons_zero, List.set_cons_succ]
      refine held_take (i := 17) (v := undef) (some 23) rfl rfl (by kernel_rfl) (by kernel_rfl) (by kernel_rfl) (fun _ _ _ h => h) (Or.inr ⟨by rfl, by rfl⟩) e0 ?_
      simp only [Act.put, List.setIfInBounds_toArray, List.set_cons_zero, List.set_cons_succ]
      refine held_take (i := 18) (v := undef) (some 24) rfl rfl (by kernel_rfl) (by kernel_rfl) (by kernel_rfl) (fun _ _ _ h => h) (Or.inr ⟨by rfl, by rfl⟩) e0 ?_
      simp only [Act.put, List.setIfInBounds_toArray, List.set_cons_zero, List.set_cons_succ]
      refine held_take (i := 19) (v := .bool false) (some 25) rfl rfl (by kernel_rfl) (by kernel_rfl) (by kernel_rfl) (fun _ _ _ h => h) (Or.inl ⟨by rfl, fun W hW => by go_simp⟩) e0 ?_
      simp only [Act.put, List.setIfInBounds_toArray, List.set_cons_zero, List.set_cons_succ]
      refine wpAnyH_done (by kernel_rfl) ?_ _
      refine NoPanic.normal ?_
      have HX := Lib.hid (HTe.out _ HB1.out)
      have HY := Lib.hid (HEn.out _ HB1.out)
      have k0 := (H.out.below (by rw [hgz]; exact HB1.out)).fa.c0
      dsimp only [F.fc] at k0
      unfold ptr at k0
      go_wp2_with (first
        | (go_at_call 37; refine HY.out.mono ?_; rintro e w3 ⟨rfl, rfl⟩)
        | (go_at_call 51; refine HX.out.mono ?_; rintro e w4 ⟨rfl, l4⟩; have HL4 := Lib.hid l4; clear l4)
        | fail)
      go_end0
      exact ⟨rfl, Left.before (by rw [hgz]; exact HB1.out) HL4.out⟩
    · go_enter Try.func42, Try.ntmps42
      go_wp2_with (first
        | ((with_reducible refine wpList_here ?_); refine wpList_boxV (o := ⟨some 4, _, _, _, _, _⟩) rfl 47 (.tmp 1) rfl (sgx q ak syn true fin rr A n c) rfl _ rfl ?_; intro w1 z1 b1 s1; have HB1 := Lib.hid b1.drew; have HF1 := Lib.hid (H.out.below b1.drew); have z1d : Own w1.drew w.heap.size (sgx q ak syn true fin rr A n c) := z1; clear b1 z1)
        | fail)
      generalize hwd : w1.drew = wd at *
      generalize hgz : w.heap.size = g at *
      have hsz : g ≤ wd.heap.size := by rw [← hwd]; show g ≤ w1.heap.size; omega
      have e0 : wd.cell? ⟨s.fb, 5, none⟩ = some (.int .i64 (x.st : Int)) ∧ wd.cell? ⟨s.fb, 6, none⟩ = some (.int .u32 (x.rcv : Int)) ∧ wd.cell? ⟨g, 4, none⟩ = some (.int .u32 (q : Int)) ∧ wd.cell? ⟨g, 7, none⟩ = some (.bool true) := ⟨HF1.out.fa.c5, HF1.out.fa.c6, (z1d 4 (by rw [sgx_length]; omega)).1, (z1d 7 (by rw [sgx_length]; omega)).1⟩
      clear z1d s1
      refine wp_region_noPanic ?_
      refine wp_region_held_drew (S := fun W => W.cell? ⟨s.fb, 5, none⟩ = some (.int .i64 (x.st : Int)) ∧ W.cell? ⟨s.fb, 6, none⟩ = some (.int .u32 (x.rcv : Int)) ∧ W.cell? ⟨g, 4, none⟩ = some (.int .u32 (q : Int)) ∧ W.cell? ⟨g, 7, none⟩ = some (.bool true)) (by kernel_rfl) (by rw [hwd]; exact e0) (fun _ => ?_)
      rw [hwd]
      clear hwd
      refine held_take (i := 0) (v := .pointer (some ⟨s.fb, 0, none⟩)) (some 6) rfl rfl (by kernel_rfl) (by kernel_rfl) (by kernel_rfl) (fun _ _ _ h => h) (Or.inl ⟨by rfl, fun W hW => by go_simp⟩) e0 ?_
      simp only [Act.put, List.setIfInBounds_toArray, List.set_cons_zero, List.set_cons_succ]
      refine held_take (i := 1) (v := .pointer (some ⟨s.fb, 0, none⟩)) (some 7) rfl rfl (by kernel_rfl) (by kernel_rfl) (by kernel_rfl) (fun _ _ _ h => h) (Or.inl ⟨by rfl, fun W hW => by go_simp⟩) e0 ?_
      simp only [Act.put, List.setIfInBounds_toArray, List.set_cons_zero, List.set_cons_succ]
      refine held_take (i := 2) (v := .pointer (some ⟨s.fb, 5, none⟩)) (some 8) rfl rfl (by kernel_rfl) (by kernel_rfl) (by kernel_rfl) (fun _ _ _ h => h) (Or.inl ⟨by rfl, fun W hW => by go_simp⟩) e0 ?_
      simp only [Act.put, List.setIfInBounds_toArray, List.set_cons_zero, List.set_cons_succ]
      refine held_take (i := 3) (v := .int .i64 (x.st : Int)) (some 9) rfl rfl (by kernel_rfl) (by kernel_rfl) (by kernel_rfl) (fun _ _ _ h => h) (Or.inl ⟨by rfl, fun W hW => by have hc := hW.1; go_simp⟩) e0 ?_
      simp only [Act.put, List.setIfInBounds_toArray, List.set_cons_zero, List.set_cons_succ]
      refine held_take (i := 4) (v := .bool false) (some 10) rfl rfl (by kernel_rfl) (by kernel_rfl) (by kernel_rfl) (fun _ _ _ h => h) (Or.inl ⟨by rfl, fun W hW => by go_simp⟩) e0 ?_
      simp only [Act.put, List.setIfInBounds_toArray, List.set_cons_zero, List.set_cons_succ]
      refine held_take (i := 5) (v := .bool false) (some 11) rfl rfl (by kernel_rfl) (by kernel_rfl) (by kernel_rfl) (fun _ _ _ h => h) (Or.inl ⟨by rfl, fun W hW => by go_simp⟩) e0 ?_
      simp only [Act.put, List.setIfInBounds_toArray, List.set_cons_zero, List.set_cons_succ]
      refine held_take (i := 6) (v := undef) (some 12) rfl rfl (by kernel_rfl) (by kernel_rfl) (by kernel_rfl) (fun _ _ _ h => h) (Or.inr ⟨by rfl, by rfl⟩) e0 ?_
      simp only [Act.put, List.setIfInBounds_toArray, List.set_cons_zero, List.set_cons_succ]
      refine held_take (i := 7) (v := undef) (some 13) rfl rfl (by kernel_rfl) (by kernel_rfl) (by kernel_rfl) (fun _ _ _ h => h) (Or.inr ⟨by rfl, by rfl⟩) e0 ?_
      simp only [Act.put, List.setIfInBounds_toArray, List.set_cons_zero, List.set_cons_succ]
      refine held_take (i := 8) (v := undef) (some 14) rfl rfl (by kernel_rfl) (by kernel_rfl) (by kernel_rfl) (fun _ _ _ h => h) (Or.inr ⟨by rfl, by rfl⟩) e0 ?_
      simp only [Act.put, List.setIfInBounds_toArray, List.set_cons_zero, List.set_cons_succ]
      refine held_take (i := 9) (v := .bool false) (some 15) rfl rfl (by kernel_rfl) (by kernel_rfl) (by kernel_rfl) (fun _ _ _ h => h) (Or.inl ⟨by rfl, fun W hW => by go_simp⟩) e0 ?_
      simp only [Act.put, List.setIfInBounds_toArray, List.set_cons_zero, List.set_cons_succ]
      refine held_take (i := 10) (v := .bool false) (some 16) rfl rfl (by kernel_rfl) (by kernel_rfl) (by kernel_rfl) (fun _ _ _ h => h) (Or.inl ⟨by rfl, fun W hW => by go_simp⟩) e0 ?_
      simp only [Act.put, List.setIfInBounds_toArray, List.set_cons_zero, List.set_cons_succ]
      refine held_take (i := 11) (v := undef) (some 17) rfl rfl (by kernel_rfl) (by kernel_rfl) (by kernel_rfl) (fun _ _ _ h => h) (Or.inr ⟨by rfl, by rfl⟩) e0 ?_
      simp only [Act.put, List.setIfInBounds_toArray, List.set_cons_zero, List.set_cons_succ]
      refine held_take (i := 13) (v := undef) (some 19) rfl rfl (by kernel_rfl) (by kernel_rfl) (by kernel_rfl) (fun _ _ _ h => h) (Or.inr ⟨by rfl, by rfl⟩) e0 ?_
      simp only [Act.put, List.setIfInBounds_toArray, List.set_cons_zero, List.set_cons_succ]
      refine held_take (i := 12) (v := undef) (some 18) rfl rfl (by kernel_rfl) (by kernel_rfl) (by kernel_rfl) (fun _ _ _ h => h) (Or.inr ⟨by rfl, by rfl⟩) e0 ?_
      simp only [Act.put, List.setIfInBounds_toArray, List.set_cons_zero, List.set_cons_succ]
      refine held_take (i := 14) (v := undef) (some 20) rfl rfl (by kernel_rfl) (by kernel_rfl) (by kernel_rfl) (fun _ _ _ h => h) (Or.inr ⟨by rfl, by rfl⟩) e0 ?_
      simp only [Act.put, List.setIfInBounds_toArray, List.set_cons_zero, List.set_cons_succ]
      refine held_take (i := 15) (v := undef) (some 21) rfl rfl (by kernel_rfl) (by kernel_rfl) (by kernel_rfl) (fun _ _ _ h => h) (Or.inr ⟨by rfl, by rfl⟩) e0 ?_
      simp only [Act.put, List.setIfInBounds_toArray, List.set_cons_zero, List.set_cons_succ]
      refine held_take (i := 16) (v := undef) (some 22) rfl rfl (by kernel_rfl) (by kernel_rfl) (by kernel_rfl) (fun _ _ _ h => h) (Or.inr ⟨by rfl, by rfl⟩) e0 ?_
      simp only [Act.put, List.setIfInBounds_toArray, List.set_cons_zero, List.set_cons_succ]
      refine held_take (i := 17) (v := undef) (some 23) rfl rfl (by kernel_rfl) (by kernel_rfl) (by kernel_rfl) (fun _ _ _ h => h) (Or.inr ⟨by rfl, by rfl⟩) e0 ?_
      simp only [Act.put, List.setIfInBounds_toArray, List.set_cons_zero, List.set_cons_succ]
      refine held_take (i := 18) (v := undef) (some 24) rfl rfl (by kernel_rfl) (by kernel_rfl) (by kernel_rfl) (fun _ _ _ h => h) (Or.inr ⟨by rfl, by rfl⟩) e0 ?_
      simp only [Act.put, List.setIfInBounds_toArray, List.set_cons_zero, List.set_cons_succ]
      refine held_take (i := 19) (v := .bool false) (some 25) rfl rfl (by kernel_rfl) (by kernel_rfl) (by kernel_rfl) (fun _ _ _ h => h) (Or.inl ⟨by rfl, fun W hW => by go_simp⟩) e0 ?_
      simp only [Act.put, List.setIfInBounds_toArray, List.set_cons_zero, List.set_cons_succ]
      refine wpAnyH_done (by kernel_rfl) ?_ _
      refine NoPanic.normal ?_
      have HX := Lib.hid (HTe.out _ HB1.out)
      have HY := Lib.hid (HEn.out _ HB1.out)
      have k0 := (H.out.below (by rw [hgz]; exact HB1.out)).fa.c0
      dsimp only [F.fc] at k0
      unfold ptr at k0
      go_wp2_with (first
        | (go_at_call 37; refine HY.out.mono ?_; rintro e w3 ⟨rfl, rfl⟩)
        | (go_at_call 51; refine HX.out.mono ?_; rintro e w4 ⟨rfl, l4⟩; have HL4 := Lib.hid l4; clear l4)
        | fail)
      go_end0
      exact ⟨rfl, Left.before (by rw [hgz]; exact HB1.out) HL4.out⟩
end
end Go.Proofs.Ytnpkmkjenlhkiaa

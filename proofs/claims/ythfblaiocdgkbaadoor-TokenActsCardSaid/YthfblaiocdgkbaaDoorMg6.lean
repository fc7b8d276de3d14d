/- What the laws over the digest lean on: two digests compared, the digest of one piece in a new list, a text's bytes in a block that bears a mark. Condition: the table holds FIPS 180-4's constants.
The contract of key.Token. Condition: the table holds FIPS 180-4's constants; the key is a number of 64 bits.
A table of tokens, as its callers see it. No condition.
A key is taken: the contract of Take. Conditions: the table of constants holds; the list has at most 2^40 numbers of 64 bits.
A map from tokens gone through, whatever its order. No condition.
Time goes on: the contract of Tick. Condition: the ticks are whole numbers of 64 bits.
The shelf's contracts of generic functions of the library, laid at this program. No condition. -/
import Derived.Test.YthfblaiocdgkbaaDoorMg5
import Derived.Stop.BytesEq
import Derived.Lib.SlBytesConst
import Derived.Test.YthfblaiocdgkbaaDoorMg4
import Derived.Test.YthfblaiocdgkbaaDoorMg3
import Derived.Test.YthfblaiocdgkbaaDoorMg1
import Derived.Deep.RegionHeld3
import Derived.Test.YthfblaiocdgkbaaDoorChecked
import Derived.Shelf.SlSortCmp.NoneTotal
import Derived.Shelf.SlicesG.Cmp
import Derived.Shelf.SlCmpFuncs.MinMaxFuncSP
namespace Go.Proofs.YthfblaiocdgkbaaDoor
set_option linter.unusedVariables false
set_option linter.unusedSimpArgs false
open Go.RowKit

theorem sizeOfU8 (W : World) : (sizeOf 5).run Tryd.prog W = .ok 1 W := by kernel_rfl
/-- Two digests of the same bytes are the same. -/
theorem dig_same (W : World) (l : List UInt8) : (binOp .eql 69 (.agg (bv (dg l)).toArray) (.agg (bv (dg l)).toArray)).run Tryd.prog W = .ok (.bool true) W := by
  have h := run_eql_bytes (P := Tryd.prog) W 69 5 32 Tryd.underlying69 Tryd.underlying5 sizeOfU8 (dg l) (dg l) (dg_length l) (dg_length l)
  rw [show (dg l == dg l) = true from by simp] at h
  exact h
/-- The digest of one piece in a new list. -/
theorem sha_one {A : Option Addr} {n c : Nat} {l : List UInt8} {w : World} {t : TypeId} {g : Nat} (hg : g = w.heap.size) (h : RB w A n c l) (hn : n ≤ 274877906944) (hT : Tab w) :
    Calls Tryd.prog 24 #[.slice (some ⟨g, 0, none⟩) 1 1] (w.alloc (.cells #[.slice A n c] t)) (Dig l (w.alloc (.cells #[.slice A n c] t))) := by
  subst hg
  have e1 : fl [l] 1 = l := by simp [fl]
  have e2 : tl [l] 1 = n := by rw [tl, e1, h.len]
  have hp : Parts (w.alloc (.cells #[.slice A n c] t)) (some ⟨w.heap.size, 0, none⟩) 1 1 [l] := Parts.one (cell_new w _ t) (h.alloc _)
  have := sha_any (some ⟨w.heap.size, 0, none⟩) 1 1 [l] _ hp (by rw [e2]; exact hn) (hT.below (below_a w _))
  rw [e1] at this
  exact this

/-- A text's bytes, in their new block, which bears a mark. -/
theorem RB.litf (w : World) (l : List UInt8) (t : TypeId) (fr : Nat × Nat) (hl : l.length ≤ maxLen) : RB (w.alloc (.cells (bv l).toArray t fr)) (some ⟨w.heap.size, 0, none⟩) l.length l.length l := by
  refine ⟨rfl, Nat.le_refl _, hl, fun _ => ⟨_, 0, rfl, fun j hj => ?_⟩⟩
  rw [Nat.zero_add]
  have h := cell_of_row (w.alloc (.cells (bv l).toArray t fr)) w.heap.size j (bv l).toArray t fr (heap_alloc_new w _)
  rw [h]
  simpa using bv_at l j hj
end Go.Proofs.YthfblaiocdgkbaaDoor

namespace Go.Proofs.YthfblaiocdgkbaaDoor
set_option linter.unusedVariables false
set_option linter.unusedSimpArgs false
open Go.RowKit

theorem wn8 : wn 8 = 8 := rfl
theorem wn4 : wn 4 = 4 := rfl

set_option maxHeartbeats 800000 in
theorem token_any (k : Nat) (w : World) (hk : k < 18446744073709551616) (hT : Tab w) :
    Calls Tryd.prog 13 #[.int .u64 (k : Int)] w fun e w' => e = .returned (.int .u32 (kt k : Nat)) ∧ Below w.heap.size w w' := by
  have hlt := kt_lt k
  have HD := Lib.hid (dg_length (be k 8))
  have HK : Hid (kt k = num ((dg (be k 8)).take 4)) := Lib.hid rfl
  go_enter Tryd.func13, Tryd.ntmps13
  go_wp2_with (first
    | (go_at_call 25; refine (put_one rfl hk wn8).mono ?_; rintro e w1 ⟨A1, c1, rfl, r1, b1⟩; have t1 := hT.below b1; clear hT)
    | (go_at_call 24; refine (sha_one rfl r1 (by omega) t1).mono ?_; rintro e w2 ⟨rfl, b2⟩; have b3 := below_trans (below_trans b1 (below_a w1 _)) b2; clear b1 b2 t1 r1)
    | (go_at_call 23; refine (front_any (dg (be k 8)) HD.out 4 4 (.inl ⟨rfl, rfl⟩) _).mono ?_; rw [← HK.out]; generalize hx : kt k = x at *; have HX := Lib.hid hx; clear hx; rintro e w4 ⟨rfl, b4⟩; have b5 := below_trans b3 b4; clear b3 b4))
  go_ret
  exact ⟨by rw [HX.out]; rfl, b5⟩


end Go.Proofs.YthfblaiocdgkbaaDoor

namespace Go.Proofs.YthfblaiocdgkbaaDoor
set_option linter.unusedVariables false
set_option linter.unusedSimpArgs false
open Go.RowKit

def ptr (b : Nat) : Value := .pointer (some ⟨b, 0, none⟩)
def isI (h : Int) : Prop := -9223372036854775808 ≤ h ∧ h ≤ 9223372036854775807

/-- At block tb stands a table with room for c tokens; its map, at block mb, holds l. -/
structure Tb (w : World) (tb mb c : Nat) (l : Ents) : Prop where
  blk : w.heap[tb]? = some (.cells #[.int .i64 (c : Int), .map (some mb)] 63 (0, 0))
  map : MapE w mb l
  room : c ≤ 64
  fits : l.length ≤ c

section
variable {w w' : World} {tb mb c : Nat} {l : Ents}
theorem Tb.lt (h : Tb w tb mb c l) : tb < w.heap.size := (Array.getElem?_eq_some_iff.1 h.blk).1
theorem Tb.c0 (h : Tb w tb mb c l) : w.cell? ⟨tb, 0, none⟩ = some (.int .i64 (c : Int)) := by rw [cell_of_row w tb 0 _ _ (0, 0) h.blk]; rfl
theorem Tb.c1 (h : Tb w tb mb c l) : w.cell? ⟨tb, 1, none⟩ = some (.map (some mb)) := by rw [cell_of_row w tb 1 _ _ (0, 0) h.blk]; rfl
theorem Tb.ne (h : Tb w tb mb c l) : tb ≠ mb := fun e => by
  obtain ⟨D, ⟨es, cl, hb, _⟩, _⟩ := h.map
  have h1 := h.blk
  rw [e, hb] at h1
  cases h1
theorem Tb.ch (h : Tb w tb mb c l) {m : Nat → Prop} (k : Ch w w' m) (h1 : ¬ m tb) (h2 : ¬ m mb) : Tb w' tb mb c l := ⟨(k.block tb h.lt h1).trans h.blk, h.map.keep (k.block mb h.map.lt h2), h.room, h.fits⟩
theorem Tb.below (h : Tb w tb mb c l) (b : RowKit.Below w.heap.size w w') : Tb w' tb mb c l := h.ch (Ch.of_below (fun _ => False) b) (fun e => e) fun e => e
theorem Tb.drew (h : Tb w tb mb c l) : Tb w.drew tb mb c l := h.ch (Ch.refl w fun _ => False).drew (fun e => e) fun e => e
theorem Tb.drewN (h : Tb w tb mb c l) (n : Nat) : Tb (w.drewN n) tb mb c l := h.ch ((Ch.refl w fun _ => False).drewN n) (fun e => e) fun e => e
theorem Tb.alloc (h : Tb w tb mb c l) (o : Obj) : Tb (w.alloc o) tb mb c l := h.ch ((Ch.refl w fun _ => False).alloc o) (fun e => e) fun e => e
theorem Tb.put (h : Tb w tb mb c l) {l' : Ents} (k : Ch w w' (fun g => g = mb)) (hm : MapE w' mb l') (hf : l'.length ≤ c) : Tb w' tb mb c l' := ⟨(k.block tb h.lt h.ne).trans h.blk, hm, h.room, hf⟩
end

/-- How much room there is. -/
def cp (t : Int) : Nat := (min (max t 1) 64).toNat
theorem cp_eq (t : Int) : ((cp t : Nat) : Int) = min (max t 1) 64 := by unfold cp; omega
theorem cp_le (t : Int) : 1 ≤ cp t ∧ cp t ≤ 64 := by unfold cp; omega

set_option maxHeartbeats 1600000 in
theorem tnew_any (t : Int) (ht : isI t) (w : World) : Calls Tryd.prog 9 #[.int .i64 t] w fun e w' => ∃ tb mb, e = .returned (ptr tb) ∧ Tb w' tb mb (cp t) [] ∧ RowKit.Below w.heap.size w w' ∧ w.heap.size ≤ tb ∧ w.heap.size ≤ mb := by
  have hmm := @run_makeMap Tryd.prog
  have hc := cp_eq t
  have hc2 := cp_le t
  have key : Tb ((w.alloc (.map #[] 0)).alloc (.cells #[.int .i64 (cp t : Nat), .map (some w.heap.size)] 63)) (w.heap.size + 1) w.heap.size (cp t) [] := by
    refine ⟨?_, (MapE.made w).keep (Below.heap_alloc _ _ _ (by simp)), hc2.2, Nat.zero_le _⟩
    have h := heap_alloc_new (w.alloc (.map #[] 0)) (.cells #[.int .i64 (cp t : Nat), .map (some w.heap.size)] 63)
    rw [World.size_alloc] at h
    exact h
  have HK := Lib.hid key
  clear key
  generalize cp t = n at *
  unfold isI at ht
  obtain ⟨M, hM⟩ : ∃ M, max t 1 = M := ⟨_, rfl⟩
  rw [hM] at hc
  have hc3 := hc.symm
  clear hc
  unfold ptr at *
  go_enter Tryd.func9, Tryd.ntmps9
  go_wp2_with fail
  go_ret
  exact ⟨w.heap.size + 1, w.heap.size, rfl, HK.out, ((RowKit.Below.refl _ _).alloc (Nat.le_refl _) _).alloc (by simp) _, by omega, Nat.le_refl _⟩

set_option maxHeartbeats 1600000 in
theorem tfind_any {w : World} {tb mb c : Nat} {l : Ents} (h : Tb w tb mb c l) {k : Nat} (hk : k < 4294967296) :
    Calls Tryd.prog 19 #[ptr tb, .int .u32 (k : Int)] w fun e w' => e = .returned (.tuple #[.int .i64 ((fnd l k).getD Ent.none).owner, .bool ((fnd l k).getD Ent.none).live]) ∧ RowKit.Below w.heap.size w w' := by
  have c1 := h.c1
  have hl := h.map.look hk w rfl
  clear hk
  generalize (fnd l k).getD Ent.none = e at *
  obtain ⟨lv, ow, fr⟩ := e
  unfold Ent.val at hl
  dsimp only at hl ⊢
  have hb : RowKit.Below w.heap.size w (w.alloc (.cells #[.bool lv, .int .i64 ow, .int .i64 fr] 65)) := below_a _ _
  have HB := Lib.hid hb
  clear h hb
  unfold ptr
  go_enter Tryd.func19, Tryd.ntmps19
  go_wp2_with fail
  go_quiet (fail)
  go_wp2_with fail
  go_ret2
  exact ⟨rfl, below_dn HB.out _⟩

theorem fld0 (b : Bool) (o f : Int) (w : World) : (Instr.field 65 (.agg #[.bool b, .int .i64 o, .int .i64 f]) 0).run Tryd.prog w = .ok (.bool b) w := by kernel_rfl

set_option maxRecDepth 20000 in
set_option maxHeartbeats 1600000 in
theorem tfree_no {w : World} {tb mb c : Nat} {l : Ents} (h : Tb w tb mb c l) {k : Nat} (hk : k < 4294967296) (hn : ((fnd l k).getD Ent.none).live = false) (t : Int) :
    Calls Tryd.prog 14 #[ptr tb, .int .u32 (k : Int), .int .i64 t] w fun e w' => e = .returned (.int .i64 6) ∧ w' = w := by
  have c1 := h.c1
  have hl := h.map.look hk w rfl
  clear hk h
  generalize (fnd l k).getD Ent.none = e at *
  obtain ⟨lv, ow, fr⟩ := e
  unfold Ent.val at hl
  dsimp only at hl hn
  subst hn
  have hfd := fld0 false ow fr w
  unfold ptr
  go_enter Tryd.func14, Tryd.ntmps14
  go_wp2_with fail
  go_ret
  exact ⟨rfl, rfl⟩
set_option maxRecDepth 20000 in
set_option maxHeartbeats 1600000 in
theorem tfree_yes {w : World} {tb mb c : Nat} {l : Ents} (h : Tb w tb mb c l) {k : Nat} (hk : k < 4294967296) (hn : ((fnd l k).getD Ent.none).live = true) (t : Int) :
    Calls Tryd.prog 14 #[ptr tb, .int .u32 (k : Int), .int .i64 t] w fun e w' => e = .returned (.int .i64 0) ∧ Tb w' tb mb c (upd l k ⟨false, 0, t⟩) ∧ Ch w w' (fun g => g = mb) := by
  have c1 := h.c1
  have hl := h.map.look hk w rfl
  have hin : k ∈ keys l := by
    cases hf : fnd l k with
    | none => rw [hf] at hn; cases hn
    | some e => exact mem_keys (fnd_some hf)
  have HT := Lib.hid h
  have HKK := Lib.hid hk
  have HIN := Lib.hid hin
  have hfit := h.fits
  have hroom := h.room
  clear hk h hin
  generalize (fnd l k).getD Ent.none = e at *
  obtain ⟨lv, ow, fr⟩ := e
  unfold Ent.val at hl
  dsimp only at hl hn
  subst hn
  have hfd := fld0 true ow fr w
  unfold ptr
  go_enter Tryd.func14, Tryd.ntmps14
  go_wp2_with (first | (at_mapUpdate; refine wpList_putE rfl _ _ _ rfl rfl HT.out.map HKK.out rfl ⟨false, 0, t⟩ rfl (by omega) (.inr ⟨HIN.out, rfl⟩) ?_; intro w4 M4 tu))
  go_ret
  have hch := (Ch.refl w (fun g => g = mb)).turned tu fun _ => rfl
  exact ⟨rfl, HT.out.put hch M4 (by unfold upd; rw [List.length_map]; exact HT.out.fits), hch⟩

end Go.Proofs.YthfblaiocdgkbaaDoor

namespace Go.Proofs.YthfblaiocdgkbaaDoor
set_option linter.unusedVariables false
set_option linter.unusedSimpArgs false
open Go.RowKit

section
variable {w : World} {tb mb c : Nat} {l : Ents} {A : Option Addr} {n cc : Nat} {zs : List Int} {owner : Int}

set_option maxHeartbeats 1600000 in
theorem ttake_full (h : Tb w tb mb c l) (hf : l.length = c) : Calls Tryd.prog 11 #[ptr tb, .int .i64 owner, .slice A n cc] w fun e w' => e = .returned (.tuple #[.int .u64 0, .int .i64 0, .int .i64 15]) ∧ RowKit.Below w.heap.size w w' := by
  have c0 := h.c0
  have c1 := h.c1
  have hlen := fun (m : Nat) (ty : TypeId) => h.map.leng (w.drewN m) rfl ty
  rw [hf] at hlen
  clear h hf
  unfold ptr
  go_enter Tryd.func11, Tryd.ntmps11
  go_wp2_with fail
  go_quiet (fail)
  go_wp2_with fail
  go_ret3
  exact ⟨rfl, below_dn (Below.refl _ _) _⟩

/-- What all of the first j keys are: some entry's. -/
def Ahead (l : Ents) (zs : List Int) (j : Nat) : Prop := ∀ i, i < j → kt (zs.getD i 0).toNat ∈ keys l

set_option maxRecDepth 20000 in
set_option maxHeartbeats 4000000 in
theorem ttake_none (h : Tb w tb mb c l) (hT : Tab w) (hf : l.length < c) (r : RI .u64 w A n cc zs) (hz : ∀ z ∈ zs, 0 ≤ z ∧ z < 18446744073709551616) (hn : n ≤ 1099511627776) (ha : Ahead l zs n) :
    Calls Tryd.prog 11 #[ptr tb, .int .i64 owner, .slice A n cc] w fun e w' => e = .returned (.tuple #[.int .u64 0, .int .i64 (n : Int), .int .i64 6]) ∧ RowKit.Below w.heap.size w w' := by
  have c0 := h.c0
  have c1 := h.c1
  have hlen := fun (m : Nat) (ty : TypeId) => h.map.leng (w.drewN m) rfl ty
  have HH := Lib.hid h
  have HT := Lib.hid hT
  have HR := Lib.hid r
  have HZ := Lib.hid hz
  have HA := Lib.hid ha
  have hll : ¬ c ≤ l.length := by omega
  have hzl := r.len
  clear h hT r hz ha hf
  generalize l.length = ll at *
  unfold ptr at *
  go_enter Tryd.func11, Tryd.ntmps11
  go_wp2_with fail
  go_quiet (fail)
  go_wp2_with fail
  clear hlen
  go_loopw [28] (fun ix wr => ∃ q : Nat, q ≤ n ∧ ix = .int .i64 (q : Int) ∧ RowKit.Below w.heap.size w wr) (fun ix _ => n - (intOf ix).toNat)
  case atStart => exact ⟨0, Nat.zero_le _, rfl, below_dn (Below.refl _ _) _⟩
  case round =>
    obtain ⟨q, hq, rfl, b⟩ := hrel
    by_cases hqn : q < n
    · obtain ⟨g, o, rfl, ck⟩ := (HR.out.below b).at_ hqn
      have hin := HA.out q hqn
      obtain ⟨k, hk⟩ : ∃ k : Nat, zs.getD q 0 = k := ⟨_, (Int.toNat_of_nonneg (HZ.out _ (by rw [List.getD_eq_getElem?_getD, List.getElem?_eq_getElem (by omega)]; exact List.getElem_mem _)).1).symm⟩
      have hkl := (HZ.out (zs.getD q 0) (by rw [List.getD_eq_getElem?_getD, List.getElem?_eq_getElem (by omega)]; exact List.getElem_mem _)).2
      rw [hk] at ck hin hkl
      rw [Int.toNat_natCast] at hin
      have HTK := Lib.hid (token_any k wr (by omega) (HT.out.below b))
      have HTB := Lib.hid (HH.out.below b)
      have HB := Lib.hid b
      have HKL := Lib.hid (kt_lt k)
      obtain ⟨e, he⟩ : ∃ e, fnd l (kt k) = some e := by
        cases hf : fnd l (kt k) with
        | none => exact absurd hin (fnd_none.1 hf)
        | some e => exact ⟨e, rfl⟩
      have HE := Lib.hid he
      obtain ⟨lv, ow, fr⟩ := e
      clear b hk hin hkl he
      generalize kt k = t at *
      go_wp2_with (first
        | (go_at_call 13; refine (HTK.out).mono ?_; rintro e w1 ⟨rfl, b1⟩; have T1 := HTB.out.below b1; have c2 := T1.c1; have HM1 := Lib.hid T1.map; have HB1 := Lib.hid b1; clear b1 T1)
        | (at_lookup; refine wpList_lookE rfl _ _ rfl rfl HM1.out HKL.out rfl HE.out (v := .agg #[.bool lv, .int .i64 ow, .int .i64 fr]) rfl rfl ?_))
      go_roundw
      case rel => exact ⟨q + 1, by omega, by go_num, HB.out.trans ((HB1.out.mono HB.out.size).alloc (by have := HB.out.size; have := HB1.out.size; omega) _)⟩
      case measure => simp [intOf]; omega
    · obtain rfl : q = n := by omega
      have HB := Lib.hid b
      clear b
      go_wp2_with fail
      go_ret3
      exact ⟨rfl, HB.out⟩

set_option maxRecDepth 20000 in
set_option maxHeartbeats 4000000 in
theorem ttake_hit (h : Tb w tb mb c l) (hT : Tab w) (hf : l.length < c) (r : RI .u64 w A n cc zs) (hz : ∀ z ∈ zs, 0 ≤ z ∧ z < 18446744073709551616) (hn : n ≤ 1099511627776) {j : Nat} (hj : j < n) (ha : Ahead l zs j) (hh : kt (zs.getD j 0).toNat ∉ keys l) :
    Calls Tryd.prog 11 #[ptr tb, .int .i64 owner, .slice A n cc] w fun e w' => e = .returned (.tuple #[.int .u64 (zs.getD j 0), .int .i64 (j : Int), .int .i64 0]) ∧ Tb w' tb mb c (l ++ [(kt (zs.getD j 0).toNat, ⟨true, owner, 0⟩)]) ∧ Ch w w' (fun g => g = mb) := by
  have c0 := h.c0
  have c1 := h.c1
  have hlen := fun (m : Nat) (ty : TypeId) => h.map.leng (w.drewN m) rfl ty
  have HH := Lib.hid h
  have HT := Lib.hid hT
  have HR := Lib.hid r
  have HZ := Lib.hid hz
  have HA := Lib.hid ha
  have HN := Lib.hid hh
  have hll : ¬ c ≤ l.length := by omega
  have hroom := h.room
  have hzl := r.len
  have hlu : l.length ≤ 1099511627776 := by omega
  have HLU := Lib.hid hlu
  have HLC := Lib.hid hf
  clear h hT r hz ha hf hh hlu
  generalize hlln : l.length = ll at *
  have HLL := Lib.hid hlln
  clear hlln
  unfold ptr at *
  go_enter Tryd.func11, Tryd.ntmps11
  go_wp2_with fail
  go_quiet (fail)
  go_wp2_with fail
  clear hlen
  go_loopw [28] (fun ix wr => ∃ q : Nat, q ≤ j ∧ ix = .int .i64 (q : Int) ∧ RowKit.Below w.heap.size w wr) (fun ix _ => n - (intOf ix).toNat)
  case atStart => exact ⟨0, Nat.zero_le _, rfl, below_dn (Below.refl _ _) _⟩
  case round =>
    obtain ⟨q, hq, rfl, b⟩ := hrel
    have hqn : q < n := by omega
    obtain ⟨g, o, rfl, ck⟩ := (HR.out.below b).at_ hqn
    obtain ⟨k, hk⟩ : ∃ k : Nat, zs.getD q 0 = k := ⟨_, (Int.toNat_of_nonneg (HZ.out _ (by rw [List.getD_eq_getElem?_getD, List.getElem?_eq_getElem (by omega)]; exact List.getElem_mem _)).1).symm⟩
    have hkl := (HZ.out (zs.getD q 0) (by rw [List.getD_eq_getElem?_getD, List.getElem?_eq_getElem (by omega)]; exact List.getElem_mem _)).2
    rw [hk] at ck hkl
    have HTK := Lib.hid (token_any k wr (by omega) (HT.out.below b))
    have HTB := Lib.hid (HH.out.below b)
    have HB := Lib.hid b
    have HKL := Lib.hid (kt_lt k)
    by_cases hqj : q < j
    · have hin := HA.out q hqj
      rw [hk, Int.toNat_natCast] at hin
      obtain ⟨e, he⟩ : ∃ e, fnd l (kt k) = some e := by
        cases hf : fnd l (kt k) with
        | none => exact absurd hin (fnd_none.1 hf)
        | some e => exact ⟨e, rfl⟩
      have HE := Lib.hid he
      obtain ⟨lv, ow, fr⟩ := e
      clear b hk hin hkl he
      generalize kt k = t at *
      go_wp2_with (first
        | (go_at_call 13; refine (HTK.out).mono ?_; rintro e w1 ⟨rfl, b1⟩; have T1 := HTB.out.below b1; have c2 := T1.c1; have HM1 := Lib.hid T1.map; have HB1 := Lib.hid b1; clear b1 T1)
        | (at_lookup; refine wpList_lookE rfl _ _ rfl rfl HM1.out HKL.out rfl HE.out (v := .agg #[.bool lv, .int .i64 ow, .int .i64 fr]) rfl rfl ?_))
      go_roundw
      case rel => exact ⟨q + 1, by omega, by go_num, HB.out.trans ((HB1.out.mono HB.out.size).alloc (by have := HB.out.size; have := HB1.out.size; omega) _)⟩
      case measure => simp [intOf]; omega
    · obtain rfl : q = j := by omega
      have hno := HN.out
      rw [hk, Int.toNat_natCast] at hno
      have he : fnd l (kt k) = Option.none := fnd_none.2 hno
      have HE := Lib.hid he
      have HNO := Lib.hid hno
      have HKE := Lib.hid hk
      clear b hkl he hno hk
      generalize hkt : kt k = t at *
      have HKT := Lib.hid hkt
      clear hkt
      go_wp2_with (first
        | (go_at_call 13; refine (HTK.out).mono ?_; rintro e w1 ⟨rfl, b1⟩; have T1 := HTB.out.below b1; have c2 := T1.c1; have T2 := T1.alloc (.cells #[.bool false, .int .i64 0, .int .i64 0] 65); have c3 := T2.c1; have HM1 := Lib.hid T1.map; have HT2 := Lib.hid T2; have HB1 := Lib.hid b1; clear b1 T1 T2)
        | (at_lookup; refine wpList_lookE rfl _ _ rfl rfl HM1.out HKL.out rfl HE.out (v := .agg #[.bool false, .int .i64 0, .int .i64 0]) rfl rfl ?_)
        | (at_mapUpdate; refine wpList_putE rfl _ _ _ rfl rfl HT2.out.map HKL.out rfl ⟨true, owner, 0⟩ rfl (by rw [HLL.out]; exact HLU.out) (.inl ⟨HNO.out, rfl⟩) ?_; intro w4 M4 tu))
      go_ret3
      have hch := (Ch.refl (w1.alloc (.cells #[.bool false, .int .i64 0, .int .i64 0] 65)) (fun g => g = mb)).turned tu fun _ => rfl
      have hb : RowKit.Below w.heap.size w (w1.alloc (.cells #[.bool false, .int .i64 0, .int .i64 0] 65)) := HB.out.trans ((HB1.out.mono HB.out.size).alloc (by have := HB.out.size; have := HB1.out.size; omega) _)
      rw [HKE.out, Int.toNat_natCast, HKT.out]
      exact ⟨rfl, HT2.out.put hch M4 (by rw [List.length_append, HLL.out]; have := HLC.out; simp; omega), (Ch.of_below _ hb).then_ hch⟩

end

end Go.Proofs.YthfblaiocdgkbaaDoor

namespace Go.Proofs.YthfblaiocdgkbaaDoor
set_option linter.unusedVariables false
set_option linter.unusedSimpArgs false
open Go.RowKit

/-- Block r goes through the map at mb, which holds l: left says which tokens are still to come. -/
def Rg (w : World) (mb r : Nat) (l : Ents) (left : Nat → Bool) (cnt : Nat) : Prop :=
  ∃ (D : DataW Unit) (n : Nat) (lf : Lit → Bool), w.ranges Tryd.prog 38 pe mb r n D lf cnt ∧ RD D l ∧ ∀ k, k < 4294967296 → lf (tk k) = left k

section
variable {w w' : World} {mb r cnt : Nat} {l : Ents} {left : Nat → Bool}
theorem Rg.left_eq (h : Rg w mb r l left cnt) : w.rangeLeft mb r = cnt := by
  obtain ⟨D, n, lf, h, _⟩ := h
  exact h.left_eq
theorem Rg.mapE (h : Rg w mb r l left cnt) : MapE w mb l := by
  obtain ⟨D, n, lf, h, R, _⟩ := h
  exact ⟨D, own_size h.owns R.size, R⟩
theorem Rg.keep (h : Rg w mb r l left cnt) {row : Option Nat} (hg : w.grownBy w' row) (h1 : row ≠ some mb) (h2 : row ≠ some r) : Rg w' mb r l left cnt := by
  obtain ⟨D, n, lf, h, R⟩ := h
  exact ⟨D, n, lf, h.kept hg (fun e => h1 e.symm) (fun e => h2 e.symm), R⟩
theorem Rg.lt (h : Rg w mb r l left cnt) : r < w.heap.size ∧ mb < w.heap.size ∧ r ≠ mb := by
  have hm := h.mapE.lt
  obtain ⟨D, n, lf, h, R⟩ := h
  exact ⟨h.lt, hm, h.ne⟩
theorem Rg.below (h : Rg w mb r l left cnt) (b : RowKit.Below w.heap.size w w') : Rg w' mb r l left cnt :=
  h.keep (row := Option.none) ⟨b.os, b.tape, b.output, b.size, fun k hk _ => b.block k hk⟩ (fun e => by cases e) fun e => by cases e
end

section
variable {w : World} {ops : Array Oper} {rest : List Oper} {o : Oper} {a : Act} {Q : Exit → Act → World → Prop} {mb r cnt : Nat} {l : Ents} {left : Nat → Bool}

theorem wpList_rangeE (hg : o.guard = none) (m : Operand) (hop : o.op = Op.range 61 m) (hm : a.eval m = .map (some mb)) (hM : MapE w mb l)
    (hK : ∀ w', Rg w' mb w.heap.size l (fun k => decide (k ∈ keys l)) l.length → RowKit.Below w.heap.size w w' → w'.heap.size = w.heap.size + 1 → wpList Tryd.prog ops Q rest (a.put o.dst (.pointer (some ⟨w.heap.size, 0, none⟩))) w') :
    wpList Tryd.prog ops Q (o :: rest) a w := by
  obtain ⟨D, hown, R⟩ := hM
  refine wpList_range_own w hg m 61 hop 38 65 keyU Tryd.underlying61 pe mb _ D hm hown fun w' h1 h2 h3 => hK w' ?_ ⟨h2.os, h2.tape, h2.output, h2.size, fun k hk => h2.block k hk (by simp)⟩ h3
  exact ⟨D, _, Maps.has D, by rw [← R.size]; exact h1, R, R.has⟩

theorem wpList_nextE (hg : o.guard = none) (it : Operand) (hop : o.op = Op.next it false) (hit : a.eval it = .pointer (some ⟨r, 0, none⟩)) (h : Rg w mb r l left cnt)
    (hDone : (∀ k, k < 4294967296 → left k = false) → wpList Tryd.prog ops Q rest (a.put o.dst (.tuple #[.bool false])) w)
    (hMore : ∀ (k : Nat) (e : Ent) (w' : World) (cnt' : Nat), k < 4294967296 → left k = true → (k, e) ∈ l → Rg w' mb r l (fun j => left j && !decide (j = k)) cnt' → cnt' < cnt → w.grownBy w' (some r) → w'.heap.size = w.heap.size →
      (Instr.entry (.pointer (some ⟨r, 0, none⟩))).run Tryd.prog w' = .ok (.tuple #[.int .u32 (k : Int), .agg #[.bool e.live, .int .i64 e.owner, .int .i64 e.freed]]) w' →
      wpList Tryd.prog ops Q rest (a.put o.dst (.tuple #[.bool true, .int .u32 (k : Int), .agg #[.bool e.live, .int .i64 e.owner, .int .i64 e.freed]])) w') :
    wpList Tryd.prog ops Q (o :: rest) a w := by
  obtain ⟨D, n, lf, hr, R, hlf⟩ := h
  refine wpList_next_ranges w hg it hop 38 keyU pe (Value.int .u32) Ent.val (fun key kl hkey => by obtain ⟨x, rfl, _⟩ := Maps.keyOf_int_inv Tryd.underlying38 hkey; exact ⟨x, rfl⟩) (fun v y hv => by obtain ⟨e, rfl, _⟩ := pe_any hv; exact ⟨e, rfl⟩)
    mb r n D lf cnt hit hr (fun _ hl => hDone fun k hk => by rw [← hlf k hk]; exact hl _) fun x c kl y w' cnt' hkey hlk hv hat hrg hlt hgr hsz hen => ?_
  obtain ⟨x', ex, rfl, hwx⟩ := Maps.keyOf_int_inv Tryd.underlying38 hkey
  injection ex with _ ex
  subst ex
  have hb := Go.bounds_u32 hwx
  obtain ⟨k, rfl⟩ := Int.eq_ofNat_of_zero_le hb.1
  have hk : k < 4294967296 := by omega
  rw [pe_val] at hv
  injection hv with hv
  subst hv
  have hin : k ∈ keys l := by
    cases hd : decide (k ∈ keys l) with
    | true => simpa using hd
    | false =>
      have h1 := R.has k hk
      rw [hd] at h1
      have h2 := Maps.atKey_of_not_has h1 (.nil : DataW Unit)
      have h3 := hat .nil
      change D.atKey (tk k) .nil = c.dat at h3
      rw [h2] at h3
      cases h3
  obtain ⟨p, hp, hpk⟩ := List.mem_map.1 hin
  have hce : p.2 = c := by
    have h1 := R.at_ p hp .nil
    rw [hpk] at h1
    exact Ent.dat_inj (h1.symm.trans (hat .nil))
  have hmem : (k, c) ∈ l := by
    rw [← hce, ← hpk]
    exact hp
  refine hMore k c w' cnt' hk (by rw [← hlf k hk]; exact hlk) hmem ⟨D, n, _, hrg, R, fun j hj => ?_⟩ hlt hgr hsz hen
  show (lf (tk j) && !(tk j).sameKey (tk k)) = _
  rw [tk_same, hlf j hj]

theorem wpList_delR (hg : o.guard = none) (m x : Operand) (hop : o.op = Op.call { callee := Callee.builtin Builtin.delete, args := #[m, x], argTypes := #[61, 38] }) (hm : a.eval m = .map (some mb)) (h : Rg w mb r l left cnt) {k : Nat} (hk : k < 4294967296) (hx : a.eval x = .int .u32 (k : Int)) (hin : k ∈ keys l)
    (hK : ∀ w' cnt', Rg w' mb r (wo l k) (fun j => left j && !decide (j = k)) cnt' → cnt' ≤ cnt → w.mapTurned w' mb → wpList Tryd.prog ops Q rest (a.put o.dst (.tuple #[])) w') :
    wpList Tryd.prog ops Q (o :: rest) a w := by
  obtain ⟨D, n, lf, hr, R, hlf⟩ := h
  refine wpList_delete_ranges w hg m x 61 38 hop 65 keyU Tryd.underlying61 pe mb r n D lf cnt hm hr (.int .u32 (k : Int)) (tk k) hx (keyOfU hk) fun w' cnt' h1 h2 h3 => hK w' cnt' ⟨_, n, _, h1, R.del (hr.owns.tidy keyU) hk hin, fun j hj => ?_⟩ h2 h3
  show (lf (tk j) && !(tk j).sameKey (tk k)) = _
  rw [tk_same, hlf j hj]
end

/-- Is the quarantine of an entry over? -/
def ov (e : Ent) (t : Int) : Bool := !e.live && decide (e.freed + 10 ≤ t)
/-- What is left while time goes on: those that are still to come, and those whose time isn't over. -/
def Kp (l : Ents) (left : Nat → Bool) (t : Int) : Ents := l.filter fun p => left p.1 || !ov p.2 t

theorem Kp.start (l : Ents) (t : Int) : Kp l (fun k => decide (k ∈ keys l)) t = l := by
  unfold Kp
  rw [List.filter_eq_self]
  intro p hp
  have := mem_keys hp
  simp [this]
theorem Kp.stays {l : Ents} {left : Nat → Bool} {t : Int} (hn : (keys l).Nodup) {k : Nat} {e : Ent} (he : (k, e) ∈ l) (ho : ov e t = false) : Kp l (fun j => left j && !decide (j = k)) t = Kp l left t := by
  unfold Kp
  refine List.filter_congr fun p hp => ?_
  by_cases e1 : p.1 = k
  · obtain ⟨a, b⟩ := p
    subst e1
    have := ents_inj hn he hp
    subst this
    simp [ho]
  · simp [e1]
theorem Kp.goes {l : Ents} {left : Nat → Bool} {t : Int} (hn : (keys l).Nodup) {k : Nat} {e : Ent} (he : (k, e) ∈ l) (ho : ov e t = true) : Kp l (fun j => left j && !decide (j = k)) t = wo (Kp l left t) k := by
  unfold Kp wo
  rw [List.filter_filter]
  refine List.filter_congr fun p hp => ?_
  by_cases e1 : p.1 = k
  · obtain ⟨a, b⟩ := p
    subst e1
    have := ents_inj hn he hp
    subst this
    simp [ho]
  · simp [e1]
theorem Kp.done {l : Ents} {left : Nat → Bool} {t : Int} (hk : ∀ p, p ∈ l → p.1 < 4294967296) (h : ∀ k, k < 4294967296 → left k = false) : Kp l left t = l.filter fun p => !ov p.2 t := by
  unfold Kp
  refine List.filter_congr fun p hp => ?_
  rw [h p.1 (hk p hp)]
  simp

theorem sub_wrap {t f : Int} (h1 : isI t) (h2 : isI f) (h : f ≤ t) : IntKind.u64.wrap (IntKind.u64.wrap t - IntKind.u64.wrap f) = t - f := by
  unfold isI at *
  simp [IntKind.wrap, IntKind.bits, IntKind.signed]
  omega

set_option maxRecDepth 20000 in
set_option maxHeartbeats 1600000 in
theorem over_any (e : Ent) (t : Int) (w : World) (hf : isI e.freed) (ht : isI t) : Calls Tryd.prog 26 #[.agg #[.bool e.live, .int .i64 e.owner, .int .i64 e.freed], .int .i64 t] w fun en w' => en = .returned (.bool (ov e t)) ∧ RowKit.Below w.heap.size w w' := by
  obtain ⟨lv, ow, f⟩ := e
  dsimp only at *
  have HB := Lib.hid (below_a w (.cells #[.bool lv, .int .i64 ow, .int .i64 f] 65))
  have key : ov ⟨lv, ow, f⟩ t = (!lv && decide (f + 10 ≤ t)) := rfl
  have HK := Lib.hid key
  have HW := Lib.hid (fun h => sub_wrap ht hf h)
  clear key hf ht
  cases lv with
  | true =>
    go_enter Tryd.func26, Tryd.ntmps26
    go_wp2_with fail
    go_ret
    exact ⟨by rw [HK.out]; rfl, HB.out⟩
  | false =>
    by_cases h1 : f ≤ t
    · have hw := HW.out h1
      by_cases h2 : f + 10 ≤ t
      · have hd : decide (10 ≤ t - f) = true := decide_eq_true (by omega)
        have HD := Lib.hid (decide_eq_true h2)
        clear h2
        go_enter Tryd.func26, Tryd.ntmps26
        go_wp2_with fail
        go_ret
        exact ⟨by rw [HK.out, HD.out]; rfl, HB.out⟩
      · have hd : decide (10 ≤ t - f) = false := decide_eq_false (by omega)
        have HD := Lib.hid (decide_eq_false h2)
        clear h2
        go_enter Tryd.func26, Tryd.ntmps26
        go_wp2_with fail
        go_ret
        exact ⟨by rw [HK.out, HD.out]; rfl, HB.out⟩
    · have HD : Hid (decide (f + 10 ≤ t) = false) := Lib.hid (decide_eq_false (by omega))
      have hd : decide (f ≤ t) = false := decide_eq_false h1
      go_enter Tryd.func26, Tryd.ntmps26
      go_wp2_with fail
      go_ret
      exact ⟨by rw [HK.out, HD.out]; rfl, HB.out⟩
end Go.Proofs.YthfblaiocdgkbaaDoor

namespace Go.Proofs.YthfblaiocdgkbaaDoor
set_option linter.unusedVariables false
set_option linter.unusedSimpArgs false
open Go.RowKit

theorem Kp.sub {l : Ents} {left : Nat → Bool} {t : Int} {p : Nat × Ent} (h : p ∈ Kp l left t) : p ∈ l := (List.mem_filter.1 h).1

/-- While a table goes on to tick t. -/
def TI (w : World) (mb : Nat) (l : Ents) (t : Int) (v : Value) (wr : World) : Prop :=
  ∃ left cnt, Rg wr mb w.heap.size (Kp l left t) left cnt ∧ v = .int .i64 ((l.length - (Kp l left t).length : Nat) : Int) ∧ Ch w wr (fun g => g = mb)

set_option maxRecDepth 20000 in
set_option maxHeartbeats 1600000 in
theorem ttick_any {w : World} {tb mb c : Nat} {l : Ents} (h : Tb w tb mb c l) (hf : ∀ p ∈ l, isI p.2.freed) {t : Int} (ht : isI t) :
    Calls Tryd.prog 16 #[ptr tb, .int .i64 t] w fun e w' => e = .returned (.int .i64 ((l.length - (l.filter fun p => !ov p.2 t).length : Nat) : Int)) ∧ Tb w' tb mb c (l.filter fun p => !ov p.2 t) ∧ Ch w w' (fun g => g = mb) := by
  have c1 := h.c1
  have HH := Lib.hid h
  have HF := Lib.hid hf
  have HTI := Lib.hid ht
  have HND := Lib.hid h.map.nd
  have HKY := Lib.hid h.map.key
  have htl := h.lt
  have hml := h.map.lt
  have hne := h.ne
  have hroom := h.room
  have hfits := h.fits
  clear h hf ht
  unfold ptr
  go_enter Tryd.func16, Tryd.ntmps16
  go_wp2_with (first | (at_range; refine wpList_rangeE rfl _ rfl rfl HH.out.map ?_; intro w0 R0 b0 s0))
  go_frame
  have HS : Hid (TI w mb l t (.int .i64 0) w0) := Lib.hid ⟨_, _, by rw [Kp.start]; exact R0, by rw [Kp.start]; simp, Ch.of_below _ b0⟩
  clear R0 b0 s0
  go_loopw [5] (fun v wr => TI w mb l t v wr) (fun _ wr => wr.rangeLeft mb w.heap.size)
  case atStart => exact HS.out
  case round =>
    obtain ⟨left, cnt, R, rfl, ch⟩ := hrel
    have HRG := Lib.hid R
    have HCH := Lib.hid ch
    have HLE : Hid ((Kp l left t).length ≤ l.length) := Lib.hid (List.length_filter_le _ _)
    clear R ch
    go_wp2_with (first | (at_next; refine wpList_nextE rfl _ rfl rfl HRG.out ?_ ?_))
    · intro hl0
      have HL := Lib.hid (Kp.done (t := t) HKY.out hl0)
      clear hl0
      go_wp2_with fail
      go_ret
      rw [HL.out]
      exact ⟨rfl, HH.out.put HCH.out (by rw [← HL.out]; exact HRG.out.mapE) (Nat.le_trans (List.length_filter_le _ _) hfits), HCH.out⟩
    · intro k e w1 cnt1 hk hlk hin R1 hlt g1 s1 hen
      have hin2 := Kp.sub hin
      have HO := Lib.hid (fun W => over_any e t W (HF.out _ hin2) HTI.out)
      have hr := HRG.out.lt
      have hcs := HCH.out.size
      have HC1 : Hid (Ch w w1 (fun g => g = mb)) := Lib.hid (HCH.out.grown g1 fun g hg hgl => by injection hg with hg; omega)
      have c2 := HC1.out.cell c1 hne
      have HR1 := Lib.hid R1
      have HK := Lib.hid hk
      have HIN := Lib.hid hin2
      have HIK := Lib.hid (mem_keys hin)
      have hlt2 := HRG.out.left_eq
      have HR0 := Lib.hid hlt2
      clear R1 g1 hlk hin hin2 hk hlt2
      obtain ⟨lv, ow, fr⟩ := e
      dsimp only at *
      cases hov : ov ⟨lv, ow, fr⟩ t with
      | true =>
        have HOV := Lib.hid hov
        rw [hov] at HO
        clear hov
        go_wp2_with (first
          | (go_at_call 26; refine (HO.out _).mono ?_; rintro en w3 ⟨rfl, b3⟩; have hb := below_trans (below_a w1 (.cells #[.bool lv, .int .i64 ow, .int .i64 fr] 65)) b3; have HC3 := Lib.hid (HC1.out.then_ (Ch.of_below _ hb)); have c3 := HC3.out.cell c1 hne; have HR3 := Lib.hid (HR1.out.below hb); clear b3 hb)
          | (at_delete; refine wpList_delR rfl _ _ rfl rfl HR3.out HK.out rfl HIK.out ?_; intro w4 cnt4 R4 hle tu; go_frame))
        have HD := Lib.hid (wo_length HRG.out.mapE.nd HIK.out)
        have hll := HD.out
        have hle2 := HLE.out
        go_roundw
        case rel =>
          refine ⟨fun j => left j && !decide (j = k), cnt4, ?_, ?_, HC3.out.turned tu fun _ => rfl⟩
          · rw [Kp.goes HND.out HIN.out HOV.out]
            have e1 : (fun j => (left j && !decide (j = k)) && !decide (j = k)) = fun j => left j && !decide (j = k) := by
              funext j
              cases left j <;> cases decide (j = k) <;> rfl
            rw [← e1]
            exact R4
          · rw [Kp.goes HND.out HIN.out HOV.out]
            congr 1
            omega
        case measure =>
          rw [R4.left_eq, HR0.out]
          omega
      | false =>
        have HOV := Lib.hid hov
        rw [hov] at HO
        clear hov
        go_wp2_with (first
          | (go_at_call 26; refine (HO.out _).mono ?_; rintro en w3 ⟨rfl, b3⟩; have hb := below_trans (below_a w1 (.cells #[.bool lv, .int .i64 ow, .int .i64 fr] 65)) b3; have HC3 := Lib.hid (HC1.out.then_ (Ch.of_below _ hb)); have HR3 := Lib.hid (HR1.out.below hb); clear b3 hb))
        go_roundw
        case rel =>
          refine ⟨fun j => left j && !decide (j = k), cnt1, ?_, ?_, HC3.out⟩
          · rw [Kp.stays HND.out HIN.out HOV.out]
            exact HR3.out
          · rw [Kp.stays HND.out HIN.out HOV.out]
        case measure =>
          rw [HR3.out.left_eq, HR0.out]
          exact hlt

end Go.Proofs.YthfblaiocdgkbaaDoor

namespace Go.Proofs
set_option linter.unusedVariables false
set_option linter.unusedSimpArgs false
open Go.Shelf
def Tryd.sortL_ren : Go.Shelf.Ren := ⟨fun | 6 => 28 | 15 => 41 | 14 => 40 | 28 => 58 | 29 => 59 | 20 => 50 | 21 => 51 | 22 => 52 | 23 => 53 | 24 => 54 | 25 => 55 | 26 => 56 | 27 => 57 | 46 => 68 | 47 => 69 | 48 => 70 | 49 => 71 | 50 => 72 | 57 => 74 | n => n, fun | 22 => 43 | 24 => 49 | 25 => 77 | 3 => 3 | 39 => 91 | 0 => 0 | 53 => 38 | 55 => 28 | 4 => 4 | 46 => 106 | 45 => 105 | 50 => 50 | 5 => 5 | 9 => 9 | 66 => 119 | 70 => 123 | 76 => 127 | 77 => 128 | n => n, fun | n => n⟩
theorem Tryd.sortL : Go.Proofs.SlLaysF0.n6 Tryd.prog Tryd.sortL_ren :=
  { mixed := by kernel_rfl,
    f6 := ⟨Tryd.f28.name, by decide, Tryd.func28.trans (congrArg some (by kernel_rfl))⟩,
    f14 := ⟨Tryd.f40.name, by decide, Tryd.func40.trans (congrArg some (by kernel_rfl))⟩,
    f15 := Tryd.func41.trans (congrArg some (by kernel_rfl)),
    f20 := ⟨Tryd.f50.name, by decide, Tryd.func50.trans (congrArg some (by kernel_rfl))⟩,
    f21 := ⟨Tryd.f51.name, by decide, Tryd.func51.trans (congrArg some (by kernel_rfl))⟩,
    f22 := ⟨Tryd.f52.name, by decide, Tryd.func52.trans (congrArg some (by kernel_rfl))⟩,
    f23 := ⟨Tryd.f53.name, by decide, Tryd.func53.trans (congrArg some (by kernel_rfl))⟩,
    f24 := ⟨Tryd.f54.name, by decide, Tryd.func54.trans (congrArg some (by kernel_rfl))⟩,
    f25 := ⟨Tryd.f55.name, by decide, Tryd.func55.trans (congrArg some (by kernel_rfl))⟩,
    f26 := ⟨Tryd.f56.name, by decide, Tryd.func56.trans (congrArg some (by kernel_rfl))⟩,
    f27 := ⟨Tryd.f57.name, by decide, Tryd.func57.trans (congrArg some (by kernel_rfl))⟩,
    f28 := Tryd.func58.trans (congrArg some (by kernel_rfl)),
    f29 := Tryd.func59.trans (congrArg some (by kernel_rfl)),
    f46 := ⟨Tryd.f68.name, by decide, Tryd.func68.trans (congrArg some (by kernel_rfl))⟩,
    f47 := Tryd.func69.trans (congrArg some (by kernel_rfl)),
    f48 := Tryd.func70.trans (congrArg some (by kernel_rfl)),
    f49 := ⟨Tryd.f71.name, by decide, Tryd.func71.trans (congrArg some (by kernel_rfl))⟩,
    f50 := ⟨Tryd.f72.name, by decide, Tryd.func72.trans (congrArg some (by kernel_rfl))⟩,
    f57 := ⟨Tryd.f74.name, by decide, Tryd.func74.trans (congrArg some (by kernel_rfl))⟩,
    t0 := Tryd.underlying0,
    a0 := Tryd.isAgg0,
    z0 := Tryd.sizeOf0,
    v0 := Tryd.zeroValue0,
    t3 := Tryd.underlying3,
    a3 := Tryd.isAgg3,
    z3 := Tryd.sizeOf3,
    v3 := Tryd.zeroValue3,
    t4 := Tryd.underlying4,
    a4 := Tryd.isAgg4,
    z4 := Tryd.sizeOf4,
    v4 := Tryd.zeroValue4,
    t5 := Tryd.underlying5,
    a5 := Tryd.isAgg5,
    z5 := Tryd.sizeOf5,
    v5 := Tryd.zeroValue5,
    t9 := Tryd.underlying9,
    a9 := Tryd.isAgg9,
    z9 := Tryd.sizeOf9,
    v9 := Tryd.zeroValue9,
    t22 := Tryd.underlying43,
    a22 := Tryd.isAgg43,
    z22 := Tryd.sizeOf43,
    v22 := Tryd.zeroValue43,
    t25 := Tryd.underlying77,
    a25 := Tryd.isAgg77,
    z25 := Tryd.sizeOf77,
    v25 := Tryd.zeroValue77,
    t39 := Tryd.underlying91,
    a39 := Tryd.isAgg91,
    z39 := Tryd.sizeOf91,
    v39 := Tryd.zeroValue91,
    t45 := Tryd.underlying105,
    a45 := Tryd.isAgg105,
    z45 := Tryd.sizeOf105,
    v45 := Tryd.zeroValue105,
    t46 := Tryd.underlying106,
    a46 := Tryd.isAgg106,
    z46 := Tryd.sizeOf106,
    v46 := Tryd.zeroValue106,
    t50 := Tryd.underlying50,
    a50 := Tryd.isAgg50,
    z50 := Tryd.sizeOf50,
    v50 := Tryd.zeroValue50,
    t53 := Tryd.underlying38,
    a53 := Tryd.isAgg38,
    z53 := Tryd.sizeOf38,
    v53 := Tryd.zeroValue38,
    t55 := Tryd.underlying28,
    a55 := Tryd.isAgg28,
    z55 := Tryd.sizeOf28,
    v55 := Tryd.zeroValue28,
    t66 := Tryd.underlying119,
    a66 := Tryd.isAgg119,
    z66 := Tryd.sizeOf119,
    v66 := Tryd.zeroValue119,
    t70 := Tryd.underlying123,
    a70 := Tryd.isAgg123,
    z70 := Tryd.sizeOf123,
    v70 := Tryd.zeroValue123,
    t76 := Tryd.underlying127,
    a76 := Tryd.isAgg127,
    z76 := Tryd.sizeOf127,
    v76 := Tryd.zeroValue127,
    t77 := Tryd.underlying128,
    a77 := Tryd.isAgg128,
    z77 := Tryd.sizeOf128,
    v77 := Tryd.zeroValue128 }
end Go.Proofs

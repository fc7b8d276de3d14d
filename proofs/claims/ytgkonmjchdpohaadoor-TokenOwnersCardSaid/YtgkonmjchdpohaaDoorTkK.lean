/- A key is taken: the contract of Take. Conditions: the table of constants holds; the list has at most 2^40 numbers of 64 bits. -/
import Derived.Test.YtgkonmjchdpohaaDoorTkT
namespace Go.Proofs.YtgkonmjchdpohaaDoor
set_option linter.unusedVariables false
set_option linter.unusedSimpArgs false
open Go.RowKit

section
variable {w : World} {tb mb c : Nat} {l : Ents} {A : Option Addr} {n cc : Nat} {zs : List Int} {owner : Int}

set_option maxHeartbeats 1600000 in
theorem ttake_full (h : Tb w tb mb c l) (hf : l.length = c) : Calls Tryd.prog 11 #[ptr tb, .int .i64 owner, .slice A n cc] w fun e w' => e = .returned (.tuple #[.int .u64 0, .int .i64 0, .int .i64 15]) ∧ RowKit.Below w.heap.size w w' := by
  have c0 := h.c0
  have c1 := h.c1
  have hlen := fun (m : Nat) (ty : TypeId) => h.map.leng (w.drewN m) rfl ty
  rw [hf] at hlen
  clear h hf
  unfold ptr
  go_enter Tryd.func11, Tryd.ntmps11
  go_wp2_with fail
  go_quiet (fail)
  go_wp2_with fail
  go_ret3
  exact ⟨rfl, below_dn (Below.refl _ _) _⟩

/-- What all of the first j keys are: some entry's. -/
def Ahead (l : Ents) (zs : List Int) (j : Nat) : Prop := ∀ i, i < j → kt (zs.getD i 0).toNat ∈ keys l

set_option maxRecDepth 20000 in
set_option maxHeartbeats 4000000 in
theorem ttake_none (h : Tb w tb mb c l) (hT : Tab w) (hf : l.length < c) (r : RI .u64 w A n cc zs) (hz : ∀ z ∈ zs, 0 ≤ z ∧ z < 18446744073709551616) (hn : n ≤ 1099511627776) (ha : Ahead l zs n) :
    Calls Tryd.prog 11 #[ptr tb, .int .i64 owner, .slice A n cc] w fun e w' => e = .returned (.tuple #[.int .u64 0, .int .i64 (n : Int), .int .i64 6]) ∧ RowKit.Below w.heap.size w w' := by
  have c0 := h.c0
  have c1 := h.c1
  have hlen := fun (m : Nat) (ty : TypeId) => h.map.leng (w.drewN m) rfl ty
  have HH := Lib.hid h
  have HT := Lib.hid hT
  have HR := Lib.hid r
  have HZ := Lib.hid hz
  have HA := Lib.hid ha
  have hll : ¬ c ≤ l.length := by omega
  have hzl := r.len
  clear h hT r hz ha hf
  generalize l.length = ll at *
  unfold ptr at *
  go_enter Tryd.func11, Tryd.ntmps11
  go_wp2_with fail
  go_quiet (fail)
  go_wp2_with fail
  clear hlen
  go_loopw [28] (fun ix wr => ∃ q : Nat, q ≤ n ∧ ix = .int .i64 (q : Int) ∧ RowKit.Below w.heap.size w wr) (fun ix _ => n - (intOf ix).toNat)
  case atStart => exact ⟨0, Nat.zero_le _, rfl, below_dn (Below.refl _ _) _⟩
  case round =>
    obtain ⟨q, hq, rfl, b⟩ := hrel
    by_cases hqn : q < n
    · obtain ⟨g, o, rfl, ck⟩ := (HR.out.below b).at_ hqn
      have hin := HA.out q hqn
      obtain ⟨k, hk⟩ : ∃ k : Nat, zs.getD q 0 = k := ⟨_, (Int.toNat_of_nonneg (HZ.out _ (by rw [List.getD_eq_getElem?_getD, List.getElem?_eq_getElem (by omega)]; exact List.getElem_mem _)).1).symm⟩
      have hkl := (HZ.out (zs.getD q 0) (by rw [List.getD_eq_getElem?_getD, List.getElem?_eq_getElem (by omega)]; exact List.getElem_mem _)).2
      rw [hk] at ck hin hkl
      rw [Int.toNat_natCast] at hin
      have HTK := Lib.hid (token_any k wr (by omega) (HT.out.below b))
      have HTB := Lib.hid (HH.out.below b)
      have HB := Lib.hid b
      have HKL := Lib.hid (kt_lt k)
      obtain ⟨e, he⟩ : ∃ e, fnd l (kt k) = some e := by
        cases hf : fnd l (kt k) with
        | none => exact absurd hin (fnd_none.1 hf)
        | some e => exact ⟨e, rfl⟩
      have HE := Lib.hid he
      obtain ⟨lv, ow, fr⟩ := e
      clear b hk hin hkl he
      generalize kt k = t at *
      go_wp2_with (first
        | (go_at_call 13; refine (HTK.out).mono ?_; rintro e w1 ⟨rfl, b1⟩; have T1 := HTB.out.below b1; have c2 := T1.c1; have HM1 := Lib.hid T1.map; have HB1 := Lib.hid b1; clear b1 T1)
        | (at_lookup; refine wpList_lookE rfl _ _ rfl rfl HM1.out HKL.out rfl HE.out (v := .agg #[.bool lv, .int .i64 ow, .int .i64 fr]) rfl rfl ?_))
      go_roundw
      case rel => exact ⟨q + 1, by omega, by go_num, HB.out.trans ((HB1.out.mono HB.out.size).alloc (by have := HB.out.size; have := HB1.out.size; omega) _)⟩
      case measure => simp [intOf]; omega
    · obtain rfl : q = n := by omega
      have HB := Lib.hid b
      clear b
      go_wp2_with fail
      go_ret3
      exact ⟨rfl, HB.out⟩

set_option maxRecDepth 20000 in
set_option maxHeartbeats 4000000 in
theorem ttake_hit (h : Tb w tb mb c l) (hT : Tab w) (hf : l.length < c) (r : RI .u64 w A n cc zs) (hz : ∀ z ∈ zs, 0 ≤ z ∧ z < 18446744073709551616) (hn : n ≤ 1099511627776) {j : Nat} (hj : j < n) (ha : Ahead l zs j) (hh : kt (zs.getD j 0).toNat ∉ keys l) :
    Calls Tryd.prog 11 #[ptr tb, .int .i64 owner, .slice A n cc] w fun e w' => e = .returned (.tuple #[.int .u64 (zs.getD j 0), .int .i64 (j : Int), .int .i64 0]) ∧ Tb w' tb mb c (l ++ [(kt (zs.getD j 0).toNat, ⟨true, owner, 0⟩)]) ∧ Ch w w' (fun g => g = mb) := by
  have c0 := h.c0
  have c1 := h.c1
  have hlen := fun (m : Nat) (ty : TypeId) => h.map.leng (w.drewN m) rfl ty
  have HH := Lib.hid h
  have HT := Lib.hid hT
  have HR := Lib.hid r
  have HZ := Lib.hid hz
  have HA := Lib.hid ha
  have HN := Lib.hid hh
  have hll : ¬ c ≤ l.length := by omega
  have hroom := h.room
  have hzl := r.len
  have hlu : l.length ≤ 1099511627776 := by omega
  have HLU := Lib.hid hlu
  have HLC := Lib.hid hf
  clear h hT r hz ha hf hh hlu
  generalize hlln : l.length = ll at *
  have HLL := Lib.hid hlln
  clear hlln
  unfold ptr at *
  go_enter Tryd.func11, Tryd.ntmps11
  go_wp2_with fail
  go_quiet (fail)
  go_wp2_with fail
  clear hlen
  go_loopw [28] (fun ix wr => ∃ q : Nat, q ≤ j ∧ ix = .int .i64 (q : Int) ∧ RowKit.Below w.heap.size w wr) (fun ix _ => n - (intOf ix).toNat)
  case atStart => exact ⟨0, Nat.zero_le _, rfl, below_dn (Below.refl _ _) _⟩
  case round =>
    obtain ⟨q, hq, rfl, b⟩ := hrel
    have hqn : q < n := by omega
    obtain ⟨g, o, rfl, ck⟩ := (HR.out.below b).at_ hqn
    obtain ⟨k, hk⟩ : ∃ k : Nat, zs.getD q 0 = k := ⟨_, (Int.toNat_of_nonneg (HZ.out _ (by rw [List.getD_eq_getElem?_getD, List.getElem?_eq_getElem (by omega)]; exact List.getElem_mem _)).1).symm⟩
    have hkl := (HZ.out (zs.getD q 0) (by rw [List.getD_eq_getElem?_getD, List.getElem?_eq_getElem (by omega)]; exact List.getElem_mem _)).2
    rw [hk] at ck hkl
    have HTK := Lib.hid (token_any k wr (by omega) (HT.out.below b))
    have HTB := Lib.hid (HH.out.below b)
    have HB := Lib.hid b
    have HKL := Lib.hid (kt_lt k)
    by_cases hqj : q < j
    · have hin := HA.out q hqj
      rw [hk, Int.toNat_natCast] at hin
      obtain ⟨e, he⟩ : ∃ e, fnd l (kt k) = some e := by
        cases hf : fnd l (kt k) with
        | none => exact absurd hin (fnd_none.1 hf)
        | some e => exact ⟨e, rfl⟩
      have HE := Lib.hid he
      obtain ⟨lv, ow, fr⟩ := e
      clear b hk hin hkl he
      generalize kt k = t at *
      go_wp2_with (first
        | (go_at_call 13; refine (HTK.out).mono ?_; rintro e w1 ⟨rfl, b1⟩; have T1 := HTB.out.below b1; have c2 := T1.c1; have HM1 := Lib.hid T1.map; have HB1 := Lib.hid b1; clear b1 T1)
        | (at_lookup; refine wpList_lookE rfl _ _ rfl rfl HM1.out HKL.out rfl HE.out (v := .agg #[.bool lv, .int .i64 ow, .int .i64 fr]) rfl rfl ?_))
      go_roundw
      case rel => exact ⟨q + 1, by omega, by go_num, HB.out.trans ((HB1.out.mono HB.out.size).alloc (by have := HB.out.size; have := HB1.out.size; omega) _)⟩
      case measure => simp [intOf]; omega
    · obtain rfl : q = j := by omega
      have hno := HN.out
      rw [hk, Int.toNat_natCast] at hno
      have he : fnd l (kt k) = Option.none := fnd_none.2 hno
      have HE := Lib.hid he
      have HNO := Lib.hid hno
      have HKE := Lib.hid hk
      clear b hkl he hno hk
      generalize hkt : kt k = t at *
      have HKT := Lib.hid hkt
      clear hkt
      go_wp2_with (first
        | (go_at_call 13; refine (HTK.out).mono ?_; rintro e w1 ⟨rfl, b1⟩; have T1 := HTB.out.below b1; have c2 := T1.c1; have T2 := T1.alloc (.cells #[.bool false, .int .i64 0, .int .i64 0] 65); have c3 := T2.c1; have HM1 := Lib.hid T1.map; have HT2 := Lib.hid T2; have HB1 := Lib.hid b1; clear b1 T1 T2)
        | (at_lookup; refine wpList_lookE rfl _ _ rfl rfl HM1.out HKL.out rfl HE.out (v := .agg #[.bool false, .int .i64 0, .int .i64 0]) rfl rfl ?_)
        | (at_mapUpdate; refine wpList_putE rfl _ _ _ rfl rfl HT2.out.map HKL.out rfl ⟨true, owner, 0⟩ rfl (by rw [HLL.out]; exact HLU.out) (.inl ⟨HNO.out, rfl⟩) ?_; intro w4 M4 tu))
      go_ret3
      have hch := (Ch.refl (w1.alloc (.cells #[.bool false, .int .i64 0, .int .i64 0] 65)) (fun g => g = mb)).turned tu fun _ => rfl
      have hb : RowKit.Below w.heap.size w (w1.alloc (.cells #[.bool false, .int .i64 0, .int .i64 0] 65)) := HB.out.trans ((HB1.out.mono HB.out.size).alloc (by have := HB.out.size; have := HB1.out.size; omega) _)
      rw [HKE.out, Int.toNat_natCast, HKT.out]
      exact ⟨rfl, HT2.out.put hch M4 (by rw [List.length_append, HLL.out]; have := HLC.out; simp; omega), (Ch.of_below _ hb).then_ hch⟩

end

end Go.Proofs.YtgkonmjchdpohaaDoor

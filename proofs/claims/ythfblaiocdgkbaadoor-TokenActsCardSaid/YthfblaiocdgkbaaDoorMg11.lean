/- The document's table: its Take. Condition: the list has at most 64 entries; keys are numbers of 64 bits.
The acts of a law on tables, as an argument is read: two whole numbers, a number of 64 bits, a slice of such. No condition. -/
import Derived.Test.YthfblaiocdgkbaaDoorMg10
import Derived.OpenShut
import Derived.Deep.Slices
import Derived.ChangeOld
import Derived.ProofKit
namespace Go.Proofs.YthfblaiocdgkbaaDoor
set_option linter.unusedVariables false
set_option linter.unusedSimpArgs false
open Go.RowKit

theorem zeroTook : (Tryd.prog.info? 36).map (·.size) = some 3 := by kernel_rfl
theorem results_st {P : Program} {fn : Func} {p : Tmp} {ty : TypeId} (h : fn.results = #[.cell p ty]) (tmps : Array Value) (w : World) (g : Nat) (cs : List Value) (d : TypeDesc)
    (hp : tmps.getD p undef = .pointer (some ⟨g, 0, none⟩)) (hc : w.rangeAt g 0 cs) (hu : P.underlying ty = some d) (hd : d.isRow = true) (hi : (P.info? ty).map (·.size) = some cs.length) :
    (results fn tmps).run P w = .ok (.agg cs.toArray) w := by
  have hp' : tmps[p]?.getD undef = .pointer (some ⟨g, 0, none⟩) := by simpa using hp
  simp [results, h, hp', asAddr, run_loadVar_mid w g 0 ty cs d hc hu hd hi]

def tookV (k : Int) (m e : Int) : List Value := [.int .u64 k, .int .i64 m, .int .i64 e]
theorem took_range {W : World} {g : Nat} {a b c : Value} (h0 : W.cell? ⟨g, 0, none⟩ = some a) (h1 : W.cell? ⟨g, 1, none⟩ = some b) (h2 : W.cell? ⟨g, 2, none⟩ = some c) (k m e : Int) :
    (((W.setCell ⟨g, 0, none⟩ (.int .u64 k)).setCell ⟨g, 1, none⟩ (.int .i64 m)).setCell ⟨g, 2, none⟩ (.int .i64 e)).rangeAt g 0 (tookV k m e) := by
  have n1 : (W.setCell ⟨g, 0, none⟩ (.int .u64 k)).cell? ⟨g, 1, none⟩ = some b := (World.cell?_setCell_other _ _ _ _ (by simp)).trans h1
  have n2 : ((W.setCell ⟨g, 0, none⟩ (.int .u64 k)).setCell ⟨g, 1, none⟩ (.int .i64 m)).cell? ⟨g, 2, none⟩ = some c := (World.cell?_setCell_other _ _ _ _ (by simp)).trans ((World.cell?_setCell_other _ _ _ _ (by simp)).trans h2)
  intro j v hv
  rw [Nat.zero_add]
  match j, hv with
  | 0, hv =>
    simp [tookV] at hv
    subst hv
    exact (World.cell?_setCell_other _ _ _ _ (by simp)).trans ((World.cell?_setCell_other _ _ _ _ (by simp)).trans (World.cell?_setCell_same _ _ _ h0))
  | 1, hv =>
    simp [tookV] at hv
    subst hv
    exact (World.cell?_setCell_other _ _ _ _ (by simp)).trans (World.cell?_setCell_same _ _ _ n1)
  | 2, hv =>
    simp [tookV] at hv
    subst hv
    exact World.cell?_setCell_same _ _ _ n2
  | j + 3, hv => simp [tookV] at hv
theorem took_ch {w W : World} {m : Nat → Prop} {g : Nat} (h : Ch w W m) (hg : w.heap.size ≤ g) (a b c : Value) : Ch w (((W.setCell ⟨g, 0, none⟩ a).setCell ⟨g, 1, none⟩ b).setCell ⟨g, 2, none⟩ c) m :=
  ((h.setCell (p := ⟨g, 0, none⟩) (fun q => absurd (show g < w.heap.size from q) (by omega)) a).setCell (p := ⟨g, 1, none⟩) (fun q => absurd (show g < w.heap.size from q) (by omega)) b).setCell (p := ⟨g, 2, none⟩) (fun q => absurd (show g < w.heap.size from q) (by omega)) c
theorem took_new (w : World) : (w.alloc (.cells #[.int .u64 0, .int .i64 0, .int .i64 0] 36)).cell? ⟨w.heap.size, 0, none⟩ = some (.int .u64 0) ∧ (w.alloc (.cells #[.int .u64 0, .int .i64 0, .int .i64 0] 36)).cell? ⟨w.heap.size, 1, none⟩ = some (.int .i64 0) ∧ (w.alloc (.cells #[.int .u64 0, .int .i64 0, .int .i64 0] 36)).cell? ⟨w.heap.size, 2, none⟩ = some (.int .i64 0) := by
  refine ⟨?_, ?_, ?_⟩ <;> (rw [cell_of_row _ w.heap.size _ _ _ (0, 0) (heap_alloc_new w _)]; rfl)

set_option maxRecDepth 20000 in
set_option maxHeartbeats 1600000 in
theorem rtake_full {w : World} {xb c : Nat} {v : Value} {rl : List En} (R : Rt w xb c v rl) (hf : rl.length = c) (owner : Int) (A : Option Addr) (n cc : Nat) :
    Calls Tryd.prog 12 #[ptr xb, .int .i64 owner, .slice A n cc] w fun e w' => e = .returned (.agg (tookV 0 0 15).toArray) ∧ RowKit.Below w.heap.size w w' := by
  obtain ⟨B, m, hv, hn1, hn2⟩ := own4_slice R.row
  subst hv
  have hb := below_a w (.cells #[.int .u64 0, .int .i64 0, .int .i64 0] 36)
  have R1 := R.below hb
  have c0 := R1.c0
  have c1 := R1.c1
  have HB := Lib.hid hb
  have HTN := Lib.hid (took_new w)
  clear R R1 hb
  rw [hf] at c1
  unfold ptr at *
  go_enter Tryd.func12, Tryd.ntmps12
  go_wp2_with fail
  go_quiet (fail)
  go_wp2_with fail
  obtain ⟨z0, z1, z2⟩ := HTN.out
  refine bodyPost_ret (results_st rfl _ _ w.heap.size (tookV 0 0 15) _ rfl (took_range (W := (w.alloc _).drewN nq) z0 z1 z2 0 0 15) Tryd.underlying36 rfl zeroTook) rfl ?_
  exact ⟨rfl, (took_ch (m := fun _ => False) (Ch.of_below _ (below_dn HB.out nq)) (Nat.le_refl _) _ _ _).below fun _ _ h => h⟩

/-- The tokens of the list. -/
def toks (rl : List En) : List Nat := rl.map En.tok
theorem AtR.in_ {rl : List En} {k : Nat} {r : Int} (h : AtR rl k r) (hk : k ∈ toks rl) : ∃ j : Nat, r = j := by
  rcases h with ⟨_, hn⟩ | ⟨j, hr, _⟩
  · obtain ⟨x, hx, he⟩ := List.mem_map.1 hk
    obtain ⟨i, hi, rfl⟩ := List.getElem_of_mem hx
    refine absurd ?_ (hn i hi)
    rw [List.getD_eq_getElem?_getD, List.getElem?_eq_getElem hi]
    exact he
  · exact ⟨j, hr⟩

set_option maxRecDepth 20000 in
set_option maxHeartbeats 3200000 in
theorem rtake_none {w : World} {xb c : Nat} {v : Value} {rl : List En} (R : Rt w xb c v rl) (hf : rl.length < c) (hc : c ≤ 64) (owner : Int) {A : Option Addr} {n cc : Nat} {zs : List Int} (r : RI .u64 w A n cc zs) (hz : ∀ z ∈ zs, 0 ≤ z ∧ z < 18446744073709551616) (hn : n ≤ 1099511627776) (ha : ∀ i, i < n → kt (zs.getD i 0).toNat ∈ toks rl) :
    Calls Tryd.prog 12 #[ptr xb, .int .i64 owner, .slice A n cc] w fun e w' => e = .returned (.agg (tookV 0 n 6).toArray) ∧ RowKit.Below w.heap.size w w' := by
  obtain ⟨B, m, hv, hn1, hn2⟩ := own4_slice R.row
  subst hv
  have hb := below_a w (.cells #[.int .u64 0, .int .i64 0, .int .i64 0] 36)
  have R1 := R.below hb
  have c0 := R1.c0
  have c1 := R1.c1
  have HB := Lib.hid hb
  have HTN := Lib.hid (took_new w)
  have HR1 := Lib.hid R1
  have HRI := Lib.hid (r.below hb)
  have hzl := r.len
  have HZ := Lib.hid hz
  have HA := Lib.hid ha
  have hne : ((rl.length : Int) == (c : Int)) = false := by
    have : (rl.length : Int) ≠ c := by omega
    simpa using this
  have hne2 : (rl.length == c) = false := by
    have : rl.length ≠ c := by omega
    simpa using this
  have hU : rl.length ≤ 1099511627776 := by omega
  have HU := Lib.hid hU
  clear R R1 hb r hz ha hU
  generalize hln : rl.length = ln at *
  have HL := Lib.hid hln
  clear hln
  have HBK := Lib.hid (heap_alloc_new w (.cells #[.int .u64 0, .int .i64 0, .int .i64 0] 36))
  generalize hW : w.alloc (.cells #[.int .u64 0, .int .i64 0, .int .i64 0] 36) = W1 at *
  have HW := Lib.hid hW
  clear hW
  unfold ptr at *
  go_enter Tryd.func12, Tryd.ntmps12
  go_upto_region 1 with (fail)
  rw [HW.out]
  go_quiet (fail)
  go_wp2_with fail
  go_loopw [7] (fun ix wr => ∃ q : Nat, q ≤ n ∧ ix = .int .i64 (q : Int) ∧ RowKit.Below W1.heap.size W1 wr) (fun ix _ => n - (intOf ix).toNat)
  case atStart => exact ⟨0, Nat.zero_le _, rfl, below_dn (Below.refl _ _) _⟩
  case round =>
    obtain ⟨q, hq, rfl, b⟩ := hrel
    have HBW := Lib.hid b
    by_cases hqn : q < n
    · obtain ⟨g, o, rfl, ck⟩ := (HRI.out.below b).at_ hqn
      have hmem : zs.getD q 0 ∈ zs := by
        rw [List.getD_eq_getElem?_getD, List.getElem?_eq_getElem (by omega)]
        exact List.getElem_mem _
      obtain ⟨k, hk⟩ : ∃ k : Nat, zs.getD q 0 = k := ⟨_, (Int.toNat_of_nonneg (HZ.out _ hmem).1).symm⟩
      have hkl := (HZ.out _ hmem).2
      have hin := HA.out q hqn
      rw [hk] at ck hin hkl
      rw [Int.toNat_natCast] at hin
      have HRT := Lib.hid (rtoken_any k wr (by omega))
      have HIN := Lib.hid hin
      clear b hk hkl hin hmem
      go_wp2_with fail
      refine (HRT.out).mono ?_
      rintro e w5 ⟨rfl, b5⟩
      have hb5 := HBW.out.trans (b5.mono HBW.out.size)
      have HAT := Lib.hid (rat_any (HR1.out.below hb5) (by rw [HL.out]; exact HU.out) (kt k))
      have HB5 := Lib.hid hb5
      clear b5 hb5 HRT
      unfold ptr at HAT
      go_wp2_with fail
      refine (HAT.out).mono ?_
      rintro e w6 ⟨r, rfl, rfl, har⟩
      obtain ⟨j, rfl⟩ := har.in_ HIN.out
      clear har HAT
      go_wp2_with fail
      go_roundw
      case rel => exact ⟨q + 1, by omega, by go_num, HB5.out⟩
      case measure => simp [intOf]; omega
    · obtain rfl : q = n := by omega
      obtain ⟨z0, z1, z2⟩ := HTN.out
      have k0 := (b.cell (World.block_lt_of_cell? _ _ z0)).trans z0
      have k1 := (b.cell (World.block_lt_of_cell? _ _ z1)).trans z1
      have k2 := (b.cell (World.block_lt_of_cell? _ _ z2)).trans z2
      have hbk := (b.block _ (Array.getElem?_eq_some_iff.1 HBK.out).1).trans HBK.out
      have fz : ∀ i, wr.frozen? ⟨w.heap.size, i, none⟩ = false := fun i => by simp [World.frozen?, hbk]
      have f0 := fz 0
      have f1 := fz 1
      have f2 := fz 2
      clear hbk fz
      clear b z0 z1 z2
      have HK0 := Lib.hid k0
      have HK1 := Lib.hid k1
      have HK2 := Lib.hid k2
      go_wp2_with fail
      refine bodyPost_ret (results_st rfl _ _ w.heap.size (tookV 0 q 6) _ rfl (took_range HK0.out HK1.out HK2.out 0 q 6) Tryd.underlying36 rfl zeroTook) rfl ?_
      exact ⟨rfl, (took_ch (m := fun _ => False) (Ch.of_below _ (HB.out.trans (HBW.out.mono HB.out.size))) (Nat.le_refl _) _ _ _).below fun _ _ h => h⟩

/-- What the document's Take leaves that takes a key. -/
def TookP (w : World) (xb c : Nat) (v : Value) (rl : List En) (owner z : Int) (j : Nat) (e : Ending) (w' : World) : Prop :=
  e = .returned (.agg (tookV z j 0).toArray) ∧ ∃ v', Rt w' xb c v' (rl ++ [⟨kt z.toNat, owner, true, 0⟩]) ∧ Ch w w' (fun g => g = xb ∨ v.ownBlock = some g) ∧ ∀ g, v'.ownBlock = some g → v.ownBlock = some g ∨ w.heap.size ≤ g
theorem blk_set {w : World} {xb c : Nat} {v : Value} (h : w.heap[xb]? = some (.cells #[.int .i64 (c : Int), v] 47 (0, 0))) {v' : Value} {rl' : List En} (hr : w.ownsRow 0 53 4 v' rl'.length (ecs rl')) (hf : v'.ownBlock ≠ some xb) : Rt (w.setCell ⟨xb, 1, none⟩ v') xb c v' rl' := by
  refine ⟨?_, ?_, hf⟩
  · simp [World.setCell, Array.getElem?_modify, h]
  · refine ⟨hr.1, ?_⟩
    rcases hr.2 with hn | ⟨g, cap, cur, hv, hb, hg, rest⟩
    · exact .inl hn
    · exact .inr ⟨g, cap, cur, hv, hb, (Below.heap_setCell w ⟨xb, 1, none⟩ v' g (fun e => hf (by rw [hv]; exact congrArg some e))).trans hg, rest⟩

set_option maxRecDepth 20000 in
set_option maxHeartbeats 800000 in
theorem rtake_hit {w : World} {xb c : Nat} {v : Value} {rl : List En} (R : Rt w xb c v rl) (hf : rl.length < c) (hc : c ≤ 64) (owner : Int) {A : Option Addr} {n cc : Nat} {zs : List Int} (r : RI .u64 w A n cc zs) (hz : ∀ z ∈ zs, 0 ≤ z ∧ z < 18446744073709551616) (hn : n ≤ 1099511627776) {jj : Nat} (hj : jj < n) (ha : ∀ i, i < jj → kt (zs.getD i 0).toNat ∈ toks rl) {z : Int} (hzj : zs.getD jj 0 = z) (hno : kt z.toNat ∉ toks rl) (hA1 : ∀ g o, A = some ⟨g, o, none⟩ → g ≠ xb) (hA2 : ∀ g o, A = some ⟨g, o, none⟩ → v.ownBlock ≠ some g) :
    Calls Tryd.prog 12 #[ptr xb, .int .i64 owner, .slice A n cc] w (TookP w xb c v rl owner z jj) := by
  obtain ⟨B, m, hv, hn1, hn2⟩ := own4_slice R.row
  subst hv
  have hb := below_a w (.cells #[.int .u64 0, .int .i64 0, .int .i64 0] 36)
  have R1 := R.below hb
  have c0 := R1.c0
  have c1 := R1.c1
  have HB := Lib.hid hb
  have HTN := Lib.hid (took_new w)
  have HR1 := Lib.hid R1
  have HRI := Lib.hid (r.below hb)
  have hzl := r.len
  have HZ := Lib.hid hz
  have HA := Lib.hid ha
  have HNO : Hid (∀ r, AtR rl (kt z.toNat) r → r = -1) := Lib.hid (fun r h => h.of_not hno)
  have HZJ := Lib.hid hzj
  clear hzj
  have HA1 := Lib.hid hA1
  have HA2 := Lib.hid hA2
  have HXL := Lib.hid R.lt
  have HVL := Lib.hid (fun g (hg : (Value.slice B rl.length m).ownBlock = some g) => (own_in R.row hg).2)
  have hne : ((rl.length : Int) == (c : Int)) = false := by
    have : (rl.length : Int) ≠ c := by omega
    simpa using this
  have hne2 : (rl.length == c) = false := by
    have : rl.length ≠ c := by omega
    simpa using this
  have hU : rl.length ≤ 1099511627776 := by omega
  have HU := Lib.hid hU
  clear R R1 hb r hz ha hU hno hA1 hA2
  generalize hln : rl.length = ln at *
  have HL := Lib.hid hln
  clear hln
  have HBK := Lib.hid (heap_alloc_new w (.cells #[.int .u64 0, .int .i64 0, .int .i64 0] 36))
  generalize hW : w.alloc (.cells #[.int .u64 0, .int .i64 0, .int .i64 0] 36) = W1 at *
  have HW := Lib.hid hW
  clear hW
  unfold ptr at *
  go_enter Tryd.func12, Tryd.ntmps12
  go_upto_region 1 with (fail)
  rw [HW.out]
  go_quiet (fail)
  go_wp2_with fail
  go_loopw [7] (fun ix wr => ∃ q : Nat, q ≤ jj ∧ ix = .int .i64 (q : Int) ∧ RowKit.Below W1.heap.size W1 wr) (fun ix _ => n - (intOf ix).toNat)
  case atStart => exact ⟨0, Nat.zero_le _, rfl, below_dn (Below.refl _ _) _⟩
  case round =>
    obtain ⟨q, hq, rfl, b⟩ := hrel
    have HBW := Lib.hid b
    have hqn : q < n := by omega
    obtain ⟨g, o, hgo, ck⟩ := (HRI.out.below b).at_ hqn
    subst hgo
    have hmem : zs.getD q 0 ∈ zs := by
      rw [List.getD_eq_getElem?_getD, List.getElem?_eq_getElem (by omega)]
      exact List.getElem_mem _
    obtain ⟨k, hk⟩ : ∃ k : Nat, zs.getD q 0 = k := ⟨_, (Int.toNat_of_nonneg (HZ.out _ hmem).1).symm⟩
    have hkl := (HZ.out _ hmem).2
    rw [hk] at ck hkl
    have HRT := Lib.hid (rtoken_any k wr (by omega))
    by_cases hqj : q < jj
    · have hin := HA.out q hqj
      rw [hk, Int.toNat_natCast] at hin
      have HIN := Lib.hid hin
      clear b hk hkl hin hmem
      go_wp2_with fail
      refine (HRT.out).mono ?_
      rintro e w5 ⟨rfl, b5⟩
      have hb5 := HBW.out.trans (b5.mono HBW.out.size)
      have HAT := Lib.hid (rat_any (HR1.out.below hb5) (by rw [HL.out]; exact HU.out) (kt k))
      have HB5 := Lib.hid hb5
      clear b5 hb5 HRT
      unfold ptr at HAT
      go_wp2_with fail
      refine (HAT.out).mono ?_
      rintro e w6 ⟨r, rfl, rfl, har⟩
      obtain ⟨j, rfl⟩ := har.in_ HIN.out
      clear har HAT
      go_wp2_with fail
      go_roundw
      case rel => exact ⟨q + 1, by omega, by go_num, HB5.out⟩
      case measure => simp [intOf]; omega
    · obtain rfl : q = jj := by omega
      have hzk : z = (k : Int) := HZJ.out.symm.trans hk
      have hno := HNO.out
      rw [hzk, Int.toNat_natCast] at hno
      have HZK := Lib.hid hzk
      clear hzk
      have HNK := Lib.hid hno
      have HK := Lib.hid hk
      have HKL := Lib.hid (kt_lt k)
      clear b hk hkl hmem hno
      generalize hkt : kt k = t at *
      have HKT := Lib.hid hkt
      clear hkt
      go_wp2_with fail
      refine (HRT.out).mono ?_
      rintro e w5 ⟨rfl, b5⟩
      have hb5 := HBW.out.trans (b5.mono HBW.out.size)
      have ck5 := (b5.cell (World.block_lt_of_cell? _ _ ck)).trans ck
      have R5 := HR1.out.below hb5
      have HAT := Lib.hid (rat_any R5 (by rw [HL.out]; exact HU.out) t)
      have HB5 := Lib.hid hb5
      have HR5 := Lib.hid R5
      have k1 := R5.c1
      clear b5 hb5 HRT ck R5
      unfold ptr at HAT
      go_wp2_with fail
      refine (HAT.out).mono ?_
      rintro e w6 ⟨r, rfl, rfl, har⟩
      obtain rfl := HNK.out _ har
      clear har HAT
      have hs5 := HB5.out.size
      have HO4 := Lib.hid (HR5.out.row.alloc (.cells #[.int .u32 (t : Int), .int .i64 owner, .bool true, .int .i64 0] 53))
      rw [HL.out] at HO4
      have HCE := Lib.hid (cellsEn w6 ⟨t, owner, true, 0⟩ 53)
      have HW1S : Hid (w.heap.size + 1 ≤ W1.heap.size) := Lib.hid (by rw [← HW.out, World.size_alloc]; exact Nat.le_refl _)
      have HBA := Lib.hid (below_a w6 (.cells #[.int .u32 (t : Int), .int .i64 owner, .bool true, .int .i64 0] 53))
      have HARM : Hid (∀ (w7 : World) (v7 : Value), (w6.alloc (.cells #[.int .u32 (t : Int), .int .i64 owner, .bool true, .int .i64 0] 53)).grownBy w7 (Value.slice B ln m).ownBlock →
          w7.heap[xb]? = some (.cells #[.int .i64 (c : Int), .slice B ln m] 47 (0, 0)) ∧ w7.cell? ⟨g, o + q, none⟩ = some (.int .u64 (k : Int)) ∧ (∀ i, w7.frozen? ⟨w.heap.size, i, none⟩ = false) ∧ (w7.cell? ⟨w.heap.size, 0, none⟩ = some (.int .u64 0) ∧ w7.cell? ⟨w.heap.size, 1, none⟩ = some (.int .i64 0) ∧ w7.cell? ⟨w.heap.size, 2, none⟩ = some (.int .i64 0)) ∧ Ch w w7 (fun g => (Value.slice B ln m).ownBlock = some g)) := Lib.hid (by
        intro w7 v7 hg7
        have cA : Ch w6 w7 (fun g => (Value.slice B ln m).ownBlock = some g) := ((Ch.refl w6 _).alloc _).grown hg7 fun q e _ => e
        have hbk := (HB5.out.block _ (Array.getElem?_eq_some_iff.1 HBK.out).1).trans HBK.out
        have hnw : ¬ (Value.slice B ln m).ownBlock = some w.heap.size := fun e => by have := HVL.out _ e; omega
        have hbk7 := (cA.block _ (Array.getElem?_eq_some_iff.1 hbk).1 hnw).trans hbk
        obtain ⟨z0, z1, z2⟩ := HTN.out
        refine ⟨(cA.block xb HR5.out.lt HR5.out.far).trans HR5.out.blk, cA.cell ck5 (HA2.out g o rfl), fun i => by simp [World.frozen?, hbk7], ⟨?_, ?_, ?_⟩, (Ch.of_below _ (HB.out.trans (HB5.out.mono HB.out.size))).then_ cA⟩
        · exact cA.cell ((HB5.out.cell (World.block_lt_of_cell? _ _ z0)).trans z0) hnw
        · exact cA.cell ((HB5.out.cell (World.block_lt_of_cell? _ _ z1)).trans z1) hnw
        · exact cA.cell ((HB5.out.cell (World.block_lt_of_cell? _ _ z2)).trans z2) hnw)
      have HGX := Lib.hid (HA1.out g o rfl)
      have HXW : Hid (xb ≠ w.heap.size) := Lib.hid (by have := HXL.out; omega)
      clear ck5
      go_wp2_with (first | (at_builtin; refine wpList_appE rfl _ _ 45 53 rfl Tryd.underlying45 infoREn 0 _ _ _ rfl HO4.out (Nat.zero_le _) _ ⟨t, owner, true, 0⟩ rfl HCE.out HU.out ?_; intro v7 w7 ho7 hg7 hx7; obtain ⟨A7, c7, rfl, hc7, hm7⟩ := own4_slice ho7; obtain ⟨hblk, ck7, fz7, ⟨z0, z1, z2⟩, ch7⟩ := HARM.out w7 (.slice A7 (ln + 1) c7) hg7; have k7 : w7.cell? ⟨xb, 1, none⟩ = some (.slice B ln m) := (by rw [cell_of_row w7 xb 1 _ _ (0, 0) hblk]; rfl); have fx : w7.frozen? ⟨xb, 1, none⟩ = false := (by simp [World.frozen?, hblk]); have f0 := fz7 0; have f1 := fz7 1; have f2 := fz7 2; have HO7 := Lib.hid ho7; have HX7 := Lib.hid hx7; have HBL := Lib.hid hblk; have HC7 := Lib.hid ch7; have hgx := HGX.out; have hxw := HXW.out; have HZ0 := Lib.hid z0; have HZ1 := Lib.hid z1; have HZ2 := Lib.hid z2; clear ho7 hg7 hx7 hblk fz7 ch7 hc7 hm7))
      have hx : (Value.slice A7 (ln + 1) c7).ownBlock = (Value.slice B ln m).ownBlock ∨ (Value.slice A7 (ln + 1) c7).ownBlock = some (w6.alloc (.cells #[.int .u32 (t : Int), .int .i64 owner, .bool true, .int .i64 0] 53)).heap.size := HX7.out
      rw [World.size_alloc] at hx
      have hws := HW1S.out
      have hxl := HXL.out
      have hfar : ∀ g, (Value.slice A7 (ln + 1) c7).ownBlock = some g → (Value.slice B ln m).ownBlock = some g ∨ w.heap.size < g := by
        intro g hg
        rcases hx with hx | hx
        · exact .inl (hx.symm.trans hg)
        · rw [hx] at hg
          injection hg with hg
          exact .inr (by omega)
      have RF := blk_set HBL.out (rl' := rl ++ [⟨t, owner, true, 0⟩]) (by rw [List.length_append, HL.out]; exact HO7.out) (fun e => by
        rcases hfar xb e with h | h
        · exact HR5.out.far h
        · omega)
      have zz : ∀ (i : Nat) (u : Value), w7.cell? ⟨w.heap.size, i, none⟩ = some u → (w7.setCell ⟨xb, 1, none⟩ (.slice A7 (ln + 1) c7)).cell? ⟨w.heap.size, i, none⟩ = some u := fun i u h => (World.cell?_setCell_other _ _ _ _ (by intro e; injection e with e1; omega)).trans h
      refine bodyPost_ret (results_st rfl _ _ w.heap.size (tookV k q 0) _ rfl (took_range (zz 0 _ HZ0.out) (zz 1 _ HZ1.out) (zz 2 _ HZ2.out) k q 0) Tryd.underlying36 rfl zeroTook) rfl ?_
      have hk3 : kt z.toNat = t := by rw [HZK.out, Int.toNat_natCast]; exact HKT.out
      refine ⟨by rw [HZK.out], .slice A7 (ln + 1) c7, ?_, took_ch (m := fun g => g = xb ∨ (Value.slice B ln m).ownBlock = some g) (Ch.setCell (m := fun g => g = xb ∨ (Value.slice B ln m).ownBlock = some g) (HC7.out.mono fun _ _ h => Or.inr h) (p := ⟨xb, 1, none⟩) (fun _ => Or.inl rfl) _) (Nat.le_refl _) _ _ _, fun g hg => (hfar g hg).imp id Nat.le_of_lt⟩
      rw [hk3]
      refine RF.ch (m := fun g => g = w.heap.size) ((((Ch.refl _ (fun g => g = w.heap.size)).setCell (p := ⟨w.heap.size, 0, none⟩) (fun _ => rfl) _).setCell (p := ⟨w.heap.size, 1, none⟩) (fun _ => rfl) _).setCell (p := ⟨w.heap.size, 2, none⟩) (fun _ => rfl) _) (by omega) ?_
      intro g hg he
      subst he
      rcases hfar _ hg with h | h
      · have := HVL.out _ h
        omega
      · omega
end Go.Proofs.YthfblaiocdgkbaaDoor

namespace Go.Proofs.YthfblaiocdgkbaaDoor
set_option linter.unusedVariables false
set_option linter.unusedSimpArgs false
open Go.RowKit Go.ChangeShapes Go.WideShapes Go.Deep

structure Ac where
  kind : Int
  owner : Int
  num : Nat
  adr : Option Addr
  len : Nat
  cap : Nat
  ks : List Int
instance : Inhabited Ac := ⟨⟨0, 0, 0, none, 0, 0, []⟩⟩
def Ac.cells (a : Ac) : List Value := [.int .i64 a.kind, .int .i64 a.owner, .int .u64 (a.num : Int), .slice a.adr a.len a.cap]
/-- Such an act stands: its numbers are of their kinds, its slice holds its keys. -/
structure Ac.Ok (w : World) (a : Ac) : Prop where
  num : a.num < 18446744073709551616
  row : RI .u64 w a.adr a.len a.cap a.ks
  kin : ∀ z ∈ a.ks, 0 ≤ z ∧ z < 18446744073709551616
/-- A slice of n acts. -/
structure Acs (w : World) (A : Option Addr) (n c : Nat) (l : List Ac) : Prop where
  len : l.length = n
  cap : n ≤ c
  max : c ≤ 9223372036854775807
  ok : ∀ x ∈ l, x.Ok w
  mem : 0 < n → ∃ g o, A = some ⟨g, o, none⟩ ∧ ∀ j, j < n → ∀ i, i < 4 → w.cell? ⟨g, o + j * 4 + i, none⟩ = (l.getD j default).cells[i]?
theorem Acs.below {w w' : World} {A : Option Addr} {n c : Nat} {l : List Ac} (h : Acs w A n c l) (b : RowKit.Below w.heap.size w w') : Acs w' A n c l := by
  refine ⟨h.len, h.cap, h.max, fun x hx => ⟨(h.ok x hx).num, (h.ok x hx).row.below b, (h.ok x hx).kin⟩, fun hn => ?_⟩
  obtain ⟨g, o, e, hc⟩ := h.mem hn
  refine ⟨g, o, e, fun j hj i hi => ?_⟩
  have h1 := hc j hj i hi
  have h2 : ∃ u, (l.getD j default).cells[i]? = some u := ⟨_, List.getElem?_eq_getElem (by simpa [Ac.cells] using hi)⟩
  obtain ⟨u, hu⟩ := h2
  rw [hu] at h1 ⊢
  exact (World.cell?_of_block (b.block _ (World.block_lt_of_cell? _ _ h1))).trans h1

section
variable {H : Type} {enc : TypeId × Value → H} {w : World} {base : Nat} {held : Bool}
theorem keys_cell {fuel : Nat} {v : Value} {x : DataW H × List MemPlace} (h : DataW.trod enc Tryd.prog w base (fun _ => true) held fuel 29 [v] = some x) : ∃ A n c l, v = .slice A n c ∧ RI .u64 w A n c l ∧ ∀ z ∈ l, 0 ≤ z ∧ z < 18446744073709551616 := by
  rcases open_ints Tryd.underlying29 Tryd.underlying28 (by kernel_rfl) h with ⟨hcs, _⟩ | ⟨x, l, c, zs, hcs, _, hl, hm, hz, _, hcell, hwz⟩
  · simp at hcs
    subst hcs
    exact ⟨_, _, _, [], rfl, RI.nil_ _ _, by simp⟩
  · simp at hcs
    subst hcs
    obtain ⟨ys, hr, hy⟩ := RI.of_row (w := w) (ys := zs) (.inr ⟨_, rfl, hl, hm, by simpa using hz, hcell, hwz⟩)
    exact ⟨_, _, _, ys, rfl, hr, fun z hz => by have := Go.bounds_u64 (hy z hz); omega⟩
set_option maxRecDepth 8000 in
theorem ac_of_trod {fuel : Nat} {cs : List Value} {x : DataW H × List MemPlace} (hl : cs.length = 4) (h : DataW.trod enc Tryd.prog w base (fun _ => true) held fuel 31 cs = some x) : ∃ a : Ac, a.Ok w ∧ cs = a.cells := by
  obtain ⟨xs, n, _, _, _, hlen, hg⟩ := DataW.trod_struct Tryd.underlying31 h
  have get : ∀ (i : Nat), i < 4 → ∃ y, xs[i]? = some y := fun i hi => ⟨_, List.getElem?_eq_getElem (by rw [hlen]; exact hi)⟩
  match cs, hl with
  | [c0, c1, c2, c3], _ =>
    obtain ⟨y0, e0⟩ := get 0 (by omega)
    have g0 := hg 0 _ rfl
    rw [e0] at g0
    obtain ⟨a0, q0, _, f0⟩ := DataW.trod_int Tryd.underlying3 g0
    obtain rfl : c0 = .int .i64 a0 := by have q : [c0] = _ := q0; injection q
    obtain ⟨y1, e1⟩ := get 1 (by omega)
    have g1 := hg 1 _ rfl
    rw [e1] at g1
    obtain ⟨a1, q1, _, f1⟩ := DataW.trod_int Tryd.underlying3 g1
    obtain rfl : c1 = .int .i64 a1 := by have q : [c1] = _ := q1; injection q
    obtain ⟨y2, e2⟩ := get 2 (by omega)
    have g2 := hg 2 _ rfl
    rw [e2] at g2
    obtain ⟨a2, q2, _, f2⟩ := DataW.trod_int Tryd.underlying28 g2
    obtain rfl : c2 = .int .u64 a2 := by have q : [c2] = _ := q2; injection q
    obtain ⟨y3, e3⟩ := get 3 (by omega)
    have g3 := hg 3 _ rfl
    rw [e3] at g3
    obtain ⟨A, len, cap, ks, q3, r3, z3⟩ := keys_cell (v := c3) g3
    subst q3
    have hb := Go.bounds_u64 f2
    obtain ⟨n2, rfl⟩ := Int.eq_ofNat_of_zero_le hb.1
    exact ⟨⟨a0, a1, n2, A, len, cap, ks⟩, ⟨by simp; omega, r3, z3⟩, rfl⟩
theorem acs_of_trod {fuel : Nat} {A : Option Addr} {n c : Nat} {x : DataW H × List MemPlace} (h : DataW.trod enc Tryd.prog w base (fun _ => true) held fuel 22 [.slice A n c] = some x) : ∃ l, Acs w A n c l := by
  rcases open_slice Tryd.underlying22 h with ⟨hcs, _⟩ | ⟨a, len, cap, m, k, D, Pl, hcs, _, hl, hm, hmm, _, hit⟩
  · simp at hcs
    obtain ⟨rfl, rfl, rfl⟩ := hcs
    exact ⟨[], rfl, Nat.le_refl _, Nat.zero_le _, by simp, fun h => absurd h (by omega)⟩
  · simp at hcs
    obtain ⟨rfl, rfl, rfl⟩ := hcs
    have hm' : m = c := by simpa using hmm
    subst hm'
    rw [show Tryd.prog.cellsOf 31 = 4 from by kernel_rfl] at hit
    have hx : ∀ i, ∃ o : Ac, i < n → o.Ok w ∧ ∀ j, j < 4 → w.cell? ((a.add (i * 4)).add j) = o.cells[j]? := fun i => by
      by_cases hin : i < n
      · obtain ⟨cs', hc', htr⟩ := hit i (by omega)
        obtain ⟨_, hcl, hat⟩ := World.cells?_some hc'
        obtain ⟨o, ok, rfl⟩ := ac_of_trod hcl htr
        exact ⟨o, fun _ => ⟨ok, fun j hj => hat j hj⟩⟩
      · exact ⟨default, fun h => absurd h hin⟩
    obtain ⟨f, hfx⟩ := Classical.axiomOfChoice hx
    refine ⟨(List.range n).map f, by simp, hl, hm, fun o ho => ?_, fun hn => ?_⟩
    · obtain ⟨i, hi', rfl⟩ := List.mem_map.1 ho
      exact (hfx i (List.mem_range.1 hi')).1
    · obtain ⟨b, o, s⟩ := a
      have h0 := (hfx 0 hn).2 0 (by omega)
      have hsn : s = none := by
        have := World.cell?_spot (h0.trans (List.getElem?_eq_getElem (by simp [Ac.cells])))
        simpa [Addr.add] using this
      subst hsn
      refine ⟨b, o, rfl, fun j hj i hi => ?_⟩
      have e : ((List.range n).map f).getD j default = f j := by simp [hj]
      rw [e]
      have k0 := (hfx j hj).2 i hi
      rw [Addr.add_lit, Addr.add_lit] at k0
      exact k0
end
end Go.Proofs.YthfblaiocdgkbaaDoor

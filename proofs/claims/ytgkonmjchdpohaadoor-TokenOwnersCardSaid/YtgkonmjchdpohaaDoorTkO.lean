/- TokenOwners, walked: each token that was taken is found, as its owner's, till it is freed; then nobody's. Condition: the table of constants holds. -/
import Derived.Test.YtgkonmjchdpohaaDoorTkW
namespace Go.Proofs.YtgkonmjchdpohaaDoor
set_option linter.unusedVariables false
set_option linter.unusedSimpArgs false
open Go.RowKit

/-- Block ob is a map that holds the owners of l. -/
structure RO (D : DataW Unit) (l : Ents) : Prop where
  size : Maps.size D = l.length
  has : ∀ k, k < 4294967296 → Maps.has D (tk k) = decide (k ∈ keys l)
  at_ : ∀ p, p ∈ l → ∀ z, D.atKey (tk p.1) z = .lit (.int .i64 p.2.owner)
noncomputable def po : Value → Option (DataW Unit × List MemPlace) := plainElem Tryd.prog 3
def MapO (w : World) (ob : Nat) (l : Ents) : Prop := ∃ (D : DataW Unit) (n : Nat), w.ownsMap Tryd.prog 38 po ob n D ∧ n ≤ 1099511627776 ∧ RO D l

section
variable {w w' : World} {ob : Nat} {l : Ents}
theorem MapO.lt (h : MapO w ob l) : ob < w.heap.size := by
  obtain ⟨D, n, h, _⟩ := h
  exact h.lt
theorem MapO.keep (h : MapO w ob l) (e : w'.heap[ob]? = w.heap[ob]?) : MapO w' ob l := by
  obtain ⟨D, n, ⟨es, cl, hb, rest⟩, r2⟩ := h
  exact ⟨D, n, ⟨es, cl, e.trans hb, rest⟩, r2⟩
theorem MapO.below (h : MapO w ob l) (b : RowKit.Below w.heap.size w w') : MapO w' ob l := h.keep (b.block ob h.lt)
theorem MapO.made (w : World) : MapO (w.alloc (.map #[] 0)) w.heap.size [] :=
  ⟨.map [], 0, World.ownsMap_made w _ _ _, Nat.zero_le _, rfl, fun _ _ => rfl, fun _ h => (by cases h)⟩
end

section
variable {w : World} {ops : Array Oper} {rest : List Oper} {o : Oper} {a : Act} {Q : Exit → Act → World → Prop} {ob : Nat} {l : Ents} {k : Nat}
theorem wpList_putO (hg : o.guard = none) (m x v : Operand) (hop : o.op = Op.mapUpdate 59 m x v) (hm : a.eval m = .map (some ob)) (hM : MapO w ob l) (hl : l.length ≤ 1000) (hk : k < 4294967296) (hx : a.eval x = .int .u32 (k : Int)) (y : Int) (hy : isI y) (hv : a.eval v = .int .i64 y) (hn : k ∉ keys l)
    (hK : ∀ w', MapO w' ob (l ++ [(k, ⟨true, y, 0⟩)]) → w.mapTurned w' ob → wpList Tryd.prog ops Q rest (a.put o.dst undef) w') :
    wpList Tryd.prog ops Q (o :: rest) a w := by
  obtain ⟨D, n, hown, hnn, R⟩ := hM
  have hwf : (Lit.int .i64 y).wf = true := by
    unfold isI at hy
    simp [Lit.wf, IntKind.min, IntKind.max, IntKind.bits, IntKind.signed]
    omega
  have hown2 : w.ownsMap Tryd.prog 38 po ob l.length D := by
    obtain ⟨es, cl, hb, hf, hle, he⟩ := hown
    refine ⟨es, cl, hb, hf, ?_, he⟩
    have hs := R.size
    rw [he] at hs
    simp only [Maps.size, length_sorted, List.length_map, Array.length_toList] at hs
    omega
  refine wpList_mapUpdate_in w hg m x v 59 hop 38 3 keyU Tryd.underlying59 po ob l.length D hm hown2 (by unfold maxLen; omega) (.int .u32 (k : Int)) (.int .i64 y) (tk k) hx hv (keyOfU hk) _ [] (plainElem_int Tryd.underlying3 hwf) fun w' hown' ht => hK w' ⟨_, _, hown', by omega, ?_⟩ ht
  refine ⟨?_, fun j hj => ?_, fun p hp z => ?_⟩
  · rw [Maps.size_put (hown2.tidy keyU), R.has k hk, decide_eq_false hn, R.size]
    simp
  · by_cases e1 : j = k
    · subst e1
      rw [Maps.has_put_same hown2.isMap (isKeyT _)]
      simp [keys]
    · rw [Maps.has_put_other (fun e' => e1 (tk_inj e')), R.has j hj]
      exact decide_eq_decide.2 ⟨fun h => by unfold keys at *; rw [List.map_append]; exact List.mem_append_left _ h, fun h => by
        unfold keys at *
        rw [List.map_append] at h
        rcases List.mem_append.1 h with h | h
        · exact h
        · exact absurd (by simpa using h) e1⟩
  · rcases List.mem_append.1 hp with hp | hp
    · have e1 : p.1 ≠ k := fun e => hn (e ▸ mem_keys hp)
      rw [Maps.atKey_put_other (fun e' => e1 (tk_inj e'))]
      exact R.at_ p hp z
    · simp at hp
      subst hp
      exact Maps.atKey_put_same hown2.isMap (isKeyT _) _ _
theorem wpList_lenO (hg : o.guard = none) (m : Operand) (hop : o.op = Op.call { callee := Callee.builtin Builtin.len, args := #[m], argTypes := #[59] }) (hm : a.eval m = .map (some ob)) (hM : MapO w ob l)
    (hK : wpList Tryd.prog ops Q rest (a.put o.dst (.int .i64 (l.length : Int))) w) :
    wpList Tryd.prog ops Q (o :: rest) a w := by
  obtain ⟨D, n, hown, _, R⟩ := hM
  refine wpList_len_own w hg m 59 hop 38 3 Tryd.underlying59 po ob n D hm hown ?_
  rw [R.size]
  exact hK
end
/-- len(owners), as an equation for the walk. -/
theorem MapO.leng {w : World} {ob : Nat} {l : Ents} (hM : MapO w ob l) (W : World) (hW : W.heap[ob]? = w.heap[ob]?) (ty : TypeId) : (Builtin.len_ #[59] ty #[.map (some ob)]).run Tryd.prog W = .ok (.int .i64 (l.length : Int)) W := by
  obtain ⟨D, n, hown, _, R⟩ := hM.keep hW
  rw [hown.len Tryd.underlying59 ty, R.size]

/-- Block r goes through the owners. -/
def Ro (w : World) (ob r : Nat) (l : Ents) (cnt : Nat) : Prop :=
  ∃ (D : DataW Unit) (n : Nat) (lf : Lit → Bool), w.ranges Tryd.prog 38 po ob r n D lf cnt ∧ n ≤ 1099511627776 ∧ RO D l ∧ ∀ k, lf k = true → Maps.has D k = true

section
variable {w w' : World} {ob r cnt : Nat} {l : Ents}
theorem Ro.left_eq (h : Ro w ob r l cnt) : w.rangeLeft ob r = cnt := by
  obtain ⟨D, n, lf, h, _⟩ := h
  exact h.left_eq
theorem Ro.mapO (h : Ro w ob r l cnt) : MapO w ob l := by
  obtain ⟨D, n, lf, h, hn, R, _⟩ := h
  exact ⟨D, n, h.owns, hn, R⟩
theorem Ro.lt (h : Ro w ob r l cnt) : r < w.heap.size := by
  obtain ⟨D, n, lf, h, _⟩ := h
  exact h.lt
theorem Ro.below (h : Ro w ob r l cnt) (b : RowKit.Below w.heap.size w w') : Ro w' ob r l cnt := by
  obtain ⟨D, n, lf, h, R⟩ := h
  exact ⟨D, n, lf, h.kept (row := none) ⟨b.os, b.tape, b.output, b.size, fun k hk _ => b.block k hk⟩ (by simp) (by simp), R⟩
end
section
variable {w : World} {ops : Array Oper} {rest : List Oper} {o : Oper} {a : Act} {Q : Exit → Act → World → Prop} {ob r cnt : Nat} {l : Ents}
theorem wpList_rangeO (hg : o.guard = none) (m : Operand) (hop : o.op = Op.range 59 m) (hm : a.eval m = .map (some ob)) (hM : MapO w ob l)
    (hK : ∀ w', Ro w' ob w.heap.size l l.length → RowKit.Below w.heap.size w w' → w'.heap.size = w.heap.size + 1 → wpList Tryd.prog ops Q rest (a.put o.dst (.pointer (some ⟨w.heap.size, 0, none⟩))) w') :
    wpList Tryd.prog ops Q (o :: rest) a w := by
  obtain ⟨D, n, hown, hn, R⟩ := hM
  refine wpList_range_own w hg m 59 hop 38 3 keyU Tryd.underlying59 po ob _ D hm hown fun w' h1 h2 h3 => hK w' ?_ ⟨h2.os, h2.tape, h2.output, h2.size, fun k hk => h2.block k hk (by simp)⟩ h3
  exact ⟨D, _, Maps.has D, by rw [← R.size]; exact h1, hn, R, fun _ h => h⟩
theorem wpList_nextO (hg : o.guard = none) (it : Operand) (hop : o.op = Op.next it false) (hit : a.eval it = .pointer (some ⟨r, 0, none⟩)) (h : Ro w ob r l cnt)
    (hDone : cnt = 0 → wpList Tryd.prog ops Q rest (a.put o.dst (.tuple #[.bool false])) w)
    (hMore : ∀ (k : Nat) (e : Ent) (w' : World) (cnt' : Nat), k < 4294967296 → (k, e) ∈ l → Ro w' ob r l cnt' → cnt' < cnt → w.grownBy w' (some r) → w'.heap.size = w.heap.size →
      (Instr.entry (.pointer (some ⟨r, 0, none⟩))).run Tryd.prog w' = .ok (.tuple #[.int .u32 (k : Int), .int .i64 e.owner]) w' →
      wpList Tryd.prog ops Q rest (a.put o.dst (.tuple #[.bool true, .int .u32 (k : Int), .int .i64 e.owner])) w') :
    wpList Tryd.prog ops Q (o :: rest) a w := by
  obtain ⟨D, n, lf, hr, hn, R, hlf⟩ := h
  refine wpList_next_ranges_ii w hg it hop 38 3 .u32 .i64 keyU Tryd.underlying38 Tryd.underlying3 ob r n D lf cnt hit hr (fun h0 _ => hDone h0) fun x c w' cnt' hwx hwc hlk hat hrg hlt hgr hsz hen => ?_
  have hb := Go.bounds_u32 hwx
  obtain ⟨k, rfl⟩ := Int.eq_ofNat_of_zero_le hb.1
  have hk : k < 4294967296 := by omega
  have hin : k ∈ keys l := by
    have h1 := hlf _ hlk
    change Maps.has D (tk k) = true at h1
    rw [R.has k hk] at h1
    simpa using h1
  obtain ⟨p, hp, hpk⟩ := List.mem_map.1 hin
  have hce : p.2.owner = c := by
    have h1 := R.at_ p hp .nil
    rw [hpk] at h1
    have h2 := hat .nil
    change D.atKey (tk k) .nil = _ at h2
    rw [h1] at h2
    injection h2 with h2
    injection h2 with _ h2
  subst hce
  have hmem : (k, p.2) ∈ l := by
    rw [← hpk]
    exact hp
  refine hMore k p.2 w' cnt' hk hmem ⟨D, n, _, hrg, hn, R, fun j hj => ?_⟩ hlt hgr hsz hen
  simp only [Bool.and_eq_true] at hj
  exact hlf j hj.1
end

theorem Ts.other {W w w' : World} {tb mb c : Nat} {l : Ents} {ob : Nat} (h : Ts W w tb mb c l) (k : Ch w w' (fun g => g = ob)) (h1 : W.heap.size ≤ ob) (h2 : mb ≠ ob) (h3 : tb ≠ ob) : Ts W w' tb mb c l :=
  ⟨h.t.ch k h3 h2, h.tab.far (row := some ob) ⟨k.os, k.tape, k.output, k.size, fun j hj hne => k.block j hj fun e => hne (by rw [e])⟩ (fun e => by
    injection e with e
    have := h.far
    omega), h.bel.trans ⟨k.os, k.tape, k.output, k.size, fun j hj => k.block j (Nat.lt_of_lt_of_le hj h.bel.size) fun e => by omega⟩, h.new, h.far⟩

/-- Behind the first j keys: the table, and the owners. -/
structure Ow (W w : World) (tb mb ob : Nat) (l : Ents) (zs : List Int) (j : Nat) : Prop where
  s : Ts W w tb mb 64 l
  o : MapO w ob l
  new : W.heap.size ≤ ob
  n1 : mb ≠ ob
  n2 : tb ≠ ob
  len : l.length ≤ j
  all : Ahead l zs j
  live : ∀ p, p ∈ l → p.2.live = true ∧ p.2.freed = 0
section
variable {W w w' : World} {tb mb ob j : Nat} {l : Ents} {zs : List Int}
theorem Ow.below (h : Ow W w tb mb ob l zs j) (b : RowKit.Below w.heap.size w w') : Ow W w' tb mb ob l zs j := ⟨h.s.below b, h.o.below b, h.new, h.n1, h.n2, h.len, h.all, h.live⟩
theorem Ow.skip (h : Ow W w tb mb ob l zs j) (hk : kt (zs.getD j 0).toNat ∈ keys l) : Ow W w tb mb ob l zs (j + 1) :=
  ⟨h.s, h.o, h.new, h.n1, h.n2, Nat.le_succ_of_le h.len, fun i hi => by
    rcases Nat.lt_or_ge i j with h1 | h1
    · exact h.all i h1
    · obtain rfl : i = j := by omega
      exact hk, h.live⟩
theorem Ow.fnd (h : Ow W w tb mb ob l zs j) {k : Nat} {e : Ent} (hm : (k, e) ∈ l) : fnd l k = some e := fnd_mem h.s.t.map.nd hm
end

set_option maxRecDepth 20000 in
set_option maxHeartbeats 3200000 in
theorem Owners_any (A : Option Addr) (n cc : Nat) (zs : List Int) (x : Nat) (W : World) (hr : RI .u64 W A n cc zs) (hz : ∀ z ∈ zs, (Lit.int .u64 z).wf = true) (hx : x < 256) (hT : Tab W) :
    Calls Tryd.prog 7 #[.slice A n cc, .int .u8 (x : Int)] W (Held W) := by
  have HW := Lib.hid (wakes_any W hT)
  have HT := Lib.hid hT
  have HR := Lib.hid hr
  have hzl := hr.len
  have hcap := hr.cap
  have hmax := hr.max
  have HZ : Hid (∀ j, j < n → ∃ k : Nat, zs.getD j 0 = k ∧ k < 18446744073709551616) := Lib.hid (fun j hj => by
    have hm : zs.getD j 0 ∈ zs := by
      rw [List.getD_eq_getElem?_getD, List.getElem?_eq_getElem (by omega)]
      exact List.getElem_mem _
    have hb := Go.bounds_u64 (hz _ hm)
    exact ⟨(zs.getD j 0).toNat, by omega, by omega⟩)
  clear hT hr hz
  by_cases hn : 20 < n
  · go_enter Tryd.func7, Tryd.ntmps7
    go_wp2_with fail
    refine (HW.out).mono ?_
    rintro e w0 ⟨rfl, b0⟩
    go_wp2_with fail
    go_ret
    exact ⟨rfl, b0⟩
  · have hmm := @run_makeMap Tryd.prog
    go_enter Tryd.func7, Tryd.ntmps7
    go_wp2_with fail
    refine (HW.out).mono ?_
    rintro e w0 ⟨rfl, b0⟩
    have HN := Lib.hid (tnew_any 64 (by unfold isI; omega) w0)
    rw [show cp 64 = 64 from rfl] at HN
    have HB := Lib.hid b0
    clear b0 HW
    go_wp2_with fail
    refine (HN.out).mono ?_
    rintro e w1 ⟨tb, mb, rfl, T1, b1, htb, hm1⟩
    have S1 := Ts.new_ HT.out HB.out T1 b1 hm1
    have HO : Hid (Ow W (w1.alloc (.map #[] 0)) tb mb w1.heap.size [] zs 0) := Lib.hid ⟨S1.alloc _, MapO.made w1, S1.bel.size, Nat.ne_of_lt S1.t.map.lt, Nat.ne_of_lt S1.t.lt, Nat.le_refl _, fun i hi => absurd hi (by omega), fun p hp => (by cases hp)⟩
    clear T1 b1 hm1 htb HN HB S1
    unfold ptr
    go_wp2_with fail
    clear hmm
    generalize w1.alloc (.map #[] 0) = w2 at *
    generalize w1.heap.size = ob at *
    go_loopw [28] (fun ix wr => ∃ (j : Nat) (l : Ents), j ≤ n ∧ ix = .int .i64 (j : Int) ∧ Ow W wr tb mb ob l zs j) (fun ix _ => n - (intOf ix).toNat)
    case atStart => exact ⟨0, [], Nat.zero_le _, rfl, HO.out⟩
    case round =>
      clear HO
      obtain ⟨j, l, hj, rfl, O⟩ := hrel
      have HO := Lib.hid O
      by_cases hjn : j < n
      · obtain ⟨g, o, rfl, ck⟩ := (HR.out.below O.s.bel).at_ hjn
        obtain ⟨k, hk, hkl⟩ := HZ.out j hjn
        rw [hk] at ck
        have HK := Lib.hid hk
        have HKL := Lib.hid hkl
        have HKT := Lib.hid (kt_lt k)
        have hfit : l.length < 64 := by have := O.len; omega
        have hl20 : l.length ≤ 20 := by have := O.len; omega
        by_cases hin : kt k ∈ keys l
        · have HT1 := Lib.hid (take1_none (owner := (j : Int) + 1) O.s.t O.s.tab hfit hkl hin)
          have HIN := Lib.hid hin
          clear O hk hkl hin hfit hl20
          unfold ptr at HT1
          go_wp2_with fail
          refine (HT1.out).mono ?_
          rintro e w3 ⟨rfl, b3⟩
          have HO3 := Lib.hid ((HO.out.below b3).skip (by rw [HK.out, Int.toNat_natCast]; exact HIN.out))
          clear b3 HT1
          go_wp2_with fail
          go_roundw
          case rel => exact ⟨j + 1, l, by omega, by go_num, HO3.out⟩
          case measure => simp [intOf]; omega
        · have HT1 := Lib.hid (take1_hit (owner := (j : Int) + 1) O.s.t O.s.tab hfit hkl hin)
          have HIN := Lib.hid hin
          have HL1 : Hid (l.length ≤ 1000) := Lib.hid (by omega)
          have HY : Hid (isI ((j : Int) + 1)) := Lib.hid (by unfold isI; omega)
          clear O hk hkl hin hfit hl20
          unfold ptr at HT1
          go_wp2_with fail
          refine (HT1.out).mono ?_
          rintro e w3 ⟨rfl, T3, c3⟩
          have S3 := HO.out.s.turn T3 c3
          have HM3 := Lib.hid (HO.out.o.keep (c3.block ob HO.out.o.lt (fun e => HO.out.n1 e.symm)))
          have HTK := Lib.hid (token_any k w3 HKL.out S3.tab)
          have HS3 := Lib.hid S3
          clear S3 T3 c3 HT1
          go_wp2_with fail
          refine (HTK.out).mono ?_
          rintro e w4 ⟨rfl, b4⟩
          have HS4 := Lib.hid (HS3.out.below b4)
          have HM4 := Lib.hid (HM3.out.below b4)
          clear b4 HTK
          go_wp2_with (first | (at_mapUpdate; refine wpList_putO rfl _ _ _ rfl rfl HM4.out HL1.out HKT.out rfl ((j : Int) + 1) HY.out rfl HIN.out ?_; intro w5 M5 tu))
          have c5 := (Ch.refl w4 (fun g => g = ob)).turned tu fun _ => rfl
          have HO5 : Hid (Ow W w5 tb mb ob (l ++ [(kt k, ⟨true, (j : Int) + 1, 0⟩)]) zs (j + 1)) := Lib.hid ⟨HS4.out.other c5 HO.out.new HO.out.n1 HO.out.n2, M5, HO.out.new, HO.out.n1, HO.out.n2, by rw [List.length_append]; have := HO.out.len; simp; omega, fun i hi => by
            unfold keys
            rw [List.map_append]
            rcases Nat.lt_or_ge i j with h1 | h1
            · exact List.mem_append_left _ (HO.out.all i h1)
            · obtain rfl : i = j := by omega
              rw [HK.out, Int.toNat_natCast]
              exact List.mem_append_right _ (by simp), fun p hp => by
            rcases List.mem_append.1 hp with hp | hp
            · exact HO.out.live p hp
            · simp at hp
              subst hp
              exact ⟨rfl, rfl⟩⟩
          clear c5 M5 tu
          go_roundw
          case rel => exact ⟨j + 1, _, by omega, by go_num, HO5.out⟩
          case measure => simp [intOf]; omega
      · obtain rfl : j = n := by omega
        clear O
        go_wp2_with (first | (at_range; refine wpList_rangeO rfl _ rfl rfl HO.out.o ?_; intro w3 R3 b3 s3))
        go_frame
        have HS : Hid (Ow W w3 tb mb ob l zs j) := Lib.hid (HO.out.below b3)
        have HR3 := Lib.hid R3
        have hws := HO.out.s.bel.size
        have hb1 := HO.out.s.t.map.lt
        have hb2 := HO.out.s.t.lt
        have hb3 := HO.out.o.lt
        clear b3 s3 R3 HO
        generalize wr.heap.size = rb at *
        go_loopw [53] (fun _ wz => ∃ cnt, Ro wz ob rb l cnt ∧ Ow W wz tb mb ob l zs j) (fun _ wz => wz.rangeLeft ob rb)
        case atStart => exact ⟨_, HR3.out, HS.out⟩
        case round =>
          clear HR3 HS
          obtain ⟨cnt, R, O⟩ := hrel
          have HO := Lib.hid O
          have HRG := Lib.hid R
          clear R O
          go_wp2_with (first | (at_next; refine wpList_nextO rfl _ rfl rfl HRG.out ?_ ?_))
          · intro _
            by_cases hn0 : j = 0
            · subst hn0
              have HL0 : Hid (l.length = 0) := Lib.hid (by have := HO.out.len; omega)
              have HTA := Lib.hid (tall_any HO.out.s.t (fun p hp => by rw [(HO.out.live p hp).2]; unfold isI; omega))
              unfold ptr at HTA
              go_wp2_with fail
              refine (HTA.out).mono ?_
              rintro e w5 ⟨v5, out, rfl, er, td, b5⟩
              have hol := td.length HO.out.s.t.map.nd
              rw [HL0.out] at hol
              obtain ⟨A5, c5, rfl, _⟩ := er
              rw [hol]
              have HB5 := Lib.hid (HO.out.s.bel.trans (b5.mono HO.out.s.bel.size))
              clear td b5 hol
              go_wp2_with fail
              go_ret
              exact ⟨rfl, HB5.out⟩
            · have hq0 : ((j : Int) == 0) = false := by simpa using hn0
              obtain ⟨m, hm⟩ : ∃ m : Nat, m = x % j := ⟨_, rfl⟩
              have hmj : m < j := by rw [hm]; exact Nat.mod_lt _ (by omega)
              have hme : (x : Int) % (j : Int) = (m : Int) := by rw [hm]; omega
              have hmt : (x : Int).tmod (j : Int) = (m : Int) := by rw [Int.tmod_eq_emod_of_nonneg (by omega)]; exact hme
              obtain ⟨g, o, rfl, ck⟩ := (HR.out.below HO.out.s.bel).at_ hmj
              obtain ⟨k, hk, hkl⟩ := HZ.out m hmj
              rw [hk] at ck
              have hin := HO.out.all m hmj
              rw [hk, Int.toNat_natCast] at hin
              have HKT := Lib.hid (kt_lt k)
              have HTK := Lib.hid (token_any k wr hkl HO.out.s.tab)
              obtain ⟨e, he⟩ : ∃ e, fnd l (kt k) = some e := by
                cases hf : fnd l (kt k) with
                | none => exact absurd hin (fnd_none.1 hf)
                | some e => exact ⟨e, rfl⟩
              have hlv := (HO.out.live _ (fnd_some he)).1
              have HE := Lib.hid he
              have HLV := Lib.hid hlv
              have HU2 : Hid (fnd (upd l (kt k) ⟨false, 0, 3⟩) (kt k) = some ⟨false, 0, 3⟩) := Lib.hid (fnd_mem (by rw [keys_upd]; exact HO.out.s.t.map.nd) (by
                unfold upd
                exact List.mem_map.2 ⟨_, fnd_some he, by simp⟩))
              have HUL : Hid ((upd l (kt k) ⟨false, 0, 3⟩).length = l.length) := Lib.hid (by unfold upd; rw [List.length_map])
              have HUF : Hid (∀ p ∈ upd l (kt k) ⟨false, 0, 3⟩, isI p.2.freed) := Lib.hid (fun p hp => by
                rcases mem_upd hp with ⟨_, h2⟩ | ⟨_, h2⟩
                · rw [h2]
                  show isI 3
                  unfold isI
                  omega
                · rw [(HO.out.live p h2).2]
                  unfold isI
                  omega)
              clear hm hk hkl hin he hlv
              generalize hl2 : upd l (kt k) ⟨false, 0, 3⟩ = l2 at *
              have HL2 := Lib.hid hl2
              clear hl2
              go_wp2_with fail
              refine (HTK.out).mono ?_
              rintro e1 w5 ⟨rfl, b5⟩
              have HO5 := Lib.hid (HO.out.below b5)
              clear b5 HTK
              have hfr := tfree_yes HO5.out.s.t HKT.out (by rw [HE.out]; exact HLV.out) 3
              rw [HL2.out] at hfr
              have HFR := Lib.hid hfr
              clear hfr
              unfold ptr at HFR
              go_wp2_with fail
              refine (HFR.out).mono ?_
              rintro e1 w6 ⟨rfl, T6, c6⟩
              have S6 := HO5.out.s.turn T6 c6
              have HM6 := Lib.hid (HO5.out.o.keep (c6.block ob HO5.out.o.lt (fun e => HO5.out.n1 e.symm)))
              have HFD := tfind_any S6.t HKT.out
              rw [HU2.out] at HFD
              dsimp only [Option.getD] at HFD
              have HF2 := Lib.hid HFD
              have HS6 := Lib.hid S6
              clear T6 c6 S6 HFD HFR
              unfold ptr at HF2
              go_wp2_with fail
              refine (HF2.out).mono ?_
              rintro e1 w7 ⟨rfl, b7⟩
              have HS7 := Lib.hid (HS6.out.below b7)
              have HM7 := Lib.hid (HM6.out.below b7)
              clear b7 HF2
              have HTA := Lib.hid (tall_any HS7.out.t HUF.out)
              unfold ptr at HTA
              go_wp2_with fail
              refine (HTA.out).mono ?_
              rintro e1 w8 ⟨v8, out, rfl, er, td, b8⟩
              have hol := td.length HS7.out.t.map.nd
              rw [HUL.out] at hol
              obtain ⟨A5, c5, rfl, _⟩ := er
              rw [hol]
              have hlen := fun (ty : TypeId) => (HM7.out.below b8).leng w8 rfl ty
              have HB8 := Lib.hid (HS7.out.bel.trans (b8.mono HS7.out.bel.size))
              clear td b8 hol
              generalize l.length = ll at *
              go_wp2_with fail
              go_ret
              exact ⟨rfl, HB8.out⟩
          · intro k e w5 cnt5 hk hin R5 hlt g5 s5 hen
            have hlt2 := HRG.out.left_eq
            have HR0 := Lib.hid hlt2
            have c5 : Ch wr w5 (fun q => q = rb) := (Ch.refl _ _).grown g5 fun q e _ => by injection e with e; exact e.symm
            have HO5 : Hid (Ow W w5 tb mb ob l zs j) := Lib.hid ⟨HO.out.s.other c5 hws (by omega) (by omega), HO.out.o.keep (c5.block ob HO.out.o.lt (by omega)), HO.out.new, HO.out.n1, HO.out.n2, HO.out.len, HO.out.all, HO.out.live⟩
            have HFD := Lib.hid (tfind_any HO5.out.s.t hk)
            have hff := HO5.out.fnd hin
            have hlv := (HO5.out.live _ hin).1
            rw [hff] at HFD
            obtain ⟨lv, ow, fr⟩ := e
            dsimp only [Option.getD] at HFD hlv hen
            subst hlv
            have HR5 := Lib.hid R5
            clear hff hlt2 c5 g5 R5 hk hin
            unfold ptr at HFD
            go_wp2_with fail
            refine (HFD.out).mono ?_
            rintro e1 w6 ⟨rfl, b6⟩
            have HO6 := Lib.hid (HO5.out.below b6)
            have HR6 := Lib.hid (HR5.out.below b6)
            clear b6 HFD
            go_wp2_with fail
            go_roundw
            case rel => exact ⟨cnt5, HR6.out, HO6.out⟩
            case measure =>
              rw [HR6.out.left_eq, HR0.out]
              exact hlt
end Go.Proofs.YtgkonmjchdpohaaDoor

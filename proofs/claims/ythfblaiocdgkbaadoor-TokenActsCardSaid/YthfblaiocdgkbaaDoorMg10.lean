/- The document's table: a capacity and one list; its New, at, Has. Condition: the list has at most 64 entries.
The document's table: its Has, Tick. Condition: the list has at most 64 entries, no two of one token.
The document's table: its Free. Condition: the list has at most 64 entries, no two of one token. -/
import Derived.Test.YthfblaiocdgkbaaDoorMg8
import Derived.Test.YthfblaiocdgkbaaDoorMg9
namespace Go.Proofs.YthfblaiocdgkbaaDoor
set_option linter.unusedVariables false
set_option linter.unusedSimpArgs false
open Go.RowKit

/-- At block xb the document's table stands, with room for c entries, and the list rl, whose row is v. -/
structure Rt (w : World) (xb c : Nat) (v : Value) (rl : List En) : Prop where
  blk : w.heap[xb]? = some (.cells #[.int .i64 (c : Int), v] 47 (0, 0))
  row : w.ownsRow 0 53 4 v rl.length (ecs rl)
  far : v.ownBlock ≠ some xb

section
variable {w w' : World} {xb c : Nat} {v : Value} {rl : List En} {base : Nat} {e : TypeId}
theorem Rt.lt (h : Rt w xb c v rl) : xb < w.heap.size := (Array.getElem?_eq_some_iff.1 h.blk).1
theorem Rt.c0 (h : Rt w xb c v rl) : w.cell? ⟨xb, 0, none⟩ = some (.int .i64 (c : Int)) := by rw [cell_of_row w xb 0 _ _ (0, 0) h.blk]; rfl
theorem Rt.c1 (h : Rt w xb c v rl) : w.cell? ⟨xb, 1, none⟩ = some v := by rw [cell_of_row w xb 1 _ _ (0, 0) h.blk]; rfl
theorem Rt.fz (h : Rt w xb c v rl) (j : Nat) : w.frozen? ⟨xb, j, none⟩ = false := by simp [World.frozen?, show w.heap[xb]? = _ from h.blk]
theorem Rt.ch (h : Rt w xb c v rl) {m : Nat → Prop} (k : Ch w w' m) (hx : ¬ m xb) (hv : ∀ g, v.ownBlock = some g → ¬ m g) : Rt w' xb c v rl :=
  ⟨(k.block xb h.lt hx).trans h.blk, own_ch2 h.row k hv, h.far⟩
theorem Rt.below (h : Rt w xb c v rl) (b : RowKit.Below w.heap.size w w') : Rt w' xb c v rl := h.ch (Ch.of_below (fun _ => False) b) (fun e => e) fun _ _ e => e
theorem own4_slice {k : Nat} {xs : List Value} (h : w.ownsRow base e 4 v k xs) : ∃ A n, v = .slice A k n ∧ k ≤ n ∧ n ≤ 9223372036854775807 := by
  rcases h.2 with ⟨rfl, rfl⟩ | ⟨g, cap, cur, rfl, _, hg, h1, h2, _⟩
  · exact ⟨none, 0, rfl, Nat.le_refl _, by omega⟩
  · exact ⟨_, cap, rfl, h1, by unfold maxLen at h2; omega⟩
theorem own4_cells {A : Option Addr} {n : Nat} (h : w.ownsRow base e 4 (.slice A rl.length n) rl.length (ecs rl)) {j : Nat} (hj : j < rl.length) :
    ∃ g, A = some ⟨g, 0, none⟩ ∧ w.cell? ⟨g, j * 4, none⟩ = some (.int .u32 ((rl.getD j default).tok : Int)) ∧ w.cell? ⟨g, j * 4 + 1, none⟩ = some (.int .i64 (rl.getD j default).owner) ∧ w.cell? ⟨g, j * 4 + 2, none⟩ = some (.bool (rl.getD j default).live) ∧ w.cell? ⟨g, j * 4 + 3, none⟩ = some (.int .i64 (rl.getD j default).upto) ∧ (∀ i, w.frozen? ⟨g, i, none⟩ = false) := by
  have h0 := h
  rcases h.2 with ⟨_, h2⟩ | ⟨g, cap, cur, hv, hb, hg, _⟩
  · omega
  · injection hv with hv _ _
    have key : ∀ i, i < 4 → w.cell? ⟨g, j * 4 + i, none⟩ = (rl.getD j default).cells[i]? := fun i hi => by
      subst hv
      rw [World.ownsRow.cellAt h0 (j * 4 + i) (by omega), ecs_at rl (j * 4 + i) (by omega)]
      rw [show (j * 4 + i) / 4 = j from by omega, show (j * 4 + i) % 4 = i from by omega]
    exact ⟨g, hv, key 0 (by omega), key 1 (by omega), key 2 (by omega), key 3 (by omega), fun i => by simp [World.frozen?, hg]⟩
theorem own4_zero {k : Nat} {xs : List Value} (h : w.ownsRow base e 4 v k xs) : w.ownsRow 0 e 4 v k xs := by
  refine ⟨h.1, ?_⟩
  rcases h.2 with hn | ⟨g, cap, cur, hv, hb, rest⟩
  · exact .inl hn
  · exact .inr ⟨g, cap, cur, hv, Nat.zero_le _, rest⟩
theorem Rt.set (h : Rt w xb c v rl) {v' : Value} {rl' : List En} (hr : w.ownsRow 0 53 4 v' rl'.length (ecs rl')) (hf : v'.ownBlock ≠ some xb) : Rt (w.setCell ⟨xb, 1, none⟩ v') xb c v' rl' := by
  refine ⟨?_, ?_, hf⟩
  · have := h.blk
    simp [World.setCell, Array.getElem?_modify, this]
  · refine ⟨hr.1, ?_⟩
    rcases hr.2 with hn | ⟨g, cap, cur, hv, hb, hg, rest⟩
    · exact .inl hn
    · exact .inr ⟨g, cap, cur, hv, hb, (Below.heap_setCell w ⟨xb, 1, none⟩ v' g (fun e => hf (by rw [hv]; exact congrArg some e))).trans hg, rest⟩
theorem Rt.new (w : World) (c : Nat) : Rt (w.alloc (.cells #[.int .i64 (c : Int), .slice none 0 0] 47)) w.heap.size c (.slice none 0 0) [] :=
  ⟨heap_alloc_new w _, World.ownsRow_nil _ _ _ _, fun e => by cases e⟩
end

set_option maxHeartbeats 1600000 in
theorem rnew_any (t : Int) (ht : isI t) (w : World) : Calls Tryd.prog 10 #[.int .i64 t] w fun e w' => ∃ xb, e = .returned (ptr xb) ∧ Rt w' xb (cp t) (.slice none 0 0) [] ∧ RowKit.Below w.heap.size w w' ∧ w.heap.size ≤ xb := by
  have key : ∀ m : Nat, m = cp t → ∃ xb, Ending.returned (ptr w.heap.size) = .returned (ptr xb) ∧ Rt (w.alloc (.cells #[.int .i64 (m : Int), .slice none 0 0] 47)) xb (cp t) (.slice none 0 0) [] ∧ RowKit.Below w.heap.size w (w.alloc (.cells #[.int .i64 (m : Int), .slice none 0 0] 47)) ∧ w.heap.size ≤ xb :=
    fun m e => ⟨_, rfl, e ▸ Rt.new w m, (RowKit.Below.refl _ _).alloc (Nat.le_refl _) _, Nat.le_refl _⟩
  have HK := Lib.hid key
  clear key
  unfold isI at ht
  by_cases h1 : t < 1
  · go_enter Tryd.func10, Tryd.ntmps10
    go_wp2_with fail
    go_ret
    exact HK.out 1 (by unfold cp; omega)
  · by_cases h2 : 64 < t
    · go_enter Tryd.func10, Tryd.ntmps10
      go_wp2_with fail
      go_ret
      exact HK.out 64 (by unfold cp; omega)
    · obtain ⟨m, rfl⟩ : ∃ m : Nat, t = m := ⟨t.toNat, by omega⟩
      go_enter Tryd.func10, Tryd.ntmps10
      go_wp2_with fail
      go_ret
      exact HK.out m (by unfold cp; omega)

/-- Where a token stands in a list: -1, or the first place. -/
def AtR (rl : List En) (k : Nat) (r : Int) : Prop := (r = -1 ∧ ∀ i, i < rl.length → (rl.getD i default).tok ≠ k) ∨ ∃ j : Nat, r = j ∧ j < rl.length ∧ (rl.getD j default).tok = k ∧ ∀ i, i < j → (rl.getD i default).tok ≠ k

set_option maxRecDepth 20000 in
set_option maxHeartbeats 1600000 in
theorem rat_any {w : World} {xb c : Nat} {v : Value} {rl : List En} (R : Rt w xb c v rl) (hU : rl.length ≤ 1099511627776) (k : Nat) :
    Calls Tryd.prog 22 #[ptr xb, .int .u32 (k : Int)] w fun e w' => ∃ r : Int, e = .returned (.int .i64 r) ∧ w' = w ∧ AtR rl k r := by
  obtain ⟨A, n, rfl, hn1, hn2⟩ := own4_slice R.row
  have c1 := R.c1
  have HR := Lib.hid R
  clear R
  generalize hln : rl.length = ln at *
  have HL := Lib.hid hln
  clear hln
  unfold ptr
  go_enter Tryd.func22, Tryd.ntmps22
  go_wp2_with fail
  go_loopw [5] (fun ix wr => ∃ q : Nat, q ≤ ln ∧ ix = .int .i64 (q : Int) ∧ wr = w ∧ ∀ i, i < q → (rl.getD i default).tok ≠ k) (fun ix _ => ln - (intOf ix).toNat)
  case atStart => exact ⟨0, Nat.zero_le _, rfl, rfl, fun i hi => absurd hi (by omega)⟩
  case round =>
    obtain ⟨q, hq, rfl, rfl, hah⟩ := hrel
    have HA := Lib.hid hah
    clear hah
    by_cases hqn : q < ln
    · have hrw := HR.out.row
      rw [← HL.out] at hrw
      obtain ⟨g, rfl, x0, _⟩ := own4_cells hrw (by rw [HL.out]; exact hqn)
      clear hrw
      by_cases he : (rl.getD q default).tok = k
      · have HE := Lib.hid he
        rw [he] at x0
        clear he
        go_wp2_with fail
        go_ret
        exact ⟨q, rfl, rfl, .inr ⟨q, rfl, by rw [HL.out]; exact hqn, HE.out, HA.out⟩⟩
      · have HE := Lib.hid he
        have hne : (((rl.getD q default).tok : Int) == (k : Int)) = false := by
          have : ((rl.getD q default).tok : Int) ≠ (k : Int) := fun h => he (Int.ofNat.inj h)
          simpa using this
        clear he
        generalize htk : (rl.getD q default).tok = t at *
        have HTK := Lib.hid htk
        clear htk
        go_wp2_with fail
        go_roundw
        case rel => exact ⟨q + 1, by omega, by go_num, by first | rfl | trivial, fun i hi => by
          rcases Nat.lt_or_ge i q with h1 | h1
          · exact HA.out i h1
          · obtain rfl : i = q := by omega
            exact fun e => HE.out (by rw [← HTK.out]; exact e)⟩
        case measure => simp [intOf]; omega
    · obtain rfl : q = ln := by omega
      go_wp2_with fail
      go_ret
      exact ⟨-1, rfl, rfl, .inl ⟨rfl, fun i hi => HA.out i (by rw [← HL.out]; exact hi)⟩⟩

end Go.Proofs.YthfblaiocdgkbaaDoor

namespace Go.Proofs.YthfblaiocdgkbaaDoor
set_option linter.unusedVariables false
set_option linter.unusedSimpArgs false
open Go.RowKit

theorem AtR.of_mem {rl : List En} {k : Nat} {r : Int} (h : AtR rl k r) (hd : (rl.map En.tok).Nodup) {x : En} (hx : x ∈ rl) (hk : x.tok = k) : ∃ j : Nat, r = j ∧ j < rl.length ∧ rl.getD j default = x := by
  obtain ⟨i, hi, rfl⟩ := List.getElem_of_mem hx
  have hg : rl.getD i default = rl[i] := by rw [List.getD_eq_getElem?_getD, List.getElem?_eq_getElem hi]; rfl
  rcases h with ⟨_, hn⟩ | ⟨j, hr, hj, ht, _⟩
  · exact absurd (by rw [hg]; exact hk) (hn i hi)
  · refine ⟨j, hr, hj, ?_⟩
    have hgj : rl.getD j default = rl[j] := by rw [List.getD_eq_getElem?_getD, List.getElem?_eq_getElem hj]; rfl
    have e : i = j := by
      rw [List.Nodup, List.pairwise_iff_getElem] at hd
      rcases Nat.lt_trichotomy i j with h1 | h1 | h1
      · have h2 := hd i j (by simpa using hi) (by simpa using hj) h1
        rw [List.getElem_map, List.getElem_map, ← hgj, ht, hk] at h2
        exact absurd rfl h2
      · exact h1
      · have h2 := hd j i (by simpa using hj) (by simpa using hi) h1
        rw [List.getElem_map, List.getElem_map, ← hgj, ht, hk] at h2
        exact absurd rfl h2
    subst e
    exact hgj
theorem AtR.of_not {rl : List En} {k : Nat} {r : Int} (h : AtR rl k r) (hn : k ∉ rl.map En.tok) : r = -1 := by
  rcases h with ⟨hr, _⟩ | ⟨j, _, hj, ht, _⟩
  · exact hr
  · refine absurd (List.mem_map.2 ⟨rl.getD j default, ?_, ht⟩) hn
    rw [List.getD_eq_getElem?_getD, List.getElem?_eq_getElem hj]
    exact List.getElem_mem _

set_option maxRecDepth 20000 in
set_option maxHeartbeats 1600000 in
theorem rhas_any {w : World} {xb c : Nat} {v : Value} {rl : List En} (R : Rt w xb c v rl) (hU : rl.length ≤ 1099511627776) (hd : (rl.map En.tok).Nodup) {x : En} (hx : x ∈ rl) :
    Calls Tryd.prog 20 #[ptr xb, .agg #[.int .u32 (x.tok : Int), .int .i64 x.owner, .bool x.live, .int .i64 x.upto]] w fun e w' => e = .returned (.bool true) ∧ RowKit.Below w.heap.size w w' := by
  have hb := below_a w (.cells #[.int .u32 (x.tok : Int), .int .i64 x.owner, .bool x.live, .int .i64 x.upto] 53)
  have R1 := R.below hb
  have HA := Lib.hid (rat_any R1 hU x.tok)
  obtain ⟨A, n, hv, hn1, hn2⟩ := own4_slice R.row
  subst hv
  have c1 := R1.c1
  have z := cellsEn w x 53
  have z0 := z 0 (by omega)
  have z1 := z 1 (by omega)
  have z2 := z 2 (by omega)
  have z3 := z 3 (by omega)
  simp only [En.cells, List.getElem?_cons_zero, List.getElem?_cons_succ] at z0 z1 z2 z3
  have HR1 := Lib.hid R1
  have HB := Lib.hid hb
  have HM : Hid (∀ r, AtR rl x.tok r → ∃ j : Nat, r = j ∧ j < rl.length ∧ rl.getD j default = x) := Lib.hid (fun r h => h.of_mem hd hx rfl)
  clear R R1 hb z hd hx
  obtain ⟨tk, ow, lv, up⟩ := x
  dsimp only at *
  generalize hW : w.alloc (.cells #[.int .u32 (tk : Int), .int .i64 ow, .bool lv, .int .i64 up] 53) = W2 at *
  have HW := Lib.hid hW
  clear hW
  generalize hln : rl.length = ln at *
  have HL := Lib.hid hln
  clear hln
  unfold ptr at *
  go_enter Tryd.func20, Tryd.ntmps20
  go_wp2_with fail
  rw [HW.out]
  refine (HA.out).mono ?_
  rintro e w' ⟨r, rfl, rfl, har⟩
  obtain ⟨j, rfl, hj, hje⟩ := HM.out r har
  have hrw := HR1.out.row
  rw [← HL.out] at hrw
  obtain ⟨g, rfl, x0, x1, x2, x3, _⟩ := own4_cells hrw (j := j) (by rw [HL.out]; exact hj)
  rw [hje] at x0 x1 x2 x3
  dsimp only at x0 x1 x2 x3
  clear hrw har hje HM
  go_wp2_with fail
  go_quiet (fail)
  go_wp2_with fail
  go_ret
  exact ⟨rfl, below_dn HB.out _⟩

/-- Is an entry kept at a tick? -/
def kpt (t : Int) (x : En) : Bool := x.live || decide (t < x.upto)

theorem Rt.alloc {w : World} {xb c : Nat} {v : Value} {rl : List En} (h : Rt w xb c v rl) (o : Obj) : Rt (w.alloc o) xb c v rl := h.below (below_a w o)
theorem Rt.grown {w w' : World} {xb c : Nat} {v : Value} {rl : List En} (h : Rt w xb c v rl) {row : Option Nat} (hg : w.grownBy w' row) (h1 : row ≠ some xb) (h2 : ∀ g, v.ownBlock = some g → row ≠ some g) : Rt w' xb c v rl :=
  h.ch (m := fun k => row = some k) ((Ch.refl w _).grown hg fun k e _ => e) h1 h2

set_option maxRecDepth 20000 in
set_option maxHeartbeats 1600000 in
theorem rtick_any {w : World} {xb c : Nat} {v : Value} {rl : List En} (R : Rt w xb c v rl) (hU : rl.length ≤ 64) (t : Int) :
    Calls Tryd.prog 17 #[ptr xb, .int .i64 t] w fun e w' => ∃ v', e = .returned (.int .i64 ((rl.length - (rl.filter (kpt t)).length : Nat) : Int)) ∧ Rt w' xb c v' (rl.filter (kpt t)) ∧ Ch w w' (fun g => g = xb) ∧ ∀ g, v'.ownBlock = some g → w.heap.size ≤ g := by
  obtain ⟨A, n, rfl, hn1, hn2⟩ := own4_slice R.row
  have c1 := R.c1
  have HR := Lib.hid R
  have hxl := R.lt
  have HFL : Hid ((rl.filter (kpt t)).length ≤ rl.length) := Lib.hid (List.length_filter_le _ _)
  have hvg : ∀ g, (Value.slice A rl.length n).ownBlock = some g → g < w.heap.size := fun g hg => (own_in R.row hg).2
  have HVG := Lib.hid hvg
  clear R hvg
  generalize hln : rl.length = ln at *
  have HL := Lib.hid hln
  clear hln
  unfold ptr at *
  go_enter Tryd.func17, Tryd.ntmps17
  go_wp2_with fail
  go_loopw [5, 6] (fun vo ix wr => ∃ (q : Nat) (out : List En), q ≤ ln ∧ ix = .int .i64 (q : Int) ∧ out = (rl.take q).filter (kpt t) ∧ wr.ownsRow w.heap.size 53 4 vo out.length (ecs out) ∧ RowKit.Below w.heap.size w wr) (fun _ ix _ => ln - (intOf ix).toNat)
  case atStart => exact ⟨0, [], Nat.zero_le _, rfl, rfl, World.ownsRow_nil _ _ _ _, Below.refl _ _⟩
  case round =>
    obtain ⟨q, out, hq, rfl, hout, own, b⟩ := hrel
    have R1 := HR.out.below b
    have k1 := R1.c1
    have HO := Lib.hid hout
    have HOW := Lib.hid own
    have HB := Lib.hid b
    have hbs := b.size
    by_cases hqn : q < ln
    · have hrw := R1.row
      rw [← HL.out] at hrw
      obtain ⟨g, hgA, x0, x1, x2, x3, _⟩ := own4_cells hrw (j := q) (by rw [HL.out]; exact hqn)
      subst hgA
      have htake : (rl.take (q + 1)).filter (kpt t) = out ++ (if kpt t (rl.getD q default) then [rl.getD q default] else []) := by
        have hqr : q < rl.length := by rw [HL.out]; exact hqn
        rw [hout, List.take_add_one, List.filter_append, List.getD_eq_getElem?_getD, List.getElem?_eq_getElem hqr]
        by_cases hk : kpt t rl[q] <;> simp [hk]
      have HT := Lib.hid htake
      have hol : out.length ≤ 1099511627776 := by
        rw [hout]
        refine Nat.le_trans (List.length_filter_le _ _) ?_
        rw [List.length_take]
        omega
      have HOL := Lib.hid hol
      have HR1 := Lib.hid R1
      clear hout own b R1 hrw htake hol
      generalize rl.getD q default = x at *
      obtain ⟨tk, ow, lv, up⟩ := x
      dsimp only at *
      cases hkp : kpt t ⟨tk, ow, lv, up⟩ with
      | true =>
        rw [hkp, if_pos rfl] at HT
        have HO4 := Lib.hid (HOW.out.alloc (.cells #[.int .u32 (tk : Int), .int .i64 ow, .bool lv, .int .i64 up] 53))
        have HCE := Lib.hid (cellsEn wr ⟨tk, ow, lv, up⟩ 53)
        have hb5 := HB.out.alloc HB.out.size (.cells #[.int .u32 (tk : Int), .int .i64 ow, .bool lv, .int .i64 up] 53)
        have HB5 := Lib.hid hb5
        have HSZ := Lib.hid hb5.size
        clear hb5
        cases lv with
        | true =>
          clear hkp
          go_wp2_with (first | (at_builtin; refine wpList_appE rfl _ _ 45 53 rfl Tryd.underlying45 infoREn w.heap.size _ _ _ rfl HO4.out HSZ.out _ ⟨tk, ow, true, up⟩ rfl HCE.out HOL.out ?_; intro v7 w7 ho7 hg7 hx7))
          go_roundw
          case rel => exact ⟨q + 1, _, by omega, by go_num, HT.out.symm, by rw [List.length_append]; exact ho7, HB5.out.trans ⟨hg7.os, hg7.tape, hg7.output, hg7.size, fun j hj => hg7.block j (Nat.lt_of_lt_of_le hj HB5.out.size) (fun e => by have := (own_in HO4.out e.symm).1; omega)⟩⟩
          case measure => simp [intOf]; omega
        | false =>
          have hup : t < up := by simpa [kpt] using hkp
          clear hkp
          go_wp2_with (first | (at_builtin; refine wpList_appE rfl _ _ 45 53 rfl Tryd.underlying45 infoREn w.heap.size _ _ _ rfl HO4.out HSZ.out _ ⟨tk, ow, false, up⟩ rfl HCE.out HOL.out ?_; intro v7 w7 ho7 hg7 hx7))
          go_roundw
          case rel => exact ⟨q + 1, _, by omega, by go_num, HT.out.symm, by rw [List.length_append]; exact ho7, HB5.out.trans ⟨hg7.os, hg7.tape, hg7.output, hg7.size, fun j hj => hg7.block j (Nat.lt_of_lt_of_le hj HB5.out.size) (fun e => by have := (own_in HO4.out e.symm).1; omega)⟩⟩
          case measure => simp [intOf]; omega
      | false =>
        rw [hkp] at HT
        have hlv : lv = false := by
          cases lv
          · rfl
          · simp [kpt] at hkp
        subst hlv
        have hup : ¬ t < up := by simpa [kpt] using hkp
        clear hkp
        go_wp2_with fail
        go_roundw
        case rel => exact ⟨q + 1, out, by omega, by go_num, by have := HT.out; simpa using this.symm, HOW.out, HB.out⟩
        case measure => simp [intOf]; omega
    · obtain rfl : q = ln := by omega
      have hoe : out = rl.filter (kpt t) := by rw [hout, ← HL.out, List.take_length]
      obtain ⟨A5, n5, rfl, hm1, hm2⟩ := own4_slice own
      have fz := R1.fz 1
      have hne : (Value.slice A5 out.length n5).ownBlock ≠ some xb := fun e => by
        have := (own_in own e).1
        omega
      have HF := Lib.hid (R1.set (own4_zero own) hne)
      have HC := Lib.hid ((Ch.of_below (fun g => g = xb) b).setCell (p := ⟨xb, 1, none⟩) (fun _ => rfl) (.slice A5 out.length n5))
      have HG := Lib.hid (fun g (hg : (Value.slice A5 out.length n5).ownBlock = some g) => (own_in own hg).1)
      have hol : out.length ≤ q := by rw [hoe]; exact HFL.out
      have HOE := Lib.hid hoe
      have hwr : IntKind.i64.wrap ((q : Int) - (out.length : Int)) = ((q - out.length : Nat) : Int) := by
        simp [IntKind.wrap, IntKind.bits, IntKind.signed]
        omega
      clear hout own b R1 hoe hne
      generalize holn : out.length = ol at *
      have HOLN := Lib.hid holn
      clear holn
      go_wp2_with fail
      go_ret
      refine ⟨_, by rw [← HOE.out, HOLN.out]; rfl, by rw [← HOE.out]; exact HF.out, HC.out, HG.out⟩

end Go.Proofs.YthfblaiocdgkbaaDoor

namespace Go.Proofs.YthfblaiocdgkbaaDoor
set_option linter.unusedVariables false
set_option linter.unusedSimpArgs false
open Go.RowKit

theorem set4 (a b c d u : Value) (l : List Value) (i : Nat) : (a :: b :: c :: d :: l).set (i + 4) u = a :: b :: c :: d :: l.set i u := rfl
theorem ecs_set : ∀ (rl : List En) (j : Nat) (x : En), j < rl.length → ((((ecs rl).set (j * 4) (.int .u32 (x.tok : Int))).set (j * 4 + 1) (.int .i64 x.owner)).set (j * 4 + 2) (.bool x.live)).set (j * 4 + 3) (.int .i64 x.upto) = ecs (rl.set j x)
  | [], j, x, h => by simp at h
  | y :: r, 0, x, _ => rfl
  | y :: r, j + 1, x, h => by
    have ih := ecs_set r j x (by simpa using h)
    rw [show (j + 1) * 4 = j * 4 + 4 from by omega, show j * 4 + 4 + 1 = j * 4 + 1 + 4 from by omega, show j * 4 + 4 + 2 = j * 4 + 2 + 4 from by omega, show j * 4 + 4 + 3 = j * 4 + 3 + 4 from by omega]
    show ((((_ :: _ :: _ :: _ :: ecs r).set (j * 4 + 4) _).set (j * 4 + 1 + 4) _).set (j * 4 + 2 + 4) _).set (j * 4 + 3 + 4) _ = _ :: _ :: _ :: _ :: ecs (r.set j x)
    rw [set4, set4, set4, set4, ih]

set_option maxRecDepth 20000 in
set_option maxHeartbeats 1600000 in
theorem rfree_no {w : World} {xb c : Nat} {v : Value} {rl : List En} (R : Rt w xb c v rl) (hU : rl.length ≤ 64) (k : Nat) (t : Int) (hn : ∀ r, AtR rl k r → r = -1 ∨ ∃ j : Nat, r = j ∧ j < rl.length ∧ (rl.getD j default).live = false) :
    Calls Tryd.prog 15 #[ptr xb, .int .u32 (k : Int), .int .i64 t] w fun e w' => e = .returned (.int .i64 6) ∧ w' = w := by
  have HA := Lib.hid (rat_any R (Nat.le_trans hU (by omega)) k)
  obtain ⟨A, n, hv, hn1, hn2⟩ := own4_slice R.row
  subst hv
  have c1 := R.c1
  have HR := Lib.hid R
  have HN := Lib.hid hn
  clear R hn
  generalize hln : rl.length = ln at *
  have HL := Lib.hid hln
  clear hln
  unfold ptr at *
  go_enter Tryd.func15, Tryd.ntmps15
  go_wp2_with fail
  refine (HA.out).mono ?_
  rintro e w' ⟨r, rfl, rfl, har⟩
  rcases HN.out r har with rfl | ⟨j, rfl, hj, hlv⟩
  · go_wp2_with fail
    go_ret
    exact ⟨rfl, rfl⟩
  · have hrw := HR.out.row
    rw [← HL.out] at hrw
    obtain ⟨g, rfl, x0, x1, x2, x3, _⟩ := own4_cells hrw (j := j) (by rw [HL.out]; exact hj)
    rw [hlv] at x2
    clear hrw har x0 x1 x3
    go_wp2_with fail
    go_ret
    exact ⟨rfl, rfl⟩

set_option maxRecDepth 20000 in
set_option maxHeartbeats 1600000 in
theorem rfree_yes {w : World} {xb c : Nat} {v : Value} {rl : List En} (R : Rt w xb c v rl) (hU : rl.length ≤ 64) (k : Nat) (t : Int) (ht : -1000000 ≤ t ∧ t ≤ 1000000) (hn : ∀ r, AtR rl k r → ∃ j : Nat, r = j ∧ j < rl.length ∧ (rl.getD j default).live = true) :
    Calls Tryd.prog 15 #[ptr xb, .int .u32 (k : Int), .int .i64 t] w fun e w' => ∃ j : Nat, e = .returned (.int .i64 0) ∧ AtR rl k j ∧ Rt w' xb c v (rl.set j ⟨k, 0, false, t + 10⟩) ∧ Ch w w' (fun g => v.ownBlock = some g) := by
  have HA := Lib.hid (rat_any R (Nat.le_trans hU (by omega)) k)
  obtain ⟨A, n, hv, hn1, hn2⟩ := own4_slice R.row
  subst hv
  have c1 := R.c1
  have HR := Lib.hid R
  have HN := Lib.hid hn
  clear R hn
  generalize hln : rl.length = ln at *
  have HL := Lib.hid hln
  clear hln
  unfold ptr at *
  go_enter Tryd.func15, Tryd.ntmps15
  go_wp2_with fail
  refine (HA.out).mono ?_
  rintro e w' ⟨r, rfl, rfl, har⟩
  obtain ⟨j, rfl, hj, hlv⟩ := HN.out r har
  have hrw := HR.out.row
  rw [← HL.out] at hrw
  obtain ⟨g, rfl, x0, x1, x2, x3, fz⟩ := own4_cells hrw (j := j) (by rw [HL.out]; exact hj)
  rw [hlv] at x2
  have f0 := fz (j * 4)
  have f1 := fz (j * 4 + 1)
  have f2 := fz (j * 4 + 2)
  have f3 := fz (j * 4 + 3)
  have HAR := Lib.hid har
  clear hrw har fz
  generalize (rl.getD j default).tok = y0 at *
  generalize (rl.getD j default).owner = y1 at *
  generalize (rl.getD j default).upto = y3 at *
  go_wp2_with fail
  go_ret
  have hrw2 := HR.out.row
  rw [← HL.out] at hrw2 ⊢
  have hjr : j < rl.length := by rw [HL.out]; exact hj
  have hgx : g ≠ xb := fun e => HR.out.far (by rw [e]; rfl)
  have r4 := ((((hrw2.stored (j * 4) (.int .u32 (k : Int))).1.stored (j * 4 + 1) (.int .i64 0)).1.stored (j * 4 + 2) (.bool false)).1.stored (j * 4 + 3) (.int .i64 (t + 10))).1
  have he4 := ecs_set rl j ⟨k, 0, false, t + 10⟩ hjr
  dsimp only at he4
  rw [he4] at r4
  have ch4 : Ch w' ((((w'.setCell ⟨g, j * 4, none⟩ (.int .u32 (k : Int))).setCell ⟨g, j * 4 + 1, none⟩ (.int .i64 0)).setCell ⟨g, j * 4 + 2, none⟩ (.bool false)).setCell ⟨g, j * 4 + 3, none⟩ (.int .i64 (t + 10))) (fun q => q = g) :=
    ((((Ch.refl w' (fun q => q = g)).setCell (p := ⟨g, j * 4, none⟩) (fun _ => rfl) _).setCell (p := ⟨g, j * 4 + 1, none⟩) (fun _ => rfl) _).setCell (p := ⟨g, j * 4 + 2, none⟩) (fun _ => rfl) _).setCell (p := ⟨g, j * 4 + 3, none⟩) (fun _ => rfl) _
  refine ⟨j, rfl, HAR.out, ⟨(ch4.block xb HR.out.lt (fun e => hgx e.symm)).trans ?_, ?_, HR.out.far⟩, ch4.mono fun q _ e => by rw [e]; rfl⟩
  · have := HR.out.blk
    rw [HL.out]
    exact this
  · rw [List.length_set]
    exact r4

end Go.Proofs.YthfblaiocdgkbaaDoor

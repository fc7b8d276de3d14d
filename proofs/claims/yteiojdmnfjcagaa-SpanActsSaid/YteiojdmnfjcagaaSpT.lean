/- The document's set: each number by itself, of those below a bound. Conditions: the bound is at most 1000; a run does not begin below -2^40. -/
import Derived.Test.YteiojdmnfjcagaaSpS
namespace Go.Proofs.Yteiojdmnfjcagaa
set_option linter.unusedVariables false
set_option linter.unusedSimpArgs false
open Go.RowKit Go.Lib

def bs (n : Nat) (b : Nat → Bool) : List Value := (List.range n).map fun i => .bool (b i)
theorem bs_at {n : Nat} {b : Nat → Bool} {i : Nat} (hi : i < n) : (bs n b)[i]? = some (.bool (b i)) := by simp [bs, hi]
theorem bs_len (n : Nat) (b : Nat → Bool) : (bs n b).length = n := by simp [bs]
def upd (b : Nat → Bool) (j : Nat) (v : Bool) (i : Nat) : Bool := if i = j then v else b i
theorem bs_set (n : Nat) (b : Nat → Bool) (j : Nat) (v : Bool) : (bs n b).set j (.bool v) = bs n (upd b j v) := by
  apply List.ext_getElem?
  intro i
  rw [List.getElem?_set]
  by_cases hi : i < n
  · rw [bs_at hi, bs_at hi, bs_len]
    by_cases e : j = i
    · subst e
      simp [upd, hi]
    · have e2 : ¬ i = j := fun h => e h.symm
      simp [upd, e, e2]
  · have h1 : (bs n b)[i]? = none := List.getElem?_eq_none (by rw [bs_len]; omega)
    have h2 : (bs n (upd b j v))[i]? = none := List.getElem?_eq_none (by rw [bs_len]; omega)
    rw [h1, h2, bs_len]
    by_cases e : j = i
    · subst e
      simp [hi]
    · simp [e]
theorem bs_ext {n : Nat} {b b' : Nat → Bool} (h : ∀ i, i < n → b i = b' i) : bs n b = bs n b' := by
  unfold bs
  apply List.map_congr_left
  intro i hi
  rw [h i (List.mem_range.1 hi)]

/-- How many of the first n. -/
def cnt (b : Nat → Bool) : Nat → Int
  | 0 => 0
  | n + 1 => cnt b n + if b n then 1 else 0
theorem cnt_ext {b b' : Nat → Bool} : ∀ {n : Nat}, (∀ i, i < n → b i = b' i) → cnt b n = cnt b' n
  | 0, _ => rfl
  | n + 1, h => by
    show cnt b n + _ = cnt b' n + _
    rw [cnt_ext (n := n) (fun i hi => h i (by omega)), h n (by omega)]
theorem cnt_bd (b : Nat → Bool) : ∀ n : Nat, 0 ≤ cnt b n ∧ cnt b n ≤ n
  | 0 => ⟨Int.le_refl _, Int.le_refl _⟩
  | n + 1 => by
    have := cnt_bd b n
    show 0 ≤ cnt b n + (if b n then 1 else 0) ∧ cnt b n + (if b n then 1 else 0) ≤ ((n + 1 : Nat) : Int)
    split <;> omega
theorem cnt_upd (b : Nat → Bool) (j : Nat) (v : Bool) : ∀ {n : Nat}, j < n → cnt (upd b j v) n = cnt b n + (if v then 1 else 0) - (if b j then 1 else 0)
  | 0, h => by omega
  | n + 1, h => by
    show cnt (upd b j v) n + (if upd b j v n then 1 else 0) = cnt b n + (if b n then 1 else 0) + (if v then 1 else 0) - (if b j then 1 else 0)
    by_cases e : j = n
    · subst e
      rw [cnt_ext (b := upd b j v) (b' := b) (n := j) (fun i hi => by simp [upd, show ¬ i = j from by omega])]
      simp only [upd, if_pos]
      omega
    · rw [cnt_upd b j v (n := n) (by omega)]
      have : upd b j v n = b n := by simp [upd, show ¬ n = j from fun h => e h.symm]
      rw [this]
      omega

/-- At block xb the document's set stands, of n numbers, whose row lies at block rb. -/
structure Rx (w : World) (xb rb n : Nat) (b : Nat → Bool) : Prop where
  blk : w.heap[xb]? = some (.cells #[.slice (some ⟨rb, 0, none⟩) n n] 34 (0, 0))
  row : w.ownsRow 0 4 1 (.slice (some ⟨rb, 0, none⟩) n n) n (bs n b)
  ne : xb ≠ rb
section
variable {w w' : World} {xb rb n : Nat} {b : Nat → Bool}
theorem Rx.lt (h : Rx w xb rb n b) : xb < w.heap.size := (Array.getElem?_eq_some_iff.1 h.blk).1
theorem Rx.rlt (h : Rx w xb rb n b) : rb < w.heap.size := (h.row.lt rb rfl).2
theorem Rx.c0 (h : Rx w xb rb n b) : w.cell? ⟨xb, 0, none⟩ = some (.slice (some ⟨rb, 0, none⟩) n n) := by rw [cell_of_row w xb 0 _ _ (0, 0) h.blk]; rfl
theorem Rx.cell (h : Rx w xb rb n b) {i : Nat} (hi : i < n) : w.cell? ⟨rb, i, none⟩ = some (.bool (b i)) := by
  rw [World.ownsRow.cellAt h.row i (by omega), bs_at hi]
theorem Rx.fz (h : Rx w xb rb n b) (j : Nat) : w.frozen? ⟨rb, j, none⟩ = false := by
  rcases h.row.2 with ⟨hv, _⟩ | ⟨g, cap, cur, hv, _, hg, _⟩
  · cases hv
  · injection hv with e1 _ _
    injection e1 with e1
    injection e1 with e1 _ _
    subst e1
    simp [World.frozen?, hg]
theorem Rx.ch (h : Rx w xb rb n b) {m : Nat → Prop} (c : Ch w w' m) (hx : ¬ m xb) (hr : ¬ m rb) : Rx w' xb rb n b :=
  ⟨(c.block xb h.lt hx).trans h.blk, ⟨h.row.1, by
    rcases h.row.2 with hn | ⟨g, cap, cur, hv, hb, hg, rest⟩
    · exact .inl hn
    · have : rb = g := by
        injection hv with e1 _ _
        injection e1 with e1
        injection e1 with e1 _ _
      exact .inr ⟨g, cap, cur, hv, hb, (c.block g (Array.getElem?_eq_some_iff.1 hg).1 (this ▸ hr)).trans hg, rest⟩⟩, h.ne⟩
theorem Rx.below (h : Rx w xb rb n b) (k : Below w.heap.size w w') : Rx w' xb rb n b := h.ch (Ch.of_below (fun _ => False) k) (fun e => e) (fun e => e)
theorem Rx.set (h : Rx w xb rb n b) (j : Nat) (v : Bool) : Rx (w.setCell ⟨rb, j, none⟩ (.bool v)) xb rb n (upd b j v) :=
  ⟨(Below.heap_setCell w ⟨rb, j, none⟩ (.bool v) xb h.ne).trans h.blk, by have := (World.ownsRow.stored h.row j (.bool v)).1; rwa [bs_set] at this, h.ne⟩
theorem Rx.ext (h : Rx w xb rb n b) {b' : Nat → Bool} (e : ∀ i, i < n → b i = b' i) : Rx w xb rb n b' := ⟨h.blk, by rw [← bs_ext e]; exact h.row, h.ne⟩
end

/-- A run is put into it. -/
def addB (b : Nat → Bool) (f g : Int) (i : Nat) : Bool := b i || decide (f ≤ (i : Int) ∧ (i : Int) - f < g)
def dropB (b : Nat → Bool) (x : Int) (i : Nat) : Bool := b i && !decide ((i : Int) < x)
/-- Of the first q numbers it is done. -/
def mix (b b' : Nat → Bool) (q i : Nat) : Bool := if i < q then b' i else b i
theorem mix_zero (b b' : Nat → Bool) : mix b b' 0 = b := by
  funext i
  simp [mix]
theorem mix_all {b b' : Nat → Bool} {n i : Nat} (hi : i < n) : mix b b' n i = b' i := by simp [mix, hi]
theorem mix_same {b b' : Nat → Bool} {q : Nat} (h : b' q = b q) : mix b b' (q + 1) = mix b b' q := by
  funext i
  unfold mix
  by_cases h1 : i < q
  · simp [h1, show i < q + 1 from by omega]
  · by_cases h2 : i = q
    · subst h2
      simp [h]
    · simp [h1, show ¬ i < q + 1 from by omega]
theorem mix_upd {b b' : Nat → Bool} {q : Nat} : mix b b' (q + 1) = upd (mix b b' q) q (b' q) := by
  funext i
  unfold mix upd
  by_cases h2 : i = q
  · subst h2
    simp
  · by_cases h1 : i < q
    · simp [h1, h2, show i < q + 1 from by omega]
    · simp [h1, h2, show ¬ i < q + 1 from by omega]
theorem mix_at (b b' : Nat → Bool) (q : Nat) : mix b b' q q = b q := by simp [mix]

set_option maxHeartbeats 3200000 in
theorem xadd_any {w : World} {xb rb n : Nat} {b : Nat → Bool} (R : Rx w xb rb n b) (hn : n ≤ 1000) {f g : Int} (hf : -1099511627776 ≤ f ∧ f ≤ 9223372036854775807) (hg : isI g) :
    Calls Try.prog 12 #[ptr xb, .int .i64 f, .int .i64 g] w fun e w' => e = .returned (.int .i64 (cnt (addB b f g) n - cnt b n)) ∧ Rx w' xb rb n (addB b f g) ∧ Ch w w' (fun k => k = rb) := by
  have HR := Lib.hid R
  clear R
  unfold ptr
  go_enter Try.func12, Try.ntmps12
  go_wp2_with fail
  go_loopw [7, 8] (fun s7 ix wr => ∃ q : Nat, q ≤ n ∧ ix = .int .i64 (q : Int) ∧ s7 = .int .i64 (cnt (mix b (addB b f g) q) n - cnt b n) ∧ Rx wr xb rb n (mix b (addB b f g) q) ∧ Ch w wr (fun k => k = rb)) (fun _ ix _ => n - (intOf ix).toNat)
  case atStart => exact ⟨0, Nat.zero_le _, rfl, by rw [mix_zero, Int.sub_self], by rw [mix_zero]; exact HR.out, Ch.refl _ _⟩
  case round =>
    obtain ⟨q, hq, rfl, rfl, S, C⟩ := hrel
    have HS := Lib.hid S
    have HC := Lib.hid C
    have c0 := S.c0
    by_cases hqn : q < n
    · have x0 := S.cell hqn
      rw [mix_at] at x0
      have fz := S.fz q
      have hc1 := cnt_bd (mix b (addB b f g) q) n
      have hc2 := cnt_bd b n
      have hwq : IntKind.i64.wrap ((q : Int) - f) = (q : Int) - f ∨ ¬ f ≤ (q : Int) := by
        by_cases h : f ≤ (q : Int)
        · left
          rw [IntKind.wrap_i64]
          omega
        · exact .inr h
      have HSAME : Hid (addB b f g q = b q → mix b (addB b f g) (q + 1) = mix b (addB b f g) q) := Lib.hid mix_same
      have HUPD : Hid (mix b (addB b f g) (q + 1) = upd (mix b (addB b f g) q) q (addB b f g q)) := Lib.hid mix_upd
      have HCU := Lib.hid (cnt_upd (mix b (addB b f g) q) q (addB b f g q) hqn)
      by_cases k1 : f ≤ (q : Int)
      · have hw := hwq.resolve_right (fun h => h k1)
        by_cases k2 : (q : Int) - f < g
        · have had : addB b f g q = true := by simp [addB, k1, k2]
          cases hb : b q with
          | true =>
            have HM := Lib.hid (HSAME.out (had.trans hb.symm))
            rw [hb] at x0
            clear S C hwq
            go_wp2_with fail
            go_roundw
            case rel => exact ⟨q + 1, by omega, by go_num, by rw [HM.out], by rw [HM.out]; exact HS.out, HC.out⟩
            case measure => simp [intOf]; omega
          | false =>
            rw [hb] at x0
            have hcc := HCU.out
            rw [had, mix_at, hb, ← had, ← HUPD.out] at hcc
            have hcc2 : cnt (mix b (addB b f g) (q + 1)) n = cnt (mix b (addB b f g) q) n + 1 := by simpa [had] using hcc
            have HCC := Lib.hid hcc2
            have HS2 : Hid (Rx (wr.setCell ⟨rb, q, none⟩ (.bool true)) xb rb n (mix b (addB b f g) (q + 1))) := Lib.hid (by rw [HUPD.out, had]; exact S.set q true)
            have HC2 : Hid (Ch w (wr.setCell ⟨rb, q, none⟩ (.bool true)) (fun k => k = rb)) := Lib.hid (C.setCell (p := ⟨rb, q, none⟩) (fun _ => rfl) _)
            generalize hm : cnt (mix b (addB b f g) q) n = m at *
            have hwm : IntKind.i64.wrap (m - cnt b n + 1) = m - cnt b n + 1 := by rw [IntKind.wrap_i64]; omega
            clear S C hwq hcc hm
            go_wp2_with fail
            go_roundw
            case rel => exact ⟨q + 1, by omega, by go_num, by rw [HCC.out]; congr 1; omega, HS2.out, HC2.out⟩
            case measure => simp [intOf]; omega
        · have had : addB b f g q = b q := by simp [addB, k1, k2]
          have HM := Lib.hid (HSAME.out had)
          clear S C hwq
          go_wp2_with fail
          go_roundw
          case rel => exact ⟨q + 1, by omega, by go_num, by rw [HM.out], by rw [HM.out]; exact HS.out, HC.out⟩
          case measure => simp [intOf]; omega
      · have had : addB b f g q = b q := by simp [addB, k1]
        have HM := Lib.hid (HSAME.out had)
        clear S C hwq
        go_wp2_with fail
        go_roundw
        case rel => exact ⟨q + 1, by omega, by go_num, by rw [HM.out], by rw [HM.out]; exact HS.out, HC.out⟩
        case measure => simp [intOf]; omega
    · obtain rfl : q = n := by omega
      have HE := Lib.hid (cnt_ext (n := q) (fun i hi => mix_all (b := b) (b' := addB b f g) hi))
      clear S C
      go_wp2_with fail
      go_ret
      exact ⟨by rw [← HE.out]; rfl, HS.out.ext (fun i hi => mix_all hi), HC.out⟩

set_option maxHeartbeats 3200000 in
theorem xdrop_any {w : World} {xb rb n : Nat} {b : Nat → Bool} (R : Rx w xb rb n b) (hn : n ≤ 1000) {x : Int} (hx : isI x) :
    Calls Try.prog 14 #[ptr xb, .int .i64 x] w fun e w' => e = .returned (.int .i64 (cnt b n - cnt (dropB b x) n)) ∧ Rx w' xb rb n (dropB b x) ∧ Ch w w' (fun k => k = rb) := by
  have HR := Lib.hid R
  clear R
  unfold ptr
  go_enter Try.func14, Try.ntmps14
  go_wp2_with fail
  go_loopw [5, 6] (fun s7 ix wr => ∃ q : Nat, q ≤ n ∧ ix = .int .i64 (q : Int) ∧ s7 = .int .i64 (cnt b n - cnt (mix b (dropB b x) q) n) ∧ Rx wr xb rb n (mix b (dropB b x) q) ∧ Ch w wr (fun k => k = rb) ∧ (q = 0 ∨ ((q - 1 : Nat) : Int) < x)) (fun _ ix _ => n - (intOf ix).toNat)
  case atStart => exact ⟨0, Nat.zero_le _, rfl, by rw [mix_zero, Int.sub_self], by rw [mix_zero]; exact HR.out, Ch.refl _ _, .inl rfl⟩
  case round =>
    obtain ⟨q, hq, rfl, rfl, S, C, hz⟩ := hrel
    have HS := Lib.hid S
    have HC := Lib.hid C
    have c0 := S.c0
    by_cases hqn : q < n
    · by_cases hqx : (q : Int) < x
      · have x0 := S.cell hqn
        rw [mix_at] at x0
        have fz := S.fz q
        have hc1 := cnt_bd (mix b (dropB b x) q) n
        have hc2 := cnt_bd b n
        have HSAME : Hid (dropB b x q = b q → mix b (dropB b x) (q + 1) = mix b (dropB b x) q) := Lib.hid mix_same
        have HUPD : Hid (mix b (dropB b x) (q + 1) = upd (mix b (dropB b x) q) q (dropB b x q)) := Lib.hid mix_upd
        have HCU := Lib.hid (cnt_upd (mix b (dropB b x) q) q (dropB b x q) hqn)
        have had : dropB b x q = false := by simp [dropB, hqx]
        have hz2 : q + 1 = 0 ∨ ((q + 1 - 1 : Nat) : Int) < x := .inr (by simpa using hqx)
        have HZ := Lib.hid hz2
        clear hz hz2
        cases hb : b q with
        | false =>
          have HM := Lib.hid (HSAME.out (had.trans hb.symm))
          rw [hb] at x0
          clear S C
          go_wp2_with fail
          go_roundw
          case rel => exact ⟨q + 1, by omega, by go_num, by rw [HM.out], by rw [HM.out]; exact HS.out, HC.out, HZ.out⟩
          case measure => simp [intOf]; omega
        | true =>
          rw [hb] at x0
          have hcc := HCU.out
          rw [had, mix_at, hb, ← had, ← HUPD.out] at hcc
          have hcc2 : cnt (mix b (dropB b x) (q + 1)) n = cnt (mix b (dropB b x) q) n - 1 := by simpa [had] using hcc
          have HCC := Lib.hid hcc2
          have HS2 : Hid (Rx (wr.setCell ⟨rb, q, none⟩ (.bool false)) xb rb n (mix b (dropB b x) (q + 1))) := Lib.hid (by rw [HUPD.out, had]; exact S.set q false)
          have HC2 : Hid (Ch w (wr.setCell ⟨rb, q, none⟩ (.bool false)) (fun k => k = rb)) := Lib.hid (C.setCell (p := ⟨rb, q, none⟩) (fun _ => rfl) _)
          generalize hm : cnt (mix b (dropB b x) q) n = m at *
          have hwm : IntKind.i64.wrap (cnt b n - m + 1) = cnt b n - m + 1 := by rw [IntKind.wrap_i64]; omega
          clear S C hcc hm
          go_wp2_with fail
          go_roundw
          case rel => exact ⟨q + 1, by omega, by go_num, by rw [HCC.out]; congr 1; omega, HS2.out, HC2.out, HZ.out⟩
          case measure => simp [intOf]; omega
      · have hall : ∀ i, i < n → mix b (dropB b x) q i = dropB b x i := fun i hi => by
          unfold mix
          by_cases h : i < q
          · simp [h]
          · have : ¬ (i : Int) < x := by omega
            simp [h, dropB, this]
        have HE := Lib.hid (cnt_ext (n := n) hall)
        have HALL := Lib.hid hall
        clear S C hz
        go_wp2_with fail
        go_ret
        exact ⟨by rw [← HE.out]; rfl, HS.out.ext HALL.out, HC.out⟩
    · obtain rfl : q = n := by omega
      have HE := Lib.hid (cnt_ext (n := q) (fun i hi => mix_all (b := b) (b' := dropB b x) hi))
      clear S C hz
      go_wp2_with fail
      go_ret
      exact ⟨by rw [← HE.out]; rfl, HS.out.ext (fun i hi => mix_all hi), HC.out⟩

/-- The first number from f on that isn't there, or the bound. -/
def NxB (n : Nat) (b : Nat → Bool) (f x : Nat) : Prop := f ≤ x ∧ x ≤ n ∧ (∀ i, f ≤ i → i < x → b i = true) ∧ (x < n → b x = false)
set_option maxHeartbeats 3200000 in
theorem xnext_any {w : World} {xb rb n : Nat} {b : Nat → Bool} (R : Rx w xb rb n b) (hn : n ≤ 1000) {f : Nat} (hf : f ≤ n) :
    Calls Try.prog 17 #[ptr xb, .int .i64 (f : Int)] w fun e w' => (∃ x : Nat, e = .returned (.int .i64 (x : Int)) ∧ NxB n b f x) ∧ w' = w := by
  have HR := Lib.hid R
  have c0 := R.c0
  clear R
  unfold ptr
  have hf0 : ¬ (f : Int) < 0 := by omega
  go_enter Try.func17, Try.ntmps17
  go_wp2_with fail
  go_loopw [1] (fun ix wr => ∃ q : Nat, f ≤ q ∧ q ≤ n ∧ ix = .int .i64 (q : Int) ∧ wr = w ∧ ∀ i, f ≤ i → i < q → b i = true) (fun ix _ => n - (intOf ix).toNat)
  case atStart => exact ⟨f, Nat.le_refl _, hf, rfl, rfl, fun i h1 h2 => absurd h1 (by omega)⟩
  case round =>
    obtain ⟨q, hfq, hq, rfl, rfl, hh⟩ := hrel
    have HH := Lib.hid hh
    clear hh
    by_cases hqn : q < n
    · have x0 := HR.out.cell hqn
      cases hb : b q with
      | true =>
        rw [hb] at x0
        go_wp2_with fail
        go_roundw
        case rel => exact ⟨q + 1, by omega, by omega, by go_num, by first | rfl | trivial, fun i h1 h2 => by
          by_cases h : i < q
          · exact HH.out i h1 h
          · obtain rfl : i = q := by omega
            exact hb⟩
        case measure => simp [intOf]; omega
      | false =>
        rw [hb] at x0
        go_wp2_with fail
        go_ret
        exact ⟨⟨q, rfl, hfq, hq, HH.out, fun _ => hb⟩, rfl⟩
    · obtain rfl : q = n := by omega
      go_wp2_with fail
      go_ret
      exact ⟨⟨q, rfl, hfq, Nat.le_refl _, HH.out, fun h => absurd h (by omega)⟩, rfl⟩

theorem infoBool : (Try.prog.info? 4).map (fun i => (i.zero, i.size, i.bytes)) = some (some (.bool false), 1, 1) := by kernel_rfl
theorem undBools : Try.prog.underlying 32 = some (.slice 4) := by kernel_rfl
set_option maxHeartbeats 1600000 in
theorem xnew_any (w : World) : Calls Try.prog 10 #[.int .i64 200] w fun e w' => ∃ xb rb, e = .returned (ptr xb) ∧ Rx w' xb rb 200 (fun _ => false) ∧ Below w.heap.size w w' ∧ w.heap.size ≤ xb ∧ w.heap.size ≤ rb := by
  obtain ⟨i0, hi0, hzz⟩ := Option.map_eq_some_iff.1 infoBool
  simp only [Prod.mk.injEq] at hzz
  obtain ⟨hz, h1, h2⟩ := hzz
  have HI := Lib.hid hi0
  have HZ := Lib.hid hz
  have H1 := Lib.hid h1
  have H2 := Lib.hid h2
  clear hi0 hz h1 h2
  have hmade : (madeCells (Value.bool false).cells (200 * 1)).toList = bs 200 (fun _ => false) := by kernel_rfl
  have HMD := Lib.hid hmade
  clear hmade
  go_enter Try.func10, Try.ntmps10
  go_wp2_with (at_make
               refine wpList_make_full w rfl (.tmp 3) (.tmp 3) 32 rfl w.heap.size 4 i0 _ 1 undBools HI.out HZ.out H1.out .i64 .i64 _ _ 200 rfl rfl (by first | rfl | omega) (by first | rfl | omega) (by rw [H2.out]; omega) (by unfold maxLen; omega) (Nat.le_refl _) ?_
               intro w1 hown hg
               rw [HMD.out] at hown
               have hsz := hg.size
               have hlt := (hown.lt w.heap.size rfl).2
               have hb1 : Below w.heap.size w w1 := (Below.refl _ _).grown hg (Nat.le_refl _) (fun k hk => by cases hk)
               have HRX : Hid (Rx (w1.alloc (.cells #[.slice (some ⟨w.heap.size, 0, none⟩) 200 200] 34)) w1.heap.size w.heap.size 200 (fun _ => false)) := Lib.hid ⟨heap_alloc_new w1 _, ⟨hown.1, by
                 rcases hown.2 with hn | ⟨g, cap, cur, hv, hb, hgg, rest⟩
                 · exact .inl hn
                 · exact .inr ⟨g, cap, cur, hv, Nat.zero_le _, (Below.heap_alloc w1 _ g (Array.getElem?_eq_some_iff.1 hgg).1).trans hgg, rest⟩⟩, fun e => by omega⟩
               have HBX := Lib.hid (hb1.alloc hb1.size (.cells #[.slice (some ⟨w.heap.size, 0, none⟩) 200 200] 34))
               have HSX := Lib.hid hsz
               clear hown hg hlt hb1 hsz)
  go_ret
  exact ⟨_, _, rfl, HRX.out, HBX.out, HSX.out, Nat.le_refl _⟩
end Go.Proofs.Yteiojdmnfjcagaa

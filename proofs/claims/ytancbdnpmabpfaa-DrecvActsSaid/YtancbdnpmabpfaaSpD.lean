/- Runs one by one, and the search for the first one of which something holds. Conditions: the runs are of numbers from 0 to 2^32; the slice is not longer than 2^40. -/
import Derived.Test.YtancbdnpmabpfaaSpC
import Derived.Deep.LoopGhost
import Derived.Shelf.Abstract
namespace Go.Proofs.Ytancbdnpmabpfaa
set_option linter.unusedVariables false
set_option linter.unusedSimpArgs false
open Go.RowKit Go.Lib

theorem results_c0 {P : Program} {fn : Func} {p : Tmp} {ty : TypeId} (h : fn.results = #[.cell p ty]) (tmps : Array Value) (w : World) (g : Nat) (cs : List Value) (d : TypeDesc)
    (hp : tmps.getD p undef = .pointer (some ⟨g, 0, none⟩)) (hc : w.rangeAt g 0 cs) (hu : P.underlying ty = some d) (hd : d.isRow = true) (hi : (P.info? ty).map (·.size) = some cs.length) :
    (results fn tmps).run P w = .ok (.agg cs.toArray) w := by
  have hp' : tmps[p]?.getD undef = .pointer (some ⟨g, 0, none⟩) := by simpa using hp
  simp [results, h, hp', asAddr, run_loadVar_mid w g 0 ty cs d hc hu hd hi]
theorem results_c1 {P : Program} {fn : Func} {p q : Tmp} {ty : TypeId} (h : fn.results = #[.cell p ty, .tmp q]) (tmps : Array Value) (w : World) (g : Nat) (cs : List Value) (d : TypeDesc)
    (hp : tmps.getD p undef = .pointer (some ⟨g, 0, none⟩)) (hc : w.rangeAt g 0 cs) (hu : P.underlying ty = some d) (hd : d.isRow = true) (hi : (P.info? ty).map (·.size) = some cs.length) :
    (results fn tmps).run P w = .ok (.tuple #[.agg cs.toArray, tmps.getD q undef]) w := by
  have hp' : tmps[p]?.getD undef = .pointer (some ⟨g, 0, none⟩) := by simpa using hp
  simp [results, h, hp', asAddr, run_loadVar_mid w g 0 ty cs d hc hu hd hi]

/-- A run of numbers that a set may have. -/
def Ok (r : Rn) : Prop := 0 ≤ r.1 ∧ 0 ≤ r.2 ∧ r.1 + r.2 ≤ 4294967296
def rg (r : Rn) : Value := .agg #[.int .i64 r.1, .int .i64 r.2]
theorem cell2 (w : World) (x y : Value) (t : TypeId) : (w.alloc (.cells #[x, y] t)).cell? ⟨w.heap.size, 0, none⟩ = some x ∧ (w.alloc (.cells #[x, y] t)).cell? ⟨w.heap.size, 1, none⟩ = some y :=
  ⟨by rw [cell_of_row _ _ _ _ _ _ (heap_alloc_new w _)]; rfl, by rw [cell_of_row _ _ _ _ _ _ (heap_alloc_new w _)]; rfl⟩
theorem keepc {a b : World} (h : Below a.heap.size a b) {p : Addr} {v : Value} (hc : a.cell? p = some v) : b.cell? p = some v := below_cell h hc

theorem end_any (r : Rn) (h : Ok r) (w : World) : Calls Try.prog 44 #[rg r] w fun e w' => e = .returned (.int .i64 (r.1 + r.2)) ∧ Below w.heap.size w w' := by
  obtain ⟨a, b⟩ := r
  obtain ⟨h1, h2, h3⟩ := h
  unfold rg
  dsimp only at *
  have hw : IntKind.i64.wrap (a + b) = a + b := by rw [IntKind.wrap_i64]; omega
  have HB := Lib.hid (below_a w (.cells #[.int .i64 a, .int .i64 b] 61))
  go_enter Try.func44, Try.ntmps44
  go_wp2_with fail
  go_ret
  exact ⟨rfl, HB.out⟩

/-- Facts that stand behind a world, in all that come of it. -/
theorem later {a b c : World} {S : World → Prop} (H : ∀ W, Below a.heap.size a W → S W) (h : Below a.heap.size a b) (k : Below b.heap.size b c) : S c := H c (h.trans (k.mono h.size))

set_option maxHeartbeats 1600000 in
/-- o.end() >= r.From -/
theorem clA1 (W : World) (rb : Nat) (R r : Rn) (hr : Ok r) (h0 : W.cell? ⟨rb, 0, none⟩ = some (.int .i64 R.1)) (h1 : W.cell? ⟨rb, 1, none⟩ = some (.int .i64 R.2)) :
    Calls Try.prog 43 (#[rg r] ++ #[ptr rb]) W fun e w' => e = .returned (.bool (decide (R.1 ≤ r.1 + r.2))) ∧ Below W.heap.size W w' := by
  have HE := Lib.hid (fun w => end_any r hr w)
  obtain ⟨a, b⟩ := r
  obtain ⟨c, d⟩ := R
  unfold rg ptr at *
  dsimp only at *
  have HB := Lib.hid (below_a W (.cells #[.int .i64 a, .int .i64 b] 61))
  have HK : Hid (∀ W', Below (W.alloc (.cells #[.int .i64 a, .int .i64 b] 61)).heap.size (W.alloc (.cells #[.int .i64 a, .int .i64 b] 61)) W' → W'.cell? ⟨W.heap.size, 0, none⟩ = some (.int .i64 a) ∧ W'.cell? ⟨W.heap.size, 1, none⟩ = some (.int .i64 b) ∧ W'.cell? ⟨rb, 0, none⟩ = some (.int .i64 c) ∧ W'.cell? ⟨rb, 1, none⟩ = some (.int .i64 d)) := Lib.hid (fun W' hb => by
    obtain ⟨e0, e1⟩ := cell2 W (.int .i64 a) (.int .i64 b) 61
    exact ⟨keepc hb e0, keepc hb e1, keepc (below_trans (below_a W _) hb) h0, keepc (below_trans (below_a W _) hb) h1⟩)
  clear h0 h1 hr
  go_enter Try.func43, Try.ntmps43
  go_wp2_with fail
  generalize W.alloc (.cells #[.int .i64 a, .int .i64 b] 61) = W2 at *
  obtain ⟨e0, e1, e2, e3⟩ := HK.out W2.drew (Below.refl _ _).drew
  go_region_held3 (fun V => V.cell? ⟨W.heap.size, 0, none⟩ = some (.int .i64 a) ∧ V.cell? ⟨W.heap.size, 1, none⟩ = some (.int .i64 b) ∧ V.cell? ⟨rb, 0, none⟩ = some (.int .i64 c) ∧ V.cell? ⟨rb, 1, none⟩ = some (.int .i64 d))
    (first | exact ⟨e0, e1, e2, e3⟩ | exact ⟨f0, f1, f2, f3⟩)
    (first | (go_at_call 44; refine (HE.out _).mono ?_; rintro e w5 ⟨rfl, b5⟩; have hb5 : Below W2.heap.size W2 w5 := (Below.refl _ _).drew.trans (b5.mono (by exact Nat.le_refl _)); obtain ⟨f0, f1, f2, f3⟩ := HK.out w5 hb5; have HB5 := Lib.hid hb5; clear b5 hb5))
  go_wp2_with fail
  go_ret
  exact ⟨rfl, below_trans HB.out HB5.out⟩

set_option maxHeartbeats 1600000 in
/-- o.From > r.end() -/
theorem clA2 (W : World) (rb : Nat) (R r : Rn) (hR : Ok R) (h0 : W.cell? ⟨rb, 0, none⟩ = some (.int .i64 R.1)) (h1 : W.cell? ⟨rb, 1, none⟩ = some (.int .i64 R.2)) :
    Calls Try.prog 45 (#[rg r] ++ #[ptr rb]) W fun e w' => e = .returned (.bool (decide (R.1 + R.2 < r.1))) ∧ Below W.heap.size W w' := by
  have HE := Lib.hid (fun w => end_any R hR w)
  obtain ⟨a, b⟩ := r
  obtain ⟨c, d⟩ := R
  unfold rg ptr at *
  dsimp only at *
  have HB := Lib.hid (below_a W (.cells #[.int .i64 a, .int .i64 b] 61))
  have HK : Hid (∀ W', Below (W.alloc (.cells #[.int .i64 a, .int .i64 b] 61)).heap.size (W.alloc (.cells #[.int .i64 a, .int .i64 b] 61)) W' → W'.cell? ⟨W.heap.size, 0, none⟩ = some (.int .i64 a) ∧ W'.cell? ⟨W.heap.size, 1, none⟩ = some (.int .i64 b) ∧ W'.cell? ⟨rb, 0, none⟩ = some (.int .i64 c) ∧ W'.cell? ⟨rb, 1, none⟩ = some (.int .i64 d)) := Lib.hid (fun W' hb => by
    obtain ⟨e0, e1⟩ := cell2 W (.int .i64 a) (.int .i64 b) 61
    exact ⟨keepc hb e0, keepc hb e1, keepc (below_trans (below_a W _) hb) h0, keepc (below_trans (below_a W _) hb) h1⟩)
  clear h0 h1 hR
  go_enter Try.func45, Try.ntmps45
  go_wp2_with fail
  generalize W.alloc (.cells #[.int .i64 a, .int .i64 b] 61) = W2 at *
  obtain ⟨e0, e1, e2, e3⟩ := HK.out W2.drew (Below.refl _ _).drew
  go_region_held3 (fun V => V.cell? ⟨W.heap.size, 0, none⟩ = some (.int .i64 a) ∧ V.cell? ⟨W.heap.size, 1, none⟩ = some (.int .i64 b) ∧ V.cell? ⟨rb, 0, none⟩ = some (.int .i64 c) ∧ V.cell? ⟨rb, 1, none⟩ = some (.int .i64 d))
    (first | exact ⟨e0, e1, e2, e3⟩ | exact ⟨f0, f1, f2, f3⟩)
    (first | (go_at_call 44; refine (HE.out _).mono ?_; rintro e w5 ⟨rfl, b5⟩; have hb5 : Below W2.heap.size W2 w5 := (Below.refl _ _).drew.trans (b5.mono (by exact Nat.le_refl _)); obtain ⟨f0, f1, f2, f3⟩ := HK.out w5 hb5; have HB5 := Lib.hid hb5; clear b5 hb5))
  go_wp2_with fail
  go_ret
  exact ⟨rfl, below_trans HB.out HB5.out⟩

set_option maxHeartbeats 1600000 in
/-- o.end() > n -/
theorem clD (W : World) (nb : Nat) (n : Int) (r : Rn) (hr : Ok r) (h0 : W.cell? ⟨nb, 0, none⟩ = some (.int .i64 n)) :
    Calls Try.prog 64 (#[rg r] ++ #[ptr nb]) W fun e w' => e = .returned (.bool (decide (n < r.1 + r.2))) ∧ Below W.heap.size W w' := by
  have HE := Lib.hid (fun w => end_any r hr w)
  obtain ⟨a, b⟩ := r
  unfold rg ptr at *
  dsimp only at *
  have HB := Lib.hid (below_a W (.cells #[.int .i64 a, .int .i64 b] 61))
  have HK : Hid (∀ W', Below (W.alloc (.cells #[.int .i64 a, .int .i64 b] 61)).heap.size (W.alloc (.cells #[.int .i64 a, .int .i64 b] 61)) W' → W'.cell? ⟨W.heap.size, 0, none⟩ = some (.int .i64 a) ∧ W'.cell? ⟨W.heap.size, 1, none⟩ = some (.int .i64 b) ∧ W'.cell? ⟨nb, 0, none⟩ = some (.int .i64 n)) := Lib.hid (fun W' hb => by
    obtain ⟨e0, e1⟩ := cell2 W (.int .i64 a) (.int .i64 b) 61
    exact ⟨keepc hb e0, keepc hb e1, keepc (below_trans (below_a W _) hb) h0⟩)
  clear h0 hr
  go_enter Try.func64, Try.ntmps64
  go_wp2_with fail
  generalize W.alloc (.cells #[.int .i64 a, .int .i64 b] 61) = W2 at *
  obtain ⟨e0, e1, e2⟩ := HK.out W2.drew (Below.refl _ _).drew
  go_region_held3 (fun V => V.cell? ⟨W.heap.size, 0, none⟩ = some (.int .i64 a) ∧ V.cell? ⟨W.heap.size, 1, none⟩ = some (.int .i64 b) ∧ V.cell? ⟨nb, 0, none⟩ = some (.int .i64 n))
    (first | exact ⟨e0, e1, e2⟩ | exact ⟨f0, f1, f2⟩)
    (first | (go_at_call 44; refine (HE.out _).mono ?_; rintro e w5 ⟨rfl, b5⟩; have hb5 : Below W2.heap.size W2 w5 := (Below.refl _ _).drew.trans (b5.mono (by exact Nat.le_refl _)); obtain ⟨f0, f1, f2⟩ := HK.out w5 hb5; have HB5 := Lib.hid hb5; clear b5 hb5))
  go_wp2_with fail
  go_ret
  exact ⟨rfl, below_trans HB.out HB5.out⟩

set_option maxHeartbeats 1600000 in
/-- o.end() > n -/
theorem clB (W : World) (nb : Nat) (n : Int) (r : Rn) (hr : Ok r) (h0 : W.cell? ⟨nb, 0, none⟩ = some (.int .i64 n)) :
    Calls Try.prog 57 (#[rg r] ++ #[ptr nb]) W fun e w' => e = .returned (.bool (decide (n < r.1 + r.2))) ∧ Below W.heap.size W w' := by
  have HE := Lib.hid (fun w => end_any r hr w)
  obtain ⟨a, b⟩ := r
  unfold rg ptr at *
  dsimp only at *
  have HB := Lib.hid (below_a W (.cells #[.int .i64 a, .int .i64 b] 61))
  have HK : Hid (∀ W', Below (W.alloc (.cells #[.int .i64 a, .int .i64 b] 61)).heap.size (W.alloc (.cells #[.int .i64 a, .int .i64 b] 61)) W' → W'.cell? ⟨W.heap.size, 0, none⟩ = some (.int .i64 a) ∧ W'.cell? ⟨W.heap.size, 1, none⟩ = some (.int .i64 b) ∧ W'.cell? ⟨nb, 0, none⟩ = some (.int .i64 n)) := Lib.hid (fun W' hb => by
    obtain ⟨e0, e1⟩ := cell2 W (.int .i64 a) (.int .i64 b) 61
    exact ⟨keepc hb e0, keepc hb e1, keepc (below_trans (below_a W _) hb) h0⟩)
  clear h0 hr
  go_enter Try.func57, Try.ntmps57
  go_wp2_with fail
  generalize W.alloc (.cells #[.int .i64 a, .int .i64 b] 61) = W2 at *
  obtain ⟨e0, e1, e2⟩ := HK.out W2.drew (Below.refl _ _).drew
  go_region_held3 (fun V => V.cell? ⟨W.heap.size, 0, none⟩ = some (.int .i64 a) ∧ V.cell? ⟨W.heap.size, 1, none⟩ = some (.int .i64 b) ∧ V.cell? ⟨nb, 0, none⟩ = some (.int .i64 n))
    (first | exact ⟨e0, e1, e2⟩ | exact ⟨f0, f1, f2⟩)
    (first | (go_at_call 44; refine (HE.out _).mono ?_; rintro e w5 ⟨rfl, b5⟩; have hb5 : Below W2.heap.size W2 w5 := (Below.refl _ _).drew.trans (b5.mono (by exact Nat.le_refl _)); obtain ⟨f0, f1, f2⟩ := HK.out w5 hb5; have HB5 := Lib.hid hb5; clear b5 hb5))
  go_wp2_with fail
  go_ret
  exact ⟨rfl, below_trans HB.out HB5.out⟩

set_option maxHeartbeats 4000000 in
/-- The library's search: over a function that makes memory at most. -/
theorem sortSearch_any (g : Nat) (cb : Array Value) (n : Nat) (p : Nat → Bool) (w : World) (eg : ∀ args w, (callFunc g args).run Try.prog w = .ok (.enter g args) w) (hsz : n ≤ 1099511627776)
    (hf : ∀ W, Below w.heap.size w W → ∀ i : Nat, i < n → Calls Try.prog g (#[.int .i64 (i : Int)] ++ cb) W fun e w' => e = .returned (.bool (p i)) ∧ Below W.heap.size W w')
    (hmono : ∀ a b, a ≤ b → b < n → p a = true → p b = true) :
    Calls Try.prog 58 #[.int .i64 (n : Int), .func (.func g) #[] cb] w fun e w' => ∃ k : Nat, e = .returned (.int .i64 (k : Int)) ∧ k ≤ n ∧ (∀ t, t < k → p t = false) ∧ (∀ t, k ≤ t → t < n → p t = true) ∧ Below w.heap.size w w' := by
  have HF := Lib.hid hf
  have M := Lib.hid hmono
  clear hf hmono
  go_enter Try.func58, Try.ntmps58
  go_wp2
  go_loopg [5, 6] n (fun kx s5 s6 wr => ∃ (lo hi : Nat), s5 = .int .i64 (lo : Int) ∧ s6 = .int .i64 (hi : Int) ∧ lo ≤ hi ∧ hi ≤ n ∧ hi - lo ≤ kx ∧ Below w.heap.size w wr ∧
    Hid ((∀ t, t < lo → p t = false) ∧ (∀ t, hi ≤ t → t < n → p t = true)))
  case atStart => exact ⟨0, n, rfl, rfl, Nat.zero_le _, Nat.le_refl _, by omega, Below.refl _ _, Lib.hid ⟨fun t ht => absurd ht (Nat.not_lt_zero _), fun t h1 h2 => by omega⟩⟩
  case round =>
    obtain ⟨lo, hi, rfl, rfl, hlh, hin, hg, hb, I⟩ := hrel
    have HB := Lib.hid hb
    clear hb
    by_cases hlt : lo < hi
    · have hc := HF.out wr HB.out ((lo + hi) / 2) (by omega)
      rw [show (((lo + hi) / 2 : Nat) : Int) = ((lo : Int) + (hi : Int)) / 2 by omega] at hc
      cases hp : p ((lo + hi) / 2) <;> rw [hp] at hc
      · have HP := Lib.hid hp
        clear hp
        go_wp2_with (go_at_fn g; refine hc.mono ?_; rintro e w' ⟨rfl, hb1⟩)
        go_roundg (hi - ((lo + hi) / 2 + 1))
        case measure => omega
        case rel =>
          have I2 : Hid ((∀ t, t < (lo + hi) / 2 + 1 → p t = false) ∧ (∀ t, hi ≤ t → t < n → p t = true)) := Lib.hid ⟨fun t ht => (by
            cases h : p t with
            | false => rfl
            | true => have := M.out t ((lo + hi) / 2) (by omega) (by omega) h; rw [HP.out] at this; cases this), I.out.2⟩
          exact ⟨(lo + hi) / 2 + 1, hi, by rw [show ((lo : Int) + (hi : Int)) / 2 + 1 = (((lo + hi) / 2 + 1 : Nat) : Int) by omega], rfl, by omega, hin, Nat.le_refl _, HB.out.trans (hb1.mono HB.out.size), I2⟩
      · have HP := Lib.hid hp
        clear hp
        go_wp2_with (go_at_fn g; refine hc.mono ?_; rintro e w' ⟨rfl, hb1⟩)
        go_roundg ((lo + hi) / 2 - lo)
        case measure => omega
        case rel =>
          have I2 : Hid ((∀ t, t < lo → p t = false) ∧ (∀ t, (lo + hi) / 2 ≤ t → t < n → p t = true)) := Lib.hid ⟨I.out.1, fun t ht htn => M.out ((lo + hi) / 2) t ht htn HP.out⟩
          exact ⟨lo, (lo + hi) / 2, rfl, by rw [show ((lo : Int) + (hi : Int)) / 2 = (((lo + hi) / 2 : Nat) : Int) by omega], by omega, by omega, Nat.le_refl _, HB.out.trans (hb1.mono HB.out.size), I2⟩
    · obtain rfl : hi = lo := by omega
      go_wp2
      go_ret
      exact ⟨hi, rfl, hin, I.out.1, I.out.2, HB.out⟩
end Go.Proofs.Ytancbdnpmabpfaa

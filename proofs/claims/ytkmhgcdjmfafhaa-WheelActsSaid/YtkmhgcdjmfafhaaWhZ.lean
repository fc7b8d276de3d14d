/- A timer is armed: the contract of Arm, where it arms. Condition: the wheel stands, it has at most 2^40 timers. -/
import Derived.Test.YtkmhgcdjmfafhaaWhY
namespace Go.Proofs.Ytkmhgcdjmfafhaa
set_option linter.unusedVariables false
set_option linter.unusedSimpArgs false
open Go.RowKit

/-- What Arm leaves: the handle is armed for that tick, and no longer for another one. -/
def Armed (w : World) (lab : Nat → Nat) (wb mb : Nat) (nb : Nat → Nat) (hd : Nat → Int) (tk : Nat → Nat) (n : Nat) (U : List Nat) (x : Int) (t : Nat) (w' : World) : Prop :=
  ∃ (lab' : Nat → Nat) (V' : Nat → Nat → Value) (L' : Lists) (hd' : Nat → Int) (tk' : Nat → Nat) (b : Nat), Wheel w' lab' wb mb nb V' L' hd' tk' n (wo hd U x ++ [b]) ∧ hd' b = x ∧ tk' b = t ∧ (∀ a, a ∈ U → hd' a = hd a ∧ tk' a = tk a) ∧
    Ch w w' (fun k => lab k ≠ 0) ∧ ∀ k, k < w.heap.size → lab' k = lab k

section
variable {w : World} {lab : Nat → Nat} {wb mb : Nat} {nb : Nat → Nat} {V : Nat → Nat → Value} {L : Lists} {hd : Nat → Int} {tk : Nat → Nat} {n : Nat} {U : List Nat}

set_option maxHeartbeats 4000000 in
theorem arm_good (h : Wheel w lab wb mb nb V L hd tk n U) {x : Int} {t : Nat} (hx : isI x) (hn : n + 20000 ≤ 4611686018427387904) (hU : U.length ≤ 1099511627775) (ht : n < t ∧ t ≤ n + 4096) :
    Calls Try.prog 12 #[ptr wb, .int .i64 x, .int .i64 (t : Int)] w fun e w' => e = .returned (.int .i64 0) ∧ Armed w lab wb mb nb hd tk n U x t w' := by
  have c1 := h.c1
  have hd1 : decide ((t : Int) ≤ (n : Int)) = false := decide_eq_false (by omega)
  have hd2 : decide (4096 < (t : Int) - (n : Int)) = false := decide_eq_false (by omega)
  have hw := h.below (w' := w.alloc (.cells #[.int .i64 x] 3)) ((RowKit.Below.refl _ _).alloc (Nat.le_refl _) _)
  have hl0 : lab w.heap.size = 0 := by
    by_cases e : lab w.heap.size = 0
    · exact e
    · have := h.rings.lt _ e
      omega
  have HC := Lib.hid ((cancel_any hw hx hn (cell_new w (.int .i64 x) 3) hl0).mono (R' := fun e w' => (∃ c : Int, e = .returned (.int .i64 c)) ∧ ∃ V' L', Wheel w' lab wb mb nb V' L' hd tk n (wo hd U x) ∧ Ch (w.alloc (.cells #[.int .i64 x] 3)) w' (fun k => lab k ≠ 0)) fun e w' ⟨he, r⟩ => ⟨⟨_, he⟩, r⟩)
  have HW := Lib.hid h
  have hlen : (wo hd U x).length ≤ U.length := List.length_filter_le _ _
  have hfx : fdb hd (wo hd U x) x = none := by rw [fdb_wo, if_pos rfl]
  have HFX := Lib.hid hfx
  clear h hw hfx
  unfold ptr at *
  go_enter Try.func12, Try.ntmps12
  go_wp2_with (first
    | (go_at_call 15; refine (HC.out).mono ?_; rintro e w2 ⟨⟨cc, rfl⟩, V2, L2, W2, ch2⟩; have k2 := (W2.below ((RowKit.Below.refl _ _).alloc (Nat.le_refl _) (.cells #[.int .i64 x, .int .i64 (t : Int), .int .i64 0] 66))).c2; have M3 := (W2.below ((RowKit.Below.refl _ _).alloc (Nat.le_refl _) (.cells #[.int .i64 x, .int .i64 (t : Int), .int .i64 0] 66))).map)
    | (at_mapUpdate; refine wpList_putM rfl _ _ _ rfl rfl M3 hx rfl HFX.out rfl (by omega) ?_; intro w4 M4 tu))
  obtain ⟨R4, T4, ch4⟩ := W2.fresh rfl tu
  have hm2 := W2.mlab
  have hs4 : w2.heap.size < w4.heap.size := T4.lt
  have k0 : w4.cell? ⟨wb, 0, none⟩ = some (.pointer (some ⟨nb 2, 0, none⟩)) := ch4.cell (p := ⟨wb, 0, none⟩) W2.c0 (fun e => by have := W2.wlab; simp only at e; rw [e] at this; omega)
  have k1 : w4.cell? ⟨wb, 1, none⟩ = some (.int .i64 (n : Int)) := ch4.cell (p := ⟨wb, 1, none⟩) W2.c1 (fun e => by have := W2.wlab; simp only at e; rw [e] at this; omega)
  have h16 : t / wide (hmR 2 t n) % 16 < 16 := Nat.mod_lt _ (by decide)
  have hr3 : hmR 2 t n < 3 := by have := hmR_le 2 t n; omega
  have hH := fun m => home_any t n (by omega) (by omega) 2 (by omega) (w4.drewN m) (R4.drewN m)
  have hll : (L2 (hmR 2 t n) (t / wide (hmR 2 t n) % 16)).length ≤ 1099511627776 := Nat.le_trans (nodup_len _ (wo hd U x) (R4.nodup hr3 h16) fun b hb => (W2.mem b).1 ⟨_, _, hr3, h16, hb⟩) (by omega)
  have hA : ∀ m, Calls Try.prog 26 #[.pointer (some ⟨nb (hmR 2 t n), 1 + t / wide (hmR 2 t n) % 16, none⟩), ptr w2.heap.size] (w4.drewN m) fun e w' => e = .returned (.tuple #[]) ∧ Armed w lab wb mb nb hd tk n U x t w' ∧
      w'.cell? ⟨wb, 0, none⟩ = some (.pointer (some ⟨nb 2, 0, none⟩)) ∧ w'.cell? ⟨wb, 1, none⟩ = some (.int .i64 (n : Int)) := fun m =>
    (add_any (R4.drewN m) hr3 h16 (b := w2.heap.size) (by unfold labT; rw [if_pos rfl]) ⟨0, T4.keep rfl⟩ (fun r' i' h1 h2 hb => by have := W2.inLt h1 h2 hb; omega) hll).mono fun e w' ⟨he, v, a1, a2, a3, a4⟩ => by
      obtain ⟨W5, ch5, l5⟩ := W2.armed hx (fun a ha => (mem_wo.1 ha).2) ht rfl tu M4 rfl rfl a1 a2 a4
      refine ⟨he, ⟨_, _, _, _, _, w2.heap.size, W5, by unfold hdT; rw [if_pos rfl], by unfold tkT; rw [if_pos rfl], fun a ha => ?_, ?_, fun k hk => ?_⟩, W5.c0, W5.c1⟩
      · have h1 : a < w.heap.size := by
          obtain ⟨_, r', i', j, _, _, _, t'⟩ := (HW.out).tim ha
          exact t'.lt
        have h2 := ch2.size
        have h3 : w.heap.size < (w.alloc (.cells #[.int .i64 x] 3)).heap.size := by simp
        unfold hdT tkT
        rw [if_neg (by omega), if_neg (by omega)]
        exact ⟨rfl, rfl⟩
      · exact (((Ch.refl w (fun k => lab k ≠ 0)).alloc _).then_ (ch2.trans ch5 (m'' := fun k => lab k ≠ 0) (fun _ _ h => h) (fun _ _ h => h)))
      · have h2 := ch2.size
        have h3 : w.heap.size < (w.alloc (.cells #[.int .i64 x] 3)).heap.size := by simp
        exact l5 k (by omega)
  have HH := Lib.hid hH
  have HA := Lib.hid hA
  clear hH hA hll R4 T4 ch4 M4 tu M3 k2
  unfold ptr at *
  go_region_held3 (fun W => W.cell? ⟨wb, 0, none⟩ = some (.pointer (some ⟨nb 2, 0, none⟩)) ∧ W.cell? ⟨wb, 1, none⟩ = some (.int .i64 (n : Int)))
    (first
      | exact ⟨k0, k1⟩
      | exact ⟨j0, j1⟩)
    (first
      | (go_at_call 25; refine (HH.out 1).mono ?_; rintro e w8 ⟨rfl, m8, rfl⟩)
      | (go_at_call 26; refine (HA.out _).mono ?_; rintro e w9 ⟨rfl, A9, j0, j1⟩))
  go_wp2_with fail
  go_ret
  exact ⟨rfl, A9⟩
end

end Go.Proofs.Ytkmhgcdjmfafhaa

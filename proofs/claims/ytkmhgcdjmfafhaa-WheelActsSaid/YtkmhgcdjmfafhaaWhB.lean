/- Where a tick's timers stand: the contracts of stretch, of and home. Condition: the rings stand, the ticks are at least 0. -/
import Derived.Test.YtkmhgcdjmfafhaaWhA
namespace Go.Proofs.Ytkmhgcdjmfafhaa
set_option linter.unusedVariables false
set_option linter.unusedSimpArgs false
open Go.RowKit

/-- Nothing but draws. -/
def Dr (w w' : World) : Prop := ∃ n, w' = w.drewN n

set_option maxHeartbeats 800000 in
theorem stretch_any (b d t : Nat) (w : World) (h : w.cell? ⟨b, 0, none⟩ = some (.int .i64 (d : Nat))) (hd : 0 < d) (ht : t ≤ 4611686018427387904) :
    Calls Try.prog 30 #[ptr b, .int .i64 (t : Int)] w fun e w' => e = .returned (.int .i64 ((t / d : Nat) : Int)) ∧ w' = w := by
  have hq : (t : Int).tdiv (d : Int) = ((t / d : Nat) : Int) := (Int.ofNat_tdiv t d).symm
  have hle : t / d ≤ t := Nat.div_le_self t d
  have hz : ¬ (d : Int) = 0 := by omega
  generalize t / d = q at *
  unfold ptr
  go_enter Try.func30, Try.ntmps30
  go_wp2_with fail
  go_ret
  exact ⟨rfl, rfl⟩

set_option maxHeartbeats 800000 in
theorem of_any (b d t : Nat) (w : World) (h : w.cell? ⟨b, 0, none⟩ = some (.int .i64 (d : Nat))) (hd : 0 < d) (ht : t ≤ 4611686018427387904) :
    Calls Try.prog 31 #[ptr b, .int .i64 (t : Int)] w fun e w' => e = .returned (.pointer (some ⟨b, 1 + t / d % 16, none⟩)) ∧ Dr w w' := by
  have HS := Lib.hid (fun n => stretch_any b d t (w.drewN n) h hd ht)
  unfold ptr at *
  have hle : t / d ≤ t := Nat.div_le_self t d
  have hq : ((t / d : Nat) : Int).tmod 16 = ((t / d % 16 : Nat) : Int) := (Int.ofNat_tmod (t / d) 16).symm
  generalize t / d = q at *
  have hlt : q % 16 < 16 := Nat.mod_lt _ (by decide)
  generalize q % 16 = i at *
  go_enter Try.func31, Try.ntmps31
  go_wp2_with fail
  go_quiet (first | (go_at_call_of 30 (Value.pointer (some ⟨b, 0, none⟩)); exact Calls.quiet_of_same (HS.out _)))
  go_wp2_with fail
  go_ret
  exact ⟨rfl, _, rfl⟩

theorem Dr.trans {a b c : World} (h : Dr a b) (k : Dr b c) : Dr a c := by
  obtain ⟨n, rfl⟩ := h
  obtain ⟨m, rfl⟩ := k
  exact ⟨n + m, by simp [World.drewN_drewN]⟩

set_option maxHeartbeats 800000 in
theorem home_leaf (b d t n : Nat) (w : World) (h : w.cell? ⟨b, 0, none⟩ = some (.int .i64 (d : Nat))) (hd : 0 < d) (ht : t ≤ 4611686018427387904) (h17 : w.cell? ⟨b, 17, none⟩ = some (.pointer none)) :
    Calls Try.prog 25 #[ptr b, .int .i64 (t : Int), .int .i64 (n : Int)] w fun e w' => e = .returned (.pointer (some ⟨b, 1 + t / d % 16, none⟩)) ∧ Dr w w' := by
  have HO := Lib.hid (fun m => of_any b d t (w.drewN m) h hd ht)
  generalize t / d % 16 = i at *
  unfold ptr at *
  go_enter Try.func25, Try.ntmps25
  go_wp2_with fail
  go_quiet (fail)
  go_wp2_with (first | (go_at_call 31; refine (HO.out _).mono ?_; rintro e w1 ⟨rfl, m, rfl⟩))
  go_ret
  exact ⟨rfl, _, rfl⟩

set_option maxHeartbeats 1600000 in
theorem home_out (b b2 d t n : Nat) (w : World) (h : w.cell? ⟨b, 0, none⟩ = some (.int .i64 (d : Nat))) (hd : 0 < d) (ht : t ≤ 4611686018427387904) (hn : n ≤ 4611686018427387904) (h17 : w.cell? ⟨b, 17, none⟩ = some (.pointer (some ⟨b2, 0, none⟩)))
    (hne : t / d ≠ n / d) :
    Calls Try.prog 25 #[ptr b, .int .i64 (t : Int), .int .i64 (n : Int)] w fun e w' => e = .returned (.pointer (some ⟨b, 1 + t / d % 16, none⟩)) ∧ Dr w w' := by
  have HO := Lib.hid (fun m => of_any b d t (w.drewN m) h hd ht)
  have H1 := Lib.hid (fun m => stretch_any b d t (w.drewN m) h hd ht)
  have H2 := Lib.hid (fun m => stretch_any b d n (w.drewN m) h hd hn)
  generalize t / d % 16 = i at *
  have hc : ((((t / d : Nat) : Int)) == (((n / d : Nat) : Int))) = false := by rw [beq_eq_false_iff_ne]; omega
  generalize t / d = q1 at *
  generalize n / d = q2 at *
  unfold ptr at *
  go_enter Try.func25, Try.ntmps25
  go_wp2_with fail
  go_quiet (first | (go_at_call_of 30 (Value.int IntKind.i64 (t : Int)); exact Calls.quiet_of_same (H1.out _)) | (go_at_call_of 30 (Value.int IntKind.i64 (n : Int)); exact Calls.quiet_of_same (H2.out _)))
  go_wp2_with (first | (go_at_call 31; refine (HO.out _).mono ?_; rintro e w1 ⟨rfl, m, rfl⟩))
  go_ret
  exact ⟨rfl, _, rfl⟩

set_option maxHeartbeats 1600000 in
theorem home_in (b b2 d t n : Nat) (w : World) (p : Addr) (h : w.cell? ⟨b, 0, none⟩ = some (.int .i64 (d : Nat))) (hd : 0 < d) (ht : t ≤ 4611686018427387904) (hn : n ≤ 4611686018427387904) (h17 : w.cell? ⟨b, 17, none⟩ = some (.pointer (some ⟨b2, 0, none⟩)))
    (he : t / d = n / d)
    (HI : ∀ m, Calls Try.prog 25 #[ptr b2, .int .i64 (t : Int), .int .i64 (n : Int)] (w.drewN m) fun e w' => e = .returned (.pointer (some p)) ∧ Dr (w.drewN m) w') :
    Calls Try.prog 25 #[ptr b, .int .i64 (t : Int), .int .i64 (n : Int)] w fun e w' => e = .returned (.pointer (some p)) ∧ Dr w w' := by
  have HO := Lib.hid HI
  clear HI
  have H1 := Lib.hid (fun m => stretch_any b d t (w.drewN m) h hd ht)
  have H2 := Lib.hid (fun m => stretch_any b d n (w.drewN m) h hd hn)
  have hc : ((((t / d : Nat) : Int)) == (((n / d : Nat) : Int))) = true := by rw [beq_iff_eq]; omega
  generalize t / d = q1 at *
  generalize n / d = q2 at *
  subst he
  clear hc
  unfold ptr at *
  go_enter Try.func25, Try.ntmps25
  go_wp2_with fail
  go_quiet (first | (go_at_call_of 30 (Value.int IntKind.i64 (t : Int)); exact Calls.quiet_of_same (H1.out _)) | (go_at_call_of 30 (Value.int IntKind.i64 (n : Int)); exact Calls.quiet_of_same (H2.out _)))
  go_wp2_with (first | (go_at_call 25; refine (HO.out _).mono ?_; rintro e w1 ⟨rfl, m, rfl⟩))
  go_ret
  exact ⟨rfl, _, rfl⟩

/-- The ring in which a tick's timers stand at n, from ring r inward. -/
def hmR : Nat → Nat → Nat → Nat
  | 0, _, _ => 0
  | r + 1, t, n => if t / wide (r + 1) = n / wide (r + 1) then hmR r t n else r + 1
theorem hmR_le (r t n : Nat) : hmR r t n ≤ r := by
  induction r with
  | zero => exact Nat.le_refl _
  | succ r ih => unfold hmR; split <;> omega
theorem wide_pos (r : Nat) : 0 < wide r := by unfold wide; split <;> (try split) <;> omega

theorem home_any {lab : Nat → Nat} {nb : Nat → Nat} {V : Nat → Nat → Value} {L : Nat → Nat → List Nat} {hd : Nat → Int} {tk : Nat → Nat} (t n : Nat) (ht : t ≤ 4611686018427387904) (hn : n ≤ 4611686018427387904) :
    ∀ r, r < 3 → ∀ (w : World), Rings w lab nb V L hd tk → Calls Try.prog 25 #[ptr (nb r), .int .i64 (t : Int), .int .i64 (n : Int)] w fun e w' => e = .returned (.pointer (some ⟨nb (hmR r t n), 1 + t / wide (hmR r t n) % 16, none⟩)) ∧ Dr w w'
  | 0, hr, w, R => by
    have h17 := R.in_cell hr
    rw [if_pos rfl] at h17
    exact home_leaf (nb 0) (wide 0) t n w (R.wide_cell hr) (wide_pos 0) ht h17
  | r + 1, hr, w, R => by
    have h17 := R.in_cell hr
    rw [if_neg (by omega), Nat.add_sub_cancel] at h17
    unfold hmR
    by_cases e : t / wide (r + 1) = n / wide (r + 1)
    · rw [if_pos e]
      exact home_in (nb (r + 1)) (nb r) (wide (r + 1)) t n w _ (R.wide_cell hr) (wide_pos _) ht hn h17 e fun m => home_any t n ht hn r (by omega) (w.drewN m) (R.drewN m)
    · rw [if_neg e]
      exact home_out (nb (r + 1)) (nb r) (wide (r + 1)) t n w (R.wide_cell hr) (wide_pos _) ht hn h17 e

end Go.Proofs.Ytkmhgcdjmfafhaa

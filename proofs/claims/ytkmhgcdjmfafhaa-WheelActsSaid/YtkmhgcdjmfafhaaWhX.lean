/- A timer is cancelled: the contract of Cancel at one handle. Condition: the wheel stands. -/
import Derived.Test.YtkmhgcdjmfafhaaWhW
namespace Go.Proofs.Ytkmhgcdjmfafhaa
set_option linter.unusedVariables false
set_option linter.unusedSimpArgs false
open Go.RowKit

/-- The timers without those of a handle. -/
def wo (hd : Nat → Int) (U : List Nat) (x : Int) : List Nat := U.filter (fun b => decide (hd b ≠ x))
theorem mem_wo {hd : Nat → Int} {U : List Nat} {x : Int} {b : Nat} : b ∈ wo hd U x ↔ b ∈ U ∧ hd b ≠ x := by
  unfold wo
  rw [List.mem_filter, decide_eq_true_iff]
theorem fdb_wo (hd : Nat → Int) (U : List Nat) (x k : Int) : fdb hd (wo hd U x) k = if k = x then none else fdb hd U k := by
  unfold fdb wo
  rw [List.find?_filter]
  by_cases e : k = x
  · rw [if_pos e, List.find?_eq_none]
    intro b _
    simp [e]
  · rw [if_neg e]
    congr 1
    funext b
    by_cases h : hd b = k
    · simp [h, e]
    · simp [h]
theorem wo_none {hd : Nat → Int} {U : List Nat} {x : Int} (e : fdb hd U x = none) : wo hd U x = U := by
  unfold wo
  rw [List.filter_eq_self]
  intro b hb
  simpa using fdb_none e b hb
theorem wo_length {hd : Nat → Int} {U : List Nat} (hnd : U.Nodup) (hdist : ∀ a b, a ∈ U → b ∈ U → hd a = hd b → a = b) {x : Int} {b : Nat} (e : fdb hd U x = some b) : (wo hd U x).length = U.length - 1 := by
  obtain ⟨h1, h2⟩ := fdb_some e
  have h3 : wo hd U x = U.erase b := by
    rw [hnd.erase_eq_filter]
    unfold wo
    refine List.filter_congr fun a ha => ?_
    by_cases h : a = b
    · subst h
      simp [h2]
    · have : hd a ≠ x := fun h4 => h (hdist a b ha h1 (h4.trans h2.symm))
      simp [this, h]
  rw [h3, List.length_erase_of_mem h1]

section
variable {w : World} {lab : Nat → Nat} {wb mb : Nat} {nb : Nat → Nat} {V : Nat → Nat → Value} {L : Lists} {hd : Nat → Int} {tk : Nat → Nat} {n : Nat} {U : List Nat}

set_option maxHeartbeats 1600000 in
theorem cancel_none (h : Wheel w lab wb mb nb V L hd tk n U) {x : Int} (hx : isI x) {g : Nat} (hg : w.cell? ⟨g, 0, none⟩ = some (.int .i64 x)) (e : fdb hd U x = none) :
    Calls Try.prog 15 #[ptr wb, .slice (some ⟨g, 0, none⟩) 1 1] w fun e w' => e = .returned (.int .i64 0) ∧ Dr w w' := by
  have c2 := h.c2
  have HM := Lib.hid h.map
  have HE := Lib.hid e
  clear h e
  unfold ptr
  go_enter Try.func15, Try.ntmps15
  go_wp2_with fail
  refine wp_loop_rounds 2 ?_
  rw [rounds_succ]
  go_wp2_with (first | (at_lookup; refine wpList_lookM rfl _ _ rfl rfl HM.out hx rfl HE.out ?_))
  rw [rounds_succ]
  go_wp2_with fail
  go_ret
  exact ⟨rfl, 0, rfl⟩

theorem Wheel.cancelled {w9 w10 : World} (h : Wheel w lab wb mb nb V L hd tk n U) {x : Int} {b r i j : Nat} (e : fdb hd U x = some b) (hr : r < 3) (hi : i < 16) (hj : (L r i)[j]? = some b) {v : Value} {m : Nat}
    (R9 : Rings w9 lab nb (up2 V r i v) (up2 L r i (sd (L r i) j)) hd tk) (ch : Ch (w.drewN m) w9 (fun k => lab k = 3 ∨ lab k = 10 + r ∨ lab k = 100 + 16 * r + i))
    (M10 : MapIs w10 mb (fun k => if k = x then none else fdb hd U k) (U.length - 1)) (tu : w9.mapTurned w10 mb) :
    Wheel w10 lab wb mb nb (up2 V r i v) (up2 L r i (sd (L r i) j)) hd tk n (wo hd U x) ∧ Ch w w10 (fun k => lab k ≠ 0) := by
  obtain ⟨hbU, hbx⟩ := fdb_some e
  have hnd := h.rings.nodup hr hi
  have hm := h.mlab
  have c0 : Ch w9 w10 (fun k => k = mb) := (Ch.refl w9 (fun k => k = mb)).turned tu (fun _ => rfl)
  have c1 : Ch w w10 (fun k => lab k ≠ 0) := ((Ch.refl w (fun k => lab k ≠ 0)).drewN m).trans (ch.trans (m'' := fun k => lab k ≠ 0) c0 (fun k _ hk => by omega) (fun k _ hk => by rw [hk, hm]; omega)) (fun _ _ h => h) (fun _ _ h => h)
  have hmem : ∀ r' i' b', r' < 3 → i' < 16 → (b' ∈ up2 L r i (sd (L r i) j) r' i' ↔ b' ∈ L r' i' ∧ b' ≠ b) := fun r' i' b' h1 h2 => by
    by_cases q : r' = r ∧ i' = i
    · obtain ⟨rfl, rfl⟩ := q
      rw [up2_same, mem_sd hnd hj]
    · rw [up2_other _ _ q]
      refine ⟨fun hb => ⟨hb, fun q2 => q ?_⟩, fun hb => hb.1⟩
      subst q2
      exact h.pl.dj r' i' r i h1 h2 hr hi _ hb (List.mem_of_getElem? hj)
  have hbb : ∀ b', b' ∈ U → (b' ≠ b ↔ hd b' ≠ x) := fun b' hb' =>
    ⟨fun q q2 => q (h.dist b' b hb' hbU (q2.trans hbx.symm)), fun q q2 => q (by rw [q2, hbx])⟩
  refine ⟨⟨R9.ch c0 (fun k hk => by rw [hk, hm]; omega), h.wlab, ?_, hm, ?_, fun b' => ?_, fun r' i' b' h1 h2 hb => h.pl r' i' b' h1 h2 ((hmem r' i' b' h1 h2).1 hb).1, h.nd.filter _, fun a c ha hc => h.dist a c (mem_wo.1 ha).1 (mem_wo.1 hc).1, fun a ha => h.hI a (mem_wo.1 ha).1⟩, c1⟩
  · refine (c0.block wb ?_ ?_).trans ((ch.block wb h.lt ?_).trans h.whl)
    · exact Nat.lt_of_lt_of_le h.lt ch.size
    · intro q
      have := h.wlab
      rw [q, hm] at this
      omega
    · have := h.wlab
      omega
  · rw [wo_length h.nd h.dist e]
    have hf : (fun k => if k = x then none else fdb hd U k) = fdb hd (wo hd U x) := by
      funext k
      rw [fdb_wo]
    rw [← hf]
    exact M10
  · rw [mem_wo]
    constructor
    · rintro ⟨r', i', h1, h2, hb⟩
      obtain ⟨h3, h4⟩ := (hmem r' i' b' h1 h2).1 hb
      have h5 := (h.mem b').1 ⟨r', i', h1, h2, h3⟩
      exact ⟨h5, (hbb b' h5).1 h4⟩
    · rintro ⟨h5, h6⟩
      obtain ⟨r', i', h1, h2, h3⟩ := (h.mem b').2 h5
      exact ⟨r', i', h1, h2, (hmem r' i' b' h1 h2).2 ⟨h3, (hbb b' h5).2 h6⟩⟩

set_option maxHeartbeats 4000000 in
theorem cancel_some (h : Wheel w lab wb mb nb V L hd tk n U) {x : Int} (hx : isI x) (hn : n + 20000 ≤ 4611686018427387904) {g : Nat} (hg : w.cell? ⟨g, 0, none⟩ = some (.int .i64 x)) (hlg : lab g = 0) {b : Nat} (e : fdb hd U x = some b) :
    Calls Try.prog 15 #[ptr wb, .slice (some ⟨g, 0, none⟩) 1 1] w fun e w' => e = .returned (.int .i64 1) ∧
      ∃ V' L', Wheel w' lab wb mb nb V' L' hd tk n (wo hd U x) ∧ Ch w w' (fun k => lab k ≠ 0) := by
  obtain ⟨hbU, hbx⟩ := fdb_some e
  obtain ⟨hb3, r, i, j, hr, hi, hj, T⟩ := h.tim hbU
  have hdue := h.due hbU
  obtain ⟨p1, p2, _⟩ := h.pl r i b hr hi (List.mem_of_getElem? hj)
  have c0 := h.c0
  have c1 := h.c1
  have c2 := h.c2
  have t1 := T.c1
  have hH := fun m => home_any (tk b) n (by omega) (by omega) 2 (by omega) (w.drewN m) (h.rings.drewN m)
  rw [← p1, ← p2] at hH
  have hno : ∀ r' i', r' < 3 → i' < 16 → ¬(r' = r ∧ i' = i) → ∀ x ∈ L r i, x ∉ L r' i' := fun r' i' h1 h2 h3 x h4 h5 => h3 ((h.pl).dj r' i' r i h1 h2 hr hi x h5 h4)
  have hD := fun m => drop_any (h.rings.drewN m) hr hi hj hno
  have hl : ∀ {k : Nat}, (lab k = 3 ∨ lab k = 10 + r ∨ lab k = 100 + 16 * r + i) → lab k ≠ 0 := by omega
  have hwc : ∀ (m : Nat) (w9 : World), Ch (w.drewN m) w9 (fun k => lab k = 3 ∨ lab k = 10 + r ∨ lab k = 100 + 16 * r + i) → (∀ k, lab k = 3 → Tim (w.drewN m) hd tk k → Tim w9 hd tk k) →
      w9.cell? ⟨wb, 0, none⟩ = some (.pointer (some ⟨nb 2, 0, none⟩)) ∧ w9.cell? ⟨wb, 1, none⟩ = some (.int .i64 (n : Int)) ∧ w9.cell? ⟨wb, 2, none⟩ = some (.map (some mb)) ∧ w9.cell? ⟨b, 1, none⟩ = some (.int .i64 (tk b : Int)) ∧ MapIs w9 mb (fdb hd U) U.length := fun m w9 c t => by
    have hwb : ¬ (lab wb = 3 ∨ lab wb = 10 + r ∨ lab wb = 100 + 16 * r + i) := by have := h.wlab; omega
    exact ⟨c.cell (p := ⟨wb, 0, none⟩) c0 hwb, c.cell (p := ⟨wb, 1, none⟩) c1 hwb, c.cell (p := ⟨wb, 2, none⟩) c2 hwb, (t b hb3 ⟨j, T.keep rfl⟩).elim fun _ t => t.c1, h.map.keep (c.block mb h.map.lt (by have := h.mlab; omega))⟩
  have HM := Lib.hid h.map
  have HE := Lib.hid e
  have HH := Lib.hid hH
  have HD := Lib.hid hD
  have HWC := Lib.hid hwc
  have HW := Lib.hid h
  clear hH hD hwc e hno h p1 p2
  unfold ptr at *
  go_enter Try.func15, Try.ntmps15
  go_wp2_with fail
  go_loopw [5, 14] (fun nn ix wr => (ix = .int .i64 0 ∧ nn = .int .i64 0 ∧ wr = w) ∨ (ix = .int .i64 1 ∧ nn = .int .i64 1 ∧ ∃ V' L', Wheel wr lab wb mb nb V' L' hd tk n (wo hd U x) ∧ Ch w wr (fun k => lab k ≠ 0))) (fun _ ix _ => 2 - (intOf ix).toNat)
  case atStart => exact .inl ⟨rfl, rfl, rfl⟩
  case round =>
    rcases hrel with ⟨rfl, rfl, rfl⟩ | ⟨rfl, rfl, V', L', W2, ch2⟩
    · go_wp2_with (first | (at_lookup; refine wpList_lookM rfl _ _ rfl rfl HM.out hx rfl HE.out ?_; unfold ptr))
      go_region_held3 (fun W => W.cell? ⟨wb, 0, none⟩ = some (.pointer (some ⟨nb 2, 0, none⟩)) ∧ W.cell? ⟨wb, 1, none⟩ = some (.int .i64 (n : Int)) ∧ W.cell? ⟨b, 1, none⟩ = some (.int .i64 (tk b : Int)))
        (first
          | exact ⟨c0, c1, t1⟩
          | exact ⟨k0, k1, k3⟩)
        (first
          | (go_at_call 25; refine (HH.out 1).mono ?_; rintro e w8 ⟨rfl, m8, rfl⟩)
          | (go_at_call 27; refine (HD.out _).mono ?_; rintro e w9 ⟨rfl, v9, R9, ch9, T9⟩; obtain ⟨k0, k1, k2, k3, M9⟩ := HWC.out _ _ ch9 T9))
      go_wp2_with (first | (at_delete; refine wpList_delM rfl _ _ rfl rfl M9 hx rfl HE.out ?_; intro w10 M10 tu))
      obtain ⟨W10, ch10⟩ := (HW.out).cancelled HE.out hr hi hj R9 ch9 M10 tu
      go_roundw
      case rel => exact .inr ⟨rfl, rfl, _, _, W10, ch10⟩
      case measure => simp [intOf]
    · go_wp2_with fail
      go_ret
      exact ⟨rfl, V', L', W2, ch2⟩
end

end Go.Proofs.Ytkmhgcdjmfafhaa

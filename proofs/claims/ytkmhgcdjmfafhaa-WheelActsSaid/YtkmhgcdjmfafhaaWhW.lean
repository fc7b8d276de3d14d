/- A wheel as a whole, and what asks it: Now, Len, At, Next. Condition: the wheel stands. -/
import Derived.Test.YtkmhgcdjmfafhaaWhM
namespace Go.Proofs.Ytkmhgcdjmfafhaa
set_option linter.unusedVariables false
set_option linter.unusedSimpArgs false
open Go.RowKit

/-- The timer that is armed for a handle. -/
def fdb (hd : Nat → Int) (U : List Nat) (h : Int) : Option Nat := U.find? (fun b => decide (hd b = h))
theorem fdb_some {hd : Nat → Int} {U : List Nat} {h : Int} {b : Nat} (e : fdb hd U h = some b) : b ∈ U ∧ hd b = h := by
  unfold fdb at e
  exact ⟨List.mem_of_find?_eq_some e, by simpa using List.find?_some e⟩
theorem fdb_none {hd : Nat → Int} {U : List Nat} {h : Int} (e : fdb hd U h = none) : ∀ b ∈ U, hd b ≠ h := by
  unfold fdb at e
  intro b hb
  simpa using List.find?_eq_none.1 e b hb
theorem fdb_of {hd : Nat → Int} {U : List Nat} (hdist : ∀ a b, a ∈ U → b ∈ U → hd a = hd b → a = b) {b : Nat} (hb : b ∈ U) : fdb hd U (hd b) = some b := by
  cases e : fdb hd U (hd b) with
  | none => exact absurd rfl (fdb_none e b hb)
  | some c =>
    obtain ⟨h1, h2⟩ := fdb_some e
    rw [hdist c b h1 hb h2]

/-- A wheel stands at block wb: its tick n, its timers U. -/
structure Wheel (w : World) (lab : Nat → Nat) (wb mb : Nat) (nb : Nat → Nat) (V : Nat → Nat → Value) (L : Lists) (hd : Nat → Int) (tk : Nat → Nat) (n : Nat) (U : List Nat) : Prop where
  rings : Rings w lab nb V L hd tk
  wlab : lab wb = 1
  whl : w.heap[wb]? = some (.cells #[ptr (nb 2), .int .i64 (n : Int), .map (some mb)] 63 (0, 0))
  mlab : lab mb = 2
  map : MapIs w mb (fdb hd U) U.length
  mem : ∀ b, InL L b ↔ b ∈ U
  pl : Pl L tk n
  nd : U.Nodup
  dist : ∀ a b, a ∈ U → b ∈ U → hd a = hd b → a = b
  hI : ∀ b ∈ U, isI (hd b)

section
variable {w w' : World} {lab : Nat → Nat} {wb mb : Nat} {nb : Nat → Nat} {V : Nat → Nat → Value} {L : Lists} {hd : Nat → Int} {tk : Nat → Nat} {n : Nat} {U : List Nat}

theorem Wheel.ch (h : Wheel w lab wb mb nb V L hd tk n U) {m : Nat → Prop} (c : Ch w w' m) (hm : ∀ k, m k → lab k = 0) : Wheel w' lab wb mb nb V L hd tk n U :=
  { h with
    rings := h.rings.ch c fun k hk => by have := hm k hk; omega
    whl := (c.block wb (Array.getElem?_eq_some_iff.1 h.whl).1 fun e => by have := hm wb e; have := h.wlab; omega).trans h.whl
    map := h.map.keep (c.block mb h.map.lt fun e => by have := hm mb e; have := h.mlab; omega) }
theorem Wheel.below (h : Wheel w lab wb mb nb V L hd tk n U) (c : RowKit.Below w.heap.size w w') : Wheel w' lab wb mb nb V L hd tk n U :=
  h.ch (Ch.of_below (fun _ => False) c) fun _ h => h.elim
theorem Wheel.c0 (h : Wheel w lab wb mb nb V L hd tk n U) : w.cell? ⟨wb, 0, none⟩ = some (.pointer (some ⟨nb 2, 0, none⟩)) := by rw [cell_of_row w wb 0 _ _ (0, 0) h.whl]; rfl
theorem Wheel.c1 (h : Wheel w lab wb mb nb V L hd tk n U) : w.cell? ⟨wb, 1, none⟩ = some (.int .i64 (n : Int)) := by rw [cell_of_row w wb 1 _ _ (0, 0) h.whl]; rfl
theorem Wheel.c2 (h : Wheel w lab wb mb nb V L hd tk n U) : w.cell? ⟨wb, 2, none⟩ = some (.map (some mb)) := by rw [cell_of_row w wb 2 _ _ (0, 0) h.whl]; rfl
theorem Wheel.fz (h : Wheel w lab wb mb nb V L hd tk n U) (j : Nat) : w.frozen? ⟨wb, j, none⟩ = false := by simp [World.frozen?, h.whl]
theorem Wheel.lt (h : Wheel w lab wb mb nb V L hd tk n U) : wb < w.heap.size := (Array.getElem?_eq_some_iff.1 h.whl).1
theorem Wheel.tim (h : Wheel w lab wb mb nb V L hd tk n U) {b : Nat} (hb : b ∈ U) : lab b = 3 ∧ ∃ r i j, r < 3 ∧ i < 16 ∧ (L r i)[j]? = some b ∧ TimAt w hd tk b j := by
  obtain ⟨r, i, h1, h2, h3⟩ := (h.mem b).2 hb
  obtain ⟨j, hj, e⟩ := List.getElem_of_mem h3
  have hjj : (L r i)[j]? = some b := by rw [List.getElem?_eq_getElem hj, e]
  obtain ⟨t1, t2⟩ := h.rings.tim r i h1 h2 j b hjj
  exact ⟨t1, r, i, j, h1, h2, hjj, t2⟩
theorem Wheel.due (h : Wheel w lab wb mb nb V L hd tk n U) {b : Nat} (hb : b ∈ U) : n < tk b ∧ tk b ≤ n + 4096 := by
  obtain ⟨r, i, h1, h2, h3⟩ := (h.mem b).2 hb
  exact (h.pl r i b h1 h2 h3).2.2

theorem now_any (h : Wheel w lab wb mb nb V L hd tk n U) : Calls Try.prog 13 #[ptr wb] w fun e w' => e = .returned (.int .i64 (n : Int)) ∧ w' = w := by
  have c1 := h.c1
  clear h
  unfold ptr
  go_enter Try.func13, Try.ntmps13
  go_wp2_with fail
  go_ret
  exact ⟨rfl, rfl⟩

theorem len_any (h : Wheel w lab wb mb nb V L hd tk n U) : Calls Try.prog 22 #[ptr wb] w fun e w' => e = .returned (.int .i64 (U.length : Int)) ∧ w' = w := by
  have c2 := h.c2
  have HM := Lib.hid h.map
  clear h
  unfold ptr
  go_enter Try.func22, Try.ntmps22
  go_wp2_with (first | (at_len; refine wpList_lenM rfl _ rfl rfl HM.out ?_))
  go_ret
  exact ⟨rfl, rfl⟩

set_option maxHeartbeats 800000 in
theorem at_any (h : Wheel w lab wb mb nb V L hd tk n U) {x : Int} (hx : isI x) : Calls Try.prog 23 #[ptr wb, .int .i64 x] w fun e w' =>
    e = .returned (match fdb hd U x with | some b => .tuple #[.int .i64 (tk b : Int), .bool true] | none => .tuple #[.int .i64 0, .bool false]) ∧ w' = w := by
  have c2 := h.c2
  have HM := Lib.hid h.map
  have HT := Lib.hid (fun b (hb : b ∈ U) => h.tim hb)
  clear h
  cases e : fdb hd U x with
  | none =>
    have HE := Lib.hid e
    clear e
    unfold ptr
    go_enter Try.func23, Try.ntmps23
    go_wp2_with (first | (at_lookup; refine wpList_lookM rfl _ _ rfl rfl HM.out hx rfl HE.out ?_))
    go_ret2
    exact ⟨rfl, rfl⟩
  | some b =>
    have HE := Lib.hid e
    have t1 : w.cell? ⟨b, 1, none⟩ = some (.int .i64 (tk b : Int)) := by
      obtain ⟨_, r, i, j, _, _, _, t⟩ := HT.out b (fdb_some e).1
      exact t.c1
    clear e
    unfold ptr
    go_enter Try.func23, Try.ntmps23
    go_wp2_with (first | (at_lookup; refine wpList_lookM rfl _ _ rfl rfl HM.out hx rfl HE.out ?_; unfold ptr))
    go_ret2
    exact ⟨rfl, rfl⟩

set_option maxHeartbeats 800000 in
theorem next_any (h : Wheel w lab wb mb nb V L hd tk n U) (hn : n + 20000 ≤ 4611686018427387904) (hU : U.length ≤ 1099511627776) : Calls Try.prog 20 #[ptr wb] w fun e w' =>
    (∃ t ok, e = .returned (.tuple #[.int .i64 t, .bool ok]) ∧ (ok = true → ∃ b ∈ U, t = tk b ∧ ∀ b' ∈ U, tk b ≤ tk b') ∧ (ok = false → U = [])) ∧ RowKit.Below w.heap.size w w' := by
  have c0 := h.c0
  have c1 := h.c1
  have HE := Lib.hid (fun m => earl_any (h.rings.drewN m) n (by omega) h.pl U (fun b hb => (h.mem b).1 hb) hU)
  have HMem := Lib.hid h.mem
  have hlt := h.lt
  clear h
  unfold ptr at *
  go_enter Try.func20, Try.ntmps20
  go_wp2_with fail
  go_region_held3 (fun W => W.cell? ⟨wb, 0, none⟩ = some (.pointer (some ⟨nb 2, 0, none⟩)) ∧ W.cell? ⟨wb, 1, none⟩ = some (.int .i64 (n : Int)))
    (first
      | exact ⟨c0, c1⟩
      | exact ⟨k0, k1⟩)
    (first
      | (go_at_call 29; refine (HE.out 1).mono ?_; rintro e w1 ⟨⟨t, ok, rfl, hf⟩, hb⟩; have k0 := (hb.cell (p := ⟨wb, 0, none⟩) hlt).trans c0; have k1 := (hb.cell (p := ⟨wb, 1, none⟩) hlt).trans c1))
  go_wp2_with fail
  go_ret2
  refine ⟨⟨t, ok, rfl, fun e => ?_, fun e => ?_⟩, ⟨hb.os, hb.tape, hb.output, hb.size, hb.block⟩⟩
  · obtain ⟨r1, i, b, h1, h2, h3, h4, h5⟩ := hf.1 e
    refine ⟨b, (HMem.out b).1 ⟨r1, i, by omega, h2, h3⟩, h4, fun b' hb' => ?_⟩
    obtain ⟨r2, i2, a1, a2, a3⟩ := (HMem.out b').2 hb'
    exact h5 r2 i2 b' (by omega) a2 a3
  · have h := (hf.2 e).2
    refine List.eq_nil_iff_forall_not_mem.2 fun b hb' => ?_
    obtain ⟨r2, i2, a1, a2, a3⟩ := (HMem.out b).2 hb'
    rw [h r2 i2 (by omega) a2] at a3
    cases a3
end

end Go.Proofs.Ytkmhgcdjmfafhaa

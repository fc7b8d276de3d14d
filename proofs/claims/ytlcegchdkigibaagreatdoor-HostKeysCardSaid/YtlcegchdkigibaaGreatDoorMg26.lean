/- A list is put in the order of its handles: the contract of byHandle, over the library's sort. Condition: the row holds timers, at most 2^40.
The earliest tick of a list's timers: the contract of earliest, over the library's MinFunc. Condition: the row holds a timer at least, at most 2^40.
The earliest tick of a ring, and of all rings: the contracts of first and of the nest's earliest. Condition: the rings stand, each timer at its place.
Three nests are made: the contract of rings. No condition.
A wheel: its struct, its map of handles, its rings, and what all of it says: which handle is armed for which tick. No condition.
A wheel as a whole, and what asks it: Now, Len, At, Next. Condition: the wheel stands.
A timer is cancelled: the contract of Cancel at one handle. Condition: the wheel stands.
A timer is armed: the contract of Arm. Condition: the wheel stands, it has at most 2^40 timers.
A timer is armed: the contract of Arm, where it arms. Condition: the wheel stands, it has at most 2^40 timers. -/
import Derived.Test.YtlcegchdkigibaaGreatDoorMg24
import Derived.Test.YtlcegchdkigibaaGreatDoorMg25
import Derived.Lib.OwnBridge
import Derived.Test.YtlcegchdkigibaaGreatDoorMg23
namespace Go.Proofs.YtlcegchdkigibaaGreatDoor.LW
set_option linter.unusedVariables false
set_option linter.unusedSimpArgs false
open Go.RowKit

set_option maxHeartbeats 800000 in
theorem hclos_any (x y : Nat) (a b : Int) (W : World) (h1 : W.cell? ⟨x, 0, none⟩ = some (.int .i64 a)) (h2 : W.cell? ⟨y, 0, none⟩ = some (.int .i64 b)) :
    Calls Tryz.prog 336 #[ptr x, ptr y] W fun e w' => e = .returned (.int .i64 (Lib.compareInt a b)) ∧ ∃ q, w' = W.drewN q := by
  have hcon := fun n => AnyG.cmp_Compare_int Tryz.cmpL a b (W.drewN n)
  change ∀ n, Calls Tryz.prog 243 _ _ _ at hcon
  have HC := Lib.hid hcon
  clear hcon
  generalize Lib.compareInt a b = r at *
  unfold ptr
  go_enter Tryz.func336, Tryz.ntmps336
  go_wp2_with fail
  go_quiet (first | (go_at_call_of 243 (Value.int IntKind.i64 a); exact Calls.quiet_of_same (HC.out _)))
  go_wp2_with fail
  go_ret
  exact ⟨rfl, _, rfl⟩

section
open Go.Shelf Go.Lib Go.Sort
theorem lt_cmp {α : Type} (f : α → Int) (x y : α) : ltOf (fun x y => Lib.compareInt (f x) (f y)) x y = decide (f x < f y) := by
  unfold ltOf Lib.compareInt
  by_cases h1 : f x < f y
  · simp [h1]
  · by_cases h2 : f y < f x <;> simp [h1, h2]
theorem swo_cmp {α : Type} (f : α → Int) : SWO (ltOf (fun x y : α => Lib.compareInt (f x) (f y))) where
  irrefl x := by rw [lt_cmp]; simp
  trans x y z h1 h2 := by rw [lt_cmp] at *; simp at *; omega
  ntrans x y z h1 h2 := by rw [lt_cmp] at *; simp at *; omega

/-- A world of the sort's: nothing has turned but the row. -/
theorem sw_ch {α : Type} [Inhabited α] {enc : α → Value} {w w' : World} {g off : Nat} {d : Array α} (h : SW enc w g off d w') : Ch w w' (fun k => k = g) := by
  obtain ⟨n, os, rfl⟩ := h
  unfold sortWorld
  refine ⟨rfl, rfl, rfl, by simp, fun k hk hne => ?_⟩
  rw [heap_grow_old _ _ (by simpa using hk)]
  have : g ≠ k := fun e => hne e.symm
  simp [putRow, mapBlock, Sort.ahead, Array.getElem?_modify, this]
theorem sw_own {α : Type} [Inhabited α] {enc : α → Value} {w w' : World} {e : TypeId} {g n cap : Nat} {zs ys : List α} (hown : w.ownsRow 0 e 1 (.slice (some ⟨g, 0, none⟩) n cap) n (zs.map enc)) (hy : ys.length = n) (h : SW enc w g 0 ys.toArray w') :
    w'.ownsRow 0 e 1 (.slice (some ⟨g, 0, none⟩) n cap) n (ys.map enc) := by
  obtain ⟨q, os, rfl⟩ := h
  have h1 := Lib.ownsRow_putRow (q := q) (k := n) hown hy (Nat.le_refl n)
  rw [List.take_of_length_le (by omega)] at h1
  refine own_ch h1 (m := fun _ => False) ⟨rfl, rfl, rfl, by simp [sortWorld], fun k hk _ => ?_⟩ (fun _ _ h => h)
  exact heap_grow_old _ _ hk

set_option maxHeartbeats 1600000 in
theorem sortf_any (A : Option Addr) (n c : Nat) (w : World) (h62 : n < 4611686018427387904) {Q : Ending → World → Prop}
    (hp : Calls Tryz.prog 385 #[.slice A n c, .int .i64 0, .int .i64 n, .int .i64 (Lib.bitLen n : Nat), .func (.func 336) #[] #[]] w fun e w' => e = .returned (.tuple #[]) ∧ Q e w') :
    Calls Tryz.prog 335 #[.slice A n c, .func (.func 336) #[] #[]] w fun e w' => e = .returned (.tuple #[]) ∧ Q e w' := by
  have hl : Calls Tryz.prog 162 #[.int .u64 (n : Int)] w fun e w' => e = .returned (.int .i64 (Lib.bitLen n : Nat)) ∧ w' = w := by
    have h := Any.bits_Len (SlLaysF0.n15.bits (P := Tryz.prog) Tryz.lenL) (n : Int) w (by omega) (by omega)
    rwa [Int.toNat_natCast] at h
  have wr : IntKind.u64.wrap (n : Int) = n := by simp [IntKind.wrap, IntKind.bits, IntKind.signed]; omega
  generalize Lib.bitLen n = l at *
  have HP := Lib.hid hp
  have HL := Lib.hid hl
  clear hp hl
  go_enter Tryz.func335, Tryz.ntmps335
  go_wp2_with (first
    | (go_at_call 162; refine (HL.out).mono ?_; rintro e w' ⟨rfl, rfl⟩)
    | (go_at_call 385; refine (HP.out).mono ?_; rintro e w' ⟨rfl, hQ⟩))
  go_end0
  exact ⟨rfl, hQ⟩

set_option maxHeartbeats 4000000 in
theorem byH_holds (hd : Nat → Int) (tk : Nat → Nat) : ByH hd tk := by
  intro w A c xs hlen hown hT
  have key : Calls Tryz.prog 335 #[.slice A xs.length c, .func (.func 336) #[] #[]] w fun e w' => e = .returned (.tuple #[]) ∧
      ∃ zs : List Nat, zs.Perm xs ∧ zs.Pairwise (fun a b => hd a ≤ hd b) ∧ w'.ownsRow 0 240 1 (.slice A xs.length c) xs.length (zs.map ptr) ∧ Ch w w' (fun k => (Value.slice A xs.length c).ownBlock = some k) := by
    rcases xs with _ | ⟨x0, xr⟩
    · refine sortf_any A 0 c w (by omega) (Q := fun e w' => ∃ zs : List Nat, zs.Perm [] ∧ zs.Pairwise (fun a b => hd a ≤ hd b) ∧ w'.ownsRow 0 240 1 (.slice A 0 c) 0 (zs.map ptr) ∧ Ch w w' (fun k => (Value.slice A 0 c).ownBlock = some k)) ?_
      have hn := AnyF.pdqsortCmpFunc_none (P := Tryz.prog) (ρ := Tryz.pdqL_ren) { Tryz.pdqL with } A c (Lib.bitLen 0 : Nat) (.func (.func 336) #[] #[]) w
      change Calls Tryz.prog 385 _ _ _ at hn
      exact hn.mono fun e w' ⟨he, hw⟩ => ⟨he, [], .refl _, .nil, by rw [hw]; exact hown, by rw [hw]; exact Ch.refl _ _⟩
    · generalize hxs : x0 :: xr = xs at *
      have hx0 : x0 ∈ xs := by rw [← hxs]; exact List.mem_cons_self ..
      have hpos : 0 < xs.length := List.length_pos_of_mem hx0
      letI : Inhabited {b // b ∈ xs} := ⟨⟨x0, hx0⟩⟩
      have hmap : xs.attach.map (fun b => ptr b.1) = xs.map ptr := by
        have h1 : xs.attach.map (fun b => ptr b.1) = (xs.attach.map (fun b : {b // b ∈ xs} => b.1)).map ptr := by rw [List.map_map]; rfl
        rw [h1, List.attach_map_subtype_val]
      have hown1 : w.ownsRow 0 240 1 (.slice A xs.length c) xs.length (xs.attach.map (fun b => ptr b.1)) := by rw [hmap]; exact hown
      obtain ⟨g, cap, hv, _, hg, _, _, hal, hH⟩ := Lib.holds_of_ownsRow hown1 (by intro e; injection e with _ e; omega)
      injection hv with hA _ hc
      subst hA
      obtain rfl := hc
      have hsz : xs.attach.toArray.size = xs.length := by simp
      have hcmp : CmpLays1 Tryz.prog 336 #[] (fun b : {b // b ∈ xs} => ptr b.1) (fun x y => Lib.compareInt (hd x.1) (hd y.1)) g 0 xs.attach.toArray.size w := by
        refine CmpReads.lays fun m os dk hs x y => ?_
        have hcell : ∀ b : {b // b ∈ xs}, (sortWorld (fun b : {b // b ∈ xs} => ptr b.1) w g 0 m dk os).cell? ⟨b.1, 0, none⟩ = some (.int .i64 (hd b.1)) := fun b => by
          obtain ⟨⟨q, t⟩, hne⟩ := hT b.1 b.2
          exact (sw_ch ⟨m, os, rfl⟩).cell t.c0 (fun e => hne (by simp only at e; rw [e]; rfl))
        exact hclos_any x.1 y.1 (hd x.1) (hd y.1) _ (hcell x) (hcell y)
      have eg : ∀ args w, (callFunc 336 args).run Tryz.prog w = .ok (.enter 336 args) w := enters_of Tryz.func336 (by kernel_rfl) rfl
      have hO := swo_cmp (fun b : {b // b ∈ xs} => hd b.1)
      have hlim : Lib.bitLen xs.attach.toArray.size < 4611686018427387904 := Nat.lt_of_le_of_lt (Lib.bitLen_le _ 62 (by omega) (by omega)) (by omega)
      have hp := Any.pdqsortCmpFunc_all Tryz.pdqL (fun b : {b // b ∈ xs} => ptr b.1) (fun x y => Lib.compareInt (hd x.1) (hd y.1)) 336 #[] hO g 0 c xs.attach.toArray w eg hcmp ⟨fun _ => rfl, hH, hg⟩ (xs.attach.toArray.size + 1) 0 xs.attach.toArray.size (Lib.bitLen xs.attach.toArray.size) xs.attach.toArray w
        (by omega) rfl (SW.start hH) (Nat.zero_le _) (Nat.le_refl _) (by omega) hlim (Or.inl rfl)
      change Calls Tryz.prog 385 _ _ _ at hp
      have hs := pdq_sorts (ltOf (fun x y : {b // b ∈ xs} => Lib.compareInt (hd x.1) (hd y.1))) hO xs.attach.toArray 0 xs.attach.toArray.size (Lib.bitLen xs.attach.toArray.size) true true (Nat.zero_le _) (Nat.le_refl _) (Or.inl rfl)
      generalize pdq (ltOf (fun x y : {b // b ∈ xs} => Lib.compareInt (hd x.1) (hd y.1))) xs.attach.toArray 0 xs.attach.toArray.size (Lib.bitLen xs.attach.toArray.size) true true = d' at *
      obtain ⟨⟨p1, p2, p3⟩, s1⟩ := hs
      rw [hsz] at hp p1 p3 s1
      refine sortf_any _ xs.length c w (by omega) (Q := fun e w' => ∃ zs : List Nat, zs.Perm xs ∧ zs.Pairwise (fun a b => hd a ≤ hd b) ∧ w'.ownsRow 0 240 1 (.slice (some ⟨g, 0, none⟩) xs.length c) xs.length (zs.map ptr) ∧ Ch w w' (fun k => (Value.slice (some ⟨g, 0, none⟩) xs.length c).ownBlock = some k)) (hp.mono fun e w' ⟨he, hw⟩ => ⟨he, d'.toList.map (·.1), ?_, ?_, ?_, ?_⟩)
      · have e1 : d'.extract 0 xs.length = d' := by rw [← p1]; simp
        have e2 : xs.attach.toArray.extract 0 xs.length = xs.attach.toArray := by simp; exact List.take_of_length_le (by omega)
        rw [e1, e2] at p3
        have h9 := p3.map (fun b : {b // b ∈ xs} => b.1)
        rw [List.attach_map_subtype_val] at h9
        exact h9
      · rw [List.pairwise_map, List.pairwise_iff_getElem]
        intro i j hi hj hij
        have h1 := s1 i j (Nat.zero_le _) hij (by simpa [p1] using hj)
        rw [lt_cmp (fun b : {b // b ∈ xs} => hd b.1), decide_eq_false_iff_not, getElem!_pos d' i (by simpa using hi), getElem!_pos d' j (by simpa using hj)] at h1
        simp only [Array.getElem_toList]
        omega
      · rw [List.map_map]
        exact sw_own hown1 (by simpa using p1) hw
      · exact (sw_ch hw).mono fun k _ e => by rw [e]; rfl
  have HK := Lib.hid key
  clear key hown hT
  generalize hl : xs.length = l at *
  go_enter Tryz.func268, Tryz.ntmps268
  go_wp2_with (first
    | (go_at_call 335; refine (HK.out).mono ?_; rintro e w' ⟨rfl, zs, q1, q2, q3, q4⟩))
  go_ret
  exact ⟨rfl, zs, q1, q2, q3, q4⟩
end

end Go.Proofs.YtlcegchdkigibaaGreatDoor.LW

namespace Go.Proofs.YtlcegchdkigibaaGreatDoor.LW
set_option linter.unusedVariables false
set_option linter.unusedSimpArgs false
open Go.RowKit

section
open Go.Shelf Go.Lib Go.Sort
theorem pick_least {α : Type} [Inhabited α] (f : α → Int) (d : Array α) : ∀ i, (∃ j, j ≤ i ∧ Lib.pickBy (fun x m => decide (Lib.compareInt (f x) (f m) < 0)) d i = d[j]!) ∧ ∀ j, j ≤ i → f (Lib.pickBy (fun x m => decide (Lib.compareInt (f x) (f m) < 0)) d i) ≤ f d[j]!
  | 0 => ⟨⟨0, Nat.le_refl _, rfl⟩, fun j hj => by have e : j = 0 := Nat.le_zero.1 hj; subst e; exact Int.le_refl _⟩
  | i + 1 => by
    obtain ⟨⟨j0, h0, e0⟩, h1⟩ := pick_least f d i
    have hb : ∀ x m : α, decide (Lib.compareInt (f x) (f m) < 0) = decide (f x < f m) := fun x m => lt_cmp f x m
    unfold Lib.pickBy
    rw [hb]
    by_cases h : f d[i + 1]! < f (Lib.pickBy (fun x m => decide (Lib.compareInt (f x) (f m) < 0)) d i)
    · rw [decide_eq_true h, if_pos rfl]
      refine ⟨⟨i + 1, Nat.le_refl _, rfl⟩, fun j hj => ?_⟩
      by_cases e : j = i + 1
      · subst e
        exact Int.le_refl _
      · have := h1 j (by omega)
        omega
    · rw [decide_eq_false h, if_neg (by simp)]
      refine ⟨⟨j0, by omega, e0⟩, fun j hj => ?_⟩
      by_cases e : j = i + 1
      · subst e
        omega
      · exact h1 j (by omega)

/-- A world of the sort's in which the row is what it was: nothing that was there has turned. -/
theorem sw_below {α : Type} [Inhabited α] {enc : α → Value} {w w' : World} {g off : Nat} {d : Array α} (hH : Holds enc w g off d) (h : SW enc w g off d w') : Below w.heap.size w w' := by
  obtain ⟨n, os, rfl⟩ := h
  unfold sortWorld
  rw [putRow_self enc (Sort.ahead w n) g off d (holds_ahead enc w n g off d hH)]
  exact ⟨rfl, rfl, rfl, by simp [Sort.ahead], fun k hk => heap_grow_old (Sort.ahead w n) os hk⟩

end

end Go.Proofs.YtlcegchdkigibaaGreatDoor.LW

namespace Go.Proofs.YtlcegchdkigibaaGreatDoor.LW
set_option linter.unusedVariables false
set_option linter.unusedSimpArgs false
open Go.RowKit

theorem Rings.below {w w' : World} {lab : Nat → Nat} {nb : Nat → Nat} {V : Nat → Nat → Value} {L : Lists} {hd : Nat → Int} {tk : Nat → Nat} (R : Rings w lab nb V L hd tk) (h : RowKit.Below w.heap.size w w') : Rings w' lab nb V L hd tk :=
  R.keep h.size fun k hk => h.block k (R.lt k (by omega))

theorem Pl.stretch {L : Lists} {tk : Nat → Nat} {n : Nat} (h : Pl L tk n) {r i b : Nat} (hr : r < 3) (hi : i < 16) (hb : b ∈ L r i) : i = tk b / wide r % 16 ∧ n / wide r + 1 ≤ tk b / wide r ∧ tk b / wide r ≤ n / wide r + 16 := by
  obtain ⟨a1, a2, a3, a4⟩ := h r i b hr hi hb
  refine ⟨a2, ?_⟩
  rw [hmR2] at a1
  rcases (by omega : r = 0 ∨ r = 1 ∨ r = 2) with rfl | rfl | rfl
  · rw [wide0]
    split at a1
    · split at a1
      · omega
      · omega
    · omega
  · rw [wide1]
    split at a1
    · split at a1
      · omega
      · omega
    · omega
  · rw [wide2]
    split at a1
    · split at a1
      · omega
      · omega
    · omega

/-- The earliest tick of ring r. -/
def First (r : Nat) (L : Lists) (tk : Nat → Nat) (t : Int) (ok : Bool) : Prop :=
  (ok = true → ∃ i b, i < 16 ∧ b ∈ L r i ∧ t = tk b ∧ ∀ i' b', i' < 16 → b' ∈ L r i' → tk b ≤ tk b') ∧ (ok = false → t = 0 ∧ ∀ i, i < 16 → L r i = [])

/-- The earliest tick of the rings up to r. -/
def FirstTo (r : Nat) (L : Lists) (tk : Nat → Nat) (t : Int) (ok : Bool) : Prop :=
  (ok = true → ∃ r1 i b, r1 ≤ r ∧ i < 16 ∧ b ∈ L r1 i ∧ t = tk b ∧ ∀ r2 i' b', r2 ≤ r → i' < 16 → b' ∈ L r2 i' → tk b ≤ tk b') ∧ (ok = false → t = 0 ∧ ∀ r1 i, r1 ≤ r → i < 16 → L r1 i = [])

theorem FirstTo.leaf {L : Lists} {tk : Nat → Nat} {t : Int} {ok : Bool} (h : First 0 L tk t ok) : FirstTo 0 L tk t ok :=
  ⟨fun e => by
    obtain ⟨i, b, h1, h2, h3, h4⟩ := h.1 e
    exact ⟨0, i, b, Nat.le_refl _, h1, h2, h3, fun r2 i' b' hr hi hb => by obtain rfl := Nat.le_zero.1 hr; exact h4 i' b' hi hb⟩,
   fun e => ⟨(h.2 e).1, fun r1 i hr hi => by obtain rfl := Nat.le_zero.1 hr; exact (h.2 e).2 i hi⟩⟩

theorem FirstTo.inner {L : Lists} {tk : Nat → Nat} {n : Nat} (hP : Pl L tk n) {r : Nat} (hr : r < 2) {t : Int} (h : FirstTo r L tk t true) : FirstTo (r + 1) L tk t true :=
  ⟨fun _ => by
    obtain ⟨r1, i, b, h0, h1, h2, h3, h4⟩ := h.1 rfl
    refine ⟨r1, i, b, by omega, h1, h2, h3, fun r2 i' b' hr2 hi hb => ?_⟩
    by_cases e : r2 ≤ r
    · exact h4 r2 i' b' e hi hb
    · obtain rfl : r2 = r + 1 := by omega
      obtain ⟨a1, a2, a3, a4⟩ := hP r1 i b (by omega) h1 h2
      obtain ⟨c1, c2, c3, c4⟩ := hP (r + 1) i' b' (by omega) hi hb
      rw [hmR2] at a1 c1
      split at a1
      · split at a1
        · split at c1
          · split at c1
            · omega
            · omega
          · omega
        · split at c1
          · split at c1
            · omega
            · omega
          · omega
      · omega,
   fun e => by cases e⟩

theorem FirstTo.outer {L : Lists} {tk : Nat → Nat} {r : Nat} {t t' : Int} {ok : Bool} (h : FirstTo r L tk t false) (h' : First (r + 1) L tk t' ok) : FirstTo (r + 1) L tk t' ok :=
  ⟨fun e => by
    obtain ⟨i, b, h1, h2, h3, h4⟩ := h'.1 e
    refine ⟨r + 1, i, b, Nat.le_refl _, h1, h2, h3, fun r2 i' b' hr2 hi hb => ?_⟩
    by_cases e : r2 ≤ r
    · rw [(h.2 rfl).2 r2 i' e hi] at hb
      cases hb
    · obtain rfl : r2 = r + 1 := by omega
      exact h4 i' b' hi hb,
   fun e => ⟨(h'.2 e).1, fun r1 i hr hi => by
    by_cases e' : r1 ≤ r
    · exact (h.2 rfl).2 r1 i e' hi
    · obtain rfl : r1 = r + 1 := by omega
      exact (h'.2 e).2 i hi⟩⟩

end Go.Proofs.YtlcegchdkigibaaGreatDoor.LW

namespace Go.Proofs.YtlcegchdkigibaaGreatDoor.LW
set_option linter.unusedVariables false
set_option linter.unusedSimpArgs false
open Go.RowKit

/-- A nest that is new: its lists are empty. -/
def nestO (d : Int) (v : Value) : Obj := .cells #[.int .i64 d, .slice none 0 0, .slice none 0 0, .slice none 0 0, .slice none 0 0, .slice none 0 0, .slice none 0 0, .slice none 0 0, .slice none 0 0, .slice none 0 0, .slice none 0 0, .slice none 0 0, .slice none 0 0, .slice none 0 0, .slice none 0 0, .slice none 0 0, .slice none 0 0, v] 305

set_option maxHeartbeats 1600000 in
theorem rings_any (w : World) :
    Calls Tryz.prog 170 #[.int .i64 3] w fun e w' => e = .returned (ptr (w.heap.size + 2)) ∧
      w' = ((w.alloc (nestO 1 (.pointer none))).alloc (nestO 16 (ptr w.heap.size))).alloc (nestO 256 (ptr (w.heap.size + 1))) := by
  unfold nestO ptr
  go_enter Tryz.func170, Tryz.ntmps170
  go_wp2_with fail
  refine wp_loop_rounds 4 ?_
  rw [rounds_succ]
  go_wp2_with fail
  rw [rounds_succ]
  go_wp2_with fail
  rw [rounds_succ]
  go_wp2_with fail
  rw [rounds_succ]
  go_wp2_with fail
  go_ret
  exact ⟨rfl, rfl⟩

end Go.Proofs.YtlcegchdkigibaaGreatDoor.LW

namespace Go.Proofs.YtlcegchdkigibaaGreatDoor.LW
set_option linter.unusedVariables false
set_option linter.unusedSimpArgs false
open Go.RowKit

/-- How a pointer in the map reads: as the number of its block. -/
def pe : Value → Option (DataW Unit × List MemPlace)
  | .pointer none => some (.nil, [])
  | .pointer (some ⟨b, 0, none⟩) => some (.lit (.int .i64 (b : Int)), [])
  | _ => none
theorem pe_ptr (b : Nat) : pe (ptr b) = some (.lit (.int .i64 (b : Int)), []) := rfl
theorem pe_inv {v : Value} {b : Nat} {ps : List MemPlace} (h : pe v = some (.lit (.int .i64 (b : Int)), ps)) : v = ptr b := by
  unfold pe at h
  split at h
  · cases h
  · injection h with h
    injection h with h _
    injection h with h
    injection h with _ h
    have : (_ : Nat) = b := Int.ofNat.inj h
    rw [this]
    rfl
  · cases h
theorem pe_nil {v : Value} {ps : List MemPlace} (h : pe v = some (.nil, ps)) : v = .pointer none := by
  unfold pe at h
  split at h
  · rfl
  · injection h with h
    injection h with h _
    cases h
  · cases h

def isI (h : Int) : Prop := -9223372036854775808 ≤ h ∧ h ≤ 9223372036854775807
theorem isI.wf {h : Int} (i : isI h) : (Lit.int .i64 h).wf = true := by
  unfold isI at i
  simp [Lit.wf, IntKind.min, IntKind.max, IntKind.bits, IntKind.signed]
  omega

theorem keyInt : Maps.Keyed Tryz.prog 3 := Maps.int_keyed Tryz.underlying3
theorem keyOfInt {h : Int} (i : isI h) : keyOf Tryz.prog 3 (.int .i64 h) = some (.int .i64 h) := Maps.keyOf_int_mk Tryz.underlying3 i.wf

/-- Block mb is a map of n handles: F says which timer's block a handle has. -/
def MapIs (w : World) (mb : Nat) (F : Int → Option Nat) (n : Nat) : Prop :=
  ∃ D : DataW Unit, w.ownsMap Tryz.prog 3 pe mb n D ∧ Maps.size D = n ∧ (∀ h, isI h → Maps.has D (.int .i64 h) = (F h).isSome) ∧ ∀ h b, isI h → F h = some b → ∀ z, D.atKey (.int .i64 h) z = .lit (.int .i64 (b : Int))

section
variable {w w' : World} {mb n : Nat} {F : Int → Option Nat}
theorem MapIs.lt (h : MapIs w mb F n) : mb < w.heap.size := h.elim fun _ h => h.1.lt
theorem MapIs.keep (h : MapIs w mb F n) (e : w'.heap[mb]? = w.heap[mb]?) : MapIs w' mb F n := by
  obtain ⟨D, ⟨es, cl, hb, rest⟩, r2⟩ := h
  exact ⟨D, ⟨es, cl, e.trans hb, rest⟩, r2⟩
theorem MapIs.made (w : World) : MapIs (w.alloc (.map #[] 0)) w.heap.size (fun _ => none) 0 :=
  ⟨.map [], World.ownsMap_made w _ _ _, rfl, fun _ _ => rfl, fun _ _ _ h => by cases h⟩

theorem isKeyI (h : Int) (i : isI h) : WideAt.IsKeyLit (.int .i64 h) := by
  first
    | exact trivial
    | simp [WideAt.IsKeyLit]

end

section
variable {w : World} {ops : Array Oper} {rest : List Oper} {o : Oper} {a : Act} {Q : Exit → Act → World → Prop} {mb n : Nat} {F : Int → Option Nat}

theorem zeroT (w : World) : (zeroValue 240).run Tryz.prog w = .ok (.pointer none) w := Tryz.zeroValue240 w

theorem wpList_lookM (hg : o.guard = none) (m x : Operand) (hop : o.op = Op.lookup 170 m x true) (hm : a.eval m = .map (some mb)) (hM : MapIs w mb F n) {h : Int} (i : isI h) (hx : a.eval x = .int .i64 h) {r : Option Nat} (hF : F h = r)
    (hK : wpList Tryz.prog ops Q rest (a.put o.dst (.tuple #[(match r with | some b => ptr b | none => .pointer none), .bool r.isSome])) w) :
    wpList Tryz.prog ops Q (o :: rest) a w := by
  obtain ⟨D, hown, _, h1, h2⟩ := hM
  refine wpList_lookup_own_ok w hg m x 170 hop 3 240 keyInt Tryz.underlying170 pe (zeroT w) .nil [] rfl mb n D hm hown (.int .i64 h) (.int .i64 h) hx (keyOfInt i) fun v ps hv => ?_
  rw [h1 h i, hF]
  cases r with
  | none =>
    have h3 := h1 h i
    rw [hF] at h3
    rw [Maps.atKey_of_not_has h3] at hv
    rw [pe_nil hv]
    exact hK
  | some b =>
    rw [h2 h b i hF] at hv
    rw [pe_inv hv]
    exact hK

theorem wpList_delM (hg : o.guard = none) (m x : Operand) (hop : o.op = Op.call { callee := Callee.builtin Builtin.delete, args := #[m, x], argTypes := #[170, 3] }) (hm : a.eval m = .map (some mb)) (hM : MapIs w mb F n) {h : Int} (i : isI h) (hx : a.eval x = .int .i64 h) {b : Nat} (hF : F h = some b)
    (hK : ∀ w', MapIs w' mb (fun k => if k = h then none else F k) (n - 1) → w.mapTurned w' mb → wpList Tryz.prog ops Q rest (a.put o.dst (.tuple #[])) w') :
    wpList Tryz.prog ops Q (o :: rest) a w := by
  obtain ⟨D, hown, hsz, h1, h2⟩ := hM
  refine wpList_delete_own w hg m x 170 3 hop 240 keyInt Tryz.underlying170 pe mb n D hm hown (.int .i64 h) (.int .i64 h) hx (keyOfInt i) fun w' hown' ht => hK w' ?_ ht
  have hs := Maps.size_del (k := .int .i64 h) (hown.tidy keyInt)
  rw [h1 h i, hF, hsz] at hs
  simp at hs
  have hs1 : Maps.size (D.del (.int .i64 h)) = n - 1 := by omega
  refine ⟨D.del (.int .i64 h), ?_, hs1, fun k ik => ?_, fun k b' ik hk z => ?_⟩
  · obtain ⟨es, cl, hb, hf, hle, he⟩ := hown'
    refine ⟨es, cl, hb, hf, ?_, he⟩
    rw [he] at hs1
    simp only [Maps.size, length_sorted, List.length_map, Array.length_toList] at hs1
    omega
  · show Maps.has _ _ = (if k = h then none else F k).isSome
    by_cases e : k = h
    · subst e
      rw [if_pos rfl, Maps.has_del_same]
      rfl
    · rw [if_neg e, Maps.has_del_other (fun e' => e (by injection e')), h1 k ik]
  · replace hk : (if k = h then none else F k) = some b' := hk
    by_cases e : k = h
    · subst e
      rw [if_pos rfl] at hk
      cases hk
    · rw [if_neg e] at hk
      rw [Maps.atKey_del_other (fun e' => e (by injection e'))]
      exact h2 k b' ik hk z

theorem wpList_putM (hg : o.guard = none) (m x v : Operand) (hop : o.op = Op.mapUpdate 170 m x v) (hm : a.eval m = .map (some mb)) (hM : MapIs w mb F n) {h : Int} (i : isI h) (hx : a.eval x = .int .i64 h) (hF : F h = none) {b : Nat} (hv : a.eval v = ptr b) (hn : n ≤ 1099511627776)
    (hK : ∀ w', MapIs w' mb (fun k => if k = h then some b else F k) (n + 1) → w.mapTurned w' mb → wpList Tryz.prog ops Q rest (a.put o.dst undef) w') :
    wpList Tryz.prog ops Q (o :: rest) a w := by
  obtain ⟨D, hown, hsz, h1, h2⟩ := hM
  refine wpList_mapUpdate_in w hg m x v 170 hop 3 240 keyInt Tryz.underlying170 pe mb n D hm hown (by unfold maxLen; omega) (.int .i64 h) (ptr b) (.int .i64 h) hx hv (keyOfInt i) _ [] (pe_ptr b) fun w' hown' ht => hK w' ?_ ht
  have hs := Maps.size_put (k := .int .i64 h) (hown.tidy keyInt) (.lit (.int .i64 (b : Int)))
  rw [h1 h i, hF, hsz] at hs
  simp at hs
  refine ⟨_, hown', hs, fun k ik => ?_, fun k b' ik hk z => ?_⟩
  · show Maps.has _ _ = (if k = h then some b else F k).isSome
    by_cases e : k = h
    · subst e
      rw [if_pos rfl, Maps.has_put_same hown.isMap (isKeyI k i)]
      rfl
    · rw [if_neg e, Maps.has_put_other (fun e' => e (by injection e')), h1 k ik]
  · replace hk : (if k = h then some b else F k) = some b' := hk
    by_cases e : k = h
    · subst e
      rw [if_pos rfl] at hk
      injection hk with hk
      subst hk
      exact Maps.atKey_put_same hown.isMap (isKeyI k i) _ _
    · rw [if_neg e] at hk
      rw [Maps.atKey_put_other (fun e' => e (by injection e'))]
      exact h2 k b' ik hk z

theorem wpList_lenM (hg : o.guard = none) (m : Operand) (hop : o.op = Op.call { callee := Callee.builtin Builtin.len, args := #[m], argTypes := #[170] }) (hm : a.eval m = .map (some mb)) (hM : MapIs w mb F n)
    (hK : wpList Tryz.prog ops Q rest (a.put o.dst (.int .i64 (n : Int))) w) :
    wpList Tryz.prog ops Q (o :: rest) a w := by
  obtain ⟨D, hown, hsz, _⟩ := hM
  refine wpList_len_own w hg m 170 hop 3 240 Tryz.underlying170 pe mb n D hm hown ?_
  rw [hsz]
  exact hK
end

end Go.Proofs.YtlcegchdkigibaaGreatDoor.LW

namespace Go.Proofs.YtlcegchdkigibaaGreatDoor.LW
set_option linter.unusedVariables false
set_option linter.unusedSimpArgs false
open Go.RowKit

/-- The timer that is armed for a handle. -/
def fdb (hd : Nat → Int) (U : List Nat) (h : Int) : Option Nat := U.find? (fun b => decide (hd b = h))
theorem fdb_some {hd : Nat → Int} {U : List Nat} {h : Int} {b : Nat} (e : fdb hd U h = some b) : b ∈ U ∧ hd b = h := by
  unfold fdb at e
  exact ⟨List.mem_of_find?_eq_some e, by simpa using List.find?_some e⟩
theorem fdb_none {hd : Nat → Int} {U : List Nat} {h : Int} (e : fdb hd U h = none) : ∀ b ∈ U, hd b ≠ h := by
  unfold fdb at e
  intro b hb
  simpa using List.find?_eq_none.1 e b hb
theorem fdb_of {hd : Nat → Int} {U : List Nat} (hdist : ∀ a b, a ∈ U → b ∈ U → hd a = hd b → a = b) {b : Nat} (hb : b ∈ U) : fdb hd U (hd b) = some b := by
  cases e : fdb hd U (hd b) with
  | none => exact absurd rfl (fdb_none e b hb)
  | some c =>
    obtain ⟨h1, h2⟩ := fdb_some e
    rw [hdist c b h1 hb h2]

/-- A wheel stands at block wb: its tick n, its timers U. -/
structure Wheel (w : World) (lab : Nat → Nat) (wb mb : Nat) (nb : Nat → Nat) (V : Nat → Nat → Value) (L : Lists) (hd : Nat → Int) (tk : Nat → Nat) (n : Nat) (U : List Nat) : Prop where
  rings : Rings w lab nb V L hd tk
  wlab : lab wb = 1
  whl : w.heap[wb]? = some (.cells #[ptr (nb 2), .int .i64 (n : Int), .map (some mb)] 172 (0, 0))
  mlab : lab mb = 2
  map : MapIs w mb (fdb hd U) U.length
  mem : ∀ b, InL L b ↔ b ∈ U
  pl : Pl L tk n
  nd : U.Nodup
  dist : ∀ a b, a ∈ U → b ∈ U → hd a = hd b → a = b
  hI : ∀ b ∈ U, isI (hd b)

section
variable {w w' : World} {lab : Nat → Nat} {wb mb : Nat} {nb : Nat → Nat} {V : Nat → Nat → Value} {L : Lists} {hd : Nat → Int} {tk : Nat → Nat} {n : Nat} {U : List Nat}

theorem Wheel.ch (h : Wheel w lab wb mb nb V L hd tk n U) {m : Nat → Prop} (c : Ch w w' m) (hm : ∀ k, m k → lab k = 0) : Wheel w' lab wb mb nb V L hd tk n U :=
  { h with
    rings := h.rings.ch c fun k hk => by have := hm k hk; omega
    whl := (c.block wb (Array.getElem?_eq_some_iff.1 h.whl).1 fun e => by have := hm wb e; have := h.wlab; omega).trans h.whl
    map := h.map.keep (c.block mb h.map.lt fun e => by have := hm mb e; have := h.mlab; omega) }
theorem Wheel.below (h : Wheel w lab wb mb nb V L hd tk n U) (c : RowKit.Below w.heap.size w w') : Wheel w' lab wb mb nb V L hd tk n U :=
  h.ch (Ch.of_below (fun _ => False) c) fun _ h => h.elim
theorem Wheel.c0 (h : Wheel w lab wb mb nb V L hd tk n U) : w.cell? ⟨wb, 0, none⟩ = some (.pointer (some ⟨nb 2, 0, none⟩)) := by rw [cell_of_row w wb 0 _ _ (0, 0) h.whl]; rfl
theorem Wheel.c1 (h : Wheel w lab wb mb nb V L hd tk n U) : w.cell? ⟨wb, 1, none⟩ = some (.int .i64 (n : Int)) := by rw [cell_of_row w wb 1 _ _ (0, 0) h.whl]; rfl
theorem Wheel.c2 (h : Wheel w lab wb mb nb V L hd tk n U) : w.cell? ⟨wb, 2, none⟩ = some (.map (some mb)) := by rw [cell_of_row w wb 2 _ _ (0, 0) h.whl]; rfl
theorem Wheel.fz (h : Wheel w lab wb mb nb V L hd tk n U) (j : Nat) : w.frozen? ⟨wb, j, none⟩ = false := by simp [World.frozen?, h.whl]
theorem Wheel.lt (h : Wheel w lab wb mb nb V L hd tk n U) : wb < w.heap.size := (Array.getElem?_eq_some_iff.1 h.whl).1
theorem Wheel.tim (h : Wheel w lab wb mb nb V L hd tk n U) {b : Nat} (hb : b ∈ U) : lab b = 3 ∧ ∃ r i j, r < 3 ∧ i < 16 ∧ (L r i)[j]? = some b ∧ TimAt w hd tk b j := by
  obtain ⟨r, i, h1, h2, h3⟩ := (h.mem b).2 hb
  obtain ⟨j, hj, e⟩ := List.getElem_of_mem h3
  have hjj : (L r i)[j]? = some b := by rw [List.getElem?_eq_getElem hj, e]
  obtain ⟨t1, t2⟩ := h.rings.tim r i h1 h2 j b hjj
  exact ⟨t1, r, i, j, h1, h2, hjj, t2⟩
theorem Wheel.due (h : Wheel w lab wb mb nb V L hd tk n U) {b : Nat} (hb : b ∈ U) : n < tk b ∧ tk b ≤ n + 4096 := by
  obtain ⟨r, i, h1, h2, h3⟩ := (h.mem b).2 hb
  exact (h.pl r i b h1 h2 h3).2.2

theorem now_any (h : Wheel w lab wb mb nb V L hd tk n U) : Calls Tryz.prog 86 #[ptr wb] w fun e w' => e = .returned (.int .i64 (n : Int)) ∧ w' = w := by
  have c1 := h.c1
  clear h
  unfold ptr
  go_enter Tryz.func86, Tryz.ntmps86
  go_wp2_with fail
  go_ret
  exact ⟨rfl, rfl⟩

theorem len_any (h : Wheel w lab wb mb nb V L hd tk n U) : Calls Tryz.prog 97 #[ptr wb] w fun e w' => e = .returned (.int .i64 (U.length : Int)) ∧ w' = w := by
  have c2 := h.c2
  have HM := Lib.hid h.map
  clear h
  unfold ptr
  go_enter Tryz.func97, Tryz.ntmps97
  go_wp2_with (first | (at_len; refine wpList_lenM rfl _ rfl rfl HM.out ?_))
  go_ret
  exact ⟨rfl, rfl⟩

end

end Go.Proofs.YtlcegchdkigibaaGreatDoor.LW

namespace Go.Proofs.YtlcegchdkigibaaGreatDoor.LW
set_option linter.unusedVariables false
set_option linter.unusedSimpArgs false
open Go.RowKit

/-- The timers without those of a handle. -/
def wo (hd : Nat → Int) (U : List Nat) (x : Int) : List Nat := U.filter (fun b => decide (hd b ≠ x))
theorem mem_wo {hd : Nat → Int} {U : List Nat} {x : Int} {b : Nat} : b ∈ wo hd U x ↔ b ∈ U ∧ hd b ≠ x := by
  unfold wo
  rw [List.mem_filter, decide_eq_true_iff]
theorem fdb_wo (hd : Nat → Int) (U : List Nat) (x k : Int) : fdb hd (wo hd U x) k = if k = x then none else fdb hd U k := by
  unfold fdb wo
  rw [List.find?_filter]
  by_cases e : k = x
  · rw [if_pos e, List.find?_eq_none]
    intro b _
    simp [e]
  · rw [if_neg e]
    congr 1
    funext b
    by_cases h : hd b = k
    · simp [h, e]
    · simp [h]
theorem wo_none {hd : Nat → Int} {U : List Nat} {x : Int} (e : fdb hd U x = none) : wo hd U x = U := by
  unfold wo
  rw [List.filter_eq_self]
  intro b hb
  simpa using fdb_none e b hb
theorem wo_length {hd : Nat → Int} {U : List Nat} (hnd : U.Nodup) (hdist : ∀ a b, a ∈ U → b ∈ U → hd a = hd b → a = b) {x : Int} {b : Nat} (e : fdb hd U x = some b) : (wo hd U x).length = U.length - 1 := by
  obtain ⟨h1, h2⟩ := fdb_some e
  have h3 : wo hd U x = U.erase b := by
    rw [hnd.erase_eq_filter]
    unfold wo
    refine List.filter_congr fun a ha => ?_
    by_cases h : a = b
    · subst h
      simp [h2]
    · have : hd a ≠ x := fun h4 => h (hdist a b ha h1 (h4.trans h2.symm))
      simp [this, h]
  rw [h3, List.length_erase_of_mem h1]

section
variable {w : World} {lab : Nat → Nat} {wb mb : Nat} {nb : Nat → Nat} {V : Nat → Nat → Value} {L : Lists} {hd : Nat → Int} {tk : Nat → Nat} {n : Nat} {U : List Nat}

set_option maxHeartbeats 1600000 in
theorem cancel_none (h : Wheel w lab wb mb nb V L hd tk n U) {x : Int} (hx : isI x) {g : Nat} (hg : w.cell? ⟨g, 0, none⟩ = some (.int .i64 x)) (e : fdb hd U x = none) :
    Calls Tryz.prog 290 #[ptr wb, .slice (some ⟨g, 0, none⟩) 1 1] w fun e w' => e = .returned (.int .i64 0) ∧ Dr w w' := by
  have c2 := h.c2
  have HM := Lib.hid h.map
  have HE := Lib.hid e
  clear h e
  unfold ptr
  go_enter Tryz.func290, Tryz.ntmps290
  go_wp2_with fail
  refine wp_loop_rounds 2 ?_
  rw [rounds_succ]
  go_wp2_with (first | (at_lookup; refine wpList_lookM rfl _ _ rfl rfl HM.out hx rfl HE.out ?_))
  rw [rounds_succ]
  go_wp2_with fail
  go_ret
  exact ⟨rfl, 0, rfl⟩

theorem Wheel.cancelled {w9 w10 : World} (h : Wheel w lab wb mb nb V L hd tk n U) {x : Int} {b r i j : Nat} (e : fdb hd U x = some b) (hr : r < 3) (hi : i < 16) (hj : (L r i)[j]? = some b) {v : Value} {m : Nat}
    (R9 : Rings w9 lab nb (up2 V r i v) (up2 L r i (sd (L r i) j)) hd tk) (ch : Ch (w.drewN m) w9 (fun k => lab k = 3 ∨ lab k = 10 + r ∨ lab k = 100 + 16 * r + i))
    (M10 : MapIs w10 mb (fun k => if k = x then none else fdb hd U k) (U.length - 1)) (tu : w9.mapTurned w10 mb) :
    Wheel w10 lab wb mb nb (up2 V r i v) (up2 L r i (sd (L r i) j)) hd tk n (wo hd U x) ∧ Ch w w10 (fun k => lab k ≠ 0) := by
  obtain ⟨hbU, hbx⟩ := fdb_some e
  have hnd := h.rings.nodup hr hi
  have hm := h.mlab
  have c0 : Ch w9 w10 (fun k => k = mb) := (Ch.refl w9 (fun k => k = mb)).turned tu (fun _ => rfl)
  have c1 : Ch w w10 (fun k => lab k ≠ 0) := ((Ch.refl w (fun k => lab k ≠ 0)).drewN m).trans (ch.trans (m'' := fun k => lab k ≠ 0) c0 (fun k _ hk => by omega) (fun k _ hk => by rw [hk, hm]; omega)) (fun _ _ h => h) (fun _ _ h => h)
  have hmem : ∀ r' i' b', r' < 3 → i' < 16 → (b' ∈ up2 L r i (sd (L r i) j) r' i' ↔ b' ∈ L r' i' ∧ b' ≠ b) := fun r' i' b' h1 h2 => by
    by_cases q : r' = r ∧ i' = i
    · obtain ⟨rfl, rfl⟩ := q
      rw [up2_same, mem_sd hnd hj]
    · rw [up2_other _ _ q]
      refine ⟨fun hb => ⟨hb, fun q2 => q ?_⟩, fun hb => hb.1⟩
      subst q2
      exact h.pl.dj r' i' r i h1 h2 hr hi _ hb (List.mem_of_getElem? hj)
  have hbb : ∀ b', b' ∈ U → (b' ≠ b ↔ hd b' ≠ x) := fun b' hb' =>
    ⟨fun q q2 => q (h.dist b' b hb' hbU (q2.trans hbx.symm)), fun q q2 => q (by rw [q2, hbx])⟩
  refine ⟨⟨R9.ch c0 (fun k hk => by rw [hk, hm]; omega), h.wlab, ?_, hm, ?_, fun b' => ?_, fun r' i' b' h1 h2 hb => h.pl r' i' b' h1 h2 ((hmem r' i' b' h1 h2).1 hb).1, h.nd.filter _, fun a c ha hc => h.dist a c (mem_wo.1 ha).1 (mem_wo.1 hc).1, fun a ha => h.hI a (mem_wo.1 ha).1⟩, c1⟩
  · refine (c0.block wb ?_ ?_).trans ((ch.block wb h.lt ?_).trans h.whl)
    · exact Nat.lt_of_lt_of_le h.lt ch.size
    · intro q
      have := h.wlab
      rw [q, hm] at this
      omega
    · have := h.wlab
      omega
  · rw [wo_length h.nd h.dist e]
    have hf : (fun k => if k = x then none else fdb hd U k) = fdb hd (wo hd U x) := by
      funext k
      rw [fdb_wo]
    rw [← hf]
    exact M10
  · rw [mem_wo]
    constructor
    · rintro ⟨r', i', h1, h2, hb⟩
      obtain ⟨h3, h4⟩ := (hmem r' i' b' h1 h2).1 hb
      have h5 := (h.mem b').1 ⟨r', i', h1, h2, h3⟩
      exact ⟨h5, (hbb b' h5).1 h4⟩
    · rintro ⟨h5, h6⟩
      obtain ⟨r', i', h1, h2, h3⟩ := (h.mem b').2 h5
      exact ⟨r', i', h1, h2, (hmem r' i' b' h1 h2).2 ⟨h3, (hbb b' h5).2 h6⟩⟩

set_option maxHeartbeats 4000000 in
theorem cancel_some (h : Wheel w lab wb mb nb V L hd tk n U) {x : Int} (hx : isI x) (hn : n + 20000 ≤ 4611686018427387904) {g : Nat} (hg : w.cell? ⟨g, 0, none⟩ = some (.int .i64 x)) (hlg : lab g = 0) {b : Nat} (e : fdb hd U x = some b) :
    Calls Tryz.prog 290 #[ptr wb, .slice (some ⟨g, 0, none⟩) 1 1] w fun e w' => e = .returned (.int .i64 1) ∧
      ∃ V' L', Wheel w' lab wb mb nb V' L' hd tk n (wo hd U x) ∧ Ch w w' (fun k => lab k ≠ 0) := by
  obtain ⟨hbU, hbx⟩ := fdb_some e
  obtain ⟨hb3, r, i, j, hr, hi, hj, T⟩ := h.tim hbU
  have hdue := h.due hbU
  obtain ⟨p1, p2, _⟩ := h.pl r i b hr hi (List.mem_of_getElem? hj)
  have c0 := h.c0
  have c1 := h.c1
  have c2 := h.c2
  have t1 := T.c1
  have hH := fun m => home_any (tk b) n (by omega) (by omega) 2 (by omega) (w.drewN m) (h.rings.drewN m)
  rw [← p1, ← p2] at hH
  have hno : ∀ r' i', r' < 3 → i' < 16 → ¬(r' = r ∧ i' = i) → ∀ x ∈ L r i, x ∉ L r' i' := fun r' i' h1 h2 h3 x h4 h5 => h3 ((h.pl).dj r' i' r i h1 h2 hr hi x h5 h4)
  have hD := fun m => drop_any (h.rings.drewN m) hr hi hj hno
  have hl : ∀ {k : Nat}, (lab k = 3 ∨ lab k = 10 + r ∨ lab k = 100 + 16 * r + i) → lab k ≠ 0 := by omega
  have hwc : ∀ (m : Nat) (w9 : World), Ch (w.drewN m) w9 (fun k => lab k = 3 ∨ lab k = 10 + r ∨ lab k = 100 + 16 * r + i) → (∀ k, lab k = 3 → Tim (w.drewN m) hd tk k → Tim w9 hd tk k) →
      w9.cell? ⟨wb, 0, none⟩ = some (.pointer (some ⟨nb 2, 0, none⟩)) ∧ w9.cell? ⟨wb, 1, none⟩ = some (.int .i64 (n : Int)) ∧ w9.cell? ⟨wb, 2, none⟩ = some (.map (some mb)) ∧ w9.cell? ⟨b, 1, none⟩ = some (.int .i64 (tk b : Int)) ∧ MapIs w9 mb (fdb hd U) U.length := fun m w9 c t => by
    have hwb : ¬ (lab wb = 3 ∨ lab wb = 10 + r ∨ lab wb = 100 + 16 * r + i) := by have := h.wlab; omega
    exact ⟨c.cell (p := ⟨wb, 0, none⟩) c0 hwb, c.cell (p := ⟨wb, 1, none⟩) c1 hwb, c.cell (p := ⟨wb, 2, none⟩) c2 hwb, (t b hb3 ⟨j, T.keep rfl⟩).elim fun _ t => t.c1, h.map.keep (c.block mb h.map.lt (by have := h.mlab; omega))⟩
  have HM := Lib.hid h.map
  have HE := Lib.hid e
  have HH := Lib.hid hH
  have HD := Lib.hid hD
  have HWC := Lib.hid hwc
  have HW := Lib.hid h
  clear hH hD hwc e hno h p1 p2
  unfold ptr at *
  go_enter Tryz.func290, Tryz.ntmps290
  go_wp2_with fail
  go_loopw [5, 14] (fun nn ix wr => (ix = .int .i64 0 ∧ nn = .int .i64 0 ∧ wr = w) ∨ (ix = .int .i64 1 ∧ nn = .int .i64 1 ∧ ∃ V' L', Wheel wr lab wb mb nb V' L' hd tk n (wo hd U x) ∧ Ch w wr (fun k => lab k ≠ 0))) (fun _ ix _ => 2 - (intOf ix).toNat)
  case atStart => exact .inl ⟨rfl, rfl, rfl⟩
  case round =>
    rcases hrel with ⟨rfl, rfl, rfl⟩ | ⟨rfl, rfl, V', L', W2, ch2⟩
    · go_wp2_with (first | (at_lookup; refine wpList_lookM rfl _ _ rfl rfl HM.out hx rfl HE.out ?_; unfold ptr))
      go_region_held3 (fun W => W.cell? ⟨wb, 0, none⟩ = some (.pointer (some ⟨nb 2, 0, none⟩)) ∧ W.cell? ⟨wb, 1, none⟩ = some (.int .i64 (n : Int)) ∧ W.cell? ⟨b, 1, none⟩ = some (.int .i64 (tk b : Int)))
        (first
          | exact ⟨c0, c1, t1⟩
          | exact ⟨k0, k1, k3⟩)
        (first
          | (go_at_call 352; refine (HH.out 1).mono ?_; rintro e w8 ⟨rfl, m8, rfl⟩)
          | (go_at_call 353; refine (HD.out _).mono ?_; rintro e w9 ⟨rfl, v9, R9, ch9, T9⟩; obtain ⟨k0, k1, k2, k3, M9⟩ := HWC.out _ _ ch9 T9))
      go_wp2_with (first | (at_delete; refine wpList_delM rfl _ _ rfl rfl M9 hx rfl HE.out ?_; intro w10 M10 tu))
      obtain ⟨W10, ch10⟩ := (HW.out).cancelled HE.out hr hi hj R9 ch9 M10 tu
      go_roundw
      case rel => exact .inr ⟨rfl, rfl, _, _, W10, ch10⟩
      case measure => simp [intOf]
    · go_wp2_with fail
      go_ret
      exact ⟨rfl, V', L', W2, ch2⟩
end

end Go.Proofs.YtlcegchdkigibaaGreatDoor.LW

namespace Go.Proofs.YtlcegchdkigibaaGreatDoor.LW
set_option linter.unusedVariables false
set_option linter.unusedSimpArgs false
open Go.RowKit

section
variable {w : World} {lab : Nat → Nat} {wb mb : Nat} {nb : Nat → Nat} {V : Nat → Nat → Value} {L : Lists} {hd : Nat → Int} {tk : Nat → Nat} {n : Nat} {U : List Nat}

theorem cancel_any (h : Wheel w lab wb mb nb V L hd tk n U) {x : Int} (hx : isI x) (hn : n + 20000 ≤ 4611686018427387904) {g : Nat} (hg : w.cell? ⟨g, 0, none⟩ = some (.int .i64 x)) (hlg : lab g = 0) :
    Calls Tryz.prog 290 #[ptr wb, .slice (some ⟨g, 0, none⟩) 1 1] w fun e w' => e = .returned (.int .i64 (if (fdb hd U x).isSome then 1 else 0)) ∧
      ∃ V' L', Wheel w' lab wb mb nb V' L' hd tk n (wo hd U x) ∧ Ch w w' (fun k => lab k ≠ 0) := by
  cases e : fdb hd U x with
  | none =>
    refine (cancel_none h hx hg e).mono fun e' w' ⟨he, m, hw⟩ => ⟨he, V, L, ?_, ?_⟩
    · rw [wo_none e, hw]
      exact h.ch (m := fun _ => False) ((Ch.refl w _).drewN m) fun _ h => h.elim
    · rw [hw]
      exact (Ch.refl w _).drewN m
  | some b => exact (cancel_some h hx hn hg hlg e).mono fun e' w' ⟨he, V', L', h1, h2⟩ => ⟨he, V', L', h1, h2⟩

theorem find_congr {p q : Nat → Bool} : ∀ {l : List Nat}, (∀ a ∈ l, p a = q a) → l.find? p = l.find? q
  | [], _ => rfl
  | x :: l, h => by
    rw [List.find?_cons, List.find?_cons, h x (List.mem_cons_self ..), find_congr fun a ha => h a (List.mem_cons_of_mem _ ha)]

/-- The label of a new timer; its handle; its tick. -/
def labT (lab : Nat → Nat) (b : Nat) : Nat → Nat := fun k => if k = b then 3 else lab k
def hdT (hd : Nat → Int) (b : Nat) (x : Int) : Nat → Int := fun k => if k = b then x else hd k
def tkT (tk : Nat → Nat) (b t : Nat) : Nat → Nat := fun k => if k = b then t else tk k

theorem Wheel.inLt (h : Wheel w lab wb mb nb V L hd tk n U) {r i b : Nat} (hr : r < 3) (hi : i < 16) (hb : b ∈ L r i) : b < w.heap.size := by
  obtain ⟨j, hj, e⟩ := List.getElem_of_mem hb
  exact (h.rings.tim r i hr hi j b (by rw [List.getElem?_eq_getElem hj, e])).2.lt

/-- A new timer's block, the map with it: the rings with the new labels. -/
theorem Wheel.fresh {w3 w4 : World} (h : Wheel w lab wb mb nb V L hd tk n U) {x : Int} {t : Nat} (h3 : w3 = w.alloc (.cells #[.int .i64 x, .int .i64 (t : Int), .int .i64 0] 242)) (tu : w3.mapTurned w4 mb) :
    Rings w4 (labT lab w.heap.size) nb V L (hdT hd w.heap.size x) (tkT tk w.heap.size t) ∧ TimAt w4 (hdT hd w.heap.size x) (tkT tk w.heap.size t) w.heap.size 0 ∧ Ch w w4 (fun k => k = mb) := by
  have hlab : ∀ k, lab k ≠ 0 → labT lab w.heap.size k = lab k := fun k hk => by
    unfold labT
    rw [if_neg (by have := h.rings.lt k hk; omega)]
  have c3 : Ch w3 w4 (fun k => k = mb) := (Ch.refl w3 (fun k => k = mb)).turned tu (fun _ => rfl)
  have c4 : Ch w w4 (fun k => k = mb) := by
    refine ((Ch.refl w (fun k => k = mb)).alloc (.cells #[.int .i64 x, .int .i64 (t : Int), .int .i64 0] 242)).then_ ?_
    rw [← h3]
    exact c3
  have hm := h.mlab
  have hmlt := h.map.lt
  have hkeep : ∀ k, lab k = 3 ∨ 10 ≤ lab k → w4.heap[k]? = w.heap[k]? := fun k hk => c4.block k (h.rings.lt k (by omega)) (fun e => by rw [e, hm] at hk; omega)
  refine ⟨⟨fun r hr => ?_, fun r i hr hi => ?_, fun r i hr hi j b hj => ?_, fun b hb => ?_⟩, ?_, c4⟩
  · obtain ⟨a1, a2⟩ := h.rings.nest r hr
    exact ⟨by rw [hlab _ (by omega)]; exact a1, a2.of_block (hkeep _ (by omega))⟩
  · obtain ⟨a1, a2⟩ := h.rings.row r i hr hi
    refine ⟨own_ch a1 c4 fun g hg e => ?_, fun g hg => by rw [hlab g (by rw [a2 g hg]; omega)]; exact a2 g hg⟩
    have := a2 g hg
    rw [e, hm] at this
    omega
  · obtain ⟨a1, a2⟩ := h.rings.tim r i hr hi j b hj
    refine ⟨by rw [hlab b (by omega)]; exact a1, ?_⟩
    have hne : b ≠ w.heap.size := by have := a2.lt; omega
    unfold TimAt hdT tkT
    rw [if_neg hne, if_neg hne]
    exact (hkeep b (.inl a1)).trans a2
  · by_cases e : b = w.heap.size
    · subst e
      have : w3.heap.size = w.heap.size + 1 := by rw [h3]; simp
      have := c3.size
      omega
    · unfold labT at hb
      rw [if_neg e] at hb
      exact Nat.lt_of_lt_of_le (h.rings.lt b hb) c4.size
  · unfold TimAt hdT tkT
    rw [if_pos rfl, if_pos rfl]
    have hs : w3.heap.size = w.heap.size + 1 := by rw [h3]; simp
    rw [c3.block w.heap.size (by omega) (by omega), h3]
    rw [heap_alloc_new w _]
    rfl

theorem Wheel.armed {w3 w4 w5 : World} (h : Wheel w lab wb mb nb V L hd tk n U) {x : Int} (hx : isI x) (hno : ∀ a ∈ U, hd a ≠ x) {t : Nat} (ht : n < t ∧ t ≤ n + 4096)
    (h3 : w3 = w.alloc (.cells #[.int .i64 x, .int .i64 (t : Int), .int .i64 0] 242)) (tu : w3.mapTurned w4 mb)
    (M4 : MapIs w4 mb (fun k => if k = x then some w.heap.size else fdb hd U k) (U.length + 1)) {r i : Nat} (hr : r = hmR 2 t n) (hi : i = t / wide r % 16) {v : Value} {m : Nat}
    (R5 : Rings w5 (labR (labT lab w.heap.size) v r i) nb (up2 V r i v) (up2 L r i (L r i ++ [w.heap.size])) (hdT hd w.heap.size x) (tkT tk w.heap.size t))
    (c5 : Ch (w4.drewN m) w5 (fun k => k = w.heap.size ∨ labT lab w.heap.size k = 10 + r ∨ labT lab w.heap.size k = 100 + 16 * r + i))
    (hv : ∀ g, v.ownBlock = some g → labT lab w.heap.size g = 100 + 16 * r + i ∨ w4.heap.size ≤ g) :
    Wheel w5 (labR (labT lab w.heap.size) v r i) wb mb nb (up2 V r i v) (up2 L r i (L r i ++ [w.heap.size])) (hdT hd w.heap.size x) (tkT tk w.heap.size t) n (U ++ [w.heap.size]) ∧
      Ch w w5 (fun k => lab k ≠ 0) ∧ ∀ k, k < w.heap.size → labR (labT lab w.heap.size) v r i k = lab k := by
  obtain ⟨_, _, c4⟩ := h.fresh h3 tu
  have hm := h.mlab
  have hw1 := h.wlab
  have hmlt := h.map.lt
  have hwlt := h.lt
  have hr3 : r < 3 := by have := hmR_le 2 t n; omega
  have hi16 : i < 16 := by rw [hi]; exact Nat.mod_lt _ (by decide)
  have hs4 : w.heap.size < w4.heap.size := by
    have h5 : w3.heap.size = w.heap.size + 1 := by rw [h3]; simp
    have h6 := ((Ch.refl w3 (fun k => k = mb)).turned tu (fun _ => rfl)).size
    omega
  have hlab : ∀ k, k < w.heap.size → labR (labT lab w.heap.size) v r i k = lab k := fun k hk => by
    have h7 : labT lab w.heap.size k = lab k := by unfold labT; rw [if_neg (by omega)]
    unfold labR
    split
    · rename_i e
      rcases hv k e with h8 | h8
      · rw [← h8, h7]
      · omega
    · exact h7
  have ch : Ch w w5 (fun k => lab k ≠ 0) := by
    refine c4.trans (m'' := fun k => lab k ≠ 0) ((Ch.refl w4 (fun k => k = w.heap.size ∨ labT lab w.heap.size k = 10 + r ∨ labT lab w.heap.size k = 100 + 16 * r + i)).drewN m |>.then_ c5) (fun k _ e => by rw [e, hm]; omega) (fun k hk e => ?_)
    have h7 : labT lab w.heap.size k = lab k := by unfold labT; rw [if_neg (by omega)]
    rw [h7] at e
    omega
  have hU : ∀ a ∈ U, a < w.heap.size := fun a ha => by
    obtain ⟨_, r', i', j, _, _, _, t'⟩ := h.tim ha
    exact t'.lt
  have hd0 : ∀ a, a < w.heap.size → hdT hd w.heap.size x a = hd a := fun a ha => by unfold hdT; rw [if_neg (by omega)]
  have tk0 : ∀ a, a < w.heap.size → tkT tk w.heap.size t a = tk a := fun a ha => by unfold tkT; rw [if_neg (by omega)]
  have hd1 : hdT hd w.heap.size x w.heap.size = x := by unfold hdT; rw [if_pos rfl]
  have tk1 : tkT tk w.heap.size t w.heap.size = t := by unfold tkT; rw [if_pos rfl]
  have keep5 : ∀ k, k < w.heap.size → (lab k = 1 ∨ lab k = 2) → w5.heap[k]? = w4.heap[k]? := fun k hk hl => by
    have h7 : labT lab w.heap.size k = lab k := by unfold labT; rw [if_neg (by omega)]
    exact c5.block k (by show k < w4.heap.size; omega) (by rw [h7]; omega)
  refine ⟨⟨R5, by rw [hlab wb hwlt]; exact hw1, ?_, by rw [hlab mb hmlt]; exact hm, ?_, fun b => ?_, fun r' i' b h1 h2 hb => ?_, ?_, fun a c ha hc e => ?_, fun a ha => ?_⟩, ch, hlab⟩
  · exact (keep5 wb hwlt (.inl hw1)).trans ((c4.block wb hwlt (fun e => by rw [e, hm] at hw1; omega)).trans h.whl)
  · rw [List.length_append]
    have hf : (fun k => if k = x then some w.heap.size else fdb hd U k) = fdb (hdT hd w.heap.size x) (U ++ [w.heap.size]) := by
      funext k
      unfold fdb
      rw [List.find?_append]
      have h9 : U.find? (fun b => decide (hdT hd w.heap.size x b = k)) = U.find? (fun b => decide (hd b = k)) := by
        refine find_congr fun a ha => ?_
        rw [hd0 a (hU a ha)]
      rw [h9]
      by_cases e : k = x
      · subst e
        rw [if_pos rfl, List.find?_eq_none.2 (fun a ha => by simpa using hno a ha)]
        simp [hd1]
      · rw [if_neg e]
        cases U.find? (fun b => decide (hd b = k)) with
        | some y => rfl
        | none =>
          have : ¬ x = k := fun q => e q.symm
          simp [hd1, this]
    rw [← hf]
    exact M4.keep (keep5 mb hmlt (.inr hm))
  · rw [List.mem_append, List.mem_singleton]
    constructor
    · rintro ⟨r', i', h1, h2, hb⟩
      by_cases q : r' = r ∧ i' = i
      · obtain ⟨rfl, rfl⟩ := q
        rw [up2_same, List.mem_append, List.mem_singleton] at hb
        rcases hb with hb | hb
        · exact .inl ((h.mem b).1 ⟨r', i', h1, h2, hb⟩)
        · exact .inr hb
      · rw [up2_other _ _ q] at hb
        exact .inl ((h.mem b).1 ⟨r', i', h1, h2, hb⟩)
    · rintro (hb | rfl)
      · obtain ⟨r', i', h1, h2, hb'⟩ := (h.mem b).2 hb
        refine ⟨r', i', h1, h2, ?_⟩
        by_cases q : r' = r ∧ i' = i
        · obtain ⟨rfl, rfl⟩ := q
          rw [up2_same]
          exact List.mem_append_left _ hb'
        · rw [up2_other _ _ q]
          exact hb'
      · refine ⟨r, i, hr3, hi16, ?_⟩
        rw [up2_same]
        exact List.mem_append_right _ (List.mem_singleton.2 rfl)
  · have old : b ∈ L r' i' → r' = hmR 2 (tkT tk w.heap.size t b) n ∧ i' = tkT tk w.heap.size t b / wide r' % 16 ∧ n < tkT tk w.heap.size t b ∧ tkT tk w.heap.size t b ≤ n + 4096 := fun hb => by
      rw [tk0 b (h.inLt h1 h2 hb)]
      exact h.pl r' i' b h1 h2 hb
    by_cases q : r' = r ∧ i' = i
    · obtain ⟨rfl, rfl⟩ := q
      rw [up2_same, List.mem_append, List.mem_singleton] at hb
      rcases hb with hb | rfl
      · exact old hb
      · rw [tk1]
        exact ⟨hr, hi, ht.1, ht.2⟩
    · rw [up2_other _ _ q] at hb
      exact old hb
  · rw [List.nodup_append]
    refine ⟨h.nd, by simp, fun a ha c hc e => ?_⟩
    rw [List.mem_singleton] at hc
    have := hU a ha
    omega
  · rw [List.mem_append, List.mem_singleton] at ha hc
    rcases ha with ha | rfl <;> rcases hc with hc | rfl
    · rw [hd0 a (hU a ha), hd0 c (hU c hc)] at e
      exact h.dist a c ha hc e
    · rw [hd0 a (hU a ha), hd1] at e
      exact absurd e (hno a ha)
    · rw [hd0 c (hU c hc), hd1] at e
      exact absurd e.symm (hno c hc)
    · rfl
  · rw [List.mem_append, List.mem_singleton] at ha
    rcases ha with ha | rfl
    · rw [hd0 a (hU a ha)]
      exact h.hI a ha
    · rw [hd1]
      exact hx

set_option maxHeartbeats 1600000 in
theorem arm_bad (h : Wheel w lab wb mb nb V L hd tk n U) {x t : Int} (ht : isI t) (hn : n + 20000 ≤ 4611686018427387904) (hb : ¬((n : Int) < t ∧ t ≤ (n : Int) + 4096)) :
    Calls Tryz.prog 291 #[ptr wb, .int .i64 x, .int .i64 t] w fun e w' => e = .returned (.int .i64 1) ∧ w' = w := by
  have c1 := h.c1
  clear h
  unfold isI at ht
  unfold ptr
  by_cases hle : t ≤ (n : Int)
  · go_enter Tryz.func291, Tryz.ntmps291
    go_wp2_with fail
    go_ret
    exact ⟨rfl, rfl⟩
  · have hd1 : decide (t ≤ (n : Int)) = false := decide_eq_false hle
    have hgt : 4096 < t - (n : Int) := by omega
    go_enter Tryz.func291, Tryz.ntmps291
    go_wp2_with fail
    go_ret
    exact ⟨rfl, rfl⟩
end

end Go.Proofs.YtlcegchdkigibaaGreatDoor.LW

namespace Go.Proofs.YtlcegchdkigibaaGreatDoor.LW
set_option linter.unusedVariables false
set_option linter.unusedSimpArgs false
open Go.RowKit

/-- What Arm leaves: the handle is armed for that tick, and no longer for another one. -/
def Armed (w : World) (lab : Nat → Nat) (wb mb : Nat) (nb : Nat → Nat) (hd : Nat → Int) (tk : Nat → Nat) (n : Nat) (U : List Nat) (x : Int) (t : Nat) (w' : World) : Prop :=
  ∃ (lab' : Nat → Nat) (V' : Nat → Nat → Value) (L' : Lists) (hd' : Nat → Int) (tk' : Nat → Nat) (b : Nat), Wheel w' lab' wb mb nb V' L' hd' tk' n (wo hd U x ++ [b]) ∧ hd' b = x ∧ tk' b = t ∧ (∀ a, a ∈ U → hd' a = hd a ∧ tk' a = tk a) ∧
    Ch w w' (fun k => lab k ≠ 0) ∧ ∀ k, k < w.heap.size → lab' k = lab k

section
variable {w : World} {lab : Nat → Nat} {wb mb : Nat} {nb : Nat → Nat} {V : Nat → Nat → Value} {L : Lists} {hd : Nat → Int} {tk : Nat → Nat} {n : Nat} {U : List Nat}

set_option maxHeartbeats 4000000 in
theorem arm_good (h : Wheel w lab wb mb nb V L hd tk n U) {x : Int} {t : Nat} (hx : isI x) (hn : n + 20000 ≤ 4611686018427387904) (hU : U.length ≤ 1099511627775) (ht : n < t ∧ t ≤ n + 4096) :
    Calls Tryz.prog 291 #[ptr wb, .int .i64 x, .int .i64 (t : Int)] w fun e w' => e = .returned (.int .i64 0) ∧ Armed w lab wb mb nb hd tk n U x t w' := by
  have c1 := h.c1
  have hd1 : decide ((t : Int) ≤ (n : Int)) = false := decide_eq_false (by omega)
  have hd2 : decide (4096 < (t : Int) - (n : Int)) = false := decide_eq_false (by omega)
  have hw := h.below (w' := w.alloc (.cells #[.int .i64 x] 3)) ((RowKit.Below.refl _ _).alloc (Nat.le_refl _) _)
  have hl0 : lab w.heap.size = 0 := by
    by_cases e : lab w.heap.size = 0
    · exact e
    · have := h.rings.lt _ e
      omega
  have HC := Lib.hid ((cancel_any hw hx hn (cell_new w (.int .i64 x) 3) hl0).mono (R' := fun e w' => (∃ c : Int, e = .returned (.int .i64 c)) ∧ ∃ V' L', Wheel w' lab wb mb nb V' L' hd tk n (wo hd U x) ∧ Ch (w.alloc (.cells #[.int .i64 x] 3)) w' (fun k => lab k ≠ 0)) fun e w' ⟨he, r⟩ => ⟨⟨_, he⟩, r⟩)
  have HW := Lib.hid h
  have hlen : (wo hd U x).length ≤ U.length := List.length_filter_le _ _
  have hfx : fdb hd (wo hd U x) x = none := by rw [fdb_wo, if_pos rfl]
  have HFX := Lib.hid hfx
  clear h hw hfx
  unfold ptr at *
  go_enter Tryz.func291, Tryz.ntmps291
  go_wp2_with (first
    | (go_at_call 290; refine (HC.out).mono ?_; rintro e w2 ⟨⟨cc, rfl⟩, V2, L2, W2, ch2⟩; have k2 := (W2.below ((RowKit.Below.refl _ _).alloc (Nat.le_refl _) (.cells #[.int .i64 x, .int .i64 (t : Int), .int .i64 0] 242))).c2; have M3 := (W2.below ((RowKit.Below.refl _ _).alloc (Nat.le_refl _) (.cells #[.int .i64 x, .int .i64 (t : Int), .int .i64 0] 242))).map)
    | (at_mapUpdate; refine wpList_putM rfl _ _ _ rfl rfl M3 hx rfl HFX.out rfl (by omega) ?_; intro w4 M4 tu))
  obtain ⟨R4, T4, ch4⟩ := W2.fresh rfl tu
  have hm2 := W2.mlab
  have hs4 : w2.heap.size < w4.heap.size := T4.lt
  have k0 : w4.cell? ⟨wb, 0, none⟩ = some (.pointer (some ⟨nb 2, 0, none⟩)) := ch4.cell (p := ⟨wb, 0, none⟩) W2.c0 (fun e => by have := W2.wlab; simp only at e; rw [e] at this; omega)
  have k1 : w4.cell? ⟨wb, 1, none⟩ = some (.int .i64 (n : Int)) := ch4.cell (p := ⟨wb, 1, none⟩) W2.c1 (fun e => by have := W2.wlab; simp only at e; rw [e] at this; omega)
  have h16 : t / wide (hmR 2 t n) % 16 < 16 := Nat.mod_lt _ (by decide)
  have hr3 : hmR 2 t n < 3 := by have := hmR_le 2 t n; omega
  have hH := fun m => home_any t n (by omega) (by omega) 2 (by omega) (w4.drewN m) (R4.drewN m)
  have hll : (L2 (hmR 2 t n) (t / wide (hmR 2 t n) % 16)).length ≤ 1099511627776 := Nat.le_trans (nodup_len _ (wo hd U x) (R4.nodup hr3 h16) fun b hb => (W2.mem b).1 ⟨_, _, hr3, h16, hb⟩) (by omega)
  have hA : ∀ m, Calls Tryz.prog 270 #[.pointer (some ⟨nb (hmR 2 t n), 1 + t / wide (hmR 2 t n) % 16, none⟩), ptr w2.heap.size] (w4.drewN m) fun e w' => e = .returned (.tuple #[]) ∧ Armed w lab wb mb nb hd tk n U x t w' ∧
      w'.cell? ⟨wb, 0, none⟩ = some (.pointer (some ⟨nb 2, 0, none⟩)) ∧ w'.cell? ⟨wb, 1, none⟩ = some (.int .i64 (n : Int)) := fun m =>
    (add_any (R4.drewN m) hr3 h16 (b := w2.heap.size) (by unfold labT; rw [if_pos rfl]) ⟨0, T4.keep rfl⟩ (fun r' i' h1 h2 hb => by have := W2.inLt h1 h2 hb; omega) hll).mono fun e w' ⟨he, v, a1, a2, a3, a4⟩ => by
      obtain ⟨W5, ch5, l5⟩ := W2.armed hx (fun a ha => (mem_wo.1 ha).2) ht rfl tu M4 rfl rfl a1 a2 a4
      refine ⟨he, ⟨_, _, _, _, _, w2.heap.size, W5, by unfold hdT; rw [if_pos rfl], by unfold tkT; rw [if_pos rfl], fun a ha => ?_, ?_, fun k hk => ?_⟩, W5.c0, W5.c1⟩
      · have h1 : a < w.heap.size := by
          obtain ⟨_, r', i', j, _, _, _, t'⟩ := (HW.out).tim ha
          exact t'.lt
        have h2 := ch2.size
        have h3 : w.heap.size < (w.alloc (.cells #[.int .i64 x] 3)).heap.size := by simp
        unfold hdT tkT
        rw [if_neg (by omega), if_neg (by omega)]
        exact ⟨rfl, rfl⟩
      · exact (((Ch.refl w (fun k => lab k ≠ 0)).alloc _).then_ (ch2.trans ch5 (m'' := fun k => lab k ≠ 0) (fun _ _ h => h) (fun _ _ h => h)))
      · have h2 := ch2.size
        have h3 : w.heap.size < (w.alloc (.cells #[.int .i64 x] 3)).heap.size := by simp
        exact l5 k (by omega)
  have HH := Lib.hid hH
  have HA := Lib.hid hA
  clear hH hA hll R4 T4 ch4 M4 tu M3 k2
  unfold ptr at *
  go_region_held3 (fun W => W.cell? ⟨wb, 0, none⟩ = some (.pointer (some ⟨nb 2, 0, none⟩)) ∧ W.cell? ⟨wb, 1, none⟩ = some (.int .i64 (n : Int)))
    (first
      | exact ⟨k0, k1⟩
      | exact ⟨j0, j1⟩)
    (first
      | (go_at_call 352; refine (HH.out 1).mono ?_; rintro e w8 ⟨rfl, m8, rfl⟩)
      | (go_at_call 270; refine (HA.out _).mono ?_; rintro e w9 ⟨rfl, A9, j0, j1⟩))
  go_wp2_with fail
  go_ret
  exact ⟨rfl, A9⟩
end

end Go.Proofs.YtlcegchdkigibaaGreatDoor.LW

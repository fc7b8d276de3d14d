/- A wheel as its callers see it: its tick, and which handle is armed for which tick; what each of its calls does to that. Condition: it has at most 2^40 timers, its tick is below 2^61. -/
import Derived.Test.YtkmhgcdjmfafhaaWhV
namespace Go.Proofs.Ytkmhgcdjmfafhaa
set_option linter.unusedVariables false
set_option linter.unusedSimpArgs false
open Go.RowKit

/-- At block wb a wheel stands at tick n, with the handles and ticks l. -/
def On (w : World) (lab : Nat → Nat) (wb n : Nat) (l : List (Int × Int)) : Prop :=
  ∃ (mb : Nat) (nb : Nat → Nat) (V : Nat → Nat → Value) (L : Lists) (hd : Nat → Int) (tk : Nat → Nat) (U : List Nat), Wheel w lab wb mb nb V L hd tk n U ∧ l = U.map (pr hd tk)
/-- What was not a part of the wheel is as it was; labels stay. -/
def Fr (lab : Nat → Nat) (w : World) (lab' : Nat → Nat) (w' : World) : Prop := Ch w w' (fun k => lab k ≠ 0) ∧ ∀ k, k < w.heap.size → lab' k = lab k
/-- l without a handle. -/
def woL (l : List (Int × Int)) (x : Int) : List (Int × Int) := l.filter (fun p => decide (p.1 ≠ x))

theorem Fr.refl (lab : Nat → Nat) (w : World) : Fr lab w lab w := ⟨Ch.refl _ _, fun _ _ => rfl⟩
theorem Fr.trans {a b c : World} {l1 l2 l3 : Nat → Nat} (h : Fr l1 a l2 b) (k : Fr l2 b l3 c) : Fr l1 a l3 c :=
  ⟨h.1.trans k.1 (m'' := fun k => l1 k ≠ 0) (fun _ _ h => h) (fun x hx e => by rw [← h.2 x hx]; exact e), fun x hx => (k.2 x (Nat.lt_of_lt_of_le hx h.1.size)).trans (h.2 x hx)⟩
theorem Fr.drewN {a b : World} {l1 l2 : Nat → Nat} (h : Fr l1 a l2 b) (n : Nat) : Fr l1 a l2 (b.drewN n) := ⟨h.1.drewN n, h.2⟩
theorem Fr.below {a b c : World} {l1 l2 : Nat → Nat} (h : Fr l1 a l2 b) (k : RowKit.Below b.heap.size b c) : Fr l1 a l2 c := h.trans ⟨Ch.of_below _ k, fun _ _ => rfl⟩

theorem woL_map (hd : Nat → Int) (tk : Nat → Nat) (U : List Nat) (x : Int) : (wo hd U x).map (pr hd tk) = woL (U.map (pr hd tk)) x := by
  unfold wo woL
  rw [List.filter_map]
  rfl

section
variable {w w' : World} {lab : Nat → Nat} {wb n : Nat} {l : List (Int × Int)}

theorem On.ch (h : On w lab wb n l) {m : Nat → Prop} (c : Ch w w' m) (hm : ∀ k, m k → lab k = 0) : On w' lab wb n l := by
  obtain ⟨mb, nb, V, L, hd, tk, U, W, e⟩ := h
  exact ⟨mb, nb, V, L, hd, tk, U, W.ch c hm, e⟩
theorem On.below (h : On w lab wb n l) (c : RowKit.Below w.heap.size w w') : On w' lab wb n l := h.ch (Ch.of_below (fun _ => False) c) fun _ h => h.elim
theorem On.drewN (h : On w lab wb n l) (q : Nat) : On (w.drewN q) lab wb n l := h.ch ((Ch.refl w (fun _ => False)).drewN q) fun _ h => h.elim
theorem On.lt (h : On w lab wb n l) {k : Nat} (hk : lab k ≠ 0) : k < w.heap.size := by
  obtain ⟨mb, nb, V, L, hd, tk, U, W, e⟩ := h
  exact W.rings.lt k hk
/-- Each handle stands once. -/
theorem On.dist (h : On w lab wb n l) : ∀ p q, p ∈ l → q ∈ l → p.1 = q.1 → p = q := by
  obtain ⟨mb, nb, V, L, hd, tk, U, W, rfl⟩ := h
  intro p q hp hq e
  obtain ⟨a, ha, rfl⟩ := List.mem_map.1 hp
  obtain ⟨b, hb, rfl⟩ := List.mem_map.1 hq
  rw [W.dist a b ha hb e]
theorem On.nodup (h : On w lab wb n l) : l.Nodup := by
  obtain ⟨mb, nb, V, L, hd, tk, U, W, rfl⟩ := h
  rw [List.Nodup, List.pairwise_map]
  refine List.Pairwise.imp_of_mem (fun {a b} ha hb hne e => hne (W.dist a b ha hb ?_)) W.nd
  exact congrArg Prod.fst e
theorem On.due (h : On w lab wb n l) : ∀ p ∈ l, (n : Int) < p.2 ∧ p.2 ≤ (n : Int) + 4096 ∧ isI p.1 := by
  obtain ⟨mb, nb, V, L, hd, tk, U, W, rfl⟩ := h
  intro p hp
  obtain ⟨a, ha, rfl⟩ := List.mem_map.1 hp
  have := W.due ha
  exact ⟨by show (n : Int) < (tk a : Int); omega, by show (tk a : Int) ≤ _; omega, W.hI a ha⟩

theorem onow_any (h : On w lab wb n l) : Calls Try.prog 13 #[ptr wb] w fun e w' => e = .returned (.int .i64 (n : Int)) ∧ w' = w := by
  obtain ⟨mb, nb, V, L, hd, tk, U, W, rfl⟩ := h
  exact now_any W
theorem olen_any (h : On w lab wb n l) : Calls Try.prog 22 #[ptr wb] w fun e w' => e = .returned (.int .i64 (l.length : Int)) ∧ w' = w := by
  obtain ⟨mb, nb, V, L, hd, tk, U, W, rfl⟩ := h
  rw [List.length_map]
  exact len_any W
theorem oat_any (h : On w lab wb n l) {p : Int × Int} (hp : p ∈ l) : Calls Try.prog 23 #[ptr wb, .int .i64 p.1] w fun e w' => e = .returned (.tuple #[.int .i64 p.2, .bool true]) ∧ w' = w := by
  obtain ⟨mb, nb, V, L, hd, tk, U, W, rfl⟩ := h
  obtain ⟨a, ha, rfl⟩ := List.mem_map.1 hp
  have h1 := at_any W (W.hI a ha)
  rw [fdb_of W.dist ha] at h1
  exact h1
theorem onext_any (h : On w lab wb n l) (hn : n + 20000 ≤ 4611686018427387904) (hU : l.length ≤ 1099511627776) : Calls Try.prog 20 #[ptr wb] w fun e w' =>
    (∃ t ok, e = .returned (.tuple #[.int .i64 t, .bool ok]) ∧ (ok = true → ∃ p ∈ l, t = p.2 ∧ ∀ q ∈ l, p.2 ≤ q.2) ∧ (ok = false → l = [])) ∧ RowKit.Below w.heap.size w w' := by
  obtain ⟨mb, nb, V, L, hd, tk, U, W, rfl⟩ := h
  rw [List.length_map] at hU
  refine (next_any W hn hU).mono fun e w' ⟨⟨t, ok, he, h1, h2⟩, hb⟩ => ⟨⟨t, ok, he, fun e => ?_, fun e => by rw [h2 e]; rfl⟩, hb⟩
  obtain ⟨b, hb1, hb2, hb3⟩ := h1 e
  refine ⟨pr hd tk b, List.mem_map_of_mem hb1, hb2, fun q hq => ?_⟩
  obtain ⟨c, hc, rfl⟩ := List.mem_map.1 hq
  exact Int.ofNat_le.2 (hb3 c hc)

theorem ocancel_any (h : On w lab wb n l) {x : Int} (hx : isI x) (hn : n + 20000 ≤ 4611686018427387904) {g : Nat} (hg : w.cell? ⟨g, 0, none⟩ = some (.int .i64 x)) (hlg : lab g = 0) :
    Calls Try.prog 15 #[ptr wb, .slice (some ⟨g, 0, none⟩) 1 1] w fun e w' => ∃ c : Int, e = .returned (.int .i64 c) ∧ ((∃ p ∈ l, p.1 = x) ∧ c = 1 ∨ (∀ p ∈ l, p.1 ≠ x) ∧ c = 0) ∧ On w' lab wb n (woL l x) ∧ Fr lab w lab w' := by
  obtain ⟨mb, nb, V, L, hd, tk, U, W, rfl⟩ := h
  refine (cancel_any W hx hn hg hlg).mono fun e w' ⟨he, V', L', W', c⟩ => ⟨_, he, ?_, ⟨mb, nb, V', L', hd, tk, _, W', (woL_map hd tk U x).symm⟩, c, fun _ _ => rfl⟩
  cases e : fdb hd U x with
  | none =>
    refine .inr ⟨fun p hp => ?_, rfl⟩
    obtain ⟨a, ha, rfl⟩ := List.mem_map.1 hp
    exact fdb_none e a ha
  | some b => exact .inl ⟨⟨pr hd tk b, List.mem_map_of_mem (fdb_some e).1, (fdb_some e).2⟩, rfl⟩

theorem oarm_bad (h : On w lab wb n l) {x t : Int} (ht : isI t) (hn : n + 20000 ≤ 4611686018427387904) (hb : ¬((n : Int) < t ∧ t ≤ (n : Int) + 4096)) :
    Calls Try.prog 12 #[ptr wb, .int .i64 x, .int .i64 t] w fun e w' => e = .returned (.int .i64 1) ∧ w' = w := by
  obtain ⟨mb, nb, V, L, hd, tk, U, W, rfl⟩ := h
  exact arm_bad W ht hn hb
theorem oarm_good (h : On w lab wb n l) {x t : Int} (hx : isI x) (hn : n + 20000 ≤ 4611686018427387904) (hU : l.length ≤ 1099511627775) (ht : (n : Int) < t ∧ t ≤ (n : Int) + 4096) :
    Calls Try.prog 12 #[ptr wb, .int .i64 x, .int .i64 t] w fun e w' => e = .returned (.int .i64 0) ∧ ∃ lab', On w' lab' wb n (woL l x ++ [(x, t)]) ∧ Fr lab w lab' w' := by
  obtain ⟨mb, nb, V, L, hd, tk, U, W, rfl⟩ := h
  rw [List.length_map] at hU
  obtain ⟨t, rfl⟩ : ∃ k : Nat, t = k := ⟨t.toNat, by omega⟩
  refine (arm_good W hx hn hU (by omega)).mono fun e w' ⟨he, lab', V', L', hd', tk', b, W', h1, h2, h3, h4, h5⟩ => ⟨he, lab', ⟨mb, nb, V', L', hd', tk', _, W', ?_⟩, h4, h5⟩
  rw [List.map_append, ← woL_map]
  have h6 : (wo hd U x).map (pr hd tk) = (wo hd U x).map (pr hd' tk') := List.map_congr_left fun a ha => by
    obtain ⟨h7, h8⟩ := h3 a (mem_wo.1 ha).1
    unfold pr
    rw [h7, h8]
  rw [h6]
  simp [pr, h1, h2]

/-- In the order in which they are due. -/
def OrdL (l : List (Int × Int)) : Prop := l.Pairwise (fun a b => a.2 < b.2 ∨ a.2 = b.2 ∧ a.1 < b.1)
/-- A row holds what was due. -/
def Duv (w : World) (base : Nat) (v : Value) (out : List (Int × Int)) : Prop := w.ownsRow base 53 2 v out.length (dv out)

theorem oadv_any (h : On w lab wb n l) {t : Int} (ht : isI t) (hn : n + 20000 ≤ 4611686018427387904) (hU : l.length ≤ 1099511627775) (np : Nat) (hnp : n ≤ np) (hnp2 : np ≤ n + 10000) (hE : ∀ m : Nat, n ≤ m → ((m : Int) < min t ((n : Int) + 10000) ↔ m < np)) :
    Calls Try.prog 18 #[ptr wb, .int .i64 t] w fun e w' => ∃ v lab' out, e = .returned v ∧ On w' lab' wb np (l.filter fun p => decide ((np : Int) < p.2)) ∧ Fr lab w lab' w' ∧ Duv w' w.heap.size v out ∧ (∀ g, v.ownBlock = some g → lab' g = 0) ∧
      OrdL out ∧ ∀ p, p ∈ out ↔ p ∈ l ∧ p.2 ≤ (np : Int) := by
  obtain ⟨mb, nb, V, L, hd, tk, U, W, rfl⟩ := h
  rw [List.length_map] at hU
  refine (adv_any W ht hn hU np hnp hnp2 hE).mono fun e w' ⟨v, he, lab1, V1, L1, ob, W1, o1, vl, od, mm, ch, l1⟩ => ⟨v, lab1, ob.map (pr hd tk), he, ⟨mb, nb, V1, L1, hd, tk, _, W1, ?_⟩, ⟨ch, l1⟩, ?_, vl, ?_, fun p => ?_⟩
  · unfold af
    rw [List.filter_map]
    congr 1
    refine List.filter_congr fun b _ => ?_
    by_cases q : np < tk b <;> simp [pr, q]
  · unfold Duv
    rw [List.length_map]
    exact o1
  · unfold OrdL
    rw [List.pairwise_map]
    refine List.Pairwise.imp (fun {a b} h => ?_) od
    rcases h with h | ⟨h, h'⟩
    · exact .inl (Int.ofNat_lt.2 h)
    · exact .inr ⟨congrArg Int.ofNat h, h'⟩
  · rw [List.mem_map, List.mem_map]
    constructor
    · rintro ⟨b, hb, rfl⟩
      obtain ⟨h1, h2⟩ := (mm b).1 hb
      exact ⟨⟨b, h1, rfl⟩, Int.ofNat_le.2 h2⟩
    · rintro ⟨⟨b, hb, rfl⟩, h2⟩
      exact ⟨b, (mm b).2 ⟨hb, Int.ofNat_le.1 h2⟩, rfl⟩
end

/-- The five blocks of a wheel that is new. -/
def newW (w : World) (n : Nat) : World :=
  ((((w.alloc (nestO 1 (.pointer none))).alloc (nestO 16 (ptr w.heap.size))).alloc (nestO 256 (ptr (w.heap.size + 1)))).alloc (.map #[] 0)).alloc
    (.cells #[ptr (w.heap.size + 2), .int .i64 (n : Int), .map (some (w.heap.size + 3))] 63)
def labN (s : Nat) : Nat → Nat := fun k => if k = s then 10 else if k = s + 1 then 11 else if k = s + 2 then 12 else if k = s + 3 then 2 else if k = s + 4 then 1 else 0

theorem On.new (w : World) (n : Nat) : On (newW w n) (labN w.heap.size) (w.heap.size + 4) n [] ∧ Fr (fun _ => 0) w (labN w.heap.size) (newW w n) := by
  have sz : (newW w n).heap.size = w.heap.size + 5 := by unfold newW; simp
  have e4 : (newW w n).heap[w.heap.size + 4]? = some (.cells #[ptr (w.heap.size + 2), .int .i64 (n : Int), .map (some (w.heap.size + 3))] 63) := by
    unfold newW
    have h := heap_alloc_new ((((w.alloc (nestO 1 (.pointer none))).alloc (nestO 16 (ptr w.heap.size))).alloc (nestO 256 (ptr (w.heap.size + 1)))).alloc (.map #[] 0)) (.cells #[ptr (w.heap.size + 2), .int .i64 (n : Int), .map (some (w.heap.size + 3))] 63)
    simp only [World.size_alloc] at h
    exact h
  have e3 : (newW w n).heap[w.heap.size + 3]? = some (.map #[] 0) := by
    unfold newW
    rw [Below.heap_alloc _ _ _ (by simp)]
    have h := heap_alloc_new (((w.alloc (nestO 1 (.pointer none))).alloc (nestO 16 (ptr w.heap.size))).alloc (nestO 256 (ptr (w.heap.size + 1)))) (.map #[] 0)
    simp only [World.size_alloc] at h
    exact h
  have e2 : (newW w n).heap[w.heap.size + 2]? = some (nestO 256 (ptr (w.heap.size + 1))) := by
    unfold newW
    rw [Below.heap_alloc _ _ _ (by simp), Below.heap_alloc _ _ _ (by simp)]
    have h := heap_alloc_new ((w.alloc (nestO 1 (.pointer none))).alloc (nestO 16 (ptr w.heap.size))) (nestO 256 (ptr (w.heap.size + 1)))
    simp only [World.size_alloc] at h
    exact h
  have e1 : (newW w n).heap[w.heap.size + 1]? = some (nestO 16 (ptr w.heap.size)) := by
    unfold newW
    rw [Below.heap_alloc _ _ _ (by simp), Below.heap_alloc _ _ _ (by simp), Below.heap_alloc _ _ _ (by simp)]
    have h := heap_alloc_new (w.alloc (nestO 1 (.pointer none))) (nestO 16 (ptr w.heap.size))
    simp only [World.size_alloc] at h
    exact h
  have e0 : (newW w n).heap[w.heap.size]? = some (nestO 1 (.pointer none)) := by
    unfold newW
    rw [Below.heap_alloc _ _ _ (by simp; omega), Below.heap_alloc _ _ _ (by simp; omega), Below.heap_alloc _ _ _ (by simp; omega), Below.heap_alloc _ _ _ (by simp)]
    exact heap_alloc_new w _
  have lb : ∀ k, labN w.heap.size k ≠ 0 → w.heap.size ≤ k ∧ k < w.heap.size + 5 := fun k hk => by
    unfold labN at hk
    split at hk
    · omega
    · split at hk
      · omega
      · split at hk
        · omega
        · split at hk
          · omega
          · split at hk
            · omega
            · exact absurd rfl hk
  have hch : Ch w (newW w n) (fun _ => False) := (((((Ch.refl w _).alloc _).alloc _).alloc _).alloc _).alloc _
  refine ⟨⟨w.heap.size + 3, fun r => w.heap.size + r, fun _ _ => .slice none 0 0, fun _ _ => [], fun _ => 0, fun _ => 0, [],
    ⟨⟨fun r hr => ?_, fun r i hr hi => ⟨World.ownsRow_nil _ _ _ _, (fun g hg => by cases hg)⟩, (fun r i hr hi j b hj => by cases hj), (fun b hb => by have := lb b hb; omega)⟩, (by simp [labN]), e4, (by simp [labN]), ?_,
      (fun b => ⟨(fun ⟨r, i, _, _, hb⟩ => by cases hb), (fun hb => by cases hb)⟩), (fun r i b _ _ hb => by cases hb), List.nodup_nil, (fun a b ha => by cases ha), (fun a ha => by cases ha)⟩, rfl⟩, hch.mono (fun _ _ h => h.elim), fun k hk => ?_⟩
  · rcases (by omega : r = 0 ∨ r = 1 ∨ r = 2) with rfl | rfl | rfl
    · refine ⟨by simp [labN], _, e0, rfl, fun j hj => ?_⟩
      match j, hj with
      | 0, _ => exact rfl
      | 1, _ => exact rfl
      | 2, _ => exact rfl
      | 3, _ => exact rfl
      | 4, _ => exact rfl
      | 5, _ => exact rfl
      | 6, _ => exact rfl
      | 7, _ => exact rfl
      | 8, _ => exact rfl
      | 9, _ => exact rfl
      | 10, _ => exact rfl
      | 11, _ => exact rfl
      | 12, _ => exact rfl
      | 13, _ => exact rfl
      | 14, _ => exact rfl
      | 15, _ => exact rfl
      | 16, _ => exact rfl
      | 17, _ => exact rfl
      | k + 18, h => exact absurd h (by omega)
    · refine ⟨by simp [labN], _, e1, rfl, fun j hj => ?_⟩
      match j, hj with
      | 0, _ => exact rfl
      | 1, _ => exact rfl
      | 2, _ => exact rfl
      | 3, _ => exact rfl
      | 4, _ => exact rfl
      | 5, _ => exact rfl
      | 6, _ => exact rfl
      | 7, _ => exact rfl
      | 8, _ => exact rfl
      | 9, _ => exact rfl
      | 10, _ => exact rfl
      | 11, _ => exact rfl
      | 12, _ => exact rfl
      | 13, _ => exact rfl
      | 14, _ => exact rfl
      | 15, _ => exact rfl
      | 16, _ => exact rfl
      | 17, _ => exact rfl
      | k + 18, h => exact absurd h (by omega)
    · refine ⟨by simp [labN], _, e2, rfl, fun j hj => ?_⟩
      match j, hj with
      | 0, _ => exact rfl
      | 1, _ => exact rfl
      | 2, _ => exact rfl
      | 3, _ => exact rfl
      | 4, _ => exact rfl
      | 5, _ => exact rfl
      | 6, _ => exact rfl
      | 7, _ => exact rfl
      | 8, _ => exact rfl
      | 9, _ => exact rfl
      | 10, _ => exact rfl
      | 11, _ => exact rfl
      | 12, _ => exact rfl
      | 13, _ => exact rfl
      | 14, _ => exact rfl
      | 15, _ => exact rfl
      | 16, _ => exact rfl
      | 17, _ => exact rfl
      | k + 18, h => exact absurd h (by omega)
  · have h := MapIs.made (((w.alloc (nestO 1 (.pointer none))).alloc (nestO 16 (ptr w.heap.size))).alloc (nestO 256 (ptr (w.heap.size + 1))))
    simp only [World.size_alloc] at h
    exact h.keep (Below.heap_alloc _ _ _ (by simp))
  · have : ¬ labN w.heap.size k ≠ 0 := fun h => by have := lb k h; omega
    exact Decidable.not_not.1 this

/-- A tick held within 0 to 2^40. -/
def clamp (t : Int) : Nat := (min (max t 0) 1099511627776).toNat
theorem clamp_le (t : Int) : clamp t ≤ 1099511627776 := by unfold clamp; omega
theorem clamp_eq (t : Int) : ((clamp t : Nat) : Int) = min (max t 0) 1099511627776 := by unfold clamp; omega

set_option maxHeartbeats 1600000 in
theorem new_any (t : Int) (ht : isI t) (w : World) : Calls Try.prog 9 #[.int .i64 t] w fun e w' => ∃ lab' wb, e = .returned (ptr wb) ∧ On w' lab' wb (clamp t) [] ∧ Fr (fun _ => 0) w lab' w' := by
  have HR := Lib.hid (rings_any w)
  have hmm := @run_makeMap Try.prog
  have hc := clamp_eq t
  have hc2 := clamp_le t
  generalize clamp t = n at *
  unfold isI at ht
  obtain ⟨M, hM⟩ : ∃ M, max t 0 = M := ⟨_, rfl⟩
  rw [hM] at hc
  have hc3 := hc.symm
  clear hc
  unfold nestO ptr at *
  go_enter Try.func9, Try.ntmps9
  go_wp2_with (first | (go_at_call 24; refine (HR.out).mono ?_; rintro e w1 ⟨rfl, rfl⟩))
  go_ret
  obtain ⟨h1, h2⟩ := On.new w n
  exact ⟨_, w.heap.size + 4, rfl, h1, h2⟩

end Go.Proofs.Ytkmhgcdjmfafhaa

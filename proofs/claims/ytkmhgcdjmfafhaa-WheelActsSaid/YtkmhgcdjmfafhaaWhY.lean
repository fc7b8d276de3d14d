/- A timer is armed: the contract of Arm. Condition: the wheel stands, it has at most 2^40 timers. -/
import Derived.Test.YtkmhgcdjmfafhaaWhX
namespace Go.Proofs.Ytkmhgcdjmfafhaa
set_option linter.unusedVariables false
set_option linter.unusedSimpArgs false
open Go.RowKit

section
variable {w : World} {lab : Nat → Nat} {wb mb : Nat} {nb : Nat → Nat} {V : Nat → Nat → Value} {L : Lists} {hd : Nat → Int} {tk : Nat → Nat} {n : Nat} {U : List Nat}

theorem cancel_any (h : Wheel w lab wb mb nb V L hd tk n U) {x : Int} (hx : isI x) (hn : n + 20000 ≤ 4611686018427387904) {g : Nat} (hg : w.cell? ⟨g, 0, none⟩ = some (.int .i64 x)) (hlg : lab g = 0) :
    Calls Try.prog 15 #[ptr wb, .slice (some ⟨g, 0, none⟩) 1 1] w fun e w' => e = .returned (.int .i64 (if (fdb hd U x).isSome then 1 else 0)) ∧
      ∃ V' L', Wheel w' lab wb mb nb V' L' hd tk n (wo hd U x) ∧ Ch w w' (fun k => lab k ≠ 0) := by
  cases e : fdb hd U x with
  | none =>
    refine (cancel_none h hx hg e).mono fun e' w' ⟨he, m, hw⟩ => ⟨he, V, L, ?_, ?_⟩
    · rw [wo_none e, hw]
      exact h.ch (m := fun _ => False) ((Ch.refl w _).drewN m) fun _ h => h.elim
    · rw [hw]
      exact (Ch.refl w _).drewN m
  | some b => exact (cancel_some h hx hn hg hlg e).mono fun e' w' ⟨he, V', L', h1, h2⟩ => ⟨he, V', L', h1, h2⟩

theorem find_congr {p q : Nat → Bool} : ∀ {l : List Nat}, (∀ a ∈ l, p a = q a) → l.find? p = l.find? q
  | [], _ => rfl
  | x :: l, h => by
    rw [List.find?_cons, List.find?_cons, h x (List.mem_cons_self ..), find_congr fun a ha => h a (List.mem_cons_of_mem _ ha)]

/-- The label of a new timer; its handle; its tick. -/
def labT (lab : Nat → Nat) (b : Nat) : Nat → Nat := fun k => if k = b then 3 else lab k
def hdT (hd : Nat → Int) (b : Nat) (x : Int) : Nat → Int := fun k => if k = b then x else hd k
def tkT (tk : Nat → Nat) (b t : Nat) : Nat → Nat := fun k => if k = b then t else tk k

theorem Wheel.inLt (h : Wheel w lab wb mb nb V L hd tk n U) {r i b : Nat} (hr : r < 3) (hi : i < 16) (hb : b ∈ L r i) : b < w.heap.size := by
  obtain ⟨j, hj, e⟩ := List.getElem_of_mem hb
  exact (h.rings.tim r i hr hi j b (by rw [List.getElem?_eq_getElem hj, e])).2.lt

/-- A new timer's block, the map with it: the rings with the new labels. -/
theorem Wheel.fresh {w3 w4 : World} (h : Wheel w lab wb mb nb V L hd tk n U) {x : Int} {t : Nat} (h3 : w3 = w.alloc (.cells #[.int .i64 x, .int .i64 (t : Int), .int .i64 0] 66)) (tu : w3.mapTurned w4 mb) :
    Rings w4 (labT lab w.heap.size) nb V L (hdT hd w.heap.size x) (tkT tk w.heap.size t) ∧ TimAt w4 (hdT hd w.heap.size x) (tkT tk w.heap.size t) w.heap.size 0 ∧ Ch w w4 (fun k => k = mb) := by
  have hlab : ∀ k, lab k ≠ 0 → labT lab w.heap.size k = lab k := fun k hk => by
    unfold labT
    rw [if_neg (by have := h.rings.lt k hk; omega)]
  have c3 : Ch w3 w4 (fun k => k = mb) := (Ch.refl w3 (fun k => k = mb)).turned tu (fun _ => rfl)
  have c4 : Ch w w4 (fun k => k = mb) := by
    refine ((Ch.refl w (fun k => k = mb)).alloc (.cells #[.int .i64 x, .int .i64 (t : Int), .int .i64 0] 66)).then_ ?_
    rw [← h3]
    exact c3
  have hm := h.mlab
  have hmlt := h.map.lt
  have hkeep : ∀ k, lab k = 3 ∨ 10 ≤ lab k → w4.heap[k]? = w.heap[k]? := fun k hk => c4.block k (h.rings.lt k (by omega)) (fun e => by rw [e, hm] at hk; omega)
  refine ⟨⟨fun r hr => ?_, fun r i hr hi => ?_, fun r i hr hi j b hj => ?_, fun b hb => ?_⟩, ?_, c4⟩
  · obtain ⟨a1, a2⟩ := h.rings.nest r hr
    exact ⟨by rw [hlab _ (by omega)]; exact a1, a2.of_block (hkeep _ (by omega))⟩
  · obtain ⟨a1, a2⟩ := h.rings.row r i hr hi
    refine ⟨own_ch a1 c4 fun g hg e => ?_, fun g hg => by rw [hlab g (by rw [a2 g hg]; omega)]; exact a2 g hg⟩
    have := a2 g hg
    rw [e, hm] at this
    omega
  · obtain ⟨a1, a2⟩ := h.rings.tim r i hr hi j b hj
    refine ⟨by rw [hlab b (by omega)]; exact a1, ?_⟩
    have hne : b ≠ w.heap.size := by have := a2.lt; omega
    unfold TimAt hdT tkT
    rw [if_neg hne, if_neg hne]
    exact (hkeep b (.inl a1)).trans a2
  · by_cases e : b = w.heap.size
    · subst e
      have : w3.heap.size = w.heap.size + 1 := by rw [h3]; simp
      have := c3.size
      omega
    · unfold labT at hb
      rw [if_neg e] at hb
      exact Nat.lt_of_lt_of_le (h.rings.lt b hb) c4.size
  · unfold TimAt hdT tkT
    rw [if_pos rfl, if_pos rfl]
    have hs : w3.heap.size = w.heap.size + 1 := by rw [h3]; simp
    rw [c3.block w.heap.size (by omega) (by omega), h3]
    rw [heap_alloc_new w _]
    rfl

theorem Wheel.armed {w3 w4 w5 : World} (h : Wheel w lab wb mb nb V L hd tk n U) {x : Int} (hx : isI x) (hno : ∀ a ∈ U, hd a ≠ x) {t : Nat} (ht : n < t ∧ t ≤ n + 4096)
    (h3 : w3 = w.alloc (.cells #[.int .i64 x, .int .i64 (t : Int), .int .i64 0] 66)) (tu : w3.mapTurned w4 mb)
    (M4 : MapIs w4 mb (fun k => if k = x then some w.heap.size else fdb hd U k) (U.length + 1)) {r i : Nat} (hr : r = hmR 2 t n) (hi : i = t / wide r % 16) {v : Value} {m : Nat}
    (R5 : Rings w5 (labR (labT lab w.heap.size) v r i) nb (up2 V r i v) (up2 L r i (L r i ++ [w.heap.size])) (hdT hd w.heap.size x) (tkT tk w.heap.size t))
    (c5 : Ch (w4.drewN m) w5 (fun k => k = w.heap.size ∨ labT lab w.heap.size k = 10 + r ∨ labT lab w.heap.size k = 100 + 16 * r + i))
    (hv : ∀ g, v.ownBlock = some g → labT lab w.heap.size g = 100 + 16 * r + i ∨ w4.heap.size ≤ g) :
    Wheel w5 (labR (labT lab w.heap.size) v r i) wb mb nb (up2 V r i v) (up2 L r i (L r i ++ [w.heap.size])) (hdT hd w.heap.size x) (tkT tk w.heap.size t) n (U ++ [w.heap.size]) ∧
      Ch w w5 (fun k => lab k ≠ 0) ∧ ∀ k, k < w.heap.size → labR (labT lab w.heap.size) v r i k = lab k := by
  obtain ⟨_, _, c4⟩ := h.fresh h3 tu
  have hm := h.mlab
  have hw1 := h.wlab
  have hmlt := h.map.lt
  have hwlt := h.lt
  have hr3 : r < 3 := by have := hmR_le 2 t n; omega
  have hi16 : i < 16 := by rw [hi]; exact Nat.mod_lt _ (by decide)
  have hs4 : w.heap.size < w4.heap.size := by
    have h5 : w3.heap.size = w.heap.size + 1 := by rw [h3]; simp
    have h6 := ((Ch.refl w3 (fun k => k = mb)).turned tu (fun _ => rfl)).size
    omega
  have hlab : ∀ k, k < w.heap.size → labR (labT lab w.heap.size) v r i k = lab k := fun k hk => by
    have h7 : labT lab w.heap.size k = lab k := by unfold labT; rw [if_neg (by omega)]
    unfold labR
    split
    · rename_i e
      rcases hv k e with h8 | h8
      · rw [← h8, h7]
      · omega
    · exact h7
  have ch : Ch w w5 (fun k => lab k ≠ 0) := by
    refine c4.trans (m'' := fun k => lab k ≠ 0) ((Ch.refl w4 (fun k => k = w.heap.size ∨ labT lab w.heap.size k = 10 + r ∨ labT lab w.heap.size k = 100 + 16 * r + i)).drewN m |>.then_ c5) (fun k _ e => by rw [e, hm]; omega) (fun k hk e => ?_)
    have h7 : labT lab w.heap.size k = lab k := by unfold labT; rw [if_neg (by omega)]
    rw [h7] at e
    omega
  have hU : ∀ a ∈ U, a < w.heap.size := fun a ha => by
    obtain ⟨_, r', i', j, _, _, _, t'⟩ := h.tim ha
    exact t'.lt
  have hd0 : ∀ a, a < w.heap.size → hdT hd w.heap.size x a = hd a := fun a ha => by unfold hdT; rw [if_neg (by omega)]
  have tk0 : ∀ a, a < w.heap.size → tkT tk w.heap.size t a = tk a := fun a ha => by unfold tkT; rw [if_neg (by omega)]
  have hd1 : hdT hd w.heap.size x w.heap.size = x := by unfold hdT; rw [if_pos rfl]
  have tk1 : tkT tk w.heap.size t w.heap.size = t := by unfold tkT; rw [if_pos rfl]
  have keep5 : ∀ k, k < w.heap.size → (lab k = 1 ∨ lab k = 2) → w5.heap[k]? = w4.heap[k]? := fun k hk hl => by
    have h7 : labT lab w.heap.size k = lab k := by unfold labT; rw [if_neg (by omega)]
    exact c5.block k (by show k < w4.heap.size; omega) (by rw [h7]; omega)
  refine ⟨⟨R5, by rw [hlab wb hwlt]; exact hw1, ?_, by rw [hlab mb hmlt]; exact hm, ?_, fun b => ?_, fun r' i' b h1 h2 hb => ?_, ?_, fun a c ha hc e => ?_, fun a ha => ?_⟩, ch, hlab⟩
  · exact (keep5 wb hwlt (.inl hw1)).trans ((c4.block wb hwlt (fun e => by rw [e, hm] at hw1; omega)).trans h.whl)
  · rw [List.length_append]
    have hf : (fun k => if k = x then some w.heap.size else fdb hd U k) = fdb (hdT hd w.heap.size x) (U ++ [w.heap.size]) := by
      funext k
      unfold fdb
      rw [List.find?_append]
      have h9 : U.find? (fun b => decide (hdT hd w.heap.size x b = k)) = U.find? (fun b => decide (hd b = k)) := by
        refine find_congr fun a ha => ?_
        rw [hd0 a (hU a ha)]
      rw [h9]
      by_cases e : k = x
      · subst e
        rw [if_pos rfl, List.find?_eq_none.2 (fun a ha => by simpa using hno a ha)]
        simp [hd1]
      · rw [if_neg e]
        cases U.find? (fun b => decide (hd b = k)) with
        | some y => rfl
        | none =>
          have : ¬ x = k := fun q => e q.symm
          simp [hd1, this]
    rw [← hf]
    exact M4.keep (keep5 mb hmlt (.inr hm))
  · rw [List.mem_append, List.mem_singleton]
    constructor
    · rintro ⟨r', i', h1, h2, hb⟩
      by_cases q : r' = r ∧ i' = i
      · obtain ⟨rfl, rfl⟩ := q
        rw [up2_same, List.mem_append, List.mem_singleton] at hb
        rcases hb with hb | hb
        · exact .inl ((h.mem b).1 ⟨r', i', h1, h2, hb⟩)
        · exact .inr hb
      · rw [up2_other _ _ q] at hb
        exact .inl ((h.mem b).1 ⟨r', i', h1, h2, hb⟩)
    · rintro (hb | rfl)
      · obtain ⟨r', i', h1, h2, hb'⟩ := (h.mem b).2 hb
        refine ⟨r', i', h1, h2, ?_⟩
        by_cases q : r' = r ∧ i' = i
        · obtain ⟨rfl, rfl⟩ := q
          rw [up2_same]
          exact List.mem_append_left _ hb'
        · rw [up2_other _ _ q]
          exact hb'
      · refine ⟨r, i, hr3, hi16, ?_⟩
        rw [up2_same]
        exact List.mem_append_right _ (List.mem_singleton.2 rfl)
  · have old : b ∈ L r' i' → r' = hmR 2 (tkT tk w.heap.size t b) n ∧ i' = tkT tk w.heap.size t b / wide r' % 16 ∧ n < tkT tk w.heap.size t b ∧ tkT tk w.heap.size t b ≤ n + 4096 := fun hb => by
      rw [tk0 b (h.inLt h1 h2 hb)]
      exact h.pl r' i' b h1 h2 hb
    by_cases q : r' = r ∧ i' = i
    · obtain ⟨rfl, rfl⟩ := q
      rw [up2_same, List.mem_append, List.mem_singleton] at hb
      rcases hb with hb | rfl
      · exact old hb
      · rw [tk1]
        exact ⟨hr, hi, ht.1, ht.2⟩
    · rw [up2_other _ _ q] at hb
      exact old hb
  · rw [List.nodup_append]
    refine ⟨h.nd, by simp, fun a ha c hc e => ?_⟩
    rw [List.mem_singleton] at hc
    have := hU a ha
    omega
  · rw [List.mem_append, List.mem_singleton] at ha hc
    rcases ha with ha | rfl <;> rcases hc with hc | rfl
    · rw [hd0 a (hU a ha), hd0 c (hU c hc)] at e
      exact h.dist a c ha hc e
    · rw [hd0 a (hU a ha), hd1] at e
      exact absurd e (hno a ha)
    · rw [hd0 c (hU c hc), hd1] at e
      exact absurd e.symm (hno c hc)
    · rfl
  · rw [List.mem_append, List.mem_singleton] at ha
    rcases ha with ha | rfl
    · rw [hd0 a (hU a ha)]
      exact h.hI a ha
    · rw [hd1]
      exact hx

set_option maxHeartbeats 1600000 in
theorem arm_bad (h : Wheel w lab wb mb nb V L hd tk n U) {x t : Int} (ht : isI t) (hn : n + 20000 ≤ 4611686018427387904) (hb : ¬((n : Int) < t ∧ t ≤ (n : Int) + 4096)) :
    Calls Try.prog 12 #[ptr wb, .int .i64 x, .int .i64 t] w fun e w' => e = .returned (.int .i64 1) ∧ w' = w := by
  have c1 := h.c1
  clear h
  unfold isI at ht
  unfold ptr
  by_cases hle : t ≤ (n : Int)
  · go_enter Try.func12, Try.ntmps12
    go_wp2_with fail
    go_ret
    exact ⟨rfl, rfl⟩
  · have hd1 : decide (t ≤ (n : Int)) = false := decide_eq_false hle
    have hgt : 4096 < t - (n : Int) := by omega
    go_enter Try.func12, Try.ntmps12
    go_wp2_with fail
    go_ret
    exact ⟨rfl, rfl⟩
end

end Go.Proofs.Ytkmhgcdjmfafhaa

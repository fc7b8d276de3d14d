/- Time goes on by one tick in the rings: the contract of step, ring by ring. Condition: the rings stand, each timer at its place; what byHandle does.
Time goes on by one tick in the rings: a ring's list is poured into the ring within. Condition: the rings stand, each timer at its place; what byHandle does. -/
import Derived.Test.YtlcegchdkigibaaGreatDoorMg23
namespace Go.Proofs.YtlcegchdkigibaaGreatDoor.LW
set_option linter.unusedVariables false
set_option linter.unusedSimpArgs false
open Go.RowKit

theorem own_ch {w w' : World} {e : TypeId} {v : Value} {n : Nat} {xs : List Value} {m : Nat → Prop} (h : w.ownsRow 0 e 1 v n xs) (c : Ch w w' m) (hm : ∀ g, v.ownBlock = some g → ¬ m g) : w'.ownsRow 0 e 1 v n xs := by
  refine ⟨h.1, ?_⟩
  rcases h.2 with hn | ⟨g, cap, cur, hv, hb, hg, rest⟩
  · exact .inl hn
  · exact .inr ⟨g, cap, cur, hv, hb, (c.block g (Array.getElem?_eq_some_iff.1 hg).1 (hm g (by rw [hv]; rfl))).trans hg, rest⟩

/-- What byHandle does: the row is put in the order of the handles. -/
def ByH (hd : Nat → Int) (tk : Nat → Nat) : Prop := ∀ (w : World) (A : Option Addr) (c : Nat) (xs : List Nat), xs.length ≤ 1099511627776 → w.ownsRow 0 240 1 (.slice A xs.length c) xs.length (xs.map ptr) → (∀ b ∈ xs, Tim w hd tk b ∧ (Value.slice A xs.length c).ownBlock ≠ some b) →
  Calls Tryz.prog 268 #[.slice A xs.length c] w fun e w' => e = .returned (.slice A xs.length c) ∧
    ∃ zs : List Nat, zs.Perm xs ∧ zs.Pairwise (fun a b => hd a ≤ hd b) ∧ w'.ownsRow 0 240 1 (.slice A xs.length c) xs.length (zs.map ptr) ∧ Ch w w' (fun k => (Value.slice A xs.length c).ownBlock = some k)

/-- What a step leaves: those that are due, in order; the rings without them. -/
def Stepped (w : World) (lab : Nat → Nat) (nb : Nat → Nat) (L : Lists) (hd : Nat → Int) (tk : Nat → Nat) (n : Nat) (e : Ending) (w' : World) : Prop :=
  ∃ (A : Option Addr) (c : Nat) (lab' : Nat → Nat) (V' : Nat → Nat → Value) (L' : Lists) (zs : List Nat), e = .returned (.slice A zs.length c) ∧ Rings w' lab' nb V' L' hd tk ∧ Pl L' tk n ∧ zs.Nodup ∧ (∀ b, b ∈ zs ↔ InL L b ∧ tk b = n) ∧ (∀ b, InL L' b ↔ InL L b ∧ tk b ≠ n) ∧
    zs.Pairwise (fun a b => hd a ≤ hd b) ∧ w'.ownsRow 0 240 1 (.slice A zs.length c) zs.length (zs.map ptr) ∧ (∀ g, (Value.slice A zs.length c).ownBlock = some g → 100 ≤ lab' g) ∧
    Ch w w' (fun k => lab k = 3 ∨ 10 ≤ lab k) ∧ (∀ k, k < w.heap.size → lab' k = lab k) ∧ ∀ k, lab k = 3 → Tim w hd tk k → Tim w' hd tk k

set_option maxHeartbeats 1600000 in
theorem step_leaf {lab : Nat → Nat} {nb : Nat → Nat} {V : Nat → Nat → Value} {L : Lists} {hd : Nat → Int} {tk : Nat → Nat} {w : World} (R : Rings w lab nb V L hd tk) (n : Nat) (hn : n ≤ 4611686018427387904) (hP : Pm 0 L tk n)
    (U : List Nat) (hU : ∀ b, InL L b → b ∈ U) (hUl : U.length ≤ 1099511627776) (HB : ByH hd tk) :
    Calls Tryz.prog 189 #[ptr (nb 0), .int .i64 (n : Int)] w (Stepped w lab nb L hd tk n) := by
  have hi : n % 16 < 16 := Nat.mod_lt _ (by decide)
  have h17 := R.in_cell (r := 0) (by omega)
  rw [if_pos rfl] at h17
  obtain ⟨row, rlab⟩ := R.row 0 (n % 16) (by omega) hi
  obtain ⟨A, c, hv, _, _, _⟩ := slice_of_own row
  have hlen : (L 0 (n % 16)).length ≤ 1099511627776 := Nat.le_trans (nodup_len _ U (R.nodup (by omega) hi) fun b hb => hU b ⟨0, _, by omega, hi, hb⟩) hUl
  have HE := Lib.hid (show ∀ W, Rings W lab nb V L hd tk → Calls Tryz.prog 267 #[ptr (nb 0), .int .i64 (n : Int)] W fun e w' => e = .returned (.slice A (L 0 (n % 16)).length c) ∧
      Rings w' lab nb (up2 V 0 (n % 16) (.slice none 0 0)) (up2 L 0 (n % 16) []) hd tk ∧ Ch W w' (fun k => k = nb 0) from fun W h => by
    have h1 := empty_any h (r := 0) (t := n) (by omega) hn
    rw [wide0, Nat.div_one, hv] at h1
    exact h1)
  have K1 := Lib.hid (show ∀ w1, Ch w w1 (fun k => k = nb 0) → w1.ownsRow 0 240 1 (.slice A (L 0 (n % 16)).length c) (L 0 (n % 16)).length ((L 0 (n % 16)).map ptr) from fun w1 c1 => by
    rw [hv] at row rlab
    exact own_ch row c1 fun g hg e => by have h1 := rlab g hg; have h2 := (R.nest 0 (by omega)).1; rw [← e] at h2; omega)
  have K2 := Lib.hid (show ∀ w1, Ch w w1 (fun k => k = nb 0) → ∀ b ∈ L 0 (n % 16), Tim w1 hd tk b ∧ (Value.slice A (L 0 (n % 16)).length c).ownBlock ≠ some b from fun w1 c1 b hb => by
    rw [hv] at row rlab
    obtain ⟨j, hj, e⟩ := List.getElem_of_mem hb
    obtain ⟨t1, t2⟩ := R.tim 0 (n % 16) (by omega) hi j b (by rw [List.getElem?_eq_getElem hj, e])
    refine ⟨⟨j, t2.keep (c1.block b t2.lt fun e => ?_)⟩, fun e => ?_⟩
    · have h2 := (R.nest 0 (by omega)).1
      rw [← e] at h2
      omega
    · have := rlab b e
      omega)
  have HR := Lib.hid R
  have HBB := Lib.hid HB
  have HP := Lib.hid hP
  clear HB hP
  rw [hv] at row rlab
  unfold ptr at *
  go_enter Tryz.func189, Tryz.ntmps189
  go_wp2_with (first
    | (go_at_call 267; refine (HE.out _ HR.out).mono ?_; rintro e w1 ⟨rfl, R1, c1⟩)
    | (go_at_call 268; refine (HBB.out _ _ _ _ hlen (K1.out _ c1) (K2.out _ c1)).mono ?_; rintro e w2 ⟨rfl, zs, p1, p2, p3, c2⟩))
  go_ret
  have hP := HP.out
  have hzl : zs.length = (L 0 (n % 16)).length := p1.length_eq
  have hb0 := (R.nest 0 (by omega)).1
  have R2 : Rings w2 lab nb (up2 V 0 (n % 16) (.slice none 0 0)) (up2 L 0 (n % 16) []) hd tk := by
    refine ⟨fun r hr => ?_, fun r i hr hi' => ?_, fun r i hr hi' j b hj => ?_, fun b hb => Nat.lt_of_lt_of_le (R1.lt b hb) c2.size⟩
    · obtain ⟨a1, a2⟩ := R1.nest r hr
      exact ⟨a1, a2.of_block (c2.block _ a2.lt fun e => by have := rlab _ e; omega)⟩
    · obtain ⟨a1, a2⟩ := R1.row r i hr hi'
      refine ⟨own_ch a1 c2 fun g hg e => ?_, a2⟩
      have h1 := rlab g e
      have h2 := a2 g hg
      by_cases h3 : r = 0 ∧ i = n % 16
      · obtain ⟨rfl, rfl⟩ := h3
        rw [up2_same] at hg
        cases hg
      · omega
    · obtain ⟨a1, a2⟩ := R1.tim r i hr hi' j b hj
      exact ⟨a1, a2.keep (c2.block b a2.lt fun e => by have := rlab b e; omega)⟩
  have hp3 : w2.ownsRow 0 240 1 (.slice A zs.length c) zs.length (zs.map ptr) := by rw [hzl]; exact p3
  have hch : Ch w w2 (fun k => lab k = 3 ∨ 10 ≤ lab k) := c1.trans c2 (fun x _ e => .inr (by rw [e, hb0]; omega)) (fun x _ e => .inr (by have := rlab x e; omega))
  refine ⟨A, c, lab, _, _, zs, by rw [hzl]; rfl, R2, hP.finish, (p1.nodup_iff).2 (R.nodup (by omega) hi), fun b => ?_, fun b => ?_, p2, hp3, fun g hg => ?_, hch, fun _ _ => rfl, fun k hk hT => ?_⟩
  · rw [p1.mem_iff]
    exact hP.due b
  · constructor
    · rintro ⟨r, i, h1, h2, hb⟩
      by_cases e : r = 0 ∧ i = n % 16
      · obtain ⟨rfl, rfl⟩ := e
        rw [up2_same] at hb
        cases hb
      · rw [up2_other _ _ e] at hb
        refine ⟨⟨r, i, h1, h2, hb⟩, fun e' => e ?_⟩
        exact hP.dj (by omega) r i 0 (n % 16) h1 h2 (by omega) hi b hb ((hP.due b).2 ⟨⟨r, i, h1, h2, hb⟩, e'⟩)
    · rintro ⟨⟨r, i, h1, h2, hb⟩, hne⟩
      refine ⟨r, i, h1, h2, ?_⟩
      rw [up2_other _ _ (fun e => ?_)]
      · exact hb
      · obtain ⟨rfl, rfl⟩ := e
        exact hne ((hP.due b).1 hb).2
  · rw [hzl] at hg
    have := rlab g hg
    omega
  · refine (hT.keep (c1.block k hT.lt fun e => ?_)).keep (c2.block k (Nat.lt_of_lt_of_le hT.lt c1.size) fun e => ?_)
    · rw [e, hb0] at hk
      omega
    · have := rlab k e
      omega

end Go.Proofs.YtlcegchdkigibaaGreatDoor.LW

namespace Go.Proofs.YtlcegchdkigibaaGreatDoor.LW
set_option linter.unusedVariables false
set_option linter.unusedSimpArgs false
open Go.RowKit

/-- Two worlds with the same memory. -/
def Sim (a b : World) : Prop := b.heap = a.heap ∧ b.os = a.os ∧ b.tape = a.tape ∧ b.output = a.output
theorem Sim.mk' {a b : World} (h1 : b.heap = a.heap) (h2 : b.os = a.os) (h3 : b.tape = a.tape) (h4 : b.output = a.output) : Sim a b := ⟨h1, h2, h3, h4⟩
theorem Sim.ch {a b : World} (h : Sim a b) (m : Nat → Prop) : Ch a b m := ⟨h.2.1, h.2.2.1, h.2.2.2, by rw [h.1]; exact Nat.le_refl _, fun k _ _ => by rw [h.1]⟩
theorem Sim.rings {a b : World} (h : Sim a b) {lab : Nat → Nat} {nb : Nat → Nat} {V : Nat → Nat → Value} {L : Lists} {hd : Nat → Int} {tk : Nat → Nat} (R : Rings a lab nb V L hd tk) : Rings b lab nb V L hd tk :=
  R.keep (by rw [h.1]; exact Nat.le_refl _) fun k _ => by rw [h.1]

/-- How far a list has been poured into ring r: k of its timers. -/
def Pk (w1 : World) (lab : Nat → Nat) (nb : Nat → Nat) (L1 : Lists) (hd : Nat → Int) (tk : Nat → Nat) (r : Nat) (xs : List Nat) (k : Nat) (wr : World) (lab' : Nat → Nat) (V' : Nat → Nat → Value) (L' : Lists) : Prop :=
  Rings wr lab' nb V' L' hd tk ∧ (∀ r' i', r' ≠ r → L' r' i' = L1 r' i') ∧ (∀ j b, j < 16 → (b ∈ L' r j ↔ b ∈ L1 r j ∨ b ∈ xs.take k ∧ tk b / wide r % 16 = j)) ∧
    Ch w1 wr (fun q => lab q = 3 ∨ lab q = 10 + r ∨ 100 + 16 * r ≤ lab q ∧ lab q < 116 + 16 * r) ∧ (∀ q, q < w1.heap.size → lab' q = lab q) ∧ ∀ q, lab q = 3 → Tim w1 hd tk q → Tim wr hd tk q

theorem Pk.start {w1 : World} {lab : Nat → Nat} {nb : Nat → Nat} {V1 : Nat → Nat → Value} {L1 : Lists} {hd : Nat → Int} {tk : Nat → Nat} (R : Rings w1 lab nb V1 L1 hd tk) (r : Nat) (xs : List Nat) : Pk w1 lab nb L1 hd tk r xs 0 w1 lab V1 L1 :=
  ⟨R, fun _ _ _ => rfl, fun j b _ => by simp, Ch.refl _ _, fun _ _ => rfl, fun _ _ h => h⟩

theorem Pk.next {w1 wr w2 : World} {lab lab' : Nat → Nat} {nb : Nat → Nat} {V' : Nat → Nat → Value} {L1 L' : Lists} {hd : Nat → Int} {tk : Nat → Nat} {r k b : Nat} {xs : List Nat} (h : Pk w1 lab nb L1 hd tk r xs k wr lab' V' L')
    (hlt : ∀ q, lab q ≠ 0 → q < w1.heap.size) (hk : xs[k]? = some b) (hb : lab b = 3) {v : Value}
    (R : Rings w2 (labR lab' v r (tk b / wide r % 16)) nb (up2 V' r (tk b / wide r % 16) v) (up2 L' r (tk b / wide r % 16) (L' r (tk b / wide r % 16) ++ [b])) hd tk)
    (c : Ch wr w2 (fun q => q = b ∨ lab' q = 10 + r ∨ lab' q = 100 + 16 * r + tk b / wide r % 16)) (ht : ∀ q, lab' q = 3 → Tim wr hd tk q → Tim w2 hd tk q)
    (hv : ∀ g, v.ownBlock = some g → lab' g = 100 + 16 * r + tk b / wide r % 16 ∨ wr.heap.size ≤ g) :
    Pk w1 lab nb L1 hd tk r xs (k + 1) w2 (labR lab' v r (tk b / wide r % 16)) (up2 V' r (tk b / wide r % 16) v) (up2 L' r (tk b / wide r % 16) (L' r (tk b / wide r % 16) ++ [b])) := by
  obtain ⟨R0, h1, h2, h3, h4, h5⟩ := h
  have h16 : tk b / wide r % 16 < 16 := Nat.mod_lt _ (by decide)
  obtain ⟨hkl, hkb⟩ := List.getElem?_eq_some_iff.1 hk
  have htake : xs.take (k + 1) = xs.take k ++ [b] := by rw [List.take_add_one, hk]; rfl
  refine ⟨R, fun r' i' hne => ?_, fun j x hj => ?_, ?_, fun q hq => ?_, fun q hq hT => ?_⟩
  · rw [up2_other _ _ (fun e => hne e.1)]
    exact h1 r' i' hne
  · rw [htake]
    by_cases e : j = tk b / wide r % 16
    · subst e
      rw [up2_same, List.mem_append, h2 _ x h16, List.mem_append, List.mem_singleton]
      constructor
      · rintro ((h | ⟨h, h'⟩) | rfl)
        · exact .inl h
        · exact .inr ⟨.inl h, h'⟩
        · exact .inr ⟨.inr rfl, rfl⟩
      · rintro (h | ⟨h | h, h'⟩)
        · exact .inl (.inl h)
        · exact .inl (.inr ⟨h, h'⟩)
        · exact .inr h
    · rw [up2_other _ _ (fun e' => e e'.2), h2 j x hj, List.mem_append, List.mem_singleton]
      constructor
      · rintro (h | ⟨h, h'⟩)
        · exact .inl h
        · exact .inr ⟨.inl h, h'⟩
      · rintro (h | ⟨h | rfl, h'⟩)
        · exact .inl h
        · exact .inr ⟨h, h'⟩
        · exact absurd h'.symm e
  · refine h3.trans c (fun _ _ x => x) fun q hq hx => ?_
    rw [h4 q hq] at hx
    rcases hx with rfl | h | h
    · exact .inl hb
    · exact .inr (.inl h)
    · exact .inr (.inr (by omega))
  · unfold labR
    split
    · rename_i e
      have := h3.size
      rcases hv q e with h | h
      · rw [← h, h4 q hq]
      · omega
    · exact h4 q hq
  · exact ht q (by rw [h4 q (hlt q (by omega))]; exact hq) (h5 q hq hT)

set_option maxHeartbeats 4000000 in
theorem step_node {lab : Nat → Nat} {nb : Nat → Nat} {V : Nat → Nat → Value} {L : Lists} {hd : Nat → Int} {tk : Nat → Nat} {w : World} (R : Rings w lab nb V L hd tk) {r : Nat} (hr : r < 2) (n : Nat) (hn : n ≤ 4611686018427387904) (hP : Pm (r + 1) L tk n)
    (U : List Nat) (hU : ∀ b, InL L b → b ∈ U) (hUl : U.length ≤ 1099511627776) (hT : ∀ b ∈ U, tk b ≤ 4611686018427387904)
    (HI : ∀ (w : World) (lab : Nat → Nat) (V : Nat → Nat → Value) (L : Lists), Rings w lab nb V L hd tk → Pm r L tk n → (∀ b, InL L b → b ∈ U) → Calls Tryz.prog 189 #[ptr (nb r), .int .i64 (n : Int)] w (Stepped w lab nb L hd tk n))
    (hmod : n % wide (r + 1) = 0) :
    Calls Tryz.prog 189 #[ptr (nb (r + 1)), .int .i64 (n : Int)] w (Stepped w lab nb L hd tk n) := by
  have hr3 : r + 1 < 3 := by omega
  have hi : n / wide (r + 1) % 16 < 16 := Nat.mod_lt _ (by decide)
  have h17 := R.in_cell hr3
  rw [if_neg (by omega), Nat.add_sub_cancel] at h17
  have h0 := R.wide_cell hr3
  have hE := empty_any R (t := n) hr3 hn
  have hmz : (n : Int).tmod (wide (r + 1) : Nat) = 0 := by rw [show (n : Int).tmod (wide (r + 1) : Nat) = ((n % wide (r + 1) : Nat) : Int) from (Int.ofNat_tmod _ _).symm, hmod]; rfl
  have hwp : ¬ ((wide (r + 1) : Nat) : Int) = 0 := by have := wide_pos (r + 1); omega
  have HM := Lib.hid hmod
  have HP := Lib.hid hP
  clear hmod hP
  generalize hi0 : n / wide (r + 1) % 16 = i at *
  have HI0 := Lib.hid hi0
  clear hi0
  obtain ⟨row, rlab⟩ := R.row (r + 1) i hr3 hi
  obtain ⟨A, c, hv, _, hc, _⟩ := slice_of_own row
  rw [hv] at hE row rlab
  have hlen : (L (r + 1) i).length ≤ 1099511627776 := Nat.le_trans (nodup_len _ U (R.nodup hr3 hi) fun b hb => hU b ⟨_, _, hr3, hi, hb⟩) hUl
  have hxs := R.nodup hr3 hi
  have HV := Lib.hid hv
  clear hv
  generalize hxe : L (r + 1) i = xs at *
  have HX := Lib.hid hxe
  clear hxe
  generalize hwd : wide (r + 1) = wd at *
  have HWD := Lib.hid hwd
  clear hwd
  have HE := Lib.hid hE
  have HII := Lib.hid HI
  have HR := Lib.hid R
  clear hE HI
  generalize hl : xs.length = l at *
  have HL := Lib.hid hl
  clear hl
  unfold ptr at h17 ⊢
  go_enter Tryz.func189, Tryz.ntmps189
  go_wp2_with (first
    | (go_at_call 267; refine (HE.out).mono ?_; rintro e w1 ⟨rfl, R1, c1⟩))
  have hw1 : w1.ownsRow 0 240 1 (.slice A l c) l (xs.map ptr) := own_ch row c1 fun g hg e => by
    have h1 := rlab g hg
    have h2 := (R.nest (r + 1) hr3).1
    rw [← e] at h2
    omega
  have hlt1 : ∀ q, lab q ≠ 0 → q < w1.heap.size := R1.lt
  have hDj := (HP.out).dj (by omega)
  have hbs : ∀ (k : Nat) (b : Nat), xs[k]? = some b → lab b = 3 ∧ Tim w1 hd tk b ∧ tk b ≤ 4611686018427387904 := fun k b hk => by
    have hk2 : (L (r + 1) i)[k]? = some b := by rw [HX.out]; exact hk
    obtain ⟨t1, t2⟩ := R.tim (r + 1) i hr3 hi k b hk2
    refine ⟨t1, ⟨k, t2.keep (c1.block b t2.lt fun e => ?_)⟩, hT b (hU b ⟨_, _, hr3, hi, List.mem_of_getElem? hk2⟩)⟩
    have h2 := (R.nest (r + 1) hr3).1
    rw [← e] at h2
    omega
  have HBS := Lib.hid hbs
  have HDj := Lib.hid hDj
  have HL1 := Lib.hid hlt1
  have HW1 := Lib.hid hw1
  clear hbs hDj hlt1 hw1 row
  go_loopw [32] (fun ix wr => ∃ (k : Nat) (lab' : Nat → Nat) (V' : Nat → Nat → Value) (L' : Lists), k ≤ l ∧ ix = .int .i64 k ∧ Pk w1 lab nb (up2 L (r + 1) i []) hd tk r xs k wr lab' V' L') (fun ix _ => l - (intOf ix).toNat)
  case atStart => exact ⟨0, lab, _, _, Nat.zero_le _, rfl, Pk.start R1 r xs⟩
  case round =>
    obtain ⟨k, lab', V', L', hkl, rfl, PK⟩ := hrel
    have HPK := Lib.hid PK
    obtain ⟨R0, q1, q2, q3, q4, q5⟩ := PK
    by_cases hlt : k < l
    · have hk : xs[k]? = some (xs[k]'(by rw [HL.out]; exact hlt)) := List.getElem?_eq_getElem _
      generalize xs[k]'(by rw [HL.out]; exact hlt) = b at hk
      obtain ⟨b3, bT, bt⟩ := HBS.out k b hk
      have bTr := q5 b b3 bT
      have bl : lab' b = 3 := by rw [q4 b bT.lt]; exact b3
      have bno : ∀ r' i', r' < 3 → i' < 16 → b ∉ L' r' i' := fun r' i' h1 h2 hb => by
        have hbL : b ∈ L (r + 1) i := by rw [HX.out]; exact List.mem_of_getElem? hk
        have old : b ∉ up2 L (r + 1) i [] r' i' := fun hb => by
          by_cases e : r' = r + 1 ∧ i' = i
          · obtain ⟨rfl, rfl⟩ := e
            rw [up2_same] at hb
            cases hb
          · rw [up2_other _ _ e] at hb
            exact e (HDj.out _ _ _ _ h1 h2 hr3 hi b hb hbL)
        by_cases e : r' = r
        · subst e
          rcases (q2 i' b h2).1 hb with h | ⟨h, _⟩
          · exact old h
          · obtain ⟨q, hq, e⟩ := List.getElem_of_mem h
            rw [List.length_take] at hq
            rw [List.getElem_take] at e
            obtain ⟨hk1, hk2⟩ := List.getElem?_eq_some_iff.1 hk
            have := (List.getElem_inj hxs).1 (e.trans hk2.symm)
            omega
        · rw [q1 r' i' e] at hb
          exact old hb
      have h16 : tk b / wide r % 16 < 16 := Nat.mod_lt _ (by decide)
      have hll : (L' r (tk b / wide r % 16)).length ≤ 1099511627776 := by
        refine Nat.le_trans (nodup_len _ U (R0.nodup (by omega) h16) fun x hx => ?_) hUl
        rcases (q2 _ x h16).1 hx with h | ⟨h, _⟩
        · by_cases e : r = r + 1 ∧ tk b / wide r % 16 = i
          · omega
          · rw [up2_other _ _ e] at h
            exact hU x ⟨_, _, by omega, h16, h⟩
        · refine hU x ⟨r + 1, i, hr3, hi, ?_⟩
          rw [HX.out]
          exact List.mem_of_mem_take h
      have hA : ∃ g, A = some ⟨g, 0, none⟩ ∧ wr.cell? ⟨g, k, none⟩ = some (.pointer (some ⟨b, 0, none⟩)) := by
        have h1 := own_ch HW1.out q3 fun g hg e => by have := rlab g hg; omega
        rcases h1.2 with ⟨h2, h3⟩ | ⟨g, cap, cur, h2, _⟩
        · omega
        · injection h2 with h2 _ h4
          subst h2
          subst h4
          refine ⟨g, rfl, ?_⟩
          rw [World.ownsRow.cellAt h1 k (by omega)]
          simp [hk, ptr]
      obtain ⟨g, rfl, gk⟩ := hA
      have r17 := R0.in_cell hr3
      rw [if_neg (by omega), Nat.add_sub_cancel] at r17
      have w0 := R0.wide_cell (r := r) (by omega)
      have bt1 : wr.cell? ⟨b, 1, none⟩ = some (.int .i64 (tk b : Int)) := bTr.elim fun _ h => h.c1
      have HO := Lib.hid (show ∀ W, Sim wr W → Calls Tryz.prog 269 #[ptr (nb r), .int .i64 (tk b : Int)] W fun e w' => e = .returned (.pointer (some ⟨nb r, 1 + tk b / wide r % 16, none⟩)) ∧ Dr W w' from fun W hs =>
        of_any (nb r) (wide r) (tk b) W (by rw [← w0]; exact World.cell?_of_block (by rw [hs.1])) (wide_pos r) bt)
      have HA := Lib.hid (show ∀ W, Sim wr W → Calls Tryz.prog 270 #[.pointer (some ⟨nb r, 1 + tk b / wide r % 16, none⟩), ptr b] W fun e w' => e = .returned (.tuple #[]) ∧
          (∃ lab' V' L', Pk w1 lab nb (up2 L (r + 1) i []) hd tk r xs (k + 1) w' lab' V' L') ∧ w'.cell? ⟨nb (r + 1), 17, none⟩ = some (ptr (nb r)) ∧ w'.cell? ⟨b, 1, none⟩ = some (.int .i64 (tk b : Int)) from fun W hs =>
        (add_any (hs.rings R0) (r := r) (i := tk b / wide r % 16) (b := b) (by omega) h16 bl (bTr.keep (by rw [hs.1])) bno hll).mono fun e w' ⟨he, v, a1, a2, a3, a4⟩ => ⟨he, ⟨_, _, _, (HPK.out).next HL1.out hk b3 a1
          ((hs.ch (fun _ => False)).trans a2 (fun _ _ h => h.elim) (fun _ _ h => h)) (fun q hq hT => a3 q hq (hT.keep (by rw [hs.1]))) (fun g hg => by rw [← hs.1]; exact a4 g hg)⟩, by have := a1.in_cell hr3; rw [if_neg (by omega), Nat.add_sub_cancel] at this; exact this, (a3 b bl (bTr.keep (by rw [hs.1]))).elim fun _ h => h.c1⟩)
      clear HPK R0 q1 q2 q3 q4 q5 bTr bno hll h16 w0
      generalize tk b / wide r % 16 = i2 at *
      unfold ptr at *
      go_wp2_with fail
      have HO1 := Lib.hid (fun m => HO.out (wr.drewN m) (Sim.mk' rfl rfl rfl rfl))
      have HA1 := Lib.hid (fun m => HA.out (wr.drewN m) (Sim.mk' rfl rfl rfl rfl))
      go_region_held3 (fun W => W.cell? ⟨nb (r + 1), 17, none⟩ = some (.pointer (some ⟨nb r, 0, none⟩)) ∧ W.cell? ⟨b, 1, none⟩ = some (.int .i64 (tk b : Int)))
        (first
          | exact ⟨r17, bt1⟩
          | exact ⟨k17, kb1⟩)
        (first
          | (go_at_call 269; refine (HO1.out 1).mono ?_; rintro e w9 ⟨rfl, m9, rfl⟩)
          | (go_at_call 270; refine (HA1.out _).mono ?_; rintro e w9 ⟨rfl, ⟨lab9, V9, L9, PK9⟩, k17, kb1⟩))
      go_wp2
      go_roundw
      case rel => exact ⟨k + 1, lab9, V9, L9, by omega, by go_num, PK9⟩
      case measure => simp [intOf]; omega
    · obtain rfl : k = l := by omega
      have r17 := R0.in_cell hr3
      rw [if_neg (by omega), Nat.add_sub_cancel] at r17
      have hall : xs.take k = xs := by rw [← HL.out, List.take_length]
      have hpour : Poured r i L L' tk := by
        refine ⟨fun r' i' h1 h2 => ?_, ?_, fun j x hj => ?_⟩
        · rw [q1 r' i' h1, up2_other _ _ h2]
        · rw [q1 (r + 1) i (by omega), up2_same]
        · rw [q2 j x hj, hall, HX.out, up2_other _ _ (by omega)]
      have hPm : Pm r L' tk n := by
        refine (HP.out).poured hr ?_ ?_
        · rw [HWD.out]; exact HM.out
        · rw [HWD.out, HI0.out]; exact hpour
      have hUU : ∀ x, InL L' x → x ∈ U := fun x hx => hU x ((hpour.inL hr hi x).1 hx)
      have HN := Lib.hid (HII.out wr lab' V' L' R0 hPm hUU)
      have HPo := Lib.hid hpour
      have HQ3 := Lib.hid q3
      have HQ4 := Lib.hid q4
      have HQ5 := Lib.hid q5
      clear q1 q2 q3 q4 q5 hPm hUU hpour
      unfold ptr at *
      go_wp2_with (first | (go_at_call 189; refine (HN.out).mono ?_; rintro e w3 ⟨A3, c3, lab3, V3, L3, zs, rfl, s1, s2, s3, s4, s5, s6, s7, s8, s9, s10, s11⟩))
      go_ret
      have q3 := HQ3.out
      have q4 := HQ4.out
      have hb1 := (R.nest (r + 1) hr3).1
      have hz1 := c1.size
      have hz2 := q3.size
      have hin := (HPo.out).inL hr hi
      refine ⟨A3, c3, lab3, V3, L3, zs, rfl, s1, s2, s3, fun b => by rw [s4 b, hin b], fun b => by rw [s5 b, hin b], s6, s7, s8, ?_, fun q hq => ?_, fun q hq hT => ?_⟩
      · refine (c1.trans q3 (m'' := fun q => lab q = 3 ∨ 10 ≤ lab q) (fun q _ e => .inr (by rw [e, hb1]; omega)) (fun q _ e => by omega)).trans s9 (fun _ _ h => h) (fun q hq e => ?_)
        rw [q4 q (by omega)] at e
        exact e
      · rw [s10 q (by omega), q4 q (by omega)]
      · have h1 : Tim w1 hd tk q := hT.keep (c1.block q hT.lt fun e => by rw [e, hb1] at hq; omega)
        exact s11 q (by rw [q4 q h1.lt]; exact hq) (HQ5.out q hq h1)

set_option maxHeartbeats 1600000 in
theorem step_skip {lab : Nat → Nat} {nb : Nat → Nat} {V : Nat → Nat → Value} {L : Lists} {hd : Nat → Int} {tk : Nat → Nat} {w : World} (R : Rings w lab nb V L hd tk) {r : Nat} (hr : r < 2) (n : Nat) (hn : n ≤ 4611686018427387904)
    (HI : Calls Tryz.prog 189 #[ptr (nb r), .int .i64 (n : Int)] w (Stepped w lab nb L hd tk n))
    (hmod : n % wide (r + 1) ≠ 0) :
    Calls Tryz.prog 189 #[ptr (nb (r + 1)), .int .i64 (n : Int)] w (Stepped w lab nb L hd tk n) := by
  have hr3 : r + 1 < 3 := by omega
  have h17 := R.in_cell hr3
  rw [if_neg (by omega), Nat.add_sub_cancel] at h17
  have h0 := R.wide_cell hr3
  have hmz : (n : Int).tmod (wide (r + 1) : Nat) = ((n % wide (r + 1) : Nat) : Int) := (Int.ofNat_tmod _ _).symm
  have hmm : ¬ ((n % wide (r + 1) : Nat) : Int) = 0 := by omega
  have hwp : ¬ ((wide (r + 1) : Nat) : Int) = 0 := by have := wide_pos (r + 1); omega
  have hle : n % wide (r + 1) ≤ n := Nat.mod_le _ _
  clear hmod
  generalize n % wide (r + 1) = q at *
  generalize wide (r + 1) = wd at *
  have HN := Lib.hid HI
  clear HI
  unfold ptr at *
  go_enter Tryz.func189, Tryz.ntmps189
  go_wp2_with (first | (go_at_call 189; refine (HN.out).mono ?_; rintro e w3 ⟨A3, c3, lab3, V3, L3, zs, rfl, s1⟩))
  go_ret
  exact ⟨A3, c3, lab3, V3, L3, zs, rfl, s1⟩

theorem step_any {lab : Nat → Nat} {nb : Nat → Nat} {V : Nat → Nat → Value} {L : Lists} {hd : Nat → Int} {tk : Nat → Nat} {w : World} (R : Rings w lab nb V L hd tk) (n : Nat) (hn : n + 5000 ≤ 4611686018427387904) (hP : Pl L tk n)
    (U : List Nat) (hU : ∀ b, InL L b → b ∈ U) (hUl : U.length ≤ 1099511627776) (hT : ∀ b ∈ U, tk b ≤ 4611686018427387904) (HB : ByH hd tk) :
    Calls Tryz.prog 189 #[ptr (nb 2), .int .i64 ((n + 1 : Nat) : Int)] w (Stepped w lab nb L hd tk (n + 1)) := by
  have l0 : ∀ (w : World) (lab : Nat → Nat) (V : Nat → Nat → Value) (L : Lists), Rings w lab nb V L hd tk → Pm 0 L tk (n + 1) → (∀ b, InL L b → b ∈ U) → Calls Tryz.prog 189 #[ptr (nb 0), .int .i64 ((n + 1 : Nat) : Int)] w (Stepped w lab nb L hd tk (n + 1)) :=
    fun w lab V L R hP hU => step_leaf R (n + 1) (by omega) hP U hU hUl HB
  have l1 : ∀ (w : World) (lab : Nat → Nat) (V : Nat → Nat → Value) (L : Lists), Rings w lab nb V L hd tk → Pm 1 L tk (n + 1) → (∀ b, InL L b → b ∈ U) → Calls Tryz.prog 189 #[ptr (nb 1), .int .i64 ((n + 1 : Nat) : Int)] w (Stepped w lab nb L hd tk (n + 1)) :=
    fun w lab V L R hP hU => by
      by_cases h : (n + 1) % wide 1 = 0
      · exact step_node R (r := 0) (by omega) (n + 1) (by omega) hP U hU hUl hT l0 h
      · exact step_skip R (r := 0) (by omega) (n + 1) (by omega) (l0 w lab V L R (hP.skip (by omega) h) hU) h
  by_cases h : (n + 1) % wide 2 = 0
  · exact step_node R (r := 1) (by omega) (n + 1) (by omega) hP.start U hU hUl hT l1 h
  · exact step_skip R (r := 1) (by omega) (n + 1) (by omega) (l1 w lab V L R (hP.start.skip (by omega) h) hU) h

end Go.Proofs.YtlcegchdkigibaaGreatDoor.LW

/- Time goes on by one tick in the rings: the contract of step, ring by ring. Condition: the rings stand, each timer at its place; what byHandle does. -/
import Derived.Test.YtkmhgcdjmfafhaaWhE
import Derived.Test.YtkmhgcdjmfafhaaWhP
namespace Go.Proofs.Ytkmhgcdjmfafhaa
set_option linter.unusedVariables false
set_option linter.unusedSimpArgs false
open Go.RowKit

theorem own_ch {w w' : World} {e : TypeId} {v : Value} {n : Nat} {xs : List Value} {m : Nat → Prop} (h : w.ownsRow 0 e 1 v n xs) (c : Ch w w' m) (hm : ∀ g, v.ownBlock = some g → ¬ m g) : w'.ownsRow 0 e 1 v n xs := by
  refine ⟨h.1, ?_⟩
  rcases h.2 with hn | ⟨g, cap, cur, hv, hb, hg, rest⟩
  · exact .inl hn
  · exact .inr ⟨g, cap, cur, hv, hb, (c.block g (Array.getElem?_eq_some_iff.1 hg).1 (hm g (by rw [hv]; rfl))).trans hg, rest⟩

/-- What byHandle does: the row is put in the order of the handles. -/
def ByH (hd : Nat → Int) (tk : Nat → Nat) : Prop := ∀ (w : World) (A : Option Addr) (c : Nat) (xs : List Nat), xs.length ≤ 1099511627776 → w.ownsRow 0 64 1 (.slice A xs.length c) xs.length (xs.map ptr) → (∀ b ∈ xs, Tim w hd tk b ∧ (Value.slice A xs.length c).ownBlock ≠ some b) →
  Calls Try.prog 33 #[.slice A xs.length c] w fun e w' => e = .returned (.slice A xs.length c) ∧
    ∃ zs : List Nat, zs.Perm xs ∧ zs.Pairwise (fun a b => hd a ≤ hd b) ∧ w'.ownsRow 0 64 1 (.slice A xs.length c) xs.length (zs.map ptr) ∧ Ch w w' (fun k => (Value.slice A xs.length c).ownBlock = some k)

/-- What a step leaves: those that are due, in order; the rings without them. -/
def Stepped (w : World) (lab : Nat → Nat) (nb : Nat → Nat) (L : Lists) (hd : Nat → Int) (tk : Nat → Nat) (n : Nat) (e : Ending) (w' : World) : Prop :=
  ∃ (A : Option Addr) (c : Nat) (lab' : Nat → Nat) (V' : Nat → Nat → Value) (L' : Lists) (zs : List Nat), e = .returned (.slice A zs.length c) ∧ Rings w' lab' nb V' L' hd tk ∧ Pl L' tk n ∧ zs.Nodup ∧ (∀ b, b ∈ zs ↔ InL L b ∧ tk b = n) ∧ (∀ b, InL L' b ↔ InL L b ∧ tk b ≠ n) ∧
    zs.Pairwise (fun a b => hd a ≤ hd b) ∧ w'.ownsRow 0 64 1 (.slice A zs.length c) zs.length (zs.map ptr) ∧ (∀ g, (Value.slice A zs.length c).ownBlock = some g → 100 ≤ lab' g) ∧
    Ch w w' (fun k => lab k = 3 ∨ 10 ≤ lab k) ∧ (∀ k, k < w.heap.size → lab' k = lab k) ∧ ∀ k, lab k = 3 → Tim w hd tk k → Tim w' hd tk k

set_option maxHeartbeats 1600000 in
theorem step_leaf {lab : Nat → Nat} {nb : Nat → Nat} {V : Nat → Nat → Value} {L : Lists} {hd : Nat → Int} {tk : Nat → Nat} {w : World} (R : Rings w lab nb V L hd tk) (n : Nat) (hn : n ≤ 4611686018427387904) (hP : Pm 0 L tk n)
    (U : List Nat) (hU : ∀ b, InL L b → b ∈ U) (hUl : U.length ≤ 1099511627776) (HB : ByH hd tk) :
    Calls Try.prog 28 #[ptr (nb 0), .int .i64 (n : Int)] w (Stepped w lab nb L hd tk n) := by
  have hi : n % 16 < 16 := Nat.mod_lt _ (by decide)
  have h17 := R.in_cell (r := 0) (by omega)
  rw [if_pos rfl] at h17
  obtain ⟨row, rlab⟩ := R.row 0 (n % 16) (by omega) hi
  obtain ⟨A, c, hv, _, _, _⟩ := slice_of_own row
  have hlen : (L 0 (n % 16)).length ≤ 1099511627776 := Nat.le_trans (nodup_len _ U (R.nodup (by omega) hi) fun b hb => hU b ⟨0, _, by omega, hi, hb⟩) hUl
  have HE := Lib.hid (show ∀ W, Rings W lab nb V L hd tk → Calls Try.prog 32 #[ptr (nb 0), .int .i64 (n : Int)] W fun e w' => e = .returned (.slice A (L 0 (n % 16)).length c) ∧
      Rings w' lab nb (up2 V 0 (n % 16) (.slice none 0 0)) (up2 L 0 (n % 16) []) hd tk ∧ Ch W w' (fun k => k = nb 0) from fun W h => by
    have h1 := empty_any h (r := 0) (t := n) (by omega) hn
    rw [wide0, Nat.div_one, hv] at h1
    exact h1)
  have K1 := Lib.hid (show ∀ w1, Ch w w1 (fun k => k = nb 0) → w1.ownsRow 0 64 1 (.slice A (L 0 (n % 16)).length c) (L 0 (n % 16)).length ((L 0 (n % 16)).map ptr) from fun w1 c1 => by
    rw [hv] at row rlab
    exact own_ch row c1 fun g hg e => by have h1 := rlab g hg; have h2 := (R.nest 0 (by omega)).1; rw [← e] at h2; omega)
  have K2 := Lib.hid (show ∀ w1, Ch w w1 (fun k => k = nb 0) → ∀ b ∈ L 0 (n % 16), Tim w1 hd tk b ∧ (Value.slice A (L 0 (n % 16)).length c).ownBlock ≠ some b from fun w1 c1 b hb => by
    rw [hv] at row rlab
    obtain ⟨j, hj, e⟩ := List.getElem_of_mem hb
    obtain ⟨t1, t2⟩ := R.tim 0 (n % 16) (by omega) hi j b (by rw [List.getElem?_eq_getElem hj, e])
    refine ⟨⟨j, t2.keep (c1.block b t2.lt fun e => ?_)⟩, fun e => ?_⟩
    · have h2 := (R.nest 0 (by omega)).1
      rw [← e] at h2
      omega
    · have := rlab b e
      omega)
  have HR := Lib.hid R
  have HBB := Lib.hid HB
  have HP := Lib.hid hP
  clear HB hP
  rw [hv] at row rlab
  unfold ptr at *
  go_enter Try.func28, Try.ntmps28
  go_wp2_with (first
    | (go_at_call 32; refine (HE.out _ HR.out).mono ?_; rintro e w1 ⟨rfl, R1, c1⟩)
    | (go_at_call 33; refine (HBB.out _ _ _ _ hlen (K1.out _ c1) (K2.out _ c1)).mono ?_; rintro e w2 ⟨rfl, zs, p1, p2, p3, c2⟩))
  go_ret
  have hP := HP.out
  have hzl : zs.length = (L 0 (n % 16)).length := p1.length_eq
  have hb0 := (R.nest 0 (by omega)).1
  have R2 : Rings w2 lab nb (up2 V 0 (n % 16) (.slice none 0 0)) (up2 L 0 (n % 16) []) hd tk := by
    refine ⟨fun r hr => ?_, fun r i hr hi' => ?_, fun r i hr hi' j b hj => ?_, fun b hb => Nat.lt_of_lt_of_le (R1.lt b hb) c2.size⟩
    · obtain ⟨a1, a2⟩ := R1.nest r hr
      exact ⟨a1, a2.of_block (c2.block _ a2.lt fun e => by have := rlab _ e; omega)⟩
    · obtain ⟨a1, a2⟩ := R1.row r i hr hi'
      refine ⟨own_ch a1 c2 fun g hg e => ?_, a2⟩
      have h1 := rlab g e
      have h2 := a2 g hg
      by_cases h3 : r = 0 ∧ i = n % 16
      · obtain ⟨rfl, rfl⟩ := h3
        rw [up2_same] at hg
        cases hg
      · omega
    · obtain ⟨a1, a2⟩ := R1.tim r i hr hi' j b hj
      exact ⟨a1, a2.keep (c2.block b a2.lt fun e => by have := rlab b e; omega)⟩
  have hp3 : w2.ownsRow 0 64 1 (.slice A zs.length c) zs.length (zs.map ptr) := by rw [hzl]; exact p3
  have hch : Ch w w2 (fun k => lab k = 3 ∨ 10 ≤ lab k) := c1.trans c2 (fun x _ e => .inr (by rw [e, hb0]; omega)) (fun x _ e => .inr (by have := rlab x e; omega))
  refine ⟨A, c, lab, _, _, zs, by rw [hzl]; rfl, R2, hP.finish, (p1.nodup_iff).2 (R.nodup (by omega) hi), fun b => ?_, fun b => ?_, p2, hp3, fun g hg => ?_, hch, fun _ _ => rfl, fun k hk hT => ?_⟩
  · rw [p1.mem_iff]
    exact hP.due b
  · constructor
    · rintro ⟨r, i, h1, h2, hb⟩
      by_cases e : r = 0 ∧ i = n % 16
      · obtain ⟨rfl, rfl⟩ := e
        rw [up2_same] at hb
        cases hb
      · rw [up2_other _ _ e] at hb
        refine ⟨⟨r, i, h1, h2, hb⟩, fun e' => e ?_⟩
        exact hP.dj (by omega) r i 0 (n % 16) h1 h2 (by omega) hi b hb ((hP.due b).2 ⟨⟨r, i, h1, h2, hb⟩, e'⟩)
    · rintro ⟨⟨r, i, h1, h2, hb⟩, hne⟩
      refine ⟨r, i, h1, h2, ?_⟩
      rw [up2_other _ _ (fun e => ?_)]
      · exact hb
      · obtain ⟨rfl, rfl⟩ := e
        exact hne ((hP.due b).1 hb).2
  · rw [hzl] at hg
    have := rlab g hg
    omega
  · refine (hT.keep (c1.block k hT.lt fun e => ?_)).keep (c2.block k (Nat.lt_of_lt_of_le hT.lt c1.size) fun e => ?_)
    · rw [e, hb0] at hk
      omega
    · have := rlab k e
      omega

end Go.Proofs.Ytkmhgcdjmfafhaa

/- The walk of the law OctetRows: for every slice that holds numbers of 32 bits and every width it returns true, and writes nothing that was there. -/
import Derived.Test.YtjlgedfbnfaohaaStep
namespace Go.Proofs.Ytjlgedfbnfaohaa
set_option linter.unusedVariables false
open Go.RowKit

/-- The slice '.slice A n c' holds the numbers of 32 bits zs in w. -/
def RW (w : World) (A : Option Addr) (n c : Nat) (zs : List Nat) : Prop :=
  zs.length = n ∧ n ≤ c ∧ c ≤ maxLen ∧ (∀ j, j < n → zs.getD j 0 < 4294967296) ∧ (0 < n → ∃ b o, A = some ⟨b, o, none⟩ ∧ ∀ j, j < n → w.cell? ⟨b, o + j, none⟩ = some (.int .u32 ((zs.getD j 0 : Nat) : Int)))
section
variable {w w' : World} {A : Option Addr} {n c : Nat} {zs : List Nat}
theorem RW.len (h : RW w A n c zs) : zs.length = n := h.1
theorem RW.cap (h : RW w A n c zs) : n ≤ c := h.2.1
theorem RW.max (h : RW w A n c zs) : c ≤ 9223372036854775807 := by have := h.2.2.1; unfold maxLen at this; omega
theorem RW.at_ (h : RW w A n c zs) {j : Nat} (hj : j < n) : ∃ b o, A = some ⟨b, o, none⟩ ∧ w.cell? ⟨b, o + j, none⟩ = some (.int .u32 ((zs.getD j 0 : Nat) : Int)) ∧ zs.getD j 0 < 4294967296 := by
  obtain ⟨b, o, e, hc⟩ := h.2.2.2.2 (by omega)
  exact ⟨b, o, e, hc j hj, h.2.2.2.1 j hj⟩
theorem RW.below (h : RW w A n c zs) (hb : Below w.heap.size w w') : RW w' A n c zs :=
  ⟨h.1, h.2.1, h.2.2.1, h.2.2.2.1, fun hn => by
    obtain ⟨b, o, e, hc⟩ := h.2.2.2.2 hn
    exact ⟨b, o, e, fun j hj => (hb.cell (World.block_lt_of_cell? w _ (hc j hj))).trans (hc j hj)⟩⟩
end
theorem RW.of_row {w : World} {a : Option Addr} {len cap : Nat} {zs : List Int}
    (h : (a = none ∧ len = 0 ∧ cap = 0 ∧ zs = []) ∨ ∃ x, a = some x ∧ len ≤ cap ∧ cap ≤ maxLen ∧ zs.length = cap ∧ (∀ i, i < zs.length → w.cell? (x.add i) = some (.int .u32 (zs.getD i 0))) ∧ ∀ n ∈ zs, (Lit.int .u32 n).wf = true) :
    ∃ l, RW w a len cap l := by
  rcases h with ⟨rfl, rfl, rfl, rfl⟩ | ⟨x, rfl, h1, h2, h3, h4, h5⟩
  · exact ⟨[], rfl, Nat.le_refl _, Nat.zero_le _, fun j hj => absurd hj (by omega), fun h => absurd h (by omega)⟩
  · have hb : ∀ j (hj : j < zs.length), 0 ≤ zs[j] ∧ zs[j] ≤ 4294967295 := fun j hj => bounds_u32 (h5 _ (List.getElem_mem hj))
    refine ⟨(zs.take len).map Int.toNat, by rw [List.length_map, List.length_take]; omega, h1, h2, fun j hj => ?_, fun hn => ?_⟩
    · have hj' : j < zs.length := by omega
      have := hb j hj'
      simp only [List.getD_eq_getElem?_getD, List.getElem?_map, List.getElem?_take, hj, if_true, List.getElem?_eq_getElem hj', Option.map_some, Option.getD_some]
      omega
    · obtain ⟨b, o, s⟩ := x
      have hc0 := h4 0 (by omega)
      have hs : s = none := by simpa [Addr.add] using World.cell?_spot hc0
      subst hs
      refine ⟨b, o, rfl, fun j hj => ?_⟩
      have hj' : j < zs.length := by omega
      have hc := h4 j hj'
      rw [Addr.add_lit] at hc
      rw [hc]
      have := hb j hj'
      congr 2
      simp only [List.getD_eq_getElem?_getD, List.getElem?_map, List.getElem?_take, hj, if_true, List.getElem?_eq_getElem hj', Option.map_some, Option.getD_some]
      omega

/-- k numbers of K bytes: how long they are; the first k of them; those behind the first k. -/
def rl (K k : Nat) : Nat := K * k
theorem rl_succ (K k : Nat) : rl K (k + 1) = K + rl K k := by unfold rl; rw [Nat.mul_succ, Nat.add_comm]
theorem rl_le (K k : Nat) (h : K ≤ 8) (h' : k ≤ 100) : rl K k ≤ 800 := by unfold rl; exact Nat.mul_le_mul h h'
def rows (zs : List Nat) (K k : Nat) : List UInt8 := (zs.take k).flatMap fun z => be z K
def rest (zs : List Nat) (K k : Nat) : List UInt8 := (zs.drop k).flatMap fun z => be z K
theorem rows_step (zs : List Nat) (K k : Nat) (h : k < zs.length) : rows zs K (k + 1) = rows zs K k ++ be (zs.getD k 0) K := by
  unfold rows
  rw [List.take_succ_eq_append_getElem h, List.flatMap_append]
  simp [h]
theorem rest_step (zs : List Nat) (K k : Nat) (h : k < zs.length) : rest zs K k = be (zs.getD k 0) K ++ rest zs K (k + 1) := by
  unfold rest
  rw [List.drop_eq_getElem_cons h, List.flatMap_cons]
  simp [h]
theorem rows_rest (zs : List Nat) (K n : Nat) (h : zs.length = n) : rows zs K n = rest zs K 0 := by
  unfold rows rest
  rw [List.take_of_length_le (by omega), List.drop_zero]

set_option maxRecDepth 100000 in
set_option maxHeartbeats 1600000 in
theorem Rows_any (A : Option Addr) (n c : Nat) (k : Int) (zs : List Nat) (w : World) (h : RW w A n c zs) :
    Calls Try.prog 6 #[.slice A n c, .int .i64 k] w (Held w) := by
  have hmx := h.max
  have hcp := h.cap
  have hzl := Lib.hid h.len
  by_cases hn : 100 < n
  · go_enter Try.func6, Try.ntmps6
    go_wp2_with (go_at_call 8; refine (wakes_any _).mono ?_; rintro e w1 ⟨rfl, hb1⟩)
    go_ret
    exact ⟨rfl, hb1⟩
  · have hlo := wn_lo k
    have hhi := wn_hi k
    go_enter Try.func6, Try.ntmps6
    go_wp2_with fail
    refine (wakes_any _).mono ?_
    rintro e w1 ⟨rfl, hb1⟩
    go_wp2_with fail
    go_loopw [5, 23] (fun v i wr => ∃ (j : Nat) (B : Option Addr) (d : Nat), j ≤ n ∧ i = .int .i64 j ∧ v = .slice B (rl (wn k) j) d ∧ RB wr B (rl (wn k) j) d (rows zs (wn k) j) ∧ Below w.heap.size w wr) (fun _ i _ => n - (intOf i).toNat)
    case atStart => exact ⟨0, none, 0, Nat.zero_le _, rfl, rfl, RB.nil_ _, hb1⟩
    case round =>
      obtain ⟨j, B, d, hj, rfl, rfl, hr, hb⟩ := hrel
      have hrl := rl_le (wn k) j hhi (by omega)
      by_cases hlt : j < n
      · obtain ⟨b, o, rfl, hc, hz⟩ := (h.below hb).at_ hlt
        have HS := Lib.hid (rows_step zs (wn k) j (by rw [hzl.out]; exact hlt))
        have HL := Lib.hid (rl_succ (wn k) j)
        clear h hb1
        generalize zs.getD j 0 = z at *
        go_wp2_with fail
        refine (Put_any B _ d z k _ wr hr (by omega) (by omega)).mono ?_
        rintro e w2 ⟨B2, d2, rfl, r2, hs2⟩
        rw [← HS.out] at r2
        have hb2 := below_trans hb hs2
        clear hr hb hs2
        go_wp2
        go_roundw
        case rel => exact ⟨j + 1, B2, d2, by omega, by go_num, by rw [HL.out, Nat.add_comm], by rw [HL.out, Nat.add_comm]; exact r2, hb2⟩
        case measure => simp [intOf]; omega
      · obtain rfl : j = n := by omega
        rw [rows_rest zs (wn k) j hzl.out] at hr
        go_wp2_with fail
        go_loopw [5, 35] (fun v i wr => ∃ (p m : Nat) (B : Option Addr) (d : Nat), p + m = j ∧ i = .int .i64 p ∧ v = .slice B (rl (wn k) m) d ∧ RB wr B (rl (wn k) m) d (rest zs (wn k) p) ∧ Below w.heap.size w wr) (fun _ i _ => j - (intOf i).toNat)
        case atStart => exact ⟨0, j, B, d, Nat.zero_add _, rfl, rfl, hr, hb⟩
        case round =>
          obtain ⟨p, m, B, d, hpm, rfl, rfl, hr, hb⟩ := hrel
          have hrl := rl_le (wn k) m hhi (by omega)
          cases m with
          | zero =>
            obtain rfl : p = j := by omega
            clear hpm
            go_wp2_with fail
            refine (Take_few B _ d k wr (show rl (wn k) 0 < wn k from hlo)).mono ?_
            rintro e w' ⟨rfl, rfl⟩
            have H0 : rl (wn k) 0 = 0 := rfl
            rw [H0]
            clear H0
            go_wp2
            go_ret
            exact ⟨rfl, hb⟩
          | succ m =>
            have hp : p < j := by omega
            have HP := Lib.hid hpm
            clear hpm
            obtain ⟨b, o, rfl, hc, hz⟩ := (h.below hb).at_ hp
            rw [rest_step zs (wn k) p (by rw [hzl.out]; exact hp)] at hr
            rw [rl_succ] at hr hrl ⊢
            clear hb1
            have h := h.below hb
            generalize zs.getD p 0 = z at *
            go_wp2_with fail
            refine (Take_at B _ d k (be z (wn k)) _ wr (be_length _ _) hr (by omega)).mono ?_
            rintro e w2 ⟨B2, d2, rfl, r2, hs2⟩
            have hb2 := below_trans hb hs2
            clear hr hb hs2 h
            go_wp2_with fail
            refine (Bytes_own z k w2 (by omega)).mono ?_
            rintro e w3 ⟨B3, d3, rfl, q3, _, hs3⟩
            have r3 := r2.below hs3
            have hb3 := below_trans hb2 hs3
            clear r2 hb2 hs3
            go_wp2_with fail
            refine (Number_any _ _ _ _ w3 q3 hhi).mono ?_
            rintro e w' ⟨rfl, rfl⟩
            generalize num (be z (wn k)) = x at *
            go_wp2
            go_roundw
            case rel => exact ⟨p + 1, m, B2, d2, by have := HP.out; omega, by go_num, rfl, r3, hb3⟩
            case measure => simp [intOf]; omega
end Go.Proofs.Ytjlgedfbnfaohaa

/- Law: what is due when time goes on at once is what is due when it goes on step by step. No condition. -/
import Derived.Test.YtkmhgcdjmfafhaaWhR
namespace Go.Proofs.Ytkmhgcdjmfafhaa
set_option linter.unusedVariables false
set_option linter.unusedSimpArgs false
open Go.RowKit

/-- The timers that the first k ticks arm: handles in order, each for s and its tick cut to 4096. -/
def tl (s : Int) (zs : List Int) : Nat → List (Int × Int)
  | 0 => []
  | k + 1 => tl s zs k ++ [((k : Int), s + (zs.getD k 0).tmod 4096)]
theorem tl_mem {s : Int} {zs : List Int} : ∀ {k : Nat} {p : Int × Int}, p ∈ tl s zs k ↔ ∃ j : Nat, j < k ∧ p = ((j : Int), s + (zs.getD j 0).tmod 4096)
  | 0, p => by simp [tl]
  | k + 1, p => by
    rw [tl, List.mem_append, tl_mem, List.mem_singleton]
    constructor
    · rintro (⟨j, h1, h2⟩ | h)
      · exact ⟨j, by omega, h2⟩
      · exact ⟨k, by omega, h⟩
    · rintro ⟨j, h1, h2⟩
      by_cases e : j = k
      · subst e
        exact .inr h2
      · exact .inl ⟨j, by omega, h2⟩
theorem tl_length (s : Int) (zs : List Int) : ∀ k, (tl s zs k).length = k
  | 0 => rfl
  | k + 1 => by rw [tl, List.length_append, tl_length s zs k]; rfl
theorem tl_wo (s : Int) (zs : List Int) (k : Nat) : woL (tl s zs k) (k : Int) = tl s zs k := by
  unfold woL
  rw [List.filter_eq_self]
  intro p hp
  obtain ⟨j, h1, rfl⟩ := tl_mem.1 hp
  simp
  omega
theorem tf_bound (z : Int) (h : 0 ≤ z) : 0 ≤ z.tmod 4096 ∧ z.tmod 4096 < 4096 := by
  rw [Int.tmod_eq_emod_of_nonneg h]
  omega

theorem nodup_lenA {α : Type} [DecidableEq α] : ∀ (xs ys : List α), xs.Nodup → (∀ x ∈ xs, x ∈ ys) → xs.length ≤ ys.length
  | [], _, _, _ => Nat.zero_le _
  | x :: xs, ys, hn, hs => by
    have hx := hs x (List.mem_cons_self ..)
    have h1 := List.length_erase_of_mem hx
    have hpos : 0 < ys.length := List.length_pos_of_mem hx
    rw [List.nodup_cons] at hn
    have := nodup_lenA xs (ys.erase x) hn.2 fun y hy => (List.mem_erase_of_ne (fun e => hn.1 (by rw [← e]; exact hy))).2 (hs y (List.mem_cons_of_mem _ hy))
    rw [List.length_cons]
    omega
theorem OrdL.nodup {l : List (Int × Int)} (h : OrdL l) : l.Nodup := List.Pairwise.imp (fun {a b} h e => by subst e; omega) h
theorem filter_later (l : List (Int × Int)) (m z : Nat) : ((l.filter fun p => decide ((m : Int) < p.2)).filter fun p => decide (((m + z : Nat) : Int) < p.2)) = l.filter fun p => decide (((m + z : Nat) : Int) < p.2) := by
  rw [List.filter_filter]
  refine List.filter_congr fun p _ => ?_
  by_cases h : ((m + z : Nat) : Int) < p.2
  · have : (m : Int) < p.2 := by omega
    simp [h, this]
  · simp [h]
    intro
    omega

theorem dv_at : ∀ (l : List (Int × Int)) (j : Nat), j < l.length → (dv l)[j * 2]? = some (.int .i64 (l.getD j (0, 0)).1) ∧ (dv l)[j * 2 + 1]? = some (.int .i64 (l.getD j (0, 0)).2)
  | [], j, h => absurd h (by simp)
  | p :: l, 0, _ => ⟨rfl, rfl⟩
  | p :: l, j + 1, h => by
    have h1 := dv_at l j (by simpa using h)
    rw [show (j + 1) * 2 = j * 2 + 1 + 1 by omega]
    exact h1
theorem Duv.cells {w : World} {base : Nat} {A : Option Addr} {c : Nat} {out : List (Int × Int)} (h : Duv w base (.slice A out.length c) out) {j : Nat} (hj : j < out.length) :
    ∃ g, A = some ⟨g, 0, none⟩ ∧ w.cell? ⟨g, j * 2, none⟩ = some (.int .i64 (out.getD j (0, 0)).1) ∧ w.cell? ⟨g, j * 2 + 1, none⟩ = some (.int .i64 (out.getD j (0, 0)).2) := by
  obtain ⟨g, c', e, _, _, hc⟩ := h.at_ (by intro e; rw [e] at hj; simp at hj)
  injection e with e1 _ _
  obtain ⟨d1, d2⟩ := dv_at out j hj
  exact ⟨g, e1, (hc _ (by omega)).trans d1, (hc _ (by omega)).trans d2⟩

/-- While the ticks are armed, on both wheels. -/
def St1 (w wr : World) (wa wb : Nat) (s : Int) (zs : List Int) (n k : Nat) : Prop := ∃ labA labB, Pair w wr wa wb n n (tl s zs k) (tl s zs k) labA labB

/-- While time goes on step by step, on the first one. -/
def St2 (w wr : World) (wa wb : Nat) (l : List (Int × Int)) (k : Nat) (v : Value) : Prop :=
  ∃ labA labB m out, Pair w wr wa wb m 7 (l.filter fun p => decide ((m : Int) < p.2)) l labA labB ∧ 7 ≤ m ∧ m ≤ 7 + 255 * k ∧ Duv wr w.heap.size v out ∧ OrdL out ∧ (∀ p, p ∈ out ↔ p ∈ l ∧ p.2 ≤ (m : Int)) ∧ ∀ g, v.ownBlock = some g → labA g = 0 ∧ labB g = 0 ∧ w.heap.size ≤ g

theorem St2.next {w wi w5 w6 : World} {wa wb : Nat} {l : List (Int × Int)} {j m z : Nat} {v v6 : Value} {labA labB lab5 : Nat → Nat} {out out5 : List (Int × Int)} (P : Pair w wi wa wb m 7 (l.filter fun p => decide ((m : Int) < p.2)) l labA labB) (m7 : 7 ≤ m) (mle : m ≤ 7 + 255 * j) (hz : z ≤ 255)
    (D : Duv wi w.heap.size v out) (od : OrdL out) (mm : ∀ p, p ∈ out ↔ p ∈ l ∧ p.2 ≤ (m : Int)) (vl : ∀ g, v.ownBlock = some g → labA g = 0 ∧ labB g = 0 ∧ w.heap.size ≤ g)
    (O5 : On w5 lab5 wa (m + z) ((l.filter fun p => decide ((m : Int) < p.2)).filter fun p => decide (((m + z : Nat) : Int) < p.2))) (F5 : Fr labA wi lab5 w5) (od5 : OrdL out5) (mm5 : ∀ p, p ∈ out5 ↔ p ∈ (l.filter fun p => decide ((m : Int) < p.2)) ∧ p.2 ≤ ((m + z : Nat) : Int))
    (o6 : w6.ownsRow w.heap.size 53 2 v6 (out.length + out5.length) (dv (out ++ out5))) (g6 : w5.grownBy w6 v.ownBlock) (a6 : v6.ownBlock = v.ownBlock ∨ v6.ownBlock = some w5.heap.size) :
    St2 w w6 wa wb l (j + 1) v6 := by
  have P5 := P.stepA O5 F5
  rw [filter_later] at P5
  have vl5 : ∀ g, v.ownBlock = some g → lab5 g = 0 ∧ labB g = 0 ∧ w.heap.size ≤ g := fun g hg => ⟨(F5.2 g (D.lt g hg).2).trans (vl g hg).1, (vl g hg).2⟩
  have P6 := P5.ch (w' := w6) (m := fun k => v.ownBlock = some k) ((Ch.refl w5 (fun k => v.ownBlock = some k)).grown g6 fun k hk _ => hk) fun k hk => vl5 k hk
  refine ⟨lab5, labB, m + z, out ++ out5, P6, by omega, by omega, ?_, ?_, fun p => ?_, fun g hg => ?_⟩
  · unfold Duv
    rw [List.length_append]
    exact o6
  · unfold OrdL
    rw [List.pairwise_append]
    refine ⟨od, od5, fun a ha b hb => .inl ?_⟩
    have h1 := ((mm a).1 ha).2
    have h2 := (List.mem_filter.1 ((mm5 b).1 hb).1).2
    simp at h2
    omega
  · rw [List.mem_append, mm p, mm5 p, List.mem_filter, decide_eq_true_iff]
    constructor
    · rintro (⟨a1, a2⟩ | ⟨⟨a1, a2⟩, a3⟩)
      · exact ⟨a1, by omega⟩
      · exact ⟨a1, a3⟩
    · rintro ⟨a1, a2⟩
      by_cases e : p.2 ≤ (m : Int)
      · exact .inl ⟨a1, e⟩
      · exact .inr ⟨⟨a1, by omega⟩, a2⟩
  · rcases a6 with h | h
    · exact vl5 g (h ▸ hg)
    · rw [hg] at h
      injection h with h
      subst h
      refine ⟨?_, ?_, P5.2.2.2.1.size⟩
      · by_cases e : lab5 w5.heap.size = 0
        · exact e
        · have := P5.1.lt e
          omega
      · by_cases e : labB w5.heap.size = 0
        · exact e
        · have := P5.2.1.lt e
          omega

set_option maxRecDepth 20000 in
set_option maxHeartbeats 8000000 in
theorem Steps_any (A1 : Option Addr) (n1 c1 : Nat) (zs1 : List Int) (A2 : Option Addr) (n2 c2 : Nat) (zs2 : List Int) (w : World) (h1 : RI .u16 w A1 n1 c1 zs1) (z1 : ∀ z ∈ zs1, (Lit.int .u16 z).wf = true) (h2 : RI .u8 w A2 n2 c2 zs2) (z2 : ∀ z ∈ zs2, (Lit.int .u8 z).wf = true) :
    Calls Try.prog 4 #[.slice A1 n1 c1, .slice A2 n2 c2] w (Held w) := by
  have HW := Lib.hid wakes_any
  have HN := Lib.hid (fun w => new_any 7 (by unfold isI; omega) w)
  rw [show clamp 7 = 7 from rfl] at HN
  have hc1 := h1.cap
  have hm1 := h1.max
  have hc2 := h2.cap
  have hm2 := h2.max
  by_cases hn1 : n1 ≤ 50
  · by_cases hn2 : n2 ≤ 60
    · have hd1 : decide (50 < (n1 : Int)) = false := decide_eq_false (by omega)
      have hd2 : decide (60 < (n2 : Int)) = false := decide_eq_false (by omega)
      go_enter Try.func4, Try.ntmps4
      go_wp2_with fail
      refine (HW.out _).mono ?_
      rintro e w0 ⟨rfl, b0⟩
      go_wp2_with fail
      refine (HN.out _).mono ?_
      rintro e w1 ⟨labA1, wa, rfl, OA1, FA1⟩
      unfold ptr
      have HOA1 := Lib.hid OA1
      have HFA1 := Lib.hid FA1
      clear OA1 FA1
      go_wp2_with fail
      refine (HN.out _).mono ?_
      rintro e w2 ⟨labB1, wb, rfl, OB1, FB1⟩
      unfold ptr
      have HP0 : St1 w0 w2 wa wb 8 zs1 7 0 := by
        have hA := HOA1.out
        have bA := HFA1.out.start
        have bB := FB1.start
        refine ⟨labA1, labB1, hA.below bB, OB1, fun x hx => ?_, bA.trans (bB.mono bA.size), fun x hx => ⟨HFA1.out.2 x hx, FB1.2 x (Nat.lt_of_lt_of_le hx bA.size)⟩⟩
        exact FB1.2 x (hA.lt hx)
      have HP1 := Lib.hid HP0
      clear HP0 OB1 FB1 HOA1 HFA1 HN HW
      go_wp2_with fail
      go_loopw [28] (fun ix wr => ∃ k : Nat, k ≤ n1 ∧ ix = .int .i64 k ∧ St1 w0 wr wa wb 8 zs1 7 k) (fun ix _ => n1 - (intOf ix).toNat)
      case atStart => exact ⟨0, Nat.zero_le _, rfl, HP1.out⟩
      case round =>
        obtain ⟨k, hk, rfl, labA, labB, P⟩ := hrel
        have HP := Lib.hid P
        by_cases hlt : k < n1
        · have r1 := (h1.below b0).below (P.2.2.2.1)
          obtain ⟨g1, o1, rfl, ck⟩ := r1.at_ hlt
          have hzk : zs1.getD k 0 ∈ zs1 := by
            have hl := h1.len
            rw [List.getD_eq_getElem?_getD, List.getElem?_eq_getElem (by omega)]
            exact List.getElem_mem _
          have hzb := Go.bounds_u16 (z1 _ hzk)
          obtain ⟨t1, t2⟩ := tf_bound (zs1.getD k 0) hzb.1
          have hA1 := P.1
          have harmA := oarm_good P.1 (x := (k : Int)) (t := 8 + (zs1.getD k 0).tmod 4096) (by unfold isI; omega) (by omega) (by rw [tl_length]; omega) (by omega)
          rw [tl_wo] at harmA
          have HA := Lib.hid harmA
          have HT := Lib.hid (show tl 8 zs1 (k + 1) = tl 8 zs1 k ++ [((k : Int), 8 + (zs1.getD k 0).tmod 4096)] from rfl)
          clear harmA P hA1 r1
          generalize zs1.getD k 0 = z at *
          generalize hq : z.tmod 4096 = q at *
          go_wp2_with fail
          refine (HA.out).mono ?_
          rintro e w3 ⟨rfl, labA3, O3, F3⟩
          have P3 := (HP.out).stepA O3 F3
          have HP3 := Lib.hid P3
          have harmB := oarm_good P3.2.1 (x := (k : Int)) (t := 8 + q) (by unfold isI; omega) (by omega) (by rw [tl_length]; omega) (by omega)
          rw [tl_wo] at harmB
          have HB := Lib.hid harmB
          clear harmB P3 O3 F3 HA HP
          go_wp2_with fail
          refine (HB.out).mono ?_
          rintro e w4 ⟨rfl, labB4, O4, F4⟩
          have P4 := ((HP3.out).symm.stepA O4 F4).symm
          rw [← HT.out] at P4
          have HP4 := Lib.hid P4
          clear P4 O4 F4 HB HP3
          go_wp2_with fail
          go_roundw
          case rel => exact ⟨k + 1, by omega, by go_num, labA3, labB4, HP4.out⟩
          case measure => simp [intOf]; omega
        · obtain rfl : k = n1 := by omega
          have htm : ∀ p, p ∈ tl 8 zs1 k → (8 : Int) ≤ p.2 ∧ p.2 ≤ 4103 := fun p hp => by
            obtain ⟨j, hj, rfl⟩ := tl_mem.1 hp
            have hl := h1.len
            have hzk : zs1.getD j 0 ∈ zs1 := by
              rw [List.getD_eq_getElem?_getD, List.getElem?_eq_getElem (by omega)]
              exact List.getElem_mem _
            have hzb := Go.bounds_u16 (z1 _ hzk)
            obtain ⟨t1, t2⟩ := tf_bound (zs1.getD j 0) hzb.1
            exact ⟨by show (8 : Int) ≤ 8 + _; omega, by show 8 + _ ≤ (4103 : Int); omega⟩
          have hll : (tl 8 zs1 k).length ≤ 50 := by rw [tl_length]; exact hn1
          have hs2 : St2 w0 wr wa wb (tl 8 zs1 k) 0 (.slice none 0 0) := by
            refine ⟨labA, labB, 7, [], ?_, Nat.le_refl _, Nat.le_refl _, World.ownsRow_nil _ _ _ _, List.Pairwise.nil, fun p => ?_, (fun g hg => by cases hg)⟩
            · rw [List.filter_eq_self.2 fun p hp => by have := (htm p hp).1; simp; omega]
              exact P
            · constructor
              · intro h
                cases h
              · rintro ⟨h1, h2⟩
                have := (htm p h1).1
                simp at h2
                omega
          have HTM := Lib.hid htm
          have HS2 := Lib.hid hs2
          have HB0 := Lib.hid b0
          have hlen1 := h1.len
          clear P HP hs2 htm h1 z1 HP1
          generalize tl 8 zs1 k = l at *
          go_wp2_with fail
          go_loopw [9, 54] (fun v ix wi => ∃ j : Nat, j ≤ n2 ∧ ix = .int .i64 j ∧ St2 w0 wi wa wb l j v) (fun _ ix _ => n2 - (intOf ix).toNat)
          case atStart => exact ⟨0, Nat.zero_le _, rfl, HS2.out⟩
          case round =>
            clear HS2
            obtain ⟨j, hj, rfl, labA, labB, m, out, P, m7, mle, D, od, mm, vl⟩ := hrel
            by_cases hjl : j < n2
            · have r2 := (h2.below HB0.out).below (P.2.2.2.1)
              obtain ⟨g2, o2, rfl, ck⟩ := r2.at_ hjl
              have hl := h2.len
              have hzk : zs2.getD j 0 ∈ zs2 := by
                rw [List.getD_eq_getElem?_getD, List.getElem?_eq_getElem (by omega)]
                exact List.getElem_mem _
              have hzb := Go.bounds_u8 (z2 _ hzk)
              generalize zs2.getD j 0 = z at *
              obtain ⟨z, rfl⟩ := Int.eq_ofNat_of_zero_le hzb.1
              have hfl : (l.filter fun p => decide ((m : Int) < p.2)).length ≤ l.length := List.length_filter_le _ _
              have HNow := Lib.hid (onow_any P.1)
              have HAd := Lib.hid (oadv_any P.1 (t := (m : Int) + (z : Int)) (by unfold isI; omega) (by omega) (by omega) (m + z) (by omega) (by omega) (fun x _ => by omega))
              have HP := Lib.hid P
              have HD := Lib.hid D
              have HOD := Lib.hid od
              have HMM := Lib.hid mm
              have HVL := Lib.hid vl
              clear P D od mm vl r2
              go_wp2_with fail
              refine (HNow.out).mono ?_
              rintro e w3 ⟨rfl, rfl⟩
              go_wp2_with fail
              refine (HAd.out).mono ?_
              rintro e w5 ⟨v5, lab5, out5, rfl, O5, F5, D5, vl5, od5, mm5⟩
              have D' : w5.ownsRow w0.heap.size 53 2 u9 out.length (dv out) := own_ch2 HD.out F5.1 fun g hg e => e (HVL.out g hg).1
              have hb5 : w0.heap.size ≤ w5.heap.size := Nat.le_trans (HP.out).2.2.2.1.size F5.1.size
              have h40 : out.length + out5.length ≤ 1099511627776 := by
                have h9 := nodup_lenA out l HOD.out.nodup fun p hp => ((HMM.out p).1 hp).1
                have h8 := nodup_lenA out5 l od5.nodup fun p hp => (List.mem_filter.1 ((mm5 p).1 hp).1).1
                omega
              have HD' := Lib.hid D'
              have HD5 := Lib.hid D5
              have HNX := Lib.hid (fun (v6 : Value) (w6 : World) (o6 : w6.ownsRow w0.heap.size 53 2 v6 (out.length + out5.length) (dv (out ++ out5))) (g6 : w5.grownBy w6 u9.ownBlock) (a6 : v6.ownBlock = u9.ownBlock ∨ v6.ownBlock = some w5.heap.size) =>
                St2.next HP.out m7 mle (by omega) HD.out HOD.out HMM.out HVL.out O5 F5 od5 mm5 o6 g6 a6)
              clear D' D5 O5 F5 od5 mm5 vl5 HP HD HOD HMM HVL HNow HAd
              go_wp2_with (first | (at_builtin; refine wpList_appD rfl _ _ 41 53 rfl Try.underlying41 infoDue w0.heap.size u9 _ out rfl HD'.out hb5 _ v5 out5 rfl HD5.out h40 ?_; intro v6 w6 o6 g6 a6))
              go_roundw
              case rel => exact ⟨j + 1, by omega, by go_num, HNX.out v6 w6 o6 g6 a6⟩
              case measure => simp [intOf]; omega
            · obtain rfl : j = n2 := by omega
              have hfl : (l.filter fun p => decide ((m : Int) < p.2)).length ≤ l.length := List.length_filter_le _ _
              have HNow := Lib.hid (onow_any P.1)
              obtain ⟨np, hnp1, hnp2, hnp3, hnp4⟩ : ∃ np : Nat, 7 ≤ np ∧ np ≤ 7 + 10000 ∧ (∀ x : Nat, 7 ≤ x → ((x : Int) < min (m : Int) (((7 : Nat) : Int) + 10000) ↔ x < np)) ∧ (np = m ∨ np = 10007 ∧ 10007 < m) := by
                by_cases e : m ≤ 10007
                · exact ⟨m, m7, by omega, fun x _ => by omega, .inl rfl⟩
                · exact ⟨10007, by omega, by omega, fun x _ => by omega, .inr ⟨rfl, by omega⟩⟩
              have HAd := Lib.hid (oadv_any P.2.1 (t := (m : Int)) (by unfold isI; omega) (by omega) (by omega) np hnp1 hnp2 hnp3)
              have HP := Lib.hid P
              have HD := Lib.hid D
              have HOD := Lib.hid od
              have HMM := Lib.hid mm
              have HVL := Lib.hid vl
              clear P D od mm vl hnp3
              go_wp2_with fail
              refine (HNow.out).mono ?_
              rintro e w3 ⟨rfl, rfl⟩
              go_wp2_with fail
              refine (HAd.out).mono ?_
              rintro e w5 ⟨v5, lab5, out5, rfl, O5, F5, D5, vl5, od5, mm5⟩
              have hsame : ∀ p, p ∈ l → (p.2 ≤ (m : Int) ↔ p.2 ≤ (np : Int)) := fun p hp => by
                have := (HTM.out p hp).2
                omega
              have heq : out = out5 := ordL_ext HOD.out od5 fun p => by
                rw [HMM.out p, mm5 p]
                exact ⟨fun h => ⟨h.1, (hsame p h.1).1 h.2⟩, fun h => ⟨h.1, (hsame p h.1).2 h.2⟩⟩
              subst heq
              have hfeq : (l.filter fun p => decide ((m : Int) < p.2)) = l.filter fun p => decide ((np : Int) < p.2) := List.filter_congr fun p hp => by
                have := hsame p hp
                by_cases h : (m : Int) < p.2
                · have h2 : (np : Int) < p.2 := by omega
                  simp [h, h2]
                · have h2 : ¬ (np : Int) < p.2 := by omega
                  simp [h, h2]
              have P5 := ((HP.out).symm.stepA O5 F5).symm
              have D' : Duv w5 w0.heap.size u9 out := own_ch2 HD.out F5.1 fun g hg e => e (HVL.out g hg).2.1
              obtain ⟨A9, c9, rfl, hc9⟩ := D'.slice
              obtain ⟨A5, c5, rfl, hc5⟩ := D5.slice
              have HLA := Lib.hid (olen_any P5.1)
              have hlb := olen_any P5.2.1
              rw [← hfeq] at hlb
              have HLB := Lib.hid hlb
              generalize hfn : (l.filter fun p => decide ((m : Int) < p.2)).length = fl at *
              have HBL := Lib.hid (HB0.out.trans (P5.2.2.2.1.mono HB0.out.size))
              have HD' := Lib.hid D'
              have HD5 := Lib.hid D5
              have hol : out.length ≤ 50 := by
                have h9 := nodup_lenA out l HOD.out.nodup fun p hp => ((HMM.out p).1 hp).1
                omega
              clear hlb D' D5 O5 F5 od5 mm5 vl5 P5 HP HD HOD HMM HVL HNow HAd hsame hfeq HTM hfn
              generalize hon : out.length = on at *
              have HON := Lib.hid hon
              clear hon
              go_wp2_with fail
              refine (HLA.out).mono ?_
              rintro e w6 ⟨rfl, rfl⟩
              go_wp2_with fail
              refine (HLB.out).mono ?_
              rintro e w7 ⟨rfl, rfl⟩
              go_wp2_with fail
              go_loopw [86] (fun ix wz => ∃ q : Nat, q ≤ on ∧ ix = .int .i64 q ∧ Sim w7 wz) (fun ix _ => on - (intOf ix).toNat)
              case atStart => exact ⟨0, Nat.zero_le _, rfl, ⟨rfl, rfl, rfl, rfl⟩⟩
              case round =>
                obtain ⟨q, hq, rfl, S6⟩ := hrel
                by_cases hql : q < on
                · have h9 := HD'.out
                  have h5 := HD5.out
                  rw [← HON.out] at h9 h5
                  obtain ⟨g9, rfl, x0, x1⟩ := h9.cells (by rw [HON.out]; exact hql)
                  obtain ⟨g5, rfl, y0, y1⟩ := h5.cells (by rw [HON.out]; exact hql)
                  clear h9 h5
                  have sc : ∀ {p : Addr} {v : Value}, w7.cell? p = some v → wr.cell? p = some v := fun {p v} h => (World.cell?_of_block (by rw [S6.1])).trans h
                  have x0' := sc x0
                  have x1' := sc x1
                  have y0' := sc y0
                  have y1' := sc y1
                  clear x0 x1 y0 y1 sc
                  generalize (out.getD q (0, 0)).1 = p1 at *
                  generalize (out.getD q (0, 0)).2 = p2 at *
                  go_wp2_with fail
                  go_quiet (fail)
                  go_wp2_with fail
                  go_roundw
                  case rel => exact ⟨q + 1, by omega, by go_num, S6.1, S6.2.1, S6.2.2.1, S6.2.2.2⟩
                  case measure => simp [intOf]; omega
                · obtain rfl : q = on := by omega
                  go_wp2_with fail
                  go_ret
                  exact ⟨rfl, HBL.out.trans (((S6.ch (fun _ => False)).below fun _ _ h => h).mono HBL.out.size)⟩
    · have hd1 : decide (50 < (n1 : Int)) = false := decide_eq_false (by omega)
      have hd2 : (60 : Int) < (n2 : Int) := by omega
      go_enter Try.func4, Try.ntmps4
      go_wp2_with fail
      refine (HW.out _).mono ?_
      rintro e w0 ⟨rfl, b0⟩
      go_wp2_with fail
      go_ret
      exact ⟨rfl, b0⟩
  · have hd1 : (50 : Int) < (n1 : Int) := by omega
    go_enter Try.func4, Try.ntmps4
    go_wp2_with fail
    refine (HW.out _).mono ?_
    rintro e w0 ⟨rfl, b0⟩
    go_wp2_with fail
    go_ret
    exact ⟨rfl, b0⟩

end Go.Proofs.Ytkmhgcdjmfafhaa

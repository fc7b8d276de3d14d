/- The contract of pieces copied. Condition: they stand, at most 2^40, with data of at most 2^40 bytes each. -/
import Derived.Test.YtnpkmkjenlhkiaaOqD
namespace Go.Proofs.Ytnpkmkjenlhkiaa
set_option linter.unusedVariables false
set_option linter.unusedSimpArgs false
open Go.RowKit

theorem PO.kept {base : Nat} {w w' : World} {row : Option Nat} {p : Pc} (h : PO base w p) (hg : w.grownBy w' row) (hne : p.blk = none ∨ p.blk ≠ row) : PO base w' p := ⟨h.seq, h.dsn, h.data.kept hg hne⟩
/-- Pieces with data of their own, that say ks. -/
def Own6 (base : Nat) (w : World) (v : Value) (ks : List Ky) : Prop := ∃ qs : List Pc, w.ownsRow base 52 6 v ks.length (pv qs) ∧ qs.map Pc.key = ks ∧ ∀ q ∈ qs, PO base w q
/-- What a call leaves that answers such pieces. -/
def AllP (w : World) (ks : List Ky) (e : Ending) (w' : World) : Prop := ∃ v, e = .returned v ∧ Own6 w.heap.size w' v ks ∧ Below w.heap.size w w'

theorem mid_get {qs l : List Pc} {j : Nat} (h : qs.length = j) (hj : j < l.length) : (qs ++ l.drop j).getD j zP = l.getD j zP := by
  subst h
  simp [List.getD_eq_getElem?_getD, List.getElem?_append_right]
theorem mid_set {qs l : List Pc} {j : Nat} (h : qs.length = j) (hj : j < l.length) (q : Pc) : (qs ++ l.drop j).set j q = (qs ++ [q]) ++ l.drop (j + 1) := by
  subst h
  rw [List.set_append_right _ _ (Nat.le_refl _), Nat.sub_self, List.drop_eq_getElem_cons hj, List.set_cons_zero, List.append_assoc]
  rfl
theorem take_keyP {l : List Pc} {j : Nat} (hj : j < l.length) : (l.take (j + 1)).map Pc.key = (l.take j).map Pc.key ++ [(l.getD j zP).key] := by
  rw [List.take_succ_eq_append_getElem hj, List.map_append]
  simp [List.getD_eq_getElem?_getD, hj]
theorem own_rangeP {w : World} {base g n c j : Nat} {l : List Pc} (h : w.ownsRow base 52 6 (.slice (some ⟨g, 0, none⟩) n c) n (pv l)) (hj : j < n) : w.rangeAt g (j * 6) (l.getD j zP).vals := by
  have hl := h.1
  rw [pv_length] at hl
  intro k v hv
  have hk : k < 6 := (List.getElem?_eq_some_iff.1 hv).1
  rw [World.ownsRow.cellAt h (j * 6 + k) (by omega), pv_at l j k (by omega) hk]
  exact hv

set_option maxRecDepth 8000 in
set_option maxHeartbeats 3200000 in
theorem all_any (A : Option Addr) (n c : Nat) (l : List Pc) (w : World) (h : PS w A n c l) (hn : n ≤ 1099511627776) (hd : ∀ p ∈ l, p.dn ≤ 1099511627776) :
    Calls Try.prog 57 #[.slice A n c] w (AllP w (l.map Pc.key)) := by
  have hcp := h.cap
  have hmx := h.max
  have HLN := Lib.hid h.len
  have HP := Lib.hid h
  have HD := Lib.hid hd
  clear hd
  go_enter Try.func57, Try.ntmps57
  go_wp2_with (first
    | (at_make; refine wpList_makeP rfl (.tmp 7) (.tmp 7) 42 52 rfl Try.underlying42 infoPcF n rfl rfl hn _ rfl ?_; intro xs w1 o1 b1; have h1 := h.below b1; clear h)
    | ((with_reducible refine wpList_here ?_); refine wpList_copyP rfl (.tmp 9) (.tmp 10) 42 52 rfl Try.underlying42 infoPc _ _ n xs o1 A c l h1 rfl rfl ?_; intro w2 o2 g2 s2; have b2 := v_below_g b1 g2 b1.size (Nat.le_refl _); clear o1 h1))
  go_loopw [14] (fun i wr => ∃ (j : Nat) (qs : List Pc), j ≤ n ∧ i = .int .i64 j ∧ qs.length = j ∧ qs.map Pc.key = (l.take j).map Pc.key ∧ (∀ q ∈ qs, PO w.heap.size wr q) ∧ wr.ownsRow w.heap.size 52 6 (.slice (some ⟨w.heap.size, 0, none⟩) n n) n (pv (qs ++ l.drop j)) ∧ Below w.heap.size w wr) (fun i _ => n - (intOf i).toNat)
  case atStart => exact ⟨0, [], Nat.zero_le _, rfl, rfl, rfl, (fun q hq => by cases hq), o2, b2⟩
  case round =>
    obtain ⟨j, qs, hj, rfl, hql, hqk, hqo, ho, hb⟩ := hrel
    have HQL := Lib.hid hql
    have HQK := Lib.hid hqk
    have HQO := Lib.hid hqo
    clear hql hqk hqo
    by_cases hlt : j < n
    · have hjl : j < l.length := by rw [HLN.out]; exact hlt
      have HT := Lib.hid (take_keyP hjl)
      have HS := Lib.hid (mid_set (qs := qs) HQL.out hjl)
      have hr := own_rangeP ho hlt
      rw [mid_get HQL.out hjl] at hr
      have HO := Lib.hid ho
      have HPG := Lib.hid ((HP.out.ok hlt).below hb)
      have HDN := Lib.hid (HD.out _ (getD_memP hjl))
      have HB := Lib.hid hb
      clear ho hjl
      generalize l.getD j zP = p at *
      go_wp2_with (first
        | ((with_reducible refine wpList_here ?_); refine wpList_loadV (o := ⟨some 18, _, _, _, _, _⟩) rfl 52 (.tmp 17) rfl _ _ p.vals rfl hr _ Try.underlying52 rfl infoPc ?_)
        | ((with_reducible refine wpList_here ?_); refine wpList_allocV (o := ⟨some 5, _, _, _, _, _⟩) rfl 52 rfl zP.vals zeroPc _ rfl ?_; intro w4 z4 b4 s4)
        | ((with_reducible refine wpList_here ?_); refine wpList_storeV rfl 52 (.tmp 5) (.tmp 18) rfl _ _ p.vals rfl rfl z4 rfl (pc_one p) infoPc ?_; intro w5 z5 g5 s5; have b5 := v_below_g b4 g5 b4.size (Nat.le_refl _); clear z4 b4 g5)
        | ((with_reducible refine wpList_here ?_); refine wpList_loadV (o := ⟨some 21, _, _, _, _, _⟩) rfl 52 (.tmp 5) rfl _ _ p.vals rfl z5.range _ Try.underlying52 rfl infoPc ?_)
        | (go_at_call 71; refine (copied_any p w5 (HPG.out.below b5) (by have := HDN.out; omega)).mono ?_; rintro e w6 ⟨q, rfl, hqk, hqo, b6⟩; have b7 := below_trans b5 b6; have o7 := own_below HO.out b7; have HK6 := Lib.hid hqk; have HO6 := Lib.hid hqo; clear z5 hqk hqo hr)
        | ((with_reducible refine wpList_here ?_); refine wpList_storeR rfl 52 52 (.tmp 23) (.tmp 22) rfl _ _ n n j _ q rfl rfl o7 hlt infoPc ?_; intro w8 o8 g8 s8))
      have hs6 := HB.out.size
      have b8 := v_below_g (below_trans HB.out b7) g8 (by have := b7.size; omega) (Nat.le_refl _)
      rw [HS.out] at o8
      have hall : ∀ x ∈ qs ++ [q], PO w.heap.size w8 x := fun x hx => by
        rcases List.mem_append.1 hx with hx | hx
        · have h1 := (HQO.out x hx).below b7
          refine h1.kept g8 (Or.inr fun e => ?_)
          obtain ⟨cs, h2⟩ := (HQO.out x hx).obj e
          rcases HO.out.2 with ⟨hv, _⟩ | ⟨g', cap, cur, hv, _, hg, _⟩
          · cases hv
          · injection hv with hv
            injection hv with hv
            injection hv with hv
            rw [← hv, h2] at hg
            injection hg with hg
            injection hg with _ hg
            exact absurd hg (by decide)
        · simp at hx
          subst hx
          have h1 := HO6.out
          refine (h1.mono (by have := b5.size; omega)).kept g8 (Or.inr fun e => ?_)
          have := (h1.lt e).1
          have := b5.size
          have := (HO.out.lt w.heap.size rfl).2
          omega
      go_roundw
      case rel => exact ⟨j + 1, qs ++ [q], by omega, by go_num, by simp [HQL.out], by rw [HT.out, List.map_append, HQK.out]; simp [HK6.out], hall, o8, b8⟩
      case measure => simp [intOf]; omega
    · obtain rfl : j = n := by omega
      rw [List.drop_eq_nil_of_le (by rw [HLN.out]; exact Nat.le_refl _), List.append_nil] at ho
      have hk := HQK.out
      rw [List.take_of_length_le (by rw [HLN.out]; exact Nat.le_refl _)] at hk
      have hln : (l.map Pc.key).length = j := by rw [List.length_map, HLN.out]
      have HR : Hid (Own6 w.heap.size wr (.slice (some ⟨w.heap.size, 0, none⟩) j j) (l.map Pc.key)) := Lib.hid ⟨qs, by rw [hln]; exact ho, hk, HQO.out⟩
      clear hk ho hln
      go_wp2_with fail
      go_ret
      exact ⟨_, rfl, HR.out, hb⟩
end Go.Proofs.Ytnpkmkjenlhkiaa

/- The document's wheel: a tick and one list; how one is made, and how a handle is cancelled. Condition: the list has at most 2^40 members. -/
import Derived.Test.YtkmhgcdjmfafhaaWhOn
namespace Go.Proofs.Ytkmhgcdjmfafhaa
set_option linter.unusedVariables false
set_option linter.unusedSimpArgs false
open Go.RowKit

/-- At block xb the document's wheel stands at tick n, with the list l, whose row is v. -/
structure Rf (w : World) (xb : Nat) (v : Value) (n : Nat) (l : List (Int × Int)) : Prop where
  blk : w.heap[xb]? = some (.cells #[.int .i64 (n : Int), v] 37 (0, 0))
  row : w.ownsRow 0 47 2 v l.length (dv l)
  far : v.ownBlock ≠ some xb

section
variable {w w' : World} {xb n : Nat} {v : Value} {l : List (Int × Int)} {base : Nat} {e : TypeId}
theorem Rf.lt (h : Rf w xb v n l) : xb < w.heap.size := (Array.getElem?_eq_some_iff.1 h.blk).1
theorem Rf.c0 (h : Rf w xb v n l) : w.cell? ⟨xb, 0, none⟩ = some (.int .i64 (n : Int)) := by rw [cell_of_row w xb 0 _ _ (0, 0) h.blk]; rfl
theorem Rf.c1 (h : Rf w xb v n l) : w.cell? ⟨xb, 1, none⟩ = some v := by rw [cell_of_row w xb 1 _ _ (0, 0) h.blk]; rfl
theorem Rf.fz (h : Rf w xb v n l) (j : Nat) : w.frozen? ⟨xb, j, none⟩ = false := by simp [World.frozen?, show w.heap[xb]? = _ from h.blk]
theorem Rf.ch (h : Rf w xb v n l) {m : Nat → Prop} (c : Ch w w' m) (hx : ¬ m xb) (hv : ∀ g, v.ownBlock = some g → ¬ m g) : Rf w' xb v n l :=
  ⟨(c.block xb h.lt hx).trans h.blk, own_ch2 h.row c hv, h.far⟩
theorem own_slice {k : Nat} {xs : List Value} (h : w.ownsRow base e 2 v k xs) : ∃ A c, v = .slice A k c ∧ k ≤ c ∧ c ≤ 9223372036854775807 := by
  rcases h.2 with ⟨rfl, rfl⟩ | ⟨g, cap, cur, rfl, _, hg, h1, h2, _⟩
  · exact ⟨none, 0, rfl, Nat.le_refl _, by omega⟩
  · exact ⟨_, cap, rfl, h1, by unfold maxLen at h2; omega⟩
theorem own_ge {k : Nat} {xs : List Value} (h : w.ownsRow base e 2 v k xs) {g : Nat} (hg : v.ownBlock = some g) : base ≤ g ∧ g < w.heap.size := by
  rcases h.2 with ⟨rfl, rfl⟩ | ⟨g', cap, cur, rfl, hb, hg', _⟩
  · cases hg
  · injection hg with hg
    subst hg
    exact ⟨hb, (Array.getElem?_eq_some_iff.1 hg').1⟩
theorem own_zero {k : Nat} {xs : List Value} (h : w.ownsRow base e 2 v k xs) : w.ownsRow 0 e 2 v k xs := by
  refine ⟨h.1, ?_⟩
  rcases h.2 with hn | ⟨g, cap, cur, hv, hb, rest⟩
  · exact .inl hn
  · exact .inr ⟨g, cap, cur, hv, Nat.zero_le _, rest⟩
theorem own_cells {A : Option Addr} {c : Nat} (h : w.ownsRow base e 2 (.slice A l.length c) l.length (dv l)) {j : Nat} (hj : j < l.length) :
    ∃ g, A = some ⟨g, 0, none⟩ ∧ w.cell? ⟨g, j * 2, none⟩ = some (.int .i64 (l.getD j (0, 0)).1) ∧ w.cell? ⟨g, j * 2 + 1, none⟩ = some (.int .i64 (l.getD j (0, 0)).2) := by
  obtain ⟨d1, d2⟩ := dv_at l j hj
  have h0 := h
  rcases h.2 with ⟨_, h2⟩ | ⟨g, cap, cur, hv, hb, _, hn, _⟩
  · omega
  · injection hv with hv _ _
    exact ⟨g, hv, by subst hv; exact (World.ownsRow.cellAt h0 _ (by omega)).trans d1, by subst hv; exact (World.ownsRow.cellAt h0 _ (by omega)).trans d2⟩
theorem Rf.set (h : Rf w xb v n l) {v' : Value} {l' : List (Int × Int)} (hr : w.ownsRow 0 47 2 v' l'.length (dv l')) (hf : v'.ownBlock ≠ some xb) : Rf (w.setCell ⟨xb, 1, none⟩ v') xb v' n l' := by
  refine ⟨?_, ?_, hf⟩
  · have := h.blk
    simp [World.setCell, Array.getElem?_modify, this]
  · refine ⟨hr.1, ?_⟩
    rcases hr.2 with hn | ⟨g, cap, cur, hv, hb, hg, rest⟩
    · exact .inl hn
    · exact .inr ⟨g, cap, cur, hv, hb, (Below.heap_setCell w ⟨xb, 1, none⟩ v' g (fun e => hf (by rw [hv]; exact congrArg some e))).trans hg, rest⟩
theorem Rf.tick (h : Rf w xb v n l) (m : Nat) : Rf (w.setCell ⟨xb, 0, none⟩ (.int .i64 (m : Int))) xb v m l := by
  refine ⟨?_, ?_, h.far⟩
  · have := h.blk
    simp [World.setCell, Array.getElem?_modify, this]
  · refine ⟨h.row.1, ?_⟩
    rcases h.row.2 with hn | ⟨g, cap, cur, hv, hb, hg, rest⟩
    · exact .inl hn
    · exact .inr ⟨g, cap, cur, hv, hb, (Below.heap_setCell w ⟨xb, 0, none⟩ _ g (fun e => h.far (by rw [hv]; exact congrArg some e))).trans hg, rest⟩
theorem Rf.new (w : World) (n : Nat) : Rf (w.alloc (.cells #[.int .i64 (n : Int), .slice none 0 0] 37)) w.heap.size (.slice none 0 0) n [] :=
  ⟨heap_alloc_new w _, World.ownsRow_nil _ _ _ _, fun e => by cases e⟩
end

set_option maxHeartbeats 1600000 in
theorem rnew_any (t : Int) (ht : isI t) (w : World) : Calls Try.prog 10 #[.int .i64 t] w fun e w' => ∃ xb, e = .returned (ptr xb) ∧ Rf w' xb (.slice none 0 0) (clamp t) [] ∧ RowKit.Below w.heap.size w w' ∧ w.heap.size ≤ xb := by
  have key : ∀ m : Nat, m = clamp t → ∃ xb, Ending.returned (ptr w.heap.size) = .returned (ptr xb) ∧ Rf (w.alloc (.cells #[.int .i64 (m : Int), .slice none 0 0] 37)) xb (.slice none 0 0) (clamp t) [] ∧ RowKit.Below w.heap.size w (w.alloc (.cells #[.int .i64 (m : Int), .slice none 0 0] 37)) ∧ w.heap.size ≤ xb :=
    fun m e => ⟨_, rfl, e ▸ Rf.new w m, (RowKit.Below.refl _ _).alloc (Nat.le_refl _) _, Nat.le_refl _⟩
  have HK := Lib.hid key
  clear key
  unfold isI at ht
  by_cases h1 : t < 0
  · go_enter Try.func10, Try.ntmps10
    go_wp2_with fail
    go_ret
    exact HK.out 0 (by unfold clamp; omega)
  · by_cases h2 : 1099511627776 < t
    · go_enter Try.func10, Try.ntmps10
      go_wp2_with fail
      go_ret
      exact HK.out 1099511627776 (by unfold clamp; omega)
    · obtain ⟨m, rfl⟩ : ∃ m : Nat, t = m := ⟨t.toNat, by omega⟩
      go_enter Try.func10, Try.ntmps10
      go_wp2_with fail
      go_ret
      exact HK.out m (by unfold clamp; omega)

theorem woL_len (l : List (Int × Int)) (x : Int) : ∃ b : Bool, decide ((woL l x).length < l.length) = b ∧ ((∃ p ∈ l, p.1 = x) ∧ b = true ∨ (∀ p ∈ l, p.1 ≠ x) ∧ b = false) := by
  by_cases h : ∃ p ∈ l, p.1 = x
  · refine ⟨true, decide_eq_true ?_, .inl ⟨h, rfl⟩⟩
    obtain ⟨p, hp, e⟩ := h
    unfold woL
    exact List.length_filter_lt_length_iff_exists.2 ⟨p, hp, by simpa using e⟩
  · have h' : ∀ p ∈ l, p.1 ≠ x := fun p hp e => h ⟨p, hp, e⟩
    refine ⟨false, decide_eq_false ?_, .inr ⟨h', rfl⟩⟩
    have : woL l x = l := by
      unfold woL
      rw [List.filter_eq_self]
      intro p hp
      simpa using h' p hp
    rw [this]
    omega
theorem woL_take {l : List (Int × Int)} {j : Nat} (hj : j < l.length) (x : Int) : woL (l.take (j + 1)) x = if (l.getD j (0, 0)).1 = x then woL (l.take j) x else woL (l.take j) x ++ [((l.getD j (0, 0)).1, (l.getD j (0, 0)).2)] := by
  rw [List.take_add_one, List.getD_eq_getElem?_getD, List.getElem?_eq_getElem hj]
  unfold woL
  rw [List.filter_append]
  by_cases e : (l[j]'hj).1 = x <;> simp [e]

set_option maxHeartbeats 4000000 in
theorem rcancel_any {w : World} {xb n : Nat} {v : Value} {l : List (Int × Int)} (R : Rf w xb v n l) {x : Int} (hx : isI x) (hU : l.length ≤ 1099511627776) :
    Calls Try.prog 16 #[ptr xb, .int .i64 x] w fun e w' => ∃ (b : Bool) (v' : Value), e = .returned (.bool b) ∧ ((∃ p ∈ l, p.1 = x) ∧ b = true ∨ (∀ p ∈ l, p.1 ≠ x) ∧ b = false) ∧ Rf w' xb v' n (woL l x) ∧ Ch w w' (fun k => k = xb) ∧ ∀ g, v'.ownBlock = some g → w.heap.size ≤ g := by
  obtain ⟨A, c, hv, hc1, hc2⟩ := own_slice R.row
  subst hv
  have HR := Lib.hid R
  have c1 := R.c1
  obtain ⟨bb, hbb, hcase⟩ := woL_len l x
  have HB := Lib.hid hbb
  have HC := Lib.hid hcase
  have HU := Lib.hid hU
  have hlt := R.lt
  have start : ∃ (j : Nat) (o : List (Int × Int)), j ≤ l.length ∧ Value.int .i64 (0 : Int) = .int .i64 (j : Int) ∧ o = woL (l.take j) x ∧ w.ownsRow w.heap.size 47 2 (.slice none 0 0) o.length (dv o) ∧ Ch w w (fun _ => False) :=
    ⟨0, [], Nat.zero_le _, rfl, rfl, World.ownsRow_nil _ _ _ _, Ch.refl _ _⟩
  have HS := Lib.hid start
  clear R hbb hcase hU start
  generalize hln : l.length = ln at *
  have HL := Lib.hid hln
  clear hln
  unfold ptr at *
  go_enter Try.func16, Try.ntmps16
  go_wp2_with fail
  go_loopw [5, 6] (fun u ix wi => ∃ (j : Nat) (o : List (Int × Int)), j ≤ ln ∧ ix = .int .i64 (j : Int) ∧ o = woL (l.take j) x ∧ wi.ownsRow w.heap.size 47 2 u o.length (dv o) ∧ Ch w wi (fun _ => False)) (fun _ ix _ => ln - (intOf ix).toNat)
  case atStart => exact HS.out
  case round =>
    obtain ⟨j, o, hj, rfl, ho, own, ch⟩ := hrel
    have R1 : Rf wr xb (.slice A ln c) n l := by
      refine HR.out.ch ch (fun h => h) fun _ _ h => h
    have k1 := R1.c1
    have HO := Lib.hid ho
    have HCH := Lib.hid ch
    by_cases hjl : j < ln
    · have hr := R1.row
      rw [← HL.out] at hr
      have hjo : j < l.length := by rw [HL.out]; exact hjl
      obtain ⟨g, rfl, x0, x1⟩ := own_cells hr hjo
      have ht := woL_take hjo x
      have hwl : (woL (l.take j) x).length ≤ 1099511627776 := by
        refine Nat.le_trans (List.length_filter_le _ _) ?_
        rw [List.length_take]
        have := HU.out
        omega
      rw [← ho] at ht hwl
      clear hr ho ch
      generalize (l.getD j (0, 0)).1 = p1 at *
      generalize (l.getD j (0, 0)).2 = p2 at *
      by_cases hp : p1 = x
      · subst hp
        rw [if_pos rfl] at ht
        have HT := Lib.hid ht
        have HOWN := Lib.hid own
        clear ht own R1
        go_wp2_with fail
        go_roundw
        case rel => exact ⟨j + 1, o, by omega, by go_num, HT.out.symm, HOWN.out, HCH.out⟩
        case measure => simp [intOf]; omega
      · rw [if_neg hp] at ht
        obtain ⟨d0, d1⟩ := d_cells wr (.int .i64 p1) (.int .i64 p2) 47
        have hbl : w.heap.size ≤ (wr.alloc (.cells #[.int .i64 p1, .int .i64 p2] 47)).heap.size := by
          have := HCH.out.size
          rw [World.size_alloc]
          omega
        have O4 := Lib.hid (own.alloc (.cells #[.int .i64 p1, .int .i64 p2] 47))
        have hge : ∀ g, u5.ownBlock = some g → w.heap.size ≤ g := fun g hg => (own_ge own hg).1
        have HGE := Lib.hid hge
        have HT := Lib.hid ht
        have HCA := Lib.hid (HCH.out.alloc (.cells #[.int .i64 p1, .int .i64 p2] 47))
        have HBL := Lib.hid hbl
        have HD0 := Lib.hid d0
        have HD1 := Lib.hid d1
        clear ht own R1 hge d0 d1 hbl
        go_wp2_with (first | (at_builtin; refine wpList_app2 rfl _ _ 35 47 rfl Try.underlying35 infoRDue w.heap.size _ _ _ rfl O4.out HBL.out _ _ _ rfl HD0.out HD1.out hwl ?_; intro v' w4 own4 gr4 at4))
        go_roundw
        case rel => exact ⟨j + 1, o ++ [(p1, p2)], by omega, by go_num, HT.out.symm, by rw [List.length_append]; exact own4, HCA.out.grown gr4 fun k hk hkl => absurd (HGE.out k hk) (by omega)⟩
        case measure => simp [intOf]; omega
    · obtain rfl : j = ln := by omega
      obtain ⟨A5, c5, rfl, hc3, hc4⟩ := own_slice own
      have hoe : o = woL l x := by rw [ho, ← HL.out, List.take_length]
      have hb2 := HB.out
      rw [← hoe] at hb2
      have hb3 : decide ((o.length : Int) < (j : Int)) = bb := by rw [← hb2]; exact decide_eq_decide.2 Int.ofNat_lt
      have fz := R1.fz 1
      have hne : (Value.slice A5 o.length c5).ownBlock ≠ some xb := fun e => by
        have := (own_ge own e).1
        omega
      have HF := Lib.hid (R1.set (own_zero own) hne)
      have HGE := Lib.hid (fun g (hg : (Value.slice A5 o.length c5).ownBlock = some g) => (own_ge own hg).1)
      have HOE := Lib.hid hoe
      have HC2 := Lib.hid ((ch.mono (m' := fun k => k = xb) fun _ _ h => h.elim).setCell (p := ⟨xb, 1, none⟩) (fun _ => rfl) (.slice A5 o.length c5))
      clear ho own ch R1 hoe hne
      generalize o.length = ol at *
      go_wp2_with fail
      go_ret
      exact ⟨bb, _, rfl, HC.out, HOE.out ▸ HF.out, HC2.out, HGE.out⟩

end Go.Proofs.Ytkmhgcdjmfafhaa

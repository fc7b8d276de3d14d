/- What a host's tokens are, told as the law's own entries; the contracts of Host.Tokens, of the law's entries and of the document's Apart and Live. Conditions: the host stands. -/
import Derived.Test.YtlcegchdkigibaaGreatDoorMg33
import Derived.Deep.RegionHeld3
namespace Go.Proofs.YtlcegchdkigibaaGreatDoor
set_option linter.unusedVariables false
set_option linter.unusedSimpArgs false
set_option maxRecDepth 20000
open Go.RowKit Go.Lib

/-- An entry's cells, as the law has them. -/
def rcs (x : LT.En) : List Value := [.int .u32 (x.tok : Int), .bool x.live, .int .i64 x.owner, .int .i64 x.upto]
def rcv (l : List LT.En) : List Value := l.flatMap rcs
theorem rcv_append (l r : List LT.En) : rcv (l ++ r) = rcv l ++ rcv r := by simp [rcv]
theorem rcv_length (l : List LT.En) : (rcv l).length = l.length * 4 := by
  unfold rcv
  induction l with
  | nil => rfl
  | cons s l ih =>
    rw [List.flatMap_cons, List.length_append, ih, List.length_cons]
    show 4 + l.length * 4 = _
    omega
theorem rcv_at : ∀ (l : List LT.En) (j i : Nat), j < l.length → i < 4 → (rcv l)[j * 4 + i]? = (rcs (l.getD j default))[i]?
  | [], j, i, h, _ => absurd h (Nat.not_lt_zero _)
  | s :: l, 0, i, _, hi => by
    unfold rcv
    rw [List.flatMap_cons, List.getElem?_append_left (by show 0 * 4 + i < 4; omega)]
    simp
  | s :: l, j + 1, i, hj, hi => by
    have ih := rcv_at l j i (by simpa using hj) hi
    unfold rcv at *
    rw [List.flatMap_cons, List.getElem?_append_right (by show 4 ≤ (j + 1) * 4 + i; omega)]
    rw [show (j + 1) * 4 + i - (rcs s).length = j * 4 + i from by show (j + 1) * 4 + i - 4 = _; omega, ih]
    simp
theorem rcs_one (x : LT.En) : ∀ u ∈ rcs x, u.oneCell' = true := by
  intro u hu
  unfold rcs at hu
  simp only [List.mem_cons, List.not_mem_nil, or_false] at hu
  rcases hu with rfl | rfl | rfl | rfl <;> rfl
section
variable {B : Nat} {w w' : World} {hb mb : Nat} {h : Hv} {l : LT.Ents} {ps xs : List Nat} {m : Nat} {gs : List Value}
theorem tokens_any (s : Hc B w hb h mb l xs m gs) (hf : ∀ p ∈ l, LT.isI p.2.freed) : Calls Tryz.prog 28 #[cptr hb] w fun e w' => ∃ v out, e = .returned v ∧ LT.Er w' w.heap.size v out ∧ LT.Told l out ∧ Below w.heap.size w w' := by
  have HA := Lib.hid (LT.tall_any s.tb hf)
  have c4 := s.ha.tb_
  unfold LT.ptr at HA
  clear s hf
  generalize h.tb = tb at *
  unfold cptr at *
  go_enter Tryz.func28, Tryz.ntmps28
  go_wp2_with fail
  refine HA.out.mono ?_
  rintro e w1 ⟨v, out, rfl, r1, t1, b1⟩
  have HQ := Lib.hid (And.intro r1 (And.intro t1 b1))
  clear r1 t1 b1 HA
  go_wp2_with fail
  go_ret
  exact ⟨v, out, rfl, HQ.out⟩
end
theorem undRe : Tryz.prog.underlying 31 = some (.slice 83) := by kernel_rfl
def rz : List Value := [.int .u32 0, .bool false, .int .i64 0, .int .i64 0]
theorem infoRe : (Tryz.prog.info? 83).map (fun i => (i.zero, i.size, i.bytes)) = some (some (.agg rz.toArray), 4, 24) := by kernel_rfl
theorem litRe (w : World) (x : LT.En) : (Instr.buildSlice 31 1 #[(0, .agg (rcs x).toArray)]).run Tryz.prog w = .ok (.slice (some ⟨w.heap.size, 0, none⟩) 1 1) (w.alloc (.cells (rcs x).toArray 83)) := by kernel_rfl
def tz : List Value := [.int .u32 0, .int .i64 0, .bool false, .int .i64 0]
theorem zeroTe : (Tryz.prog.info? 81).map (·.zero) = some (some (.agg tz.toArray)) := by kernel_rfl
theorem sizeTe : (Tryz.prog.info? 81).map (·.size) = some 4 := by kernel_rfl
theorem ten_one (x : LT.En) : ∀ u ∈ x.cells, u.oneCell' = true := by
  intro u hu
  unfold LT.En.cells at hu
  simp only [List.mem_cons, List.not_mem_nil, or_false] at hu
  rcases hu with rfl | rfl | rfl | rfl <;> rfl
theorem stopHere {p : Prop} (h : Hid p) : p := h.out
section
variable {B : Nat} {w w' : World} {hb mb : Nat} {h : Hv} {l : LT.Ents} {ps xs : List Nat} {m : Nat} {gs : List Value}
def EntsP (w : World) (l : LT.Ents) (e : Ending) (w' : World) : Prop := ∃ v out b0, e = .returned v ∧ w.heap.size ≤ b0 ∧ w'.ownsRow b0 83 4 v out.length (rcv out) ∧ LT.Told l out ∧ Below w.heap.size w w'
theorem take_rcv (out : List LT.En) {j : Nat} (hj : j < out.length) : rcv (out.take j) ++ rcs (out.getD j default) = rcv (out.take (j + 1)) := by
  rw [List.take_add_one, rcv_append, List.getElem?_eq_getElem hj, List.getD_eq_getElem?_getD, List.getElem?_eq_getElem hj]
  simp [rcv]
set_option maxHeartbeats 6400000 in
theorem entries_any (s : Hc B w hb h mb l xs m gs) (hf : ∀ p ∈ l, LT.isI p.2.freed) : Calls Tryz.prog 9 #[cptr hb] w (EntsP w l) := by
  have HT := Lib.hid (tokens_any s hf)
  have HLL : Hid (l.length ≤ 4 ∧ (LT.keys l).Nodup) := Lib.hid ⟨s.tb.fits, s.tb.map.nd⟩
  clear s hf
  unfold cptr at *
  go_enter Tryz.func9, Tryz.ntmps9
  go_wp2_with fail
  refine HT.out.mono ?_
  rintro e w1 ⟨v, out, rfl, ⟨A, c, rfl, h1, h2, h3⟩, t1, b1⟩
  have hlen : out.length ≤ 4 := by rw [t1.length HLL.out.2]; exact HLL.out.1
  have HT1 := Lib.hid t1
  have HB1 := Lib.hid b1
  have HR1 := Lib.hid h3
  have HLN := Lib.hid hlen
  have hc : c ≤ 9223372036854775807 := by unfold maxLen at h2; omega
  clear t1 b1 h3 HT h2 hlen
  go_wp2_with fail
  go_loopw [9, 3] (fun i v wr => ∃ j : Nat, j ≤ out.length ∧ i = .int .i64 (j : Int) ∧ wr.ownsRow w1.heap.size 83 4 v j (rcv (out.take j)) ∧ Below w1.heap.size w1 wr) (fun i _ _ => out.length - (intOf i).toNat)
  case atStart => exact ⟨0, Nat.zero_le _, rfl, World.ownsRow_nil _ _ _ _, Below.refl _ _⟩
  case round =>
    obtain ⟨j, hj, rfl, r, b⟩ := hrel
    by_cases hjl : j < out.length
    · obtain ⟨g, rfl, hg, hr⟩ := HR1.out (by omega)
      have rA : wr.rangeAt g (j * 4) (out.getD j default).cells := fun i u hu => by
        have hi : i < 4 := (List.getElem?_eq_some_iff.1 hu).1
        have := hr j hjl i hi
        rw [hu] at this
        exact (b.cell (World.block_lt_of_cell? _ _ this)).trans this
      have HRW := Lib.hid r
      have HB := Lib.hid b
      have HTK := Lib.hid (take_rcv out hjl)
      have hji : (j : Int) < (out.length : Int) := by omega
      have hwj : IntKind.i64.wrap ((j : Int) + 1) = (j : Int) + 1 := by have := HLN.out; rw [IntKind.wrap_i64]; omega
      have hj0 : (0 : Int) ≤ (j : Int) := by omega
      clear r b hr hg
      obtain ⟨q, hq⟩ : ∃ q, q = out.getD j default := ⟨_, rfl⟩
      rw [← hq] at rA HTK
      clear hq
      generalize hln : out.length = ln at *
      go_wp2_with (first
        | ((with_reducible refine wpList_here ?_); refine wpList_loadV (o := ⟨some 12, _, _, _, _, _⟩) rfl 81 (.tmp 11) rfl _ _ q.cells rfl rA _ Tryz.underlying81 rfl sizeTe ?_)
        | ((with_reducible refine wpList_here ?_); refine wpList_allocV (o := ⟨some 5, _, _, _, _, _⟩) rfl 81 rfl tz zeroTe _ rfl ?_; intro wA zA bA sA)
        | ((with_reducible refine wpList_here ?_); refine wpList_storeV (o := ⟨none, .store 81 _ _, _, _, _, _⟩) rfl 81 (.tmp 5) (.tmp 12) rfl _ _ q.cells rfl rfl zA rfl (ten_one q) sizeTe ?_; intro wB zB gB sB; have d0 : wB.cell? ⟨wr.heap.size, 0, none⟩ = some (.int .u32 (q.tok : Int)) := (zB 0 (by simp [LT.En.cells])).1; have d1 : wB.cell? ⟨wr.heap.size, 1, none⟩ = some (.int .i64 q.owner) := (zB 1 (by simp [LT.En.cells])).1; have d2 : wB.cell? ⟨wr.heap.size, 2, none⟩ = some (.bool q.live) := (zB 2 (by simp [LT.En.cells])).1; have d3 : wB.cell? ⟨wr.heap.size, 3, none⟩ = some (.int .i64 q.upto) := (zB 3 (by simp [LT.En.cells])).1; have hBB := Lib.hid (v_below_g bA gB bA.size (Nat.le_refl _)))
        | (at_builtin; refine stopHere ?_)
        | fail)
      refine Lib.hid ?_
      have hsB : wB.heap.size = wr.heap.size + 1 := sB.trans sA
      have rB : (wB.alloc (.cells (rcs q).toArray 83)).rangeAt (wr.heap.size + 1) 0 (rcs q) := hsB ▸ (Own.new wB (rcs q) 83).range
      have hBC := Lib.hid (hBB.out.alloc hBB.out.size (.cells (rcs q).toArray 83))
      refine wpList_appG rfl (.tmp 13) (.tmp 23) 31 83 rfl (.agg rz.toArray) 4 24 undRe infoRe rfl (by decide) (by decide) w1.heap.size u3 j _ rfl (own_ch2 HRW.out (Ch.of_below (fun _ => False) hBC.out) (fun _ _ e => e)) (some ⟨wr.heap.size + 1, 0, none⟩) 1 1 (rcs q) rfl ⟨rfl, Nat.le_refl _, by omega, rcs_one q, fun _ => ⟨_, _, rfl, rB⟩⟩ (by have := HLN.out; omega) (Nat.le_trans HB.out.size hBC.out.size) ?_
      intro v9 w9 r9 g9 o9
      rw [HTK.out] at r9
      have HV := Lib.hid (HB.out.trans ((hBC.out.mono HB.out.size).trans (chm_below (grown_chv g9) (fun k e _ => (own_in HRW.out e).1) (Nat.le_trans HB.out.size hBC.out.size))))
      have HR9 := Lib.hid r9
      obtain ⟨A9, k9, rfl, _, _⟩ := LF.own_slice r9
      clear r9 g9 o9
      go_wp2_with fail
      go_roundw
      case rel => exact ⟨j + 1, by omega, by go_num, HR9.out, HV.out⟩
      case measure => simp [intOf]; omega
    · obtain rfl : j = out.length := by omega
      rw [List.take_length] at r
      have HQ : Hid (EntsP w l (.returned u3) wr) := Lib.hid ⟨u3, out, w1.heap.size, rfl, HB1.out.size, r, HT1.out, HB1.out.trans (b.mono HB1.out.size)⟩
      clear r b
      go_wp2_with fail
      go_ret
      exact HQ.out
end
end Go.Proofs.YtlcegchdkigibaaGreatDoor

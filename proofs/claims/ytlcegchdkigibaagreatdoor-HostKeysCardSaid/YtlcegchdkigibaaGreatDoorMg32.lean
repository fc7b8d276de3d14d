/- The contract of segment.Right at a segment without options and data; of option.Find where there are none. No condition.
The contract of conn.Dial. Conditions: addresses and ports that may be, a tick from 0 to 2^20; the table of digests is as the program lays it.
The contracts of Conn.Out, and of Conn.Over where it isn't. Condition: a connection with one leg stands.
The contracts of Host.full and of Host.settle at a connection that isn't over. Conditions: the host stands; so does the connection, with one leg.
The contract of Host.add. Conditions: the host stands, and a connection with one leg that isn't over, beside what a handle stands for. -/
import Derived.Test.YtlcegchdkigibaaGreatDoorMg4
import Derived.Test.YtlcegchdkigibaaGreatDoorMg31
import Derived.Test.YtlcegchdkigibaaGreatDoorMg18
import Derived.Test.YtlcegchdkigibaaGreatDoorMg13
namespace Go.Proofs.YtlcegchdkigibaaGreatDoor
set_option linter.unusedVariables false
set_option linter.unusedSimpArgs false
set_option maxRecDepth 20000
open Go.RowKit Go.Lib

/-- Whole numbers, as cells. -/
def ivc (l : List Int) : List Value := l.map fun x => .int .i64 x
def inBc (top : Int) (l : List Int) : Bool := l.all fun x => decide (0 ≤ x) && decide (x ≤ top)
theorem ivc_at {l : List Int} {k : Nat} (h : k < l.length) : (ivc l)[k]? = some (.int .i64 (l.getD k 0)) := by
  simp [ivc, h]
theorem take_intc {l : List Int} {k : Nat} (h : k < l.length) : l.take (k + 1) = l.take k ++ [l.getD k 0] := by
  rw [List.take_succ_eq_append_getElem h]
  simp [h]
theorem inBc_bad {top : Int} {l : List Int} {k : Nat} (h : k < l.length) (hx : l.getD k 0 < 0 ∨ top < l.getD k 0) : inBc top l = false := by
  cases hc : inBc top l with
  | false => rfl
  | true =>
    have h1 := List.all_eq_true.1 hc (l.getD k 0) (by simp [List.getD_eq_getElem?_getD, List.getElem?_eq_getElem h])
    simp only [Bool.and_eq_true, decide_eq_true_eq] at h1
    omega
theorem inBc_step {top : Int} {l : List Int} {k : Nat} (h : k < l.length) (h1 : inBc top (l.take k) = true) (hx : 0 ≤ l.getD k 0) (hx' : l.getD k 0 ≤ top) : inBc top (l.take (k + 1)) = true := by
  rw [take_intc h]
  unfold inBc at *
  rw [List.all_append, h1]
  simp only [List.all_cons, List.all_nil, Bool.and_true, Bool.true_and, Bool.and_eq_true, decide_eq_true_eq]
  exact ⟨hx, hx'⟩

set_option maxHeartbeats 1600000 in
theorem within_any (top : Int) (l : List Int) (g n : Nat) (w : World) (h : w.rangeAt g 0 (ivc l)) (hl : l.length = n) (hn : n ≤ 8) :
    Calls Tryz.prog 66 #[.int .i64 top, .slice (some ⟨g, 0, none⟩) n n] w fun e w' => e = .returned (.bool (inBc top l)) ∧ w = w' := by
  go_enter Tryz.func66, Tryz.ntmps66
  go_wp2_with fail
  go_loop [9] (fun i => ∃ k : Nat, k ≤ n ∧ i = .int .i64 k ∧ inBc top (l.take k) = true) (fun i => n - (intOf i).toNat)
  case atStart => exact ⟨0, Nat.zero_le _, rfl, rfl⟩
  case round =>
    obtain ⟨k, hk, rfl, hin⟩ := hrel
    by_cases hlt : k < n
    · have hc := h k _ (ivc_at (l := l) (by omega))
      rw [Nat.zero_add] at hc
      have HBAD := Lib.hid (fun hx => inBc_bad (top := top) (l := l) (k := k) (by omega) hx)
      have HOK := Lib.hid (fun a b => inBc_step (top := top) (l := l) (k := k) (by omega) hin a b)
      clear h hin
      generalize l.getD k 0 = x at *
      by_cases h1 : x < 0
      · go_wp2
        go_ret
        exact ⟨by rw [HBAD.out (Or.inl h1)]; rfl, rfl⟩
      · by_cases h2 : top < x
        · go_wp2
          go_ret
          exact ⟨by rw [HBAD.out (Or.inr h2)]; rfl, rfl⟩
        · go_wp2
          go_round
          case rel => exact ⟨k + 1, by omega, by go_num, HOK.out (by omega) (by omega)⟩
          case measure => simp [intOf]; omega
    · obtain rfl : k = n := by omega
      rw [List.take_of_length_le (by omega)] at hin
      have HIN := Lib.hid hin
      clear hin
      go_wp2
      go_ret
      exact ⟨by rw [HIN.out]; rfl, rfl⟩

set_option maxHeartbeats 1600000 in
theorem optsNone_any (w : World) : Calls Tryz.prog 67 #[.slice none 0 0] w fun e w' => e = .returned (.bool true) ∧ w' = w := by
  go_enter Tryz.func67, Tryz.ntmps67
  go_wp2_with fail
  go_loop [7] (fun i => i = .int .i64 0) (fun i => 0)
  case atStart => rfl
  case round =>
    subst hrel
    go_wp2_with fail
    go_ret
    exact ⟨rfl, rfl⟩

section
variable {ops : Array Oper} {rest : List Oper} {o : Oper} {a : Act} {w : World} {Q : Exit → Act → World → Prop}
/-- A new slice of two whole numbers; of three. -/
theorem wpList_ints2 (hgd : Region.wanted o (yielded ops a.tmps) = true) (x y : Operand) (ho : o.op = .buildSlice 55 2 #[(0, x), (1, y)]) (u v : Int) (hx : a.eval x = .int .i64 u) (hy : a.eval y = .int .i64 v) (g : Nat) (hg : w.heap.size = g)
    (h : ∀ w', w'.rangeAt g 0 (ivc [u, v]) → Below w.heap.size w w' → wpList Tryz.prog ops Q rest (a.put o.dst (.slice (some ⟨g, 0, none⟩) 2 2)) w') : wpList Tryz.prog ops Q (o :: rest) a w := by
  subst hg
  refine wpList_want hgd fun _ hK => ?_
  have hrun : (Instr.buildSlice 55 2 #[(0, .int .i64 u), (1, .int .i64 v)]).run Tryz.prog w = .ok (.slice (some ⟨w.heap.size, 0, none⟩) 2 2) (w.alloc (.cells #[.int .i64 u, .int .i64 v] 3)) := by kernel_rfl
  have hr : (execOp a.eval o).run Tryz.prog w = .ok (.value (.slice (some ⟨w.heap.size, 0, none⟩) 2 2)) (w.alloc (.cells #[.int .i64 u, .int .i64 v] 3)) := by
    simp [execOp, ho, hx, hy, hrun]
  unfold Oper.wp
  rw [hr, Oper.upon_value]
  exact hK _ _ (h _ (Own.new w (ivc [u, v]) 3).range (below_a w _))
theorem wpList_ints3 (hgd : Region.wanted o (yielded ops a.tmps) = true) (x y z : Operand) (ho : o.op = .buildSlice 55 3 #[(0, x), (1, y), (2, z)]) (u v t : Int) (hx : a.eval x = .int .i64 u) (hy : a.eval y = .int .i64 v) (hz : a.eval z = .int .i64 t) (g : Nat) (hg : w.heap.size = g)
    (h : ∀ w', w'.rangeAt g 0 (ivc [u, v, t]) → Below w.heap.size w w' → wpList Tryz.prog ops Q rest (a.put o.dst (.slice (some ⟨g, 0, none⟩) 3 3)) w') : wpList Tryz.prog ops Q (o :: rest) a w := by
  subst hg
  refine wpList_want hgd fun _ hK => ?_
  have hrun : (Instr.buildSlice 55 3 #[(0, .int .i64 u), (1, .int .i64 v), (2, .int .i64 t)]).run Tryz.prog w = .ok (.slice (some ⟨w.heap.size, 0, none⟩) 3 3) (w.alloc (.cells #[.int .i64 u, .int .i64 v, .int .i64 t] 3)) := by kernel_rfl
  have hr : (execOp a.eval o).run Tryz.prog w = .ok (.value (.slice (some ⟨w.heap.size, 0, none⟩) 3 3)) (w.alloc (.cells #[.int .i64 u, .int .i64 v, .int .i64 t] 3)) := by
    simp [execOp, ho, hx, hy, hz, hrun]
  unfold Oper.wp
  rw [hr, Oper.upon_value]
  exact hK _ _ (h _ (Own.new w (ivc [u, v, t]) 3).range (below_a w _))
end
theorem Own.at_ {W : World} {g : Nat} {vs : List Value} (h : Own W g vs) (j : Nat) (hj : j < vs.length) : W.cell? ⟨g, j, none⟩ = vs[j]? := (h j hj).1
/-- A segment's cells that Right looks at. -/
structure CelB (W : World) (g : Nat) (s : Sgc) : Prop where
  c0 : W.cell? ⟨g, 0, none⟩ = some (.int .i64 s.src)
  c1 : W.cell? ⟨g, 1, none⟩ = some (.int .i64 s.dst)
  c2 : W.cell? ⟨g, 2, none⟩ = some (.int .i64 s.sp)
  c3 : W.cell? ⟨g, 3, none⟩ = some (.int .i64 s.dp)
  c10 : W.cell? ⟨g, 10, none⟩ = some (.int .i64 s.win)
  c11 : W.cell? ⟨g, 11, none⟩ = some s.ov
  c12 : W.cell? ⟨g, 12, none⟩ = some s.dv
theorem Own.celb {W : World} {g : Nat} {s : Sgc} (h : Own W g s.vals) : CelB W g s :=
  ⟨h.at_ 0 (by rw [s.vals_length]; omega), h.at_ 1 (by rw [s.vals_length]; omega), h.at_ 2 (by rw [s.vals_length]; omega), h.at_ 3 (by rw [s.vals_length]; omega), h.at_ 10 (by rw [s.vals_length]; omega), h.at_ 11 (by rw [s.vals_length]; omega), h.at_ 12 (by rw [s.vals_length]; omega)⟩
def bareB (src dst sp dp : Int) : Bool := inBc 3 [src, dst] && inBc 65535 [sp, dp, 0]
set_option maxHeartbeats 1600000 in
theorem RightBare_no1 (s : Sgc) (hb : inBc 3 [s.src, s.dst] = false) (w : World) :
    Calls Tryz.prog 31 #[.agg s.vals.toArray] w fun e w' => e = .returned (.bool false) ∧ Below w.heap.size w w' := by
  have HW1 := Lib.hid (fun W g hr => within_any 3 [s.src, s.dst] g 2 W hr rfl (by omega))
  rw [hb] at HW1
  clear hb
  go_enter Tryz.func31, Tryz.ntmps31
  go_wp2_with (first
    | ((with_reducible refine wpList_here ?_); refine wpList_boxV (o := ⟨some 1, _, _, _, _, _⟩) rfl 40 (.tmp 0) rfl s.vals rfl _ rfl ?_; intro w1 z1 b1 s1; have k0 := z1.celb.c0; have k1 := z1.celb.c1)
    | ((with_reducible refine wpList_here ?_); refine wpList_ints2 (o := ⟨some 7, _, _, _, _, _⟩) rfl (.tmp 4) (.tmp 6) rfl s.src s.dst rfl rfl _ s1 ?_; intro w2 z2 b2)
    | fail)
  refine (HW1.out _ _ z2).mono ?_
  rintro e w3 ⟨rfl, rfl⟩
  have b3 := below_trans b1 b2
  clear z1 b1 b2 s1 k0 k1 z2
  go_wp2_with fail
  go_ret
  exact ⟨rfl, b3⟩
set_option maxHeartbeats 1600000 in
theorem RightBare_yes (s : Sgc) (hw : s.win = 0) (ho : s.ov = .slice none 0 0) (hd : s.dv = .slice none 0 0) (hb : bareB s.src s.dst s.sp s.dp = true) (w : World) :
    Calls Tryz.prog 31 #[.agg s.vals.toArray] w fun e w' => e = .returned (.bool true) ∧ Below w.heap.size w w' := by
  have HW1 := Lib.hid (fun W g hr => within_any 3 [s.src, s.dst] g 2 W hr rfl (by omega))
  have HW2 := Lib.hid (fun W g hr => within_any 65535 [s.sp, s.dp, s.win] g 3 W hr rfl (by omega))
  have HO := Lib.hid (fun W => optsNone_any W)
  unfold bareB at hb
  rw [Bool.and_eq_true] at hb
  rw [hw] at HW2
  rw [hb.1] at HW1
  rw [hb.2] at HW2
  clear hb
  go_enter Tryz.func31, Tryz.ntmps31
  go_wp2_with (first
    | ((with_reducible refine wpList_here ?_); refine wpList_boxV (o := ⟨some 1, _, _, _, _, _⟩) rfl 40 (.tmp 0) rfl s.vals rfl _ rfl ?_; intro w1 z1 b1 s1; have k0 := z1.celb.c0; have k1 := z1.celb.c1)
    | ((with_reducible refine wpList_here ?_); refine wpList_ints2 (o := ⟨some 7, _, _, _, _, _⟩) rfl (.tmp 4) (.tmp 6) rfl s.src s.dst rfl rfl _ s1 ?_; intro w2 z2 b2)
    | fail)
  refine (HW1.out _ _ z2).mono ?_
  rintro e w3 ⟨rfl, rfl⟩
  have z3 := z1.below b2
  have b3 := below_trans b1 b2
  have k2 := z3.celb.c2
  have k3 := z3.celb.c3
  have k10 := z3.celb.c10
  rw [hw] at k10
  clear z1 b1 b2 s1 k0 k1 z2
  go_wp2_with (first
    | ((with_reducible refine wpList_here ?_); refine wpList_ints3 (o := ⟨some 16, _, _, _, _, _⟩) rfl (.tmp 11) (.tmp 13) (.tmp 15) rfl s.sp s.dp 0 rfl rfl rfl _ rfl ?_; intro w4 z4 b4)
    | fail)
  refine (HW2.out _ _ z4).mono ?_
  rintro e w5 ⟨rfl, rfl⟩
  have z5 := z3.below b4
  have b5 := below_trans b3 b4
  have k11 := z5.celb.c11
  have k12 := z5.celb.c12
  rw [ho] at k11
  rw [hd] at k12
  clear z3 b3 k2 k3 k10 b4 z4
  go_wp2_with fail
  refine (HO.out _).mono ?_
  rintro e w6 ⟨rfl, rfl⟩
  go_wp2_with fail
  go_ret
  exact ⟨rfl, b5⟩

/-- An array or struct that a call answers out of its own block, and one or two values beside it. -/
theorem results_c1 {P : Program} {fn : Func} {p q : Tmp} {ty : TypeId} (h : fn.results = #[.cell p ty, .tmp q]) (tmps : Array Value) (w : World) (g : Nat) (cs : List Value) (v : Value) (d : TypeDesc)
    (hp : tmps.getD p undef = .pointer (some ⟨g, 0, none⟩)) (hq : tmps.getD q undef = v) (hc : w.rangeAt g 0 cs) (hu : P.underlying ty = some d) (hd : d.isRow = true) (hi : (P.info? ty).map (·.size) = some cs.length) :
    (results fn tmps).run P w = .ok (.tuple #[.agg cs.toArray, v]) w := by
  have hp' : tmps[p]?.getD undef = .pointer (some ⟨g, 0, none⟩) := by simpa using hp
  have hq' : tmps[q]?.getD undef = v := by simpa using hq
  simp [results, h, hp', hq', asAddr, run_loadVar_mid w g 0 ty cs d hc hu hd hi]
set_option maxHeartbeats 1600000 in
theorem FindNone_any (k : Int) (w : World) : Calls Tryz.prog 80 #[.slice none 0 0, .int .i64 k] w fun e w' => e = .returned (.tuple #[.agg Opn.none_.vals.toArray, .bool false]) ∧ Below w.heap.size w w' := by
  go_enter Tryz.func80, Tryz.ntmps80
  go_wp2_with (first
    | ((with_reducible refine wpList_here ?_); refine wpList_allocV (o := ⟨some 4, _, _, _, _, _⟩) rfl 112 rfl Opn.none_.vals zeroOpn _ rfl ?_; intro w1 z1 b1 s1)
    | fail)
  go_loopw [10] (fun i wr => i = .int .i64 0 ∧ wr = w1) (fun _ _ => 0)
  case atStart => exact ⟨rfl, rfl⟩
  case round =>
    obtain ⟨rfl, rfl⟩ := hrel
    go_wp2_with (first
      | ((with_reducible refine wpList_here ?_); refine wpList_storeV rfl 112 (.tmp 4) (.tmp 20) rfl _ _ Opn.none_.vals rfl rfl z1 rfl (opn_one _) infoOpn ?_; intro w2 z2 g2 s2)
      | fail)
    refine bodyPost_ret (results_c1 rfl _ _ w.heap.size Opn.none_.vals (.bool false) _ rfl rfl z2.range Tryz.underlying112 rfl infoOpn) rfl ⟨rfl, v_below_g b1 g2 (by omega) (Nat.le_refl _)⟩
end Go.Proofs.YtlcegchdkigibaaGreatDoor

namespace Go.Proofs.YtlcegchdkigibaaGreatDoor
set_option linter.unusedVariables false
set_option linter.unusedSimpArgs false
set_option maxRecDepth 20000
open Go.RowKit Go.Lib

section
variable {base : Nat} {w w' : World} {lab ro : Nat → Nat} {cb lb : Nat} {c : Cv} {p : LP.Pm} {so sr sm n : Nat}
theorem dial_mid {w2 w3 w4 w5 : World} {ow ot : Int} {s : LF.Sh} {x : LF.F} (Z2 : Wz base w2 lab ro cb c p so sr sm n []) (hb : base ≤ w2.heap.size) (N : NewLegP w2 cb c ow ot lb w3) (b4 : Below w3.heap.size w3 w4) (f5 : LF.Fl w4.heap.size w5 s x) (b5 : Below w4.heap.size w4 w5) :
    Wz base ((w5.setCell ⟨lb, 0, none⟩ (cptr s.fb)).setCell ⟨lb, 5, none⟩ (.int .i64 1)) lab ro cb { c with md := c.md + 1 } p so sr sm n [] ∧
      Beside base ((w5.setCell ⟨lb, 0, none⟩ (cptr s.fb)).setCell ⟨lb, 5, none⟩ (.int .i64 1)) lab ro lb { Lc.new ow ot c.md with fl := cptr s.fb, aw := 1 } s x ∧ Below base w2 ((w5.setCell ⟨lb, 0, none⟩ (cptr s.fb)).setCell ⟨lb, 5, none⟩ (.int .i64 1)) := by
  obtain ⟨hlb, L3, C3, k3⟩ := N
  have hcb := Z2.ca.lt
  have s3 := k3.size
  have s4 := b4.size
  have s5 := b5.size
  have hl3 := L3.lt
  have hlr : ro lb = 0 ∧ lab lb = 0 := ⟨Z2.new_ro (by omega), Z2.new_lab (by omega)⟩
  have Z3 : Wz base w3 lab ro cb { c with md := c.md + 1 } p so sr sm n [] := Z2.own k3 (fun g e => .inl e) C3 rfl rfl rfl rfl
  have Z5 := (Z3.below b4).below b5
  have L5 := (L3.below b4).below b5
  have c6 : Ch w5 ((w5.setCell ⟨lb, 0, none⟩ (cptr s.fb)).setCell ⟨lb, 5, none⟩ (.int .i64 1)) (fun k => k = lb) := ((Ch.refl w5 (fun k => k = lb)).setCell (p := ⟨lb, 0, none⟩) (fun _ => rfl) _).setCell (p := ⟨lb, 5, none⟩) (fun _ => rfl) _
  have L6 : La ((w5.setCell ⟨lb, 0, none⟩ (cptr s.fb)).setCell ⟨lb, 5, none⟩ (.int .i64 1)) lb { Lc.new ow ot c.md with fl := cptr s.fb, aw := 1 } :=
    (L5.set 0 (cptr s.fb) { Lc.new ow ot c.md with fl := cptr s.fb } rfl).set 5 (.int .i64 1) _ rfl
  have hsT : ∀ g, s.T g → w4.heap.size ≤ g := fun g hg => (f5.in_ hg).1
  refine ⟨Z5.frame c6 (fun g e => by subst e; exact hlr), ⟨L6, by omega, rfl, (f5.mono (by omega)).frame c6 (fun g hg e => by have := hsT g hg; omega), hlr, fun g hg => ?_⟩, ?_⟩
  · have := hsT g hg
    exact ⟨⟨Z2.new_ro (by omega), Z2.new_lab (by omega)⟩, by omega⟩
  · have C : Ch w2 _ (fun k => base ≤ k) := (k3.mono (fun k _ e => by subst e; exact (Z2.ds _ (by rw [Z2.rc]; decide)).2.1)).then_ ((Ch.of_below (fun k => base ≤ k) b4).then_ ((Ch.of_below (fun k => base ≤ k) b5).then_ (c6.mono (fun k _ e => by omega))))
    exact ⟨C.os, C.tape, C.output, C.size, fun k hk => C.block k (by omega) (by omega)⟩
end
/-- A connection that just dialed, as it stands. -/
structure Dialed (z : Zc) (key i j : Nat) (op tp t : Int) : Prop where
  to_ : ∃ sb rb pb wb v v' s iss fin ov dv so sr sm, iss < 4294967296 ∧ z = Zc.armed ⟨{ Cv.fresh key op tp t sb rb pb wb with md := 1, lv := v, sv := v' }, { Lc.new (i : Int) (j : Int) 0 with fl := cptr (LF.Sh.fb s), aw := 1, he := Opn.capable key }, s.quiet, (LF.F.dial iss t).quiet, 0, [], [synSg (i : Int) (j : Int) op tp iss 0 false fin false ov dv], LP.Pm.new i j (LP.most 8), so, sr, sm⟩
def DialP (w : World) (key i j : Nat) (op tp t : Int) (e : Ending) (w' : World) : Prop :=
  ∃ base lab ro cb lb z, e = .returned (.tuple #[cptr cb, .int .i64 0]) ∧ Wo base w' lab ro cb lb z ∧ Dialed z key i j op tp t ∧ w.heap.size ≤ base ∧ Below w.heap.size w w'
theorem calm_dial {key i j : Nat} {op tp t : Int} (ht : 0 ≤ t ∧ t ≤ 1048560) (sb rb pb wb iss : Nat) (v v' : Value) (fb : Value) (he : Opn) (s : LF.Sh) (g : List Sgc) (p : LP.Pm) (so sr sm : Nat) :
    Calm ⟨{ Cv.fresh key op tp t sb rb pb wb with md := 1, lv := v, sv := v' }, { Lc.new (i : Int) (j : Int) 0 with fl := fb, aw := 1, he := he }, s, (LF.F.dial iss t).quiet, 0, [], g, p, so, sr, sm⟩ := by
  refine ⟨rfl, rfl, rfl, rfl, rfl, rfl, rfl, rfl, ?_, ?_, ?_, ?_, ?_, ?_, ?_, ?_, ?_, ?_, ?_⟩
  · show (1 : Nat) ≤ _
    omega
  · intro k hk
    have hk : k ∈ [LF.sK.at iss] := hk
    obtain rfl : k = _ := by simpa using hk
    exact Nat.zero_le _
  · show -9223372036854775808 ≤ LF.Es.told LF.Es.zero ∧ LF.Es.told LF.Es.zero ≤ 9223372036854775807
    decide
  · show (-9223372036854775808 : Int) ≤ 0 ∧ (0 : Int) ≤ 9223372036854775807
    decide
  · intro p hp; cases hp
  · exact Nat.zero_le _
  · exact ⟨ht.1, by show t ≤ _; omega⟩
  · show 0 ≤ t ∧ t ≤ 1048576
    omega
  · show (0 : Int) < 4 ∧ (4 : Int) ≤ 16
    omega
  · exact Nat.zero_le _
  · show snc t (t + 4) ≤ ((0 : Nat) : Int) + 4096
    unfold snc
    split <;> omega
theorem bare_of {i j : Nat} {op tp : Int} (hi : i < 4) (hj : j < 4) (h1 : 0 ≤ op ∧ op ≤ 65535) (h2 : 0 ≤ tp ∧ tp ≤ 65535) : bareB (i : Int) (j : Int) op tp = true := by
  unfold bareB inBc
  simp only [List.all_cons, List.all_nil, Bool.and_true, Bool.and_eq_true, decide_eq_true_eq]
  omega
theorem Ch.below_of {a b : World} {cb B : Nat} (c : Ch a b (fun k => k = cb)) (h : B ≤ cb) (hs : B ≤ a.heap.size) : Below B a b :=
  ⟨c.os, c.tape, c.output, c.size, fun k hk => c.block k (by omega) (by omega)⟩
theorem dial_ol {base : Nat} {w : World} {s : LF.Sh} {iss : Nat} {t : Int} (h : LF.Fl base w s (LF.F.dial iss t)) : ∃ o, s.ol = [o] ∧ o.p.syn = true ∧ o.p.ds = [] ∧ o.p.seq = iss ∧ o.ack = 0 ∧ o.acks = false ∧ o.rst = false := by
  have h1 : s.ol.map LF.Oc.key = [⟨LF.sK.at iss, 0, false, false⟩] := h.os
  cases hs : s.ol with
  | nil => rw [hs] at h1; cases h1
  | cons o r =>
    rw [hs, List.map_cons] at h1
    injection h1 with h1 h2
    have hr : r = [] := by simpa using h2
    subst hr
    unfold LF.Oc.key at h1
    injection h1 with h3 h4 h5 h6
    unfold LF.Pc.key LF.Ky.at LF.sK at h3
    injection h3 with e1 e2 e3 e4 e5 e6
    exact ⟨o, rfl, e2, e6, e1, h4, h5, h6⟩
set_option maxHeartbeats 6400000 in
theorem Dial_any {w : World} {key i j : Nat} {op tp t : Int} (hk : key < 18446744073709551616) (hi : i < 4) (hj : j < 4) (h1 : 0 ≤ op ∧ op ≤ 65535) (h2 : 0 ≤ tp ∧ tp ≤ 65535) (ht : 0 ≤ t ∧ t ≤ 1048560) (hT : LK.Tab w) :
    Calls Tryz.prog 34 #[.int .u64 (key : Int), .agg #[.int .i64 (i : Int), .int .i64 (j : Int), .int .i64 op, .int .i64 tp], .int .i64 t] w (DialP w key i j op tp t) := by
  have HR := Lib.hid (fun W => RightBare_yes ⟨(i : Int), (j : Int), op, tp, 0, 0, false, false, false, false, 0, .slice none 0 0, .slice none 0 0⟩ rfl rfl rfl (bare_of hi hj h1 h2) W)
  have HWI := Lib.hid (fun W => without_any key i j op tp t hi hj W)
  have HNL := Lib.hid (fun (W : World) (cb : Nat) (c : Cv) (h : Ca W cb c) (hm : c.md = 0) => newLeg_any h (by omega) (i : Int) (j : Int))
  have HDR := Lib.hid (fun (W : World) (cb lb : Nat) (c : Cv) (l : Lc) (h : Ca W cb c) (hl : La W lb l) (hc : c.key = key) (hn : l.nm = 0) (hT : LK.Tab W) => drawn_any h hl (by omega) (by omega) 0 (by decide) hT)
  have HTB := Lib.hid hT
  have HTT := Lib.hid ht
  unfold Sgc.vals at HR
  dsimp only at HR
  clear hk hi hj h1 h2 hT ht
  unfold cptr at HWI HNL HDR
  go_enter Tryz.func34, Tryz.ntmps34
  go_wp2_with (first
    | ((with_reducible refine wpList_here ?_); refine wpList_boxV (o := ⟨some 4, _, _, _, _, _⟩) rfl 69 (.tmp 1) rfl [.int .i64 (i : Int), .int .i64 (j : Int), .int .i64 op, .int .i64 tp] rfl _ rfl ?_; intro w0 z0 b0 s0; have x0 : w0.cell? ⟨w.heap.size, 0, none⟩ = some (.int .i64 (i : Int)) := (z0 0 (by simp)).1; have x1 : w0.cell? ⟨w.heap.size, 1, none⟩ = some (.int .i64 (j : Int)) := (z0 1 (by simp)).1; have x2 : w0.cell? ⟨w.heap.size, 2, none⟩ = some (.int .i64 op) := (z0 2 (by simp)).1; have x3 : w0.cell? ⟨w.heap.size, 3, none⟩ = some (.int .i64 tp) := (z0 3 (by simp)).1)
    | fail)
  refine (HR.out _).mono ?_
  rintro e w1 ⟨rfl, b1⟩
  have z1 := z0.below b1
  have B1 := Lib.hid (below_trans b0 b1)
  have hw1 : w.heap.size < w1.heap.size := by have := b1.size; omega
  have r1 := z1.range
  clear z0 b0 b1 s0 x0 x1 x2 x3 HR
  go_wp2_with (first
    | ((with_reducible refine wpList_here ?_); refine wpList_loadV (o := ⟨some 22, _, _, _, _, _⟩) rfl 69 (.tmp 4) rfl w.heap.size 0 [.int .i64 (i : Int), .int .i64 (j : Int), .int .i64 op, .int .i64 tp] rfl r1 _ Tryz.underlying69 rfl (by kernel_rfl) ?_)
    | fail)
  refine (HWI.out _).mono ?_
  rintro e w2 ⟨cb, rfl, hcb, lab, ro, sb, rb, pb, wb, so, sr, sm, Z2, _, b2⟩
  have z2 := z1.below b2
  have x0 : w2.cell? ⟨w.heap.size, 0, none⟩ = some (.int .i64 (i : Int)) := (z2 0 (by simp)).1
  have x1 : w2.cell? ⟨w.heap.size, 1, none⟩ = some (.int .i64 (j : Int)) := (z2 1 (by simp)).1
  have HZ2 := Lib.hid Z2
  have B2 := Lib.hid (B1.out.trans (b2.mono B1.out.size))
  have HB2 := Lib.hid b2.size
  have HNL1 := Lib.hid (HNL.out w2 cb _ Z2.ca rfl)
  have HCB : Hid (w1.heap.size ≤ cb) := Lib.hid hcb
  clear z1 r1 z2 Z2 b2 HWI HNL hcb
  go_wp2_with fail
  refine HNL1.out.mono ?_
  rintro e w3 ⟨lb, rfl, N3⟩
  have HN3 := Lib.hid N3
  have B3 : Hid (Below w.heap.size w w3) := Lib.hid (B2.out.trans (N3.2.2.2.below_of (by have := HCB.out; omega) B2.out.size))
  have HDR1 := Lib.hid (HDR.out w3 cb lb _ _ N3.2.2.1 N3.2.1 rfl rfl (HTB.out.below (w' := w3) ⟨B3.out.os, B3.out.tape, B3.out.output, B3.out.size, B3.out.block⟩))
  clear N3 HDR HNL1 x0 x1
  go_wp2_with fail
  refine HDR1.out.mono ?_
  rintro e w4 ⟨⟨iss, hiss, rfl⟩, b4⟩
  have HB4 := Lib.hid b4
  have HI := Lib.hid hiss
  have HFD := Lib.hid (LF.Dial_any iss t w4 hiss (by have := HTT.out; constructor <;> omega))
  unfold LF.MadeF LF.ptr at HFD
  clear b4 hiss HDR1
  go_wp2_with fail
  refine HFD.out.mono ?_
  rintro e w5 ⟨s, rfl, f5, b5⟩
  obtain ⟨o, ho1, ho2, ho3, ho4, ho5, ho6, ho7⟩ := dial_ol f5
  have L5 := (HN3.out.2.1.below HB4.out).below b5
  have c0 : w5.cell? ⟨lb, 0, none⟩ = some (.pointer none) := L5.fl_
  have c5 : w5.cell? ⟨lb, 5, none⟩ = some (.int .i64 0) := L5.aw_
  have f0 := L5.fz 0
  have f5' := L5.fz 5
  obtain ⟨Z6, B6, BB6⟩ := dial_mid HZ2.out HB2.out HN3.out HB4.out f5 b5
  have HS := Lib.hid (start_any (Opn.capable key) Z6 (by have := BB6.size; have := HB2.out; omega) B6 rfl rfl ho1 ho2 ho3 (fun v v' g => calm_dial HTT.out sb rb pb wb iss v v' _ _ _ _ _ _ _ _) t)
  have HBB := Lib.hid BB6
  have HO := Lib.hid (And.intro ho4 (And.intro ho5 (And.intro ho6 ho7)))
  rw [show (Opn.capable key).vals.toArray = #[.int .i64 1, .int .u64 (key : Int), .int .u64 0, .int .u32 0, .int .u32 0, .int .i64 0, .int .i64 0, .bool false, .bool false, .int .i64 0, .bool false, .int .i64 0, .int .i64 0, .bool false] from rfl] at HS
  unfold cptr at HS
  have HBB2 : Hid (Below w.heap.size w ((w5.setCell ⟨lb, 0, none⟩ (cptr s.fb)).setCell ⟨lb, 5, none⟩ (.int .i64 1))) := Lib.hid (B2.out.trans (HBB.out.mono B1.out.size))
  unfold cptr at HBB2
  clear f5 b5 ho1 ho2 ho3 ho4 ho5 ho6 ho7 L5 Z6 B6 BB6 HFD HBB
  go_wp2_with fail
  refine HS.out.mono ?_
  rintro e w7 ⟨rfl, lab7, ro7, v7, v7', ov, dv, Z7, b7⟩
  have HQ : Hid (DialP w key i j op tp t (.returned (.tuple #[.pointer (some ⟨cb, 0, none⟩), .int .i64 0])) w7) := Lib.hid (by
    rw [HO.out.1, HO.out.2.1, HO.out.2.2.1, HO.out.2.2.2] at Z7
    exact ⟨w1.heap.size, lab7, ro7, cb, lb, _, rfl, Z7, ⟨⟨sb, rb, pb, wb, v7, v7', s, iss, _, ov, dv, so, sr, sm, HI.out, rfl⟩⟩, B1.out.size, HBB2.out.trans (b7.mono B1.out.size)⟩)
  clear Z7 b7 HS
  go_wp2_with fail
  go_ret2
  exact HQ.out
end Go.Proofs.YtlcegchdkigibaaGreatDoor

namespace Go.Proofs.YtlcegchdkigibaaGreatDoor
set_option linter.unusedVariables false
set_option linter.unusedSimpArgs false
set_option maxRecDepth 20000
open Go.RowKit Go.Lib

section
variable {base : Nat} {w w' : World} {lab ro : Nat → Nat} {cb lb : Nat} {z : Zc}
/-- What waited was taken. -/
def Zc.took (z : Zc) : Zc := { z with c := { z.c with sv := .slice none 0 0 }, g := [] }
theorem Wo.took (h : Wo base w lab ro cb lb z) : Wo base (w.setCell ⟨cb, 24, none⟩ (.slice none 0 0)) lab ro cb lb z.took ∧ Fx lab ro w lab ro (w.setCell ⟨cb, 24, none⟩ (.slice none 0 0)) := by
  have c : Ch w (w.setCell ⟨cb, 24, none⟩ (.slice none 0 0)) (fun k => k = cb) := (Ch.refl w (fun k => k = cb)).setCell (p := ⟨cb, 24, none⟩) (fun _ => rfl) _
  have hd : ∀ g d, d ≠ 1 → ro g = d → ¬ (g = cb) := fun g d hd e k => hd (by rw [← e, k]; exact h.rc)
  refine ⟨⟨h.ca.set 24 _ _ rfl, h.rc, h.la.ch c (hd _ 2 (by decide) h.rl), h.rl, h.fe, h.fl.frame c (fun g hg => hd _ 3 (by decide) (h.rf g hg)), h.rf,
    h.sn.ch c (hd _ 4 (by decide) h.rs.1) (hd _ 4 (by decide) h.rs.2), h.rs, h.rn.ch c (hd _ 5 (by decide) h.rr.1) (hd _ 5 (by decide) h.rr.2.1) (hd _ 5 (by decide) h.rr.2.2), h.rr, h.pa.ch c (hd _ 6 (by decide) h.rp), h.rp, own_ch2 h.lv c (fun g hg => hd _ 7 (by decide) (h.rv g hg)), h.rv,
    World.ownsRow_nil _ _ _ _, (fun g hg => by cases hg), (fun q hq => by cases hq), h.wh.ch (lwch c) (fun k hk => by subst hk; exact (h.ds _ (by rw [h.rc]; decide)).1), fun k hk => ⟨(h.ds k hk).1, (h.ds k hk).2.1, Nat.lt_of_lt_of_le (h.ds k hk).2.2 c.size⟩, h.wl⟩, c.mono (fun k _ e => .inr (by subst e; rw [h.rc]; decide)), fun k hk => ⟨rfl, rfl⟩⟩
theorem Out_any (h : Wo base w lab ro cb lb z) : Calls Tryz.prog 120 #[cptr cb] w fun e w' => e = .returned z.c.sv ∧ w' = w.setCell ⟨cb, 24, none⟩ (.slice none 0 0) := by
  have c1 := h.ca.sv_
  have f1 := h.ca.fz 24
  obtain ⟨A, n, hs, _, _⟩ := LF.own_slice h.sv
  rw [hs] at c1 ⊢
  clear h
  unfold cptr
  go_enter Tryz.func120, Tryz.ntmps120
  go_wp2_with fail
  go_ret
  exact ⟨rfl, rfl⟩
theorem OverNo_any (h : Wo base w lab ro cb lb z) (hs : z.c.st = 0) : Calls Tryz.prog 121 #[cptr cb] w fun e w' => e = .returned (.bool false) ∧ w' = w := by
  have c4 := h.ca.st_
  rw [hs] at c4
  clear h
  unfold cptr
  go_enter Tryz.func121, Tryz.ntmps121
  go_wp2_with fail
  go_ret
  exact ⟨rfl, rfl⟩
end
end Go.Proofs.YtlcegchdkigibaaGreatDoor

namespace Go.Proofs.YtlcegchdkigibaaGreatDoor
set_option linter.unusedVariables false
set_option linter.unusedSimpArgs false
set_option maxRecDepth 20000
open Go.RowKit Go.Lib

section
variable {B : Nat} {w w' : World} {hb mb : Nat} {h : Hv} {l : LT.Ents} {ps xs : List Nat} {m : Nat} {gs : List Value}
/-- Its row of segments grew. -/
theorem Hc.seg (s : Hc B w hb h mb l xs m gs) {w3 : World} {v9 : Value} {n : Nat} {ys : List Value} (g9 : w.grownBy w3 h.sv.ownBlock) (r9 : w3.ownsRow B 40 13 v9 n ys) : Hc B (w3.setCell ⟨hb, 8, none⟩ v9) hb { h with sv := v9 } mb l xs n ys ∧ Below B w (w3.setCell ⟨hb, 8, none⟩ v9) := by
  have c3 := grown_chv g9
  have hn : ∀ {b : Nat} {t : TypeId} {cs : Array Value}, w.heap[b]? = some (.cells cs t (0, 0)) → t ≠ 40 → ¬ h.sv.ownBlock = some b := fun k e hg => (ch_ownrow s.sw hg).elim fun ds hc => blk_ne k hc e rfl
  have ha3 := s.ha.ch c3 (hn s.ha (by decide))
  have tb3 : LT.Tb w3 h.tb mb 4 l := s.tb.ch c3 (hn s.tb.blk (by decide)) (fun hg => (ch_ownrow s.sw hg).elim fun ds hc => map_ne s.tb.map hc rfl)
  have hw3 := own_ch2 s.hw c3 (fun g hg => (ch_ownrow s.hw hg).elim fun ds hc => hn hc (by decide))
  have c4 : Ch w3 (w3.setCell ⟨hb, 8, none⟩ v9) (fun k => k = hb) := (Ch.refl w3 (fun k => k = hb)).setCell (p := ⟨hb, 8, none⟩) (fun _ => rfl) _
  have hm : ∀ {b : Nat} {t : TypeId} {cs : Array Value}, w3.heap[b]? = some (.cells cs t (0, 0)) → t ≠ 67 → ¬ b = hb := fun k e => blk_ne k ha3 e
  exact ⟨⟨ha3.set 8 v9 { h with sv := v9 } rfl, s.lo, tb3.ch c4 (hm tb3.blk (by decide)) (map_ne tb3.map ha3), s.tl, own_ch2 hw3 c4 (fun g hg => (ch_ownrow hw3 hg).elim fun ds hc => hm hc (by decide)), own_ch2 r9 c4 (fun g hg => (ch_ownrow r9 hg).elim fun ds hc => hm hc (by decide)), s.sm⟩,
    (chm_below c3 (fun k e _ => (own_in s.sw e).1) s.le).trans (chm_below c4 (fun k e _ => by subst e; exact s.lo) (Nat.le_trans s.le c3.size))⟩
/-- Its row of connections grew. -/
theorem Hc.grow (s : Hc B w hb h mb l xs m gs) {w3 : World} {v9 : Value} {ys : List Nat} (g9 : w.grownBy w3 h.hv.ownBlock) (r9 : w3.ownsRow B 77 1 v9 ys.length (ys.map cptr)) : Hc B (w3.setCell ⟨hb, 7, none⟩ v9) hb { h with hv := v9 } mb l ys m gs ∧ Below B w (w3.setCell ⟨hb, 7, none⟩ v9) := by
  have c3 := grown_chv g9
  have hn : ∀ {b : Nat} {t : TypeId} {cs : Array Value}, w.heap[b]? = some (.cells cs t (0, 0)) → t ≠ 77 → ¬ h.hv.ownBlock = some b := fun k e hg => (ch_ownrow s.hw hg).elim fun ds hc => blk_ne k hc e rfl
  have ha3 := s.ha.ch c3 (hn s.ha (by decide))
  have tb3 : LT.Tb w3 h.tb mb 4 l := s.tb.ch c3 (hn s.tb.blk (by decide)) (fun hg => (ch_ownrow s.hw hg).elim fun ds hc => map_ne s.tb.map hc rfl)
  have sw3 := own_ch2 s.sw c3 (fun g hg => (ch_ownrow s.sw hg).elim fun ds hc => hn hc (by decide))
  have c4 : Ch w3 (w3.setCell ⟨hb, 7, none⟩ v9) (fun k => k = hb) := (Ch.refl w3 (fun k => k = hb)).setCell (p := ⟨hb, 7, none⟩) (fun _ => rfl) _
  have hm : ∀ {b : Nat} {t : TypeId} {cs : Array Value}, w3.heap[b]? = some (.cells cs t (0, 0)) → t ≠ 67 → ¬ b = hb := fun k e => blk_ne k ha3 e
  exact ⟨⟨ha3.set 7 v9 { h with hv := v9 } rfl, s.lo, tb3.ch c4 (hm tb3.blk (by decide)) (map_ne tb3.map ha3), s.tl, own_ch2 r9 c4 (fun g hg => (ch_ownrow r9 hg).elim fun ds hc => hm hc (by decide)), own_ch2 sw3 c4 (fun g hg => (ch_ownrow sw3 hg).elim fun ds hc => hm hc (by decide)), s.sm⟩,
    (chm_below c3 (fun k e _ => (own_in s.hw e).1) s.le).trans (chm_below c4 (fun k e _ => by subst e; exact s.lo) (Nat.le_trans s.le c3.size))⟩
/-- The keys that were primed stay as the rows grow and its own cells turn. -/
theorem Pr.grown {v : Value} {e : TypeId} {size n : Nat} {u : Value} {ys : List Value} (p : Pr B w v ps) (o : w.ownsRow B e size u n ys) (he : e ≠ 22) {w3 : World} (g : w.grownBy w3 u.ownBlock) : Pr B w3 v ps :=
  p.ch (grown_chv g) (fun b cs k hg => (ch_ownrow o hg).elim fun ds hc => blk_ne k hc (fun x => he x.symm) rfl)
theorem full_any (s : Hc B w hb h mb l xs m gs) (hx : xs.length < 6) : Calls Tryz.prog 32 #[cptr hb] w fun e w' => e = .returned (.bool false) ∧ w' = w := by
  have c7 := s.ha.hv_
  obtain ⟨A, k, e, _, _⟩ := LF.own_slice s.hw
  rw [e] at c7
  have hx2 : ¬ (6 : Int) ≤ (xs.length : Int) := by omega
  clear s e hx
  generalize xs.length = n at *
  unfold cptr
  go_enter Tryz.func32, Tryz.ntmps32
  go_wp2_with fail
  go_ret
  exact ⟨rfl, rfl⟩
theorem undSg : Tryz.prog.underlying 53 = some (.slice 40) := by kernel_rfl
theorem infoSg : (Tryz.prog.info? 40).map (fun i => (i.zero, i.size, i.bytes)) = some (some (.agg zSg.vals.toArray), 13, 104) := by kernel_rfl
variable {base xb lb : Nat} {lab ro : Nat → Nat} {x : Xv} {z : Zc}
theorem Wo.sgs (k : Wo base w lab ro x.cb lb z) : ∀ u ∈ sgv z.g, u.oneCell' = true := by
  intro u hu
  obtain ⟨q, hq, hu⟩ := List.mem_flatMap.1 hu
  obtain ⟨h1, ob, h2, _, _⟩ := k.sg q hq
  exact sgc_one q ⟨_, _, _, h2⟩ h1 u hu
theorem Src.turn {A : Option Addr} {n c size : Nat} {ys : List Value} (k : Src w A n c size ys) {q : Nat → Prop} (c' : Ch w w' q) (hq : ∀ b o, A = some ⟨b, o, none⟩ → ¬ q b) : Src w' A n c size ys :=
  ⟨k.1, k.2.1, k.2.2.1, k.2.2.2.1, fun hn => by
    obtain ⟨b, o, e, hr⟩ := k.2.2.2.2 hn
    exact ⟨b, o, e, fun j u hu => c'.cell (hr j u hu) (hq b o e)⟩⟩
def Clear (lab ro : Nat → Nat) (v : Value) : Prop := ∀ g, v.ownBlock = some g → ro g = 0 ∧ lab g = 0
/-- What settle leaves. -/
def SettleP (B : Nat) (w : World) (hb : Nat) (h : Hv) (mb : Nat) (l : LT.Ents) (ps xs : List Nat) (m : Nat) (gs : List Value) (xb : Nat) (x : Xv) (base : Nat) (lab ro : Nat → Nat) (lb : Nat) (z : Zc) (w' : World) : Prop :=
  ∃ v, Hs B w' hb { h with sv := v } mb l ps xs (m + z.g.length) (gs ++ sgv z.g) ∧ Xa w' xb x ∧ Wo base w' lab ro x.cb lb z.took ∧ Clear lab ro v ∧ (Below B w w' ∧ Ch w w' (fun g => g = hb ∨ g = x.cb ∨ h.sv.ownBlock = some g))
theorem settle_done {w1 w3 : World} {v9 : Value} (s : Hs B w hb h mb l ps xs m gs) (xa : Xa w xb x) (k : Wo base w lab ro x.cb lb z) (f1 : ro hb = 0 ∧ lab hb = 0) (f2 : Clear lab ro h.sv) (hB : B ≤ x.cb) (b1 : Below w.heap.size w w1)
    (r9 : w3.ownsRow B 40 13 v9 (m + z.g.length) (gs ++ sgv z.g)) (g9 : (w1.setCell ⟨x.cb, 24, none⟩ (.slice none 0 0)).grownBy w3 h.sv.ownBlock) (o9 : v9.ownBlock = h.sv.ownBlock ∨ v9.ownBlock = some (w1.setCell ⟨x.cb, 24, none⟩ (.slice none 0 0)).heap.size) :
    SettleP B w hb h mb l ps xs m gs xb x base lab ro lb z (w3.setCell ⟨hb, 8, none⟩ v9) := by
  have s1 := s.below b1
  have k1 := k.below b1
  have c2 : Ch w1 (w1.setCell ⟨x.cb, 24, none⟩ (.slice none 0 0)) (fun j => j = x.cb) := (Ch.refl w1 (fun j => j = x.cb)).setCell (p := ⟨x.cb, 24, none⟩) (fun _ => rfl) _
  have s2 := s1.c.other c2 (t := 136) (fun g e _ => by subst e; exact ⟨_, k1.ca⟩) (by decide)
  have p2 := s1.pr.ch c2 (fun g cs hg => blk_ne hg k1.ca (by decide))
  have x2 := (xa.below b1).ch c2 (blk_ne (xa.below b1) k1.ca (by decide))
  have k2 := k1.took.1
  generalize w1.setCell ⟨x.cb, 24, none⟩ (.slice none 0 0) = w2 at *
  have c3 := grown_chv g9
  obtain ⟨s4, b4⟩ := s2.seg g9 r9
  have p3 := p2.grown s2.sw (by decide) g9
  have x3 := x2.ch c3 (fun hg => (ch_ownrow s2.sw hg).elim fun ds hc => blk_ne x2 hc (by decide) rfl)
  have k3 := k2.frame c3 (fun g e => f2 g e)
  have c4 : Ch w3 (w3.setCell ⟨hb, 8, none⟩ v9) (fun j => j = hb) := (Ch.refl w3 (fun j => j = hb)).setCell (p := ⟨hb, 8, none⟩) (fun _ => rfl) _
  have ha3 : Ha w3 hb h := s2.ha.ch c3 (fun hg => (ch_ownrow s2.sw hg).elim fun ds hc => blk_ne s2.ha hc (by decide) rfl)
  refine ⟨v9, ⟨s4, p3.own ha3 c4⟩, x3.ch c4 (blk_ne x3 ha3 (by decide)), k3.frame c4 (fun g e => by subst e; exact f1), fun g hg => ?_, ((b1.mono s.c.le).trans (chm_below c2 (fun j e _ => by subst e; exact hB) s1.c.le)).trans b4, (((Ch.of_below _ b1).then_ ((c2.mono (fun j _ e => .inr (.inl e))))).then_ (c3.mono (fun j _ e => .inr (.inr e)))).then_ (c4.mono (fun j _ e => .inl e))⟩
  rcases o9 with e | e
  · exact f2 g (e ▸ hg)
  · rw [e] at hg
    injection hg with hg
    subst hg
    exact ⟨k2.new_ro (Nat.le_refl _), k2.new_lab (Nat.le_refl _)⟩
set_option maxHeartbeats 6400000 in
theorem settleNo_any (s : Hs B w hb h mb l ps xs m gs) (hm : m ≤ 1000) (xa : Xa w xb x) (k : Wo base w lab ro x.cb lb z) (hst : z.c.st = 0) (hgl : z.g.length ≤ 100) (f1 : ro hb = 0 ∧ lab hb = 0) (f2 : Clear lab ro h.sv) (hB : B ≤ x.cb) :
    Calls Tryz.prog 75 #[cptr hb, cptr xb] w fun e w' => e = .returned (.tuple #[]) ∧ SettleP B w hb h mb l ps xs m gs xb x base lab ro lb z w' := by
  have HS := Lib.hid s
  have HX := Lib.hid xa
  have HK := Lib.hid k
  have HM := Lib.hid hm
  have HG := Lib.hid hgl
  have HST := Lib.hid hst
  have HF := Lib.hid (And.intro f1 (And.intro f2 hB))
  obtain ⟨A, kk, hsv, _, _⟩ := LF.own_slice s.c.sw
  obtain ⟨As, ks, hcs, _, _⟩ := LF.own_slice k.sv
  have HSV := Lib.hid hsv
  have HCS := Lib.hid hcs
  have hlt := s.c.lt
  have hxl := xa.lt
  have hne1 : hb ≠ x.cb := blk_ne s.c.ha k.ca (by decide)
  have hne2 : xb ≠ x.cb := blk_ne xa k.ca (by decide)
  clear s xa k hm hst hgl f1 f2 hB hsv hcs
  obtain ⟨cb, hcb⟩ : ∃ y, y = x.cb := ⟨_, rfl⟩
  rw [← hcb] at hne1 hne2
  have HCB := Lib.hid hcb
  clear hcb
  unfold cptr at *
  go_enter Tryz.func75, Tryz.ntmps75
  go_wp2_with fail
  have hb1 : Below w.heap.size w (w.alloc (.cells #[.pointer (some ⟨xb, 0, none⟩)] 77)) := below_a w _
  have hn1 : (w.alloc (.cells #[.pointer (some ⟨xb, 0, none⟩)] 77)).cell? ⟨w.heap.size, 0, none⟩ = some (.pointer (some ⟨xb, 0, none⟩)) := cell_new w _ _
  have hz1 : (w.alloc (.cells #[.pointer (some ⟨xb, 0, none⟩)] 77)).heap.size = w.heap.size + 1 := by simp
  have hN1 := heap_alloc_new w (.cells #[.pointer (some ⟨xb, 0, none⟩)] 77)
  generalize w.alloc (.cells #[.pointer (some ⟨xb, 0, none⟩)] 77) = w1 at *
  obtain ⟨nb, hnb⟩ : ∃ y, y = w.heap.size := ⟨_, rfl⟩
  rw [← hnb] at hn1 hz1 hN1
  have HNB := Lib.hid hnb
  replace hb1 : Below w.heap.size w w1.drew := hb1.drew
  replace hn1 : w1.drew.cell? ⟨nb, 0, none⟩ = some (.pointer (some ⟨xb, 0, none⟩)) := hn1
  replace hz1 : w1.drew.heap.size = nb + 1 := hz1
  replace hN1 : w1.drew.heap[nb]? = some (.cells #[.pointer (some ⟨xb, 0, none⟩)] 77 (0, 0)) := hN1
  generalize hwd : w1.drew = wd at *
  simp only [← hnb]
  have HB1 := Lib.hid hb1
  have e0 : wd.cell? ⟨hb, 8, none⟩ = some (.slice A m kk) ∧ wd.cell? ⟨nb, 0, none⟩ = some (.pointer (some ⟨xb, 0, none⟩)) ∧ wd.cell? ⟨xb, 0, none⟩ = some (.pointer (some ⟨cb, 0, none⟩)) := by
    have h8 := (HS.out.c.ha.below hb1).sv_
    have hx := (HX.out.below hb1).cb_
    rw [HSV.out] at h8
    rw [← HCB.out] at hx
    exact ⟨h8, hn1, hx⟩
  have HO := Lib.hid (Out_any (HK.out.below hb1))
  rw [← HCB.out, HCS.out] at HO
  have hnc : nb ≠ cb := fun e => by
    have h1 := (HK.out.below hb1).ca
    rw [← HCB.out] at h1
    exact blk_ne hN1 h1 (by decide) e
  have HSR := Lib.hid (Src.of_own (HCS.out ▸ HK.out.sv) HK.out.sgs).1
  have HSQ : Hid (∀ b o, As = some ⟨b, o, none⟩ → ¬ b = cb) := Lib.hid (fun b o e hg => by
    have h8 := HK.out.rg b (by rw [HCS.out, e]; rfl)
    rw [hg, HCB.out, HK.out.rc] at h8
    cases h8)
  unfold cptr at *
  clear hb1 hn1 hlt hxl hnb
  refine until_start (fun W => W.cell? ⟨hb, 8, none⟩ = some (.slice A m kk) ∧ W.cell? ⟨nb, 0, none⟩ = some (.pointer (some ⟨xb, 0, none⟩)) ∧ W.cell? ⟨xb, 0, none⟩ = some (.pointer (some ⟨cb, 0, none⟩))) 13 (by kernel_rfl) (by rw [hwd]; exact e0) (fun _ => ?_)
  rw [hwd]
  clear hwd
  refine until_take (i := 0) (v := .pointer (some ⟨hb, 0, none⟩)) (some 6) [13] rfl rfl (by kernel_rfl) (by kernel_rfl) (by kernel_rfl) (by kernel_rfl) rfl rfl (fun _ _ _ h => h) (Or.inl ⟨by rfl, fun W hW => by go_simp⟩) e0 ?_
  simp only [Act.put, List.setIfInBounds_toArray, List.set_cons_zero, List.set_cons_succ]
  refine until_take (i := 1) (v := .pointer (some ⟨hb, 0, none⟩)) (some 7) [13] rfl rfl (by kernel_rfl) (by kernel_rfl) (by kernel_rfl) (by kernel_rfl) rfl rfl (fun _ _ _ h => h) (Or.inl ⟨by rfl, fun W hW => by go_simp⟩) e0 ?_
  simp only [Act.put, List.setIfInBounds_toArray, List.set_cons_zero, List.set_cons_succ]
  refine until_take (i := 5) (v := .pointer (some ⟨xb, 0, none⟩)) (some 11) [13] rfl rfl (by kernel_rfl) (by kernel_rfl) (by kernel_rfl) (by kernel_rfl) rfl rfl (fun _ _ _ h => h) (Or.inl ⟨by rfl, fun W hW => by have hc := hW.2.1; go_simp⟩) e0 ?_
  simp only [Act.put, List.setIfInBounds_toArray, List.set_cons_zero, List.set_cons_succ]
  refine until_take (i := 2) (v := .pointer (some ⟨hb, 0, none⟩)) (some 8) [13] rfl rfl (by kernel_rfl) (by kernel_rfl) (by kernel_rfl) (by kernel_rfl) rfl rfl (fun _ _ _ h => h) (Or.inl ⟨by rfl, fun W hW => by go_simp⟩) e0 ?_
  simp only [Act.put, List.setIfInBounds_toArray, List.set_cons_zero, List.set_cons_succ]
  refine until_take (i := 6) (v := .pointer (some ⟨xb, 0, none⟩)) (some 12) [13] rfl rfl (by kernel_rfl) (by kernel_rfl) (by kernel_rfl) (by kernel_rfl) rfl rfl (fun _ _ _ h => h) (Or.inl ⟨by rfl, fun W hW => by go_simp⟩) e0 ?_
  simp only [Act.put, List.setIfInBounds_toArray, List.set_cons_zero, List.set_cons_succ]
  refine until_take (i := 3) (v := .pointer (some ⟨hb, 8, none⟩)) (some 9) [13] rfl rfl (by kernel_rfl) (by kernel_rfl) (by kernel_rfl) (by kernel_rfl) rfl rfl (fun _ _ _ h => h) (Or.inl ⟨by rfl, fun W hW => by go_simp⟩) e0 ?_
  simp only [Act.put, List.setIfInBounds_toArray, List.set_cons_zero, List.set_cons_succ]
  refine until_take (i := 7) (v := .pointer (some ⟨xb, 0, none⟩)) (some 13) [13] rfl rfl (by kernel_rfl) (by kernel_rfl) (by kernel_rfl) (by kernel_rfl) rfl rfl (fun _ _ _ h => h) (Or.inl ⟨by rfl, fun W hW => by go_simp⟩) e0 ?_
  simp only [Act.put, List.setIfInBounds_toArray, List.set_cons_zero, List.set_cons_succ]
  refine until_take (i := 4) (v := .slice A m kk) (some 10) [13] rfl rfl (by kernel_rfl) (by kernel_rfl) (by kernel_rfl) (by kernel_rfl) rfl rfl (fun _ _ _ h => h) (Or.inl ⟨by rfl, fun W hW => by have hc := hW.1; go_simp⟩) e0 ?_
  simp only [Act.put, List.setIfInBounds_toArray, List.set_cons_zero, List.set_cons_succ]
  refine until_take (i := 8) (v := .pointer (some ⟨cb, 0, none⟩)) (some 14) [13] rfl rfl (by kernel_rfl) (by kernel_rfl) (by kernel_rfl) (by kernel_rfl) rfl rfl (fun _ _ _ h => h) (Or.inl ⟨by rfl, fun W hW => by have hc := hW.2.2; go_simp⟩) e0 ?_
  simp only [Act.put, List.setIfInBounds_toArray, List.set_cons_zero, List.set_cons_succ]
  refine until_step (i := 9) (by kernel_rfl) rfl rfl (fun K hK => ?_)
  go_simp
  go_at_call 120
  refine HO.out.mono ?_
  rintro e w2 ⟨rfl, hw2⟩
  have c2 : Ch wd w2 (fun j => j = cb) := by rw [hw2]; exact (Ch.refl wd (fun j => j = cb)).setCell (p := ⟨cb, 24, none⟩) (fun _ => rfl) _
  have e2 : w2.cell? ⟨hb, 8, none⟩ = some (.slice A m kk) ∧ w2.cell? ⟨nb, 0, none⟩ = some (.pointer (some ⟨xb, 0, none⟩)) ∧ w2.cell? ⟨xb, 0, none⟩ = some (.pointer (some ⟨cb, 0, none⟩)) := ⟨c2.cell e0.1 hne1, c2.cell e0.2.1 hnc, c2.cell e0.2.2 hne2⟩
  have HW2 := Lib.hid hw2
  have HC2 := Lib.hid c2
  clear hw2 c2
  refine hK.out _ _ e2 (fun _ => ?_)
  clear hK
  try simp only [Act.put, List.setIfInBounds_toArray, List.set_cons_zero, List.set_cons_succ]
  refine until_step (i := 10) (by kernel_rfl) rfl rfl (fun K hK => ?_)
  refine step_appG rfl (.tmp 10) (.tmp 15) 53 40 rfl (.agg zSg.vals.toArray) 13 104 undSg infoSg rfl (by decide) (by decide) B h.sv m gs (by rw [HSV.out]; rfl) (own_ch2 (HS.out.c.below HB1.out).sw HC2.out (fun g hg => (ch_ownrow (HS.out.c.below HB1.out).sw hg).elim fun ds hc => by have h1 := (HK.out.below HB1.out).ca; rw [← HCB.out] at h1; exact blk_ne hc h1 (by decide))) As z.g.length ks (sgv z.g) rfl ((HSR.out.below HB1.out).turn HC2.out HSQ.out) (by have := HM.out; have := HG.out; omega) (by have := HS.out.c.le; have := HB1.out.size; have := HC2.out.size; omega) ?_
  intro v9 w3 r9 g9 o9
  have HD := Lib.hid (settle_done HS.out HX.out HK.out HF.out.1 HF.out.2.1 HF.out.2.2 HB1.out r9 (by rw [← HCB.out, ← HW2.out]; exact g9) (by rw [← HCB.out, ← HW2.out]; exact o9))
  have hq : ∀ {b : Nat} {t : TypeId} {cs : Array Value}, w2.heap[b]? = some (.cells cs t (0, 0)) → t ≠ 40 → ¬ h.sv.ownBlock = some b := fun k e hg => (ch_ownrow HS.out.c.sw hg).elim fun ds hc => blk_ne k ((HC2.out.block _ (by have := (own_in HS.out.c.sw hg).2; have := HB1.out.size; omega) (by have h1 := (HK.out.below HB1.out).ca; rw [← HCB.out] at h1; exact blk_ne ((HB1.out.block _ (own_in HS.out.c.sw hg).2).trans hc) h1 (by decide))).trans ((HB1.out.block _ (own_in HS.out.c.sw hg).2).trans hc)) e rfl
  have c9 := grown_chv g9
  have ha2 : Ha w2 hb h := (HS.out.c.ha.below HB1.out).ch HC2.out hne1
  have xa2 : Xa w2 xb x := (HX.out.below HB1.out).ch HC2.out hne2
  have hN2 := (HC2.out.block nb (by omega) hnc).trans hN1
  have e9 : w3.cell? ⟨hb, 8, none⟩ = some (.slice A m kk) ∧ w3.cell? ⟨nb, 0, none⟩ = some (.pointer (some ⟨xb, 0, none⟩)) ∧ w3.cell? ⟨xb, 0, none⟩ = some (.pointer (some ⟨cb, 0, none⟩)) := ⟨c9.cell e2.1 (hq ha2 (by decide)), c9.cell e2.2.1 (fun hg => by have h1 : nb < w.heap.size := (own_in HS.out.c.sw hg).2; have := HNB.out; omega), c9.cell e2.2.2 (hq xa2 (by decide))⟩
  have c89 := e9.1
  have f89 := (ha2.ch c9 (hq ha2 (by decide))).fz 8
  obtain ⟨A9, k9, rfl, _, _⟩ := LF.own_slice r9
  generalize hn9 : m + z.g.length = n9 at *
  clear r9 g9 o9 hq c9 ha2 xa2 hN2
  show K (Act.put _ (some 16) _) _
  refine hK.out _ _ e9 (fun _ => ?_)
  clear hK
  try simp only [Act.put, List.setIfInBounds_toArray, List.set_cons_zero, List.set_cons_succ]
  refine until_take (i := 11) (v := .pointer (some ⟨hb, 0, none⟩)) (some 17) [12, 13] rfl rfl (by kernel_rfl) (by kernel_rfl) (by kernel_rfl) (by kernel_rfl) rfl rfl (fun _ _ _ h => h) (Or.inl ⟨by rfl, fun W hW => by go_simp⟩) e9 ?_
  simp only [Act.put, List.setIfInBounds_toArray, List.set_cons_zero, List.set_cons_succ]
  refine until_take (i := 12) (v := .pointer (some ⟨hb, 8, none⟩)) (some 18) [13] rfl rfl (by kernel_rfl) (by kernel_rfl) (by kernel_rfl) (by kernel_rfl) rfl rfl (fun _ _ _ h => h) (Or.inl ⟨by rfl, fun W hW => by go_simp⟩) e9 ?_
  simp only [Act.put, List.setIfInBounds_toArray, List.set_cons_zero, List.set_cons_succ]
  refine until_last (by kernel_rfl) rfl (fun K hK => ?_)
  go_simp
  refine hK.out _ _ ?_
  clear hK
  try simp only [Act.put, List.setIfInBounds_toArray, List.set_cons_zero, List.set_cons_succ]
  refine wpAnyH_done (by kernel_rfl) ?_ _
  have c4 : Ch w3 (w3.setCell ⟨hb, 8, none⟩ (.slice A9 n9 k9)) (fun j => j = hb) := (Ch.refl w3 (fun j => j = hb)).setCell (p := ⟨hb, 8, none⟩) (fun _ => rfl) _
  have n4 : (w3.setCell ⟨hb, 8, none⟩ (.slice A9 n9 k9)).cell? ⟨nb, 0, none⟩ = some (.pointer (some ⟨xb, 0, none⟩)) := c4.cell e9.2.1 (fun e => by
    have h1 : nb = hb := e
    have := HS.out.c.lt
    have := HNB.out
    omega)
  obtain ⟨v4, s4, x4, k4, cl4, b4⟩ := HD.out
  have HOV := Lib.hid (OverNo_any k4 HST.out)
  have x4c := x4.cb_
  rw [← HCB.out] at HOV x4c
  unfold cptr at *
  clear s4 x4 k4 cl4 b4 e9 c89 f89 e2 e0 c4 HSR HSQ HC2 HW2 HO HX HK HF
  generalize w3.setCell ⟨hb, 8, none⟩ (.slice A9 n9 k9) = w4 at *
  go_wp2_with fail
  refine HOV.out.mono ?_
  rintro e w5 ⟨rfl, rfl⟩
  go_wp2_with fail
  refine bodyPost_ret (results_none rfl _ _ _) rfl ?_
  exact ⟨rfl, HD.out⟩
end
end Go.Proofs.YtlcegchdkigibaaGreatDoor

namespace Go.Proofs.YtlcegchdkigibaaGreatDoor
set_option linter.unusedVariables false
set_option linter.unusedSimpArgs false
set_option maxRecDepth 20000
open Go.RowKit Go.Lib

section
variable {B : Nat} {w w' : World} {hb mb : Nat} {h : Hv} {l : LT.Ents} {ps xs : List Nat} {m : Nat} {gs : List Value}
variable {base xb lb : Nat} {lab ro : Nat → Nat} {x : Xv} {z : Zc}
theorem undHeld : Tryz.prog.underlying 65 = some (.slice 77) := by kernel_rfl
theorem infoHeld : (Tryz.prog.info? 77).map (fun i => (i.zero, i.size, i.bytes)) = some (some (.pointer none), 1, 8) := by kernel_rfl
/-- What stands when a handle's connection was given its number, and put behind the others. -/
structure AddM (B : Nat) (w : World) (hb : Nat) (h : Hv) (mb : Nat) (l : LT.Ents) (ps xs : List Nat) (m : Nat) (gs : List Value) (xb : Nat) (x : Xv) (base : Nat) (lab ro : Nat → Nat) (lb : Nat) (z : Zc) (v : Value) (w' : World) : Prop where
  s : Hs B w' hb { h with md := h.md + 1, hv := v } mb l ps (xs ++ [xb]) m gs
  y : Xa w' xb { x with hn := h.md + 1 }
  k : Wo base w' lab ro x.cb lb z
  c : Clear lab ro v
  b : Below B w w'
  ch : Ch w w' (fun g => g = hb ∨ g = xb ∨ h.hv.ownBlock = some g)
theorem add_mid {w2 w3 : World} {v9 : Value} (s : Hs B w hb h mb l ps xs m gs) (xa : Xa w xb x) (k : Wo base w lab ro x.cb lb z) (f1 : ro hb = 0 ∧ lab hb = 0) (f3 : ro xb = 0 ∧ lab xb = 0) (f4 : Clear lab ro h.hv) (hx : B ≤ xb)
    (h2 : w2 = (w.setCell ⟨hb, 6, none⟩ (.int .i64 (h.md + 1))).setCell ⟨xb, 1, none⟩ (.int .i64 (h.md + 1))) {w2' : World} (b2 : Below w2.heap.size w2 w2') (r9 : w3.ownsRow B 77 1 v9 (xs.length + 1) (xs.map cptr ++ [cptr xb])) (g9 : w2'.grownBy w3 h.hv.ownBlock) (o9 : v9.ownBlock = h.hv.ownBlock ∨ v9.ownBlock = some w2'.heap.size) :
    AddM B w hb h mb l ps xs m gs xb x base lab ro lb z v9 (w3.setCell ⟨hb, 7, none⟩ v9) := by
  have c1 : Ch w (w.setCell ⟨hb, 6, none⟩ (.int .i64 (h.md + 1))) (fun j => j = hb) := (Ch.refl w (fun j => j = hb)).setCell (p := ⟨hb, 6, none⟩) (fun _ => rfl) _
  have s1 := s.c.own c1 (s.c.ha.set 6 (.int .i64 (h.md + 1)) { h with md := h.md + 1 } rfl) rfl rfl s.c.sm.2 s.c.hw s.c.sw
  have p1 := s.pr.own s.c.ha c1
  have x1 := xa.ch c1 (blk_ne xa s.c.ha (by decide))
  have k1 := k.frame c1 (fun g e => by subst e; exact f1)
  generalize w.setCell ⟨hb, 6, none⟩ (.int .i64 (h.md + 1)) = w1 at *
  have c2 : Ch w1 w2 (fun j => j = xb) := by rw [h2]; exact (Ch.refl w1 (fun j => j = xb)).setCell (p := ⟨xb, 1, none⟩) (fun _ => rfl) _
  have x2 : Xa w2 xb { x with hn := h.md + 1 } := by rw [h2]; exact x1.set 1 _ _ rfl
  have s2 := s1.other c2 (t := 79) (fun g e _ => by subst e; exact ⟨_, x1⟩) (by decide)
  have p2 := p1.ch c2 (fun g cs hg => blk_ne hg x1 (by decide))
  have k2 := k1.frame c2 (fun g e => by subst e; exact f3)
  have s3 := s2.below b2
  have p3 := p2.below b2
  have x3 := x2.below b2
  have k3 := k2.below b2
  have c4 := grown_chv g9
  have r9' : w3.ownsRow B 77 1 v9 (xs ++ [xb]).length ((xs ++ [xb]).map cptr) := by rw [List.length_append, List.map_append]; exact r9
  obtain ⟨s5, b5⟩ := s3.grow (h := { h with md := h.md + 1 }) g9 r9'
  have p4 := p3.grown s3.hw (by decide) (v := h.pv) g9
  have x4 := x3.ch c4 (fun hg => (ch_ownrow s3.hw hg).elim fun ds hc => blk_ne x3 hc (by decide) rfl)
  have k4 := k3.frame c4 (fun g e => f4 g e)
  have ha4 := s3.ha.ch c4 (fun hg => (ch_ownrow s3.hw hg).elim fun ds hc => blk_ne s3.ha hc (by decide) rfl)
  have c5 : Ch w3 (w3.setCell ⟨hb, 7, none⟩ v9) (fun j => j = hb) := (Ch.refl w3 (fun j => j = hb)).setCell (p := ⟨hb, 7, none⟩) (fun _ => rfl) _
  refine ⟨⟨s5, p4.own ha4 c5⟩, x4.ch c5 (blk_ne x4 ha4 (by decide)), k4.frame c5 (fun g e => by subst e; exact f1), fun g hg => ?_, ?_, ((((c1.mono (fun g _ e => .inl e)).then_ (c2.mono (fun g _ e => .inr (.inl e)))).then_ (Ch.of_below _ b2)).then_ (c4.mono (fun g _ e => .inr (.inr e)))).then_ (c5.mono (fun g _ e => .inl e))⟩
  · rcases o9 with e | e
    · exact f4 g (e ▸ hg)
    · rw [e] at hg
      injection hg with hg
      subst hg
      exact ⟨k3.new_ro (Nat.le_refl _), k3.new_lab (Nat.le_refl _)⟩
  · exact (((chm_below c1 (fun j e _ => by subst e; exact s.c.lo) s.c.le).trans (chm_below c2 (fun j e _ => by subst e; exact hx) s1.le)).trans (b2.mono s2.le)).trans b5
/-- What add leaves. -/
def AddP (B : Nat) (w : World) (hb : Nat) (h : Hv) (mb : Nat) (l : LT.Ents) (ps xs : List Nat) (m : Nat) (gs : List Value) (xb : Nat) (x : Xv) (base : Nat) (lab ro : Nat → Nat) (lb : Nat) (z : Zc) (e : Ending) (w' : World) : Prop :=
  ∃ v u, e = .returned (.int .i64 (h.md + 1)) ∧ Hs B w' hb { h with md := h.md + 1, hv := v, sv := u } mb l ps (xs ++ [xb]) (m + z.g.length) (gs ++ sgv z.g) ∧ Xa w' xb { x with hn := h.md + 1 } ∧ Wo base w' lab ro x.cb lb z.took ∧ Clear lab ro u ∧ Clear lab ro v ∧ Below B w w' ∧ Ch w w' (fun g => g = hb ∨ g = xb ∨ g = x.cb ∨ h.hv.ownBlock = some g ∨ h.sv.ownBlock = some g)
set_option maxHeartbeats 6400000 in
theorem add_any (s : Hs B w hb h mb l ps xs m gs) (hm : m ≤ 1000) (hxl : xs.length ≤ 1000) (hmd : 0 ≤ h.md ∧ h.md ≤ 1000) (xa : Xa w xb x) (k : Wo base w lab ro x.cb lb z) (hst : z.c.st = 0) (hgl : z.g.length ≤ 100) (f1 : ro hb = 0 ∧ lab hb = 0) (f2 : Clear lab ro h.sv) (f3 : ro xb = 0 ∧ lab xb = 0) (f4 : Clear lab ro h.hv) (hB : B ≤ x.cb) (hx : B ≤ xb) :
    Calls Tryz.prog 35 #[cptr hb, cptr xb] w (AddP B w hb h mb l ps xs m gs xb x base lab ro lb z) := by
  have HD := Lib.hid (fun (w2 w3 w2' : World) (v9 : Value) h2 b2 r9 g9 o9 => add_mid (w2 := w2) (w3 := w3) (w2' := w2') (v9 := v9) s xa k f1 f3 f4 hx h2 b2 r9 g9 o9)
  have HSE := Lib.hid (fun (W : World) (v : Value) (M : AddM B w hb h mb l ps xs m gs xb x base lab ro lb z v W) => settleNo_any M.s hm M.y M.k hst hgl f1 f2 hB)
  have hne : xb ≠ hb := blk_ne xa s.c.ha (by decide)
  have c6 := s.c.ha.md_
  have f6 := s.c.ha.fz 6
  have c7 := s.c.ha.hv_
  have x1 := xa.hn_
  have g1 := xa.fz 1
  have hwr : IntKind.i64.wrap (h.md + 1) = h.md + 1 := by rw [IntKind.wrap_i64]; omega
  obtain ⟨A, kk, ehv, _, _⟩ := LF.own_slice s.c.hw
  have HEV := Lib.hid ehv
  rw [ehv] at c7
  have HS := Lib.hid s
  have HXA := Lib.hid xa
  have HXL := Lib.hid hxl
  clear s hm hxl hmd xa k hst hgl f1 f2 f3 f4 hB hx ehv
  obtain ⟨md, emd⟩ : ∃ y, y = h.md := ⟨_, rfl⟩
  have HMD := Lib.hid emd
  rw [← emd] at c6 hwr
  clear emd
  obtain ⟨W2, hW2⟩ : ∃ W, W = (w.setCell ⟨hb, 6, none⟩ (.int .i64 (md + 1))).setCell ⟨xb, 1, none⟩ (.int .i64 (md + 1)) := ⟨_, rfl⟩
  have hsz : W2.heap.size = w.heap.size := by rw [hW2]; simp [World.setCell]
  have cW : Ch w W2 (fun j => j = hb ∨ j = xb) := by rw [hW2]; exact ((Ch.refl w (fun j => j = hb ∨ j = xb)).setCell (p := ⟨hb, 6, none⟩) (fun _ => .inl rfl) _).setCell (p := ⟨xb, 1, none⟩) (fun _ => .inr rfl) _
  have HROW : Hid ((W2.alloc (.cells #[cptr xb] 77)).ownsRow B 77 1 h.hv xs.length (xs.map cptr)) := Lib.hid (own_ch2 (own_ch2 HS.out.c.hw cW (fun g hg e => (ch_ownrow HS.out.c.hw hg).elim fun ds hc => e.elim (fun e => blk_ne hc HS.out.c.ha (by decide) e) (fun e => blk_ne hc HXA.out (by decide) e))) (Ch.of_below (fun _ => False) (below_a W2 _)) (fun _ _ e => e))
  have HNEW : Hid ((W2.alloc (.cells #[cptr xb] 77)).rangeAt w.heap.size 0 [cptr xb]) := Lib.hid (hsz ▸ (Own.new W2 [cptr xb] 77).range)
  have HW2 := Lib.hid hW2
  have HSZ := Lib.hid hsz
  have HBW := Lib.hid (below_a W2 (.cells #[cptr xb] 77))
  have HHA : Hid (∀ w9, (W2.alloc (.cells #[cptr xb] 77)).grownBy w9 h.hv.ownBlock → (∃ u, w9.cell? ⟨hb, 7, none⟩ = some u) ∧ w9.frozen? ⟨hb, 7, none⟩ = false) := Lib.hid (fun w9 g9 => by
    have hq : ¬ h.hv.ownBlock = some hb := fun hg => (ch_ownrow HS.out.c.hw hg).elim fun ds hc => blk_ne hc HS.out.c.ha (by decide) rfl
    have hl : hb < (W2.alloc (.cells #[cptr xb] 77)).heap.size := by have := HS.out.c.lt; simp; omega
    have ha2 : Ha W2 hb { h with md := h.md + 1 } := by
      rw [hW2, ← HMD.out]
      have h1 := HS.out.c.ha.set 6 (.int .i64 (md + 1)) { h with md := md + 1 } rfl
      exact h1.ch ((Ch.refl _ (fun j => j = xb)).setCell (p := ⟨xb, 1, none⟩) (fun _ => rfl) _) (fun e => hne e.symm)
    have ha3 := (ha2.below (below_a W2 _)).ch (grown_chv g9) hq
    exact ⟨⟨_, ha3.hv_⟩, ha3.fz 7⟩)
  clear hsz cW
  unfold cptr at *
  go_enter Tryz.func35, Tryz.ntmps35
  go_wp2_with (first
    | (at_builtin; rw [← hW2]; refine wpList_appG rfl (.tmp 23) (.tmp 25) 65 77 rfl (.pointer none) 1 8 undHeld infoHeld rfl (by decide) (by decide) B h.hv xs.length _ (by rw [HEV.out]; rfl) HROW.out (some ⟨w.heap.size, 0, none⟩) 1 1 [.pointer (some ⟨xb, 0, none⟩)] rfl ⟨rfl, Nat.le_refl _, by omega, (fun u hu => by simp at hu; subst hu; rfl), fun _ => ⟨_, _, rfl, HNEW.out⟩⟩ (by have := HXL.out; omega) (by have := HS.out.c.le; have := HSZ.out; simp; omega) ?_; intro v9 w9 r9 g9 o9; have HM := Lib.hid (HD.out W2 w9 _ v9 (by rw [← HMD.out]; exact HW2.out) HBW.out r9 g9 o9); obtain ⟨⟨u7, c7b⟩, f7b⟩ := HHA.out w9 g9; obtain ⟨A9, k9, rfl, _, _⟩ := LF.own_slice r9; clear r9 g9 o9)
    | fail)
  have HS1 := Lib.hid (HSE.out _ _ HM.out)
  have HB1 := Lib.hid (And.intro HM.out.c (And.intro HM.out.b HM.out.ch))
  unfold cptr at HS1
  clear c7b f7b HSE HD HROW HNEW HBW HHA HM
  generalize w9.setCell ⟨hb, 7, none⟩ (.slice A9 (xs.length + 1) k9) = w10 at *
  generalize hv9 : Value.slice A9 (xs.length + 1) k9 = v9 at *
  clear hv9
  refine HS1.out.mono ?_
  rintro e w11 ⟨rfl, u, s11, x11, k11, cl11, b11⟩
  have d1 := x11.hn_
  dsimp only at d1
  rw [← HMD.out] at d1
  have HQ : Hid (AddP B w hb h mb l ps xs m gs xb x base lab ro lb z (.returned (.int .i64 (md + 1))) w11) := Lib.hid ⟨v9, u, by rw [HMD.out], s11, x11, k11, cl11, HB1.out.1, HB1.out.2.1.trans b11.1, (HB1.out.2.2.mono (fun g _ e => by rcases e with e | e | e; exact .inl e; exact .inr (.inl e); exact .inr (.inr (.inr (.inl e))))).then_ (b11.2.mono (fun g _ e => by rcases e with e | e | e; exact .inl e; exact .inr (.inr (.inl e)); exact .inr (.inr (.inr (.inr e)))))⟩
  clear s11 x11 k11 cl11 b11 HS1
  go_wp2_with fail
  go_ret
  exact HQ.out
end
end Go.Proofs.YtlcegchdkigibaaGreatDoor

/- Words for the document's own way to read an option: parts of bytes, one number stored into an option; the contracts of truth, num and Size. No condition.
An option is right just if it is what its own bytes tell, and may be. Condition: each of its numbers is one of its kind.
append of bytes onto a slice that the call owns, as a step of a region that draws its order. Condition: what comes out is at most 2^40 bytes long.
Words for the document's own way to put an option in bytes. No condition. -/
import Derived.Test.YtbbpemndkphgeaaDoorMg7
import Derived.Test.YtbbpemndkphgeaaDoorMg10
import Derived.Test.YtbbpemndkphgeaaDoorMg1
import Derived.Deep.RegionLaw
import Derived.Deep.AppendLies
namespace Go.Proofs.YtbbpemndkphgeaaDoor
set_option linter.unusedVariables false
set_option linter.unusedSimpArgs false
open Go.RowKit

/-- b[i:j], b[i:] and b[:j], whatever the addresses are. -/
theorem RB.mid_ {w : World} {A : Option Addr} {n c : Nat} {l : List UInt8} (h : RB w A n c l) (i j : Nat) (I J : Int) (hI : I = i) (hJ : J = j) (h1 : i ≤ j) (h2 : j ≤ n) :
    ∃ A2, (∀ W : World, (Instr.slice 24 (.slice A n c) (some (.int .i64 I)) (some (.int .i64 J)) none).run Tryd.prog W = .ok (.slice A2 (j - i) (c - i)) W) ∧ RB w A2 (j - i) (c - i) ((l.drop i).take (j - i)) := by
  subst hI hJ
  have hc := h.cap
  refine ⟨_, fun W => ?_, (h.drop (k := i) (by omega)).take (k := j - i) (by omega)⟩
  rw [run_slice_lh (P := Tryd.prog) W 24 A n c elemOf .i64 .i64 (i : Int) (j : Int) (by omega) (by omega) (by omega), sizeOfByte]
  simp [Result.andThen, sliced]
theorem RB.tail_ {w : World} {A : Option Addr} {n c : Nat} {l : List UInt8} (h : RB w A n c l) (i : Nat) (I : Int) (hI : I = i) (h1 : i ≤ n) :
    ∃ A2, (∀ W : World, (Instr.slice 24 (.slice A n c) (some (.int .i64 I)) none none).run Tryd.prog W = .ok (.slice A2 (n - i) (c - i)) W) ∧ RB w A2 (n - i) (c - i) (l.drop i) := by
  subst hI
  exact h.from_ h1
theorem RB.head_ {w : World} {A : Option Addr} {n c : Nat} {l : List UInt8} (h : RB w A n c l) (j : Nat) (h2 : j ≤ n) :
    (∀ W : World, (Instr.slice 24 (.slice A n c) none (some (.int .i64 (j : Int))) none).run Tryd.prog W = .ok (.slice A j c) W) ∧ RB w A j c (l.take j) := by
  have hc := h.cap
  refine ⟨fun W => ?_, h.take h2⟩
  rw [run_slice_h (P := Tryd.prog) W 24 A n c elemOf .i64 (j : Int) (by omega) (by omega), sizeOfByte]
  simp [Result.andThen, sliced]
  intro _
  cases A with
  | none => rfl
  | some a =>
    obtain ⟨b, o, s⟩ := a
    simp [Addr.add]
theorem RB.cell_at {w : World} {b o n c : Nat} {l : List UInt8} (h : RB w (some ⟨b, o, none⟩) n c l) {j : Nat} (hj : j < n) : w.cell? ⟨b, o + j, none⟩ = some (.int .u8 ((l.getD j 0).toNat : Int)) := by
  obtain ⟨b', o', e, hc⟩ := h.2.2.2 (by omega)
  injection e with e
  injection e with e1 e2
  subst e1 e2
  exact hc j hj
theorem num_take_one {l : List UInt8} {j : Nat} (h : j < l.length) : num ((l.drop j).take 1) = (l.getD j 0).toNat := by
  have e : (l.drop j).take 1 = [l[j]] := by rw [List.drop_eq_getElem_cons h]; rfl
  rw [e, List.getD_eq_getElem?_getD, List.getElem?_eq_getElem h]
  simp [num]
theorem num_few (l : List UInt8) (k : Nat) : num (l.take k) < 256 ^ k := Nat.lt_of_lt_of_le (num_lt _) (Nat.pow_le_pow_right (by decide) (List.length_take_le _ _))

/-- The value that n is in place s. -/
def pv (s n : Nat) : Value := if s ≤ 2 then .int .u64 (n : Int) else if s ≤ 4 then .int .u32 (n : Int) else if isB s then .bool ((n : Int) == 1) else .int .i64 (n : Int)
theorem put_pv (o : Opt) {s n : Nat} (hs : spot s) (hn : s ≤ 2 ∨ n < 4294967296) : (o.put s n).vals = o.vals.set s (pv s n) := by
  have hb := int_is_one n
  rcases spot_or hs with rfl | rfl | rfl | rfl | rfl | rfl | rfl | rfl | rfl | rfl | rfl | rfl | rfl
  · rfl
  · rfl
  · simp [Opt.put, Opt.vals, pv, Nat.mod_eq_of_lt (show n < 4294967296 by omega)]
  · simp [Opt.put, Opt.vals, pv, Nat.mod_eq_of_lt (show n < 4294967296 by omega)]
  · simp [Opt.put, Opt.vals, pv, isB, s64_small (show n < 9223372036854775808 by omega)]
  · simp [Opt.put, Opt.vals, pv, isB, s64_small (show n < 9223372036854775808 by omega)]
  · simp [Opt.put, Opt.vals, pv, isB, hb]
  · simp [Opt.put, Opt.vals, pv, isB, hb]
  · simp [Opt.put, Opt.vals, pv, isB, s64_small (show n < 9223372036854775808 by omega)]
  · simp [Opt.put, Opt.vals, pv, isB, hb]
  · simp [Opt.put, Opt.vals, pv, isB, s64_small (show n < 9223372036854775808 by omega)]
  · simp [Opt.put, Opt.vals, pv, isB, s64_small (show n < 9223372036854775808 by omega)]
  · simp [Opt.put, Opt.vals, pv, isB, hb]
theorem pv_one (s n : Nat) : (pv s n).oneCell' = true ∧ (pv s n).cells = #[pv s n] := by
  unfold pv
  split
  · exact ⟨rfl, rfl⟩
  · split
    · exact ⟨rfl, rfl⟩
    · split <;> exact ⟨rfl, rfl⟩
/-- One number stored into an option: all bytes stay. -/
theorem wpList_putO {P : Program} {ops : Array Oper} {rest : List Oper} {o : Oper} {a : Act} {w : World} {Q : Exit → Act → World → Prop} (hgd : Region.wanted o (yielded ops a.tmps) = true) (ty : TypeId) (x y : Operand) (ho : o.op = .store ty x y) (b s n : Nat) (u : Opt) (hx : a.eval x = .pointer (some ⟨b, s, none⟩)) (hy : a.eval y = pv s n) (hA : Own w b u.vals)
    (hs : spot s) (hn : s ≤ 2 ∨ n < 4294967296) (hi : (P.info? ty).map (·.size) = some 1)
    (h : ∀ w', Own w' b (u.put s n).vals → w.grownBy w' (some b) → Bytes8 w w' → wpList P ops Q rest (a.put o.dst undef) w') : wpList P ops Q (o :: rest) a w := by
  have hs14 : s < u.vals.length := by rw [u.vals_length]; unfold spot at hs; omega
  obtain ⟨p1, p2⟩ := pv_one s n
  have hc := (hA s hs14).1
  rw [List.getElem?_eq_getElem hs14] at hc
  refine wpList_want hgd fun _ hK => ?_
  have hrun : (execOp a.eval o).run P w = .ok .skip (w.setCell ⟨b, s, none⟩ (pv s n)) := by
    have h1 := run_storeCells_cells (P := P) b s [pv s n] 0 w (fun j hj => by
      obtain rfl : j = 0 := by simpa using hj
      simp only [Nat.add_zero]; rw [hc]; rfl) (fun j hj => by
      obtain rfl : j = 0 := by simpa using hj
      exact (hA s hs14).2) (fun v hv => by rw [List.mem_singleton.1 hv]; exact p1)
    cases hq : P.info? ty with
    | none => simp [hq] at hi
    | some i =>
      have hsz : i.size = 1 := by simpa [hq] using hi
      simp [execOp, ho, hx, hy, Instr.storeAt, Instr.sureAddr, storeVar, sizeOf, typeInfo, hq, hsz, p2, h1, World.setCells]
  unfold Oper.wp
  rw [hrun]
  simp only [Oper.upon]
  refine hK _ _ (h _ ?_ (v_g_set w b s _) fun p z hp => ?_)
  · rw [put_pv u hs hn]
    exact hA.set s hs14 _
  · rw [World.cell?_setCell_other w _ _ _ ?_]
    · exact hp
    · rintro rfl
      rw [hc, ← List.getElem?_eq_getElem hs14] at hp
      exact vals_no_byte u s z hp

set_option maxHeartbeats 400000 in
theorem truth_any (b : Bool) (w : World) : Calls Tryd.prog 62 #[.bool b] w fun e w' => e = .returned (.int .u8 (b2n b : Nat)) ∧ w = w' := by
  cases b
  all_goals
    go_enter Tryd.func62, Tryd.ntmps62
    go_wp2
    go_ret
    exact ⟨rfl, rfl⟩
set_option maxHeartbeats 400000 in
theorem num4_any (x : Int) (w : World) : Calls Tryd.prog 63 #[.int .i64 x, .int .i64 4] w (Made w 5 4 (be (u64 x) 4)) := by
  have H : Hid (∀ W, Calls Tryd.prog 50 #[.int .u64 (IntKind.u64.wrap x), .int .i64 4] W (Made W 5 4 (be (u64 x) 4))) := Lib.hid (fun W => by
    rw [wrap_u64]
    exact Bytes_any (u64 x) 4 W (u64_lt x))
  go_enter Tryd.func63, Tryd.ntmps63
  go_wp2_with fail
  refine (H.out _).mono ?_
  rintro e w1 ⟨v, rfl, o1, b1⟩
  go_wp2_with fail
  go_ret
  exact ⟨_, rfl, o1, b1⟩
/-- How many bytes a kind has. -/
def sz (k : Int) : Nat := if (tab k).length = 0 then 0 else 1 + long (tab k)
set_option maxHeartbeats 800000 in
theorem Size_any (k : Int) (w : World) : Calls Tryd.prog 43 #[.int .i64 k] w fun e w' => e = .returned (.int .i64 (sz k : Nat)) ∧ Below w.heap.size w w' := by
  rcases kind_or k with hc | hc | hc | hc | hc | hc | hc | hc | hc | hc | hc | hc | hc | hc
  · have HS : Hid (sz k = 0) := Lib.hid (by unfold sz; rw [tab_neg hc]; rfl)
    have h1 : k < 1 := by omega
    go_enter Tryd.func43, Tryd.ntmps43
    go_wp2
    go_ret
    rw [HS.out]
    exact ⟨rfl, below_a w _⟩
  · have HS : Hid (sz k = 0) := Lib.hid (by unfold sz; rw [tab_far hc]; rfl)
    have h1 : ¬ k < 1 := by omega
    have h2 : 11 < k := by omega
    have h3 : decide (k < 1) = false := decide_eq_false h1
    go_enter Tryd.func43, Tryd.ntmps43
    go_wp2
    go_ret
    rw [HS.out]
    exact ⟨rfl, below_a w _⟩
  all_goals
    subst hc
    go_enter Tryd.func43, Tryd.ntmps43
    go_wp2
    go_ret
    exact ⟨rfl, below_a w _⟩
end Go.Proofs.YtbbpemndkphgeaaDoor

namespace Go.Proofs.YtbbpemndkphgeaaDoor
set_option linter.unusedVariables false
set_option linter.unusedSimpArgs false
open Go.RowKit

/-- The document's own words. -/
def mayB (o : Opt) : Bool := if 3 < o.addr ∨ 8 < o.len then false else (o.hasAck || o.ack == 0) && (o.hasMap || (o.dsn == 0 && o.len == 0 && !o.fin))
def rrightB (o : Opt) : Bool :=
  if sz o.kind = 0 ∨ (o.kind = 9 ∧ o.dsn < 0) then false
  else if o.kind ≠ 9 ∧ mayB o = false then false
  else eqO (prs (zK o.kind) (tab o.kind) ((ob o).drop 1)) o

/-- The fields of o, cut to their bytes, put in x. -/
def rt (x : Opt) (l : List (Nat × Nat)) (o : Opt) : Opt := l.foldl (fun x f => x.put f.1 (o.num f.1 % 256 ^ f.2)) x
theorem prs_told : ∀ (l : List (Nat × Nat)) (x o : Opt), prs x l (toldB o l) = rt x l o
  | [], _, _ => rfl
  | f :: r, x, o => by
    show prs (x.put f.1 (num ((be (o.num f.1) f.2 ++ toldB o r).take f.2))) r ((be (o.num f.1) f.2 ++ toldB o r).drop f.2) = rt (x.put f.1 (o.num f.1 % 256 ^ f.2)) r o
    rw [List.take_left' (be_length _ _), List.drop_left' (be_length _ _), num_be, prs_told r]
theorem ob_drop (o : Opt) : (ob o).drop 1 = toldB o (tab o.kind) := by
  unfold ob
  rw [List.drop_left' (be_length _ _)]
theorem sz_zero {k : Int} (h : tab k = []) : sz k = 0 := by unfold sz; rw [h]; rfl

/-- A number of an int, cut to k bytes. -/
theorem u64_nonneg {x : Int} (h : 0 ≤ x) (h' : x < 18446744073709551616) : (u64 x : Int) = x := by rw [u64_int]; omega
theorem b2n_mod (b : Bool) : (b2n b % 256 == 1) = b := by cases b <;> rfl
theorem b2n_lt (b : Bool) : b2n b < 256 := by cases b <;> decide
/-- What an int's field of one byte, of four, says. -/
theorem cut_eq {x : Int} (h : isInt x) {m : Nat} (hm : m ≤ 4294967296) (h0 : 0 < m) : s64 (u64 x % m) = x ↔ 0 ≤ x ∧ x < m := by
  have h1 := u64_int x
  have h2 : u64 x % m < m := Nat.mod_lt _ h0
  rw [s64_small (by omega)]
  unfold isInt at h
  constructor
  · intro e; omega
  · rintro ⟨e1, e2⟩
    have e3 : u64 x < m := by omega
    rw [Nat.mod_eq_of_lt e3]
    omega
theorem fit_eq {x : Int} (h : isInt x) {m : Nat} (hm : m ≤ 4294967296) : u64 x < m ↔ 0 ≤ x ∧ x < m := by
  have h1 := u64_int x
  unfold isInt at h
  omega

theorem right_1 (o : Opt) (h : o.ok) (hk : o.kind = 1) : rightB o = rrightB o := by
  obtain ⟨h0, h1, h2, h3, h4, h5, h6, h7, h8, h9⟩ := h
  obtain ⟨kind, key, mac, token, nonce, addr, reason, backup, hasAck, ack, hasMap, dsn, len, fin⟩ := o
  simp only at *
  subst hk
  have s0 : s64 0 = 0 := rfl
  rw [Bool.eq_iff_iff]
  unfold rrightB rightB
  rw [ob_drop, prs_told]
  cases hasAck <;> cases hasMap <;> cases fin <;>
    simp [tab, tabN, fitB, boundB, bareO, Opt.put, Opt.num, zK, eqO_iff, mayB, rt, sz, long, b2n_mod, b2n_lt, cut_eq h5, fit_eq h5, cut_eq h6, fit_eq h6, cut_eq h7, fit_eq h7, cut_eq h8, fit_eq h8, cut_eq h9, fit_eq h9, ackedB, mappedB, Nat.mod_eq_of_lt h1, Nat.mod_eq_of_lt h2, Nat.mod_eq_of_lt h3, Nat.mod_eq_of_lt h4, h1, h2, h3, h4, s0] <;> first | done | omega | (cases backup <;> simp [b2n] <;> omega)
theorem right_2 (o : Opt) (h : o.ok) (hk : o.kind = 2) : rightB o = rrightB o := by
  obtain ⟨h0, h1, h2, h3, h4, h5, h6, h7, h8, h9⟩ := h
  obtain ⟨kind, key, mac, token, nonce, addr, reason, backup, hasAck, ack, hasMap, dsn, len, fin⟩ := o
  simp only at *
  subst hk
  have s0 : s64 0 = 0 := rfl
  rw [Bool.eq_iff_iff]
  unfold rrightB rightB
  rw [ob_drop, prs_told]
  cases hasAck <;> cases hasMap <;> cases fin <;>
    simp [tab, tabN, fitB, boundB, bareO, Opt.put, Opt.num, zK, eqO_iff, mayB, rt, sz, long, b2n_mod, b2n_lt, cut_eq h5, fit_eq h5, cut_eq h6, fit_eq h6, cut_eq h7, fit_eq h7, cut_eq h8, fit_eq h8, cut_eq h9, fit_eq h9, ackedB, mappedB, Nat.mod_eq_of_lt h1, Nat.mod_eq_of_lt h2, Nat.mod_eq_of_lt h3, Nat.mod_eq_of_lt h4, h1, h2, h3, h4, s0] <;> first | done | omega | (cases backup <;> simp [b2n] <;> omega)
theorem right_3 (o : Opt) (h : o.ok) (hk : o.kind = 3) : rightB o = rrightB o := by
  obtain ⟨h0, h1, h2, h3, h4, h5, h6, h7, h8, h9⟩ := h
  obtain ⟨kind, key, mac, token, nonce, addr, reason, backup, hasAck, ack, hasMap, dsn, len, fin⟩ := o
  simp only at *
  subst hk
  have s0 : s64 0 = 0 := rfl
  rw [Bool.eq_iff_iff]
  unfold rrightB rightB
  rw [ob_drop, prs_told]
  cases hasAck <;> cases hasMap <;> cases fin <;>
    simp [tab, tabN, fitB, boundB, bareO, Opt.put, Opt.num, zK, eqO_iff, mayB, rt, sz, long, b2n_mod, b2n_lt, cut_eq h5, fit_eq h5, cut_eq h6, fit_eq h6, cut_eq h7, fit_eq h7, cut_eq h8, fit_eq h8, cut_eq h9, fit_eq h9, ackedB, mappedB, Nat.mod_eq_of_lt h1, Nat.mod_eq_of_lt h2, Nat.mod_eq_of_lt h3, Nat.mod_eq_of_lt h4, h1, h2, h3, h4, s0] <;> first | done | omega | (cases backup <;> simp [b2n] <;> omega)
theorem right_4 (o : Opt) (h : o.ok) (hk : o.kind = 4) : rightB o = rrightB o := by
  obtain ⟨h0, h1, h2, h3, h4, h5, h6, h7, h8, h9⟩ := h
  obtain ⟨kind, key, mac, token, nonce, addr, reason, backup, hasAck, ack, hasMap, dsn, len, fin⟩ := o
  simp only at *
  subst hk
  have s0 : s64 0 = 0 := rfl
  rw [Bool.eq_iff_iff]
  unfold rrightB rightB
  rw [ob_drop, prs_told]
  cases hasAck <;> cases hasMap <;> cases fin <;>
    simp [tab, tabN, fitB, boundB, bareO, Opt.put, Opt.num, zK, eqO_iff, mayB, rt, sz, long, b2n_mod, b2n_lt, cut_eq h5, fit_eq h5, cut_eq h6, fit_eq h6, cut_eq h7, fit_eq h7, cut_eq h8, fit_eq h8, cut_eq h9, fit_eq h9, ackedB, mappedB, Nat.mod_eq_of_lt h1, Nat.mod_eq_of_lt h2, Nat.mod_eq_of_lt h3, Nat.mod_eq_of_lt h4, h1, h2, h3, h4, s0] <;> first | done | omega | (cases backup <;> simp [b2n] <;> omega)
theorem right_5 (o : Opt) (h : o.ok) (hk : o.kind = 5) : rightB o = rrightB o := by
  obtain ⟨h0, h1, h2, h3, h4, h5, h6, h7, h8, h9⟩ := h
  obtain ⟨kind, key, mac, token, nonce, addr, reason, backup, hasAck, ack, hasMap, dsn, len, fin⟩ := o
  simp only at *
  subst hk
  have s0 : s64 0 = 0 := rfl
  rw [Bool.eq_iff_iff]
  unfold rrightB rightB
  rw [ob_drop, prs_told]
  cases hasAck <;> cases hasMap <;> cases fin <;>
    simp [tab, tabN, fitB, boundB, bareO, Opt.put, Opt.num, zK, eqO_iff, mayB, rt, sz, long, b2n_mod, b2n_lt, cut_eq h5, fit_eq h5, cut_eq h6, fit_eq h6, cut_eq h7, fit_eq h7, cut_eq h8, fit_eq h8, cut_eq h9, fit_eq h9, ackedB, mappedB, Nat.mod_eq_of_lt h1, Nat.mod_eq_of_lt h2, Nat.mod_eq_of_lt h3, Nat.mod_eq_of_lt h4, h1, h2, h3, h4, s0] <;> first | done | omega | (cases backup <;> simp [b2n] <;> omega)
theorem right_6 (o : Opt) (h : o.ok) (hk : o.kind = 6) : rightB o = rrightB o := by
  obtain ⟨h0, h1, h2, h3, h4, h5, h6, h7, h8, h9⟩ := h
  obtain ⟨kind, key, mac, token, nonce, addr, reason, backup, hasAck, ack, hasMap, dsn, len, fin⟩ := o
  simp only at *
  subst hk
  have s0 : s64 0 = 0 := rfl
  rw [Bool.eq_iff_iff]
  unfold rrightB rightB
  rw [ob_drop, prs_told]
  cases hasAck <;> cases hasMap <;> cases fin <;>
    simp [tab, tabN, fitB, boundB, bareO, Opt.put, Opt.num, zK, eqO_iff, mayB, rt, sz, long, b2n_mod, b2n_lt, cut_eq h5, fit_eq h5, cut_eq h6, fit_eq h6, cut_eq h7, fit_eq h7, cut_eq h8, fit_eq h8, cut_eq h9, fit_eq h9, ackedB, mappedB, Nat.mod_eq_of_lt h1, Nat.mod_eq_of_lt h2, Nat.mod_eq_of_lt h3, Nat.mod_eq_of_lt h4, h1, h2, h3, h4, s0] <;> first | done | omega | (cases backup <;> simp [b2n] <;> omega)
theorem right_7 (o : Opt) (h : o.ok) (hk : o.kind = 7) : rightB o = rrightB o := by
  obtain ⟨h0, h1, h2, h3, h4, h5, h6, h7, h8, h9⟩ := h
  obtain ⟨kind, key, mac, token, nonce, addr, reason, backup, hasAck, ack, hasMap, dsn, len, fin⟩ := o
  simp only at *
  subst hk
  have s0 : s64 0 = 0 := rfl
  rw [Bool.eq_iff_iff]
  unfold rrightB rightB
  rw [ob_drop, prs_told]
  cases hasAck <;> cases hasMap <;> cases fin <;>
    simp [tab, tabN, fitB, boundB, bareO, Opt.put, Opt.num, zK, eqO_iff, mayB, rt, sz, long, b2n_mod, b2n_lt, cut_eq h5, fit_eq h5, cut_eq h6, fit_eq h6, cut_eq h7, fit_eq h7, cut_eq h8, fit_eq h8, cut_eq h9, fit_eq h9, ackedB, mappedB, Nat.mod_eq_of_lt h1, Nat.mod_eq_of_lt h2, Nat.mod_eq_of_lt h3, Nat.mod_eq_of_lt h4, h1, h2, h3, h4, s0] <;> first | done | omega | (cases backup <;> simp [b2n] <;> omega)
theorem right_8 (o : Opt) (h : o.ok) (hk : o.kind = 8) : rightB o = rrightB o := by
  obtain ⟨h0, h1, h2, h3, h4, h5, h6, h7, h8, h9⟩ := h
  obtain ⟨kind, key, mac, token, nonce, addr, reason, backup, hasAck, ack, hasMap, dsn, len, fin⟩ := o
  simp only at *
  subst hk
  have s0 : s64 0 = 0 := rfl
  rw [Bool.eq_iff_iff]
  unfold rrightB rightB
  rw [ob_drop, prs_told]
  cases hasAck <;> cases hasMap <;> cases fin <;>
    simp [tab, tabN, fitB, boundB, bareO, Opt.put, Opt.num, zK, eqO_iff, mayB, rt, sz, long, b2n_mod, b2n_lt, cut_eq h5, fit_eq h5, cut_eq h6, fit_eq h6, cut_eq h7, fit_eq h7, cut_eq h8, fit_eq h8, cut_eq h9, fit_eq h9, ackedB, mappedB, Nat.mod_eq_of_lt h1, Nat.mod_eq_of_lt h2, Nat.mod_eq_of_lt h3, Nat.mod_eq_of_lt h4, h1, h2, h3, h4, s0] <;> first | done | omega | (cases backup <;> simp [b2n] <;> omega)
theorem right_9 (o : Opt) (h : o.ok) (hk : o.kind = 9) : rightB o = rrightB o := by
  obtain ⟨h0, h1, h2, h3, h4, h5, h6, h7, h8, h9⟩ := h
  obtain ⟨kind, key, mac, token, nonce, addr, reason, backup, hasAck, ack, hasMap, dsn, len, fin⟩ := o
  simp only at *
  subst hk
  have s0 : s64 0 = 0 := rfl
  rw [Bool.eq_iff_iff]
  unfold rrightB rightB
  rw [ob_drop, prs_told]
  cases hasAck <;> cases hasMap <;> cases fin <;>
    simp [tab, tabN, fitB, boundB, bareO, Opt.put, Opt.num, zK, eqO_iff, mayB, rt, sz, long, b2n_mod, b2n_lt, cut_eq h5, fit_eq h5, cut_eq h6, fit_eq h6, cut_eq h7, fit_eq h7, cut_eq h8, fit_eq h8, cut_eq h9, fit_eq h9, ackedB, mappedB, Nat.mod_eq_of_lt h1, Nat.mod_eq_of_lt h2, Nat.mod_eq_of_lt h3, Nat.mod_eq_of_lt h4, h1, h2, h3, h4, s0] <;> first | done | omega | (cases backup <;> simp [b2n] <;> omega)
theorem right_10 (o : Opt) (h : o.ok) (hk : o.kind = 10) : rightB o = rrightB o := by
  obtain ⟨h0, h1, h2, h3, h4, h5, h6, h7, h8, h9⟩ := h
  obtain ⟨kind, key, mac, token, nonce, addr, reason, backup, hasAck, ack, hasMap, dsn, len, fin⟩ := o
  simp only at *
  subst hk
  have s0 : s64 0 = 0 := rfl
  rw [Bool.eq_iff_iff]
  unfold rrightB rightB
  rw [ob_drop, prs_told]
  cases hasAck <;> cases hasMap <;> cases fin <;>
    simp [tab, tabN, fitB, boundB, bareO, Opt.put, Opt.num, zK, eqO_iff, mayB, rt, sz, long, b2n_mod, b2n_lt, cut_eq h5, fit_eq h5, cut_eq h6, fit_eq h6, cut_eq h7, fit_eq h7, cut_eq h8, fit_eq h8, cut_eq h9, fit_eq h9, ackedB, mappedB, Nat.mod_eq_of_lt h1, Nat.mod_eq_of_lt h2, Nat.mod_eq_of_lt h3, Nat.mod_eq_of_lt h4, h1, h2, h3, h4, s0] <;> first | done | omega | (cases backup <;> simp [b2n] <;> omega)
theorem right_11 (o : Opt) (h : o.ok) (hk : o.kind = 11) : rightB o = rrightB o := by
  obtain ⟨h0, h1, h2, h3, h4, h5, h6, h7, h8, h9⟩ := h
  obtain ⟨kind, key, mac, token, nonce, addr, reason, backup, hasAck, ack, hasMap, dsn, len, fin⟩ := o
  simp only at *
  subst hk
  have s0 : s64 0 = 0 := rfl
  rw [Bool.eq_iff_iff]
  unfold rrightB rightB
  rw [ob_drop, prs_told]
  cases hasAck <;> cases hasMap <;> cases fin <;>
    simp [tab, tabN, fitB, boundB, bareO, Opt.put, Opt.num, zK, eqO_iff, mayB, rt, sz, long, b2n_mod, b2n_lt, cut_eq h5, fit_eq h5, cut_eq h6, fit_eq h6, cut_eq h7, fit_eq h7, cut_eq h8, fit_eq h8, cut_eq h9, fit_eq h9, ackedB, mappedB, Nat.mod_eq_of_lt h1, Nat.mod_eq_of_lt h2, Nat.mod_eq_of_lt h3, Nat.mod_eq_of_lt h4, h1, h2, h3, h4, s0] <;> first | done | omega | (cases backup <;> simp [b2n] <;> omega)
theorem right_0 (o : Opt) (hk : tab o.kind = []) : rightB o = rrightB o := by
  rw [rightB_none hk]
  unfold rrightB
  rw [if_pos (.inl (sz_zero hk))]
/-- An option is right just where the document's own words say so. -/
theorem right_eq (o : Opt) (h : o.ok) : rightB o = rrightB o := by
  rcases kind_or o.kind with hc | hc | hc | hc | hc | hc | hc | hc | hc | hc | hc | hc | hc | hc
  · exact right_0 o (tab_neg hc)
  · exact right_0 o (tab_far hc)
  · exact right_0 o (by rw [hc]; rfl)
  · exact right_1 o h hc
  · exact right_2 o h hc
  · exact right_3 o h hc
  · exact right_4 o h hc
  · exact right_5 o h hc
  · exact right_6 o h hc
  · exact right_7 o h hc
  · exact right_8 o h hc
  · exact right_9 o h hc
  · exact right_10 o h hc
  · exact right_11 o h hc
end Go.Proofs.YtbbpemndkphgeaaDoor

namespace Go.Proofs.YtbbpemndkphgeaaDoor
set_option linter.unusedSimpArgs false
set_option linter.unusedVariables false
open Go.RowKit

theorem step_app {P : Program} (w : World) {ops : Array Oper} {o : Oper} {a : Act} {K : Act → World → Prop} {Q : Exit → Act → World → Prop} {E : Prop} (hgd : o.guard = none) (s x : Operand) (t e : TypeId)
    (ho : o.op = .call { callee := .builtin .append, args := #[s, x], argTypes := #[t, t] })
    (ht : P.underlying t = some (.slice e)) (hi : (P.info? e).map (fun i => (i.zero, i.size, i.bytes)) = some (some (.int .u8 0), 1, 1))
    (base : Nat) (v : Value) (n : Nat) (l : List UInt8) (hs : a.eval s = v) (hown : w.ownsRow base e 1 v n (bv l))
    (A : Option Addr) (m c : Nat) (r : List UInt8) (hx : a.eval x = .slice A m c) (hr : RB w A m c r) (h40 : n + m ≤ 1099511627776) (hb : base ≤ w.heap.size)
    (h : ∀ v' w', w'.ownsRow base e 1 v' (n + m) (bv (l ++ r)) → w.grownBy w' v.ownBlock → (v'.ownBlock = v.ownBlock ∨ v'.ownBlock = some w.heap.size) → K (a.put o.dst v') w') :
    if Region.wanted o (yielded ops a.tmps) = true then Oper.wp P o a w K Q else E := by
  have hw : Region.wanted o (yielded ops a.tmps) = true := by simp [Region.wanted, hgd]
  rw [if_pos hw]
  obtain ⟨v', w', hrun, h1, h2, h3⟩ := app_run (P := P) w t o.type e ht hi base v n l hown A m c r hr h40 hb
  exact Lib.wp_append_run w s x t t ho _ _ hs hx v' w' hrun (h v' w' h1 h2 h3)
end Go.Proofs.YtbbpemndkphgeaaDoor

namespace Go.Proofs.YtbbpemndkphgeaaDoor
set_option linter.unusedVariables false
set_option linter.unusedSimpArgs false
open Go.RowKit

/-- What stands while an option's bytes are put one behind the other: the option, and the bytes so far, in memory of the call's own. -/
structure Bst (w0 : World) (B g : Nat) (o : Opt) (w : World) (v : Value) (n : Nat) (l : List UInt8) : Prop where
  opt : Own w g o.vals
  own : w.ownsRow B 5 1 v n (bv l)
  below : Below w0.heap.size w0 w
  base : B ≤ w.heap.size
  lt : g < B
  old : w0.heap.size ≤ B
section
variable {w0 w w1 w2 : World} {B g n m : Nat} {o : Opt} {v v' : Value} {l r : List UInt8}
theorem Bst.keep (h : Bst w0 B g o w v n l) (hb : Below w.heap.size w w1) : Bst w0 B g o w1 v n l :=
  ⟨h.opt.below hb, own_below h.own hb, below_trans h.below hb, Nat.le_trans h.base hb.size, h.lt, h.old⟩
theorem Bst.app (h : Bst w0 B g o w v n l) (ho : w2.ownsRow B 5 1 v' (n + m) (bv (l ++ r))) (hg : w.grownBy w2 v.ownBlock) : Bst w0 B g o w2 v' (n + m) (l ++ r) :=
  ⟨h.opt.far hg (fun e => by have h1 := (h.own.lt g e.symm).1; have h2 := h.lt; omega), ho, h.below.grown hg (Nat.le_trans h.old h.base) fun k hk => Nat.le_trans h.old (h.own.lt k hk).1, Nat.le_trans h.base hg.size, h.lt, h.old⟩
theorem Bst.cell (h : Bst w0 B g o w v n l) (s : Nat) (hs : s < 14) : w.cell? ⟨g, s, none⟩ = o.vals[s]? := (h.opt s hs).1
end
theorem byte_int (x : Int) : x % 256 = ((UInt8.ofNat (u64 x)).toNat : Int) := by
  rw [UInt8.toNat_ofNat']
  have := u64_int x
  omega
theorem byte_one (n : Nat) : be n 1 = [UInt8.ofNat n] := by simp [be]
theorem byte_bool (b : Bool) : ((b2n b : Nat) : Int) = ((UInt8.ofNat (b2n b)).toNat : Int) := by cases b <;> rfl
/-- The first byte. -/
theorem Bst.start (w0 w1 : World) (g : Nat) (o : Opt) (x : Int) (b : UInt8) (hx : x = (b.toNat : Int)) (h : Own w1 g o.vals) (hb : Below w0.heap.size w0 w1) (hg : g < w1.heap.size) :
    Bst w0 w1.heap.size g o (w1.alloc (.cells #[.int .u8 x] 5)) (.slice (some ⟨w1.heap.size, 0, none⟩) 1 1) 1 [b] := by
  subst hx
  have ha := below_a w1 (.cells #[.int .u8 (b.toNat : Int)] 5)
  refine ⟨h.below ha, ?_, below_trans hb ha, by simp, hg, hb.size⟩
  exact World.ownsRow_lit (base := w1.heap.size) (e := 5) (size := 1) w1 #[.int .u8 (b.toNat : Int)] 1 (Nat.le_refl _) (by unfold maxLen; omega) rfl
/-- A new slice of one byte. -/
theorem wpList_byte1 {ops : Array Oper} {rest : List Oper} {o : Oper} {a : Act} {w : World} {Q : Exit → Act → World → Prop} (hgd : Region.wanted o (yielded ops a.tmps) = true) (x : Operand) (ho : o.op = .buildSlice 24 1 #[(0, x)]) (v : Int) (hx : a.eval x = .int .u8 v) (g : Nat) (hg : w.heap.size = g)
    (h : ∀ w', w' = w.alloc (.cells #[.int .u8 v] 5) → wpList Tryd.prog ops Q rest (a.put o.dst (.slice (some ⟨g, 0, none⟩) 1 1)) w') : wpList Tryd.prog ops Q (o :: rest) a w := by
  subst hg
  refine wpList_want hgd fun _ hK => ?_
  have hrun : (Instr.buildSlice 24 1 #[(0, .int .u8 v)]).run Tryd.prog w = .ok (.slice (some ⟨w.heap.size, 0, none⟩) 1 1) (w.alloc (.cells #[.int .u8 v] 5)) := by kernel_rfl
  have hr : (execOp a.eval o).run Tryd.prog w = .ok (.value (.slice (some ⟨w.heap.size, 0, none⟩) 1 1)) (w.alloc (.cells #[.int .u8 v] 5)) := by
    simp [execOp, ho, hx, hrun]
  unfold Oper.wp
  rw [hr, Oper.upon_value]
  exact hK _ _ (h _ rfl)
end Go.Proofs.YtbbpemndkphgeaaDoor

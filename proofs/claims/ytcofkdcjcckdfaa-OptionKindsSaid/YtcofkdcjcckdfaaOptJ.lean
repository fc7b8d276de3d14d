/- An option is right just if it is what its own bytes tell, and may be. Condition: each of its numbers is one of its kind. -/
import Derived.Test.YtcofkdcjcckdfaaOptE
import Derived.Test.YtcofkdcjcckdfaaOptX
namespace Go.Proofs.Ytcofkdcjcckdfaa
set_option linter.unusedVariables false
set_option linter.unusedSimpArgs false
open Go.RowKit

/-- The document's own words. -/
def mayB (o : Opt) : Bool := if 3 < o.addr ∨ 8 < o.len then false else (o.hasAck || o.ack == 0) && (o.hasMap || (o.dsn == 0 && o.len == 0 && !o.fin))
def rrightB (o : Opt) : Bool :=
  if sz o.kind = 0 ∨ (o.kind = 9 ∧ o.dsn < 0) then false
  else if o.kind ≠ 9 ∧ mayB o = false then false
  else eqO (prs (zK o.kind) (tab o.kind) ((ob o).drop 1)) o

/-- The fields of o, cut to their bytes, put in x. -/
def rt (x : Opt) (l : List (Nat × Nat)) (o : Opt) : Opt := l.foldl (fun x f => x.put f.1 (o.num f.1 % 256 ^ f.2)) x
theorem prs_told : ∀ (l : List (Nat × Nat)) (x o : Opt), prs x l (toldB o l) = rt x l o
  | [], _, _ => rfl
  | f :: r, x, o => by
    show prs (x.put f.1 (num ((be (o.num f.1) f.2 ++ toldB o r).take f.2))) r ((be (o.num f.1) f.2 ++ toldB o r).drop f.2) = rt (x.put f.1 (o.num f.1 % 256 ^ f.2)) r o
    rw [List.take_left' (be_length _ _), List.drop_left' (be_length _ _), num_be, prs_told r]
theorem ob_drop (o : Opt) : (ob o).drop 1 = toldB o (tab o.kind) := by
  unfold ob
  rw [List.drop_left' (be_length _ _)]
theorem sz_zero {k : Int} (h : tab k = []) : sz k = 0 := by unfold sz; rw [h]; rfl

/-- A number of an int, cut to k bytes. -/
theorem u64_nonneg {x : Int} (h : 0 ≤ x) (h' : x < 18446744073709551616) : (u64 x : Int) = x := by rw [u64_int]; omega
theorem b2n_mod (b : Bool) : (b2n b % 256 == 1) = b := by cases b <;> rfl
theorem b2n_lt (b : Bool) : b2n b < 256 := by cases b <;> decide
/-- What an int's field of one byte, of four, says. -/
theorem cut_eq {x : Int} (h : isInt x) {m : Nat} (hm : m ≤ 4294967296) (h0 : 0 < m) : s64 (u64 x % m) = x ↔ 0 ≤ x ∧ x < m := by
  have h1 := u64_int x
  have h2 : u64 x % m < m := Nat.mod_lt _ h0
  rw [s64_small (by omega)]
  unfold isInt at h
  constructor
  · intro e; omega
  · rintro ⟨e1, e2⟩
    have e3 : u64 x < m := by omega
    rw [Nat.mod_eq_of_lt e3]
    omega
theorem fit_eq {x : Int} (h : isInt x) {m : Nat} (hm : m ≤ 4294967296) : u64 x < m ↔ 0 ≤ x ∧ x < m := by
  have h1 := u64_int x
  unfold isInt at h
  omega

theorem right_1 (o : Opt) (h : o.ok) (hk : o.kind = 1) : rightB o = rrightB o := by
  obtain ⟨h0, h1, h2, h3, h4, h5, h6, h7, h8, h9⟩ := h
  obtain ⟨kind, key, mac, token, nonce, addr, reason, backup, hasAck, ack, hasMap, dsn, len, fin⟩ := o
  simp only at *
  subst hk
  have s0 : s64 0 = 0 := rfl
  rw [Bool.eq_iff_iff]
  unfold rrightB rightB
  rw [ob_drop, prs_told]
  cases hasAck <;> cases hasMap <;> cases fin <;>
    simp [tab, tabN, fitB, boundB, bareO, Opt.put, Opt.num, zK, eqO_iff, mayB, rt, sz, long, b2n_mod, b2n_lt, cut_eq h5, fit_eq h5, cut_eq h6, fit_eq h6, cut_eq h7, fit_eq h7, cut_eq h8, fit_eq h8, cut_eq h9, fit_eq h9, ackedB, mappedB, Nat.mod_eq_of_lt h1, Nat.mod_eq_of_lt h2, Nat.mod_eq_of_lt h3, Nat.mod_eq_of_lt h4, h1, h2, h3, h4, s0] <;> first | done | omega | (cases backup <;> simp [b2n] <;> omega)
theorem right_2 (o : Opt) (h : o.ok) (hk : o.kind = 2) : rightB o = rrightB o := by
  obtain ⟨h0, h1, h2, h3, h4, h5, h6, h7, h8, h9⟩ := h
  obtain ⟨kind, key, mac, token, nonce, addr, reason, backup, hasAck, ack, hasMap, dsn, len, fin⟩ := o
  simp only at *
  subst hk
  have s0 : s64 0 = 0 := rfl
  rw [Bool.eq_iff_iff]
  unfold rrightB rightB
  rw [ob_drop, prs_told]
  cases hasAck <;> cases hasMap <;> cases fin <;>
    simp [tab, tabN, fitB, boundB, bareO, Opt.put, Opt.num, zK, eqO_iff, mayB, rt, sz, long, b2n_mod, b2n_lt, cut_eq h5, fit_eq h5, cut_eq h6, fit_eq h6, cut_eq h7, fit_eq h7, cut_eq h8, fit_eq h8, cut_eq h9, fit_eq h9, ackedB, mappedB, Nat.mod_eq_of_lt h1, Nat.mod_eq_of_lt h2, Nat.mod_eq_of_lt h3, Nat.mod_eq_of_lt h4, h1, h2, h3, h4, s0] <;> first | done | omega | (cases backup <;> simp [b2n] <;> omega)
theorem right_3 (o : Opt) (h : o.ok) (hk : o.kind = 3) : rightB o = rrightB o := by
  obtain ⟨h0, h1, h2, h3, h4, h5, h6, h7, h8, h9⟩ := h
  obtain ⟨kind, key, mac, token, nonce, addr, reason, backup, hasAck, ack, hasMap, dsn, len, fin⟩ := o
  simp only at *
  subst hk
  have s0 : s64 0 = 0 := rfl
  rw [Bool.eq_iff_iff]
  unfold rrightB rightB
  rw [ob_drop, prs_told]
  cases hasAck <;> cases hasMap <;> cases fin <;>
    simp [tab, tabN, fitB, boundB, bareO, Opt.put, Opt.num, zK, eqO_iff, mayB, rt, sz, long, b2n_mod, b2n_lt, cut_eq h5, fit_eq h5, cut_eq h6, fit_eq h6, cut_eq h7, fit_eq h7, cut_eq h8, fit_eq h8, cut_eq h9, fit_eq h9, ackedB, mappedB, Nat.mod_eq_of_lt h1, Nat.mod_eq_of_lt h2, Nat.mod_eq_of_lt h3, Nat.mod_eq_of_lt h4, h1, h2, h3, h4, s0] <;> first | done | omega | (cases backup <;> simp [b2n] <;> omega)
theorem right_4 (o : Opt) (h : o.ok) (hk : o.kind = 4) : rightB o = rrightB o := by
  obtain ⟨h0, h1, h2, h3, h4, h5, h6, h7, h8, h9⟩ := h
  obtain ⟨kind, key, mac, token, nonce, addr, reason, backup, hasAck, ack, hasMap, dsn, len, fin⟩ := o
  simp only at *
  subst hk
  have s0 : s64 0 = 0 := rfl
  rw [Bool.eq_iff_iff]
  unfold rrightB rightB
  rw [ob_drop, prs_told]
  cases hasAck <;> cases hasMap <;> cases fin <;>
    simp [tab, tabN, fitB, boundB, bareO, Opt.put, Opt.num, zK, eqO_iff, mayB, rt, sz, long, b2n_mod, b2n_lt, cut_eq h5, fit_eq h5, cut_eq h6, fit_eq h6, cut_eq h7, fit_eq h7, cut_eq h8, fit_eq h8, cut_eq h9, fit_eq h9, ackedB, mappedB, Nat.mod_eq_of_lt h1, Nat.mod_eq_of_lt h2, Nat.mod_eq_of_lt h3, Nat.mod_eq_of_lt h4, h1, h2, h3, h4, s0] <;> first | done | omega | (cases backup <;> simp [b2n] <;> omega)
theorem right_5 (o : Opt) (h : o.ok) (hk : o.kind = 5) : rightB o = rrightB o := by
  obtain ⟨h0, h1, h2, h3, h4, h5, h6, h7, h8, h9⟩ := h
  obtain ⟨kind, key, mac, token, nonce, addr, reason, backup, hasAck, ack, hasMap, dsn, len, fin⟩ := o
  simp only at *
  subst hk
  have s0 : s64 0 = 0 := rfl
  rw [Bool.eq_iff_iff]
  unfold rrightB rightB
  rw [ob_drop, prs_told]
  cases hasAck <;> cases hasMap <;> cases fin <;>
    simp [tab, tabN, fitB, boundB, bareO, Opt.put, Opt.num, zK, eqO_iff, mayB, rt, sz, long, b2n_mod, b2n_lt, cut_eq h5, fit_eq h5, cut_eq h6, fit_eq h6, cut_eq h7, fit_eq h7, cut_eq h8, fit_eq h8, cut_eq h9, fit_eq h9, ackedB, mappedB, Nat.mod_eq_of_lt h1, Nat.mod_eq_of_lt h2, Nat.mod_eq_of_lt h3, Nat.mod_eq_of_lt h4, h1, h2, h3, h4, s0] <;> first | done | omega | (cases backup <;> simp [b2n] <;> omega)
theorem right_6 (o : Opt) (h : o.ok) (hk : o.kind = 6) : rightB o = rrightB o := by
  obtain ⟨h0, h1, h2, h3, h4, h5, h6, h7, h8, h9⟩ := h
  obtain ⟨kind, key, mac, token, nonce, addr, reason, backup, hasAck, ack, hasMap, dsn, len, fin⟩ := o
  simp only at *
  subst hk
  have s0 : s64 0 = 0 := rfl
  rw [Bool.eq_iff_iff]
  unfold rrightB rightB
  rw [ob_drop, prs_told]
  cases hasAck <;> cases hasMap <;> cases fin <;>
    simp [tab, tabN, fitB, boundB, bareO, Opt.put, Opt.num, zK, eqO_iff, mayB, rt, sz, long, b2n_mod, b2n_lt, cut_eq h5, fit_eq h5, cut_eq h6, fit_eq h6, cut_eq h7, fit_eq h7, cut_eq h8, fit_eq h8, cut_eq h9, fit_eq h9, ackedB, mappedB, Nat.mod_eq_of_lt h1, Nat.mod_eq_of_lt h2, Nat.mod_eq_of_lt h3, Nat.mod_eq_of_lt h4, h1, h2, h3, h4, s0] <;> first | done | omega | (cases backup <;> simp [b2n] <;> omega)
theorem right_7 (o : Opt) (h : o.ok) (hk : o.kind = 7) : rightB o = rrightB o := by
  obtain ⟨h0, h1, h2, h3, h4, h5, h6, h7, h8, h9⟩ := h
  obtain ⟨kind, key, mac, token, nonce, addr, reason, backup, hasAck, ack, hasMap, dsn, len, fin⟩ := o
  simp only at *
  subst hk
  have s0 : s64 0 = 0 := rfl
  rw [Bool.eq_iff_iff]
  unfold rrightB rightB
  rw [ob_drop, prs_told]
  cases hasAck <;> cases hasMap <;> cases fin <;>
    simp [tab, tabN, fitB, boundB, bareO, Opt.put, Opt.num, zK, eqO_iff, mayB, rt, sz, long, b2n_mod, b2n_lt, cut_eq h5, fit_eq h5, cut_eq h6, fit_eq h6, cut_eq h7, fit_eq h7, cut_eq h8, fit_eq h8, cut_eq h9, fit_eq h9, ackedB, mappedB, Nat.mod_eq_of_lt h1, Nat.mod_eq_of_lt h2, Nat.mod_eq_of_lt h3, Nat.mod_eq_of_lt h4, h1, h2, h3, h4, s0] <;> first | done | omega | (cases backup <;> simp [b2n] <;> omega)
theorem right_8 (o : Opt) (h : o.ok) (hk : o.kind = 8) : rightB o = rrightB o := by
  obtain ⟨h0, h1, h2, h3, h4, h5, h6, h7, h8, h9⟩ := h
  obtain ⟨kind, key, mac, token, nonce, addr, reason, backup, hasAck, ack, hasMap, dsn, len, fin⟩ := o
  simp only at *
  subst hk
  have s0 : s64 0 = 0 := rfl
  rw [Bool.eq_iff_iff]
  unfold rrightB rightB
  rw [ob_drop, prs_told]
  cases hasAck <;> cases hasMap <;> cases fin <;>
    simp [tab, tabN, fitB, boundB, bareO, Opt.put, Opt.num, zK, eqO_iff, mayB, rt, sz, long, b2n_mod, b2n_lt, cut_eq h5, fit_eq h5, cut_eq h6, fit_eq h6, cut_eq h7, fit_eq h7, cut_eq h8, fit_eq h8, cut_eq h9, fit_eq h9, ackedB, mappedB, Nat.mod_eq_of_lt h1, Nat.mod_eq_of_lt h2, Nat.mod_eq_of_lt h3, Nat.mod_eq_of_lt h4, h1, h2, h3, h4, s0] <;> first | done | omega | (cases backup <;> simp [b2n] <;> omega)
theorem right_9 (o : Opt) (h : o.ok) (hk : o.kind = 9) : rightB o = rrightB o := by
  obtain ⟨h0, h1, h2, h3, h4, h5, h6, h7, h8, h9⟩ := h
  obtain ⟨kind, key, mac, token, nonce, addr, reason, backup, hasAck, ack, hasMap, dsn, len, fin⟩ := o
  simp only at *
  subst hk
  have s0 : s64 0 = 0 := rfl
  rw [Bool.eq_iff_iff]
  unfold rrightB rightB
  rw [ob_drop, prs_told]
  cases hasAck <;> cases hasMap <;> cases fin <;>
    simp [tab, tabN, fitB, boundB, bareO, Opt.put, Opt.num, zK, eqO_iff, mayB, rt, sz, long, b2n_mod, b2n_lt, cut_eq h5, fit_eq h5, cut_eq h6, fit_eq h6, cut_eq h7, fit_eq h7, cut_eq h8, fit_eq h8, cut_eq h9, fit_eq h9, ackedB, mappedB, Nat.mod_eq_of_lt h1, Nat.mod_eq_of_lt h2, Nat.mod_eq_of_lt h3, Nat.mod_eq_of_lt h4, h1, h2, h3, h4, s0] <;> first | done | omega | (cases backup <;> simp [b2n] <;> omega)
theorem right_10 (o : Opt) (h : o.ok) (hk : o.kind = 10) : rightB o = rrightB o := by
  obtain ⟨h0, h1, h2, h3, h4, h5, h6, h7, h8, h9⟩ := h
  obtain ⟨kind, key, mac, token, nonce, addr, reason, backup, hasAck, ack, hasMap, dsn, len, fin⟩ := o
  simp only at *
  subst hk
  have s0 : s64 0 = 0 := rfl
  rw [Bool.eq_iff_iff]
  unfold rrightB rightB
  rw [ob_drop, prs_told]
  cases hasAck <;> cases hasMap <;> cases fin <;>
    simp [tab, tabN, fitB, boundB, bareO, Opt.put, Opt.num, zK, eqO_iff, mayB, rt, sz, long, b2n_mod, b2n_lt, cut_eq h5, fit_eq h5, cut_eq h6, fit_eq h6, cut_eq h7, fit_eq h7, cut_eq h8, fit_eq h8, cut_eq h9, fit_eq h9, ackedB, mappedB, Nat.mod_eq_of_lt h1, Nat.mod_eq_of_lt h2, Nat.mod_eq_of_lt h3, Nat.mod_eq_of_lt h4, h1, h2, h3, h4, s0] <;> first | done | omega | (cases backup <;> simp [b2n] <;> omega)
theorem right_11 (o : Opt) (h : o.ok) (hk : o.kind = 11) : rightB o = rrightB o := by
  obtain ⟨h0, h1, h2, h3, h4, h5, h6, h7, h8, h9⟩ := h
  obtain ⟨kind, key, mac, token, nonce, addr, reason, backup, hasAck, ack, hasMap, dsn, len, fin⟩ := o
  simp only at *
  subst hk
  have s0 : s64 0 = 0 := rfl
  rw [Bool.eq_iff_iff]
  unfold rrightB rightB
  rw [ob_drop, prs_told]
  cases hasAck <;> cases hasMap <;> cases fin <;>
    simp [tab, tabN, fitB, boundB, bareO, Opt.put, Opt.num, zK, eqO_iff, mayB, rt, sz, long, b2n_mod, b2n_lt, cut_eq h5, fit_eq h5, cut_eq h6, fit_eq h6, cut_eq h7, fit_eq h7, cut_eq h8, fit_eq h8, cut_eq h9, fit_eq h9, ackedB, mappedB, Nat.mod_eq_of_lt h1, Nat.mod_eq_of_lt h2, Nat.mod_eq_of_lt h3, Nat.mod_eq_of_lt h4, h1, h2, h3, h4, s0] <;> first | done | omega | (cases backup <;> simp [b2n] <;> omega)
theorem right_0 (o : Opt) (hk : tab o.kind = []) : rightB o = rrightB o := by
  rw [rightB_none hk]
  unfold rrightB
  rw [if_pos (.inl (sz_zero hk))]
/-- An option is right just where the document's own words say so. -/
theorem right_eq (o : Opt) (h : o.ok) : rightB o = rrightB o := by
  rcases kind_or o.kind with hc | hc | hc | hc | hc | hc | hc | hc | hc | hc | hc | hc | hc | hc
  · exact right_0 o (tab_neg hc)
  · exact right_0 o (tab_far hc)
  · exact right_0 o (by rw [hc]; rfl)
  · exact right_1 o h hc
  · exact right_2 o h hc
  · exact right_3 o h hc
  · exact right_4 o h hc
  · exact right_5 o h hc
  · exact right_6 o h hc
  · exact right_7 o h hc
  · exact right_8 o h hc
  · exact right_9 o h hc
  · exact right_10 o h hc
  · exact right_11 o h hc
end Go.Proofs.Ytcofkdcjcckdfaa

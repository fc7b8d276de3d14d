/- A connection without legs, in memory; the contract of without. Conditions: its addresses may be.
The contract of Conn.emit, where the leg's flow wants nothing, or one Syn, to be sent. Conditions: the connection stands, at most 2^39 segments wait. -/
import Derived.Test.YtiehngeeamhlmaaGreatDoorMg21
import Derived.Test.YtiehngeeamhlmaaGreatDoorMg19
namespace Go.Proofs.YtiehngeeamhlmaaGreatDoor
set_option linter.unusedVariables false
set_option linter.unusedSimpArgs false
set_option maxRecDepth 20000
open Go.RowKit Go.Lib

/-- A connection without legs stands, to whose sender and receiver nothing was done. -/
structure Wz (base : Nat) (w : World) (lab ro : Nat → Nat) (cb : Nat) (c : Cv) (p : LP.Pm) (so sr sm n : Nat) (L : List (Int × Int)) : Prop where
  ca : Ca w cb c
  rc : ro cb = 1
  sn : Sn w c.sb so
  rs : ro c.sb = 4 ∧ ro so = 4
  rn : Rn w c.rb sr sm
  rr : ro c.rb = 5 ∧ ro sr = 5 ∧ ro sm = 5
  pa : LP.St w c.pb p
  rp : ro c.pb = 6
  wh : LW.On w lab c.wb n L
  ds : ∀ k, ro k ≠ 0 → lab k = 0 ∧ base ≤ k ∧ k < w.heap.size
  wl : ∀ k, lab k ≠ 0 → base ≤ k
section
variable {base : Nat} {w w' : World} {lab ro lab' ro' : Nat → Nat} {cb lb : Nat} {c : Cv} {p : LP.Pm} {so sr sm n : Nat} {L : List (Int × Int)}
/-- What alone may have turned has no role. -/
theorem Wz.frame (h : Wz base w lab ro cb c p so sr sm n L) {m : Nat → Prop} (k : Ch w w' m) (hm : ∀ g, m g → ro g = 0 ∧ lab g = 0) : Wz base w' lab ro cb c p so sr sm n L := by
  have hd : ∀ g d, d ≠ 0 → ro g = d → ¬ m g := fun g d hd e k => hd (e.symm.trans (hm g k).1)
  exact ⟨h.ca.ch k (hd _ 1 (by decide) h.rc), h.rc, h.sn.ch k (hd _ 4 (by decide) h.rs.1) (hd _ 4 (by decide) h.rs.2), h.rs, h.rn.ch k (hd _ 5 (by decide) h.rr.1) (hd _ 5 (by decide) h.rr.2.1) (hd _ 5 (by decide) h.rr.2.2), h.rr,
    h.pa.ch k (hd _ 6 (by decide) h.rp), h.rp, h.wh.ch (lwch k) (fun g hg => (hm g hg).2), fun g hg => ⟨(h.ds g hg).1, (h.ds g hg).2.1, Nat.lt_of_lt_of_le (h.ds g hg).2.2 k.size⟩, h.wl⟩
theorem Wz.below (h : Wz base w lab ro cb c p so sr sm n L) (b : Below w.heap.size w w') : Wz base w' lab ro cb c p so sr sm n L := h.frame (Ch.of_below (fun _ => False) b) (fun _ e => e.elim)
theorem Wz.new_lab (h : Wz base w lab ro cb c p so sr sm n L) {k : Nat} (hk : w.heap.size ≤ k) : lab k = 0 := by
  rcases Nat.eq_zero_or_pos (lab k) with e | e
  · exact e
  · have := h.wh.lt (k := k) (by omega)
    omega
theorem Wz.new_ro (h : Wz base w lab ro cb c p so sr sm n L) {k : Nat} (hk : w.heap.size ≤ k) : ro k = 0 := by
  rcases Nat.eq_zero_or_pos (ro k) with e | e
  · exact e
  · have := (h.ds k (by omega)).2.2
    omega
/-- Its own cells alone turned, and blocks without a role. -/
theorem Wz.own (h : Wz base w lab ro cb c p so sr sm n L) {m : Nat → Prop} (k : Ch w w' m) (hm : ∀ g, m g → g = cb ∨ ro g = 0 ∧ lab g = 0) {c' : Cv} (hc : Ca w' cb c') (h1 : c'.sb = c.sb) (h2 : c'.rb = c.rb) (h3 : c'.pb = c.pb) (h6 : c'.wb = c.wb) : Wz base w' lab ro cb c' p so sr sm n L := by
  have hd : ∀ g d, d ≠ 1 → d ≠ 0 → ro g = d → ¬ m g := fun g d h1 h0 e k => by
    rcases hm g k with rfl | ⟨e2, _⟩
    · exact h1 (e.symm.trans h.rc)
    · exact h0 (e.symm.trans e2)
  have hl : ∀ g, m g → lab g = 0 := fun g k => by
    rcases hm g k with rfl | ⟨_, e2⟩
    · exact (h.ds _ (by rw [h.rc]; decide)).1
    · exact e2
  refine ⟨hc, h.rc, ?_, ?_, ?_, ?_, ?_, ?_, ?_, fun g hg => ⟨(h.ds g hg).1, (h.ds g hg).2.1, Nat.lt_of_lt_of_le (h.ds g hg).2.2 k.size⟩, h.wl⟩
  · rw [h1]; exact h.sn.ch k (hd _ 4 (by decide) (by decide) h.rs.1) (hd _ 4 (by decide) (by decide) h.rs.2)
  · rw [h1]; exact h.rs
  · rw [h2]; exact h.rn.ch k (hd _ 5 (by decide) (by decide) h.rr.1) (hd _ 5 (by decide) (by decide) h.rr.2.1) (hd _ 5 (by decide) (by decide) h.rr.2.2)
  · rw [h2]; exact h.rr
  · rw [h3]; exact h.pa.ch k (hd _ 6 (by decide) (by decide) h.rp)
  · rw [h3]; exact h.rp
  · rw [h6]; exact h.wh.ch (lwch k) hl
/-- A leg, its flow and its row make it one with a leg. -/
theorem Wz.leg (h : Wz base w lab ro cb c p so sr sm n L) {l : Lc} {s : LF.Sh} {x : LF.F} (hl : La w lb l) (hlb : base ≤ lb) (he : l.fl = cptr s.fb) (hf : LF.Fl base w s x) (hv : w.ownsRow base 102 1 c.lv 1 [cptr lb]) (hs : c.sv = .slice none 0 0)
    (r1 : ro lb = 0 ∧ lab lb = 0) (r2 : ∀ g, s.T g → (ro g = 0 ∧ lab g = 0) ∧ g ≠ lb) (r3 : ∀ g, c.lv.ownBlock = some g → (ro g = 0 ∧ lab g = 0) ∧ g ≠ lb ∧ ¬ s.T g) :
    ∃ ro', Wo base w lab ro' cb lb ⟨c, l, s, x, n, L, [], p, so, sr, sm⟩ ∧ ∀ k, ro k ≠ 0 → ro' k = ro k := by
  classical
  have key : ∀ k d, d ≠ 0 → ro k = d → (if k = lb then 2 else if s.T k then 3 else if c.lv.ownBlock = some k then 7 else ro k) = d := fun k d hd e => by
    rw [if_neg (fun e2 => hd (by rw [← e, e2]; exact r1.1)), if_neg (fun e2 => hd (by rw [← e]; exact (r2 k e2).1.1)), if_neg (fun e2 => hd (by rw [← e]; exact (r3 k e2).1.1)), e]
  refine ⟨fun k => if k = lb then 2 else if s.T k then 3 else if c.lv.ownBlock = some k then 7 else ro k, ⟨h.ca, key _ 1 (by decide) h.rc, hl, if_pos rfl, he, hf, fun g hg => ?_, h.sn, ⟨key _ 4 (by decide) h.rs.1, key _ 4 (by decide) h.rs.2⟩, h.rn, ⟨key _ 5 (by decide) h.rr.1, key _ 5 (by decide) h.rr.2.1, key _ 5 (by decide) h.rr.2.2⟩,
    h.pa, key _ 6 (by decide) h.rp, hv, fun g hg => ?_, (by rw [hs]; exact World.ownsRow_nil _ _ _ _), (fun g hg => by rw [hs] at hg; cases hg), (fun q hq => by cases hq), h.wh, fun k hk => ?_, h.wl⟩, fun k hk => key k _ hk rfl⟩
  · show (if g = lb then 2 else if s.T g then 3 else _) = 3
    rw [if_neg (r2 g hg).2, if_pos hg]
  · show (if g = lb then 2 else if s.T g then 3 else if c.lv.ownBlock = some g then 7 else ro g) = 7
    rw [if_neg (r3 g hg).2.1, if_neg (r3 g hg).2.2, if_pos hg]
  · have hk : (if k = lb then 2 else if s.T k then 3 else if c.lv.ownBlock = some k then 7 else ro k) ≠ 0 := hk
    by_cases h1 : k = lb
    · subst h1
      exact ⟨r1.2, hlb, hl.lt⟩
    · rw [if_neg h1] at hk
      by_cases h2 : s.T k
      · exact ⟨(r2 k h2).1.2, (hf.in_ h2).1, (hf.in_ h2).2⟩
      · rw [if_neg h2] at hk
        by_cases h3 : c.lv.ownBlock = some k
        · exact ⟨(r3 k h3).1.2, (own_in hv h3).1, (own_in hv h3).2⟩
        · rw [if_neg h3] at hk
          exact h.ds k hk
end
/-- A connection that has nothing yet. -/
def Cv.fresh (key : Nat) (op tp t : Int) (sb rb pb wb : Nat) : Cv := ⟨key, 0, op, tp, 0, 0, 0, false, sb, rb, pb, .slice none 0 0, 0, 0, -1, t, wb, 0, 0, 0, 0, 0, 0, 0, .slice none 0 0⟩
/-- Blocks, by when they came to be. -/
def roles (s0 s1 s2 s3 s4 : Nat) : Nat → Nat := fun k => if k < s0 then 0 else if k < s1 then 6 else if k < s2 then 4 else if k < s3 then 5 else if k = s4 then 1 else 0
section
variable {s0 s1 s2 s3 s4 k : Nat}
theorem roles0 (h : k < s0) : roles s0 s1 s2 s3 s4 k = 0 := by unfold roles; rw [if_pos h]
theorem roles6 (h : s0 ≤ k) (h' : k < s1) : roles s0 s1 s2 s3 s4 k = 6 := by unfold roles; rw [if_neg (by omega), if_pos h']
theorem roles4 (a : s0 ≤ s1) (h : s1 ≤ k) (h' : k < s2) : roles s0 s1 s2 s3 s4 k = 4 := by unfold roles; rw [if_neg (by omega), if_neg (by omega), if_pos h']
theorem roles5 (a : s0 ≤ s1) (b : s1 ≤ s2) (h : s2 ≤ k) (h' : k < s3) : roles s0 s1 s2 s3 s4 k = 5 := by unfold roles; rw [if_neg (by omega), if_neg (by omega), if_neg (by omega), if_pos h']
theorem roles1 (a : s0 ≤ s1) (b : s1 ≤ s2) (c : s2 ≤ s3) (d : s3 ≤ s4) : roles s0 s1 s2 s3 s4 s4 = 1 := by unfold roles; rw [if_neg (by omega), if_neg (by omega), if_neg (by omega), if_neg (by omega), if_pos rfl]
theorem roles_in (a : s0 ≤ s1) (b : s1 ≤ s2) (c : s2 ≤ s3) (d : s3 ≤ s4) (h : roles s0 s1 s2 s3 s4 k ≠ 0) : s0 ≤ k ∧ (k < s3 ∨ k = s4) := by
  unfold roles at h
  by_cases h0 : k < s0
  · rw [if_pos h0] at h
    exact absurd rfl h
  · refine ⟨by omega, ?_⟩
    by_cases h3 : k < s3
    · exact .inl h3
    · rw [if_neg h0, if_neg (by omega), if_neg (by omega), if_neg h3] at h
      by_cases h4 : k = s4
      · exact .inr h4
      · rw [if_neg h4] at h
        exact absurd rfl h
end
def WithP (w : World) (key : Nat) (op tp t : Int) (i j : Nat) (w' : World) (cb : Nat) : Prop :=
  ∃ lab ro sb rb pb wb so sr sm, Wz w.heap.size w' lab ro cb (Cv.fresh key op tp t sb rb pb wb) (LP.Pm.new i j (LP.most 8)) so sr sm 0 [] ∧ (∀ k, k < w.heap.size → lab k = 0 ∧ ro k = 0) ∧ Below w.heap.size w w'
theorem with_done {w w1 w2 w3 w4 : World} {key i j : Nat} {op tp t : Int} {sb rb pb wb so sr sm : Nat} {lab : Nat → Nat} (b1 : Below w.heap.size w w1) (h1 : LP.St w1 pb (LP.Pm.new i j (LP.most 8))) (l1 : w.heap.size ≤ pb)
    (b2 : Below w1.heap.size w1 w2) (h2 : Sn w2 sb so) (l2 : w1.heap.size ≤ sb ∧ w1.heap.size ≤ so) (b3 : Below w2.heap.size w2 w3) (h3 : Rn w3 rb sr sm) (l3 : w2.heap.size ≤ rb ∧ w2.heap.size ≤ sr ∧ w2.heap.size ≤ sm)
    (h4 : LW.On w4 lab wb 0 []) (f4 : LW.Fr (fun _ => 0) w3 lab w4) :
    WithP w key op tp t i j (w4.alloc (.cells (Cv.fresh key op tp t sb rb pb wb).cs 101)) w4.heap.size := by
  have b4 : Below w3.heap.size w3 w4 := (chlw f4.1).below (fun _ _ e => e rfl)
  have b5 := below_a w4 (.cells (Cv.fresh key op tp t sb rb pb wb).cs 101)
  have z1 := b1.size
  have z2 := b2.size
  have z3 := b3.size
  have z4 := b4.size
  have hpb := h1.lt
  have hsn := h2.lt
  have hrn := h3.lt
  have sz : (w4.alloc (.cells (Cv.fresh key op tp t sb rb pb wb).cs 101)).heap.size = w4.heap.size + 1 := by simp
  refine ⟨lab, roles w.heap.size w1.heap.size w2.heap.size w3.heap.size w4.heap.size, sb, rb, pb, wb, so, sr, sm, ⟨heap_alloc_new w4 _, roles1 z1 z2 z3 z4, ((h2.below b3).below b4).below b5, ⟨roles4 z1 l2.1 hsn.1, roles4 z1 l2.2 hsn.2⟩, (h3.below b4).below b5, ⟨roles5 z1 z2 l3.1 hrn.1, roles5 z1 z2 l3.2.1 hrn.2.1, roles5 z1 z2 l3.2.2 hrn.2.2⟩,
    (((h1.below b2).below b3).below b4).below b5, roles6 l1 hpb, h4.below b5, fun k hk => ?_, fun k hk => ?_⟩, fun k hk => ⟨f4.2 k (by omega), roles0 hk⟩, below_trans (below_trans (below_trans (below_trans b1 b2) b3) b4) b5⟩
  · obtain ⟨h5, h6⟩ := roles_in z1 z2 z3 z4 hk
    refine ⟨?_, h5, by omega⟩
    rcases h6 with e | e
    · exact f4.2 k e
    · rcases Nat.eq_zero_or_pos (lab k) with e2 | e2
      · exact e2
      · have := h4.lt (k := k) (by omega)
        omega
  · rcases Nat.lt_or_ge k w3.heap.size with e | e
    · exact absurd (f4.2 k e) hk
    · omega
set_option maxHeartbeats 3200000 in
theorem without_any (key i j : Nat) (op tp t : Int) (hi : i < 4) (hj : j < 4) (w : World) :
    Calls Tryz.prog 84 #[.int .u64 (key : Int), .agg #[.int .i64 (i : Int), .int .i64 (j : Int), .int .i64 op, .int .i64 tp], .int .i64 t] w fun e w' => ∃ cb, e = .returned (cptr cb) ∧ w.heap.size ≤ cb ∧ WithP w key op tp t i j w' cb := by
  have HP := Lib.hid (fun W => LP.new_good hi hj 8 W)
  have HS := Lib.hid (fun W => dsendNew_any W)
  have HR := Lib.hid (fun W => drecvNew_any W)
  have HWN := Lib.hid (fun W => LW.new_any 0 (by unfold LW.isI; omega) W)
  clear hi hj
  unfold LP.ptr at HP
  unfold SnNew at HS
  unfold RnNew at HR
  unfold LW.ptr at HWN
  go_enter Tryz.func84, Tryz.ntmps84
  go_wp2_with (first
    | ((with_reducible refine wpList_here ?_); refine wpList_boxV (o := ⟨some 4, _, _, _, _, _⟩) rfl 75 (.tmp 1) rfl [.int .i64 (i : Int), .int .i64 (j : Int), .int .i64 op, .int .i64 tp] rfl _ rfl ?_; intro w0 z0 b0 s0; have x0 : w0.cell? ⟨w.heap.size, 0, none⟩ = some (.int .i64 (i : Int)) := (z0 0 (by simp)).1; have x1 : w0.cell? ⟨w.heap.size, 1, none⟩ = some (.int .i64 (j : Int)) := (z0 1 (by simp)).1)
    | fail)
  refine (HP.out _).mono ?_
  rintro e w1 ⟨pb, rfl, P1, b1, l1⟩
  have y0 : w1.drew.cell? ⟨w.heap.size, 2, none⟩ = some (.int .i64 op) ∧ w1.drew.cell? ⟨w.heap.size, 3, none⟩ = some (.int .i64 tp) := ⟨(b1.cell (by show w.heap.size < _; omega)).trans (z0 2 (by simp)).1, (b1.cell (by show w.heap.size < _; omega)).trans (z0 3 (by simp)).1⟩
  have B1 := Lib.hid ((below_trans b0 b1).drew)
  have HP1 : Hid (LP.St w1.drew pb (LP.Pm.new i j (LP.most 8))) := Lib.hid P1
  have HL1 : Hid (w.heap.size ≤ pb) := Lib.hid (by omega)
  have hw1 : w.heap.size < w1.drew.heap.size := by have := b1.size; show _ < w1.heap.size; omega
  clear z0 b0 s0 x0 x1 P1 b1 l1 HP
  go_wp2_with fail
  generalize hwd : w1.drew = wd at *
  have BD := Lib.hid (Below.refl wd.heap.size wd)
  generalize hg0 : w.heap.size = g0 at *
  refine wp_region_noPanic ?_
  refine wp_region_held_drew (S := fun W => W.cell? ⟨g0, 2, none⟩ = some (.int .i64 op) ∧ W.cell? ⟨g0, 3, none⟩ = some (.int .i64 tp)) (by kernel_rfl) (by rw [hwd]; exact y0) (fun _ => ?_)
  rw [hwd]
  clear hwd
  refine held_take (i := 0) (v := .int .u64 (key : Int)) (some 17) rfl rfl (by kernel_rfl) (by kernel_rfl) (by kernel_rfl) (fun _ _ _ h => h) (Or.inl ⟨by rfl, fun W hW => by go_simp⟩) y0 ?_
  simp only [Act.put, List.setIfInBounds_toArray, List.set_cons_zero, List.set_cons_succ]
  refine held_take (i := 1) (v := .pointer (some ⟨g0, 2, none⟩)) (some 18) rfl rfl (by kernel_rfl) (by kernel_rfl) (by kernel_rfl) (fun _ _ _ h => h) (Or.inl ⟨by rfl, fun W hW => by go_simp⟩) y0 ?_
  simp only [Act.put, List.setIfInBounds_toArray, List.set_cons_zero, List.set_cons_succ]
  refine held_take (i := 3) (v := .pointer (some ⟨g0, 3, none⟩)) (some 20) rfl rfl (by kernel_rfl) (by kernel_rfl) (by kernel_rfl) (fun _ _ _ h => h) (Or.inl ⟨by rfl, fun W hW => by go_simp⟩) y0 ?_
  simp only [Act.put, List.setIfInBounds_toArray, List.set_cons_zero, List.set_cons_succ]
  refine held_take (i := 7) (v := .pointer (some ⟨pb, 0, none⟩)) (some 24) rfl rfl (by kernel_rfl) (by kernel_rfl) (by kernel_rfl) (fun _ _ _ h => h) (Or.inl ⟨by rfl, fun W hW => by go_simp⟩) y0 ?_
  simp only [Act.put, List.setIfInBounds_toArray, List.set_cons_zero, List.set_cons_succ]
  refine held_take (i := 8) (v := .int .i64 t) (some 25) rfl rfl (by kernel_rfl) (by kernel_rfl) (by kernel_rfl) (fun _ _ _ h => h) (Or.inl ⟨by rfl, fun W hW => by go_simp⟩) y0 ?_
  simp only [Act.put, List.setIfInBounds_toArray, List.set_cons_zero, List.set_cons_succ]
  refine held_take (i := 2) (v := .int .i64 op) (some 19) rfl rfl (by kernel_rfl) (by kernel_rfl) (by kernel_rfl) (fun _ _ _ h => h) (Or.inl ⟨by rfl, fun W hW => by have hc := hW.1; go_simp⟩) y0 ?_
  simp only [Act.put, List.setIfInBounds_toArray, List.set_cons_zero, List.set_cons_succ]
  refine held_take (i := 4) (v := .int .i64 tp) (some 21) rfl rfl (by kernel_rfl) (by kernel_rfl) (by kernel_rfl) (fun _ _ _ h => h) (Or.inl ⟨by rfl, fun W hW => by have hc := hW.2; go_simp⟩) y0 ?_
  simp only [Act.put, List.setIfInBounds_toArray, List.set_cons_zero, List.set_cons_succ]
  refine wpAnyH_ready (rs := [5]) (by kernel_rfl) (by simp) ?_
  refine AllReadyH.cons rfl (fun K hK => ?_) AllReadyH.nil
  go_simp
  refine (HS.out _).mono ?_
  rintro e wA ⟨sb, so, rfl, l2, l2', S2, bA⟩
  have HS2 := Lib.hid S2
  have HL2 := Lib.hid (And.intro l2 l2')
  clear S2 l2 l2' HS
  unfold cptr
  have eA : wA.cell? ⟨g0, 2, none⟩ = some (.int .i64 op) ∧ wA.cell? ⟨g0, 3, none⟩ = some (.int .i64 tp) := ⟨(bA.cell (by have := BD.out.size; show g0 < _; omega)).trans y0.1, (bA.cell (by have := BD.out.size; show g0 < _; omega)).trans y0.2⟩
  have CA := Lib.hid bA
  have BA := Lib.hid (BD.out.trans (bA.mono BD.out.size))
  clear bA
  dsimp only
  refine hK.out _ _ eA (fun _ => ?_)
  clear hK
  try simp only [Act.put, List.setIfInBounds_toArray, List.set_cons_zero, List.set_cons_succ]
  refine wpAnyH_ready (rs := [6]) (by kernel_rfl) (by simp) ?_
  refine AllReadyH.cons rfl (fun K hK => ?_) AllReadyH.nil
  go_simp
  refine (HR.out _).mono ?_
  rintro e wR ⟨rb, sr, sm, rfl, l3, l3', l3'', R3, bR⟩
  have HR3 := Lib.hid R3
  have HL3 := Lib.hid (And.intro l3 (And.intro l3' l3''))
  clear R3 l3 l3' l3'' HR
  unfold cptr
  have eR : wR.cell? ⟨g0, 2, none⟩ = some (.int .i64 op) ∧ wR.cell? ⟨g0, 3, none⟩ = some (.int .i64 tp) := ⟨(bR.cell (by have := BA.out.size; show g0 < _; omega)).trans eA.1, (bR.cell (by have := BA.out.size; show g0 < _; omega)).trans eA.2⟩
  have CR := Lib.hid bR
  have BR := Lib.hid (BA.out.trans (bR.mono BA.out.size))
  clear bR
  dsimp only
  refine hK.out _ _ eR (fun _ => ?_)
  clear hK
  try simp only [Act.put, List.setIfInBounds_toArray, List.set_cons_zero, List.set_cons_succ]
  refine wpAnyH_ready (rs := [9]) (by kernel_rfl) (by simp) ?_
  refine AllReadyH.cons rfl (fun K hK => ?_) AllReadyH.nil
  go_simp
  refine (HWN.out _).mono ?_
  rintro e wW ⟨lab, wb, rfl, o4, f4⟩
  have HO4 : Hid (LW.On wW lab wb 0 []) := Lib.hid o4
  have HF4 := Lib.hid f4
  have bW : Below wR.heap.size wR wW := (chlw f4.1).below (fun _ _ e => e rfl)
  clear o4 f4 HWN
  have eW : wW.cell? ⟨g0, 2, none⟩ = some (.int .i64 op) ∧ wW.cell? ⟨g0, 3, none⟩ = some (.int .i64 tp) := ⟨(bW.cell (by have := BR.out.size; show g0 < _; omega)).trans eR.1, (bW.cell (by have := BR.out.size; show g0 < _; omega)).trans eR.2⟩
  have CW := Lib.hid bW
  have BW := Lib.hid (BR.out.trans (bW.mono BR.out.size))
  clear bW
  dsimp only
  refine hK.out _ _ eW (fun _ => ?_)
  clear hK
  try simp only [Act.put, List.setIfInBounds_toArray, List.set_cons_zero, List.set_cons_succ]
  refine held_take (i := 10) (v := .agg #[.int .i64 t, .pointer (some ⟨wb, 0, none⟩), .int .i64 0, .int .i64 0, .int .i64 0, .int .i64 0, .int .i64 0]) (some 27) rfl rfl (by kernel_rfl) (by kernel_rfl) (by kernel_rfl) (fun _ _ _ h => h) (Or.inl ⟨by rfl, fun W hW => by kernel_rfl⟩) eW ?_
  simp only [Act.put, List.setIfInBounds_toArray, List.set_cons_zero, List.set_cons_succ]
  refine held_take (i := 11) (v := .agg (Cv.fresh key op tp t sb rb pb wb).cs) (some 28) rfl rfl (by kernel_rfl) (by kernel_rfl) (by kernel_rfl) (fun _ _ _ h => h) (Or.inl ⟨by rfl, fun W hW => by kernel_rfl⟩) eW ?_
  simp only [Act.put, List.setIfInBounds_toArray, List.set_cons_zero, List.set_cons_succ]
  refine wpAnyH_ready (rs := [12]) (by kernel_rfl) (by simp) ?_
  refine AllReadyH.cons rfl (fun K hK => ?_) AllReadyH.nil
  refine step_boxV (by rfl) 101 (.tmp 28) rfl (Cv.fresh key op tp t sb rb pb wb).cs.toList rfl ?_
  intro cb wE hcb hwE
  have HD := Lib.hid (with_done (w := w) (key := key) (op := op) (tp := tp) (t := t) (hg0 ▸ B1.out) HP1.out (hg0 ▸ HL1.out) CA.out HS2.out HL2.out CR.out HR3.out HL3.out HO4.out HF4.out)
  have bE : Below wW.heap.size wW wE := by rw [hwE.out]; exact below_a wW _
  have eE : wE.cell? ⟨g0, 2, none⟩ = some (.int .i64 op) ∧ wE.cell? ⟨g0, 3, none⟩ = some (.int .i64 tp) := ⟨(bE.cell (by have := BW.out.size; show g0 < _; omega)).trans eW.1, (bE.cell (by have := BW.out.size; show g0 < _; omega)).trans eW.2⟩
  have HGE : Hid (g0 ≤ cb) := Lib.hid (by have := hcb.out; have := BW.out.size; omega)
  rw [← hcb.out] at HD
  rw [show wW.alloc (.cells (Cv.fresh key op tp t sb rb pb wb).cs 101) = wE from hwE.out.symm] at HD
  clear bE hwE hcb
  show K (Act.put _ (some 29) _) _
  refine hK.out _ _ eE (fun _ => ?_)
  clear hK
  try simp only [Act.put, List.setIfInBounds_toArray, List.set_cons_zero, List.set_cons_succ]
  refine held_take (i := 13) (v := .pointer (some ⟨cb, 0, none⟩)) (some 6) rfl rfl (by kernel_rfl) (by kernel_rfl) (by kernel_rfl) (fun _ _ _ h => h) (Or.inl ⟨by rfl, fun W hW => by go_simp⟩) eE ?_
  simp only [Act.put, List.setIfInBounds_toArray, List.set_cons_zero, List.set_cons_succ]
  refine wpAnyH_done (by kernel_rfl) ?_ _
  refine NoPanic.normal ?_
  go_wp2_with fail
  go_ret
  exact ⟨cb, rfl, by rw [hg0]; exact HGE.out, HD.out⟩
end Go.Proofs.YtiehngeeamhlmaaGreatDoor

namespace Go.Proofs.YtiehngeeamhlmaaGreatDoor
set_option linter.unusedVariables false
set_option linter.unusedSimpArgs false
set_option maxRecDepth 20000
open Go.RowKit Go.Lib

theorem zeroOcc : (Tryz.prog.info? 208).map (·.zero) = some (some (.agg LF.zO.vals.toArray)) := by kernel_rfl
section
variable {base : Nat} {w w' : World} {lab ro lab' ro' : Nat → Nat} {cb lb : Nat} {z : Zc}
/-- The flow that was asked what it wants to be sent. -/
def Zc.quiet (z : Zc) : Zc := { z with s := z.s.quiet, x := z.x.quiet }
theorem Wo.asked (h : Wo base w lab ro cb lb z) (f : LF.Fl base w' z.s.quiet z.x.quiet) (c : Ch w w' (fun g => g = z.s.fb)) : ∃ ro', Wo base w' lab ro' cb lb z.quiet ∧ Fx lab ro w lab ro' w' :=
  h.flow (s' := z.s.quiet) rfl f (c.mono (fun g _ e => .inl e)) (fun g hg => .inl (by
    rcases hg with e | hg | hg | ⟨o, ho, hg⟩
    · exact .inl e
    · exact .inr (.inl hg)
    · cases hg
    · cases ho))
set_option maxHeartbeats 1600000 in
theorem emit0_any (h : Wo base w lab ro cb lb z) (hol : z.s.ol = []) :
    Calls Tryz.prog 92 #[cptr cb, cptr lb, .slice none 0 0] w fun e w' => e = .returned (.tuple #[]) ∧ ∃ ro', Wo base w' lab ro' cb lb z.quiet ∧ Fx lab ro w lab ro' w' := by
  have HW := Lib.hid h
  have c0 := h.la.fl_
  rw [h.fe] at c0
  have HO := Lib.hid (LF.Out_any h.fl)
  have hrow := h.fl.row
  rw [hol] at hrow
  obtain ⟨A, n, hs, _, _⟩ := LF.own_slice hrow
  clear h hrow
  unfold cptr at *
  unfold LF.ptr at HO
  rw [hs] at HO
  go_enter Tryz.func92, Tryz.ntmps92
  go_wp2_with fail
  refine HO.out.mono ?_
  rintro e w1 ⟨rfl, f1, k1⟩
  have HZ := Lib.hid (HW.out.asked f1 k1)
  clear f1 k1 HO
  go_wp2_with fail
  go_loopw [15] (fun i wr => i = .int .i64 0 ∧ wr = w1) (fun _ _ => 0)
  case atStart => exact ⟨rfl, rfl⟩
  case round =>
    obtain ⟨rfl, rfl⟩ := hrel
    go_wp2_with fail
    go_end0
    exact ⟨rfl, HZ.out⟩
/-- What is left where one Syn was sent. -/
def EmitP (base : Nat) (w : World) (lab ro : Nat → Nat) (cb lb : Nat) (z : Zc) (o : LF.Oc) (w' : World) : Prop :=
  ∃ (ro' : Nat → Nat) (v' ov dv : Value), Wo base w' lab ro' cb lb { z.quiet with c := { z.c with sv := v' }, g := z.g ++ [synSg z.l.ow z.l.ot z.c.op z.c.tp o.p.seq o.ack o.acks o.p.fin o.rst ov dv] } ∧ Fx lab ro w lab ro' w' ∧ (∃ ob, ov = .slice (some ⟨ob, 0, none⟩) 1 1 ∧ Own w' ob z.l.he.vals)
theorem emit_mid {W w2 w3 w4 w5 : World} {o : LF.Oc} {seq dc : Nat} {fin last : Bool} {dA : Option Addr} {dsn : Int} (hpv : o.p.vals = [.int .u32 (seq : Int), .bool true, .bool fin, .slice dA 0 dc, .int .i64 dsn, .bool last])
    (z3 : Own w3 W.heap.size o.vals) (b2 : Below W.heap.size W w2) (s2 : w2.heap.size = W.heap.size + 1) (g3 : w2.grownBy w3 (some W.heap.size)) (s3 : w3.heap.size = w2.heap.size) (b4 : Below w3.heap.size w3 w4) (s4 : w4.heap.size = w3.heap.size + 1) (z5 : Own w5 w3.heap.size o.p.vals) (g5 : w4.grownBy w5 (some w3.heap.size)) (s5 : w5.heap.size = w4.heap.size) :
    w5.cell? ⟨W.heap.size + 1, 1, none⟩ = some (.bool true) ∧ w5.rangeAt W.heap.size 0 o.vals ∧ Below W.heap.size W w5 := by
  refine ⟨?_, ((z3.below b4).far g5 (fun e => by injection e with e; omega)).range, ?_⟩
  · have := (z5 1 (by rw [hpv]; simp)).1
    rw [hpv, s3, s2] at this
    exact this
  · have b3 := v_below_g b2 g3 b2.size (Nat.le_refl _)
    exact v_below_g (b3.trans (b4.mono b3.size)) g5 (by omega) (by omega)
set_option maxHeartbeats 6400000 in
theorem emit1_any (h : Wo base w lab ro cb lb z) (hb : base ≤ w.heap.size) (hn : z.g.length ≤ 549755813888) {o : LF.Oc} (hol : z.s.ol = [o]) (hsy : o.p.syn = true) (hds : o.p.ds = []) :
    Calls Tryz.prog 92 #[cptr cb, cptr lb, .slice none 0 0] w fun e w' => e = .returned (.tuple #[]) ∧ EmitP base w lab ro cb lb z o w' := by
  have HW := Lib.hid h
  have HB := Lib.hid hb
  have HN := Lib.hid hn
  have c0 := h.la.fl_
  rw [h.fe] at c0
  have HO := Lib.hid (LF.Out_any h.fl)
  have hrow := h.fl.row
  have hne := h.fl.ne_row
  have hpo := (h.fl.og o (by rw [hol]; simp)).1
  have hnd := h.fl.ne_data (o := o) (by rw [hol]; simp)
  rw [hol] at hrow
  obtain ⟨gb, cap, hs⟩ : ∃ gb cap, z.s.ov = .slice (some ⟨gb, 0, none⟩) 1 cap := by
    rcases hrow.2 with ⟨e, e2⟩ | ⟨g', cap, cur, e, _⟩
    · cases e2
    · exact ⟨g', cap, e⟩
  rw [hs] at hrow hne HO
  have hcp : 1 ≤ cap := by
    obtain ⟨A, c, e, h1, h2⟩ := LF.own_slice hrow
    injection e with _ _ e
    omega
  have hmx : cap ≤ 9223372036854775807 := by
    obtain ⟨A, c, e, h1, h2⟩ := LF.own_slice hrow
    injection e with _ _ e
    omega
  have r0 := LF.own_rangeO hrow (j := 0) (by simp)
  have hne : gb ≠ z.s.fb := fun e => hne (by rw [e]; rfl)
  obtain ⟨⟨seq, syn, fin, dA, dn, dc, dsn, last, ds⟩, ack, acks, rst⟩ := o
  dsimp only at hsy hds
  subst hsy hds
  have hd0 : dn = 0 := by
    have := hpo.data.1
    simpa [bv] using this.symm
  subst hd0
  have HD := Lib.hid hpo.pg.data
  have HND := Lib.hid hnd
  have r1 : w.rangeAt gb 0 (synOc seq ack acks fin rst last dA dc dsn).vals := by
    have h := r0
    simp only [List.getD_cons_zero, Nat.zero_mul] at h
    exact h
  clear h hrow hol hpo hnd r0 hb hn
  have hso : (⟨⟨seq, true, fin, dA, 0, dc, dsn, last, []⟩, ack, acks, rst⟩ : LF.Oc) = synOc seq ack acks fin rst last dA dc dsn := rfl
  rw [hso]
  clear hso
  generalize hop : synOc seq ack acks fin rst last dA dc dsn = o at *
  have hpv : o.p.vals = [.int .u32 (seq : Int), .bool true, .bool fin, .slice dA 0 dc, .int .i64 dsn, .bool last] := by subst hop; rfl
  have hrp : ∀ (W : World) (k : Nat), W.rangeAt k 0 o.vals → W.rangeAt k 0 o.p.vals := fun W k hk j v hv => by
    have hj : j < 6 := (List.getElem?_eq_some_iff.1 hv).1
    refine hk j v ?_
    unfold LF.Oc.vals
    rw [List.getElem?_append_left (by exact hj)]
    exact hv
  have HOP := Lib.hid hop
  clear hop
  unfold cptr at *
  unfold LF.ptr at HO
  go_enter Tryz.func92, Tryz.ntmps92
  go_wp2_with fail
  refine HO.out.mono ?_
  rintro e w1 ⟨rfl, f1, k1⟩
  obtain ⟨ro1, Z1, X1⟩ := HW.out.asked f1 k1
  have HZ := Lib.hid Z1
  have HX := Lib.hid X1
  have hs1 := k1.size
  have r2 : w1.rangeAt gb 0 o.vals := rangeAt_ch k1 r1 hne
  have HD1 : Hid (RB w1 dA 0 dc []) := Lib.hid (RB.zero w1 dA HD.out.2.2.1)
  clear f1 k1 HO Z1 X1 r1 HD
  go_wp2_with fail
  go_loopw [15] (fun i wr => (i = .int .i64 0 ∧ wr = w1) ∨ (i = .int .i64 1 ∧ EmitP base w lab ro cb lb z o wr)) (fun i _ => 1 - (intOf i).toNat)
  case atStart => exact .inl ⟨rfl, rfl⟩
  case round =>
    rcases hrel with ⟨rfl, rfl⟩ | ⟨rfl, hP⟩
    · go_wp2_with (first
        | ((with_reducible refine wpList_here ?_); refine wpList_loadV (o := ⟨some 18, _, _, _, _, _⟩) rfl 208 (.tmp 17) rfl gb 0 o.vals rfl r2 _ Tryz.underlying208 rfl LF.sizeOc ?_)
        | ((with_reducible refine wpList_here ?_); refine wpList_allocV (o := ⟨some 7, _, _, _, _, _⟩) rfl 208 rfl LF.zO.vals zeroOcc _ rfl ?_; intro w2 z2 b2 s2)
        | ((with_reducible refine wpList_here ?_); refine wpList_storeV (o := ⟨none, .store 208 _ _, _, _, _, _⟩) rfl 208 (.tmp 7) (.tmp 18) rfl _ _ o.vals rfl rfl z2 rfl (LF.oc_one o) LF.sizeOc ?_; intro w3 z3 g3 s3; have r3 := hrp _ _ z3.range)
        | ((with_reducible refine wpList_here ?_); refine wpList_loadV (o := ⟨some 20, _, _, _, _, _⟩) rfl 206 (.tmp 19) rfl _ 0 o.p.vals rfl r3 _ Tryz.underlying206 rfl LF.infoPc ?_)
        | ((with_reducible refine wpList_here ?_); refine wpList_allocV (o := ⟨some 8, _, _, _, _, _⟩) rfl 206 rfl LF.zP.vals LF.zeroPc _ rfl ?_; intro w4 z4 b4 s4)
        | ((with_reducible refine wpList_here ?_); refine wpList_storeV (o := ⟨none, .store 206 _ _, _, _, _, _⟩) rfl 206 (.tmp 8) (.tmp 20) rfl _ _ o.p.vals rfl rfl z4 rfl (LF.pc_one o.p) LF.infoPc ?_; intro w5 z5 g5 s5; obtain ⟨c5, r5, b5⟩ := emit_mid hpv z3 b2 s2 g3 s3 b4 s4 z5 g5 s5; have B5 := Lib.hid b5; clear z2 z3 z4 z5 g3 g5 b2 b4 r3 b5)
        | ((with_reducible refine wpList_here ?_); refine wpList_loadV (o := ⟨some 45, _, _, _, _, _⟩) rfl 208 (.tmp 7) rfl wr.heap.size 0 o.vals rfl r5 _ Tryz.underlying208 rfl LF.sizeOc ?_)
        | fail)
      have HP := Lib.hid (put_any (HZ.out.below B5.out).ca (HZ.out.below B5.out).la (HZ.out.below B5.out).sv (by have := HB.out; have := B5.out.size; omega) HN.out seq ack acks fin rst last dA dc dsn (RB.zero w5 dA HD1.out.2.2.1))
      rw [HOP.out] at HP
      unfold cptr at HP
      refine HP.out.mono ?_
      rintro e w6 ⟨rfl, q6⟩
      have HQ : Hid (EmitP base w lab ro cb lb z o w6) := Lib.hid (by
        obtain ⟨ro2, v', ov, dv, Z2, X2, hO⟩ := (HZ.out.below B5.out).put (by have := HB.out; have := B5.out.size; omega) q6
        rw [← HOP.out]
        exact ⟨ro2, v', ov, dv, Z2, (HX.out.trans (Fx.below lab ro1 B5.out)).trans X2, hO⟩)
      clear q6 HP
      go_wp2_with fail
      go_roundw
      case rel => exact .inr ⟨by go_num, HQ.out⟩
      case measure => simp [intOf]
    · go_wp2_with fail
      go_end0
      exact ⟨rfl, hP⟩
end
end Go.Proofs.YtiehngeeamhlmaaGreatDoor

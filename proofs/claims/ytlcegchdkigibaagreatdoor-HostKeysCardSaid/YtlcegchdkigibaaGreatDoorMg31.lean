/- A connection without legs, in memory; the contract of without. Conditions: its addresses may be.
The contract of Conn.emit, where the leg's flow wants nothing, or one Syn, to be sent. Conditions: the connection stands, at most 2^39 segments wait.
The contracts of Conn.newLeg, drawn and start. Conditions: a connection without legs stands; the table of digests is as the program lays it.
The contract of Conn.start. Conditions: a connection without legs stands, beside it a leg with a flow that wants one Syn to be sent. -/
import Derived.Test.YtlcegchdkigibaaGreatDoorMg30
import Derived.Test.YtlcegchdkigibaaGreatDoorMg28
import Derived.Test.YtlcegchdkigibaaGreatDoorMg6
namespace Go.Proofs.YtlcegchdkigibaaGreatDoor
set_option linter.unusedVariables false
set_option linter.unusedSimpArgs false
set_option maxRecDepth 20000
open Go.RowKit Go.Lib

/-- A connection without legs stands, to whose sender and receiver nothing was done. -/
structure Wz (base : Nat) (w : World) (lab ro : Nat → Nat) (cb : Nat) (c : Cv) (p : LP.Pm) (so sr sm n : Nat) (L : List (Int × Int)) : Prop where
  ca : Ca w cb c
  rc : ro cb = 1
  sn : Sn w c.sb so
  rs : ro c.sb = 4 ∧ ro so = 4
  rn : Rn w c.rb sr sm
  rr : ro c.rb = 5 ∧ ro sr = 5 ∧ ro sm = 5
  pa : LP.St w c.pb p
  rp : ro c.pb = 6
  wh : LW.On w lab c.wb n L
  ds : ∀ k, ro k ≠ 0 → lab k = 0 ∧ base ≤ k ∧ k < w.heap.size
  wl : ∀ k, lab k ≠ 0 → base ≤ k
section
variable {base : Nat} {w w' : World} {lab ro lab' ro' : Nat → Nat} {cb lb : Nat} {c : Cv} {p : LP.Pm} {so sr sm n : Nat} {L : List (Int × Int)}
/-- What alone may have turned has no role. -/
theorem Wz.frame (h : Wz base w lab ro cb c p so sr sm n L) {m : Nat → Prop} (k : Ch w w' m) (hm : ∀ g, m g → ro g = 0 ∧ lab g = 0) : Wz base w' lab ro cb c p so sr sm n L := by
  have hd : ∀ g d, d ≠ 0 → ro g = d → ¬ m g := fun g d hd e k => hd (e.symm.trans (hm g k).1)
  exact ⟨h.ca.ch k (hd _ 1 (by decide) h.rc), h.rc, h.sn.ch k (hd _ 4 (by decide) h.rs.1) (hd _ 4 (by decide) h.rs.2), h.rs, h.rn.ch k (hd _ 5 (by decide) h.rr.1) (hd _ 5 (by decide) h.rr.2.1) (hd _ 5 (by decide) h.rr.2.2), h.rr,
    h.pa.ch k (hd _ 6 (by decide) h.rp), h.rp, h.wh.ch (lwch k) (fun g hg => (hm g hg).2), fun g hg => ⟨(h.ds g hg).1, (h.ds g hg).2.1, Nat.lt_of_lt_of_le (h.ds g hg).2.2 k.size⟩, h.wl⟩
theorem Wz.below (h : Wz base w lab ro cb c p so sr sm n L) (b : Below w.heap.size w w') : Wz base w' lab ro cb c p so sr sm n L := h.frame (Ch.of_below (fun _ => False) b) (fun _ e => e.elim)
theorem Wz.new_lab (h : Wz base w lab ro cb c p so sr sm n L) {k : Nat} (hk : w.heap.size ≤ k) : lab k = 0 := by
  rcases Nat.eq_zero_or_pos (lab k) with e | e
  · exact e
  · have := h.wh.lt (k := k) (by omega)
    omega
theorem Wz.new_ro (h : Wz base w lab ro cb c p so sr sm n L) {k : Nat} (hk : w.heap.size ≤ k) : ro k = 0 := by
  rcases Nat.eq_zero_or_pos (ro k) with e | e
  · exact e
  · have := (h.ds k (by omega)).2.2
    omega
/-- Its own cells alone turned, and blocks without a role. -/
theorem Wz.own (h : Wz base w lab ro cb c p so sr sm n L) {m : Nat → Prop} (k : Ch w w' m) (hm : ∀ g, m g → g = cb ∨ ro g = 0 ∧ lab g = 0) {c' : Cv} (hc : Ca w' cb c') (h1 : c'.sb = c.sb) (h2 : c'.rb = c.rb) (h3 : c'.pb = c.pb) (h6 : c'.wb = c.wb) : Wz base w' lab ro cb c' p so sr sm n L := by
  have hd : ∀ g d, d ≠ 1 → d ≠ 0 → ro g = d → ¬ m g := fun g d h1 h0 e k => by
    rcases hm g k with rfl | ⟨e2, _⟩
    · exact h1 (e.symm.trans h.rc)
    · exact h0 (e.symm.trans e2)
  have hl : ∀ g, m g → lab g = 0 := fun g k => by
    rcases hm g k with rfl | ⟨_, e2⟩
    · exact (h.ds _ (by rw [h.rc]; decide)).1
    · exact e2
  refine ⟨hc, h.rc, ?_, ?_, ?_, ?_, ?_, ?_, ?_, fun g hg => ⟨(h.ds g hg).1, (h.ds g hg).2.1, Nat.lt_of_lt_of_le (h.ds g hg).2.2 k.size⟩, h.wl⟩
  · rw [h1]; exact h.sn.ch k (hd _ 4 (by decide) (by decide) h.rs.1) (hd _ 4 (by decide) (by decide) h.rs.2)
  · rw [h1]; exact h.rs
  · rw [h2]; exact h.rn.ch k (hd _ 5 (by decide) (by decide) h.rr.1) (hd _ 5 (by decide) (by decide) h.rr.2.1) (hd _ 5 (by decide) (by decide) h.rr.2.2)
  · rw [h2]; exact h.rr
  · rw [h3]; exact h.pa.ch k (hd _ 6 (by decide) (by decide) h.rp)
  · rw [h3]; exact h.rp
  · rw [h6]; exact h.wh.ch (lwch k) hl
/-- A leg, its flow and its row make it one with a leg. -/
theorem Wz.leg (h : Wz base w lab ro cb c p so sr sm n L) {l : Lc} {s : LF.Sh} {x : LF.F} (hl : La w lb l) (hlb : base ≤ lb) (he : l.fl = cptr s.fb) (hf : LF.Fl base w s x) (hv : w.ownsRow base 106 1 c.lv 1 [cptr lb]) (hs : c.sv = .slice none 0 0)
    (r1 : ro lb = 0 ∧ lab lb = 0) (r2 : ∀ g, s.T g → (ro g = 0 ∧ lab g = 0) ∧ g ≠ lb) (r3 : ∀ g, c.lv.ownBlock = some g → (ro g = 0 ∧ lab g = 0) ∧ g ≠ lb ∧ ¬ s.T g) :
    ∃ ro', Wo base w lab ro' cb lb ⟨c, l, s, x, n, L, [], p, so, sr, sm⟩ ∧ ∀ k, ro k ≠ 0 → ro' k = ro k := by
  classical
  have key : ∀ k d, d ≠ 0 → ro k = d → (if k = lb then 2 else if s.T k then 3 else if c.lv.ownBlock = some k then 7 else ro k) = d := fun k d hd e => by
    rw [if_neg (fun e2 => hd (by rw [← e, e2]; exact r1.1)), if_neg (fun e2 => hd (by rw [← e]; exact (r2 k e2).1.1)), if_neg (fun e2 => hd (by rw [← e]; exact (r3 k e2).1.1)), e]
  refine ⟨fun k => if k = lb then 2 else if s.T k then 3 else if c.lv.ownBlock = some k then 7 else ro k, ⟨h.ca, key _ 1 (by decide) h.rc, hl, if_pos rfl, he, hf, fun g hg => ?_, h.sn, ⟨key _ 4 (by decide) h.rs.1, key _ 4 (by decide) h.rs.2⟩, h.rn, ⟨key _ 5 (by decide) h.rr.1, key _ 5 (by decide) h.rr.2.1, key _ 5 (by decide) h.rr.2.2⟩,
    h.pa, key _ 6 (by decide) h.rp, hv, fun g hg => ?_, (by rw [hs]; exact World.ownsRow_nil _ _ _ _), (fun g hg => by rw [hs] at hg; cases hg), (fun q hq => by cases hq), h.wh, fun k hk => ?_, h.wl⟩, fun k hk => key k _ hk rfl⟩
  · show (if g = lb then 2 else if s.T g then 3 else _) = 3
    rw [if_neg (r2 g hg).2, if_pos hg]
  · show (if g = lb then 2 else if s.T g then 3 else if c.lv.ownBlock = some g then 7 else ro g) = 7
    rw [if_neg (r3 g hg).2.1, if_neg (r3 g hg).2.2, if_pos hg]
  · have hk : (if k = lb then 2 else if s.T k then 3 else if c.lv.ownBlock = some k then 7 else ro k) ≠ 0 := hk
    by_cases h1 : k = lb
    · subst h1
      exact ⟨r1.2, hlb, hl.lt⟩
    · rw [if_neg h1] at hk
      by_cases h2 : s.T k
      · exact ⟨(r2 k h2).1.2, (hf.in_ h2).1, (hf.in_ h2).2⟩
      · rw [if_neg h2] at hk
        by_cases h3 : c.lv.ownBlock = some k
        · exact ⟨(r3 k h3).1.2, (own_in hv h3).1, (own_in hv h3).2⟩
        · rw [if_neg h3] at hk
          exact h.ds k hk
end
/-- A connection that has nothing yet. -/
def Cv.fresh (key : Nat) (op tp t : Int) (sb rb pb wb : Nat) : Cv := ⟨key, 0, op, tp, 0, 0, 0, false, sb, rb, pb, .slice none 0 0, 0, 0, -1, t, wb, 0, 0, 0, 0, 0, 0, 0, .slice none 0 0⟩
/-- Blocks, by when they came to be. -/
def roles (s0 s1 s2 s3 s4 : Nat) : Nat → Nat := fun k => if k < s0 then 0 else if k < s1 then 6 else if k < s2 then 4 else if k < s3 then 5 else if k = s4 then 1 else 0
section
variable {s0 s1 s2 s3 s4 k : Nat}
theorem roles0 (h : k < s0) : roles s0 s1 s2 s3 s4 k = 0 := by unfold roles; rw [if_pos h]
theorem roles6 (h : s0 ≤ k) (h' : k < s1) : roles s0 s1 s2 s3 s4 k = 6 := by unfold roles; rw [if_neg (by omega), if_pos h']
theorem roles4 (a : s0 ≤ s1) (h : s1 ≤ k) (h' : k < s2) : roles s0 s1 s2 s3 s4 k = 4 := by unfold roles; rw [if_neg (by omega), if_neg (by omega), if_pos h']
theorem roles5 (a : s0 ≤ s1) (b : s1 ≤ s2) (h : s2 ≤ k) (h' : k < s3) : roles s0 s1 s2 s3 s4 k = 5 := by unfold roles; rw [if_neg (by omega), if_neg (by omega), if_neg (by omega), if_pos h']
theorem roles1 (a : s0 ≤ s1) (b : s1 ≤ s2) (c : s2 ≤ s3) (d : s3 ≤ s4) : roles s0 s1 s2 s3 s4 s4 = 1 := by unfold roles; rw [if_neg (by omega), if_neg (by omega), if_neg (by omega), if_neg (by omega), if_pos rfl]
theorem roles_in (a : s0 ≤ s1) (b : s1 ≤ s2) (c : s2 ≤ s3) (d : s3 ≤ s4) (h : roles s0 s1 s2 s3 s4 k ≠ 0) : s0 ≤ k ∧ (k < s3 ∨ k = s4) := by
  unfold roles at h
  by_cases h0 : k < s0
  · rw [if_pos h0] at h
    exact absurd rfl h
  · refine ⟨by omega, ?_⟩
    by_cases h3 : k < s3
    · exact .inl h3
    · rw [if_neg h0, if_neg (by omega), if_neg (by omega), if_neg h3] at h
      by_cases h4 : k = s4
      · exact .inr h4
      · rw [if_neg h4] at h
        exact absurd rfl h
end
def WithP (w : World) (key : Nat) (op tp t : Int) (i j : Nat) (w' : World) (cb : Nat) : Prop :=
  ∃ lab ro sb rb pb wb so sr sm, Wz w.heap.size w' lab ro cb (Cv.fresh key op tp t sb rb pb wb) (LP.Pm.new i j (LP.most 8)) so sr sm 0 [] ∧ (∀ k, k < w.heap.size → lab k = 0 ∧ ro k = 0) ∧ Below w.heap.size w w'
theorem with_done {w w1 w2 w3 w4 : World} {key i j : Nat} {op tp t : Int} {sb rb pb wb so sr sm : Nat} {lab : Nat → Nat} (b1 : Below w.heap.size w w1) (h1 : LP.St w1 pb (LP.Pm.new i j (LP.most 8))) (l1 : w.heap.size ≤ pb)
    (b2 : Below w1.heap.size w1 w2) (h2 : Sn w2 sb so) (l2 : w1.heap.size ≤ sb ∧ w1.heap.size ≤ so) (b3 : Below w2.heap.size w2 w3) (h3 : Rn w3 rb sr sm) (l3 : w2.heap.size ≤ rb ∧ w2.heap.size ≤ sr ∧ w2.heap.size ≤ sm)
    (h4 : LW.On w4 lab wb 0 []) (f4 : LW.Fr (fun _ => 0) w3 lab w4) :
    WithP w key op tp t i j (w4.alloc (.cells (Cv.fresh key op tp t sb rb pb wb).cs 136)) w4.heap.size := by
  have b4 : Below w3.heap.size w3 w4 := (chlw f4.1).below (fun _ _ e => e rfl)
  have b5 := below_a w4 (.cells (Cv.fresh key op tp t sb rb pb wb).cs 136)
  have z1 := b1.size
  have z2 := b2.size
  have z3 := b3.size
  have z4 := b4.size
  have hpb := h1.lt
  have hsn := h2.lt
  have hrn := h3.lt
  have sz : (w4.alloc (.cells (Cv.fresh key op tp t sb rb pb wb).cs 136)).heap.size = w4.heap.size + 1 := by simp
  refine ⟨lab, roles w.heap.size w1.heap.size w2.heap.size w3.heap.size w4.heap.size, sb, rb, pb, wb, so, sr, sm, ⟨heap_alloc_new w4 _, roles1 z1 z2 z3 z4, ((h2.below b3).below b4).below b5, ⟨roles4 z1 l2.1 hsn.1, roles4 z1 l2.2 hsn.2⟩, (h3.below b4).below b5, ⟨roles5 z1 z2 l3.1 hrn.1, roles5 z1 z2 l3.2.1 hrn.2.1, roles5 z1 z2 l3.2.2 hrn.2.2⟩,
    (((h1.below b2).below b3).below b4).below b5, roles6 l1 hpb, h4.below b5, fun k hk => ?_, fun k hk => ?_⟩, fun k hk => ⟨f4.2 k (by omega), roles0 hk⟩, below_trans (below_trans (below_trans (below_trans b1 b2) b3) b4) b5⟩
  · obtain ⟨h5, h6⟩ := roles_in z1 z2 z3 z4 hk
    refine ⟨?_, h5, by omega⟩
    rcases h6 with e | e
    · exact f4.2 k e
    · rcases Nat.eq_zero_or_pos (lab k) with e2 | e2
      · exact e2
      · have := h4.lt (k := k) (by omega)
        omega
  · rcases Nat.lt_or_ge k w3.heap.size with e | e
    · exact absurd (f4.2 k e) hk
    · omega
set_option maxHeartbeats 3200000 in
theorem without_any (key i j : Nat) (op tp t : Int) (hi : i < 4) (hj : j < 4) (w : World) :
    Calls Tryz.prog 70 #[.int .u64 (key : Int), .agg #[.int .i64 (i : Int), .int .i64 (j : Int), .int .i64 op, .int .i64 tp], .int .i64 t] w fun e w' => ∃ cb, e = .returned (cptr cb) ∧ w.heap.size ≤ cb ∧ WithP w key op tp t i j w' cb := by
  have HP := Lib.hid (fun W => LP.new_good hi hj 8 W)
  have HS := Lib.hid (fun W => dsendNew_any W)
  have HR := Lib.hid (fun W => drecvNew_any W)
  have HWN := Lib.hid (fun W => LW.new_any 0 (by unfold LW.isI; omega) W)
  clear hi hj
  unfold LP.ptr at HP
  unfold SnNew at HS
  unfold RnNew at HR
  unfold LW.ptr at HWN
  go_enter Tryz.func70, Tryz.ntmps70
  go_wp2_with (first
    | ((with_reducible refine wpList_here ?_); refine wpList_boxV (o := ⟨some 4, _, _, _, _, _⟩) rfl 69 (.tmp 1) rfl [.int .i64 (i : Int), .int .i64 (j : Int), .int .i64 op, .int .i64 tp] rfl _ rfl ?_; intro w0 z0 b0 s0; have x0 : w0.cell? ⟨w.heap.size, 0, none⟩ = some (.int .i64 (i : Int)) := (z0 0 (by simp)).1; have x1 : w0.cell? ⟨w.heap.size, 1, none⟩ = some (.int .i64 (j : Int)) := (z0 1 (by simp)).1)
    | fail)
  refine (HP.out _).mono ?_
  rintro e w1 ⟨pb, rfl, P1, b1, l1⟩
  have y0 : w1.drew.cell? ⟨w.heap.size, 2, none⟩ = some (.int .i64 op) ∧ w1.drew.cell? ⟨w.heap.size, 3, none⟩ = some (.int .i64 tp) := ⟨(b1.cell (by show w.heap.size < _; omega)).trans (z0 2 (by simp)).1, (b1.cell (by show w.heap.size < _; omega)).trans (z0 3 (by simp)).1⟩
  have B1 := Lib.hid ((below_trans b0 b1).drew)
  have HP1 : Hid (LP.St w1.drew pb (LP.Pm.new i j (LP.most 8))) := Lib.hid P1
  have HL1 : Hid (w.heap.size ≤ pb) := Lib.hid (by omega)
  have hw1 : w.heap.size < w1.drew.heap.size := by have := b1.size; show _ < w1.heap.size; omega
  clear z0 b0 s0 x0 x1 P1 b1 l1 HP
  go_wp2_with fail
  generalize hwd : w1.drew = wd at *
  have BD := Lib.hid (Below.refl wd.heap.size wd)
  generalize hg0 : w.heap.size = g0 at *
  refine wp_region_noPanic ?_
  refine wp_region_held_drew (S := fun W => W.cell? ⟨g0, 2, none⟩ = some (.int .i64 op) ∧ W.cell? ⟨g0, 3, none⟩ = some (.int .i64 tp)) (by kernel_rfl) (by rw [hwd]; exact y0) (fun _ => ?_)
  rw [hwd]
  clear hwd
  refine held_take (i := 0) (v := .int .u64 (key : Int)) (some 17) rfl rfl (by kernel_rfl) (by kernel_rfl) (by kernel_rfl) (fun _ _ _ h => h) (Or.inl ⟨by rfl, fun W hW => by go_simp⟩) y0 ?_
  simp only [Act.put, List.setIfInBounds_toArray, List.set_cons_zero, List.set_cons_succ]
  refine held_take (i := 1) (v := .pointer (some ⟨g0, 2, none⟩)) (some 18) rfl rfl (by kernel_rfl) (by kernel_rfl) (by kernel_rfl) (fun _ _ _ h => h) (Or.inl ⟨by rfl, fun W hW => by go_simp⟩) y0 ?_
  simp only [Act.put, List.setIfInBounds_toArray, List.set_cons_zero, List.set_cons_succ]
  refine held_take (i := 3) (v := .pointer (some ⟨g0, 3, none⟩)) (some 20) rfl rfl (by kernel_rfl) (by kernel_rfl) (by kernel_rfl) (fun _ _ _ h => h) (Or.inl ⟨by rfl, fun W hW => by go_simp⟩) y0 ?_
  simp only [Act.put, List.setIfInBounds_toArray, List.set_cons_zero, List.set_cons_succ]
  refine held_take (i := 7) (v := .pointer (some ⟨pb, 0, none⟩)) (some 24) rfl rfl (by kernel_rfl) (by kernel_rfl) (by kernel_rfl) (fun _ _ _ h => h) (Or.inl ⟨by rfl, fun W hW => by go_simp⟩) y0 ?_
  simp only [Act.put, List.setIfInBounds_toArray, List.set_cons_zero, List.set_cons_succ]
  refine held_take (i := 8) (v := .int .i64 t) (some 25) rfl rfl (by kernel_rfl) (by kernel_rfl) (by kernel_rfl) (fun _ _ _ h => h) (Or.inl ⟨by rfl, fun W hW => by go_simp⟩) y0 ?_
  simp only [Act.put, List.setIfInBounds_toArray, List.set_cons_zero, List.set_cons_succ]
  refine held_take (i := 2) (v := .int .i64 op) (some 19) rfl rfl (by kernel_rfl) (by kernel_rfl) (by kernel_rfl) (fun _ _ _ h => h) (Or.inl ⟨by rfl, fun W hW => by have hc := hW.1; go_simp⟩) y0 ?_
  simp only [Act.put, List.setIfInBounds_toArray, List.set_cons_zero, List.set_cons_succ]
  refine held_take (i := 4) (v := .int .i64 tp) (some 21) rfl rfl (by kernel_rfl) (by kernel_rfl) (by kernel_rfl) (fun _ _ _ h => h) (Or.inl ⟨by rfl, fun W hW => by have hc := hW.2; go_simp⟩) y0 ?_
  simp only [Act.put, List.setIfInBounds_toArray, List.set_cons_zero, List.set_cons_succ]
  refine wpAnyH_ready (rs := [5]) (by kernel_rfl) (by simp) ?_
  refine AllReadyH.cons rfl (fun K hK => ?_) AllReadyH.nil
  go_simp
  refine (HS.out _).mono ?_
  rintro e wA ⟨sb, so, rfl, l2, l2', S2, bA⟩
  have HS2 := Lib.hid S2
  have HL2 := Lib.hid (And.intro l2 l2')
  clear S2 l2 l2' HS
  unfold cptr
  have eA : wA.cell? ⟨g0, 2, none⟩ = some (.int .i64 op) ∧ wA.cell? ⟨g0, 3, none⟩ = some (.int .i64 tp) := ⟨(bA.cell (by have := BD.out.size; show g0 < _; omega)).trans y0.1, (bA.cell (by have := BD.out.size; show g0 < _; omega)).trans y0.2⟩
  have CA := Lib.hid bA
  have BA := Lib.hid (BD.out.trans (bA.mono BD.out.size))
  clear bA
  dsimp only
  refine hK.out _ _ eA (fun _ => ?_)
  clear hK
  try simp only [Act.put, List.setIfInBounds_toArray, List.set_cons_zero, List.set_cons_succ]
  refine wpAnyH_ready (rs := [6]) (by kernel_rfl) (by simp) ?_
  refine AllReadyH.cons rfl (fun K hK => ?_) AllReadyH.nil
  go_simp
  refine (HR.out _).mono ?_
  rintro e wR ⟨rb, sr, sm, rfl, l3, l3', l3'', R3, bR⟩
  have HR3 := Lib.hid R3
  have HL3 := Lib.hid (And.intro l3 (And.intro l3' l3''))
  clear R3 l3 l3' l3'' HR
  unfold cptr
  have eR : wR.cell? ⟨g0, 2, none⟩ = some (.int .i64 op) ∧ wR.cell? ⟨g0, 3, none⟩ = some (.int .i64 tp) := ⟨(bR.cell (by have := BA.out.size; show g0 < _; omega)).trans eA.1, (bR.cell (by have := BA.out.size; show g0 < _; omega)).trans eA.2⟩
  have CR := Lib.hid bR
  have BR := Lib.hid (BA.out.trans (bR.mono BA.out.size))
  clear bR
  dsimp only
  refine hK.out _ _ eR (fun _ => ?_)
  clear hK
  try simp only [Act.put, List.setIfInBounds_toArray, List.set_cons_zero, List.set_cons_succ]
  refine wpAnyH_ready (rs := [9]) (by kernel_rfl) (by simp) ?_
  refine AllReadyH.cons rfl (fun K hK => ?_) AllReadyH.nil
  go_simp
  refine (HWN.out _).mono ?_
  rintro e wW ⟨lab, wb, rfl, o4, f4⟩
  have HO4 : Hid (LW.On wW lab wb 0 []) := Lib.hid o4
  have HF4 := Lib.hid f4
  have bW : Below wR.heap.size wR wW := (chlw f4.1).below (fun _ _ e => e rfl)
  clear o4 f4 HWN
  have eW : wW.cell? ⟨g0, 2, none⟩ = some (.int .i64 op) ∧ wW.cell? ⟨g0, 3, none⟩ = some (.int .i64 tp) := ⟨(bW.cell (by have := BR.out.size; show g0 < _; omega)).trans eR.1, (bW.cell (by have := BR.out.size; show g0 < _; omega)).trans eR.2⟩
  have CW := Lib.hid bW
  have BW := Lib.hid (BR.out.trans (bW.mono BR.out.size))
  clear bW
  dsimp only
  refine hK.out _ _ eW (fun _ => ?_)
  clear hK
  try simp only [Act.put, List.setIfInBounds_toArray, List.set_cons_zero, List.set_cons_succ]
  refine held_take (i := 10) (v := .agg #[.int .i64 t, .pointer (some ⟨wb, 0, none⟩), .int .i64 0, .int .i64 0, .int .i64 0, .int .i64 0, .int .i64 0]) (some 27) rfl rfl (by kernel_rfl) (by kernel_rfl) (by kernel_rfl) (fun _ _ _ h => h) (Or.inl ⟨by rfl, fun W hW => by kernel_rfl⟩) eW ?_
  simp only [Act.put, List.setIfInBounds_toArray, List.set_cons_zero, List.set_cons_succ]
  refine held_take (i := 11) (v := .agg (Cv.fresh key op tp t sb rb pb wb).cs) (some 28) rfl rfl (by kernel_rfl) (by kernel_rfl) (by kernel_rfl) (fun _ _ _ h => h) (Or.inl ⟨by rfl, fun W hW => by kernel_rfl⟩) eW ?_
  simp only [Act.put, List.setIfInBounds_toArray, List.set_cons_zero, List.set_cons_succ]
  refine wpAnyH_ready (rs := [12]) (by kernel_rfl) (by simp) ?_
  refine AllReadyH.cons rfl (fun K hK => ?_) AllReadyH.nil
  refine step_boxV (by rfl) 136 (.tmp 28) rfl (Cv.fresh key op tp t sb rb pb wb).cs.toList rfl ?_
  intro cb wE hcb hwE
  have HD := Lib.hid (with_done (w := w) (key := key) (op := op) (tp := tp) (t := t) (hg0 ▸ B1.out) HP1.out (hg0 ▸ HL1.out) CA.out HS2.out HL2.out CR.out HR3.out HL3.out HO4.out HF4.out)
  have bE : Below wW.heap.size wW wE := by rw [hwE.out]; exact below_a wW _
  have eE : wE.cell? ⟨g0, 2, none⟩ = some (.int .i64 op) ∧ wE.cell? ⟨g0, 3, none⟩ = some (.int .i64 tp) := ⟨(bE.cell (by have := BW.out.size; show g0 < _; omega)).trans eW.1, (bE.cell (by have := BW.out.size; show g0 < _; omega)).trans eW.2⟩
  have HGE : Hid (g0 ≤ cb) := Lib.hid (by have := hcb.out; have := BW.out.size; omega)
  rw [← hcb.out] at HD
  rw [show wW.alloc (.cells (Cv.fresh key op tp t sb rb pb wb).cs 136) = wE from hwE.out.symm] at HD
  clear bE hwE hcb
  show K (Act.put _ (some 29) _) _
  refine hK.out _ _ eE (fun _ => ?_)
  clear hK
  try simp only [Act.put, List.setIfInBounds_toArray, List.set_cons_zero, List.set_cons_succ]
  refine held_take (i := 13) (v := .pointer (some ⟨cb, 0, none⟩)) (some 6) rfl rfl (by kernel_rfl) (by kernel_rfl) (by kernel_rfl) (fun _ _ _ h => h) (Or.inl ⟨by rfl, fun W hW => by go_simp⟩) eE ?_
  simp only [Act.put, List.setIfInBounds_toArray, List.set_cons_zero, List.set_cons_succ]
  refine wpAnyH_done (by kernel_rfl) ?_ _
  refine NoPanic.normal ?_
  go_wp2_with fail
  go_ret
  exact ⟨cb, rfl, by rw [hg0]; exact HGE.out, HD.out⟩
end Go.Proofs.YtlcegchdkigibaaGreatDoor

namespace Go.Proofs.YtlcegchdkigibaaGreatDoor
set_option linter.unusedVariables false
set_option linter.unusedSimpArgs false
set_option maxRecDepth 20000
open Go.RowKit Go.Lib

theorem zeroOcc : (Tryz.prog.info? 211).map (·.zero) = some (some (.agg LF.zO.vals.toArray)) := by kernel_rfl
section
variable {base : Nat} {w w' : World} {lab ro lab' ro' : Nat → Nat} {cb lb : Nat} {z : Zc}
/-- The flow that was asked what it wants to be sent. -/
def Zc.quiet (z : Zc) : Zc := { z with s := z.s.quiet, x := z.x.quiet }
theorem Wo.asked (h : Wo base w lab ro cb lb z) (f : LF.Fl base w' z.s.quiet z.x.quiet) (c : Ch w w' (fun g => g = z.s.fb)) : ∃ ro', Wo base w' lab ro' cb lb z.quiet ∧ Fx lab ro w lab ro' w' :=
  h.flow (s' := z.s.quiet) rfl f (c.mono (fun g _ e => .inl e)) (fun g hg => .inl (by
    rcases hg with e | hg | hg | ⟨o, ho, hg⟩
    · exact .inl e
    · exact .inr (.inl hg)
    · cases hg
    · cases ho))
set_option maxHeartbeats 1600000 in
theorem emit0_any (h : Wo base w lab ro cb lb z) (hol : z.s.ol = []) :
    Calls Tryz.prog 108 #[cptr cb, cptr lb, .slice none 0 0] w fun e w' => e = .returned (.tuple #[]) ∧ ∃ ro', Wo base w' lab ro' cb lb z.quiet ∧ Fx lab ro w lab ro' w' := by
  have HW := Lib.hid h
  have c0 := h.la.fl_
  rw [h.fe] at c0
  have HO := Lib.hid (LF.Out_any h.fl)
  have hrow := h.fl.row
  rw [hol] at hrow
  obtain ⟨A, n, hs, _, _⟩ := LF.own_slice hrow
  clear h hrow
  unfold cptr at *
  unfold LF.ptr at HO
  rw [hs] at HO
  go_enter Tryz.func108, Tryz.ntmps108
  go_wp2_with fail
  refine HO.out.mono ?_
  rintro e w1 ⟨rfl, f1, k1⟩
  have HZ := Lib.hid (HW.out.asked f1 k1)
  clear f1 k1 HO
  go_wp2_with fail
  go_loopw [15] (fun i wr => i = .int .i64 0 ∧ wr = w1) (fun _ _ => 0)
  case atStart => exact ⟨rfl, rfl⟩
  case round =>
    obtain ⟨rfl, rfl⟩ := hrel
    go_wp2_with fail
    go_end0
    exact ⟨rfl, HZ.out⟩
/-- What is left where one Syn was sent. -/
def EmitP (base : Nat) (w : World) (lab ro : Nat → Nat) (cb lb : Nat) (z : Zc) (o : LF.Oc) (w' : World) : Prop :=
  ∃ (ro' : Nat → Nat) (v' ov dv : Value), Wo base w' lab ro' cb lb { z.quiet with c := { z.c with sv := v' }, g := z.g ++ [synSg z.l.ow z.l.ot z.c.op z.c.tp o.p.seq o.ack o.acks o.p.fin o.rst ov dv] } ∧ Fx lab ro w lab ro' w' ∧ (∃ ob, ov = .slice (some ⟨ob, 0, none⟩) 1 1 ∧ Own w' ob z.l.he.vals)
theorem emit_mid {W w2 w3 w4 w5 : World} {o : LF.Oc} {seq dc : Nat} {fin last : Bool} {dA : Option Addr} {dsn : Int} (hpv : o.p.vals = [.int .u32 (seq : Int), .bool true, .bool fin, .slice dA 0 dc, .int .i64 dsn, .bool last])
    (z3 : Own w3 W.heap.size o.vals) (b2 : Below W.heap.size W w2) (s2 : w2.heap.size = W.heap.size + 1) (g3 : w2.grownBy w3 (some W.heap.size)) (s3 : w3.heap.size = w2.heap.size) (b4 : Below w3.heap.size w3 w4) (s4 : w4.heap.size = w3.heap.size + 1) (z5 : Own w5 w3.heap.size o.p.vals) (g5 : w4.grownBy w5 (some w3.heap.size)) (s5 : w5.heap.size = w4.heap.size) :
    w5.cell? ⟨W.heap.size + 1, 1, none⟩ = some (.bool true) ∧ w5.rangeAt W.heap.size 0 o.vals ∧ Below W.heap.size W w5 := by
  refine ⟨?_, ((z3.below b4).far g5 (fun e => by injection e with e; omega)).range, ?_⟩
  · have := (z5 1 (by rw [hpv]; simp)).1
    rw [hpv, s3, s2] at this
    exact this
  · have b3 := v_below_g b2 g3 b2.size (Nat.le_refl _)
    exact v_below_g (b3.trans (b4.mono b3.size)) g5 (by omega) (by omega)
set_option maxHeartbeats 6400000 in
theorem emit1_any (h : Wo base w lab ro cb lb z) (hb : base ≤ w.heap.size) (hn : z.g.length ≤ 549755813888) {o : LF.Oc} (hol : z.s.ol = [o]) (hsy : o.p.syn = true) (hds : o.p.ds = []) :
    Calls Tryz.prog 108 #[cptr cb, cptr lb, .slice none 0 0] w fun e w' => e = .returned (.tuple #[]) ∧ EmitP base w lab ro cb lb z o w' := by
  have HW := Lib.hid h
  have HB := Lib.hid hb
  have HN := Lib.hid hn
  have c0 := h.la.fl_
  rw [h.fe] at c0
  have HO := Lib.hid (LF.Out_any h.fl)
  have hrow := h.fl.row
  have hne := h.fl.ne_row
  have hpo := (h.fl.og o (by rw [hol]; simp)).1
  have hnd := h.fl.ne_data (o := o) (by rw [hol]; simp)
  rw [hol] at hrow
  obtain ⟨gb, cap, hs⟩ : ∃ gb cap, z.s.ov = .slice (some ⟨gb, 0, none⟩) 1 cap := by
    rcases hrow.2 with ⟨e, e2⟩ | ⟨g', cap, cur, e, _⟩
    · cases e2
    · exact ⟨g', cap, e⟩
  rw [hs] at hrow hne HO
  have hcp : 1 ≤ cap := by
    obtain ⟨A, c, e, h1, h2⟩ := LF.own_slice hrow
    injection e with _ _ e
    omega
  have hmx : cap ≤ 9223372036854775807 := by
    obtain ⟨A, c, e, h1, h2⟩ := LF.own_slice hrow
    injection e with _ _ e
    omega
  have r0 := LF.own_rangeO hrow (j := 0) (by simp)
  have hne : gb ≠ z.s.fb := fun e => hne (by rw [e]; rfl)
  obtain ⟨⟨seq, syn, fin, dA, dn, dc, dsn, last, ds⟩, ack, acks, rst⟩ := o
  dsimp only at hsy hds
  subst hsy hds
  have hd0 : dn = 0 := by
    have := hpo.data.1
    simpa [bv] using this.symm
  subst hd0
  have HD := Lib.hid hpo.pg.data
  have HND := Lib.hid hnd
  have r1 : w.rangeAt gb 0 (synOc seq ack acks fin rst last dA dc dsn).vals := by
    have h := r0
    simp only [List.getD_cons_zero, Nat.zero_mul] at h
    exact h
  clear h hrow hol hpo hnd r0 hb hn
  have hso : (⟨⟨seq, true, fin, dA, 0, dc, dsn, last, []⟩, ack, acks, rst⟩ : LF.Oc) = synOc seq ack acks fin rst last dA dc dsn := rfl
  rw [hso]
  clear hso
  generalize hop : synOc seq ack acks fin rst last dA dc dsn = o at *
  have hpv : o.p.vals = [.int .u32 (seq : Int), .bool true, .bool fin, .slice dA 0 dc, .int .i64 dsn, .bool last] := by subst hop; rfl
  have hrp : ∀ (W : World) (k : Nat), W.rangeAt k 0 o.vals → W.rangeAt k 0 o.p.vals := fun W k hk j v hv => by
    have hj : j < 6 := (List.getElem?_eq_some_iff.1 hv).1
    refine hk j v ?_
    unfold LF.Oc.vals
    rw [List.getElem?_append_left (by exact hj)]
    exact hv
  have HOP := Lib.hid hop
  clear hop
  unfold cptr at *
  unfold LF.ptr at HO
  go_enter Tryz.func108, Tryz.ntmps108
  go_wp2_with fail
  refine HO.out.mono ?_
  rintro e w1 ⟨rfl, f1, k1⟩
  obtain ⟨ro1, Z1, X1⟩ := HW.out.asked f1 k1
  have HZ := Lib.hid Z1
  have HX := Lib.hid X1
  have hs1 := k1.size
  have r2 : w1.rangeAt gb 0 o.vals := rangeAt_ch k1 r1 hne
  have HD1 : Hid (RB w1 dA 0 dc []) := Lib.hid (RB.zero w1 dA HD.out.2.2.1)
  clear f1 k1 HO Z1 X1 r1 HD
  go_wp2_with fail
  go_loopw [15] (fun i wr => (i = .int .i64 0 ∧ wr = w1) ∨ (i = .int .i64 1 ∧ EmitP base w lab ro cb lb z o wr)) (fun i _ => 1 - (intOf i).toNat)
  case atStart => exact .inl ⟨rfl, rfl⟩
  case round =>
    rcases hrel with ⟨rfl, rfl⟩ | ⟨rfl, hP⟩
    · go_wp2_with (first
        | ((with_reducible refine wpList_here ?_); refine wpList_loadV (o := ⟨some 18, _, _, _, _, _⟩) rfl 211 (.tmp 17) rfl gb 0 o.vals rfl r2 _ Tryz.underlying211 rfl LF.sizeOc ?_)
        | ((with_reducible refine wpList_here ?_); refine wpList_allocV (o := ⟨some 7, _, _, _, _, _⟩) rfl 211 rfl LF.zO.vals zeroOcc _ rfl ?_; intro w2 z2 b2 s2)
        | ((with_reducible refine wpList_here ?_); refine wpList_storeV (o := ⟨none, .store 211 _ _, _, _, _, _⟩) rfl 211 (.tmp 7) (.tmp 18) rfl _ _ o.vals rfl rfl z2 rfl (LF.oc_one o) LF.sizeOc ?_; intro w3 z3 g3 s3; have r3 := hrp _ _ z3.range)
        | ((with_reducible refine wpList_here ?_); refine wpList_loadV (o := ⟨some 20, _, _, _, _, _⟩) rfl 209 (.tmp 19) rfl _ 0 o.p.vals rfl r3 _ Tryz.underlying209 rfl LF.infoPc ?_)
        | ((with_reducible refine wpList_here ?_); refine wpList_allocV (o := ⟨some 8, _, _, _, _, _⟩) rfl 209 rfl LF.zP.vals LF.zeroPc _ rfl ?_; intro w4 z4 b4 s4)
        | ((with_reducible refine wpList_here ?_); refine wpList_storeV (o := ⟨none, .store 209 _ _, _, _, _, _⟩) rfl 209 (.tmp 8) (.tmp 20) rfl _ _ o.p.vals rfl rfl z4 rfl (LF.pc_one o.p) LF.infoPc ?_; intro w5 z5 g5 s5; obtain ⟨c5, r5, b5⟩ := emit_mid hpv z3 b2 s2 g3 s3 b4 s4 z5 g5 s5; have B5 := Lib.hid b5; clear z2 z3 z4 z5 g3 g5 b2 b4 r3 b5)
        | ((with_reducible refine wpList_here ?_); refine wpList_loadV (o := ⟨some 45, _, _, _, _, _⟩) rfl 211 (.tmp 7) rfl wr.heap.size 0 o.vals rfl r5 _ Tryz.underlying211 rfl LF.sizeOc ?_)
        | fail)
      have HP := Lib.hid (put_any (HZ.out.below B5.out).ca (HZ.out.below B5.out).la (HZ.out.below B5.out).sv (by have := HB.out; have := B5.out.size; omega) HN.out seq ack acks fin rst last dA dc dsn (RB.zero w5 dA HD1.out.2.2.1))
      rw [HOP.out] at HP
      unfold cptr at HP
      refine HP.out.mono ?_
      rintro e w6 ⟨rfl, q6⟩
      have HQ : Hid (EmitP base w lab ro cb lb z o w6) := Lib.hid (by
        obtain ⟨ro2, v', ov, dv, Z2, X2, hO⟩ := (HZ.out.below B5.out).put (by have := HB.out; have := B5.out.size; omega) q6
        rw [← HOP.out]
        exact ⟨ro2, v', ov, dv, Z2, (HX.out.trans (Fx.below lab ro1 B5.out)).trans X2, hO⟩)
      clear q6 HP
      go_wp2_with fail
      go_roundw
      case rel => exact .inr ⟨by go_num, HQ.out⟩
      case measure => simp [intOf]
    · go_wp2_with fail
      go_end0
      exact ⟨rfl, hP⟩
end
end Go.Proofs.YtlcegchdkigibaaGreatDoor

namespace Go.Proofs.YtlcegchdkigibaaGreatDoor
set_option linter.unusedVariables false
set_option linter.unusedSimpArgs false
set_option maxRecDepth 20000
open Go.RowKit Go.Lib

/-- A leg without a flow yet. -/
def Lc.new (ow ot : Int) (nm : Int) : Lc := ⟨.pointer none, ow, ot, false, nm, 0, 0, 0, Opn.none_, .slice none 0 0⟩
def NewLegP (w : World) (cb : Nat) (c : Cv) (ow ot : Int) (lb : Nat) (w' : World) : Prop := lb = w.heap.size ∧ La w' lb (Lc.new ow ot c.md) ∧ Ca w' cb { c with md := c.md + 1 } ∧ Ch w w' (fun k => k = cb)
set_option maxHeartbeats 1600000 in
theorem newLeg_any {w : World} {cb : Nat} {c : Cv} (h : Ca w cb c) (hm : 0 ≤ c.md ∧ c.md ≤ 1152921504606846976) (ow ot : Int) :
    Calls Tryz.prog 71 #[cptr cb, .int .i64 ow, .int .i64 ot] w fun e w' => ∃ lb, e = .returned (cptr lb) ∧ NewLegP w cb c ow ot lb w' := by
  have c12 := h.md_
  have hlt := h.lt
  have f12 := h.fz 12
  have h1 : Ca (w.setCell ⟨cb, 12, none⟩ (.int .i64 (c.md + 1))) cb { c with md := c.md + 1 } := h.set 12 _ _ rfl
  have sz : (w.setCell ⟨cb, 12, none⟩ (.int .i64 (c.md + 1))).heap.size = w.heap.size := by simp [World.setCell]
  have HF : Hid (NewLegP w cb c ow ot w.heap.size ((w.setCell ⟨cb, 12, none⟩ (.int .i64 (c.md + 1))).alloc (.cells (Lc.new ow ot c.md).cs 114))) := by
    have h2 := heap_alloc_new (w.setCell ⟨cb, 12, none⟩ (.int .i64 (c.md + 1))) (.cells (Lc.new ow ot c.md).cs 114)
    rw [sz] at h2
    exact Lib.hid ⟨rfl, h2, h1.below (below_a _ _), ((Ch.refl w (fun k => k = cb)).setCell (p := ⟨cb, 12, none⟩) (fun _ => rfl) _).alloc _⟩
  have hw : IntKind.i64.wrap (c.md + 1) = c.md + 1 := by rw [IntKind.wrap_i64]; omega
  have HCS : Hid (∀ m, (Lc.new ow ot m).cs = #[.pointer none, .int .i64 ow, .int .i64 ot, .bool false, .int .i64 m, .int .i64 0, .int .u32 0, .int .u32 0, .int .i64 0, .int .u64 0, .int .u64 0, .int .u32 0, .int .u32 0, .int .i64 0, .int .i64 0, .bool false, .bool false, .int .i64 0, .bool false, .int .i64 0, .int .i64 0, .bool false, .slice none 0 0]) := Lib.hid (fun m => rfl)
  rw [HCS.out] at HF
  clear h h1 sz hm HCS
  unfold cptr
  generalize c.md = md at *
  go_enter Tryz.func71, Tryz.ntmps71
  go_wp2_with fail
  go_ret
  exact ⟨_, rfl, HF.out⟩
set_option maxHeartbeats 3200000 in
theorem drawn_any {w : World} {cb lb : Nat} {c : Cv} {l : Lc} (h : Ca w cb c) (hl : La w lb l) (hk : c.key < 18446744073709551616) (hn : 0 ≤ l.nm ∧ l.nm < 4294967296) (q : Nat) (hq : q < 4294967296) (hT : LK.Tab w) :
    Calls Tryz.prog 73 #[cptr cb, cptr lb, .int .u32 (q : Int)] w fun e w' => (∃ v : Nat, v < 4294967296 ∧ e = .returned (.int .u32 (v : Int))) ∧ Below w.heap.size w w' := by
  have hcb := h.lt
  have hlb := hl.lt
  have c0 := h.key_
  have c4 := hl.nm_
  obtain ⟨nm, hnm⟩ : ∃ n : Nat, l.nm = n := ⟨l.nm.toNat, by omega⟩
  rw [hnm] at c4 hn
  have HP := Lib.hid (fun W (b : Below w.heap.size w W) => LK.proof_any c.key 0 nm q W hk (by decide) (by omega) hq (hT.below b))
  have hw4 : IntKind.u32.wrap (nm : Int) = (nm : Int) := by rw [IntKind.wrap_u32]; omega
  have hw5 : IntKind.u32.wrap ((LK.kp c.key 0 nm q : Nat) : Int) = ((LK.kp c.key 0 nm q % 4294967296 : Nat) : Int) := by rw [IntKind.wrap_u32]; omega
  have hvl : LK.kp c.key 0 nm q % 4294967296 < 4294967296 := Nat.mod_lt _ (by decide)
  generalize LK.kp c.key 0 nm q = K at *
  generalize K % 4294967296 = v at *
  clear h hl hk hn hnm hT
  generalize c.key = key at *
  unfold cptr
  go_enter Tryz.func73, Tryz.ntmps73
  go_wp2_with fail
  have BW := Lib.hid (Below.refl w.heap.size w).drew
  have e0 : w.drew.cell? ⟨cb, 0, none⟩ = some (.int .u64 (key : Int)) ∧ w.drew.cell? ⟨lb, 4, none⟩ = some (.int .i64 (nm : Int)) := ⟨c0, c4⟩
  clear c0 c4
  generalize hwd : w.drew = wd at *
  refine wp_region_noPanic ?_
  refine wp_region_held_drew (S := fun W => W.cell? ⟨cb, 0, none⟩ = some (.int .u64 (key : Int)) ∧ W.cell? ⟨lb, 4, none⟩ = some (.int .i64 (nm : Int))) (by kernel_rfl) (by rw [hwd]; exact e0) (fun _ => ?_)
  rw [hwd]
  clear hwd
  refine held_take (i := 0) (v := .pointer (some ⟨cb, 0, none⟩)) (some 7) rfl rfl (by kernel_rfl) (by kernel_rfl) (by kernel_rfl) (fun _ _ _ h => h) (Or.inl ⟨by rfl, fun W hW => by go_simp⟩) e0 ?_
  simp only [Act.put, List.setIfInBounds_toArray, List.set_cons_zero, List.set_cons_succ]
  refine held_take (i := 4) (v := .pointer (some ⟨lb, 0, none⟩)) (some 11) rfl rfl (by kernel_rfl) (by kernel_rfl) (by kernel_rfl) (fun _ _ _ h => h) (Or.inl ⟨by rfl, fun W hW => by go_simp⟩) e0 ?_
  simp only [Act.put, List.setIfInBounds_toArray, List.set_cons_zero, List.set_cons_succ]
  refine held_take (i := 9) (v := .int .u32 (q : Int)) (some 16) rfl rfl (by kernel_rfl) (by kernel_rfl) (by kernel_rfl) (fun _ _ _ h => h) (Or.inl ⟨by rfl, fun W hW => by go_simp⟩) e0 ?_
  simp only [Act.put, List.setIfInBounds_toArray, List.set_cons_zero, List.set_cons_succ]
  refine held_take (i := 1) (v := .pointer (some ⟨cb, 0, none⟩)) (some 8) rfl rfl (by kernel_rfl) (by kernel_rfl) (by kernel_rfl) (fun _ _ _ h => h) (Or.inl ⟨by rfl, fun W hW => by go_simp⟩) e0 ?_
  simp only [Act.put, List.setIfInBounds_toArray, List.set_cons_zero, List.set_cons_succ]
  refine held_take (i := 5) (v := .pointer (some ⟨lb, 0, none⟩)) (some 12) rfl rfl (by kernel_rfl) (by kernel_rfl) (by kernel_rfl) (fun _ _ _ h => h) (Or.inl ⟨by rfl, fun W hW => by go_simp⟩) e0 ?_
  simp only [Act.put, List.setIfInBounds_toArray, List.set_cons_zero, List.set_cons_succ]
  refine held_take (i := 2) (v := .pointer (some ⟨cb, 0, none⟩)) (some 9) rfl rfl (by kernel_rfl) (by kernel_rfl) (by kernel_rfl) (fun _ _ _ h => h) (Or.inl ⟨by rfl, fun W hW => by go_simp⟩) e0 ?_
  simp only [Act.put, List.setIfInBounds_toArray, List.set_cons_zero, List.set_cons_succ]
  refine held_take (i := 6) (v := .pointer (some ⟨lb, 4, none⟩)) (some 13) rfl rfl (by kernel_rfl) (by kernel_rfl) (by kernel_rfl) (fun _ _ _ h => h) (Or.inl ⟨by rfl, fun W hW => by go_simp⟩) e0 ?_
  simp only [Act.put, List.setIfInBounds_toArray, List.set_cons_zero, List.set_cons_succ]
  refine held_take (i := 3) (v := .int .u64 (key : Int)) (some 10) rfl rfl (by kernel_rfl) (by kernel_rfl) (by kernel_rfl) (fun _ _ _ h => h) (Or.inl ⟨by rfl, fun W hW => by have hc := hW.1; go_simp⟩) e0 ?_
  simp only [Act.put, List.setIfInBounds_toArray, List.set_cons_zero, List.set_cons_succ]
  refine held_take (i := 7) (v := .int .i64 (nm : Int)) (some 14) rfl rfl (by kernel_rfl) (by kernel_rfl) (by kernel_rfl) (fun _ _ _ h => h) (Or.inl ⟨by rfl, fun W hW => by have hc := hW.2; go_simp⟩) e0 ?_
  simp only [Act.put, List.setIfInBounds_toArray, List.set_cons_zero, List.set_cons_succ]
  refine held_take (i := 8) (v := .int .u32 (nm : Int)) (some 15) rfl rfl (by kernel_rfl) (by kernel_rfl) (by kernel_rfl) (fun _ _ _ h => h) (Or.inl ⟨by rfl, fun W hW => by go_simp⟩) e0 ?_
  simp only [Act.put, List.setIfInBounds_toArray, List.set_cons_zero, List.set_cons_succ]
  refine wpAnyH_ready (rs := [10]) (by kernel_rfl) (by simp) ?_
  refine AllReadyH.cons rfl (fun K hK => ?_) AllReadyH.nil
  go_simp
  refine (HP.out _ BW.out).mono ?_
  rintro e wA ⟨rfl, bA⟩
  have eA : wA.cell? ⟨cb, 0, none⟩ = some (.int .u64 (key : Int)) ∧ wA.cell? ⟨lb, 4, none⟩ = some (.int .i64 (nm : Int)) := ⟨(bA.cell (by have := BW.out.size; show cb < _; omega)).trans e0.1, (bA.cell (by have := BW.out.size; show lb < _; omega)).trans e0.2⟩
  have BA := Lib.hid (BW.out.trans (bA.mono BW.out.size))
  clear bA HP
  dsimp only
  refine hK.out _ _ eA (fun _ => ?_)
  clear hK
  try simp only [Act.put, List.setIfInBounds_toArray, List.set_cons_zero, List.set_cons_succ]
  refine held_take (i := 11) (v := .int .u32 (v : Int)) (some 18) rfl rfl (by kernel_rfl) (by kernel_rfl) (by kernel_rfl) (fun _ _ _ h => h) (Or.inl ⟨by rfl, fun W hW => by go_simp⟩) eA ?_
  simp only [Act.put, List.setIfInBounds_toArray, List.set_cons_zero, List.set_cons_succ]
  refine held_take (i := 12) (v := .int .u32 (v : Int)) (some 6) rfl rfl (by kernel_rfl) (by kernel_rfl) (by kernel_rfl) (fun _ _ _ h => h) (Or.inl ⟨by rfl, fun W hW => by go_simp⟩) eA ?_
  simp only [Act.put, List.setIfInBounds_toArray, List.set_cons_zero, List.set_cons_succ]
  refine wpAnyH_done (by kernel_rfl) ?_ _
  refine NoPanic.normal ?_
  go_wp2_with fail
  go_ret
  exact ⟨⟨v, hvl, rfl⟩, BA.out⟩

/-- All cells that are written, one behind the other. -/
def setAll (cs : Array Value) (o : Nat) : List Value → Array Value
  | [] => cs
  | v :: r => setAll (cs.setIfInBounds o v) (o + 1) r
theorem heap_setAll {b : Nat} {t : TypeId} {f : Nat × Nat} : ∀ (vs : List Value) (o : Nat) (w : World) (cs : Array Value), w.heap[b]? = some (.cells cs t f) → (w.setCells b o vs).heap[b]? = some (.cells (setAll cs o vs) t f)
  | [], _, _, _, h => h
  | v :: r, o, w, cs, h => heap_setAll r (o + 1) _ _ (by simp [World.setCell, Array.getElem?_modify, h])
theorem setAll_hello (l : Lc) (o : Opn) : setAll l.cs 8 o.vals = { l with he := o }.cs := by
  unfold Lc.cs Opn.vals
  simp only [setAll, List.cons_append, List.nil_append, List.setIfInBounds_toArray, List.set_cons_succ, List.set_cons_zero]
theorem La.hello {w : World} {lb : Nat} {l : Lc} (h : La w lb l) (o : Opn) : La (w.setCells lb 8 o.vals) lb { l with he := o } := by
  have := heap_setAll o.vals 8 w _ h
  rw [setAll_hello] at this
  exact this
theorem La.there {w : World} {lb : Nat} {l : Lc} (h : La w lb l) : w.there lb 8 14 := by
  intro j hj
  refine ⟨?_, h.fz _⟩
  rw [h.at_ (8 + j)]
  have : 8 + j < l.cs.size := by unfold Lc.cs; simp [Opn.vals]; omega
  simp [this]
theorem litLeg (w : World) (b : Nat) : (Instr.buildSlice 130 1 #[(0, cptr b)]).run Tryz.prog w = .ok (.slice (some ⟨w.heap.size, 0, none⟩) 1 1) (w.alloc (.cells #[cptr b] 106)) := by kernel_rfl
theorem undLegs : Tryz.prog.underlying 130 = some (.slice 106) := by kernel_rfl
theorem infoLeg : (Tryz.prog.info? 106).map (fun i => (i.zero, i.size, i.bytes)) = some (some (.pointer none), 1, 8) := by kernel_rfl
end Go.Proofs.YtlcegchdkigibaaGreatDoor

namespace Go.Proofs.YtlcegchdkigibaaGreatDoor
set_option linter.unusedVariables false
set_option linter.unusedSimpArgs false
set_option maxRecDepth 20000
open Go.RowKit Go.Lib

section
variable {base : Nat} {w w' : World} {lab ro lab' ro' : Nat → Nat} {cb lb : Nat} {c : Cv} {p : LP.Pm} {so sr sm n : Nat} {L : List (Int × Int)} {l : Lc} {s : LF.Sh} {x : LF.F}
/-- A leg beside it: apart from all that has a role. -/
structure Beside (base : Nat) (w : World) (lab ro : Nat → Nat) (lb : Nat) (l : Lc) (s : LF.Sh) (x : LF.F) : Prop where
  la : La w lb l
  lo : base ≤ lb
  fe : l.fl = cptr s.fb
  fl : LF.Fl base w s x
  r1 : ro lb = 0 ∧ lab lb = 0
  r2 : ∀ g, s.T g → (ro g = 0 ∧ lab g = 0) ∧ g ≠ lb
theorem start_mid {w1 wa w2 w3 : World} {v3 : Value} {hello : Opn} (h : Wz base w lab ro cb c p so sr sm n L) (hb : base ≤ w.heap.size) (B : Beside base w lab ro lb l s x) (hsv : c.sv = .slice none 0 0) (b1 : Below w.heap.size w w1)
    (k1 : w1.grownBy wa (some lb)) (zs : wa.heap.size = w1.heap.size) (L2 : La wa lb { l with he := hello }) (b2 : Below wa.heap.size wa w2) (r3 : w3.ownsRow base 106 1 v3 1 [cptr lb]) (g3 : w2.grownBy w3 none) (o3 : v3.ownBlock = none ∨ v3.ownBlock = some w2.heap.size) :
    ∃ ro', Wo base (w3.setCell ⟨cb, 11, none⟩ v3) lab ro' cb lb ⟨{ c with lv := v3 }, { l with he := hello }, s, x, n, L, [], p, so, sr, sm⟩ ∧ Below base w (w3.setCell ⟨cb, 11, none⟩ v3) := by
  have hcb := h.ca.lt
  have z1 := b1.size
  have c1 : Ch w1 wa (fun k => k = lb) := Ch.grown (Ch.refl w1 _) k1 (fun k e _ => by injection e with e; exact e.symm)
  have Z2 : Wz base wa lab ro cb c p so sr sm n L := (h.below b1).frame c1 (fun g e => by subst e; exact B.r1)
  have F2 : LF.Fl base wa s x := (B.fl.below b1).frame c1 (fun g hg => (B.r2 g hg).2)
  have z2 := b2.size
  have b3 : Below w2.heap.size w2 w3 := ⟨g3.os, g3.tape, g3.output, g3.size, fun k hk => g3.block k hk (fun e => by cases e)⟩
  have z3 := b3.size
  have Z3 := (Z2.below b2).below b3
  have L3 := (L2.below b2).below b3
  have F3 := (F2.below b2).below b3
  have c4 : Ch w3 (w3.setCell ⟨cb, 11, none⟩ v3) (fun k => k = cb) := (Ch.refl w3 (fun k => k = cb)).setCell (p := ⟨cb, 11, none⟩) (fun _ => rfl) v3
  have hlc : lb ≠ cb := fun e => by have := B.r1.1; rw [e, h.rc] at this; cases this
  have hsT : ∀ g, s.T g → g ≠ cb := fun g hg e => by have := (B.r2 g hg).1.1; rw [e, h.rc] at this; cases this
  have hv : ∀ g, v3.ownBlock = some g → g = w2.heap.size := fun g hg => by
    rcases o3 with e | e
    · rw [e] at hg; cases hg
    · rw [e] at hg; injection hg with hg; exact hg.symm
  have Z4 : Wz base (w3.setCell ⟨cb, 11, none⟩ v3) lab ro cb { c with lv := v3 } p so sr sm n L := Z3.own c4 (fun g e => .inl e) (Z3.ca.set 11 v3 _ rfl) rfl rfl rfl rfl
  have r4 := own_ch2 r3 c4 (fun g hg e => by have := hv g hg; omega)
  have hll := B.la.lt
  obtain ⟨ro', W, _⟩ := Z4.leg (L3.ch c4 hlc) B.lo B.fe (F3.frame c4 hsT) r4 hsv B.r1 B.r2 (fun g hg => by
    have e := hv g hg
    subst e
    refine ⟨⟨h.new_ro (by omega), h.new_lab (by omega)⟩, by omega, fun hT => ?_⟩
    have := (B.fl.in_ hT).2
    omega)
  refine ⟨ro', W, ?_⟩
  have C : Ch w (w3.setCell ⟨cb, 11, none⟩ v3) (fun k => base ≤ k) :=
    (Ch.of_below (fun k => base ≤ k) b1).then_ ((c1.mono (fun k _ e => by subst e; exact B.lo)).then_ ((Ch.of_below (fun k => base ≤ k) b2).then_ ((Ch.of_below (fun k => base ≤ k) b3).then_ (c4.mono (fun k _ e => by subst e; exact (h.ds _ (by rw [h.rc]; decide)).2.1)))))
  exact ⟨C.os, C.tape, C.output, C.size, fun k hk => C.block k (by omega) (by omega)⟩
theorem wpList_hello {ops : Array Oper} {rest : List Oper} {op : Oper} {a : Act} {W : World} {Q : Exit → Act → World → Prop} (hgd : op.guard = none) (y z : Operand) (ho : op.op = .store 112 y z) (h : La W lb l) (o : Opn)
    (hx : a.eval y = .pointer (some ⟨lb, 8, none⟩)) (hy : a.eval z = .agg o.vals.toArray) (k : ∀ W', La W' lb { l with he := o } → W.grownBy W' (some lb) → W'.heap.size = W.heap.size → wpList Tryz.prog ops Q rest (a.put op.dst undef) W') : wpList Tryz.prog ops Q (op :: rest) a W := by
  have ht : W.there lb 8 o.vals.toArray.size := by rw [List.size_toArray, Opn.vals_length]; exact h.there
  have hi : (Tryz.prog.info? 112).map (·.size) = some o.vals.toArray.size := by rw [List.size_toArray, Opn.vals_length]; exact infoOpn
  have k2 := k _ (h.hello o) (v_g_setCells lb o.vals 8 W) (v_size_setCells lb o.vals 8 W)
  have h1 := all_oneCell_toArray (opn_one o)
  have hl := h.hello o
  have e : o.vals.toArray.toList = o.vals := rfl
  generalize o.vals = vs at *
  refine wpList_store_mid hgd 112 y z ho lb 8 vs.toArray hx hy ht hi h1 ?_
  exact k2
theorem wpList_litLeg {ops : Array Oper} {rest : List Oper} {op : Oper} {a : Act} {W : World} {Q : Exit → Act → World → Prop} (hgd : Region.wanted op (yielded ops a.tmps) = true) (y : Operand) (ho : op.op = .buildSlice 130 1 #[(0, y)]) (b : Nat) (hy : a.eval y = .pointer (some ⟨b, 0, none⟩))
    (k : ∀ W', W'.rangeAt W.heap.size 0 [cptr b] → Below W.heap.size W W' → W'.heap.size = W.heap.size + 1 → wpList Tryz.prog ops Q rest (a.put op.dst (.slice (some ⟨W.heap.size, 0, none⟩) 1 1)) W') : wpList Tryz.prog ops Q (op :: rest) a W := by
  refine wpList_want hgd fun K hK => ?_
  unfold Oper.wp
  have hr : (execOp a.eval op).run Tryz.prog W = .ok (.value (.slice (some ⟨W.heap.size, 0, none⟩) 1 1)) (W.alloc (.cells #[cptr b] 106)) := by
    have := litLeg W b
    unfold cptr at *
    simp [execOp, ho, hy, this]
  rw [hr, Oper.upon_value]
  exact hK _ _ (k _ (Own.new W [cptr b] 106).range (below_a W _) (by simp))
theorem start_c {w1 wa : World} {j : Nat} {u : Value} (hc : w.cell? ⟨cb, j, none⟩ = some u) (hcb : cb < w.heap.size) (hlc : lb ≠ cb) (b1 : Below w.heap.size w w1) (ka : w1.grownBy wa (some lb)) : wa.cell? ⟨cb, j, none⟩ = some u :=
  (ka.cell_far _ (by have := b1.size; show cb < _; omega) (fun e => by injection e with e; exact hlc e.symm)).trans ((b1.cell hcb).trans hc)
theorem start_d {wa w2 w3 : World} {j : Nat} {u : Value} (hc : wa.cell? ⟨cb, j, none⟩ = some u) (hf : wa.frozen? ⟨cb, j, none⟩ = false) (b2 : Below wa.heap.size wa w2) (g3 : w2.grownBy w3 none) : w3.cell? ⟨cb, j, none⟩ = some u ∧ w3.frozen? ⟨cb, j, none⟩ = false := by
  have hl : cb < wa.heap.size := World.block_lt_of_cell? _ _ hc
  have b3 : Below w2.heap.size w2 w3 := ⟨g3.os, g3.tape, g3.output, g3.size, fun k hk => g3.block k hk (fun e => by cases e)⟩
  have b : Below wa.heap.size wa w3 := below_trans b2 b3
  refine ⟨(b.cell hl).trans hc, ?_⟩
  unfold World.frozen? at *
  rwa [b.block cb hl]
theorem Ch.behind {W W' : World} {lab1 ro1 : Nat → Nat} {z : Zc} (c : Ch W W' (fun k => lab1 k ≠ 0 ∨ ro1 k ≠ 0)) (Z : Wo base W lab1 ro1 cb lb z) : Below base W W' :=
  ⟨c.os, c.tape, c.output, c.size, fun k hk => c.block k (by have := Z.ca.lt; have := (Z.ds cb (by rw [Z.rc]; decide)).2.1; omega) (fun e => by
    rcases e with e | e
    · have := Z.wl k e; omega
    · have := (Z.ds k e).2.1; omega)⟩
/-- What start leaves. -/
def StartP (base : Nat) (w : World) (cb lb : Nat) (c : Cv) (l : Lc) (hello : Opn) (s : LF.Sh) (x : LF.F) (o : LF.Oc) (p : LP.Pm) (so sr sm n : Nat) (w' : World) : Prop :=
  ∃ (lab ro : Nat → Nat) (v v' ov dv : Value), Wo base w' lab ro cb lb (Zc.armed ⟨{ c with lv := v, sv := v' }, { l with he := hello }, s.quiet, x.quiet, n, [], [synSg l.ow l.ot c.op c.tp o.p.seq o.ack o.acks o.p.fin o.rst ov dv], p, so, sr, sm⟩) ∧ Below base w w'
set_option maxHeartbeats 1600000 in
theorem start_any {o : LF.Oc} (hello : Opn) (h : Wz base w lab ro cb c p so sr sm n []) (hb : base ≤ w.heap.size) (B : Beside base w lab ro lb l s x) (hlv : c.lv = .slice none 0 0) (hsv : c.sv = .slice none 0 0)
    (hol : s.ol = [o]) (hsy : o.p.syn = true) (hds : o.p.ds = []) (hC : ∀ v v' g, Calm ⟨{ c with lv := v, sv := v' }, { l with he := hello }, s.quiet, x.quiet, n, [], g, p, so, sr, sm⟩) (t : Int) :
    Calls Tryz.prog 74 #[cptr cb, cptr lb, .agg hello.vals.toArray, .int .i64 t] w fun e w' => e = .returned (.tuple #[]) ∧ StartP base w cb lb c l hello s x o p so sr sm n w' := by
  have HH := Lib.hid h
  have HB := Lib.hid hb
  have HBe := Lib.hid B
  have HS := Lib.hid hsv
  have HC := Lib.hid hC
  have hcb := h.ca.lt
  have hll := B.la.lt
  have c11 := h.ca.lv_
  have f11 := h.ca.fz 11
  rw [hlv] at c11
  have hlc : lb ≠ cb := fun e => by have := B.r1.1; rw [e, h.rc] at this; cases this
  have HE := Lib.hid (fun (W : World) (ro1 : Nat → Nat) (z : Zc) (Z : Wo base W lab ro1 cb lb z) (hb : base ≤ W.heap.size) (e1 : z.s = s) (e2 : z.g = []) => emit1_any Z hb (by rw [e2]; exact Nat.zero_le _) (o := o) (by rw [e1]; exact hol) hsy hds)
  have HSE := Lib.hid (fun (W : World) (lab1 ro1 : Nat → Nat) (z : Zc) (Z : Wo base W lab1 ro1 cb lb z) (hb : base ≤ W.heap.size) (C : Calm z) => settle_any Z hb C t)
  clear h B hsv hC hol hsy hds hb hlv
  unfold cptr at *
  go_enter Tryz.func74, Tryz.ntmps74
  go_wp2_with (first
    | ((with_reducible refine wpList_here ?_); refine wpList_boxV (o := ⟨some 6, _, _, _, _, _⟩) rfl 112 (.tmp 2) rfl hello.vals rfl _ rfl ?_; intro w1 z1 b1 s1; have r1 := z1.range)
    | ((with_reducible refine wpList_here ?_); refine wpList_loadV (o := ⟨some 9, _, _, _, _, _⟩) rfl 112 (.tmp 6) rfl _ 0 hello.vals rfl r1 _ Tryz.underlying112 rfl infoOpn ?_)
    | ((with_reducible refine wpList_here ?_); refine wpList_hello rfl (.tmp 11) (.tmp 9) rfl (HBe.out.la.below b1) hello rfl rfl ?_; intro wa La2 ka sa; have c11a := start_c c11 hcb hlc b1 ka; have f11a : wa.frozen? ⟨cb, 11, none⟩ = false := (HH.out.ca.below b1 |>.ch (Ch.grown (Ch.refl w1 (fun k => k = lb)) ka (fun k e _ => by injection e with e; exact e.symm)) (fun e => hlc e.symm)).fz 11)
    | ((with_reducible refine wpList_here ?_); refine wpList_litLeg rfl (.tmp 17) rfl lb rfl ?_; intro w2 z2 b2 s2)
    | (at_builtin; refine wpList_appG rfl _ _ 130 106 rfl (.pointer none) 1 8 undLegs infoLeg rfl (by decide) (by decide) base (.slice none 0 0) 0 [] rfl (World.ownsRow_nil _ _ _ _) (some ⟨wa.heap.size, 0, none⟩) 1 1 [cptr lb] rfl ⟨rfl, Nat.le_refl _, by omega, (fun u hu => by simp at hu; subst hu; rfl), fun _ => ⟨_, _, rfl, z2⟩⟩ (by omega) (by have := HB.out; have := b1.size; omega) ?_; intro v3 w3 r3 g3 o3; obtain ⟨c11b, f11b⟩ := start_d c11a f11a b2 g3; obtain ⟨ro1, W4, B4⟩ := start_mid HH.out HB.out HBe.out HS.out b1 ka sa La2 b2 r3 g3 o3; have HW4 := Lib.hid W4; have HB4 := Lib.hid B4; clear W4 B4 La2 ka b1 z1 r1 z2 b2 g3 o3; obtain ⟨A3, k3, rfl, _, _⟩ := LF.own_slice r3)
    | fail)
  have HE1 := Lib.hid (HE.out _ ro1 _ HW4.out (by have := HW4.out.ca.lt; have := (HW4.out.ds cb (by rw [HW4.out.rc]; decide)).2.1; omega) rfl rfl)
  clear c11b f11b c11a f11a r3 HE c11 f11 s1 sa s2
  generalize w3.setCell ⟨cb, 11, none⟩ (.slice A3 1 k3) = w4 at *
  refine HE1.out.mono ?_
  rintro e w5 ⟨rfl, ro5, v5, ov, dv, Z5, X5, _⟩
  have hb5 : base ≤ w5.heap.size := by have := Z5.ca.lt; have := (Z5.ds cb (by rw [Z5.rc]; decide)).2.1; omega
  have HSE1 := Lib.hid (HSE.out w5 lab ro5 _ Z5 hb5 (HC.out _ _ _))
  have HB5 : Hid (Below base w w5) := Lib.hid (HB4.out.trans (X5.1.behind HW4.out))
  have HZ5 := Lib.hid Z5
  clear Z5 X5 HE1 HSE hb5
  go_wp2_with fail
  refine HSE1.out.mono ?_
  rintro e w6 ⟨rfl, lab6, Z6, X6⟩
  have HQ : Hid (StartP base w cb lb c l hello s x o p so sr sm n w6) := Lib.hid ⟨lab6, ro5, _, v5, ov, dv, Z6, HB5.out.trans (X6.1.behind HZ5.out)⟩
  clear Z6 X6 HSE1
  go_wp2_with fail
  go_end0
  exact ⟨rfl, HQ.out⟩
end
end Go.Proofs.YtlcegchdkigibaaGreatDoor

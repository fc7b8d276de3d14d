/- What a flow has left, as pieces; a sender to which nothing was done, told that no data are lost; what stands beside a connection whose leg goes: the leg, its flow, what waits to be sent. Conditions: they stand. -/
import Derived.Test.YtiehngeeamhlmaaGreatDoorCnUM
namespace Go.Proofs.YtiehngeeamhlmaaGreatDoor
set_option linter.unusedVariables false
set_option linter.unusedSimpArgs false
set_option maxRecDepth 20000
open Go.RowKit Go.Lib

section
variable {base : Nat} {w w' : World} {lab ro : Nat → Nat} {cb lb : Nat} {z : Zc}
set_option maxHeartbeats 1600000 in
theorem left2_any {s : LF.Sh} {x : LF.F} (h : LF.Fl base w s x) (hl : x.ks.length ≤ 1073741824) (hd : ∀ k ∈ x.ks, k.ds.length ≤ 1099511627776) : Calls Tryz.prog 235 #[cptr s.fb] w (LF.AllP w x.ks) := by
  have HA := Lib.hid (LF.All_any h.qu (by rw [h.llen]; omega) (fun p hp => by
    have := hd p.key (by rw [← h.ky]; exact List.mem_map_of_mem hp)
    have h2 := (h.qu.ok p hp).pg.data.len
    have : p.ds.length ≤ 1099511627776 := this
    omega))
  rw [h.ky] at HA
  have c0 := h.fa.c0
  clear h hl hd
  dsimp only [LF.F.fc] at c0
  unfold cptr
  unfold LF.ptr at *
  go_enter Tryz.func235, Tryz.ntmps235
  go_wp2_with fail
  refine HA.out.mono ?_
  rintro e w1 ⟨v, rfl, ho, b1⟩
  obtain ⟨qs, h1, h2, h3⟩ := ho
  obtain ⟨A, c, rfl, _, _⟩ := LF.own_slice h1
  have HQ : Hid (LF.AllP w x.ks (.returned (.slice A x.ks.length c)) w1) := Lib.hid ⟨_, rfl, ⟨qs, h1, h2, h3⟩, b1⟩
  clear h1 h2 h3 b1 HA
  go_wp2_with fail
  go_ret
  exact HQ.out
def run0 : List Value := [.int .i64 0, .int .i64 0]
def run1 : List Value := [.int .i64 1, .int .i64 0]
theorem run1_one : ∀ u ∈ run1, u.oneCell' = true := by
  intro u hu
  simp only [run1, List.mem_cons, List.not_mem_nil, or_false] at hu
  rcases hu with rfl | rfl <;> rfl
theorem zeroRun : (Tryz.prog.info? 279).map (·.zero) = some (some (.agg run0.toArray)) := by kernel_rfl
theorem sizeRun : (Tryz.prog.info? 279).map (·.size) = some 2 := by kernel_rfl
set_option maxHeartbeats 1600000 in
theorem within0_any (w : World) : Calls Tryz.prog 323 #[.int .i64 1, .int .i64 0] w fun e w' => e = .returned (.agg run1.toArray) ∧ Below w.heap.size w w' := by
  go_enter Tryz.func323, Tryz.ntmps323
  go_wp2_with (first
    | ((with_reducible refine wpList_here ?_); refine wpList_allocV (o := ⟨some 4, _, _, _, _, _⟩) rfl 279 rfl run0 zeroRun _ rfl ?_; intro w1 z1 b1 s1)
    | ((with_reducible refine wpList_here ?_); refine wpList_storeV rfl 279 (.tmp 4) (.tmp 18) rfl _ _ run1 rfl rfl z1 rfl run1_one sizeRun ?_; intro w2 z2 g2 s2)
    | fail)
  refine bodyPost_ret (results_c0 rfl _ _ w.heap.size run1 _ rfl z2.range Tryz.underlying279 rfl sizeRun) rfl ?_
  exact ⟨rfl, v_below_g b1 g2 b1.size (Nat.le_refl _)⟩
set_option maxHeartbeats 1600000 in
theorem add0_any (ob : Nat) (w : World) : Calls Tryz.prog 273 #[cptr ob, .int .i64 1, .int .i64 0] w fun e w' => e = .returned (.int .i64 0) ∧ Below w.heap.size w w' := by
  have HWI := Lib.hid (within0_any w)
  unfold cptr
  go_enter Tryz.func273, Tryz.ntmps273
  go_wp2_with fail
  refine HWI.out.mono ?_
  rintro e w1 ⟨rfl, b1⟩
  go_wp2_with (first
    | ((with_reducible refine wpList_here ?_); refine wpList_allocV (o := ⟨some 7, _, _, _, _, _⟩) rfl 279 rfl run0 zeroRun _ rfl ?_; intro w2 z2 b2 s2)
    | ((with_reducible refine wpList_here ?_); refine wpList_storeV rfl 279 (.tmp 7) (.tmp 15) rfl _ _ run1 rfl rfl z2 rfl run1_one sizeRun ?_; intro w3 z3 g3 s3; have x1 : w3.cell? ⟨w1.heap.size, 1, none⟩ = some (.int .i64 0) := (z3 1 (by simp [run1])).1)
    | fail)
  refine bodyPost_ret (results_tmp rfl _ _ _) rfl ?_
  exact ⟨rfl, below_trans b1 (v_below_g b2 g3 b2.size (Nat.le_refl _))⟩
set_option maxHeartbeats 1600000 in
theorem lost0_any {sb ob : Nat} (h : Sn w sb ob) : Calls Tryz.prog 236 #[cptr sb, .int .i64 0, .int .i64 0] w fun e w' => e = .returned (.int .i64 0) ∧ Below w.heap.size w w' := by
  have c0 : w.cell? ⟨sb, 0, none⟩ = some (.pointer (some ⟨ob, 0, none⟩)) := by rw [h.at_ 0]; rfl
  have c2 : w.cell? ⟨sb, 2, none⟩ = some (.int .i64 1) := by rw [h.at_ 2]; rfl
  have c3 : w.cell? ⟨sb, 3, none⟩ = some (.int .i64 1) := by rw [h.at_ 3]; rfl
  have HA := Lib.hid (add0_any ob w)
  clear h
  unfold cptr at *
  go_enter Tryz.func236, Tryz.ntmps236
  go_wp2_with fail
  refine HA.out.mono ?_
  rintro e w1 ⟨rfl, b1⟩
  have HB := Lib.hid b1
  clear b1
  go_wp2_with fail
  go_ret
  exact ⟨rfl, HB.out⟩
/-- Beside it: a leg, its flow, what waits to be sent. -/
structure Side (base : Nat) (w : World) (ro : Nat → Nat) (lb : Nat) (l : Lc) (s : LF.Sh) (x : LF.F) (vv : Value) (g : List Sgc) : Prop where
  la : La w lb l
  rl : ro lb = 2
  fe : l.fl = cptr s.fb
  fl : LF.Fl base w s x
  rf : ∀ k, s.T k → ro k = 3
  sv : w.ownsRow base 54 13 vv g.length (sgv g)
  rg : ∀ k, vv.ownBlock = some k → ro k = 8
  sg : ∀ q ∈ g, Sgo w ro l.he q
theorem Side.ch {l : Lc} {s : LF.Sh} {x : LF.F} {sv : Value} {g : List Sgc} (h : Side base w ro lb l s x sv g) {m : Nat → Prop} (c : Ch w w' m) (hm : ∀ k, m k → ro k ≠ 2 ∧ ro k ≠ 3 ∧ ro k ≠ 8 ∧ ro k ≠ 9) : Side base w' ro lb l s x sv g :=
  ⟨h.la.ch c (fun e => (hm _ e).1 h.rl), h.rl, h.fe, h.fl.frame c (fun k hk e => (hm k e).2.1 (h.rf k hk)), h.rf, own_ch2 h.sv c (fun k hk e => (hm k e).2.2.1 (h.rg k hk)), h.rg, fun q hq => (h.sg q hq).ch c (fun k hk e => (hm k e).2.2.2 hk)⟩
theorem Wo.side (h : Wo base w lab ro cb lb z) : Side base w ro lb z.l z.s z.x z.c.sv z.g := ⟨h.la, h.rl, h.fe, h.fl, h.rf, h.sv, h.rg, h.sg⟩
/-- The roles of what stays when the leg is gone. -/
def cored (ro : Nat → Nat) : Nat → Nat := fun k => if ro k = 1 ∨ ro k = 4 ∨ ro k = 5 ∨ ro k = 6 then ro k else 0
theorem cored_of {k d : Nat} (h : ro k = d) (hd : d = 1 ∨ d = 4 ∨ d = 5 ∨ d = 6) : cored ro k = d := by unfold cored; rw [if_pos (by rw [h]; exact hd), h]
theorem cored_ne {k : Nat} (h : cored ro k ≠ 0) : ro k = 1 ∨ ro k = 4 ∨ ro k = 5 ∨ ro k = 6 := by
  unfold cored at h
  by_cases e : ro k = 1 ∨ ro k = 4 ∨ ro k = 5 ∨ ro k = 6
  · exact e
  · rw [if_neg e] at h; exact absurd rfl h
theorem cored_0 {k : Nat} (h : ro k = 0 ∨ ro k = 2 ∨ ro k = 3 ∨ ro k = 7 ∨ ro k = 8 ∨ ro k = 9) : cored ro k = 0 := by
  unfold cored
  rw [if_neg]
  rintro (e | e | e | e) <;> rw [e] at h <;> revert h <;> decide
theorem Wo.core (h : Wo base w lab ro cb lb z) : Wz base w lab (cored ro) cb z.c z.p z.so z.ro z.rm z.n z.L :=
  ⟨h.ca, cored_of h.rc (by decide), h.sn, ⟨cored_of h.rs.1 (by decide), cored_of h.rs.2 (by decide)⟩, h.rn, ⟨cored_of h.rr.1 (by decide), cored_of h.rr.2.1 (by decide), cored_of h.rr.2.2 (by decide)⟩, h.pa, cored_of h.rp (by decide), h.wh,
    fun k hk => h.ds k (fun e => by
      rcases cored_ne hk with e2 | e2 | e2 | e2 <;> rw [e] at e2 <;> cases e2), h.wl⟩
end
end Go.Proofs.YtiehngeeamhlmaaGreatDoor

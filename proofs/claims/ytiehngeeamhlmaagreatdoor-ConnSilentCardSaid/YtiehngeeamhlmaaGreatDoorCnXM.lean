/- The contract of Conn.drop, of the last leg, which sent no data. Conditions: the connection stands, its leg's flow has one piece without data. -/
import Derived.Test.YtiehngeeamhlmaaGreatDoorCnVM
namespace Go.Proofs.YtiehngeeamhlmaaGreatDoor
set_option linter.unusedVariables false
set_option linter.unusedSimpArgs false
set_option maxRecDepth 20000
open Go.RowKit Go.Lib

section
variable {base : Nat} {w w' : World} {lab ro : Nat → Nat} {cb lb : Nat} {z : Zc} {c : Cv} {p : LP.Pm} {so sr sm n : Nat} {L : List (Int × Int)} {l : Lc} {s : LF.Sh} {x : LF.F} {vv : Value} {g : List Sgc}
theorem Wz.paths (h : Wz base w lab ro cb c p so sr sm n L) (k : Ch w w' (fun j => j = c.pb)) {q : LP.Pm} (hq : LP.St w' c.pb q) : Wz base w' lab ro cb c q so sr sm n L ∧ Fx lab ro w lab ro w' := by
  have hd : ∀ g d, d ≠ 6 → ro g = d → ¬ (g = c.pb) := fun g d hd e k => hd (by rw [← e, k]; exact h.rp)
  exact ⟨⟨h.ca.ch k (hd _ 1 (by decide) h.rc), h.rc, h.sn.ch k (hd _ 4 (by decide) h.rs.1) (hd _ 4 (by decide) h.rs.2), h.rs, h.rn.ch k (hd _ 5 (by decide) h.rr.1) (hd _ 5 (by decide) h.rr.2.1) (hd _ 5 (by decide) h.rr.2.2), h.rr,
    hq, h.rp, h.wh.ch (lwch k) (fun j hj => by subst hj; exact (h.ds _ (by rw [h.rp]; decide)).1), fun j hj => ⟨(h.ds j hj).1, (h.ds j hj).2.1, Nat.lt_of_lt_of_le (h.ds j hj).2.2 k.size⟩, h.wl⟩, k.mono (fun j _ e => .inr (by subst e; rw [h.rp]; decide)), fun j hj => ⟨rfl, rfl⟩⟩
theorem Side.fx (S : Side base w ro lb l s x vv g) (D : ∀ k, ro k ≠ 0 → lab k = 0) {lab' ro' : Nat → Nat} (X : Fx lab (cored ro) w lab' ro' w') : Side base w' ro lb l s x vv g :=
  S.ch X.1 (fun k e => by
    rcases e with e | e
    · have h0 : ro k = 0 := by
        rcases Nat.eq_zero_or_pos (ro k) with h | h
        · exact h
        · exact absurd (D k (by omega)) e
      rw [h0]; decide
    · rcases cored_ne e with h | h | h | h <;> rw [h] <;> decide)
/-- What is left. -/
def DropP (base : Nat) (w : World) (lab ro : Nat → Nat) (cb lb : Nat) (z : Zc) (w' : World) : Prop :=
  ∃ A k p', k ≤ 9223372036854775807 ∧ Wz base w' lab (cored ro) cb { z.c with lv := .slice A 0 k } p' z.so z.ro z.rm z.n [] ∧ Side base w' ro lb z.l z.s z.x z.c.sv z.g ∧ Below base w w'
theorem drop_del {w1 : World} {gl cap : Nat} (h : Wo base w lab ro cb lb z) (hl : z.c.lv = .slice (some ⟨gl, 0, none⟩) 1 cap) (k1 : Ch w w1 (fun k => k = gl)) :
    Wz base (w1.setCell ⟨cb, 11, none⟩ (.slice (some ⟨gl, 0, none⟩) 0 cap)) lab (cored ro) cb { z.c with lv := .slice (some ⟨gl, 0, none⟩) 0 cap } z.p z.so z.ro z.rm z.n z.L ∧ Side base (w1.setCell ⟨cb, 11, none⟩ (.slice (some ⟨gl, 0, none⟩) 0 cap)) ro lb z.l z.s z.x z.c.sv z.g ∧
      Below base w (w1.setCell ⟨cb, 11, none⟩ (.slice (some ⟨gl, 0, none⟩) 0 cap)) ∧ w1.cell? ⟨cb, 11, none⟩ = some (.slice (some ⟨gl, 0, none⟩) 1 cap) ∧ w1.frozen? ⟨cb, 11, none⟩ = false := by
  have h7 : ro gl = 7 := h.rv gl (by rw [hl]; rfl)
  have hg := h.ds gl (by rw [h7]; decide)
  have W1 := h.core.frame k1 (fun k e => by subst e; exact ⟨cored_0 (by rw [h7]; decide), hg.1⟩)
  have S1 := h.side.ch k1 (fun k e => by subst e; rw [h7]; decide)
  have c2 : Ch w1 (w1.setCell ⟨cb, 11, none⟩ (.slice (some ⟨gl, 0, none⟩) 0 cap)) (fun k => k = cb) := (Ch.refl w1 (fun k => k = cb)).setCell (p := ⟨cb, 11, none⟩) (fun _ => rfl) _
  have hc := h.ds cb (by rw [h.rc]; decide)
  have C := (k1.mono (fun k _ e => (show base ≤ k by subst e; exact hg.2.1))).then_ (c2.mono (fun k _ e => (show base ≤ k by subst e; exact hc.2.1)))
  have hcl := W1.ca.lv_
  rw [hl] at hcl
  exact ⟨W1.own c2 (fun g e => .inl e) (W1.ca.set 11 _ _ rfl) rfl rfl rfl rfl, S1.ch c2 (fun k e => by subst e; rw [h.rc]; decide), ⟨C.os, C.tape, C.output, C.size, fun k hk => C.block k (by have := hc.2.2; omega) (by omega)⟩, hcl, W1.ca.fz 11⟩
theorem Fx.behind (X : Fx lab ro w lab ro w') (h : Wz base w lab ro cb c p so sr sm n L) : Below base w w' :=
  ⟨X.1.os, X.1.tape, X.1.output, X.1.size, fun k hk => X.1.block k (by have := h.size; omega) (fun e => by
    rcases e with e | e
    · have := h.wl k e; omega
    · have := (h.ds k e).2.1; omega)⟩
set_option maxHeartbeats 6400000 in
theorem drop_any (h : Wo base w lab ro cb lb z) (hnm : z.l.nm = 0) (hls : z.c.ls = -1) (hL : ∀ q ∈ z.L, q.1 = 5) (hn : z.n ≤ 1048576) {K : LF.Ky} (hks : z.x.ks = [K]) (hds : K.ds = []) (hdn : K.dsn = 0) :
    Calls Tryz.prog 173 #[cptr cb, cptr lb] w fun e w' => e = .returned (.tuple #[]) ∧ DropP base w lab ro cb lb z w' := by
  have HW := Lib.hid h
  have HD : Hid (∀ k, ro k ≠ 0 → lab k = 0) := Lib.hid (fun k hk => (h.ds k hk).1)
  have hlv := h.lv
  obtain ⟨gl, cap, hl, hcp, hmx⟩ := row1 hlv
  rw [hl] at hlv
  have d0 : w.cell? ⟨gl, 0, none⟩ = some (.pointer (some ⟨lb, 0, none⟩)) := World.ownsRow.cellAt hlv 0 (by simp)
  have c11 := h.ca.lv_
  rw [hl] at c11
  have HIX := Lib.hid (indexLeg_any d0 hcp hmx)
  have HDL := Lib.hid (deleteLeg_any hlv)
  have HHL := Lib.hid hl
  have HK := Lib.hid (And.intro hks (And.intro hds hdn))
  have HNM := Lib.hid hnm
  have HLS := Lib.hid hls
  have HL5 := Lib.hid hL
  have HNN := Lib.hid hn
  clear h hlv d0 hl hks hds hdn hnm hls hL hn
  unfold cptr at *
  go_enter Tryz.func173, Tryz.ntmps173
  go_wp2_with fail
  refine HIX.out.mono ?_
  rintro e w0 ⟨rfl, rfl⟩
  go_wp2_with fail
  refine HDL.out.mono ?_
  rintro e w1 ⟨rfl, k1⟩
  obtain ⟨W2, S2, B2, c11b, f11b⟩ := drop_del HW.out HHL.out k1
  have c14 := W2.ca.ls_
  rw [show ({ z.c with lv := .slice (some ⟨gl, 0, none⟩) 0 cap } : Cv).ls = -1 from HLS.out] at c14
  have HW2 := Lib.hid W2
  have HS2 := Lib.hid S2
  have HB2 := Lib.hid B2
  clear W2 S2 B2 k1 HIX HDL c11
  go_wp2_with fail
  generalize w1.setCell ⟨cb, 11, none⟩ (.slice (some ⟨gl, 0, none⟩) 0 cap) = w2 at *
  clear c11b f11b c14
  have bd : Below w2.heap.size w2 w2.drew := (Below.refl w2.heap.size w2).drew
  have HWd := Lib.hid (HW2.out.below bd)
  have HSd := Lib.hid (HS2.out.fx HD.out (Fx.below lab (cored ro) bd))
  have HBd := Lib.hid (HB2.out.trans (bd.mono HW2.out.size))
  have hne : cb ≠ z.c.pb ∧ lb ≠ z.c.pb := by
    have r1 := HW.out.rp
    have r2 := HW.out.rc
    have r3 := HW.out.rl
    exact ⟨fun e => (by rw [e, r1] at r2; cases r2), fun e => (by rw [e, r1] at r3; cases r3)⟩
  have HGO := Lib.hid (LP.gone_any HWd.out.pa z.l.ow z.l.ot)
  unfold LP.ptr at HGO
  have E0 : w2.drew.cell? ⟨cb, 10, none⟩ = some (.pointer (some ⟨z.c.pb, 0, none⟩)) ∧ w2.drew.cell? ⟨lb, 1, none⟩ = some (.int .i64 z.l.ow) ∧ w2.drew.cell? ⟨lb, 2, none⟩ = some (.int .i64 z.l.ot) := ⟨HWd.out.ca.pb_, HSd.out.la.ow_, HSd.out.la.ot_⟩
  clear bd HW2 HS2 HB2
  dsimp only at HGO
  generalize hpb : z.c.pb = pb at *
  generalize how : z.l.ow = ow at *
  generalize hot : z.l.ot = ot at *
  go_region_held3 (fun V => V.cell? ⟨cb, 10, none⟩ = some (.pointer (some ⟨pb, 0, none⟩)) ∧ V.cell? ⟨lb, 1, none⟩ = some (.int .i64 ow) ∧ V.cell? ⟨lb, 2, none⟩ = some (.int .i64 ot))
    (first | exact E0 | exact E5)
    (first | (go_at_call 233; refine HGO.out.mono ?_; rintro e w5 ⟨rfl, p5, k5⟩; have E5 : w5.cell? ⟨cb, 10, none⟩ = some (.pointer (some ⟨pb, 0, none⟩)) ∧ w5.cell? ⟨lb, 1, none⟩ = some (.int .i64 ow) ∧ w5.cell? ⟨lb, 2, none⟩ = some (.int .i64 ot) := ⟨k5.cell E0.1 hne.1, k5.cell E0.2.1 hne.2, k5.cell E0.2.2 hne.2⟩))
  subst hpb
  obtain ⟨W5, X5⟩ := HWd.out.paths k5 p5
  have S5 := HSd.out.fx HD.out X5
  have B5 := HBd.out.trans (X5.behind HWd.out)
  have HW5 := Lib.hid W5
  have HS5 := Lib.hid S5
  have HB5 := Lib.hid B5
  clear W5 X5 S5 B5 p5 k5 E0 E5 hne HGO HWd HSd HBd
  generalize z.p.goneS ow ot = p5 at *
  go_wp2_with fail
  have bd : Below w5.heap.size w5 w5.drew := (Below.refl w5.heap.size w5).drew
  have HWd := Lib.hid (HW5.out.below bd)
  have HSd := Lib.hid (HS5.out.fx HD.out (Fx.below lab (cored ro) bd))
  have HBd := Lib.hid (HB5.out.trans (bd.mono HW5.out.size))
  have e4 := HSd.out.la.nm_
  rw [HNM.out] at e4
  have E0 : w5.drew.cell? ⟨cb, 16, none⟩ = some (.pointer (some ⟨z.c.wb, 0, none⟩)) ∧ w5.drew.cell? ⟨lb, 4, none⟩ = some (.int .i64 0) := ⟨HWd.out.ca.wb_, e4⟩
  clear bd HW5 HS5 HB5 e4
  have hlb := HSd.out.la.lt
  have hcb := HWd.out.ca.lt
  have ba := below_a w5.drew (.cells #[.int .i64 5] 3)
  have HWe := Lib.hid (HWd.out.below ba)
  have HSe := Lib.hid (HSd.out.fx HD.out (Fx.below lab (cored ro) ba))
  have HBe := Lib.hid (HBd.out.trans (ba.mono HWd.out.size))
  have HCA := Lib.hid (LW.ocancel_any HWe.out.wh (x := 5) (by unfold LW.isI; omega) (by have := HNN.out; omega) (g := w5.drew.heap.size) (cell_new w5.drew _ _) (HWd.out.new_lab (Nat.le_refl _)))
  unfold LW.ptr at HCA
  dsimp only at HCA
  generalize hwb : z.c.wb = wb at *
  go_region_held3 (fun V => V.cell? ⟨cb, 16, none⟩ = some (.pointer (some ⟨wb, 0, none⟩)) ∧ V.cell? ⟨lb, 4, none⟩ = some (.int .i64 0))
    (first | exact E0 | exact E6 | exact ⟨(ba.cell hcb).trans E0.1, (ba.cell hlb).trans E0.2⟩ | trivial)
    (first | (go_at_call 234; refine HCA.out.mono ?_; rintro e w6 ⟨k6, rfl, _, o6, f6⟩; rw [woL_all HL5.out] at o6; subst hwb; obtain ⟨W6, X6⟩ := HWe.out.wheel HWe.out.size o6 f6; have S6 := HSe.out.fx HD.out X6; have n6 := S6.la.nm_; rw [HNM.out] at n6; have E6 : w6.cell? ⟨cb, 16, none⟩ = some (.pointer (some ⟨z.c.wb, 0, none⟩)) ∧ w6.cell? ⟨lb, 4, none⟩ = some (.int .i64 0) := ⟨W6.ca.wb_, n6⟩))
  have HW6 := Lib.hid W6
  have HS6 := Lib.hid S6
  have HB6 := Lib.hid (HBe.out.trans (X6.behind HWe.out))
  clear W6 X6 S6 n6 E6 E0 o6 f6 ba HWe HSe HBe HWd HSd HBd HCA hlb hcb
  have f0 := HS6.out.la.fl_
  rw [HS6.out.fe] at f0
  have HLE := Lib.hid (left2_any HS6.out.fl (by rw [HK.out.1]; simp) (fun k hk => by rw [HK.out.1] at hk; simp only [List.mem_cons, List.not_mem_nil, or_false] at hk; subst hk; rw [HK.out.2.1]; simp))
  rw [HK.out.1] at HLE
  unfold cptr at *
  generalize hfb : z.s.fb = fb at *
  go_wp2_with fail
  refine HLE.out.mono ?_
  rintro e w7 ⟨v, rfl, ⟨qs, hr, hk, hp⟩, b7⟩
  subst hfb
  have HW7 := Lib.hid (HW6.out.below b7)
  have HS7 := Lib.hid (HS6.out.fx HD.out (Fx.below lab (cored ro) b7))
  have HB7 := Lib.hid (HB6.out.trans (b7.mono HW6.out.size))
  clear b7 HLE f0 HW6 HS6 HB6
  obtain ⟨q, rfl⟩ : ∃ q, qs = [q] := by
    match qs, hk with
    | [q], _ => exact ⟨q, rfl⟩
    | [], h => cases h
    | _ :: _ :: _, h => cases h
  obtain ⟨gq, cq, rfl⟩ : ∃ g c, v = .slice (some ⟨g, 0, none⟩) 1 c := by
    rcases hr.2 with ⟨e, e2⟩ | ⟨g', cap, cur, e, _⟩
    · cases e2
    · exact ⟨g', cap, e⟩
  have hq : q.key = K := by injection hk
  have hq4 : q.dsn = 0 := by rw [← HK.out.2.2, ← hq]; rfl
  have hq3 : q.dn = 0 := by
    have h1 := (hp q (by simp)).data.1
    have h2 : q.ds = [] := by rw [← HK.out.2.1, ← hq]; rfl
    rw [h2] at h1
    simpa [bv] using h1.symm
  have r0 := LF.own_rangeP hr (j := 0) (by simp)
  have hqb : 1 ≤ cq ∧ cq ≤ 9223372036854775807 := by
    obtain ⟨A, c, e, h1, h2⟩ := LF.own_slice hr
    injection e with _ _ e
    exact ⟨by have := h1; simp at this; omega, by omega⟩
  have r1 : w7.rangeAt gq 0 q.vals := by
    have h := r0
    simp only [List.getD_cons_zero, Nat.zero_mul] at h
    exact h
  have hqv : q.vals = [.int .u32 (q.seq : Int), .bool q.syn, .bool q.fin, .slice q.dA 0 q.dc, .int .i64 0, .bool q.last] := by unfold LF.Pc.vals; rw [hq3, hq4]
  clear hr hk hp hq hq4 hq3 r0
  go_wp2_with fail
  have HD0 : Hid (∀ (W : World) (k : Nat), W.rangeAt k 0 q.vals → W.cell? ⟨k, 4, none⟩ = some (.int .i64 0) ∧ W.cell? ⟨k, 3, none⟩ = some (.slice q.dA 0 q.dc)) := Lib.hid (fun W k h => by
    rw [hqv] at h
    have h4 := (h 4 (.int .i64 0) rfl)
    have h3 := (h 3 (.slice q.dA 0 q.dc) rfl)
    rw [Nat.zero_add] at h3 h4
    exact ⟨h4, h3⟩)
  clear hqv
  go_loopw [70, 6] (fun i _ wr => (i = .int .i64 0 ∧ wr = w7) ∨ (i = .int .i64 1 ∧ DropP base w0 lab ro cb lb z wr)) (fun i _ _ => 1 - (intOf i).toNat)
  case atStart => exact .inl ⟨rfl, rfl⟩
  case round =>
    rcases hrel with ⟨rfl, rfl⟩ | ⟨rfl, hP⟩
    · go_wp2_with (first
        | ((with_reducible refine wpList_here ?_); refine wpList_loadV (o := ⟨some 73, _, _, _, _, _⟩) rfl 206 (.tmp 72) rfl gq 0 q.vals rfl r1 _ Tryz.underlying206 rfl LF.infoPc ?_)
        | ((with_reducible refine wpList_here ?_); refine wpList_allocV (o := ⟨some 6, _, _, _, _, _⟩) rfl 206 rfl LF.zP.vals LF.zeroPc _ rfl ?_; intro w8 z8 b8 s8)
        | ((with_reducible refine wpList_here ?_); refine wpList_storeV (o := ⟨none, .store 206 _ _, _, _, _, _⟩) rfl 206 (.tmp 6) (.tmp 73) rfl _ _ q.vals rfl rfl z8 rfl (LF.pc_one q) LF.infoPc ?_; intro w9 z9 g9 s9)
        | fail)
      simp only [Act.put, List.setIfInBounds_toArray, List.set_cons_zero, List.set_cons_succ]
      have b9 : Below wr.heap.size wr w9 := v_below_g b8 g9 b8.size (Nat.le_refl _)
      have hsz : w9.heap.size = wr.heap.size + 1 := s9.trans s8
      obtain ⟨d4, d3⟩ := HD0.out w9 _ z9.range
      have bx := b9.drew
      have HW9 := Lib.hid (HW7.out.below bx)
      have HS9 := Lib.hid (HS7.out.fx HD.out (Fx.below lab (cored ro) bx))
      have HB9 := Lib.hid (HB7.out.trans (bx.mono HW7.out.size))
      have E0 : w9.drew.cell? ⟨cb, 8, none⟩ = some (.pointer (some ⟨z.c.sb, 0, none⟩)) ∧ w9.drew.cell? ⟨wr.heap.size, 4, none⟩ = some (.int .i64 0) ∧ w9.drew.cell? ⟨wr.heap.size, 3, none⟩ = some (.slice q.dA 0 q.dc) := ⟨HW9.out.ca.sb_, d4, d3⟩
      have hcb : cb < w9.drew.heap.size := HW9.out.ca.lt
      have hnw : wr.heap.size < w9.drew.heap.size := by show wr.heap.size < w9.heap.size; omega
      have HLO := Lib.hid (lost0_any HW9.out.sn)
      unfold cptr at HLO
      dsimp only at HLO
      clear z8 b8 s8 z9 g9 s9 b9 bx d4 d3 HD0 r1 HW7 HS7 HB7 hsz
      generalize hsb : z.c.sb = sb at *
      generalize wr.heap.size = nb at *
      go_region_held3 (fun V => V.cell? ⟨cb, 8, none⟩ = some (.pointer (some ⟨sb, 0, none⟩)) ∧ V.cell? ⟨nb, 4, none⟩ = some (.int .i64 0) ∧ V.cell? ⟨nb, 3, none⟩ = some (.slice q.dA 0 q.dc))
        (first | exact E0 | exact ⟨(bA.cell hcb).trans E0.1, (bA.cell hnw).trans E0.2.1, (bA.cell hnw).trans E0.2.2⟩)
        (first | (go_at_call 236; refine HLO.out.mono ?_; rintro e wA ⟨rfl, bA⟩))
      subst hsb
      have HF : Hid (DropP base w0 lab ro cb lb z wA) := Lib.hid ⟨_, cap, p5, by omega, HW9.out.below bA, HS9.out.fx HD.out (Fx.below lab (cored ro) bA), HB9.out.trans (bA.mono HW9.out.size)⟩
      clear bA HW9 HS9 HB9 E0 HLO hcb hnw
      go_wp2_with fail
      go_roundw
      case rel => exact .inr ⟨by go_num, HF.out⟩
      case measure => simp [intOf]
    · go_wp2_with fail
      go_end0
      exact ⟨rfl, hP⟩
end
end Go.Proofs.YtiehngeeamhlmaaGreatDoor

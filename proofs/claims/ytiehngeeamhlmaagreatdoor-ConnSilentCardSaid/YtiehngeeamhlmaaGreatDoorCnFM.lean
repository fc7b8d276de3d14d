/- The contracts of leg.over, Conn.leave and Conn.expire, of a connection that dials. Conditions: the connection stands, its leg's flow has one piece without data. -/
import Derived.Test.YtiehngeeamhlmaaGreatDoorCnXM
import Derived.Test.YtiehngeeamhlmaaGreatDoorFlIM
namespace Go.Proofs.YtiehngeeamhlmaaGreatDoor
set_option linter.unusedVariables false
set_option linter.unusedSimpArgs false
set_option maxRecDepth 20000
open Go.RowKit Go.Lib

section
variable {base : Nat} {w w' : World} {lab ro lab' ro' : Nat → Nat} {cb lb : Nat} {z : Zc}
set_option maxHeartbeats 1600000 in
theorem overNo_any (h : Wo base w lab ro cb lb z) (h1 : z.x.st = 1) : Calls Tryz.prog 172 #[cptr lb] w fun e w' => e = .returned (.bool false) ∧ w' = w := by
  have c0 := h.la.fl_
  rw [h.fe] at c0
  have HS := Lib.hid (LF.State_any h.fl.fa)
  clear h
  unfold cptr at *
  unfold LF.ptr at HS
  dsimp only [LF.F.fc] at HS
  rw [h1] at HS
  go_enter Tryz.func172, Tryz.ntmps172
  go_wp2_with (first
    | (go_at_call 167; refine HS.out.mono ?_; rintro e w1 ⟨rfl, rfl⟩)
    | fail)
  go_ret
  exact ⟨rfl, rfl⟩
set_option maxHeartbeats 1600000 in
theorem overYes_any (h : Wo base w lab ro cb lb z) (h1 : z.x.st = 11) : Calls Tryz.prog 172 #[cptr lb] w fun e w' => e = .returned (.bool true) ∧ w' = w := by
  have c0 := h.la.fl_
  rw [h.fe] at c0
  have HS := Lib.hid (LF.State_any h.fl.fa)
  clear h
  unfold cptr at *
  unfold LF.ptr at HS
  dsimp only [LF.F.fc] at HS
  rw [h1] at HS
  go_enter Tryz.func172, Tryz.ntmps172
  go_wp2_with (first
    | (go_at_call 167; refine HS.out.mono ?_; rintro e w1 ⟨rfl, rfl⟩)
    | fail)
  go_ret
  exact ⟨rfl, rfl⟩
set_option maxHeartbeats 1600000 in
theorem leaveNo_any (h : Wo base w lab ro cb lb z) (h1 : z.x.st = 1) (y : Int) : Calls Tryz.prog 112 #[cptr cb, cptr lb, .int .i64 y] w fun e w' => e = .returned (.tuple #[]) ∧ w' = w := by
  have HO := Lib.hid (overNo_any h h1)
  clear h h1
  unfold cptr at *
  go_enter Tryz.func112, Tryz.ntmps112
  go_wp2_with fail
  refine HO.out.mono ?_
  rintro e w1 ⟨rfl, rfl⟩
  go_wp2_with fail
  go_end0
  exact ⟨rfl, rfl⟩
theorem Wo.lastly (h : Wo base w lab ro cb lb z) (y : Int) : Wo base (w.setCell ⟨cb, 6, none⟩ (.int .i64 y)) lab ro cb lb { z with c := { z.c with la := y } } ∧ Below base w (w.setCell ⟨cb, 6, none⟩ (.int .i64 y)) := by
  have k : Ch w (w.setCell ⟨cb, 6, none⟩ (.int .i64 y)) (fun k => k = cb) := (Ch.refl w (fun k => k = cb)).setCell (p := ⟨cb, 6, none⟩) (fun _ => rfl) _
  have W := h.own k (h.ca.set 6 _ { z.c with la := y } rfl) rfl rfl rfl rfl rfl rfl
  exact ⟨W.1, W.2.1.behind h⟩
set_option maxHeartbeats 1600000 in
theorem leaveYes_any (h : Wo base w lab ro cb lb z) (h1 : z.x.st = 11) (hnm : z.l.nm = 0) (hls : z.c.ls = -1) (hL : ∀ q ∈ z.L, q.1 = 5) (hn : z.n ≤ 1048576) {K : LF.Ky} (hks : z.x.ks = [K]) (hds : K.ds = []) (hdn : K.dsn = 0) (y : Int) :
    Calls Tryz.prog 112 #[cptr cb, cptr lb, .int .i64 y] w fun e w' => e = .returned (.tuple #[]) ∧ DropP base w lab ro cb lb { z with c := { z.c with la := y } } w' := by
  have HO := Lib.hid (overYes_any h h1)
  have W := h.lastly y
  have HD := Lib.hid (drop_any W.1 hnm hls hL hn hks hds hdn)
  have HB := Lib.hid W.2
  have c6 := h.ca.la_
  have f6 := h.ca.fz 6
  clear h h1 W hnm hls hL hn hks hds hdn
  unfold cptr at *
  go_enter Tryz.func112, Tryz.ntmps112
  go_wp2_with fail
  refine HO.out.mono ?_
  rintro e w1 ⟨rfl, rfl⟩
  go_wp2_with fail
  refine HD.out.mono ?_
  rintro e w2 ⟨rfl, A, k, p2, h1, h2, h3, h4⟩
  have HF : Hid (DropP base w1 lab ro cb lb { z with c := { z.c with la := y } } w2) := Lib.hid ⟨A, k, p2, h1, h2, h3, HB.out.trans h4⟩
  clear h1 h2 h3 h4 HD
  go_wp2_with fail
  go_end0
  exact ⟨rfl, HF.out⟩
/-- A connection that dials, and waits for an answer: K is its Syn. -/
structure Wt (z : Zc) (K : LF.Ky) : Prop where
  nm : z.l.nm = 0
  st : z.x.st = 1
  ks : z.x.ks = [K]
  sy : K.syn = true
  ds : K.ds = []
  dn : K.dsn = 0
  os : z.x.os = []
  eo : z.x.E.Ok
  ed : z.x.E.d < 1000000
  df : 0 ≤ z.x.df ∧ z.x.df ≤ 1048576
  tr : z.x.tries ≤ 4
  gl : z.g.length ≤ 100
theorem Wt.len {K : LF.Ky} (C : Wt z K) : z.x.ks.length ≤ 1073741824 ∧ (∀ k ∈ z.x.ks, k.ds.length ≤ 1099511627776) ∧ z.x.os.length ≤ 274877906944 := by
  rw [C.ks, C.os]
  refine ⟨by simp, fun k hk => ?_, by simp⟩
  obtain rfl : k = K := by simpa using hk
  rw [C.ds]
  simp
/-- Its Syn was sent once more. -/
def AgainP (base : Nat) (w : World) (lab ro : Nat → Nat) (cb lb : Nat) (z : Zc) (K : LF.Ky) (t : Int) (w' : World) : Prop :=
  ∃ (ro' : Nat → Nat) (v' : Value) (s' : LF.Sh) (ov dv : Value), Wo base w' lab ro' cb lb { z with c := { z.c with sv := v' }, s := s', x := (z.x.tried.backed.again t).quiet, g := z.g ++ [synSg z.l.ow z.l.ot z.c.op z.c.tp K.seq z.x.rcv false K.fin false ov dv] } ∧ Fx lab ro w lab ro' w'
theorem again_ol {s : LF.Sh} {x : LF.F} {K : LF.Ky} {t : Int} (h : LF.Fl base w s (x.tried.backed.again t)) (hk : x.ks = [K]) (ho : x.os = []) (h1 : x.st = 1) : ∃ o, s.ol = [o] ∧ o.p.key = K ∧ o.ack = x.rcv ∧ o.acks = false ∧ o.rst = false := by
  have h2 : s.ol.map LF.Oc.key = (x.tried.backed.again t).os := h.os
  have h3 : (x.tried.backed.again t).os = [⟨K, x.rcv, false, false⟩] := by
    unfold LF.F.again LF.F.tells LF.F.backed LF.F.tried
    dsimp only
    rw [hk, ho, h1]
    rfl
  rw [h3] at h2
  cases hs : s.ol with
  | nil => rw [hs] at h2; cases h2
  | cons o r =>
    rw [hs, List.map_cons] at h2
    injection h2 with h2 h4
    have hr : r = [] := by simpa using h4
    subst hr
    unfold LF.Oc.key at h2
    injection h2 with h5 h6 h7 h8
    exact ⟨o, rfl, h5, h6, h7, h8⟩
set_option maxHeartbeats 3200000 in
theorem expireAgain_any (h : Wo base w lab ro cb lb z) (hb : base ≤ w.heap.size) {K : LF.Ky} (C : Wt z K) {t : Int} (hd : 0 < z.x.dw ∧ z.x.df + z.x.dw ≤ t) (ht : 0 ≤ t ∧ t ≤ 1152921504606846976) (h4 : ¬ 4 < z.x.tries + 1) :
    Calls Tryz.prog 197 #[cptr cb, .int .i64 0, .int .i64 t] w fun e w' => e = .returned (.tuple #[]) ∧ AgainP base w lab ro cb lb z K t w' := by
  have HW := Lib.hid h
  have HB := Lib.hid hb
  have HC := Lib.hid C
  have hx : z.x.expire t = z.x.tried.backed.again t := by unfold LF.F.expire; rw [if_pos hd, if_neg (by rw [C.st]; decide), if_neg h4]
  have hq : z.x.dies t = false := decide_eq_false (fun e => h4 e.2.2)
  have HE := Lib.hid (LF.Expire_any h.fl C.len.1 C.len.2.1 C.len.2.2 C.eo C.ed ⟨C.df.1, by have := C.df.2; omega⟩ (by have := C.tr; omega) t ht)
  rw [hx, hq] at HE
  unfold LF.ptr at HE
  have f0 := h.la.fl_
  rw [h.fe] at f0
  have e4 := h.la.nm_
  rw [C.nm] at e4
  have c11 := h.ca.lv_
  have hlv := h.lv
  obtain ⟨gl, cap, hl, hcp, hmx⟩ := row1 hlv
  rw [hl] at c11 hlv
  have d0 : w.cell? ⟨gl, 0, none⟩ = some (cptr lb) := World.ownsRow.cellAt hlv 0 (by simp)
  clear h hlv C hl hx hq hd ht h4
  unfold cptr at *
  go_enter Tryz.func197, Tryz.ntmps197
  go_wp2_with fail
  go_loopw [13, 7] (fun i _ wr => i = .int .i64 0 ∧ wr = w) (fun _ _ _ => 0)
  case atStart => exact ⟨rfl, rfl⟩
  case round =>
    obtain ⟨rfl, rfl⟩ := hrel
    go_wp2_with fail
    refine HE.out.mono ?_
    rintro e w1 ⟨rfl, s1, he1, f1, k1, n1⟩
    obtain ⟨ro1, W1, X1⟩ := HW.out.flow he1 f1 k1 n1
    obtain ⟨o, ho, hk, ha1, ha2, ha3⟩ := again_ol f1 HC.out.ks HC.out.os HC.out.st
    have hos : o.p.syn = true ∧ o.p.ds = [] ∧ o.p.seq = K.seq ∧ o.p.fin = K.fin := ⟨by rw [← HC.out.sy, ← hk]; rfl, by rw [← HC.out.ds, ← hk]; rfl, by rw [← hk]; rfl, by rw [← hk]; rfl⟩
    have HM := Lib.hid (emit1_any W1 (by have := HB.out; have := k1.size; omega) (by have := HC.out.gl; show z.g.length ≤ _; omega) ho hos.1 hos.2.1)
    have HX1 := Lib.hid X1
    have HO := Lib.hid (And.intro hos (And.intro ha1 (And.intro ha2 ha3)))
    have HST : Hid ((z.x.tried.backed.again t).quiet.st = 1) := Lib.hid HC.out.st
    unfold cptr at HM
    clear f1 k1 n1 W1 X1 ho hk ha1 ha2 ha3 hos HE
    go_wp2_with fail
    refine HM.out.mono ?_
    rintro e w2 ⟨rfl, ro2, v2, ov, dv, Z2, X2, _⟩
    have HL := Lib.hid (leaveNo_any Z2 HST.out 13)
    have HF : Hid (AgainP base wr lab ro cb lb z K t w2) := Lib.hid (by
      rw [HO.out.1.2.2.1, HO.out.1.2.2.2, HO.out.2.1, HO.out.2.2.1, HO.out.2.2.2] at Z2
      exact ⟨ro2, v2, s1.quiet, ov, dv, Z2, HX1.out.trans X2⟩)
    unfold cptr at HL
    clear Z2 X2 HM
    go_wp2_with fail
    refine HL.out.mono ?_
    rintro e w3 ⟨rfl, rfl⟩
    go_wp2_with fail
    refine bodyPost_ret (results_none rfl _ _ _) rfl ?_
    exact ⟨rfl, HF.out⟩
/-- It is dead: its leg is gone. -/
def DeadP (base : Nat) (w : World) (lab ro : Nat → Nat) (cb lb : Nat) (z : Zc) (w' : World) : Prop :=
  ∃ (ro1 : Nat → Nat) (s1 : LF.Sh) (x1 : LF.F) (A : Option Addr) (k : Nat) (p' : LP.Pm), (∀ j, ro1 j ≠ 0 → lab j = 0) ∧ k ≤ 9223372036854775807 ∧
    Wz base w' lab (cored ro1) cb { z.c with la := 13, lv := .slice A 0 k } p' z.so z.ro z.rm z.n [] ∧ Side base w' ro1 lb z.l s1 x1 z.c.sv z.g ∧ Below base w w'
theorem dead_ol {s : LF.Sh} {x : LF.F} (h : LF.Fl base w s (x.tried.fin_ 11)) (ho : x.os = []) : s.ol = [] := by
  have h2 : s.ol.map LF.Oc.key = x.os := h.os
  rw [ho] at h2
  exact List.map_eq_nil_iff.1 h2
set_option maxHeartbeats 3200000 in
theorem expireDies_any (h : Wo base w lab ro cb lb z) (hb : base ≤ w.heap.size) {K : LF.Ky} (C : Wt z K) (hls : z.c.ls = -1) (hL : ∀ q ∈ z.L, q.1 = 5) (hn : z.n ≤ 1048576) {t : Int} (hd : 0 < z.x.dw ∧ z.x.df + z.x.dw ≤ t) (ht : 0 ≤ t ∧ t ≤ 1152921504606846976) (h4 : 4 < z.x.tries + 1) :
    Calls Tryz.prog 197 #[cptr cb, .int .i64 0, .int .i64 t] w fun e w' => e = .returned (.tuple #[]) ∧ DeadP base w lab ro cb lb z w' := by
  have HW := Lib.hid h
  have HB := Lib.hid hb
  have HC := Lib.hid C
  have HLS := Lib.hid hls
  have HL5 := Lib.hid hL
  have HNN := Lib.hid hn
  have hx : z.x.expire t = z.x.tried.fin_ 11 := by unfold LF.F.expire; rw [if_pos hd, if_neg (by rw [C.st]; decide), if_pos h4]
  have hq : z.x.dies t = true := decide_eq_true ⟨hd, by rw [C.st]; decide, h4⟩
  have HE := Lib.hid (LF.Expire_any h.fl C.len.1 C.len.2.1 C.len.2.2 C.eo C.ed ⟨C.df.1, by have := C.df.2; omega⟩ (by have := C.tr; omega) t ht)
  rw [hx, hq] at HE
  unfold LF.ptr at HE
  have f0 := h.la.fl_
  rw [h.fe] at f0
  have e4 := h.la.nm_
  rw [C.nm] at e4
  have c11 := h.ca.lv_
  have hlv := h.lv
  obtain ⟨gl, cap, hl, hcp, hmx⟩ := row1 hlv
  rw [hl] at c11 hlv
  have d0 : w.cell? ⟨gl, 0, none⟩ = some (cptr lb) := World.ownsRow.cellAt hlv 0 (by simp)
  clear h hlv C hl hx hq hd ht h4 hls hL hn
  unfold cptr at *
  go_enter Tryz.func197, Tryz.ntmps197
  go_wp2_with fail
  go_loopw [13, 7] (fun i _ wr => i = .int .i64 0 ∧ wr = w) (fun _ _ _ => 0)
  case atStart => exact ⟨rfl, rfl⟩
  case round =>
    obtain ⟨rfl, rfl⟩ := hrel
    go_wp2_with fail
    refine HE.out.mono ?_
    rintro e w1 ⟨rfl, s1, he1, f1, k1, n1⟩
    obtain ⟨ro1, W1, X1⟩ := HW.out.flow he1 f1 k1 n1
    have HM := Lib.hid (emit0_any W1 (dead_ol f1 HC.out.os))
    have HX1 := Lib.hid X1
    unfold cptr at HM
    clear f1 k1 n1 W1 X1 HE
    go_wp2_with fail
    refine HM.out.mono ?_
    rintro e w2 ⟨rfl, ro2, Z2, X2⟩
    have HL := Lib.hid (leaveYes_any Z2 rfl HC.out.nm HLS.out HL5.out HNN.out HC.out.ks HC.out.ds HC.out.dn 13)
    have HX : Hid (Below base wr w2) := Lib.hid ((HX1.out.trans X2).1.behind HW.out)
    have HD : Hid (∀ j, ro2 j ≠ 0 → lab j = 0) := Lib.hid (fun j hj => (Z2.ds j hj).1)
    unfold cptr at HL
    clear Z2 X2 HM
    go_wp2_with fail
    refine HL.out.mono ?_
    rintro e w3 ⟨rfl, A, k, p3, g1, g2, g3, g4⟩
    have HF : Hid (DeadP base wr lab ro cb lb z w3) := Lib.hid ⟨ro2, _, _, A, k, p3, HD.out, g1, g2, g3, HX.out.trans g4⟩
    clear g1 g2 g3 g4 HL
    go_wp2_with fail
    refine bodyPost_ret (results_none rfl _ _ _) rfl ?_
    exact ⟨rfl, HF.out⟩
end
end Go.Proofs.YtiehngeeamhlmaaGreatDoor

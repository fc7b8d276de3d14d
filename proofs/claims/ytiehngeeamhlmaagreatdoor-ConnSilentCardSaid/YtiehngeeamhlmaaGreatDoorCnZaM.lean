/- What passes, tick by tick, at a connection that dials and hears nothing: its numbers, and Conn.pass. Conditions: as it was left by the tick before; the table of moves is as the program lays it. -/
import Derived.Test.YtiehngeeamhlmaaGreatDoorCnZM
namespace Go.Proofs.YtiehngeeamhlmaaGreatDoor
set_option linter.unusedVariables false
set_option linter.unusedSimpArgs false
set_option maxRecDepth 20000
open Go.RowKit Go.Lib

/-- When it is due, so many Syns sent again. -/
def tmk : Nat → Nat
  | 0 => 4
  | 1 => 12
  | 2 => 28
  | 3 => 44
  | _ => 60
def dwk : Nat → Nat
  | 0 => 4
  | 1 => 8
  | _ => 16
def esk : Nat → LF.Es
  | 0 => LF.Es.zero
  | k + 1 => (esk k).back
theorem esk_wt : ∀ k, k ≤ 4 → (esk k).wt = (dwk k : Int)
  | 0, _ => by decide
  | 1, _ => by decide
  | 2, _ => by decide
  | 3, _ => by decide
  | 4, _ => by decide
  | k + 5, h => by omega
theorem tmk_step : ∀ k, k < 4 → tmk (k + 1) = tmk k + dwk (k + 1)
  | 0, _ => rfl
  | 1, _ => rfl
  | 2, _ => rfl
  | 3, _ => rfl
  | k + 4, h => by omega
theorem esk_eq (k : Nat) : esk k = ⟨false, 0, 0, k⟩ := by
  induction k with
  | zero => rfl
  | succ k ih => show (esk k).back = _; rw [ih]; rfl
theorem tmk_le (k : Nat) : 4 ≤ tmk k ∧ tmk k ≤ 60 := by
  unfold tmk
  split <;> omega
theorem dwk_le (k : Nat) : 0 < dwk k ∧ dwk k ≤ 16 := by
  unfold dwk
  split <;> omega
/-- A connection that dials, at a tick, so many Syns sent again. -/
structure Wa (z : Zc) (K : LF.Ky) (t0 : Int) (n k : Nat) : Prop where
  cm : Calm z
  wt : Wt z K
  nn : z.n = n
  L : z.L = [(5, (tmk k : Int))]
  lt : n < tmk k
  dl : z.x.df + z.x.dw = t0 + (tmk k : Int)
  tr : z.x.tries = k
  E : z.x.E = esk k
  bg : z.c.bg = t0
  tb : 0 ≤ t0 ∧ t0 ≤ 65535
  ls : z.c.ls = -1
  er : z.c.er = 0
  gl : z.g.length = k
  gs : ∀ q ∈ z.g, q.syn = true ∧ q.acks = false
/-- It stands so. -/
def AliveP (base : Nat) (w : World) (cb lb : Nat) (t0 : Int) (n : Nat) (w' : World) : Prop :=
  ∃ lab ro z K k, Wo base w' lab ro cb lb z ∧ Wa z K t0 n k ∧ Below base w w'
/-- It is over. -/
def OverP (base : Nat) (w : World) (cb lb : Nat) (w' : World) : Prop :=
  ∃ (lab ro : Nat → Nat) (l : Lc) (s : LF.Sh) (x : LF.F) (g : List Sgc) (c : Cv) (p : LP.Pm) (so sr sm : Nat), (∀ j, ro j ≠ 0 → lab j = 0) ∧ Wz base w' lab (cored ro) cb c p so sr sm 60 [] ∧ Side base w' ro lb l s x c.sv g ∧ Below base w w' ∧ c.er = 13 ∧ c.st = 8 ∧ g.length = 4 ∧ (∀ q ∈ g, q.syn = true ∧ q.acks = false) ∧ ∃ A kk, kk ≤ 9223372036854775807 ∧ c.lv = .slice A 0 kk
section
variable {base : Nat} {w w' : World} {lab ro lab' ro' : Nat → Nat} {cb lb : Nat} {z : Zc} {K : LF.Ky} {t0 : Int} {n k : Nat}
theorem Wa.k4 (C : Wa z K t0 n k) : k ≤ 4 := by have := C.wt.tr; rw [C.tr] at this; exact this
def Zc.again (z : Zc) (K : LF.Ky) (t : Int) (v : Value) (s : LF.Sh) (ov dv : Value) : Zc :=
  { z with c := { z.c with sv := v }, s := s, x := (z.x.tried.backed.again t).quiet, g := z.g ++ [synSg z.l.ow z.l.ot z.c.op z.c.tp K.seq z.x.rcv false K.fin false ov dv] }
theorem Wa.calm (C : Wa z K t0 n k) (hk : k < 4) (hn : n + 1 = tmk k) (v : Value) (s : LF.Sh) (ov dv : Value) : Calm (({ z with n := n + 1, L := [] } : Zc).again K (t0 + (tmk k : Int)) v s ov dv) := by
  have D := C.cm
  have hE : ((z.x.tried.backed.again (t0 + (tmk k : Int))).quiet).E = esk (k + 1) := by show z.x.E.back = _; rw [C.E]; rfl
  have hdw : ((z.x.tried.backed.again (t0 + (tmk k : Int))).quiet).dw = (dwk (k + 1) : Int) := by
    show z.x.E.back.wt = _
    rw [C.E]
    exact esk_wt (k + 1) (by omega)
  have h1 := dwk_le (k + 1)
  have h2 := tmk_le k
  have h3 := C.tb
  have h4 := tmk_step k hk
  have h5 := tmk_le (k + 1)
  refine ⟨D.st, D.a0, D.a1, D.a2, D.a3, D.a4, D.nm, D.x1, D.ks, D.ds, ?_, D.ho, fun p hp => (by cases hp), Nat.zero_le _, D.bg, ?_, ?_, ?_, ?_⟩
  · show LS.B64 (((z.x.tried.backed.again (t0 + (tmk k : Int))).quiet).E).told
    rw [hE, esk_eq]
    show (-9223372036854775808 : Int) ≤ 32 ∧ (32 : Int) ≤ 9223372036854775807
    decide
  · show 0 ≤ t0 + (tmk k : Int) ∧ t0 + (tmk k : Int) ≤ 1048576
    omega
  · show 0 < ((z.x.tried.backed.again (t0 + (tmk k : Int))).quiet).dw ∧ ((z.x.tried.backed.again (t0 + (tmk k : Int))).quiet).dw ≤ 16
    rw [hdw]
    omega
  · show n + 1 ≤ 1048576
    omega
  · show snc z.c.bg (t0 + (tmk k : Int) + ((z.x.tried.backed.again (t0 + (tmk k : Int))).quiet).dw) ≤ ((n + 1 : Nat) : Int) + 4096
    rw [hdw, C.bg]
    unfold snc
    split <;> omega
theorem Wa.again (C : Wa z K t0 n k) (hk : k < 4) (hn : n + 1 = tmk k) (v : Value) (s : LF.Sh) (ov dv : Value) : Wa (({ z with n := n + 1, L := [] } : Zc).again K (t0 + (tmk k : Int)) v s ov dv).armed K t0 (n + 1) (k + 1) := by
  have D := C.calm hk hn v s ov dv
  have hdw : ((z.x.tried.backed.again (t0 + (tmk k : Int))).quiet).dw = (dwk (k + 1) : Int) := by
    show z.x.E.back.wt = _
    rw [C.E]
    exact esk_wt (k + 1) (by omega)
  have h1 := dwk_le (k + 1)
  have h2 := tmk_le k
  have h3 := C.tb
  have h4 := tmk_step k hk
  have hL : (({ z with n := n + 1, L := [] } : Zc).again K (t0 + (tmk k : Int)) v s ov dv).armed.L = [(5, (tmk (k + 1) : Int))] := by
    show [((5 : Int), max (snc z.c.bg (t0 + (tmk k : Int) + ((z.x.tried.backed.again (t0 + (tmk k : Int))).quiet).dw)) (((n + 1 : Nat) : Int) + 1))] = _
    rw [hdw, C.bg]
    congr 2
    unfold snc
    split <;> omega
  refine ⟨⟨D.st, D.a0, D.a1, D.a2, D.a3, D.a4, D.nm, D.x1, D.ks, D.ds, D.tl, D.ho, ?_, ?_, D.bg, D.df, D.dw, D.n, D.due⟩, ⟨C.wt.nm, C.wt.st, C.wt.ks, C.wt.sy, C.wt.ds, C.wt.dn, rfl, ?_, ?_, D.df, ?_, ?_⟩, rfl, hL, by omega, ?_, ?_, ?_, C.bg, C.tb, C.ls, C.er, ?_, ?_⟩
  · rw [hL]
    intro p hp
    obtain rfl : p = (5, (tmk (k + 1) : Int)) := by simpa using hp
    rfl
  · rw [hL]
    simp
  · show (z.x.E.back).Ok
    rw [C.E]
    show (esk (k + 1)).Ok
    rw [esk_eq]
    exact ⟨(by show (0 : Int) ≤ 0; decide), (by show (0 : Int) ≤ 8000; decide), (by show (0 : Int) ≤ 0; decide), (by show (0 : Int) ≤ 4000; decide), (by show k + 1 ≤ 1000000; omega)⟩
  · show (z.x.E.back).d < 1000000
    rw [C.E]
    show (esk (k + 1)).d < 1000000
    rw [esk_eq]
    show k + 1 < 1000000
    omega
  · show z.x.tries + 1 ≤ 4
    rw [C.tr]
    omega
  · show (z.g ++ [_]).length ≤ 100
    rw [List.length_append, C.gl]
    show k + 1 ≤ 100
    omega
  · show t0 + (tmk k : Int) + ((z.x.tried.backed.again (t0 + (tmk k : Int))).quiet).dw = _
    rw [hdw]
    omega
  · show z.x.tries + 1 = k + 1
    rw [C.tr]
  · show z.x.E.back = _
    rw [C.E]
    rfl
  · show (z.g ++ [_]).length = k + 1
    rw [List.length_append, C.gl]
    rfl
  · intro q hq
    rcases List.mem_append.1 hq with hq | hq
    · exact C.gs q hq
    · obtain rfl : q = _ := by simpa using hq
      exact ⟨rfl, rfl⟩
end
end Go.Proofs.YtiehngeeamhlmaaGreatDoor

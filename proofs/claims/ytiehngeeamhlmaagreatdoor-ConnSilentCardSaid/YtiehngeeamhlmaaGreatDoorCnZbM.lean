/- The contract of Conn.pass at a connection that dials and hears nothing. Conditions: as it was left by the tick before; the table of moves is as the program lays it. -/
import Derived.Test.YtiehngeeamhlmaaGreatDoorCnZaM
namespace Go.Proofs.YtiehngeeamhlmaaGreatDoor
set_option linter.unusedVariables false
set_option linter.unusedSimpArgs false
set_option maxRecDepth 20000
open Go.RowKit Go.Lib

section
variable {base : Nat} {w w' : World} {lab ro lab' ro' : Nat → Nat} {cb lb : Nat} {z : Zc} {K : LF.Ky} {t0 : Int} {n k : Nat}
theorem Wo.size_ (h : Wo base w lab ro cb lb z) : base ≤ w.heap.size := by
  have := h.ca.lt
  have := (h.ds cb (by rw [h.rc]; decide)).2.1
  omega
theorem Wa.later (C : Wa z K t0 n k) (h : n + 1 < tmk k) : Wa { z with n := z.n + 1 } K t0 (n + 1) k := by
  have D := C.cm
  have h2 := tmk_le k
  have h3 := C.tb
  have h4 := C.nn
  refine ⟨⟨D.st, D.a0, D.a1, D.a2, D.a3, D.a4, D.nm, D.x1, D.ks, D.ds, D.tl, D.ho, D.L5, D.Ll, D.bg, D.df, D.dw, ?_, ?_⟩, ⟨C.wt.nm, C.wt.st, C.wt.ks, C.wt.sy, C.wt.ds, C.wt.dn, C.wt.os, C.wt.eo, C.wt.ed, C.wt.df, C.wt.tr, C.wt.gl⟩, ?_, C.L, h, C.dl, C.tr, C.E, C.bg, C.tb, C.ls, C.er, C.gl, C.gs⟩
  · show z.n + 1 ≤ 1048576
    omega
  · show snc z.c.bg (z.x.df + z.x.dw) ≤ ((z.n + 1 : Nat) : Int) + 4096
    rw [C.bg, C.dl]
    unfold snc
    split <;> omega
  · show z.n + 1 = n + 1
    omega
theorem Wt.z1 (C : Wt z K) (m : Nat) : Wt { z with n := m, L := [] } K := ⟨C.nm, C.st, C.ks, C.sy, C.ds, C.dn, C.os, C.eo, C.ed, C.df, C.tr, C.gl⟩
theorem pass_any (h : Wo base w lab ro cb lb z) (C : Wa z K t0 n k) (hT : ∀ W, Below base w W → LC.Tab W) :
    Calls Tryz.prog 77 #[cptr cb, .int .i64 ((n : Int) + 1)] w fun e w' => e = .returned (.tuple #[]) ∧ (AliveP base w cb lb t0 (n + 1) w' ∨ n + 1 = 60 ∧ OverP base w cb lb w') := by
  have hb := h.size_
  have hn := C.nn
  have h2 := tmk_le k
  have h3 := C.tb
  have hk4 := C.k4
  have hlt := C.lt
  have hbg := C.bg
  rcases Nat.lt_or_ge (n + 1) (tmk k) with hm | hm
  · have H := passNo_any h hb C.L (by omega) (by omega)
    rw [hn] at H
    refine H.mono ?_
    rintro e w1 ⟨rfl, lab1, W1, X1⟩
    exact ⟨rfl, .inl ⟨lab1, ro, _, K, k, W1, (by have := C.later hm; rw [hn] at this; exact this), X1.1.behind h⟩⟩
  · have he : n + 1 = tmk k := by omega
    have hL : z.L = [(5, (z.n : Int) + 1)] := by rw [C.L, ← he, hn]; rfl
    have ht : z.c.bg + ((z.n : Int) + 1) = t0 + (tmk k : Int) := by rw [C.bg, hn, ← he]; rfl
    have hdl : 0 < z.x.dw ∧ z.x.df + z.x.dw ≤ t0 + (tmk k : Int) := ⟨C.cm.dw.1, by rw [C.dl]; omega⟩
    rcases Nat.lt_or_ge k 4 with hk | hk
    · have H := passDue_any h hb hL (by omega) (by omega)
        (P := fun W' => ∃ lab' ro' v s ov dv, Wo base W' lab' ro' cb lb (({ z with n := n + 1, L := [] } : Zc).again K (t0 + (tmk k : Int)) v s ov dv) ∧ Below base w W')
        (Q := fun W' => AliveP base w cb lb t0 (n + 1) W' ∨ n + 1 = 60 ∧ OverP base w cb lb W')
        (fun W lab1 Z X => by
          rw [ht]
          rw [hn] at Z
          refine (expireAgain_any Z Z.size_ (C.wt.z1 (n + 1)) hdl (by omega) (by show ¬ 4 < z.x.tries + 1; rw [C.tr]; omega)).mono ?_
          rintro e W' ⟨rfl, ro', v, s, ov, dv, Z2, X2⟩
          exact ⟨rfl, lab1, ro', v, s, ov, dv, Z2, (X.trans X2).1.behind h⟩)
        (fun W ⟨lab', ro', v, s, ov, dv, Z, B⟩ => by
          rw [ht]
          refine (settle_any Z Z.size_ (C.calm hk he v s ov dv) (t0 + (tmk k : Int))).mono ?_
          rintro e W' ⟨rfl, lab2, Z2, X2⟩
          exact ⟨rfl, .inl ⟨lab2, ro', _, K, k + 1, Z2, C.again hk he v s ov dv, B.trans (X2.1.behind Z)⟩⟩)
      rw [hn] at H
      exact H
    · obtain rfl : k = 4 := by omega
      have h60 : n + 1 = 60 := he
      have H := passDue_any h hb hL (by omega) (by omega)
        (P := fun W' => ∃ lab1 W, Below base w W ∧ DeadP base W lab1 ro cb lb { z with n := n + 1, L := [] } W')
        (Q := fun W' => AliveP base w cb lb t0 (n + 1) W' ∨ n + 1 = 60 ∧ OverP base w cb lb W')
        (fun W lab1 Z X => by
          rw [ht]
          rw [hn] at Z
          refine (expireDies_any Z Z.size_ (C.wt.z1 (n + 1)) C.ls (fun q hq => by cases hq) (by show n + 1 ≤ 1048576; omega) hdl (by omega) (by show 4 < z.x.tries + 1; rw [C.tr]; omega)).mono ?_
          rintro e W' ⟨rfl, D⟩
          exact ⟨rfl, lab1, W, X.1.behind h, D⟩)
        (fun W ⟨lab1, W0, B0, ro1, s1, x1, A, kk, p', hD, hkk, Z, S, B⟩ => by
          rw [ht]
          refine (settleZ_any Z ⟨C.cm.a0, C.cm.a1, C.cm.a2, C.cm.a3, C.cm.a4⟩ (by show n + 1 ≤ 1048576; omega) rfl hkk C.cm.st (t0 + (tmk 4 : Int)) (fun W2 b2 => hT W2 ((B0.trans B).trans b2))).mono ?_
          rintro e W' ⟨rfl, Z2, X2⟩
          refine ⟨rfl, .inr ⟨h60, lab1, ro1, _, s1, x1, z.g, { z.c with la := 13, lv := .slice A 0 kk, er := 13, st := 8 }, p', z.so, z.ro, z.rm, hD, ?_, S.fx hD X2, (B0.trans B).trans (X2.behind Z), rfl, rfl, C.gl, C.gs, A, kk, hkk, rfl⟩⟩
          have Z3 : Wz base W' lab1 (cored ro1) cb { z.c with la := 13, lv := .slice A 0 kk, er := 13, st := 8 } p' z.so z.ro z.rm (n + 1) [] := Z2
          rw [h60] at Z3
          exact Z3)
      rw [hn] at H
      exact H
end
end Go.Proofs.YtiehngeeamhlmaaGreatDoor

/- A receiver goes on: its next number moves behind all that came, and the data below it come out of the map. Conditions: the receiver's memory stands; numbers of at most 100000. -/
import Derived.Test.YtancbdnpmabpfaaDrB
import Derived.Test.YtancbdnpmabpfaaSpK
import Derived.Test.YtancbdnpmabpfaaSpN
import Derived.Test.YtancbdnpmabpfaaStepA
import Derived.Test.YtancbdnpmabpfaaHel
import Derived.StillTailTactics
import Derived.Deep.LoopGhost
namespace Go.Proofs.Ytancbdnpmabpfaa
set_option linter.unusedVariables false
set_option linter.unusedSimpArgs false
open Go.RowKit Go.Lib

theorem nx_eq {l : List Rn} {M : Nat → Option UInt8} {nx nx' : Nat} (L : Ls l M nx) (h2 : nx ≤ nx') (ha : ∀ j, nx ≤ j → j < nx' → (M j).isSome = true) (hn : M nx' = none) {x : Int} (h : NxR l (nx : Int) x) : x = (nx' : Int) := by
  obtain ⟨a1, a2, a3, a4⟩ := h
  rcases Int.lt_trichotomy x (nx' : Int) with hh | hh | hh
  · exact absurd ((L x).2 ⟨by omega, ha x.toNat (by omega) (by omega)⟩) a2
  · exact hh
  · have := ((L (nx' : Int)).1 (a3 _ (by omega) hh)).2
    rw [Int.toNat_natCast, hn] at this
    cases this
theorem ahd_succ {M : Nat → Option UInt8} {q : Nat} (k : Int) : (if k = (q : Int) then none else ahd M q k) = ahd M (q + 1) k := by
  unfold ahd
  by_cases h : k = (q : Int)
  · rw [if_pos h, if_neg (by omega)]
  · rw [if_neg h]
    by_cases h2 : (q : Int) ≤ k
    · rw [if_pos h2, if_pos (by omega)]
    · rw [if_neg h2, if_neg (by omega)]
def GoP (base : Nat) (w : World) (rb : Nat) (z : Sh) (nx' en : Nat) (M : Nat → Option UInt8) (rd t : Nat) (e : Ending) (w' : World) : Prop :=
  e = .returned (.tuple #[]) ∧ ∃ z', Rw base w' rb z' nx' en (datM M rd nx') (ahd M nx') t ∧ Ls z'.l M nx' ∧ Mv w rb z w' z'
theorem go_done {base : Nat} {w w3 w5 : World} {rb : Nat} {z : Sh} {v v' : Value} {l' : List Rn} {nx nx' en rd t : Nat} {M : Nat → Option UInt8} (H : Rw base w3 rb { z with dv := v } nx' en (datM M rd nx') (ahd M nx') t) (m : Mv w rb z w3 { z with dv := v }) (L : Ls z.l M nx) (h2 : nx ≤ nx')
    (s : St w5 z.ob v' l') (d : DropR z.l (nx' : Int) l') (c : Ch w3 w5 (fun k => k = z.ob ∨ z.lv.ownBlock = some k)) (o : ∀ k, v'.ownBlock = some k → z.lv.ownBlock = some k ∨ w3.heap.size ≤ k) : GoP base w rb z nx' en M rd t (.returned (.tuple #[])) w5 := by
  obtain ⟨r, m2⟩ := H.setl s c o
  refine ⟨rfl, _, r, fun n => ?_, m.then_ m2⟩
  show Has l' n ↔ _
  rw [d.has, L n]
  exact ⟨fun ⟨⟨a1, a2⟩, a3⟩ => ⟨a3, a2⟩, fun ⟨a1, a2⟩ => ⟨⟨by omega, a2⟩, a1⟩⟩
/-- One round: a datum behind the others, out of the map, the next number. -/
theorem go_round_ {base : Nat} {w8 w9 : World} {rb : Nat} {z : Sh} {v v9 : Value} {q en rd t : Nat} {b : UInt8} {M : Nat → Option UInt8} (H : Rw base w8 rb { z with dv := v } q en (datM M rd q) (ahd M q) t) (hq : rd + 1 ≤ q) (hb : M q = some b) {n : Nat} (hn : (datM M rd q).length = n)
    (r9 : w9.ownsRow base 5 1 v9 (n + 1) (bv (datM M rd q ++ [b]))) (g9 : w8.grownBy w9 v.ownBlock) (o9 : v9.ownBlock = v.ownBlock ∨ v9.ownBlock = some w8.heap.size) :
    Rw base (w9.setCell ⟨rb, 1, none⟩ v9) rb { z with dv := v9 } q en (datM M rd (q + 1)) (ahd M q) t ∧ Mv w8 rb { z with dv := v } (w9.setCell ⟨rb, 1, none⟩ v9) { z with dv := v9 } := by
  have e : datM M rd q ++ [b] = datM M rd (q + 1) := by rw [datM_succ hq, hb]; rfl
  rw [e] at r9
  have hl : (datM M rd (q + 1)).length = n + 1 := by rw [datM_length] at *; omega
  exact H.setd (by rw [hl]; exact r9) (Ch.grown (m := fun k => v.ownBlock = some k) (Ch.refl w8 _) g9 (fun k e _ => e)) (o9.imp id (fun h => ⟨_, h, Nat.le_refl _⟩))

section
variable {base : Nat} {w : World} {rb : Nat} {z : Sh} {nx en rd t : Nat} {M : Nat → Option UInt8}
set_option maxRecDepth 20000 in
set_option maxHeartbeats 6400000 in
theorem goOn_any (H : Rw base w rb z nx en (datM M rd nx) (ahd M nx) t) (L : Ls z.l M nx) (h1 : 1 ≤ nx) (hrd : rd + 1 ≤ nx) {nx' : Nat} (h2 : nx ≤ nx') (ha : ∀ j, nx ≤ j → j < nx' → (M j).isSome = true) (hn : M nx' = none) (hc : nx' ≤ 100000) (hb : base ≤ w.heap.size) :
    Calls Try.prog 30 #[ptr rb] w (GoP base w rb z nx' en M rd t) := by
  have HL := Lib.hid L
  have HA := Lib.hid ha
  have HN := Lib.hid hn
  have HC := Lib.hid (And.intro h1 (And.intro hrd (And.intro h2 (And.intro hc hb))))
  have H0 := Lib.hid (H.below (Below.refl _ _).drew)
  have e0 : w.drew.cell? ⟨rb, 0, none⟩ = some (.int .i64 (nx : Int)) := H.cell 0
  have e1 : w.drew.cell? ⟨rb, 2, none⟩ = some (ptr z.ob) := H.cell 2
  have HX := Lib.hid (Next_any H0.out.st (f := (nx : Int)) (by unfold isI; omega))
  obtain ⟨ob, hob⟩ : ∃ ob, ob = z.ob := ⟨_, rfl⟩
  rw [← hob] at e1 HX
  have HOB := Lib.hid hob
  clear H L h1 hrd h2 ha hn hc hb hob
  unfold ptr at *
  go_enter Try.func30, Try.ntmps30
  go_upto_region 0 with (fail)
  refine wp_region_noPanic ?_
  refine wp_region_held_drew (S := fun W => W.cell? ⟨rb, 0, none⟩ = some (.int .i64 (nx : Int)) ∧ W.cell? ⟨rb, 2, none⟩ = some (.pointer (some ⟨ob, 0, none⟩))) (by kernel_rfl) ⟨e0, e1⟩ (fun _ => ?_)
  refine held_take (i := 0) (v := .pointer (some ⟨rb, 0, none⟩)) (some 3) rfl rfl (by kernel_rfl) (by kernel_rfl) (by kernel_rfl) (fun _ _ _ h => h) (Or.inl ⟨by rfl, fun W hW => by go_simp⟩) ⟨e0, e1⟩ ?_
  simp only [Act.put, List.setIfInBounds_toArray, List.set_cons_zero, List.set_cons_succ]
  refine held_take (i := 4) (v := .pointer (some ⟨rb, 0, none⟩)) (some 7) rfl rfl (by kernel_rfl) (by kernel_rfl) (by kernel_rfl) (fun _ _ _ h => h) (Or.inl ⟨by rfl, fun W hW => by go_simp⟩) ⟨e0, e1⟩ ?_
  simp only [Act.put, List.setIfInBounds_toArray, List.set_cons_zero, List.set_cons_succ]
  refine held_take (i := 1) (v := .pointer (some ⟨rb, 0, none⟩)) (some 4) rfl rfl (by kernel_rfl) (by kernel_rfl) (by kernel_rfl) (fun _ _ _ h => h) (Or.inl ⟨by rfl, fun W hW => by go_simp⟩) ⟨e0, e1⟩ ?_
  simp only [Act.put, List.setIfInBounds_toArray, List.set_cons_zero, List.set_cons_succ]
  refine held_take (i := 5) (v := .pointer (some ⟨rb, 0, none⟩)) (some 8) rfl rfl (by kernel_rfl) (by kernel_rfl) (by kernel_rfl) (fun _ _ _ h => h) (Or.inl ⟨by rfl, fun W hW => by go_simp⟩) ⟨e0, e1⟩ ?_
  simp only [Act.put, List.setIfInBounds_toArray, List.set_cons_zero, List.set_cons_succ]
  refine held_take (i := 2) (v := .pointer (some ⟨rb, 2, none⟩)) (some 5) rfl rfl (by kernel_rfl) (by kernel_rfl) (by kernel_rfl) (fun _ _ _ h => h) (Or.inl ⟨by rfl, fun W hW => by go_simp⟩) ⟨e0, e1⟩ ?_
  simp only [Act.put, List.setIfInBounds_toArray, List.set_cons_zero, List.set_cons_succ]
  refine held_take (i := 6) (v := .pointer (some ⟨rb, 0, none⟩)) (some 9) rfl rfl (by kernel_rfl) (by kernel_rfl) (by kernel_rfl) (fun _ _ _ h => h) (Or.inl ⟨by rfl, fun W hW => by go_simp⟩) ⟨e0, e1⟩ ?_
  simp only [Act.put, List.setIfInBounds_toArray, List.set_cons_zero, List.set_cons_succ]
  refine held_take (i := 3) (v := .pointer (some ⟨ob, 0, none⟩)) (some 6) rfl rfl (by kernel_rfl) (by kernel_rfl) (by kernel_rfl) (fun _ _ _ h => h) (Or.inl ⟨by rfl, fun W hW => by have hc := hW.2; go_simp⟩) ⟨e0, e1⟩ ?_
  simp only [Act.put, List.setIfInBounds_toArray, List.set_cons_zero, List.set_cons_succ]
  refine held_take (i := 7) (v := .int .i64 (nx : Int)) (some 10) rfl rfl (by kernel_rfl) (by kernel_rfl) (by kernel_rfl) (fun _ _ _ h => h) (Or.inl ⟨by rfl, fun W hW => by have hc := hW.1; go_simp⟩) ⟨e0, e1⟩ ?_
  simp only [Act.put, List.setIfInBounds_toArray, List.set_cons_zero, List.set_cons_succ]
  refine wpAnyH_ready (rs := [8]) (by kernel_rfl) (by simp) ?_
  refine AllReadyH.cons rfl (fun K hK => ?_) AllReadyH.nil
  go_simp
  refine (HX.out).mono ?_
  rintro e w5 ⟨x, rfl, hx, b5⟩
  have e9 : w5.cell? ⟨rb, 0, none⟩ = some (.int .i64 (nx : Int)) ∧ w5.cell? ⟨rb, 2, none⟩ = some (.pointer (some ⟨ob, 0, none⟩)) := ⟨keepc b5 e0, keepc b5 e1⟩
  have B5 := Lib.hid b5
  obtain rfl : x = (nx' : Int) := nx_eq HL.out HC.out.2.2.1 HA.out HN.out hx
  clear hx b5 HX e0 e1
  try dsimp only
  refine hK.out _ _ e9 (fun _ => ?_)
  clear hK
  try simp only [Act.put, List.setIfInBounds_toArray, List.set_cons_zero, List.set_cons_succ]
  refine held_take (i := 9) (v := .int .i64 (nx' : Int)) (some 2) rfl rfl (by kernel_rfl) (by kernel_rfl) (by kernel_rfl) (fun _ _ _ h => h) (Or.inl ⟨by rfl, fun W hW => by go_simp⟩) e9 ?_
  simp only [Act.put, List.setIfInBounds_toArray, List.set_cons_zero, List.set_cons_succ]
  refine wpAnyH_done (by kernel_rfl) ?_ _
  refine NoPanic.normal ?_
  have HM5 : Hid (Rw base w5 rb { z with dv := z.dv } nx en (datM M rd nx) (ahd M nx) t ∧ Mv w rb z w5 { z with dv := z.dv }) := Lib.hid ⟨H0.out.below B5.out, Mv.of_below (below_trans (a := w) (b := w.drew) (Below.refl _ _).drew B5.out)⟩
  clear e9 H0 B5
  go_wp2_with fail
  go_loopg [12] (nx' - nx) (fun kx s12 wr => ∃ (q : Nat) (v : Value), nx ≤ q ∧ q ≤ nx' ∧ nx' - q ≤ kx ∧ Rw base wr rb { z with dv := v } q en (datM M rd q) (ahd M q) t ∧ Mv w rb z wr { z with dv := v })
  case atStart => exact ⟨nx, z.dv, Nat.le_refl _, HC.out.2.2.1, Nat.le_refl _, HM5.out.1, HM5.out.2⟩
  case round =>
    obtain ⟨q, v, q1, q2, q3, R, m⟩ := hrel
    have HR := Lib.hid R
    have HM := Lib.hid m
    have HQ := Lib.hid (And.intro q1 (And.intro q2 q3))
    have c0 : wr.cell? ⟨rb, 0, none⟩ = some (.int .i64 (q : Int)) := R.cell 0
    obtain ⟨n, hn⟩ : ∃ n, (datM M rd q).length = n := ⟨_, rfl⟩
    have HNL := Lib.hid hn
    clear R m q1 q3 HM5
    by_cases hlt : q < nx'
    · have hltI : (q : Int) < (nx' : Int) := by omega
      have HLT := Lib.hid hlt
      clear hlt q2
      obtain ⟨b, hbq⟩ : ∃ b, M q = some b := Option.isSome_iff_exists.1 (HA.out q HQ.out.1 HLT.out)
      have HBQ := Lib.hid hbq
      have HOW : Hid (wr.ownsRow base 5 1 v n (bv (datM M rd q))) := Lib.hid (by have h := HR.out.data; rw [hn] at h; exact h)
      obtain ⟨vA, vc, rfl, -, -⟩ := RB.of_own HOW.out
      have e0 : wr.drew.cell? ⟨rb, 1, none⟩ = some (.slice vA n vc) := HR.out.cell 1
      have e1 : wr.drew.cell? ⟨rb, 3, none⟩ = some (.map (some z.mb)) := HR.out.cell 3
      have e2 : wr.drew.cell? ⟨rb, 0, none⟩ = some (.int .i64 (q : Int)) := HR.out.cell 0
      have HLK : Hid (∀ W : World, W.heap[z.mb]? = wr.heap[z.mb]? → (Instr.lookup 48 (.map (some z.mb)) (.int .i64 (q : Int)) false).run Try.prog W = .ok (.int .u8 (b.toNat : Int)) W) := Lib.hid (fun W hW => by
        obtain ⟨k, _, hM⟩ := HR.out.map
        exact hM.look (by have := HC.out; have := HQ.out; unfold isI; omega) (by unfold ahd; rw [if_pos (Int.le_refl _), Int.toNat_natCast]; exact hbq) W hW)
      have HAP := Lib.hid HR.out.apart
      have HLTS := Lib.hid (And.intro HR.out.lt HR.out.mlt)
      have HRF := Lib.hid HR.out.fz
      obtain ⟨mb, hmb⟩ : ∃ mb, mb = z.mb := ⟨_, rfl⟩
      rw [← hmb] at e1 HLK HLTS
      have HMB := Lib.hid hmb
      have e3 : wr.drew.heap[mb]? = wr.heap[mb]? := rfl
      have HB4 : Hid (base ≤ wr.heap.size) := Lib.hid (Nat.le_trans HC.out.2.2.2.2 HM.out.ch.size)
      clear hmb hbq hn
      go_upto_region 3 with (fail)
      clear c0
      refine wp_region_noPanic ?_
      refine until_start (fun W => W.cell? ⟨rb, 1, none⟩ = some (.slice vA n vc) ∧ W.cell? ⟨rb, 3, none⟩ = some (.map (some mb)) ∧ W.cell? ⟨rb, 0, none⟩ = some (.int .i64 (q : Int)) ∧ W.heap[mb]? = wr.heap[mb]?) 18 (by kernel_rfl) ⟨e0, e1, e2, e3⟩ (fun _ => ?_)
      refine until_take (i := 0) (v := .pointer (some ⟨rb, 0, none⟩)) (some 25) [18] rfl rfl (by kernel_rfl) (by kernel_rfl) (by kernel_rfl) (by kernel_rfl) rfl rfl (fun _ _ _ h => h) (Or.inl ⟨by rfl, fun W hW => by go_simp⟩) ⟨e0, e1, e2, e3⟩ ?_
      simp only [Act.put, List.setIfInBounds_toArray, List.set_cons_zero, List.set_cons_succ]
      refine until_take (i := 1) (v := .pointer (some ⟨rb, 0, none⟩)) (some 26) [18] rfl rfl (by kernel_rfl) (by kernel_rfl) (by kernel_rfl) (by kernel_rfl) rfl rfl (fun _ _ _ h => h) (Or.inl ⟨by rfl, fun W hW => by go_simp⟩) ⟨e0, e1, e2, e3⟩ ?_
      simp only [Act.put, List.setIfInBounds_toArray, List.set_cons_zero, List.set_cons_succ]
      refine until_take (i := 5) (v := .pointer (some ⟨rb, 0, none⟩)) (some 30) [18] rfl rfl (by kernel_rfl) (by kernel_rfl) (by kernel_rfl) (by kernel_rfl) rfl rfl (fun _ _ _ h => h) (Or.inl ⟨by rfl, fun W hW => by go_simp⟩) ⟨e0, e1, e2, e3⟩ ?_
      simp only [Act.put, List.setIfInBounds_toArray, List.set_cons_zero, List.set_cons_succ]
      refine until_take (i := 9) (v := .pointer (some ⟨rb, 0, none⟩)) (some 34) [18] rfl rfl (by kernel_rfl) (by kernel_rfl) (by kernel_rfl) (by kernel_rfl) rfl rfl (fun _ _ _ h => h) (Or.inl ⟨by rfl, fun W hW => by go_simp⟩) ⟨e0, e1, e2, e3⟩ ?_
      simp only [Act.put, List.setIfInBounds_toArray, List.set_cons_zero, List.set_cons_succ]
      refine until_take (i := 2) (v := .pointer (some ⟨rb, 0, none⟩)) (some 27) [18] rfl rfl (by kernel_rfl) (by kernel_rfl) (by kernel_rfl) (by kernel_rfl) rfl rfl (fun _ _ _ h => h) (Or.inl ⟨by rfl, fun W hW => by go_simp⟩) ⟨e0, e1, e2, e3⟩ ?_
      simp only [Act.put, List.setIfInBounds_toArray, List.set_cons_zero, List.set_cons_succ]
      refine until_take (i := 6) (v := .pointer (some ⟨rb, 0, none⟩)) (some 31) [18] rfl rfl (by kernel_rfl) (by kernel_rfl) (by kernel_rfl) (by kernel_rfl) rfl rfl (fun _ _ _ h => h) (Or.inl ⟨by rfl, fun W hW => by go_simp⟩) ⟨e0, e1, e2, e3⟩ ?_
      simp only [Act.put, List.setIfInBounds_toArray, List.set_cons_zero, List.set_cons_succ]
      refine until_take (i := 10) (v := .pointer (some ⟨rb, 0, none⟩)) (some 35) [18] rfl rfl (by kernel_rfl) (by kernel_rfl) (by kernel_rfl) (by kernel_rfl) rfl rfl (fun _ _ _ h => h) (Or.inl ⟨by rfl, fun W hW => by go_simp⟩) ⟨e0, e1, e2, e3⟩ ?_
      simp only [Act.put, List.setIfInBounds_toArray, List.set_cons_zero, List.set_cons_succ]
      refine until_take (i := 3) (v := .pointer (some ⟨rb, 1, none⟩)) (some 28) [18] rfl rfl (by kernel_rfl) (by kernel_rfl) (by kernel_rfl) (by kernel_rfl) rfl rfl (fun _ _ _ h => h) (Or.inl ⟨by rfl, fun W hW => by go_simp⟩) ⟨e0, e1, e2, e3⟩ ?_
      simp only [Act.put, List.setIfInBounds_toArray, List.set_cons_zero, List.set_cons_succ]
      refine until_take (i := 7) (v := .pointer (some ⟨rb, 3, none⟩)) (some 32) [18] rfl rfl (by kernel_rfl) (by kernel_rfl) (by kernel_rfl) (by kernel_rfl) rfl rfl (fun _ _ _ h => h) (Or.inl ⟨by rfl, fun W hW => by go_simp⟩) ⟨e0, e1, e2, e3⟩ ?_
      simp only [Act.put, List.setIfInBounds_toArray, List.set_cons_zero, List.set_cons_succ]
      refine until_take (i := 11) (v := .pointer (some ⟨rb, 0, none⟩)) (some 36) [18] rfl rfl (by kernel_rfl) (by kernel_rfl) (by kernel_rfl) (by kernel_rfl) rfl rfl (fun _ _ _ h => h) (Or.inl ⟨by rfl, fun W hW => by go_simp⟩) ⟨e0, e1, e2, e3⟩ ?_
      simp only [Act.put, List.setIfInBounds_toArray, List.set_cons_zero, List.set_cons_succ]
      refine until_take (i := 4) (v := .slice vA n vc) (some 29) [18] rfl rfl (by kernel_rfl) (by kernel_rfl) (by kernel_rfl) (by kernel_rfl) rfl rfl (fun _ _ _ h => h) (Or.inl ⟨by rfl, fun W hW => by have hc := hW.1; go_simp⟩) ⟨e0, e1, e2, e3⟩ ?_
      simp only [Act.put, List.setIfInBounds_toArray, List.set_cons_zero, List.set_cons_succ]
      refine until_take (i := 8) (v := .map (some mb)) (some 33) [18] rfl rfl (by kernel_rfl) (by kernel_rfl) (by kernel_rfl) (by kernel_rfl) rfl rfl (fun _ _ _ h => h) (Or.inl ⟨by rfl, fun W hW => by have hc := hW.2.1; go_simp⟩) ⟨e0, e1, e2, e3⟩ ?_
      simp only [Act.put, List.setIfInBounds_toArray, List.set_cons_zero, List.set_cons_succ]
      refine until_take (i := 12) (v := .int .i64 (q : Int)) (some 37) [18] rfl rfl (by kernel_rfl) (by kernel_rfl) (by kernel_rfl) (by kernel_rfl) rfl rfl (fun _ _ _ h => h) (Or.inl ⟨by rfl, fun W hW => by have hc := hW.2.2.1; go_simp⟩) ⟨e0, e1, e2, e3⟩ ?_
      simp only [Act.put, List.setIfInBounds_toArray, List.set_cons_zero, List.set_cons_succ]
      refine until_take (i := 13) (v := .int .u8 (b.toNat : Int)) (some 38) [18] rfl rfl (by kernel_rfl) (by kernel_rfl) (by kernel_rfl) (by kernel_rfl) rfl rfl (fun _ _ _ h => h) (Or.inl ⟨by rfl, fun W hW => by have hc := HLK.out W hW.2.2.2; go_simp⟩) ⟨e0, e1, e2, e3⟩ ?_
      simp only [Act.put, List.setIfInBounds_toArray, List.set_cons_zero, List.set_cons_succ]
      refine until_step (i := 14) (by kernel_rfl) rfl rfl (fun K hK => ?_)
      go_simp
      have HB8 := Lib.hid (below_a wr.drew (.cells #[.int .u8 (b.toNat : Int)] 5))
      have hr8 := RB.lit1 wr.drew (b.toNat : Int) b 5 rfl
      have e8 : (wr.drew.alloc (.cells #[.int .u8 (b.toNat : Int)] 5)).cell? ⟨rb, 1, none⟩ = some (.slice vA n vc) ∧ (wr.drew.alloc (.cells #[.int .u8 (b.toNat : Int)] 5)).cell? ⟨rb, 3, none⟩ = some (.map (some mb)) ∧ (wr.drew.alloc (.cells #[.int .u8 (b.toNat : Int)] 5)).cell? ⟨rb, 0, none⟩ = some (.int .i64 (q : Int)) ∧ (wr.drew.alloc (.cells #[.int .u8 (b.toNat : Int)] 5)).heap[mb]? = wr.heap[mb]? := ⟨keepc HB8.out e0, keepc HB8.out e1, keepc HB8.out e2, (HB8.out.block mb HLTS.out.2).trans e3⟩
      have ho8 : (wr.drew.alloc (.cells #[.int .u8 (b.toNat : Int)] 5)).ownsRow base 5 1 (.slice vA n vc) n (bv (datM M rd q)) := own_below (w := wr.drew) HOW.out HB8.out
      have hs8 : base ≤ (wr.drew.alloc (.cells #[.int .u8 (b.toNat : Int)] 5)).heap.size := Nat.le_trans HB4.out HB8.out.size
      obtain ⟨g8, hg8⟩ : ∃ g8, g8 = wr.heap.size := ⟨_, rfl⟩
      have hd8 : wr.drew.heap.size = g8 := hg8.symm
      rw [hd8] at hr8
      obtain ⟨w8, hw8⟩ : ∃ w8, w8 = (wr.alloc (.cells #[.int .u8 (b.toNat : Int)] 5)).drew := ⟨_, rfl⟩
      rw [show wr.drew.alloc (.cells #[.int .u8 (b.toNat : Int)] 5) = w8 from hw8.symm] at HB8 hr8 e8 ho8 hs8
      have HB9 : Hid (Below wr.heap.size wr w8) := Lib.hid ⟨HB8.out.os, HB8.out.tape, HB8.out.output, HB8.out.size, HB8.out.block⟩
      rw [← hw8, ← hg8]
      clear hd8 hg8 hw8
      refine hK.out _ _ e8 (fun _ => ?_)
      clear hK
      try simp only [Act.put, List.setIfInBounds_toArray, List.set_cons_zero, List.set_cons_succ]
      refine until_step (i := 15) (by kernel_rfl) rfl rfl (fun K hK => ?_)
      refine step_app _ rfl (.tmp 29) (.tmp 39) 28 5 rfl undByte infoByte base (.slice vA n vc) n _ rfl ho8 (some ⟨g8, 0, none⟩) 1 1 [b] rfl hr8 (by have := HNL.out; rw [datM_length] at this; have := HC.out; have := HQ.out; omega) hs8 ?_
      intro v9 w9 r9 g9 o9
      have hrv : some rb ≠ (Value.slice vA n vc).ownBlock := fun e => HAP.out.dr e.symm
      have hmv : some mb ≠ (Value.slice vA n vc).ownBlock := fun e => HAP.out.dm (by rw [← HMB.out]; exact e.symm)
      have hm8 : mb < w8.heap.size := Nat.lt_of_lt_of_le HLTS.out.2 HB9.out.size
      have hr8' : rb < w8.heap.size := Nat.lt_of_lt_of_le HLTS.out.1 HB9.out.size
      have e9 : w9.cell? ⟨rb, 1, none⟩ = some (.slice vA n vc) ∧ w9.cell? ⟨rb, 3, none⟩ = some (.map (some mb)) ∧ w9.cell? ⟨rb, 0, none⟩ = some (.int .i64 (q : Int)) ∧ w9.heap[mb]? = wr.heap[mb]? := ⟨g9.cell e8.1 hrv, g9.cell e8.2.1 hrv, g9.cell e8.2.2.1 hrv, (g9.block mb hm8 hmv).trans e8.2.2.2⟩
      have f9 : w9.frozen? ⟨rb, 1, none⟩ = false := (World.frozen?_of_block (g9.block rb hr8' hrv)).trans ((World.frozen?_of_block (HB9.out.block rb HLTS.out.1)).trans (HRF.out 1))
      have HO9 := Lib.hid (And.intro r9 (And.intro g9 o9))
      obtain ⟨A9, k9, rfl, -, -⟩ := RB.of_own r9
      clear r9 g9 o9 e8 ho8 hs8 hr8 hrv hmv hm8 hr8'
      show K (Act.put _ (some 40) _) _
      refine hK.out _ _ e9 (fun _ => ?_)
      clear hK
      try simp only [Act.put, List.setIfInBounds_toArray, List.set_cons_zero, List.set_cons_succ]
      refine until_take (i := 16) (v := .pointer (some ⟨rb, 0, none⟩)) (some 41) [17, 18] rfl rfl (by kernel_rfl) (by kernel_rfl) (by kernel_rfl) (by kernel_rfl) rfl rfl (fun _ _ _ h => h) (Or.inl ⟨by rfl, fun W hW => by go_simp⟩) e9 ?_
      simp only [Act.put, List.setIfInBounds_toArray, List.set_cons_zero, List.set_cons_succ]
      refine until_take (i := 17) (v := .pointer (some ⟨rb, 1, none⟩)) (some 42) [18] rfl rfl (by kernel_rfl) (by kernel_rfl) (by kernel_rfl) (by kernel_rfl) rfl rfl (fun _ _ _ h => h) (Or.inl ⟨by rfl, fun W hW => by go_simp⟩) e9 ?_
      simp only [Act.put, List.setIfInBounds_toArray, List.set_cons_zero, List.set_cons_succ]
      refine until_last (by kernel_rfl) rfl (fun K hK => ?_)
      go_simp
      have HT10 : Hid (Rw base (w9.setCell ⟨rb, 1, none⟩ (.slice A9 (n + 1) k9)) rb { z with dv := .slice A9 (n + 1) k9 } q en (datM M rd (q + 1)) (ahd M q) t ∧ Mv w rb z (w9.setCell ⟨rb, 1, none⟩ (.slice A9 (n + 1) k9)) { z with dv := .slice A9 (n + 1) k9 }) := by
        obtain ⟨r, mm⟩ := go_round_ (HR.out.below HB9.out) (by have := HC.out; have := HQ.out; omega) HBQ.out HNL.out HO9.out.1 HO9.out.2.1 HO9.out.2.2
        exact Lib.hid ⟨r, (HM.out.after HB9.out).then_ mm⟩
      generalize w9.setCell ⟨rb, 1, none⟩ (.slice A9 (n + 1) k9) = w10 at *
      clear e9 f9
      refine hK.out _ _ ?_
      clear hK
      try simp only [Act.put, List.setIfInBounds_toArray, List.set_cons_zero, List.set_cons_succ]
      refine wpAnyH_done (by kernel_rfl) ?_ _
      refine NoPanic.normal ?_
      clear e0 e1 e2 e3
      have x0 : w10.cell? ⟨rb, 0, none⟩ = some (.int .i64 (q : Int)) := HT10.out.1.cell 0
      have x3 : w10.cell? ⟨rb, 3, none⟩ = some (.map (some mb)) := by rw [HMB.out]; exact HT10.out.1.cell 3
      go_upto_region 4 with (fail)
      go_still_tail 8, (by kernel_rfl)
      change wpList _ _ _ _ _ w10.drew
      obtain ⟨k, hk, hM⟩ := HT10.out.1.map
      have HKK := Lib.hid hk
      refine wpList_delV rfl _ _ rfl rfl (by rw [HMB.out]; exact hM.keep (w' := w10.drew) rfl) (h := (q : Int)) (by have := HC.out; have := HQ.out; unfold isI; omega) rfl (b := b) (by unfold ahd; rw [if_pos (Int.le_refl _), Int.toNat_natCast]; exact HBQ.out) ?_
      intro w11 M11 tu
      have HT11 : Hid (Rw base w11 rb { z with dv := .slice A9 (n + 1) k9 } q en (datM M rd (q + 1)) (ahd M (q + 1)) t ∧ Mv w rb z w11 { z with dv := .slice A9 (n + 1) k9 }) := by
        have HD := HT10.out.1.below (Below.refl _ _).drew
        obtain ⟨r, mm⟩ := HD.setm (F' := ahd M (q + 1)) (n := k - 1) (t' := t) (by
          have h := M11.congr (fun k => ahd_succ (M := M) (q := q) k)
          rw [HMB.out] at h
          exact h) (by have := HKK.out; omega) (by rw [HMB.out] at tu; exact tu)
        exact Lib.hid ⟨r, (HT10.out.2.after (Below.refl _ _).drew).then_ mm⟩
      have y0 : w11.cell? ⟨rb, 0, none⟩ = some (.int .i64 (q : Int)) := HT11.out.1.cell 0
      have f0 : w11.frozen? ⟨rb, 0, none⟩ = false := HT11.out.1.fz 0
      have hw : IntKind.i64.wrap ((q : Int) + 1) = ((q + 1 : Nat) : Int) := by have := HC.out; have := HQ.out; rw [IntKind.wrap_i64]; omega
      have HT12 := Lib.hid (HT11.out.1.setc (nx' := q + 1) (en' := en) 0 (.int .i64 ((q + 1 : Nat) : Int)) rfl)
      obtain ⟨q', hq'⟩ : ∃ q', q' = q + 1 := ⟨_, rfl⟩
      rw [← hq'] at hw HT12
      have HQ' := Lib.hid hq'
      clear hM hk M11 tu x0 x3 hq'
      go_wp2_with fail
      go_roundg (nx' - (q + 1))
      case measure => have := HQ.out; have := HLT.out; omega
      case rel => exact ⟨q + 1, .slice A9 (n + 1) k9, by have := HQ.out; omega, by have := HLT.out; omega, Nat.le_refl _, by have h := HT12.out.1; rw [HQ'.out] at h; rw [HQ'.out]; exact h, by have h := HT12.out.2; rw [HQ'.out] at h; rw [HQ'.out]; exact HT11.out.2.then_ h⟩
    · obtain rfl : q = nx' := by omega
      have hltI : ¬ (q : Int) < (q : Int) := by omega
      clear hlt q2 hn
      have e0 : wr.drew.cell? ⟨rb, 0, none⟩ = some (.int .i64 (q : Int)) := c0
      have e1 : wr.drew.cell? ⟨rb, 2, none⟩ = some (.pointer (some ⟨ob, 0, none⟩)) := by rw [HOB.out]; exact HR.out.cell 2
      have HRD := Lib.hid (HR.out.below (Below.refl _ _).drew)
      have HDR := Lib.hid (Drop_any HRD.out.st (x := (q : Int)) (by have := HC.out; unfold isI; omega))
      have HMD := Lib.hid (HM.out.after (Below.refl _ _).drew)
      unfold ptr at HDR
      dsimp only at HDR
      rw [← HOB.out] at HDR
      go_upto_region 5 with (fail)
      clear c0
      refine wp_region_noPanic ?_
      refine wp_region_held_drew (S := fun W => W.cell? ⟨rb, 0, none⟩ = some (.int .i64 (q : Int)) ∧ W.cell? ⟨rb, 2, none⟩ = some (.pointer (some ⟨ob, 0, none⟩))) (by kernel_rfl) ⟨e0, e1⟩ (fun _ => ?_)
      refine held_take (i := 0) (v := .pointer (some ⟨rb, 0, none⟩)) (some 51) rfl rfl (by kernel_rfl) (by kernel_rfl) (by kernel_rfl) (fun _ _ _ h => h) (Or.inl ⟨by rfl, fun W hW => by go_simp⟩) ⟨e0, e1⟩ ?_
      simp only [Act.put, List.setIfInBounds_toArray, List.set_cons_zero, List.set_cons_succ]
      refine held_take (i := 4) (v := .pointer (some ⟨rb, 0, none⟩)) (some 55) rfl rfl (by kernel_rfl) (by kernel_rfl) (by kernel_rfl) (fun _ _ _ h => h) (Or.inl ⟨by rfl, fun W hW => by go_simp⟩) ⟨e0, e1⟩ ?_
      simp only [Act.put, List.setIfInBounds_toArray, List.set_cons_zero, List.set_cons_succ]
      refine held_take (i := 1) (v := .pointer (some ⟨rb, 0, none⟩)) (some 52) rfl rfl (by kernel_rfl) (by kernel_rfl) (by kernel_rfl) (fun _ _ _ h => h) (Or.inl ⟨by rfl, fun W hW => by go_simp⟩) ⟨e0, e1⟩ ?_
      simp only [Act.put, List.setIfInBounds_toArray, List.set_cons_zero, List.set_cons_succ]
      refine held_take (i := 5) (v := .pointer (some ⟨rb, 0, none⟩)) (some 56) rfl rfl (by kernel_rfl) (by kernel_rfl) (by kernel_rfl) (fun _ _ _ h => h) (Or.inl ⟨by rfl, fun W hW => by go_simp⟩) ⟨e0, e1⟩ ?_
      simp only [Act.put, List.setIfInBounds_toArray, List.set_cons_zero, List.set_cons_succ]
      refine held_take (i := 2) (v := .pointer (some ⟨rb, 2, none⟩)) (some 53) rfl rfl (by kernel_rfl) (by kernel_rfl) (by kernel_rfl) (fun _ _ _ h => h) (Or.inl ⟨by rfl, fun W hW => by go_simp⟩) ⟨e0, e1⟩ ?_
      simp only [Act.put, List.setIfInBounds_toArray, List.set_cons_zero, List.set_cons_succ]
      refine held_take (i := 6) (v := .pointer (some ⟨rb, 0, none⟩)) (some 57) rfl rfl (by kernel_rfl) (by kernel_rfl) (by kernel_rfl) (fun _ _ _ h => h) (Or.inl ⟨by rfl, fun W hW => by go_simp⟩) ⟨e0, e1⟩ ?_
      simp only [Act.put, List.setIfInBounds_toArray, List.set_cons_zero, List.set_cons_succ]
      refine held_take (i := 3) (v := .pointer (some ⟨ob, 0, none⟩)) (some 54) rfl rfl (by kernel_rfl) (by kernel_rfl) (by kernel_rfl) (fun _ _ _ h => h) (Or.inl ⟨by rfl, fun W hW => by have hc := hW.2; go_simp⟩) ⟨e0, e1⟩ ?_
      simp only [Act.put, List.setIfInBounds_toArray, List.set_cons_zero, List.set_cons_succ]
      refine held_take (i := 7) (v := .int .i64 (q : Int)) (some 58) rfl rfl (by kernel_rfl) (by kernel_rfl) (by kernel_rfl) (fun _ _ _ h => h) (Or.inl ⟨by rfl, fun W hW => by have hc := hW.1; go_simp⟩) ⟨e0, e1⟩ ?_
      simp only [Act.put, List.setIfInBounds_toArray, List.set_cons_zero, List.set_cons_succ]
      refine wpAnyH_ready (rs := [8]) (by kernel_rfl) (by simp) ?_
      refine AllReadyH.cons rfl (fun K hK => ?_) AllReadyH.nil
      go_simp
      refine (HDR.out).mono ?_
      rintro e w5 ⟨v', l', rfl, s', d', _, c', o'⟩
      have HX9 := Lib.hid (go_done HRD.out HMD.out HL.out HC.out.2.2.1 (by rw [HOB.out] at s'; exact s') d' (by rw [HOB.out] at c'; exact c') o')
      have hne : ¬ (rb = ob ∨ z.lv.ownBlock = some rb) := fun e => e.elim (fun e => HR.out.apart.or (by rw [← HOB.out]; exact e.symm)) HR.out.apart.lr
      have e9 : w5.cell? ⟨rb, 0, none⟩ = some (.int .i64 (q : Int)) ∧ w5.cell? ⟨rb, 2, none⟩ = some (.pointer (some ⟨ob, 0, none⟩)) := ⟨c'.cell e0 hne, c'.cell e1 hne⟩
      clear s' d' c' o' HDR hne
      try dsimp only
      refine hK.out _ _ e9 (fun _ => ?_)
      clear hK
      try simp only [Act.put, List.setIfInBounds_toArray, List.set_cons_zero, List.set_cons_succ]
      refine wpAnyH_done (by kernel_rfl) ?_ _
      refine NoPanic.normal ?_
      go_wp2_with fail
      go_end0
      exact HX9.out
end
end Go.Proofs.Ytancbdnpmabpfaa

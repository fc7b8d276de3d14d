/- The contracts of host.New, of Host.Prime and of the draw of a key. Conditions: the host stands; the table of digests is as the program lays it.
The contract of Host.take: a token for the next handle. Conditions: the host stands, with at most a thousand handles; the table of digests is as the program lays it.
Steps of a region that draws its order: a new variable, a store of a whole row, a new variable that holds a value. No condition. -/
import Derived.Test.YtlcegchdkigibaaGreatDoorMg10
import Derived.Test.YtlcegchdkigibaaGreatDoorMg17
import Derived.Deep.RegionHeld3
import Derived.Test.YtlcegchdkigibaaGreatDoorMg7
import Derived.Test.YtlcegchdkigibaaGreatDoorMg4
import Derived.Test.YtlcegchdkigibaaGreatDoorMg13
namespace Go.Proofs.YtlcegchdkigibaaGreatDoor
set_option linter.unusedVariables false
set_option linter.unusedSimpArgs false
set_option maxRecDepth 20000
open Go.RowKit Go.Lib

def Hv.fresh (sd tb : Nat) : Hv := ⟨.slice none 0 0, sd, 0, .slice none 0 0, tb, 0, 0, .slice none 0 0, .slice none 0 0⟩
def NewP (sd : Nat) (w : World) (e : Ending) (w' : World) : Prop := ∃ hb tb mb, e = .returned (cptr hb) ∧ Hs w.heap.size w' hb (Hv.fresh sd tb) mb [] [] [] 0 [] ∧ Below w.heap.size w w'
set_option maxHeartbeats 1600000 in
theorem HNew_any (sd : Nat) (hs : sd < 18446744073709551616) (w : World) : Calls Tryz.prog 6 #[.int .u64 (sd : Int)] w (NewP sd w) := by
  have HN := Lib.hid (LT.tnew_any 4 (by unfold LT.isI; omega) w)
  have HS := Lib.hid hs
  clear hs
  unfold LT.ptr at HN
  go_enter Tryz.func6, Tryz.ntmps6
  go_wp2_with fail
  refine HN.out.mono ?_
  rintro e w1 ⟨tb, mb, rfl, T, b1, h1, h2⟩
  have HQ : Hid (NewP sd w (.returned (.pointer (some ⟨w1.heap.size, 0, none⟩))) (w1.alloc (.cells (Hv.fresh sd tb).cs 67))) := Lib.hid (by
    have hz := b1.size
    exact ⟨w1.heap.size, tb, mb, rfl, ⟨⟨heap_alloc_new w1 _, hz, T.below (below_a w1 _), ⟨h1, h2⟩, World.ownsRow_nil _ _ _ _, World.ownsRow_nil _ _ _ _, ⟨HS.out, (by show 0 < 18446744073709551616; omega)⟩⟩, Pr.nil_ _ _⟩, b1.alloc hz _⟩)
  unfold Hv.fresh Hv.cs cptr at HQ
  clear T b1 h1 h2 HN HS
  go_wp2_with fail
  go_ret
  exact HQ.out
section
variable {B : Nat} {w w' : World} {hb mb : Nat} {h : Hv} {l : LT.Ents} {ps xs : List Nat} {m : Nat} {gs : List Value}
theorem undU : Tryz.prog.underlying 23 = some (.slice 22) := by kernel_rfl
theorem infoU : (Tryz.prog.info? 22).map (fun i => (i.zero, i.size, i.bytes)) = some (some (.int .u64 0), 1, 8) := by kernel_rfl
def PrimeP (B : Nat) (w : World) (hb : Nat) (h : Hv) (mb : Nat) (l : LT.Ents) (ps ks xs : List Nat) (m : Nat) (gs : List Value) (w' : World) : Prop :=
  ∃ v, Hs B w' hb { h with pv := v } mb l (ps ++ ks) xs m gs ∧ w'.ownsRow B 22 1 v (ps.length + ks.length) (iv .u64 ((ps ++ ks).map Int.ofNat)) ∧ Below B w w'
theorem prime_done {v2 : Value} {w2 : World} {ks : List Nat} (s : Hc B w hb h mb l xs m gs) (o : w.ownsRow B 22 1 h.pv ps.length (iv .u64 (ps.map Int.ofNat))) (hk : ∀ p ∈ ps ++ ks, p < 18446744073709551616)
    (o2 : w2.ownsRow B 22 1 v2 (ps.length + ks.length) (iv .u64 (ps.map Int.ofNat) ++ iv .u64 (ks.map Int.ofNat))) (g2 : w.grownBy w2 h.pv.ownBlock) : PrimeP B w hb h mb l ps ks xs m gs (w2.setCell ⟨hb, 0, none⟩ v2) := by
  have c2 := grown_chv g2
  have s2 := s.other c2 (grown_q o) (by decide)
  have c3 : Ch w2 (w2.setCell ⟨hb, 0, none⟩ v2) (fun k => k = hb) := (Ch.refl w2 (fun k => k = hb)).setCell (p := ⟨hb, 0, none⟩) (fun _ => rfl) _
  have s3 := s2.own c3 (s2.ha.set 0 v2 { h with pv := v2 } rfl) rfl rfl s2.sm.2 s2.hw s2.sw
  rw [← iv_append, ← List.map_append] at o2
  have o3 := own_ch2 o2 c3 (fun g hg e => by
    obtain ⟨cs, hc⟩ := ch_ownrow o2 hg
    exact blk_ne hc s2.ha (by decide) e)
  refine ⟨v2, ⟨s3, Pr.of_own o3 hk⟩, o3, ?_⟩
  exact (chm_below c2 (fun k e _ => (own_in o e).1) s.le).trans (chm_below c3 (fun k e _ => by subst e; exact s.lo) s2.le)
set_option maxHeartbeats 1600000 in
theorem Prime_any (s : Hc B w hb h mb l xs m gs) (o : w.ownsRow B 22 1 h.pv ps.length (iv .u64 (ps.map Int.ofNat))) (hp : ∀ p ∈ ps, p < 18446744073709551616) {ks : List Nat} {A : Option Addr} {n c : Nat} (r : RI .u64 w A n c (ks.map Int.ofNat)) (hk : ∀ p ∈ ks, p < 18446744073709551616) (h1 : ps.length ≤ 1000) (h2 : n ≤ 1000) :
    Calls Tryz.prog 7 #[cptr hb, .slice A n c] w fun e w' => e = .returned (.tuple #[]) ∧ PrimeP B w hb h mb l ps ks xs m gs w' := by
  have hn : ks.length = n := by have := r.len; rw [List.length_map] at this; exact this
  subst hn
  have HO := Lib.hid o
  have HR := Lib.hid (src_ri r)
  have HB := Lib.hid s.le
  have HD := Lib.hid (fun (v2 : Value) (w2 : World) o2 g2 => prime_done (v2 := v2) (w2 := w2) (ks := ks) s o (fun p e => (List.mem_append.1 e).elim (hp p) (hk p)) o2 g2)
  have HC := Lib.hid (fun (w2 : World) (g2 : w.grownBy w2 h.pv.ownBlock) => (s.other (grown_chv g2) (grown_q o) (by decide)).ha)
  have c0 := s.ha.pv_
  obtain ⟨Ap, kp, hpv, _, _⟩ := LF.own_slice o
  have HPV := Lib.hid hpv
  rw [hpv] at c0
  clear s o hp r hk hpv
  unfold cptr at *
  go_enter Tryz.func7, Tryz.ntmps7
  go_wp2_with (first
    | (at_builtin; refine wpList_appG rfl _ _ 23 22 rfl (.int .u64 0) 1 8 undU infoU rfl (by decide) (by decide) B h.pv ps.length _ (by rw [HPV.out]; rfl) HO.out A ks.length c _ rfl HR.out (by omega) HB.out ?_; intro v2 w2 o2 g2 _; have HQ := Lib.hid (HD.out v2 w2 o2 g2); have H2 := HC.out w2 g2; have c0b := H2.pv_; have f0b := H2.fz 0; obtain ⟨A2, k2, rfl, _, _⟩ := LF.own_slice o2; clear o2 g2 H2)
    | fail)
  go_end0
  exact ⟨rfl, HQ.out⟩
/-- What the draw of a key leaves. -/
def DrawP (B : Nat) (w : World) (hb : Nat) (h : Hv) (mb : Nat) (l : LT.Ents) (xs : List Nat) (m : Nat) (gs : List Value) (e : Ending) (w' : World) : Prop :=
  ∃ (k : Nat) (v : Value) (d : Nat) (ps' : List Nat), k < 18446744073709551616 ∧ e = .returned (.int .u64 (k : Int)) ∧ Hs B w' hb { h with pv := v, dn := d } mb l ps' xs m gs ∧ Ch w w' (fun g => g = hb)
theorem elemU : Tryz.prog.underlying 23 = some (.slice (Tryz.prog.elem 23)) := by kernel_rfl
theorem sizeU (W : World) : (sizeOf (Tryz.prog.elem 23)).run Tryz.prog W = .ok 1 W := by kernel_rfl
/-- The first key goes. -/
theorem Pr.cut {b o n c p : Nat} {ps : List Nat} (q : Pr B w (.slice (some ⟨b, o, none⟩) n c) (p :: ps)) :
    ∃ A2, (∀ W : World, (Instr.slice 23 (.slice (some ⟨b, o, none⟩) n c) (some (.int .i64 1)) none none).run Tryz.prog W = .ok (.slice A2 (n - 1) (c - 1)) W) ∧ Pr B w (.slice A2 (n - 1) (c - 1)) ps := by
  obtain ⟨A, n', c', e, r, hp, ha⟩ := q
  injection e with e1 e2 e3
  subst e1 e2 e3
  have hn : n = ps.length + 1 := by have := r.len; rw [List.length_map] at this; simpa using this.symm
  have hc := r.cap
  have hm := r.max
  refine ⟨if c = 1 then some ⟨b, o, none⟩ else some ⟨b, o + 1, none⟩, fun W => ?_, if c = 1 then some ⟨b, o, none⟩ else some ⟨b, o + 1, none⟩, _, _, rfl, ⟨?_, by omega, by have := r.2.2.1; omega, fun hn2 => ?_⟩, fun p hp' => hp p (List.mem_cons_of_mem _ hp'), fun a ea => ?_⟩
  · have := run_slice_l (P := Tryz.prog) W 23 (some ⟨b, o, none⟩) n c elemU .i64 (1 : Int) (by omega) (by omega)
    rw [this, sizeU]
    simp [Result.andThen, sliced, Addr.add]
  · rw [List.length_map]
    omega
  · rw [if_neg (by omega)]
    refine ⟨b, o + 1, rfl, fun j hj => ?_⟩
    have := r.cell (j := j + 1) (by omega)
    rw [show o + 1 + j = o + (j + 1) by omega, this]
    simp
  · have : a.block = b := by
      split at ea <;> (injection ea with ea; rw [← ea])
    rw [this]
    exact ha _ rfl
set_option maxHeartbeats 3200000 in
theorem draw_any (s : Hs B w hb h mb l ps xs m gs) (hT : TB B w) : Calls Tryz.prog 69 #[cptr hb] w (DrawP B w hb h mb l xs m gs) := by
  have c0 := s.c.ha.pv_
  have c1 := s.c.ha.sd_
  have c2 := s.c.ha.dn_
  have f0 := s.c.ha.fz 0
  have f2 := s.c.ha.fz 2
  have hlt := s.c.lt
  cases ps with
  | nil =>
    obtain ⟨A, n, cc, e, r, _, _⟩ := s.pr
    have hn : n = 0 := r.len.symm
    subst hn
    rw [e] at c0
    obtain ⟨d, hd⟩ : ∃ d : Nat, IntKind.u64.wrap ((h.dn : Int) + 1) = (d : Int) := ⟨((h.dn + 1) % 18446744073709551616), by rw [IntKind.wrap_u64]; omega⟩
    have hd2 : d < 18446744073709551616 := by rw [IntKind.wrap_u64] at hd; omega
    have cc1 : Ch w (w.setCell ⟨hb, 2, none⟩ (.int .u64 (d : Int))) (fun k => k = hb) := (Ch.refl w (fun k => k = hb)).setCell (p := ⟨hb, 2, none⟩) (fun _ => rfl) _
    have s1 := s.c.own cc1 (s.c.ha.set 2 (.int .u64 (d : Int)) { h with dn := d } rfl) rfl rfl hd2 s.c.hw s.c.sw
    have E0 : (w.setCell ⟨hb, 2, none⟩ (.int .u64 (d : Int))).cell? ⟨hb, 1, none⟩ = some (.int .u64 (h.sd : Int)) ∧ (w.setCell ⟨hb, 2, none⟩ (.int .u64 (d : Int))).cell? ⟨hb, 2, none⟩ = some (.int .u64 (d : Int)) := ⟨s1.ha.sd_, s1.ha.dn_⟩
    have HS1 : Hid (Hs B (w.setCell ⟨hb, 2, none⟩ (.int .u64 (d : Int))) hb { h with pv := h.pv, dn := d } mb l [] xs m gs) := Lib.hid ⟨s1, s.pr.own s.c.ha cc1⟩
    have HC1 := Lib.hid cc1
    have HP := Lib.hid (LK.proof_any h.sd d 0 0 (w.setCell ⟨hb, 2, none⟩ (.int .u64 (d : Int))).drew s.c.sm.1 hd2 (by decide) (by decide) (hT _ (chm_below cc1 (fun k e _ => by subst e; exact s.c.lo) s.c.le).drew))
    rw [show ((0 : Nat) : Int) = 0 from rfl] at HP
    have HK := Lib.hid (LK.kp_lt h.sd d 0 0)
    have hlt1 : hb < (w.setCell ⟨hb, 2, none⟩ (.int .u64 (d : Int))).heap.size := s1.lt
    clear s s1 cc1 hT r e
    generalize hsd : h.sd = sd at *
    have HSD := Lib.hid hsd
    clear hsd
    generalize hkp : LK.kp sd d 0 0 = kk at *
    clear hkp
    unfold cptr
    go_enter Tryz.func69, Tryz.ntmps69
    go_wp2_with fail
    generalize w.setCell ⟨hb, 2, none⟩ (.int .u64 (d : Int)) = w1 at *
    have bd : Below w1.heap.size w1 w1.drew := (Below.refl w1.heap.size w1).drew
    replace E0 : w1.drew.cell? ⟨hb, 1, none⟩ = some (.int .u64 (sd : Int)) ∧ w1.drew.cell? ⟨hb, 2, none⟩ = some (.int .u64 (d : Int)) := E0
    replace hlt1 : hb < w1.drew.heap.size := hlt1
    replace HS1 := Lib.hid (HS1.out.below bd)
    replace HC1 := Lib.hid (HC1.out.drew)
    clear bd
    go_region_held3 (fun V => V.cell? ⟨hb, 1, none⟩ = some (.int .u64 (sd : Int)) ∧ V.cell? ⟨hb, 2, none⟩ = some (.int .u64 (d : Int)))
      (first | exact E0 | exact ⟨(bA.cell hlt1).trans E0.1, (bA.cell hlt1).trans E0.2⟩)
      (first | (go_at_call 114; refine HP.out.mono ?_; rintro e wA ⟨rfl, bA⟩))
    obtain rfl := HSD.out
    have HQ : Hid (DrawP B w hb h mb l xs m gs (.returned (.int .u64 (kk : Int))) wA) := Lib.hid ⟨kk, _, d, [], HK.out, rfl, HS1.out.below bA, HC1.out.then_ (Ch.of_below _ bA)⟩
    clear bA E0 HP
    go_wp2_with fail
    go_ret
    exact HQ.out
  | cons p ps =>
    obtain ⟨A, n, cc, e, r, hp, ha⟩ := s.pr
    have hn : 0 < n := by have := r.len; simp at this; omega
    obtain ⟨b, o, rfl, _⟩ := r.2.2.2 hn
    have q : Pr B w (.slice (some ⟨b, o, none⟩) n cc) (p :: ps) := ⟨_, n, cc, rfl, r, hp, ha⟩
    obtain ⟨A2, hsl, q2⟩ := q.cut
    have x0 : w.cell? ⟨b, o, none⟩ = some (.int .u64 (p : Int)) := by have := r.cell (j := 0) hn; rw [Nat.add_zero] at this; exact this
    have hpp := hp p (List.mem_cons_self ..)
    have hn1 : (0 : Int) < (n : Int) := by omega
    rw [e] at c0
    have cc1 : Ch w (w.setCell ⟨hb, 0, none⟩ (.slice A2 (n - 1) (cc - 1))) (fun k => k = hb) := (Ch.refl w (fun k => k = hb)).setCell (p := ⟨hb, 0, none⟩) (fun _ => rfl) _
    have s1 := s.c.own cc1 (s.c.ha.set 0 (.slice A2 (n - 1) (cc - 1)) { h with pv := .slice A2 (n - 1) (cc - 1) } rfl) rfl rfl s.c.sm.2 s.c.hw s.c.sw
    have HQ : Hid (DrawP B w hb h mb l xs m gs (.returned (.int .u64 (p : Int))) (w.setCell ⟨hb, 0, none⟩ (.slice A2 (n - 1) (cc - 1)))) := Lib.hid ⟨p, .slice A2 (n - 1) (cc - 1), h.dn, ps, hpp, rfl, ⟨s1, q2.own s.c.ha cc1⟩, cc1⟩
    clear s s1 cc1 hT r e q q2 ha hp
    unfold cptr
    go_enter Tryz.func69, Tryz.ntmps69
    go_wp2_with fail
    go_ret
    exact HQ.out
end
end Go.Proofs.YtlcegchdkigibaaGreatDoor

namespace Go.Proofs.YtlcegchdkigibaaGreatDoor
set_option linter.unusedVariables false
set_option linter.unusedSimpArgs false
set_option maxRecDepth 20000
open Go.RowKit Go.Lib

section
variable {B : Nat} {w w' : World} {hb mb : Nat} {h : Hv} {l : LT.Ents} {ps xs : List Nat} {m : Nat} {gs : List Value}
/-- The table turned. -/
theorem Hs.table (s : Hs B w hb h mb l ps xs m gs) {l' : LT.Ents} (t : LT.Tb w' h.tb mb 4 l') (c : Ch w w' (fun g => g = mb)) : Hs B w' hb h mb l' ps xs m gs := by
  have hm : ∀ {b : Nat} {t : TypeId} {cs : Array Value}, w.heap[b]? = some (.cells cs t (0, 0)) → ¬ b = mb := fun k e => map_ne s.c.tb.map k e.symm
  exact ⟨⟨s.c.ha.ch c (hm s.c.ha), s.c.lo, t, s.c.tl, own_ch2 s.c.hw c (fun g hg => (ch_ownrow s.c.hw hg).elim fun cs k => hm k), own_ch2 s.c.sw c (fun g hg => (ch_ownrow s.c.sw hg).elim fun cs k => hm k), s.c.sm⟩,
    s.pr.ch c (fun g cs k => hm k)⟩
theorem Hs.bel (s : Hs B w hb h mb l ps xs m gs) (c : Ch w w' (fun g => g = hb ∨ g = mb)) : Below B w w' := chm_below c (fun k e _ => by rcases e with rfl | rfl; exact s.c.lo; exact s.c.tl.2) s.c.le
/-- The table has a token more, of a key that was drawn. -/
def TookP (B : Nat) (w : World) (hb : Nat) (h : Hv) (mb : Nat) (l : LT.Ents) (xs : List Nat) (m : Nat) (gs : List Value) (e : Ending) (w' : World) : Prop :=
  ∃ (k : Nat) (v : Value) (d : Nat) (ps' : List Nat), k < 18446744073709551616 ∧ LK.kt k ∉ LT.keys l ∧ e = .returned (.tuple #[.int .u64 (k : Int), .int .i64 0]) ∧ Hs B w' hb { h with pv := v, dn := d } mb (l ++ [(LK.kt k, ⟨true, h.md + 1, 0⟩)]) ps' xs m gs ∧ Ch w w' (fun g => g = hb ∨ g = mb)
/-- No key that was drawn is nobody's. -/
def NoneP (B : Nat) (w : World) (hb : Nat) (h : Hv) (mb : Nat) (l : LT.Ents) (xs : List Nat) (m : Nat) (gs : List Value) (e : Ending) (w' : World) : Prop :=
  ∃ (v : Value) (d : Nat) (ps' : List Nat), l ≠ [] ∧ e = .returned (.tuple #[.int .u64 0, .int .i64 6]) ∧ Hs B w' hb { h with pv := v, dn := d } mb l ps' xs m gs ∧ Ch w w' (fun g => g = hb ∨ g = mb)
/-- So many keys were drawn. -/
def TakenP (B : Nat) (w : World) (hb : Nat) (h : Hv) (mb : Nat) (l : LT.Ents) (xs : List Nat) (m : Nat) (gs : List Value) (j : Nat) (k : Value) (e : Value) (w' : World) : Prop :=
  (k = .int .u64 0 ∧ e = .int .i64 6 ∧ (0 < j → l ≠ []) ∧ ∃ (v : Value) (d : Nat) (ps' : List Nat), Hs B w' hb { h with pv := v, dn := d } mb l ps' xs m gs ∧ Ch w w' (fun g => g = hb ∨ g = mb)) ∨
    (e = .int .i64 0 ∧ TookP B w hb h mb l xs m gs (.returned (.tuple #[k, .int .i64 0])) w')
set_option maxHeartbeats 1600000 in
theorem takeFull_any (s : Hs B w hb h mb l ps xs m gs) (hl : l.length = 4) (hm : 0 ≤ h.md ∧ h.md ≤ 1000) :
    Calls Tryz.prog 33 #[cptr hb] w fun e w' => e = .returned (.tuple #[.int .u64 0, .int .i64 15]) ∧ Below w.heap.size w w' := by
  have c4 := s.c.ha.tb_
  have c6 := s.c.ha.md_
  have HF := Lib.hid (LT.ttake_full (owner := h.md + 1) (A := none) (n := 0) (cc := 0) s.c.tb hl)
  have hw1 : IntKind.i64.wrap (h.md + 1) = h.md + 1 := by rw [IntKind.wrap_i64]; omega
  unfold LT.ptr at HF
  clear s hl hm
  generalize h.md = md at *
  generalize h.tb = tb at *
  unfold cptr at *
  go_enter Tryz.func33, Tryz.ntmps33
  go_wp2_with fail
  refine HF.out.mono ?_
  rintro e w1 ⟨rfl, b1⟩
  have HB := Lib.hid b1
  clear b1 HF c4 c6
  go_wp2_with fail
  go_loopw [8, 5, 7] (fun i k e wr => i = .int .i64 0 ∧ k = .int .u64 0 ∧ e = .int .i64 15 ∧ wr = w1) (fun _ _ _ _ => 0)
  case atStart => exact ⟨rfl, rfl, rfl, rfl⟩
  case round =>
    obtain ⟨rfl, rfl, rfl, rfl⟩ := hrel
    go_wp2_with fail
    go_ret2
    exact ⟨rfl, HB.out⟩
/-- One key is tried. -/
def OneP (w : World) (tb mb : Nat) (l : LT.Ents) (owner : Int) (k : Nat) (e : Ending) (w' : World) : Prop :=
  ∃ a b c : Value, e = .returned (.tuple #[a, b, c]) ∧ ((a = .int .u64 0 ∧ c = .int .i64 6 ∧ LK.kt k ∈ LT.keys l ∧ Below w.heap.size w w') ∨
    (a = .int .u64 (k : Int) ∧ c = .int .i64 0 ∧ LK.kt k ∉ LT.keys l ∧ LT.Tb w' tb mb 4 (l ++ [(LK.kt k, ⟨true, owner, 0⟩)]) ∧ Ch w w' (fun g => g = mb)))
theorem one_any {w0 : World} {tb : Nat} (t : LT.Tb w0 tb mb 4 l) (hl : l.length < 4) (hT : LK.Tab w0) {k : Nat} (hk : k < 18446744073709551616) (owner : Int) {g : Nat} (hg : g = w0.heap.size) {ty : TypeId} :
    Calls Tryz.prog 68 #[LT.ptr tb, .int .i64 owner, .slice (some ⟨g, 0, none⟩) 1 1] (w0.alloc (.cells #[.int .u64 (k : Int)] ty)) (OneP w0 tb mb l owner k) := by
  subst hg
  have hb := below_a w0 (.cells #[.int .u64 (k : Int)] ty)
  have r : RI .u64 (w0.alloc (.cells #[.int .u64 (k : Int)] ty)) (some ⟨w0.heap.size, 0, none⟩) 1 1 [(k : Int)] := RI.lit .u64 w0 [(k : Int)] ty (by unfold maxLen; simp)
  have hz : ∀ z ∈ [(k : Int)], 0 ≤ z ∧ z < 18446744073709551616 := fun z hz => by
    obtain rfl : z = (k : Int) := by simpa using hz
    omega
  by_cases hin : LK.kt k ∈ LT.keys l
  · refine (LT.ttake_none (owner := owner) (t.below hb) (hT.below hb) hl r hz (by omega) (fun i hi => ?_)).mono ?_
    · obtain rfl : i = 0 := by omega
      exact hin
    · rintro e w1 ⟨rfl, b1⟩
      exact ⟨_, _, _, rfl, .inl ⟨rfl, rfl, hin, below_trans hb b1⟩⟩
  · refine (LT.ttake_hit (owner := owner) (t.below hb) (hT.below hb) hl r hz (by omega) (j := 0) (by omega) (fun i hi => absurd hi (by omega)) hin).mono ?_
    rintro e w1 ⟨rfl, t1, c1⟩
    exact ⟨_, _, _, rfl, .inr ⟨rfl, rfl, hin, t1, (Ch.of_below _ hb).then_ c1⟩⟩
def TakeP (B : Nat) (w : World) (hb : Nat) (h : Hv) (mb : Nat) (l : LT.Ents) (xs : List Nat) (m : Nat) (gs : List Value) (e : Ending) (w' : World) : Prop := NoneP B w hb h mb l xs m gs e w' ∨ TookP B w hb h mb l xs m gs e w'
set_option maxHeartbeats 6400000 in
theorem take_any (s : Hs B w hb h mb l ps xs m gs) (hl : l.length < 4) (hm : 0 ≤ h.md ∧ h.md ≤ 1000) (hT : TB B w) :
    Calls Tryz.prog 33 #[cptr hb] w (TakeP B w hb h mb l xs m gs) := by
  have c4 := s.c.ha.tb_
  have c6 := s.c.ha.md_
  have HF := Lib.hid (LT.ttake_none (owner := h.md + 1) s.c.tb hT.here hl (RI.nil_ .u64 w) (fun z hz => by cases hz) (by omega) (fun i hi => absurd hi (by omega)))
  have hw1 : IntKind.i64.wrap (h.md + 1) = h.md + 1 := by rw [IntKind.wrap_i64]; omega
  have HS := Lib.hid s
  have HL := Lib.hid hl
  have HT := Lib.hid hT
  unfold LT.ptr at HF
  clear s hl hm hT
  obtain ⟨md, hmd⟩ : ∃ x, x = h.md := ⟨_, rfl⟩
  obtain ⟨tb, htb⟩ : ∃ x, x = h.tb := ⟨_, rfl⟩
  have HMD := Lib.hid hmd
  have HTB := Lib.hid htb
  rw [← htb] at c4 HF
  rw [← hmd] at c6 HF hw1
  clear hmd htb
  unfold cptr at *
  go_enter Tryz.func33, Tryz.ntmps33
  go_wp2_with fail
  refine HF.out.mono ?_
  rintro e w1 ⟨rfl, b1⟩
  have HX : Hid (TakenP B w hb h mb l xs m gs 0 (.int .u64 0) (.int .i64 6) w1) := Lib.hid (.inl ⟨rfl, rfl, fun e => absurd e (by omega), h.pv, h.dn, ps, HS.out.below b1, Ch.of_below _ b1⟩)
  clear b1 HF c4 c6
  go_wp2_with fail
  go_loopw [8, 5, 7] (fun i k e wr => ∃ j : Nat, j ≤ 4 ∧ i = .int .i64 (j : Int) ∧ TakenP B w hb h mb l xs m gs j k e wr) (fun i _ _ _ => 4 - (intOf i).toNat)
  case atStart => exact ⟨0, by omega, rfl, HX.out⟩
  case round =>
    obtain ⟨j, hj, rfl, hP⟩ := hrel
    rcases hP with ⟨rfl, rfl, hne, v, d, ps1, s1, b1⟩ | ⟨rfl, hP⟩
    · rcases Nat.lt_or_ge j 4 with hj4 | hj4
      · have hji : (j : Int) < 4 := by omega
        have hwj : IntKind.i64.wrap ((j : Int) + 1) = (j : Int) + 1 := by rw [IntKind.wrap_i64]; omega
        have E0 : wr.cell? ⟨hb, 4, none⟩ = some (.pointer (some ⟨tb, 0, none⟩)) := by rw [HTB.out]; exact s1.c.ha.tb_
        have bd : Below wr.heap.size wr wr.drew := (Below.refl wr.heap.size wr).drew
        replace s1 := s1.below bd
        replace b1 := b1.drew
        clear bd
        have HDR := Lib.hid (draw_any s1 (HT.out.step (HS.out.bel b1)))
        have HT1 := Lib.hid (HT.out.step (HS.out.bel b1))
        have HS1 := Lib.hid s1
        have HB1 := Lib.hid b1
        unfold cptr at HDR
        clear s1 b1 hne HX HS
        go_wp2_with fail
        go_region_held3 (fun V => V.cell? ⟨hb, 4, none⟩ = some (.pointer (some ⟨tb, 0, none⟩)))
          (first | exact E0 | exact E2 | exact E3 | exact (World.cell?_alloc_lt w2 _ _ h2).trans E2 | trivial)
          (first
            | (go_at_call 68; refine HONE.out.mono ?_; rintro e w3 ⟨a3, b3, c3, rfl, hP3⟩; have E3 : w3.cell? ⟨hb, 4, none⟩ = some (.pointer (some ⟨tb, 0, none⟩)) := hP3.elim (fun k => (k.2.2.2.cell h2).trans E2) (fun k => k.2.2.2.2.cell E2 (fun e => map_ne s2.c.tb.map s2.c.ha e.symm)))
            | (go_at_call 69; refine HDR.out.mono ?_; rintro e w2 ⟨kk, v2, d2, ps2, hk2, rfl, s2, b2⟩; have E2 : w2.cell? ⟨hb, 4, none⟩ = some (.pointer (some ⟨tb, 0, none⟩)) := s2.c.ha.tb_.trans (congrArg (fun q => some (cptr q)) HTB.out.symm); have h2 := s2.c.lt; have HONE := Lib.hid (one_any (ty := 22) (show LT.Tb w2 tb mb 4 l from HTB.out ▸ s2.c.tb) HL.out (HT1.out.step (HS1.out.bel (b2.mono (fun _ _ e => .inl e)))).here hk2 (md + 1) rfl)))
        have HR : Hid (TakenP B w hb h mb l xs m gs (j + 1) a3 c3 w3) := Lib.hid (by
          rcases hP3 with ⟨rfl, rfl, hin, b4⟩ | ⟨rfl, rfl, hin, t4, c4⟩
          · exact .inl ⟨rfl, rfl, (fun _ e => by rw [e] at hin; cases hin), v2, d2, ps2, s2.below b4, (HB1.out.then_ (b2.mono (fun _ _ e => .inl e))).then_ (Ch.of_below _ b4)⟩
          · exact .inr ⟨rfl, kk, v2, d2, ps2, hk2, hin, rfl, by rw [HMD.out, HTB.out] at t4; exact s2.table t4 c4, (HB1.out.then_ (b2.mono (fun _ _ e => .inl e))).then_ (c4.mono (fun _ _ e => .inr e))⟩)
        clear hP3 s2 b2 E0 E2 E3 HDR HONE
        go_wp2_with fail
        go_roundw
        case rel => exact ⟨j + 1, by omega, by go_num, HR.out⟩
        case measure => simp [intOf]; omega
      · obtain rfl : j = 4 := by omega
        have HQ : Hid (TakeP B w hb h mb l xs m gs (.returned (.tuple #[.int .u64 0, .int .i64 6])) wr) := Lib.hid (.inl ⟨v, d, ps1, hne (by omega), rfl, s1, b1⟩)
        clear s1 b1 hne HX HS
        go_wp2_with fail
        go_ret2
        exact HQ.out
    · obtain ⟨kk, v2, d2, ps2, hk2, hn2, he2, s2, b2⟩ := hP
      have he3 : u5 = .int .u64 (kk : Int) := by injection he2 with he2; injection he2 with he2; injection he2 with he2; injection he2 with he2 _
      subst he3
      have HQ : Hid (TakeP B w hb h mb l xs m gs (.returned (.tuple #[.int .u64 (kk : Int), .int .i64 0])) wr) := Lib.hid (.inr ⟨kk, v2, d2, ps2, hk2, hn2, rfl, s2, b2⟩)
      clear he2 s2 b2 HX HS
      by_cases hji : (j : Int) < 4
      · go_wp2_with fail
        go_ret2
        exact HQ.out
      · go_wp2_with fail
        go_ret2
        exact HQ.out
end
end Go.Proofs.YtlcegchdkigibaaGreatDoor

namespace Go.Proofs.YtlcegchdkigibaaGreatDoor
set_option linter.unusedVariables false
set_option linter.unusedSimpArgs false
set_option maxRecDepth 20000
open Go.RowKit Go.Lib

theorem step_allocV {P : Program} {ops : Array Oper} {op : Oper} {a : Act} {w : World} {K : Act → World → Prop} {Q : Exit → Act → World → Prop} {E : Prop} (hgd : Region.wanted op (yielded ops a.tmps) = true) (t : TypeId) (ho : op.op = .alloc t) (vs : List Value) (hz : (P.info? t).map (·.zero) = some (some (.agg vs.toArray)))
    (h : ∀ g w', Hid (g = w.heap.size) → Own w' g vs → Below w.heap.size w w' → w'.heap.size = w.heap.size + 1 → K (a.put op.dst (.pointer (some ⟨g, 0, none⟩))) w') : if Region.wanted op (yielded ops a.tmps) = true then Oper.wp P op a w K Q else E := by
  rw [if_pos hgd]
  cases hi : P.info? t with
  | none => simp [hi] at hz
  | some i =>
    have hz' : i.zero = some (.agg vs.toArray) := by simpa [hi] using hz
    have hrun : (execOp a.eval op).run P w = .ok (.value (.pointer (some ⟨w.heap.size, 0, none⟩))) (w.alloc (.cells vs.toArray t)) := by
      simp [execOp, ho, Instr.alloc, newVar, newRow, zeroValue, typeInfo, hi, hz', Value.cells, Result.andThen]
    unfold Oper.wp
    rw [hrun, Oper.upon_value]
    exact h _ _ (Lib.hid rfl) (Own.new w vs t) (below_a w _) (by simp)
theorem step_storeV {P : Program} {ops : Array Oper} {op : Oper} {a : Act} {w : World} {K : Act → World → Prop} {Q : Exit → Act → World → Prop} {E : Prop} (hgd : Region.wanted op (yielded ops a.tmps) = true) (ty : TypeId) (x y : Operand) (ho : op.op = .store ty x y) (b : Nat) (us vs : List Value) (hx : a.eval x = .pointer (some ⟨b, 0, none⟩)) (hy : a.eval y = .agg vs.toArray) (hA : Own w b us)
    (hl : vs.length = us.length) (h1 : ∀ u ∈ vs, u.oneCell' = true) (hi : (P.info? ty).map (·.size) = some vs.length)
    (h : ∀ w', Own w' b vs → w.grownBy w' (some b) → w'.heap.size = w.heap.size → K (a.put op.dst undef) w') : if Region.wanted op (yielded ops a.tmps) = true then Oper.wp P op a w K Q else E := by
  rw [if_pos hgd]
  exact wp_store_mid ty x y ho b 0 vs.toArray hx hy (by rw [List.size_toArray, hl]; exact hA.there) (by simpa using hi) (all_oneCell_toArray h1) (h _ (hA.put hl) (v_g_setCells b _ 0 w) (v_size_setCells b _ 0 w))

theorem step_boxV {P : Program} {ops : Array Oper} {op : Oper} {a : Act} {w : World} {K : Act → World → Prop} {Q : Exit → Act → World → Prop} {E : Prop} (hgd : Region.wanted op (yielded ops a.tmps) = true) (t : TypeId) (x : Operand) (ho : op.op = .box t x) (vs : List Value) (hx : a.eval x = .agg vs.toArray)
    (h : ∀ g w', Hid (g = w.heap.size) → Hid (w' = w.alloc (.cells vs.toArray t)) → K (a.put op.dst (.pointer (some ⟨g, 0, none⟩))) w') : if Region.wanted op (yielded ops a.tmps) = true then Oper.wp P op a w K Q else E := by
  rw [if_pos hgd]
  unfold Oper.wp execOp
  simp only [ho, hx, Sem.run_bind, Instr.box, newVar, newRow, run_newObj_alloc, Sem.run_pure, Result.andThen_ok]
  exact h _ _ (Lib.hid rfl) (Lib.hid rfl)
end Go.Proofs.YtlcegchdkigibaaGreatDoor

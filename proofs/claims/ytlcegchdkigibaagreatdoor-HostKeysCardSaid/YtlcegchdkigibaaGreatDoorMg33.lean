/- The contract of Host.Connect from the first address to the second one, to port 80. Conditions: the host stands, with at most four connections, none of which was let go; the tables of digests is as the program lays it.
The contract of Conn.pass where nothing is due. Condition: a connection with one leg stands, whose one timer is further ahead.
The contract of Conn.Tick by one tick at which nothing is due. Condition: a connection with one leg stands, in its first state, whose one timer is further ahead.
A host with one connection that isn't over; the contracts of Host.each there. Conditions: it stands; the closure's own contract.
The contracts of Host.each and of Host.Tick at a host with one connection at which nothing is due. Conditions: it stands.
The first of one segment that waits. No condition.
The contract of Host.Tick at a host with one connection at which nothing is due, and of Host.Out; the law's example. Conditions: it stands; the table of digests is as the program lays it.
A segment as an argument of a law of connections. No condition. -/
import Derived.Test.YtlcegchdkigibaaGreatDoorMg32
import Derived.Deep.RegionHeld3
import Derived.Test.YtlcegchdkigibaaGreatDoorMg20
import Derived.Test.YtlcegchdkigibaaGreatDoorMg4
import Derived.Test.YtlcegchdkigibaaGreatDoorMg7
import Derived.OpenShut
import Derived.Deep.Slices
import Derived.ChangeOld
import Derived.ProofKit
namespace Go.Proofs.YtlcegchdkigibaaGreatDoor
set_option linter.unusedVariables false
set_option linter.unusedSimpArgs false
set_option maxRecDepth 20000
open Go.RowKit Go.Lib

section
variable {B : Nat} {w w' : World} {hb mb : Nat} {h : Hv} {l : LT.Ents} {ps xs : List Nat} {m : Nat} {gs : List Value}
/-- What of it may turn. -/
def Hfp (h : Hv) (hb mb g : Nat) : Prop := g = hb ∨ g = mb ∨ h.hv.ownBlock = some g ∨ h.sv.ownBlock = some g
/-- A connection more. -/
structure ConnP (B : Nat) (w : World) (hb : Nat) (h : Hv) (mb : Nat) (l : LT.Ents) (xs : List Nat) (m : Nat) (gs : List Value) (xb : Nat) (x : Xv) (base : Nat) (lab ro : Nat → Nat) (lb : Nat) (z : Zc) (k : Nat) (pv : Value) (d : Nat) (hv sv : Value) (ps' : List Nat) (q : Sgc) (w' : World) : Prop where
  s : Hs B w' hb { h with pv := pv, dn := d, md := h.md + 1, hv := hv, sv := sv } mb (l ++ [(LK.kt k, ⟨true, h.md + 1, 0⟩)]) ps' (xs ++ [xb]) (m + 1) (gs ++ q.vals)
  y : Xa w' xb x
  xe : x.hn = h.md + 1 ∧ x.wh = 1
  wo : Wo base w' lab ro x.cb lb z
  zs : z.c.st = 0 ∧ z.c.bg = h.tk ∧ z.n = 0 ∧ z.g = []
  zl : z.L = [(5, max (snc h.tk (h.tk + 4)) (((0 : Nat) : Int) + 1))]
  kn : LK.kt k ∉ LT.keys l ∧ k < 18446744073709551616
  c : Clear lab ro sv
  c2 : ∀ g, g = hb ∨ g = h.tb ∨ g = mb ∨ g = xb ∨ hv.ownBlock = some g ∨ pv.ownBlock = some g → ro g = 0 ∧ lab g = 0
  q1 : q.syn = true ∧ q.dp = 80
  b : Below B w w'
  bb : B ≤ base
  ch : Ch w w' (Hfp h hb mb)
def ConnectP (B : Nat) (w : World) (hb : Nat) (h : Hv) (mb : Nat) (l : LT.Ents) (xs : List Nat) (m : Nat) (gs : List Value) (e : Ending) (w' : World) : Prop :=
  (∃ v d ps', l ≠ [] ∧ e = .returned (.tuple #[.int .i64 0, .int .i64 6]) ∧ Hs B w' hb { h with pv := v, dn := d } mb l ps' xs m gs ∧ Below B w w' ∧ Ch w w' (Hfp h hb mb)) ∨
    (∃ xb x base lab ro lb z k pv d hv sv ps' q, e = .returned (.tuple #[.int .i64 (h.md + 1), .int .i64 0]) ∧ ConnP B w hb h mb l xs m gs xb x base lab ro lb z k pv d hv sv ps' q w')
theorem Wo.low {base cb lb : Nat} {lab ro : Nat → Nat} {z : Zc} (k : Wo base w lab ro cb lb z) {g : Nat} (hg : g < base) : ro g = 0 ∧ lab g = 0 := by
  refine ⟨?_, ?_⟩
  · rcases Nat.eq_zero_or_pos (ro g) with e | e
    · exact e
    · have := (k.ds g (by omega)).2.1
      omega
  · rcases Nat.eq_zero_or_pos (lab g) with e | e
    · exact e
    · have := k.wl g (by omega)
      omega
set_option maxHeartbeats 3200000 in
theorem connectFull_any (s : Hs B w hb h mb l ps xs m gs) (hx : xs.length < 6) (hl : l.length = 4) (hmd : 0 ≤ h.md ∧ h.md ≤ 1000) :
    Calls Tryz.prog 8 #[cptr hb, .int .i64 0, .int .i64 1, .int .i64 80] w fun e w' => e = .returned (.tuple #[.int .i64 0, .int .i64 15]) ∧ Below w.heap.size w w' := by
  have c6 := s.c.ha.md_
  have HR := Lib.hid (fun W => RightBare_yes ⟨0, 1, 1024 + h.md + 1, 80, 0, 0, false, false, false, false, 0, .slice none 0 0, .slice none 0 0⟩ rfl rfl rfl (bare_of (i := 0) (j := 1) (by decide) (by decide) (by show 0 ≤ 1024 + h.md + 1 ∧ 1024 + h.md + 1 ≤ 65535; omega) (by show (0 : Int) ≤ 80 ∧ (80 : Int) ≤ 65535; omega)) W)
  unfold Sgc.vals at HR
  dsimp only at HR
  have HFU := Lib.hid (fun W (b : Below w.heap.size w W) => full_any (s.c.below b) hx)
  have hw1 : IntKind.i64.wrap (1024 + h.md) = 1024 + h.md := by rw [IntKind.wrap_i64]; omega
  have hw2 : IntKind.i64.wrap (1024 + h.md + 1) = 1024 + h.md + 1 := by rw [IntKind.wrap_i64]; omega
  have HTK := Lib.hid (fun W (b : Below w.heap.size w W) => takeFull_any (s.below b) hl hmd)
  clear s hx hl hmd
  obtain ⟨md, emd⟩ : ∃ y, y = h.md := ⟨_, rfl⟩
  rw [← emd] at c6 hw1 hw2 HR
  clear emd
  unfold cptr at *
  go_enter Tryz.func8, Tryz.ntmps8
  go_wp2_with fail
  have HB0 : Hid (Below w.heap.size w (w.alloc (.cells #[.int .i64 0, .int .i64 1, .int .i64 (1024 + md + 1), .int .i64 80] 69))) := Lib.hid (below_a w _)
  have z0 : Own (w.alloc (.cells #[.int .i64 0, .int .i64 1, .int .i64 (1024 + md + 1), .int .i64 80] 69)) w.heap.size [.int .i64 0, .int .i64 1, .int .i64 (1024 + md + 1), .int .i64 80] := Own.new w [.int .i64 0, .int .i64 1, .int .i64 (1024 + md + 1), .int .i64 80] 69
  generalize w.alloc (.cells #[.int .i64 0, .int .i64 1, .int .i64 (1024 + md + 1), .int .i64 80] 69) = w0 at *
  refine (HR.out _).mono ?_
  rintro e w1 ⟨rfl, b1⟩
  have z1 := z0.below b1
  have B1 := Lib.hid (HB0.out.trans (b1.mono HB0.out.size))
  have HF1 := Lib.hid (HFU.out w1 B1.out)
  clear z0 b1 HR HFU HB0 c6 hw1 hw2
  go_wp2_with fail
  refine HF1.out.mono ?_
  rintro e w2 ⟨rfl, rfl⟩
  have HT1 := Lib.hid (HTK.out _ B1.out)
  clear HTK HF1
  go_wp2_with fail
  refine HT1.out.mono ?_
  rintro e w3 ⟨rfl, b3⟩
  have HQ := Lib.hid (B1.out.trans (b3.mono B1.out.size))
  clear b3 z1 HT1
  go_wp2_with fail
  go_ret2
  exact ⟨rfl, HQ.out⟩
set_option maxHeartbeats 6400000 in
theorem connect_any (s : Hs B w hb h mb l ps xs m gs) (hm : m ≤ 900) (hx : xs.length < 6) (hl : l.length < 4) (hmd : 0 ≤ h.md ∧ h.md ≤ 1000) (htk : 0 ≤ h.tk ∧ h.tk ≤ 1048560) (hT : TB B w) :
    Calls Tryz.prog 8 #[cptr hb, .int .i64 0, .int .i64 1, .int .i64 80] w (ConnectP B w hb h mb l xs m gs) := by
  have c6 := s.c.ha.md_
  have HR := Lib.hid (fun W => RightBare_yes ⟨0, 1, 1024 + h.md + 1, 80, 0, 0, false, false, false, false, 0, .slice none 0 0, .slice none 0 0⟩ rfl rfl rfl (bare_of (i := 0) (j := 1) (by decide) (by decide) (by show 0 ≤ 1024 + h.md + 1 ∧ 1024 + h.md + 1 ≤ 65535; omega) (by show (0 : Int) ≤ 80 ∧ (80 : Int) ≤ 65535; omega)) W)
  unfold Sgc.vals at HR
  dsimp only at HR
  have HFU := Lib.hid (fun W (b : Below w.heap.size w W) => full_any (s.c.below b) hx)
  have hw1 : IntKind.i64.wrap (1024 + h.md) = 1024 + h.md := by rw [IntKind.wrap_i64]; omega
  have hw2 : IntKind.i64.wrap (1024 + h.md + 1) = 1024 + h.md + 1 := by rw [IntKind.wrap_i64]; omega
  have HTK := Lib.hid (fun W (b : Below w.heap.size w W) => take_any (s.below b) hl hmd (hT.step (b.mono s.c.le)))
  have HS := Lib.hid s
  have HT := Lib.hid hT
  have HN := Lib.hid (And.intro hm (And.intro hx (And.intro hmd htk)))
  clear s hx hl hmd hm htk hT
  obtain ⟨md, emd⟩ : ∃ y, y = h.md := ⟨_, rfl⟩
  have HMD := Lib.hid emd
  rw [← emd] at c6 hw1 hw2 HR
  clear emd
  unfold cptr at *
  go_enter Tryz.func8, Tryz.ntmps8
  go_wp2_with fail
  have HB0 : Hid (Below w.heap.size w (w.alloc (.cells #[.int .i64 0, .int .i64 1, .int .i64 (1024 + md + 1), .int .i64 80] 69))) := Lib.hid (below_a w _)
  have z0 : Own (w.alloc (.cells #[.int .i64 0, .int .i64 1, .int .i64 (1024 + md + 1), .int .i64 80] 69)) w.heap.size [.int .i64 0, .int .i64 1, .int .i64 (1024 + md + 1), .int .i64 80] := Own.new w [.int .i64 0, .int .i64 1, .int .i64 (1024 + md + 1), .int .i64 80] 69
  generalize w.alloc (.cells #[.int .i64 0, .int .i64 1, .int .i64 (1024 + md + 1), .int .i64 80] 69) = w0 at *
  refine (HR.out _).mono ?_
  rintro e w1 ⟨rfl, b1⟩
  have z1 := z0.below b1
  have B1 := Lib.hid (HB0.out.trans (b1.mono HB0.out.size))
  have HF1 := Lib.hid (HFU.out w1 B1.out)
  clear z0 b1 HR HFU HB0 c6 hw1 hw2
  go_wp2_with fail
  refine HF1.out.mono ?_
  rintro e w2 ⟨rfl, rfl⟩
  have HT1 := Lib.hid (HTK.out _ B1.out)
  clear HTK HF1
  go_wp2_with fail
  refine HT1.out.mono ?_
  rintro e w3 hP
  have HZ1 := Lib.hid z1
  rcases hP with ⟨v, d, ps3, hne, rfl, s3, b3⟩ | ⟨kk, v, d, ps3, hk3, hn3, rfl, s3, b3⟩
  · have HQ : Hid (ConnectP B w hb h mb l xs m gs (.returned (.tuple #[.int .i64 0, .int .i64 6])) w3) := Lib.hid (.inl ⟨v, d, ps3, hne, rfl, s3, (B1.out.mono HS.out.c.le).trans ((HS.out.below B1.out).bel b3), (Ch.of_below _ B1.out).then_ (b3.mono (fun g _ e => e.elim .inl (fun e => .inr (.inl e))))⟩)
    clear s3 b3 z1 HT1 HZ1
    go_wp2_with fail
    go_ret2
    exact HQ.out
  · have hz3 := b3.size
    have hze := HZ1.out.range
    have bd : Below w3.heap.size w3 w3.drew := (Below.refl w3.heap.size w3).drew
    have HS3 := Lib.hid (s3.below bd)
    have HB3 : Hid (Below B w w3.drew) := Lib.hid ((B1.out.mono HS.out.c.le).trans ((HS.out.below B1.out).bel b3)).drew
    have hmm : ∀ (e : Nat), w.heap.size = e → ¬ (e = hb ∨ e = mb) := fun e he hh => by
      rcases hh with hh | hh
      · have := HS.out.c.lt; omega
      · have := HS.out.c.tb.map.lt; omega
    have E0 : w3.drew.cell? ⟨w.heap.size, 0, none⟩ = some (.int .i64 0) ∧ w3.drew.cell? ⟨w.heap.size, 1, none⟩ = some (.int .i64 1) ∧ w3.drew.cell? ⟨w.heap.size, 2, none⟩ = some (.int .i64 (1024 + md + 1)) ∧ w3.drew.cell? ⟨w.heap.size, 3, none⟩ = some (.int .i64 80) ∧ w3.drew.cell? ⟨hb, 5, none⟩ = some (.int .i64 h.tk) :=
      ⟨b3.cell (z1 0 (by simp)).1 (hmm _ rfl), b3.cell (z1 1 (by simp)).1 (hmm _ rfl), b3.cell (z1 2 (by simp)).1 (hmm _ rfl), b3.cell (z1 3 (by simp)).1 (hmm _ rfl), HS3.out.c.ha.tk_⟩
    have HC3 : Hid (Ch w w3.drew (Hfp h hb mb)) := Lib.hid (((Ch.of_below _ B1.out).then_ (b3.mono (fun g _ e => e.elim .inl (fun e => .inr (.inl e))))).drew)
    have HDL := Lib.hid (Dial_any (w := w3.drew) (key := kk) (i := 0) (j := 1) (op := 1024 + md + 1) (tp := 80) (t := h.tk) hk3 (by decide) (by decide) (by have := HN.out; have := HMD.out; omega) (by omega) HN.out.2.2.2 (HT.out.step HB3.out).here)
    have HK3 := Lib.hid (And.intro hk3 hn3)
    have hel : w.heap.size < w3.drew.heap.size := by have := World.block_lt_of_cell? _ _ E0.1; exact this
    have hhl : hb < w3.drew.heap.size := HS3.out.c.lt
    unfold DialP cptr at HDL
    clear s3 b3 z1 HT1 hk3 hn3 bd hmm hze hz3 HZ1
    obtain ⟨tk, etk⟩ : ∃ y, y = h.tk := ⟨_, rfl⟩
    have HTK := Lib.hid etk
    rw [← etk] at HDL E0
    clear etk
    generalize w.heap.size = eb at *
    go_wp2_with fail
    go_region_held3 (fun V => V.cell? ⟨eb, 0, none⟩ = some (.int .i64 0) ∧ V.cell? ⟨eb, 1, none⟩ = some (.int .i64 1) ∧ V.cell? ⟨eb, 2, none⟩ = some (.int .i64 (1024 + md + 1)) ∧ V.cell? ⟨eb, 3, none⟩ = some (.int .i64 80) ∧ V.cell? ⟨hb, 5, none⟩ = some (.int .i64 tk))
      (first | exact E0 | exact E4 | trivial)
      (first | (go_at_call 34; refine HDL.out.mono ?_; rintro e w4 ⟨base, lab, ro, cb, lb, z, rfl, Z4, D4, hbs, b4⟩; have E4 : w4.cell? ⟨eb, 0, none⟩ = some (.int .i64 0) ∧ w4.cell? ⟨eb, 1, none⟩ = some (.int .i64 1) ∧ w4.cell? ⟨eb, 2, none⟩ = some (.int .i64 (1024 + md + 1)) ∧ w4.cell? ⟨eb, 3, none⟩ = some (.int .i64 80) ∧ w4.cell? ⟨hb, 5, none⟩ = some (.int .i64 tk) := ⟨(b4.cell hel).trans E0.1, (b4.cell hel).trans E0.2.1, (b4.cell hel).trans E0.2.2.1, (b4.cell hel).trans E0.2.2.2.1, (b4.cell hhl).trans E0.2.2.2.2⟩))
    have tkE := HTK.out
    subst tkE
    obtain ⟨⟨sb, rb, pb, wb, v1, v2, s, iss, fin, ov, dv, so, sr, sm, hiss, rfl⟩⟩ := D4
    have s4 := HS3.out.below b4
    have hlow : ∀ g, g < w3.drew.heap.size → ro g = 0 ∧ lab g = 0 := fun g hg => Z4.low (Nat.lt_of_lt_of_le hg hbs)
    have hcb : B ≤ cb := by
      have h1 := (Z4.ds cb (by rw [Z4.rc]; decide)).2.1
      have h2 := HS3.out.c.le
      omega
    have hB4 : B ≤ w4.heap.size := s4.c.le
    have hbb : B ≤ base := Nat.le_trans HS3.out.c.le hbs
    have b5 := below_a w4 (.cells (Xv.cs ⟨cb, 0, 1, 0, 0⟩) 79)
    have xa5 : Xa (w4.alloc (.cells (Xv.cs ⟨cb, 0, 1, 0, 0⟩) 79)) w4.heap.size ⟨cb, 0, 1, 0, 0⟩ := heap_alloc_new w4 _
    have HAD := Lib.hid (add_any (s4.below b5) (by have := HN.out; omega) (by have := HN.out; omega) HN.out.2.2.1 xa5 (Z4.below b5) rfl (by show 1 ≤ 100; omega) (hlow hb hhl) (fun g hg => hlow g (own_in HS3.out.c.sw hg).2) ⟨Z4.new_ro (Nat.le_refl _), Z4.new_lab (Nat.le_refl _)⟩ (fun g hg => hlow g (own_in HS3.out.c.hw hg).2) hcb hB4)
    have HB5 : Hid (Below B w (w4.alloc (.cells (Xv.cs ⟨cb, 0, 1, 0, 0⟩) 79))) := Lib.hid ((HB3.out.trans (b4.mono HS3.out.c.le)).trans (b5.mono hB4))
    have HLO : Hid ((∀ g, g = hb ∨ g = h.tb ∨ g = mb ∨ g = w4.heap.size ∨ v.ownBlock = some g → ro g = 0 ∧ lab g = 0) ∧ B ≤ base) := Lib.hid ⟨fun g hg => by
      rcases hg with rfl | rfl | rfl | rfl | hg
      · exact hlow _ hhl
      · exact hlow _ HS3.out.c.tb.lt
      · exact hlow _ HS3.out.c.tb.map.lt
      · exact ⟨Z4.new_ro (Nat.le_refl _), Z4.new_lab (Nat.le_refl _)⟩
      · exact hlow _ (HS3.out.pr.lt hg), hbb⟩
    have HC5 : Hid (Ch w (w4.alloc (.cells (Xv.cs ⟨cb, 0, 1, 0, 0⟩) 79)) (Hfp h hb mb) ∧ w.heap.size ≤ w4.heap.size ∧ w.heap.size ≤ cb) := Lib.hid ⟨(HC3.out.then_ (Ch.of_below _ b4)).then_ (Ch.of_below _ b5), Nat.le_trans HC3.out.size b4.size, Nat.le_trans HC3.out.size (Nat.le_trans hbs (Z4.ds cb (by rw [Z4.rc]; decide)).2.1)⟩
    unfold Xv.cs cptr at HAD HB5 HC5
    unfold AddP at HAD
    dsimp only at HAD HB5 HC5
    clear s4 hlow hcb hB4 hbb b5 xa5 Z4 E4 E0 b4 HDL hhl hel hbs
    go_wp2_with fail
    refine HAD.out.mono ?_
    rintro e w6 ⟨hv6, u6, rfl, s6, x6, k6, cl6, cv6, b6, ch6⟩
    have HQ : Hid (ConnectP B w hb h mb l xs m gs (.returned (.tuple #[.int .i64 (h.md + 1), .int .i64 0])) w6) := Lib.hid (.inr ⟨_, _, base, lab, ro, lb, _, kk, v, d, hv6, u6, ps3, _, rfl, ⟨by
      have s7 := s6
      rw [show (Zc.armed _).g = [_] from rfl, sgv_one] at s7
      exact s7, x6, ⟨rfl, rfl⟩, k6, ⟨rfl, rfl, rfl, rfl⟩, rfl, HK3.out.symm, cl6, (fun g hg => by rcases hg with hg | hg | hg | hg | hg | hg; exact HLO.out.1 g (.inl hg); exact HLO.out.1 g (.inr (.inl hg)); exact HLO.out.1 g (.inr (.inr (.inl hg))); exact HLO.out.1 g (.inr (.inr (.inr (.inl hg)))); exact cv6 g hg; exact HLO.out.1 g (.inr (.inr (.inr (.inr hg))))), ⟨rfl, rfl⟩, HB5.out.trans b6, HLO.out.2, HC5.out.1.trans ch6 (fun _ _ e => e) (fun g hg e => by rcases e with e | e | e | e | e; exact .inl e; have := HC5.out.2.1; omega; have := HC5.out.2.2; omega; exact .inr (.inr (.inl e)); exact .inr (.inr (.inr e)))⟩⟩)
    clear s6 x6 k6 cl6 cv6 b6 ch6 HAD HB5
    go_wp2_with fail
    go_ret2
    exact HQ.out
end
end Go.Proofs.YtlcegchdkigibaaGreatDoor

namespace Go.Proofs.YtlcegchdkigibaaGreatDoor
set_option linter.unusedVariables false
set_option linter.unusedSimpArgs false
set_option maxRecDepth 20000
open Go.RowKit Go.Lib

section
variable {base : Nat} {w w' : World} {lab ro lab' ro' : Nat → Nat} {cb lb : Nat} {z : Zc} {c : Cv} {p : LP.Pm} {so sr sm n : Nat} {L : List (Int × Int)}
set_option maxHeartbeats 1600000 in
theorem passNo_any (h : Wo base w lab ro cb lb z) (hb : base ≤ w.heap.size) {m : Int} (hL : z.L = [(5, m)]) (hn : z.n ≤ 1048576) (hm : ((z.n : Int) + 1) < m) :
    Calls Tryz.prog 87 #[cptr cb, .int .i64 ((z.n : Int) + 1)] w fun e w' => e = .returned (.tuple #[]) ∧ ∃ lab', Wo base w' lab' ro cb lb { z with n := z.n + 1 } ∧ Fx lab ro w lab' ro w' := by
  have HA := Lib.hid (LW.oadv_any h.wh (t := (z.n : Int) + 1) (by unfold LW.isI; omega) (by omega) (by rw [hL]; simp) (z.n + 1) (by omega) (by omega) (fun m hm => by omega))
  have HW := Lib.hid h
  have HB := Lib.hid hb
  have HL := Lib.hid hL
  have HM := Lib.hid hm
  have c16 := h.ca.wb_
  clear h hb hL hm
  unfold LW.ptr at HA
  unfold cptr at *
  go_enter Tryz.func87, Tryz.ntmps87
  go_wp2_with fail
  refine HA.out.mono ?_
  rintro e w1 ⟨v, lab1, out, rfl, o1, f1, d1, _, _, hout⟩
  have ho : out = [] := List.eq_nil_iff_forall_not_mem.2 fun q hq => by
    have h2 := (hout q).1 hq
    rw [HL.out] at h2
    have h3 : q = (5, m) := by simpa using h2.1
    have h4 := h2.2
    rw [h3] at h4
    have := HM.out
    simp at h4
    omega
  subst ho
  obtain ⟨A, cp, rfl, _, _⟩ := LF.own_slice d1
  rw [HL.out] at o1
  rw [show ([((5 : Int), m)].filter fun p => decide ((((z.n + 1 : Nat) : Nat) : Int) < p.2)) = [((5 : Int), m)] from by
    have := HM.out
    simp
    omega] at o1
  obtain ⟨W1, X1⟩ := HW.out.wheel HB.out o1 f1
  have HF : Hid (∃ lab', Wo base w1 lab' ro cb lb { z with n := z.n + 1 } ∧ Fx lab ro w lab' ro w1) := Lib.hid ⟨lab1, by rw [← HL.out] at W1; exact W1, X1⟩
  clear o1 f1 d1 hout W1 X1 HA
  go_wp2_with fail
  refine bodyPost_ret (results_none rfl _ _ _) rfl ?_
  exact ⟨rfl, HF.out⟩
end
end Go.Proofs.YtlcegchdkigibaaGreatDoor

namespace Go.Proofs.YtlcegchdkigibaaGreatDoor
set_option linter.unusedVariables false
set_option linter.unusedSimpArgs false
set_option maxRecDepth 20000
open Go.RowKit Go.Lib

section
variable {base : Nat} {w w' : World} {lab ro : Nat → Nat} {cb lb : Nat} {z : Zc} {n : Nat}
def Tick1P (base : Nat) (w : World) (lab ro : Nat → Nat) (cb lb : Nat) (z : Zc) (w' : World) : Prop := ∃ lab', Wo base w' lab' ro cb lb { z with n := z.n + 1 } ∧ Fx lab ro w lab' ro w'
set_option maxHeartbeats 3200000 in
theorem Tick1_any (h : Wo base w lab ro cb lb z) (hs : z.c.st = 0) (hbg : 0 ≤ z.c.bg ∧ z.c.bg ≤ 1048576) (hn : z.n = n) (hn1 : n ≤ 1000) {m : Int} (hL : z.L = [(5, m)]) (hm : (n : Int) + 1 < m) :
    Calls Tryz.prog 42 #[cptr cb, .int .i64 (z.c.bg + ((n : Int) + 1))] w fun ee w' => ee = .returned (.tuple #[]) ∧ Tick1P base w lab ro cb lb z w' := by
  have hsn : snc z.c.bg (z.c.bg + ((n : Int) + 1)) = (n : Int) + 1 := by unfold snc; split <;> omega
  have HS := Lib.hid (fun q => since_any (w := w.drewN q) (c := z.c) ((h.below (below_dn (Below.refl _ _) q)).ca) (z.c.bg + ((n : Int) + 1)) (by omega) (by omega))
  rw [hsn] at HS
  have HN := Lib.hid (fun q => LW.onow_any (w := w.drewN q) ((h.below (below_dn (Below.refl _ _) q)).wh))
  rw [hn] at HN
  have c16 := h.ca.wb_
  have hmin : min ((n : Int) + 1) ((n : Int) + 10000) = (n : Int) + 1 := by omega
  have hwr : IntKind.i64.wrap ((n : Int) + 10000) = (n : Int) + 10000 := by rw [IntKind.wrap_i64]; omega
  have HP := Lib.hid (fun q => passNo_any (h.below (below_dn (Below.refl _ _) q)) (by
    have := h.ca.lt
    have := (h.ds cb (by rw [h.rc]; decide)).2.1
    show base ≤ w.heap.size
    omega) hL (by omega) (by rw [hn]; exact hm))
  have HZ := Lib.hid (fun q => h.below (below_dn (Below.refl w.heap.size w) q))
  have HST := Lib.hid hs
  have HNN := Lib.hid hn
  clear h hsn hbg hL hm hs
  unfold tptr at HS
  unfold LW.ptr at HN
  unfold cptr at *
  generalize z.c.bg + ((n : Int) + 1) = tt at *
  go_enter Tryz.func42, Tryz.ntmps42
  go_wp2_with fail
  go_quiet (first
    | (go_at_call 85; exact Calls.quiet_of_same (HS.out _))
    | (go_at_call 86; exact Calls.quiet_of_same (HN.out _)))
  have HP1 := Lib.hid (HP.out nq)
  have HZ1 := Lib.hid (HZ.out nq)
  have HX1 : Hid (Fx lab ro w lab ro (w.drewN nq)) := Lib.hid (Fx.below lab ro (below_dn (Below.refl w.heap.size w) nq))
  clear HS HN c16 hmin hwr HP HZ
  generalize w.drewN nq = wq at *
  clear nq
  go_wp2_with fail
  go_loopw [42] (fun i wr => (i = undef ∧ wr = wq) ∨ (i = .int .i64 ((n : Int) + 1) ∧ Tick1P base w lab ro cb lb z wr)) (fun i _ => n + 1 - (intOf i).toNat)
  case atStart => exact .inl ⟨rfl, rfl⟩
  case round =>
    rcases hrel with ⟨rfl, rfl⟩ | ⟨rfl, hP⟩
    · have Z := HZ1.out
      have d16 := Z.ca.wb_
      have d4 := Z.ca.st_
      rw [HST.out] at d4
      have HN := Lib.hid (LW.onow_any Z.wh)
      rw [HNN.out] at HN
      unfold LW.ptr at HN
      have hmi : (n : Int) < (n : Int) + 1 := by omega
      have hwr : IntKind.i64.wrap ((n : Int) + 1) = (n : Int) + 1 := by rw [IntKind.wrap_i64]; omega
      have HP2 := HP1
      rw [HNN.out] at HP2
      clear Z HP1
      go_wp2_with (first
        | (go_at_call 86; refine HN.out.mono ?_; rintro e1 w1 ⟨rfl, rfl⟩)
        | fail)
      refine HP2.out.mono ?_
      rintro e1 w1 ⟨rfl, lab1, Z1, X1⟩
      have HR : Hid (Tick1P base w lab ro cb lb z w1) := Lib.hid ⟨lab1, by rw [← HNN.out] at Z1; exact Z1, HX1.out.trans X1⟩
      clear Z1 X1 HP2 HN
      go_wp2_with fail
      go_roundw
      case rel => exact .inr ⟨rfl, HR.out⟩
      case measure =>
        have h0 : intOf undef = 0 := rfl
        rw [h0]
        simp [intOf]
    · have HQ := Lib.hid hP
      obtain ⟨lab1, Z, X⟩ := hP
      have d16 := Z.ca.wb_
      have HN := Lib.hid (LW.onow_any Z.wh)
      dsimp only at HN d16
      rw [HNN.out] at HN
      rw [show ((n + 1 : Nat) : Int) = (n : Int) + 1 from rfl] at HN
      unfold LW.ptr at HN
      clear Z X HP1 HZ1
      have hge : ¬ (n : Int) + 1 < (n : Int) + 1 := by omega
      go_wp2_with (first
        | (go_at_call 86; refine HN.out.mono ?_; rintro e1 w1 ⟨rfl, rfl⟩)
        | fail)
      go_end0
      exact ⟨rfl, HQ.out⟩
end
end Go.Proofs.YtlcegchdkigibaaGreatDoor

namespace Go.Proofs.YtlcegchdkigibaaGreatDoor
set_option linter.unusedVariables false
set_option linter.unusedSimpArgs false
set_option maxRecDepth 20000
open Go.RowKit Go.Lib

def Hbk (h : Hv) (hb mb xb g : Nat) : Prop := g = hb ∨ g = h.tb ∨ g = mb ∨ g = xb ∨ h.hv.ownBlock = some g ∨ h.pv.ownBlock = some g ∨ h.sv.ownBlock = some g
/-- A host with one connection that isn't over. -/
structure Wk (B : Nat) (w : World) (hb : Nat) (h : Hv) (mb : Nat) (l : LT.Ents) (ps : List Nat) (m : Nat) (gs : List Value) (xb : Nat) (x : Xv) (base : Nat) (lab ro : Nat → Nat) (lb : Nat) (z : Zc) : Prop where
  s : Hs B w hb h mb l ps [xb] m gs
  y : Xa w xb x
  k : Wo base w lab ro x.cb lb z
  f : ∀ g, Hbk h hb mb xb g → ro g = 0 ∧ lab g = 0
  bb : B ≤ base
section
variable {B : Nat} {w w' : World} {hb mb : Nat} {h : Hv} {l : LT.Ents} {ps : List Nat} {m : Nat} {gs : List Value} {xb : Nat} {x : Xv} {base : Nat} {lab ro lab' : Nat → Nat} {lb : Nat} {z z' : Zc}
theorem Wk.below (k : Wk B w hb h mb l ps m gs xb x base lab ro lb z) (b : Below w.heap.size w w') : Wk B w' hb h mb l ps m gs xb x base lab ro lb z := ⟨k.s.below b, k.y.below b, k.k.below b, k.f, k.bb⟩
theorem Wk.lt (k : Wk B w hb h mb l ps m gs xb x base lab ro lb z) {g : Nat} (hg : Hbk h hb mb xb g) : g < w.heap.size := by
  rcases hg with rfl | rfl | rfl | rfl | hg | hg | hg
  · exact k.s.c.lt
  · exact k.s.c.tb.lt
  · exact k.s.c.tb.map.lt
  · exact k.y.lt
  · exact (own_in k.s.c.hw hg).2
  · exact k.s.pr.lt hg
  · exact (own_in k.s.c.sw hg).2
/-- Only the connection turned. -/
theorem Wk.conn (k : Wk B w hb h mb l ps m gs xb x base lab ro lb z) (K : Wo base w' lab' ro x.cb lb z') (X : Fx lab ro w lab' ro w') : Wk B w' hb h mb l ps m gs xb x base lab' ro lb z' ∧ Below B w w' := by
  have c := X.1
  have hn : ∀ g, Hbk h hb mb xb g → ¬ (lab g ≠ 0 ∨ ro g ≠ 0) := fun g hg e => by
    have := k.f g hg
    omega
  refine ⟨⟨⟨k.s.c.ch c (hn _ (.inl rfl)) (hn _ (.inr (.inl rfl))) (hn _ (.inr (.inr (.inl rfl)))) (fun g hg => hn g (.inr (.inr (.inr (.inr (.inl hg)))))) (fun g hg => hn g (.inr (.inr (.inr (.inr (.inr (.inr hg))))))), k.s.pr.ch2 c (fun g hg => hn g (.inr (.inr (.inr (.inr (.inr (.inl hg)))))))⟩, k.y.ch c (hn _ (.inr (.inr (.inr (.inl rfl))))), K, fun g hg => ?_, k.bb⟩, chm_below c (fun g e hl => ?_) k.s.c.le⟩
  · have h1 := X.2 g (k.lt hg)
    have h2 := k.f g hg
    exact ⟨h2.1, h1.1.trans h2.2⟩
  · have := k.bb
    rcases e with e | e
    · have := k.k.wl g e
      omega
    · have := (k.k.ds g e).2.1
      omega
/-- .. and a further block, that has no role. -/
structure WkE (B hb mb xb nb : Nat) (tk : Int) (m : Nat) (gs : List Value) (n : Nat) (w : World) : Prop where
  of_ : ∃ h l ps x base lab ro lb z mv, Wk B w hb h mb l ps m gs xb x base lab ro lb z ∧ (ro nb = 0 ∧ lab nb = 0) ∧ h.tk = tk ∧ x.wh = 1 ∧ z.c.st = 0 ∧ z.g = [] ∧ z.c.bg = 0 ∧ z.n = n ∧ z.L = [(5, mv)] ∧ mv = 4 ∧ n ≤ 2
  nb_ : w.heap[nb]? = some (.cells #[cptr hb] 25 (0, 0))
variable {nb n : Nat} {tk : Int}
theorem WkE.below (k : WkE B hb mb xb nb tk m gs n w) (b : Below w.heap.size w w') : WkE B hb mb xb nb tk m gs n w' := by
  obtain ⟨⟨h, l, ps, x, base, lab, ro, lb, z, mv, K, r⟩, N⟩ := k
  exact ⟨⟨h, l, ps, x, base, lab, ro, lb, z, mv, K.below b, r⟩, (b.block nb (Array.getElem?_eq_some_iff.1 N).1).trans N⟩
theorem WkE.le (k : WkE B hb mb xb nb tk m gs n w) : B ≤ w.heap.size := by
  obtain ⟨⟨h, l, ps, x, base, lab, ro, lb, z, mv, K, r⟩, N⟩ := k
  exact K.s.c.le
theorem settleWk_any (k : WkE B hb mb xb nb tk m gs n w) (hm : m ≤ 1000) : Calls Tryz.prog 75 #[cptr hb, cptr xb] w fun e w' => e = .returned (.tuple #[]) ∧ WkE B hb mb xb nb tk m gs n w' ∧ Below B w w' := by
  obtain ⟨⟨h, l, ps, x, base, lab, ro, lb, z, mv, K, hn, r⟩, N⟩ := k
  refine (settleNo_any K.s hm K.y K.k r.2.2.1 (by rw [r.2.2.2.1]; exact Nat.zero_le _) (K.f _ (.inl rfl)) (fun g hg => K.f g (.inr (.inr (.inr (.inr (.inr (.inr hg))))))) (by
    have h1 := (K.k.ds x.cb (by rw [K.k.rc]; decide)).2.1
    have := K.bb
    omega)).mono ?_
  rintro e w1 ⟨rfl, v, s1, y1, k1, c1, b1, ch1⟩
  rw [r.2.2.2.1, show sgv [] = [] from rfl, List.append_nil] at s1
  have N1 := (ch1.block nb (Array.getElem?_eq_some_iff.1 N).1 (fun hh => by
    rcases hh with hh | hh | hh
    · exact blk_ne N K.s.c.ha (by decide) hh
    · exact blk_ne N K.k.ca (by decide) hh
    · obtain ⟨cs, hc⟩ := ch_ownrow K.s.c.sw hh
      exact blk_ne N hc (by decide) rfl)).trans N
  exact ⟨rfl, ⟨⟨{ h with sv := v }, l, ps, x, base, lab, ro, lb, z.took, mv, ⟨s1, y1, k1, fun g hg => by
    rcases hg with hg | hg | hg | hg | hg | hg | hg
    · exact K.f g (.inl hg)
    · exact K.f g (.inr (.inl hg))
    · exact K.f g (.inr (.inr (.inl hg)))
    · exact K.f g (.inr (.inr (.inr (.inl hg))))
    · exact K.f g (.inr (.inr (.inr (.inr (.inl hg)))))
    · exact K.f g (.inr (.inr (.inr (.inr (.inr (.inl hg))))))
    · exact c1 g hg, K.bb⟩, hn, r.1, r.2.1, r.2.2.1, rfl, r.2.2.2.2.1, r.2.2.2.2.2.1, r.2.2.2.2.2.2.1, r.2.2.2.2.2.2.2⟩, N1⟩, b1⟩
end
set_option maxHeartbeats 1600000 in
theorem cloneHeld1_any {w : World} {g c xb : Nat} (h : w.cell? ⟨g, 0, none⟩ = some (cptr xb)) (hc : 1 ≤ c) (hm : c ≤ 9223372036854775807) : Calls Tryz.prog 84 #[.slice (some ⟨g, 0, none⟩) 1 c] w fun e w' => (∃ g' c', e = .returned (.slice (some ⟨g', 0, none⟩) 1 c') ∧ 1 ≤ c' ∧ c' ≤ 9223372036854775807 ∧ w'.cell? ⟨g', 0, none⟩ = some (cptr xb)) ∧ Below w.heap.size w w' := by
  have he : ∀ W, (binOp .eql 65 (.slice (some ⟨g, 0, none⟩) 1 c) (.slice none 0 0)).run Tryz.prog W = .ok (.bool false) W := fun W => by kernel_rfl
  have HO := Lib.hid (World.ownsRow_lit (base := w.heap.size) (e := 77) (size := 1) w #[] 0 (Nat.le_refl _) (Nat.zero_le _) rfl)
  have HB := Lib.hid (below_a w (.cells #[] 77))
  have HC : Hid ((w.alloc (.cells #[] 77)).rangeAt g 0 [cptr xb]) := Lib.hid (fun j u hu => by
    have hj : j = 0 := by have := (List.getElem?_eq_some_iff.1 hu).1; simp at this; omega
    subst hj
    have hu : cptr xb = u := by injection hu
    subst hu
    exact (World.cell?_alloc_lt w _ _ (World.block_lt_of_cell? _ _ h)).trans h)
  have HM := Lib.hid (And.intro hc hm)
  clear h
  unfold cptr at *
  go_enter Tryz.func84, Tryz.ntmps84
  go_wp2_with (first
    | (at_builtin; refine wpList_appG rfl (.tmp 5) (.tmp 6) 65 77 rfl (.pointer none) 1 8 undHeld infoHeld rfl (by decide) (by decide) w.heap.size _ 0 [] rfl HO.out (some ⟨g, 0, none⟩) 1 c [.pointer (some ⟨xb, 0, none⟩)] rfl ⟨rfl, HM.out.1, HM.out.2, (fun u hu => by simp at hu; subst hu; rfl), fun _ => ⟨_, _, rfl, HC.out⟩⟩ (by omega) (by simp) ?_; intro v9 w9 r9 g9 o9; have HV := Lib.hid (chm_below (grown_chv g9) (fun k e _ => (own_in HO.out e).1) HB.out.size); obtain ⟨g', k9, rfl, hk1, hk2⟩ := row1 r9; have x9 := World.ownsRow.cellAt r9 0 (by omega); clear r9 g9 o9)
    | fail)
  go_ret
  exact ⟨⟨_, _, rfl, hk1, hk2, x9⟩, HB.out.trans HV.out⟩
end Go.Proofs.YtlcegchdkigibaaGreatDoor

namespace Go.Proofs.YtlcegchdkigibaaGreatDoor
set_option linter.unusedVariables false
set_option linter.unusedSimpArgs false
set_option maxRecDepth 20000
open Go.RowKit Go.Lib

section
variable {B : Nat} {w w' : World} {hb mb : Nat} {h : Hv} {l : LT.Ents} {ps : List Nat} {m : Nat} {gs : List Value} {xb : Nat} {x : Xv} {base : Nat} {lab ro lab' : Nat → Nat} {lb : Nat} {z z' : Zc} {nb n : Nat} {tk : Int}
set_option maxHeartbeats 3200000 in
theorem each_any {F : FuncId} (hF : ∀ args w, (callFunc F args).run Tryz.prog w = .ok (.enter F args) w) {cap : Array Value} {n' : Nat} (k : WkE B hb mb xb nb tk m gs n w) (hm : m ≤ 1000)
    (HF : ∀ W, WkE B hb mb xb nb tk m gs n W → Below B w W → Calls Tryz.prog F (#[cptr xb] ++ cap) W fun e w' => e = .returned (.tuple #[]) ∧ WkE B hb mb xb nb tk m gs n' w' ∧ Below B W w') :
    Calls Tryz.prog 40 #[cptr hb, .func (.func F) #[] cap] w fun e w' => e = .returned (.tuple #[]) ∧ WkE B hb mb xb nb tk m gs n' w' ∧ Below B w w' := by
  have HK := Lib.hid k
  have HM := Lib.hid hm
  have HFF := Lib.hid HF
  obtain ⟨⟨h, l, ps, x, base, lab, ro, lb, z, mv, K, r⟩, N⟩ := k
  have c7 := K.s.c.ha.hv_
  obtain ⟨g, c, ehv, hc1, hc2⟩ := row1 K.s.c.hw
  have hx := World.ownsRow.cellAt (ehv ▸ K.s.c.hw) 0 (by decide)
  rw [ehv] at c7
  have HCL := Lib.hid (cloneHeld1_any (w := w) (xb := xb) (g := g) hx hc1 hc2)
  clear K r N hm HF hx hc1 hc2 ehv
  unfold cptr at *
  go_enter Tryz.func40, Tryz.ntmps40
  go_wp2_with fail
  refine HCL.out.mono ?_
  rintro e w1 ⟨⟨g', c', rfl, h1, h2, x1⟩, b1⟩
  have HK1 := Lib.hid (HK.out.below b1)
  have HB1 : Hid (Below B w w1) := Lib.hid (b1.mono HK.out.le)
  clear b1 HCL c7
  go_wp2_with fail
  go_loopw [12] (fun i wr => (i = .int .i64 0 ∧ wr = w1) ∨ (i = .int .i64 1 ∧ WkE B hb mb xb nb tk m gs n' wr ∧ Below B w wr)) (fun i _ => 1 - (intOf i).toNat)
  case atStart => exact .inl ⟨rfl, rfl⟩
  case round =>
    rcases hrel with ⟨rfl, rfl⟩ | ⟨rfl, hP⟩
    · have HC1 := Lib.hid (HFF.out wr HK1.out HB1.out)
      unfold cptr at HC1
      clear HFF
      go_wp2_with fail
      refine HC1.out.mono ?_
      rintro e w2 ⟨rfl, k2, b2⟩
      have HS2 := Lib.hid (settleWk_any k2 HM.out)
      have HB2 := Lib.hid (HB1.out.trans b2)
      unfold cptr at HS2
      clear k2 b2 HC1 HK1
      go_wp2_with fail
      refine HS2.out.mono ?_
      rintro e w3 ⟨rfl, k3, b3⟩
      have HR : Hid (WkE B hb mb xb nb tk m gs n' w3 ∧ Below B w w3) := Lib.hid ⟨k3, HB2.out.trans b3⟩
      clear k3 b3 HS2
      go_wp2_with fail
      go_roundw
      case rel => exact .inr ⟨rfl, HR.out⟩
      case measure => simp [intOf]
    · have HQ := Lib.hid hP
      clear hP
      go_wp2_with fail
      go_end0
      exact ⟨rfl, HQ.out⟩
set_option maxHeartbeats 3200000 in
/-- A tick of the connection. -/
theorem tickOne_any (k : WkE B hb mb xb nb ((n : Int) + 1) m gs n w) (hn1 : n ≤ 1) : Calls Tryz.prog 41 #[cptr xb, cptr nb] w fun e w' => e = .returned (.tuple #[]) ∧ WkE B hb mb xb nb ((n : Int) + 1) m gs (n + 1) w' ∧ Below B w w' := by
  obtain ⟨⟨h, l, ps, x, base, lab, ro, lb, z, mv, K, hn, rt, rw_, rs, rg, rb, rn, rL, rm, r2⟩, N⟩ := k.below (w' := w.drew) (Below.refl w.heap.size w).drew
  have HTI := Lib.hid (Tick1_any K.k rs (by rw [rb]; omega) rn (by omega) rL (by rw [rm]; omega))
  rw [rb, Int.zero_add] at HTI
  have e0 : w.drew.cell? ⟨xb, 0, none⟩ = some (.pointer (some ⟨x.cb, 0, none⟩)) ∧ w.drew.cell? ⟨nb, 0, none⟩ = some (.pointer (some ⟨hb, 0, none⟩)) ∧ w.drew.cell? ⟨hb, 5, none⟩ = some (.int .i64 ((n : Int) + 1)) :=
    ⟨K.y.cb_, by rw [cell_of_row w.drew nb 0 _ _ (0, 0) N]; rfl, by rw [← rt]; exact K.s.c.ha.tk_⟩
  have HD : Hid (∀ w', Tick1P base w.drew lab ro x.cb lb z w' → (WkE B hb mb xb nb ((n : Int) + 1) m gs (n + 1) w' ∧ Below B w w') ∧ w'.cell? ⟨xb, 0, none⟩ = some (.pointer (some ⟨x.cb, 0, none⟩)) ∧ w'.cell? ⟨nb, 0, none⟩ = some (.pointer (some ⟨hb, 0, none⟩)) ∧ w'.cell? ⟨hb, 5, none⟩ = some (.int .i64 ((n : Int) + 1))) := Lib.hid (fun w' ⟨lab', Z1, X1⟩ => by
    obtain ⟨K1, b1⟩ := K.conn Z1 X1
    have hl : nb < w.drew.heap.size := (Array.getElem?_eq_some_iff.1 N).1
    have N1 := (X1.1.block nb hl (fun e => by omega)).trans N
    refine ⟨⟨⟨⟨h, l, ps, x, base, lab', ro, lb, _, mv, K1, ⟨hn.1, (X1.2 nb hl).1.trans hn.2⟩, rt, rw_, rs, rg, rb, ?_, rL, rm, by omega⟩, N1⟩, ?_⟩, K1.y.cb_, by rw [cell_of_row w' nb 0 _ _ (0, 0) N1]; rfl, by rw [← rt]; exact K1.s.c.ha.tk_⟩
    · show z.n + 1 = n + 1
      rw [rn]
    · exact (Below.refl B w).drew.trans b1)
  clear K N hn rt rw_ rs rg rb rn rL rm r2 k
  unfold cptr at *
  generalize x.cb = cb at *
  go_enter Tryz.func41, Tryz.ntmps41
  go_wp2_with fail
  go_region_held3 (fun V => V.cell? ⟨xb, 0, none⟩ = some (.pointer (some ⟨cb, 0, none⟩)) ∧ V.cell? ⟨nb, 0, none⟩ = some (.pointer (some ⟨hb, 0, none⟩)) ∧ V.cell? ⟨hb, 5, none⟩ = some (.int .i64 ((n : Int) + 1)))
    (first | exact e0 | exact e1 | trivial)
    (first | (go_at_call 42; refine HTI.out.mono ?_; rintro e w1 ⟨rfl, hT1⟩; have HQ := Lib.hid (HD.out w1 hT1); have e1 := HQ.out.2))
  go_wp2_with fail
  go_end0
  exact ⟨rfl, HQ.out.1⟩
set_option maxHeartbeats 3200000 in
/-- Nobody is given up: the connection is an application's. -/
theorem tickTwo_any (k : WkE B hb mb xb nb tk m gs n w) : Calls Tryz.prog 43 #[cptr xb, cptr nb] w fun e w' => e = .returned (.tuple #[]) ∧ WkE B hb mb xb nb tk m gs n w' ∧ Below B w w' := by
  have HK : Hid (∀ W, Below w.heap.size w W → WkE B hb mb xb nb tk m gs n W ∧ Below B w W) := Lib.hid (fun W b => ⟨k.below b, b.mono k.le⟩)
  obtain ⟨⟨h, l, ps, x, base, lab, ro, lb, z, mv, K, hn, rt, rw_, r⟩, N⟩ := k
  have c2 := K.y.wh_
  rw [rw_] at c2
  clear K N hn rt rw_ r
  unfold cptr at *
  go_enter Tryz.func43, Tryz.ntmps43
  go_wp2_with fail
  go_quiet (fail)
  have HQ := Lib.hid (HK.out _ (below_dn (Below.refl w.heap.size w) nq))
  clear HK
  go_wp2_with fail
  go_end0
  exact ⟨rfl, HQ.out⟩
end
end Go.Proofs.YtlcegchdkigibaaGreatDoor

namespace Go.Proofs.YtlcegchdkigibaaGreatDoor
set_option linter.unusedVariables false
set_option linter.unusedSimpArgs false
open Go.RowKit Go.Lib

/-- The first of one segment that waits. -/
theorem seg_one {base : Nat} {w : World} {v : Value} {q : Sgc} (h : w.ownsRow base 40 13 v 1 (sgv [q])) : ∃ g cap, v = .slice (some ⟨g, 0, none⟩) 1 cap ∧ 1 ≤ cap ∧ cap ≤ 9223372036854775807 ∧ w.rangeAt g 0 q.vals := by
  rw [sgv_one] at h
  rcases h.2 with ⟨e, e2⟩ | ⟨g', cap, cur, rfl, _, _, h3, h4, _⟩
  · cases e2
  · refine ⟨g', cap, rfl, h3, by unfold maxLen at h4; omega, fun j u hu => ?_⟩
    have hj := (List.getElem?_eq_some_iff.1 hu).1
    rw [Nat.zero_add, World.ownsRow.cellAt h j (by rw [q.vals_length] at hj; omega)]
    exact hu
end Go.Proofs.YtlcegchdkigibaaGreatDoor

namespace Go.Proofs.YtlcegchdkigibaaGreatDoor
set_option linter.unusedVariables false
set_option linter.unusedSimpArgs false
set_option maxRecDepth 20000
open Go.RowKit Go.Lib

section
variable {B : Nat} {w w' : World} {hb mb : Nat} {h : Hv} {l l' : LT.Ents} {ps xs : List Nat} {m : Nat} {gs : List Value} {xb : Nat} {x : Xv} {base : Nat} {lab ro lab' : Nat → Nat} {lb : Nat} {z z' : Zc} {nb n : Nat} {tk : Int}
theorem Wk.table (K : Wk B w hb h mb l ps m gs xb x base lab ro lb z) (t : LT.Tb w' h.tb mb 4 l') (c : Ch w w' (fun g => g = mb)) : Wk B w' hb h mb l' ps m gs xb x base lab ro lb z :=
  ⟨K.s.table t c, K.y.ch c (fun e => map_ne K.s.c.tb.map K.y e.symm), K.k.frame c (fun g e => by subst e; exact K.f _ (.inr (.inr (.inl rfl)))), K.f, K.bb⟩
theorem Wk.tick (K : Wk B w hb h mb l ps m gs xb x base lab ro lb z) (t : Int) : Wk B (w.setCell ⟨hb, 5, none⟩ (.int .i64 t)) hb { h with tk := t } mb l ps m gs xb x base lab ro lb z ∧ Ch w (w.setCell ⟨hb, 5, none⟩ (.int .i64 t)) (fun k => k = hb) := by
  have c : Ch w (w.setCell ⟨hb, 5, none⟩ (.int .i64 t)) (fun k => k = hb) := (Ch.refl w (fun k => k = hb)).setCell (p := ⟨hb, 5, none⟩) (fun _ => rfl) _
  exact ⟨⟨⟨K.s.c.own c (K.s.c.ha.set 5 (.int .i64 t) { h with tk := t } rfl) rfl rfl K.s.c.sm.2 K.s.c.hw K.s.c.sw, K.s.pr.own K.s.c.ha c⟩, K.y.ch c (blk_ne K.y K.s.c.ha (by decide)), K.k.frame c (fun g e => by subst e; exact K.f _ (.inl rfl)), K.f, K.bb⟩, c⟩
theorem inTick1 (args : Array Value) (w : World) : (callFunc 41 args).run Tryz.prog w = .ok (.enter 41 args) w := LP.callFunc_in (fn := Tryz.f41) (by kernel_rfl) (by kernel_rfl) rfl args w
theorem inTick2 (args : Array Value) (w : World) : (callFunc 43 args).run Tryz.prog w = .ok (.enter 43 args) w := LP.callFunc_in (fn := Tryz.f43) (by kernel_rfl) (by kernel_rfl) rfl args w
def TickH (B : Nat) (w : World) (hb mb xb : Nat) (m : Nat) (gs : List Value) (n : Nat) (w' : World) : Prop := ∃ nb, WkE B hb mb xb nb ((n : Int) + 1) m gs (n + 1) w' ∧ Below B w w'
set_option maxHeartbeats 6400000 in
theorem HTick_any (K : Wk B w hb h mb l ps m gs xb x base lab ro lb z) (hm : m ≤ 1000) (ht : h.tk = (n : Int)) (hw : x.wh = 1) (hs : z.c.st = 0) (hg : z.g = []) (hbg : z.c.bg = 0) (hn : z.n = n) (hL : z.L = [(5, 4)]) (hn1 : n ≤ 1) (hf : ∀ p ∈ l, LT.isI p.2.freed) :
    Calls Tryz.prog 13 #[cptr hb] w fun e w' => e = .returned (.tuple #[]) ∧ TickH B w hb mb xb m gs n w' := by
  have hb1 : Below w.heap.size w (w.alloc (.cells #[cptr hb] 25)) := below_a w _
  have N1 : (w.alloc (.cells #[cptr hb] 25)).heap[w.heap.size]? = some (.cells #[cptr hb] 25 (0, 0)) := heap_alloc_new w _
  have K1 := K.below hb1
  have hnb : ro w.heap.size = 0 ∧ lab w.heap.size = 0 := ⟨K.k.new_ro (Nat.le_refl _), K.k.new_lab (Nat.le_refl _)⟩
  obtain ⟨K2, c2⟩ := K1.tick ((n : Int) + 1)
  have N2 := (c2.block w.heap.size (by simp) (blk_ne N1 K1.s.c.ha (by decide))).trans N1
  have HB2 : Hid (Below B w ((w.alloc (.cells #[cptr hb] 25)).setCell ⟨hb, 5, none⟩ (.int .i64 ((n : Int) + 1)))) := Lib.hid ((hb1.mono K.s.c.le).trans (chm_below c2 (fun k e _ => by subst e; exact K1.s.c.lo) K1.s.c.le))
  have a0 : (w.alloc (.cells #[cptr hb] 25)).cell? ⟨w.heap.size, 0, none⟩ = some (.pointer (some ⟨hb, 0, none⟩)) := by rw [cell_of_row _ w.heap.size 0 _ _ (0, 0) N1]; rfl
  have a5 := K1.s.c.ha.tk_
  have af5 := K1.s.c.ha.fz 5
  rw [ht] at a5
  have d0 : ((w.alloc (.cells #[cptr hb] 25)).setCell ⟨hb, 5, none⟩ (.int .i64 ((n : Int) + 1))).cell? ⟨w.heap.size, 0, none⟩ = some (.pointer (some ⟨hb, 0, none⟩)) := by rw [cell_of_row _ w.heap.size 0 _ _ (0, 0) N2]; rfl
  have hwr : IntKind.i64.wrap ((n : Int) + 1) = (n : Int) + 1 := by rw [IntKind.wrap_i64]; omega
  have bd := (Below.refl ((w.alloc (.cells #[cptr hb] 25)).setCell ⟨hb, 5, none⟩ (.int .i64 ((n : Int) + 1))).heap.size ((w.alloc (.cells #[cptr hb] 25)).setCell ⟨hb, 5, none⟩ (.int .i64 ((n : Int) + 1)))).drew
  have HK := Lib.hid (K2.below bd)
  have HTT := Lib.hid (LT.ttick_any (K2.below bd).s.c.tb hf (t := (n : Int) + 1) (by unfold LT.isI; omega))
  have HN2 := Lib.hid N2
  have HNB := Lib.hid hnb
  have HR := Lib.hid (And.intro hw (And.intro hs (And.intro hg (And.intro hbg (And.intro hn (And.intro hL (And.intro hn1 hm)))))))
  clear K K1 K2 hb1 N1 N2 hnb c2 hm ht hw hs hg hbg hn hL hn1 hf bd
  unfold LT.ptr at HTT
  have hmf : ∀ (fn : Fn) (first cap : Array Value) (w : World), (Instr.makeFunc fn first cap).run Tryz.prog w = .ok (.func fn first cap) w := fun _ _ _ _ => rfl
  unfold cptr at *
  go_enter Tryz.func13, Tryz.ntmps13
  go_wp2_with fail
  clear a0 a5 af5 hwr
  generalize hw2 : (w.alloc (.cells #[.pointer (some ⟨hb, 0, none⟩)] 25)).setCell ⟨hb, 5, none⟩ (.int .i64 ((n : Int) + 1)) = w2 at *
  generalize w.heap.size = nb at *
  clear hw2 d0
  have N2d : w2.drew.heap[nb]? = some (.cells #[.pointer (some ⟨hb, 0, none⟩)] 25 (0, 0)) := HN2.out
  have e0 : w2.drew.cell? ⟨nb, 0, none⟩ = some (.pointer (some ⟨hb, 0, none⟩)) ∧ w2.drew.cell? ⟨hb, 4, none⟩ = some (.pointer (some ⟨h.tb, 0, none⟩)) ∧ w2.drew.cell? ⟨hb, 5, none⟩ = some (.int .i64 ((n : Int) + 1)) :=
    ⟨by rw [cell_of_row w2.drew nb 0 _ _ (0, 0) N2d]; rfl, HK.out.s.c.ha.tb_, HK.out.s.c.ha.tk_⟩
  have HKE : Hid (∀ w3 l3, LT.Tb w3 h.tb mb 4 l3 → Ch w2.drew w3 (fun g => g = mb) → (WkE B hb mb xb nb ((n : Int) + 1) m gs n w3 ∧ Below B w w3) ∧ w3.cell? ⟨nb, 0, none⟩ = some (.pointer (some ⟨hb, 0, none⟩)) ∧ w3.cell? ⟨hb, 4, none⟩ = some (.pointer (some ⟨h.tb, 0, none⟩)) ∧ w3.cell? ⟨hb, 5, none⟩ = some (.int .i64 ((n : Int) + 1))) := Lib.hid (fun w3 l3 t3 c3 => by
    have K3 := HK.out.table t3 c3
    have N3 := (c3.block nb (Array.getElem?_eq_some_iff.1 N2d).1 (fun e => map_ne HK.out.s.c.tb.map N2d e.symm)).trans N2d
    have hr := HR.out
    refine ⟨⟨⟨⟨_, l3, ps, x, base, lab, ro, lb, z, 4, K3, HNB.out, rfl, hr.1, hr.2.1, hr.2.2.1, hr.2.2.2.1, hr.2.2.2.2.1, hr.2.2.2.2.2.1, rfl, by omega⟩, N3⟩, HB2.out.drew.trans (chm_below c3 (fun k e _ => by subst e; exact HK.out.s.c.tl.2) HK.out.s.c.le)⟩, by rw [cell_of_row w3 nb 0 _ _ (0, 0) N3]; rfl, K3.s.c.ha.tb_, K3.s.c.ha.tk_⟩)
  have HE1 := Lib.hid (fun W (k : WkE B hb mb xb nb ((n : Int) + 1) m gs n W) => each_any (nb := nb) inTick1 (cap := #[cptr nb]) (n' := n + 1) k HR.out.2.2.2.2.2.2.2 (fun W2 k2 b2 => tickOne_any k2 HR.out.2.2.2.2.2.2.1))
  have HE2 := Lib.hid (fun W (k : WkE B hb mb xb nb ((n : Int) + 1) m gs (n + 1) W) => each_any (nb := nb) inTick2 (cap := #[cptr nb]) (n' := n + 1) k HR.out.2.2.2.2.2.2.2 (fun W2 k2 b2 => tickTwo_any k2))
  unfold cptr at *
  clear HK HN2 HNB HR HB2 N2d
  generalize h.tb = tb at *
  go_region_held3 (fun V => V.cell? ⟨nb, 0, none⟩ = some (.pointer (some ⟨hb, 0, none⟩)) ∧ V.cell? ⟨hb, 4, none⟩ = some (.pointer (some ⟨tb, 0, none⟩)) ∧ V.cell? ⟨hb, 5, none⟩ = some (.int .i64 ((n : Int) + 1)))
    (first | exact e0 | exact e3 | trivial)
    (first | (go_at_call 39; refine HTT.out.mono ?_; rintro e w3 ⟨rfl, t3, c3⟩; have HQ := Lib.hid (HKE.out w3 _ t3 c3); have e3 := HQ.out.2))
  have e30 := e3.1
  have HE1' := Lib.hid (HE1.out w3 HQ.out.1.1)
  have HB3 := Lib.hid HQ.out.1.2
  clear e0 e3 t3 c3 HTT HKE HE1 HQ
  go_wp2_with fail
  refine HE1'.out.mono ?_
  rintro e w4 ⟨rfl, k4, b4⟩
  have e40 : w4.cell? ⟨nb, 0, none⟩ = some (.pointer (some ⟨hb, 0, none⟩)) := by rw [cell_of_row w4 nb 0 _ _ (0, 0) k4.nb_]; rfl
  have HE2' := Lib.hid (HE2.out w4 k4)
  have HB4 := Lib.hid (HB3.out.trans b4)
  clear k4 b4 HE1' HE2 e30
  go_wp2_with fail
  refine HE2'.out.mono ?_
  rintro e w5 ⟨rfl, k5, b5⟩
  have HQ : Hid (TickH B w hb mb xb m gs n w5) := Lib.hid ⟨nb, k5, HB4.out.trans b5⟩
  clear k5 b5 HE2' e40
  go_wp2_with fail
  go_end0
  exact ⟨rfl, HQ.out⟩
theorem HOut_any (s : Hc B w hb h mb l xs m gs) {A : Option Addr} {nn c : Nat} (e : h.sv = .slice A nn c) : Calls Tryz.prog 26 #[cptr hb] w fun e w' => e = .returned (.slice A nn c) ∧ w' = w.setCell ⟨hb, 8, none⟩ (.slice none 0 0) := by
  have c8 := s.ha.sv_
  have f8 := s.ha.fz 8
  rw [e] at c8
  clear s e
  unfold cptr
  go_enter Tryz.func26, Tryz.ntmps26
  go_wp2_with fail
  go_ret
  exact ⟨rfl, rfl⟩
end
set_option maxHeartbeats 6400000 in
theorem hwakes_any (w : World) (hT : LK.Tab w) : Calls Tryz.prog 5 #[] w fun e w' => e = .returned (.bool true) ∧ Below w.heap.size w w' := by
  have HN := Lib.hid (HNew_any 1 (by decide) w)
  have HTB : Hid (TB w.heap.size w) := Lib.hid (fun W b => hT.below b)
  clear hT
  unfold NewP cptr at HN
  rw [show ((1 : Nat) : Int) = 1 from rfl] at HN
  go_enter Tryz.func5, Tryz.ntmps5
  go_wp2_with fail
  refine HN.out.mono ?_
  rintro e w1 ⟨hb, tb, mb, rfl, s1, b1⟩
  have HC := Lib.hid (connect_any s1 (by decide) (by decide) (by decide) (show (0 : Int) ≤ 0 ∧ (0 : Int) ≤ 1000 by decide) (show (0 : Int) ≤ 0 ∧ (0 : Int) ≤ 1048560 by decide) (HTB.out.step b1))
  have HB1 := Lib.hid b1
  unfold cptr at HC
  clear s1 b1 HN
  go_wp2_with fail
  refine HC.out.mono ?_
  rintro e w2 hP
  rcases hP with ⟨v, d, ps', hne, _⟩ | ⟨xb, x, base, lab, ro, lb, z, k, pv, d, hv, sv, ps', q, rfl, P⟩
  · exact absurd rfl hne
  have K : Wk w.heap.size w2 hb { Hv.fresh 1 tb with pv := pv, dn := d, md := (Hv.fresh 1 tb).md + 1, hv := hv, sv := sv } mb ([] ++ [(LK.kt k, ⟨true, (Hv.fresh 1 tb).md + 1, 0⟩)]) ps' (0 + 1) ([] ++ q.vals) xb x base lab ro lb z :=
    ⟨P.s, P.y, P.wo, fun g hg => by
      rcases hg with hg | hg | hg | hg | hg | hg | hg
      · exact P.c2 g (.inl hg)
      · exact P.c2 g (.inr (.inl hg))
      · exact P.c2 g (.inr (.inr (.inl hg)))
      · exact P.c2 g (.inr (.inr (.inr (.inl hg))))
      · exact P.c2 g (.inr (.inr (.inr (.inr (.inl hg)))))
      · exact P.c2 g (.inr (.inr (.inr (.inr (.inr hg)))))
      · exact P.c g hg, P.bb⟩
  have HTI := Lib.hid (HTick_any (n := 0) K (by decide) rfl P.xe.2 P.zs.1 P.zs.2.2.2 P.zs.2.1 P.zs.2.2.1 P.zl (by decide) (fun p hp => by
    obtain rfl : p = _ := by simpa using hp
    show -9223372036854775808 ≤ (0 : Int) ∧ (0 : Int) ≤ 9223372036854775807
    decide))
  have HB2 := Lib.hid (HB1.out.trans P.b)
  have HQ1 := Lib.hid P.q1
  unfold cptr at HTI
  clear K P HC
  go_wp2_with fail
  refine HTI.out.mono ?_
  rintro e w3 ⟨rfl, nb, k3, b3⟩
  obtain ⟨⟨h3, l3, ps3, x3, base3, lab3, ro3, lb3, z3, mv, K3, _⟩, _⟩ := k3
  have r3 : w3.ownsRow w.heap.size 40 13 h3.sv 1 (sgv [q]) := by rw [sgv_one]; exact K3.s.c.sw
  obtain ⟨g, cap, hv3, hc1, hc2, hr⟩ := seg_one r3
  have HO := Lib.hid (HOut_any K3.s.c hv3)
  have hgc : g ≠ hb := by
    obtain ⟨cs, hc⟩ := ch_ownrow r3 (show h3.sv.ownBlock = some g by rw [hv3]; rfl)
    exact blk_ne hc K3.s.c.ha (by decide)
  have cc : Ch w3 (w3.setCell ⟨hb, 8, none⟩ (.slice none 0 0)) (fun k => k = hb) := (Ch.refl w3 (fun k => k = hb)).setCell (p := ⟨hb, 8, none⟩) (fun _ => rfl) _
  have x6 : (w3.setCell ⟨hb, 8, none⟩ (.slice none 0 0)).cell? ⟨g, 6, none⟩ = some (.bool true) := by
    have := cc.cell (hr 6 _ rfl) hgc
    rw [HQ1.out.1] at this
    exact this
  have x3' : (w3.setCell ⟨hb, 8, none⟩ (.slice none 0 0)).cell? ⟨g, 3, none⟩ = some (.int .i64 80) := by
    have := cc.cell (hr 3 _ rfl) hgc
    rw [HQ1.out.2] at this
    exact this
  have HB3 : Hid (Below w.heap.size w (w3.setCell ⟨hb, 8, none⟩ (.slice none 0 0))) := Lib.hid ((HB2.out.trans b3).trans (chm_below cc (fun k e _ => by subst e; exact K3.s.c.lo) K3.s.c.le))
  unfold cptr at HO
  clear K3 r3 hr cc b3 hv3 HTI hgc
  generalize w3.setCell ⟨hb, 8, none⟩ (.slice none 0 0) = w4 at *
  go_wp2_with (first
    | (go_at_call 26; refine HO.out.mono ?_; rintro e w5 ⟨rfl, rfl⟩)
    | fail)
  go_ret
  exact ⟨rfl, HB3.out⟩
end Go.Proofs.YtlcegchdkigibaaGreatDoor

namespace Go.Proofs.YtlcegchdkigibaaGreatDoor
set_option linter.unusedVariables false
set_option linter.unusedSimpArgs false
set_option maxRecDepth 20000
open Go.RowKit Go.ChangeShapes Go.WideShapes Go.Deep

/-- The cells are a segment's. -/
def Sw (vs : List Value) : Prop := ∃ s : Sgc, vs = s.vals ∧ isSl s.ov ∧ isSl s.dv
section
variable {H : Type} {enc : TypeId × Value → H} {w : World} {base : Nat} {held : Bool}
theorem slice_cell (t e : TypeId) (ht : Tryz.prog.underlying t = some (.slice e)) {fuel : Nat} {v : Value} {x : DataW H × List MemPlace} (h : DataW.trod enc Tryz.prog w base (fun _ => true) held fuel t [v] = some x) : ∃ A n c, v = .slice A n c := by
  rcases open_slice ht h with ⟨hcs, _⟩ | ⟨a, len, cap, m, k, D, Pl, hcs, _⟩
  · simp at hcs
    exact ⟨_, _, _, hcs⟩
  · simp at hcs
    exact ⟨_, _, _, hcs⟩
theorem sw_of_trod {fuel : Nat} {cs : List Value} {x : DataW H × List MemPlace} (hl : cs.length = 13) (h : DataW.trod enc Tryz.prog w base (fun _ => true) held fuel 40 cs = some x) : Sw cs := by
  obtain ⟨xs, n, _, _, _, hlen, hg⟩ := DataW.trod_struct Tryz.underlying40 h
  have get : ∀ (i : Nat), i < 13 → ∃ y, xs[i]? = some y := fun i hi => ⟨_, List.getElem?_eq_getElem (by rw [hlen]; exact hi)⟩
  match cs, hl with
  | [c0, c1, c2, c3, c4, c5, c6, c7, c8, c9, c10, c11, c12], _ =>
    obtain ⟨y0, e0⟩ := get 0 (by omega)
    have g0 := hg 0 _ rfl
    rw [e0] at g0
    obtain ⟨a0, q0, _, f0⟩ := DataW.trod_int Tryz.underlying3 g0
    obtain rfl : c0 = .int .i64 a0 := by have q : [c0] = _ := q0; injection q
    obtain ⟨y1, e1⟩ := get 1 (by omega)
    have g1 := hg 1 _ rfl
    rw [e1] at g1
    obtain ⟨a1, q1, _, f1⟩ := DataW.trod_int Tryz.underlying3 g1
    obtain rfl : c1 = .int .i64 a1 := by have q : [c1] = _ := q1; injection q
    obtain ⟨y2, e2⟩ := get 2 (by omega)
    have g2 := hg 2 _ rfl
    rw [e2] at g2
    obtain ⟨a2, q2, _, f2⟩ := DataW.trod_int Tryz.underlying3 g2
    obtain rfl : c2 = .int .i64 a2 := by have q : [c2] = _ := q2; injection q
    obtain ⟨y3, e3⟩ := get 3 (by omega)
    have g3 := hg 3 _ rfl
    rw [e3] at g3
    obtain ⟨a3, q3, _, f3⟩ := DataW.trod_int Tryz.underlying3 g3
    obtain rfl : c3 = .int .i64 a3 := by have q : [c3] = _ := q3; injection q
    obtain ⟨y4, e4⟩ := get 4 (by omega)
    have g4 := hg 4 _ rfl
    rw [e4] at g4
    obtain ⟨a4, q4, _, f4⟩ := DataW.trod_int Tryz.underlying36 g4
    obtain rfl : c4 = .int .u32 a4 := by have q : [c4] = _ := q4; injection q
    obtain ⟨y5, e5⟩ := get 5 (by omega)
    have g5 := hg 5 _ rfl
    rw [e5] at g5
    obtain ⟨a5, q5, _, f5⟩ := DataW.trod_int Tryz.underlying36 g5
    obtain rfl : c5 = .int .u32 a5 := by have q : [c5] = _ := q5; injection q
    obtain ⟨y6, e6⟩ := get 6 (by omega)
    have g6 := hg 6 _ rfl
    rw [e6] at g6
    obtain ⟨a6, q6, _⟩ := DataW.trod_bool Tryz.underlying4 g6
    obtain rfl : c6 = .bool a6 := by have q : [c6] = _ := q6; injection q
    obtain ⟨y7, e7⟩ := get 7 (by omega)
    have g7 := hg 7 _ rfl
    rw [e7] at g7
    obtain ⟨a7, q7, _⟩ := DataW.trod_bool Tryz.underlying4 g7
    obtain rfl : c7 = .bool a7 := by have q : [c7] = _ := q7; injection q
    obtain ⟨y8, e8⟩ := get 8 (by omega)
    have g8 := hg 8 _ rfl
    rw [e8] at g8
    obtain ⟨a8, q8, _⟩ := DataW.trod_bool Tryz.underlying4 g8
    obtain rfl : c8 = .bool a8 := by have q : [c8] = _ := q8; injection q
    obtain ⟨y9, e9⟩ := get 9 (by omega)
    have g9 := hg 9 _ rfl
    rw [e9] at g9
    obtain ⟨a9, q9, _⟩ := DataW.trod_bool Tryz.underlying4 g9
    obtain rfl : c9 = .bool a9 := by have q : [c9] = _ := q9; injection q
    obtain ⟨y10, e10⟩ := get 10 (by omega)
    have g10 := hg 10 _ rfl
    rw [e10] at g10
    obtain ⟨a10, q10, _, f10⟩ := DataW.trod_int Tryz.underlying3 g10
    obtain rfl : c10 = .int .i64 a10 := by have q : [c10] = _ := q10; injection q
    obtain ⟨y11, e11⟩ := get 11 (by omega)
    have g11 := hg 11 _ rfl
    rw [e11] at g11
    obtain ⟨oA, on, oc, rfl⟩ := slice_cell _ _ Tryz.underlying37 (v := c11) g11
    obtain ⟨y12, e12⟩ := get 12 (by omega)
    have g12 := hg 12 _ rfl
    rw [e12] at g12
    obtain ⟨dA, dn, dc, rfl⟩ := slice_cell _ _ Tryz.underlying38 (v := c12) g12
    obtain ⟨k4, rfl⟩ := Int.eq_ofNat_of_zero_le (Go.bounds_u32 f4).1
    obtain ⟨k5, rfl⟩ := Int.eq_ofNat_of_zero_le (Go.bounds_u32 f5).1
    exact ⟨⟨a0, a1, a2, a3, k4, k5, a6, a7, a8, a9, a10, .slice oA on oc, .slice dA dn dc⟩, rfl, ⟨_, _, _, rfl⟩, ⟨_, _, _, rfl⟩⟩
end
end Go.Proofs.YtlcegchdkigibaaGreatDoor

/- A path manager: Next. Conditions: the manager stands. -/
import Derived.Test.YtpkhalneclmoeaaPaF
namespace Go.Proofs.Ytpkhalneclmoeaa
set_option linter.unusedVariables false
set_option linter.unusedSimpArgs false
open Go.RowKit Go.Lib

/-- A row that a call answers out of its own block, and one value beside it (cut of layer 8's). -/
theorem results_c1 {P : Program} {fn : Func} {p q : Tmp} {ty : TypeId} (h : fn.results = #[.cell p ty, .tmp q]) (tmps : Array Value) (w : World) (g : Nat) (cs : List Value) (v : Value) (d : TypeDesc)
    (hp : tmps.getD p undef = .pointer (some ⟨g, 0, none⟩)) (hq : tmps.getD q undef = v) (hc : w.rangeAt g 0 cs) (hu : P.underlying ty = some d) (hd : d.isRow = true) (hi : (P.info? ty).map (·.size) = some cs.length) :
    (results fn tmps).run P w = .ok (.tuple #[.agg cs.toArray, v]) w := by
  have hp' : tmps[p]?.getD undef = .pointer (some ⟨g, 0, none⟩) := by simpa using hp
  have hq' : tmps[q]?.getD undef = v := by simpa using hq
  simp [results, h, hp', hq', asAddr, run_loadVar_mid w g 0 ty cs d hc hu hd hi]
/-- Block b, of type t, holds the cells vs. -/
def Bk (w : World) (b : Nat) (t : TypeId) (vs : List Value) : Prop := w.heap[b]? = some (.cells vs.toArray t (0, 0))
section
variable {w w' : World} {b : Nat} {t : TypeId} {vs : List Value}
theorem Bk.lt (h : Bk w b t vs) : b < w.heap.size := (Array.getElem?_eq_some_iff.1 h).1
theorem Bk.cell (h : Bk w b t vs) (j : Nat) : w.cell? ⟨b, j, none⟩ = vs[j]? := by rw [cell_of_row w b j _ _ (0, 0) h]; simp
theorem Bk.fz (h : Bk w b t vs) (j : Nat) : w.frozen? ⟨b, j, none⟩ = false := by simp [World.frozen?, show w.heap[b]? = _ from h]
theorem Bk.range (h : Bk w b t vs) : w.rangeAt b 0 vs := fun j v hv => by rw [Nat.zero_add, h.cell j, hv]
theorem Bk.ch (h : Bk w b t vs) {m : Nat → Prop} (k : Ch w w' m) (hb : ¬ m b) : Bk w' b t vs := (k.block b h.lt hb).trans h
theorem Bk.below (h : Bk w b t vs) (k : Below w.heap.size w w') : Bk w' b t vs := (k.block b h.lt).trans h
theorem Bk.drewN (h : Bk w b t vs) (n : Nat) : Bk (w.drewN n) b t vs := h
theorem Bk.new (w : World) (t : TypeId) (vs : List Value) : Bk (w.alloc (.cells vs.toArray t)) w.heap.size t vs := heap_alloc_new w _
theorem Bk.set (h : Bk w b t vs) (k : Nat) (v : Value) : Bk (w.setCell ⟨b, k, none⟩ v) b t (vs.set k v) := by
  have := h
  unfold Bk at *
  simp [World.setCell, Array.getElem?_modify, this]
theorem Bk.ne {a : Nat} {t' : TypeId} {us : List Value} (h : Bk w b t vs) (k : Bk w a t' us) (ht : t ≠ t') : b ≠ a := by
  rintro rfl
  have := Option.some.inj (Eq.trans (Eq.symm h) k)
  injection this with _ h2 _
  exact ht h2
end

def Pm.fre (p : Pm) : Nat → Nat → Bool := fun i j => (p.ow i && p.ot j) && !p.fl i j
def Pm.frs (p : Pm) : List (Int × Int) := prs p.fre 16
def Pm.nxB (p : Pm) : Bool := !p.full && decide (0 < p.frs.length)
def Pm.nxP (p : Pm) : Int × Int := if p.full = true then zp else p.frs.getD 0 zp

theorem inNext (args : Array Value) (w : World) : (callFunc 41 args).run Try.prog w = .ok (.enter 41 args) w := callFunc_in (fn := Try.f41) (by kernel_rfl) (by kernel_rfl) rfl args w
theorem nextc_any {w : World} {pb gb : Nat} {p : Pm} (h : St w pb p) (hc : w.cell? ⟨gb, 0, none⟩ = some (ptr pb)) {i j : Nat} (hi : i < 4) (hj : j < 4) : Calls Try.prog 41 #[pr (i : Int) (j : Int), .pointer (some ⟨gb, 0, none⟩)] w fun e w' => e = .returned (.bool (p.fre i j)) ∧ Below w.heap.size w w' := by
  have hb := below_a w (.cells #[.int .i64 (i : Int), .int .i64 (j : Int)] 45)
  have HB := Lib.hid hb
  have HK := Lib.hid (knows_any (h.below hb) hi hj)
  have HJ := Lib.hid (fun w' (b : Below w.heap.size w w') => joined_any (h.below b) hi hj)
  obtain ⟨y0, y1⟩ := cell2 w (.int .i64 (i : Int)) (.int .i64 (j : Int)) 45
  have hc1 := keepc hb hc
  have HE : Hid (p.fre i j = ((p.ow i && p.ot j) && !p.fl i j)) := Lib.hid rfl
  rw [HE.out]
  clear h hb hc HE
  generalize (p.ow i && p.ot j) = u at *
  generalize p.fl i j = v at *
  unfold ptr pr at *
  cases u
  · go_enter Try.func41, Try.ntmps41
    go_wp2_with fail
    refine (HK.out).mono ?_
    rintro e w1 ⟨rfl, b1⟩
    have HB1 := Lib.hid (HB.out.trans (b1.mono HB.out.size))
    clear b1 y0 y1 hc1
    go_wp2_with fail
    go_ret
    exact ⟨rfl, HB1.out⟩
  · go_enter Try.func41, Try.ntmps41
    go_wp2_with fail
    refine (HK.out).mono ?_
    rintro e w1 ⟨rfl, b1⟩
    have HB1 := Lib.hid (HB.out.trans (b1.mono HB.out.size))
    replace y0 := keepc b1 y0
    replace y1 := keepc b1 y1
    replace hc1 := keepc b1 hc1
    clear b1
    go_wp2_with fail
    refine (HJ.out _ HB1.out).mono ?_
    rintro e w2 ⟨rfl, b2⟩
    have HB2 := Lib.hid (HB1.out.trans (b2.mono HB1.out.size))
    clear b2 y0 y1 hc1
    go_wp2_with fail
    go_ret
    exact ⟨by simp, HB2.out⟩

theorem infoPair2 : (Try.prog.info? 45).map (·.size) = some 2 := by kernel_rfl
theorem set2_below {w w' : World} {r : Nat} (b : Below w.heap.size w w') (hr : w.heap.size ≤ r) (x y : Value) : Below w.heap.size w ((w'.setCell ⟨r, 0, none⟩ x).setCell ⟨r, 1, none⟩ y) :=
  (((Ch.of_below (fun k => k = r) b).then_ ch_set).then_ ch_set).below fun k hk e => by omega

set_option maxHeartbeats 1600000 in
theorem Next_any {w : World} {pb : Nat} {p : Pm} (h : St w pb p) : Calls Try.prog 23 #[ptr pb] w fun e w' => e = .returned (.tuple #[pr p.nxP.1 p.nxP.2, .bool p.nxB]) ∧ Below w.heap.size w w' := by
  have hb := below_a2 w (.cells #[ptr pb] 25) (.cells #[.int .i64 0, .int .i64 0] 45)
  have HB := Lib.hid hb
  have HF := Lib.hid (full_any (h.below hb))
  have hc0 := cell_old2 w (.cells #[.int .i64 0, .int .i64 0] 45) (ptr pb) 25
  have r0 : Bk ((w.alloc (.cells #[ptr pb] 25)).alloc (.cells #[.int .i64 0, .int .i64 0] 45)) (w.heap.size + 1) 45 [.int .i64 0, .int .i64 0] := by
    have := Bk.new (w.alloc (.cells #[ptr pb] 25)) 45 [.int .i64 0, .int .i64 0]
    rw [show (w.alloc (.cells #[ptr pb] 25)).heap.size = w.heap.size + 1 from by simp] at this
    exact this
  have HN := Lib.hid (fun w' (b : Below w.heap.size w w') (hc : w'.cell? ⟨w.heap.size, 0, none⟩ = some (ptr pb)) => pairs_any (w := w') (F := 41) (fs := #[]) (cs := #[.pointer (some ⟨w.heap.size, 0, none⟩)]) (g := p.fre) inNext fun w2 b2 i j hi hj => nextc_any ((h.below b).below b2) (keepc b2 hc) hi hj)
  have hmf : ∀ (fn : Fn) (first cap : Array Value) (w : World), (Instr.makeFunc fn first cap).run Try.prog w = .ok (.func fn first cap) w := fun _ _ _ _ => rfl
  have HP : Hid (p.nxP = if p.full = true then zp else p.frs.getD 0 zp) := Lib.hid rfl
  have HBB : Hid (p.nxB = (!p.full && decide (0 < p.frs.length))) := Lib.hid rfl
  have HFR : Hid (prs p.fre 16 = p.frs) := Lib.hid rfl
  rw [HFR.out] at HN
  generalize p.nxP = nP at *
  generalize p.nxB = nB at *
  generalize p.frs = l at *
  clear h hb HFR
  unfold ptr at *
  cases hf : p.full
  · rw [hf] at HF HP HBB
    clear hf
    go_enter Try.func23, Try.ntmps23
    go_wp2_with fail
    refine (HF.out).mono ?_
    rintro e w1 ⟨rfl, b1⟩
    have HB1 := Lib.hid (HB.out.trans (b1.mono HB.out.size))
    have HN1 := Lib.hid (HN.out w1 HB1.out (keepc b1 hc0))
    have R1 := Lib.hid (r0.below b1)
    replace hc0 := keepc b1 hc0
    clear b1 HN HF r0
    go_wp2_with fail
    refine (HN1.out).mono ?_
    rintro e w2 ⟨A, n, c, rfl, o2, b2⟩
    have hn := own_pairs o2
    obtain ⟨hn1, hn2, hn3⟩ := hn
    have R2 := Lib.hid (R1.out.below b2)
    have HB2 := Lib.hid (HB1.out.trans (b2.mono HB1.out.size))
    have HS := Lib.hid (PS.of_own o2)
    clear o2 b2 hc0 HN1
    by_cases h0 : n = 0
    · subst h0
      obtain rfl := List.eq_nil_of_length_eq_zero hn1
      obtain rfl : nP = zp := HP.out
      obtain rfl : nB = false := HBB.out
      have q0 : w2.cell? ⟨w.heap.size + 1, 0, none⟩ = some (.int .i64 0) := R2.out.cell 0
      have q1 : w2.cell? ⟨w.heap.size + 1, 1, none⟩ = some (.int .i64 0) := R2.out.cell 1
      have z0 := R2.out.fz 0
      have z1 := R2.out.fz 1
      go_wp2_with fail
      refine bodyPost_ret (results_c1 rfl _ _ (w.heap.size + 1) [.int .i64 0, .int .i64 0] (.bool false) _ rfl rfl ((R2.out.set 0 (.int .i64 0)).set 1 (.int .i64 0)).range Try.underlying45 rfl infoPair2) rfl ⟨rfl, set2_below HB2.out (Nat.le_succ _) _ _⟩
    · have h0' : ¬ (n : Int) = 0 := by omega
      have h0b : ((n : Int) == 0) = false := by simpa using h0'
      obtain ⟨A', c', he, hps⟩ := HS.out
      obtain ⟨rfl, rfl⟩ : A = A' ∧ c = c' := by injection he with e1 _ e2; exact ⟨e1, e2⟩
      obtain ⟨g, o, rfl, k0, k1⟩ := hps.at_ (show 0 < n by omega)
      rw [Nat.zero_mul, Nat.add_zero] at k0 k1
      obtain rfl : nP = l.getD 0 zp := HP.out
      obtain rfl : nB = true := HBB.out.trans (by simp; omega)
      have q0 : w2.cell? ⟨w.heap.size + 1, 0, none⟩ = some (.int .i64 0) := R2.out.cell 0
      have q1 : w2.cell? ⟨w.heap.size + 1, 1, none⟩ = some (.int .i64 0) := R2.out.cell 1
      have z0 := R2.out.fz 0
      have z1 := R2.out.fz 1
      have hcp : 0 < c := by omega
      have hn0 : 0 < n := by omega
      clear HP HBB HS hps he
      generalize hx : l.getD 0 zp = x at *
      have HX := Lib.hid hx
      clear hx
      go_wp2_with fail
      refine bodyPost_ret (results_c1 rfl _ _ (w.heap.size + 1) [.int .i64 x.1, .int .i64 x.2] (.bool true) _ rfl rfl ((R2.out.set 0 (.int .i64 x.1)).set 1 (.int .i64 x.2)).range Try.underlying45 rfl infoPair2) rfl ⟨by rw [HX.out]; rfl, set2_below HB2.out (Nat.le_succ _) _ _⟩
  · rw [hf] at HF HP HBB
    obtain rfl : nP = zp := HP.out
    obtain rfl : nB = false := HBB.out
    clear hf HN
    go_enter Try.func23, Try.ntmps23
    go_wp2_with fail
    refine (HF.out).mono ?_
    rintro e w1 ⟨rfl, b1⟩
    have HB1 := Lib.hid (HB.out.trans (b1.mono HB.out.size))
    have R2 := Lib.hid (r0.below b1)
    have q0 : w1.cell? ⟨w.heap.size + 1, 0, none⟩ = some (.int .i64 0) := R2.out.cell 0
    have q1 : w1.cell? ⟨w.heap.size + 1, 1, none⟩ = some (.int .i64 0) := R2.out.cell 1
    have z0 := R2.out.fz 0
    have z1 := R2.out.fz 1
    clear b1 HF r0 hc0
    go_wp2_with fail
    refine bodyPost_ret (results_c1 rfl _ _ (w.heap.size + 1) [.int .i64 0, .int .i64 0] (.bool false) _ rfl rfl ((R2.out.set 0 (.int .i64 0)).set 1 (.int .i64 0)).range Try.underlying45 rfl infoPair2) rfl ⟨rfl, set2_below HB1.out (Nat.le_succ _) _ _⟩
end Go.Proofs.Ytpkhalneclmoeaa

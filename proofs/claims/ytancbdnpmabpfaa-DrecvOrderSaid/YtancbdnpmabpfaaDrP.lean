/- The law DrecvOrder. Conditions: the bytes lie where the slices say. -/
import Derived.Test.YtancbdnpmabpfaaDrO
import Derived.Deep.LoopGhost
namespace Go.Proofs.Ytancbdnpmabpfaa
set_option linter.unusedVariables false
set_option linter.unusedSimpArgs false
open Go.RowKit Go.Lib

theorem cntn_le (b : Nat → Bool) : ∀ n : Nat, 0 ≤ cntn b n ∧ cntn b n ≤ (n : Int)
  | 0 => ⟨Int.le_refl _, Int.le_refl _⟩
  | n + 1 => by
    have := cntn_le b n
    show 0 ≤ cntn b n + _ ∧ cntn b n + _ ≤ _
    split <;> omega
theorem tot_le (d : Dr) : 0 ≤ tot d ∧ tot d ≤ 40 := cntn_le _ 40
theorem readN_readN (d : Dr) (a b : Nat) : (d.readN a).readN b = d.readN (a + b) := by
  unfold Dr.readN
  simp only [Nat.add_assoc]
/-- All came, and the end was told. -/
structure Dn (b : List UInt8) (d : Dr) : Prop where
  nx : d.nx = b.length + 1
  en : d.en = b.length + 1
  rd : d.rd = 0
  dat : d.dat = b
section
variable {b : List UInt8} {d : Dr}
theorem Pc.dn (h : Pc b d) (hok : d.ok) (hb : b.length ≤ 32) (hn : d.nx = b.length + 1) (hd : ∀ i, i < b.length → (d.M (1 + i)).getD 0 = b.getD i 0) : Dn b (d.tell ((b.length + 1 : Nat) : Int)) := by
  have hm := h.may hok hb hn
  unfold Dr.tell
  rw [if_pos hm]
  refine ⟨hn, by show (((b.length + 1 : Nat) : Int)).toNat = _; omega, h.rd, ?_⟩
  show datM d.M d.rd d.nx = b
  rw [h.rd, hn]
  apply List.ext_getElem
  · rw [datM_length]; omega
  · intro i i1 i2
    have h3 := datM_getD d.M 0 (b.length + 1) i (by omega)
    rw [show 0 + 1 + i = 1 + i from by omega, hd i i2, List.getD_eq_getElem?_getD, List.getElem?_eq_getElem i1, List.getD_eq_getElem?_getD, List.getElem?_eq_getElem i2] at h3
    exact h3
theorem Dn.held (h : Dn b d) (i : Nat) : (d.readN i).held = b.length - i := by
  unfold Dr.held Dr.readN
  simp only [h.nx, h.rd]
  omega
theorem Dn.got (h : Dn b d) {i : Nat} (hi : i ≤ b.length) : (d.readN i).most 3 = min 3 (b.length - i) ∧ (d.readN i).got 3 = (b.drop i).take (min 3 (b.length - i)) := by
  have h0 := h.held 0
  have hh : d.held = b.length := by rw [show d.held = (d.readN 0).held from rfl, h0]; omega
  have hm : (d.readN i).most 3 = min 3 (b.length - i) := by
    unfold Dr.most
    rw [h.held i]
    rfl
  refine ⟨hm, ?_⟩
  unfold Dr.got
  rw [hm, Dr.dat_readN d (by omega), h.dat]
theorem Dn.err (h : Dn b d) {i : Nat} (hi : i ≤ b.length) : (i < b.length → (d.readN i).err = 0) ∧ (i = b.length → (d.readN i).err = 11) := by
  have hh := h.held i
  refine ⟨fun hl => ?_, fun hl => ?_⟩
  · unfold Dr.err
    rw [if_pos (by omega)]
  · unfold Dr.err
    rw [if_neg (by omega), if_pos (show (d.readN i).nx = (d.readN i).en from by show d.nx = d.en; rw [h.nx, h.en])]
end
section
variable {W w w' : World} {rb : Nat} {z z' : Sh} {d d' : Dr} {bb rx nb n : Nat} {u : Value}
/-- A row of the law's own has grown. -/
theorem Ors.grown (h : Ors W w rb z d bb rx nb u n) {v : Value} (g : w.grownBy w' v.ownBlock) (hv : ∀ k, v.ownBlock = some k → W.heap.size ≤ k ∧ ¬ z.T rb k ∧ k ≠ bb ∧ k ≠ rx ∧ k ≠ nb) : Ors W w' rb z d bb rx nb u n := by
  have c : Ch w w' (fun k => v.ownBlock = some k) := Ch.grown (m := fun k => v.ownBlock = some k) (Ch.refl w _) g (fun k e _ => e)
  refine ⟨⟨h.s.s.frame c (fun k hk e => (hv k e).2.1 hk), ((Ch.of_below (fun k => v.ownBlock = some k) h.s.bel).then_ c).below (fun x hx e => by have := (hv x e).1; omega)⟩, h.xb.ch c (fun e => (hv _ e).2.2.1 rfl), h.xr.ch c (fun e => (hv _ e).2.2.2.1 rfl), h.xn.ch c (fun e => (hv _ e).2.2.2.2 rfl)⟩
end

set_option maxRecDepth 20000 in
set_option maxHeartbeats 12800000 in
theorem Order_law (A : Option Addr) (L c : Nat) (b : List UInt8) (B : Option Addr) (m c' : Nat) (od : List UInt8) (sz : Nat) (W : World) (hA : RB W A L c b) (hB : RB W B m c' od) (hs : sz < 256) : Calls Try.prog 4 #[.slice A L c, .slice B m c', .int .u8 (sz : Int)] W (Held W) := by
  have HW := Lib.hid (fun w => wakes_any w)
  have HA := Lib.hid hA
  have HB := Lib.hid hB
  have hla := hA.len
  have hca := hA.cap
  have hcb := hB.cap
  have hmb := hB.max
  have hbl := below_a W (.cells #[.slice A L c] 28)
  have hc0 : (W.alloc (.cells #[.slice A L c] 28)).cell? ⟨W.heap.size, 0, none⟩ = some (.slice A L c) := cell_new W _ _
  have hsz1 : (W.alloc (.cells #[.slice A L c] 28)).heap.size = W.heap.size + 1 := by simp
  have HBL := Lib.hid hbl
  have HSZ := Lib.hid hsz1
  clear hA hB hbl hsz1
  by_cases hno : 32 < L ∨ 60 < m
  · rcases hno with h | h
    · have h' : (32 : Int) < (L : Int) := by omega
      clear h
      go_enter Try.func4, Try.ntmps4
      go_upto_region 1 with (fail)
      generalize W.alloc (.cells #[.slice A L c] 28) = w1 at *
      go_wp2_with fail
      refine (HW.out _).mono ?_
      rintro e w2 ⟨rfl, b2⟩
      have HB2 := Lib.hid (HBL.out.trans (b2.mono HBL.out.size))
      have c2 := keepc b2 hc0
      clear b2
      go_wp2_with fail
      go_ret
      exact ⟨rfl, HB2.out⟩
    · by_cases h2 : 32 < L
      · have h' : (32 : Int) < (L : Int) := by omega
        clear h h2
        go_enter Try.func4, Try.ntmps4
        go_upto_region 1 with (fail)
        generalize W.alloc (.cells #[.slice A L c] 28) = w1 at *
        go_wp2_with fail
        refine (HW.out _).mono ?_
        rintro e w2 ⟨rfl, b2⟩
        have HB2 := Lib.hid (HBL.out.trans (b2.mono HBL.out.size))
        have c2 := keepc b2 hc0
        clear b2
        go_wp2_with fail
        go_ret
        exact ⟨rfl, HB2.out⟩
      · have h1' : ¬ (32 : Int) < (L : Int) := by omega
        have h2' : (60 : Int) < (m : Int) := by omega
        clear h h2
        go_enter Try.func4, Try.ntmps4
        go_upto_region 1 with (fail)
        generalize W.alloc (.cells #[.slice A L c] 28) = w1 at *
        go_wp2_with fail
        refine (HW.out _).mono ?_
        rintro e w2 ⟨rfl, b2⟩
        have HB2 := Lib.hid (HBL.out.trans (b2.mono HBL.out.size))
        have c2 := keepc b2 hc0
        clear b2
        go_wp2_with fail
        go_ret
        exact ⟨rfl, HB2.out⟩
  · have h1' : ¬ (32 : Int) < (L : Int) := by omega
    have h2' : ¬ (60 : Int) < (m : Int) := by omega
    obtain ⟨p, hp⟩ : ∃ p, p = sz % 8 := ⟨_, rfl⟩
    have hpl : p < 8 := by omega
    have htm : (sz : Int).tmod 8 = (p : Int) := by rw [hp]; rfl
    have hem : (sz : Int) % 8 = (p : Int) := by omega
    have hw0 : IntKind.i64.wrap (sz : Int) = (sz : Int) := by rw [IntKind.wrap_i64]; omega
    obtain ⟨n, hn⟩ : ∃ n, n = 1 + p := ⟨_, rfl⟩
    have hw1 : IntKind.i64.wrap (1 + (p : Int)) = (n : Int) := by rw [IntKind.wrap_i64]; omega
    have hw2 : IntKind.i64.wrap ((L : Int) + (n : Int)) = ((L + n : Nat) : Int) := by rw [IntKind.wrap_i64]; omega
    have hw3 : IntKind.i64.wrap (((L + n : Nat) : Int) - 1) = ((L + n - 1 : Nat) : Int) := by rw [IntKind.wrap_i64]; omega
    obtain ⟨P, hP⟩ : ∃ P, P = (L + n - 1) / n := ⟨_, rfl⟩
    have htd : ((L + n - 1 : Nat) : Int).tdiv (n : Int) = (P : Int) := by rw [hP]; rfl
    have hPL : P ≤ 40 := by rw [hP]; exact Nat.le_trans (Nat.div_le_self _ _) (by omega)
    have hwP : IntKind.i64.wrap (P : Int) = (P : Int) := by rw [IntKind.wrap_i64]; omega
    have hn0 : ¬ (n : Int) = 0 := by omega
    have hn0b : ((n : Int) == 0) = false := by simpa using hn0
    have HDL : Hid (∀ k, k < P → k * n < L) := Lib.hid (fun k hk => div_lt (by omega) (by rw [← hP]; exact hk))
    have HDG : Hid (L ≤ P * n) := Lib.hid (by rw [hP]; exact div_ge (by omega))
    have HN := Lib.hid (And.intro hn (And.intro hpl (And.intro hPL (And.intro hla hno))))
    have hmf : ∀ (fn : Fn) (first cap : Array Value) (w : World), (Instr.makeFunc fn first cap).run Try.prog w = .ok (.func fn first cap) w := fun _ _ _ _ => rfl
    clear hp hpl hn hP hPL hla hno
    generalize hLn : L + n = Ln at *
    generalize hLn1 : Ln - 1 = Ln1 at *
    clear hLn hLn1
    go_enter Try.func4, Try.ntmps4
    go_upto_region 1 with (fail)
    obtain ⟨bb, hbb⟩ : ∃ bb, bb = W.heap.size := ⟨_, rfl⟩
    have HBBE := Lib.hid hbb
    rw [← hbb] at hc0 ⊢
    clear hbb
    generalize W.alloc (.cells #[.slice A L c] 28) = w1 at *
    go_wp2_with fail
    refine (HW.out _).mono ?_
    rintro e w2 ⟨rfl, b2⟩
    have HB2 := Lib.hid (HBL.out.trans (b2.mono HBL.out.size))
    have c2 := keepc b2 hc0
    have HBB2 : Hid (bb < w2.heap.size) := Lib.hid (by have := HSZ.out; have := b2.size; have := HBBE.out; omega)
    have HN2 := Lib.hid (new_sv W w2 HB2.out)
    clear b2 hc0
    go_wp2_with fail
    refine (HN2.out).mono ?_
    rintro e w3 ⟨rb, z3, rfl, S3, lo3, b3⟩
    have HS3 := Lib.hid S3
    have c3 := keepc b3 c2
    have HFB : Hid (bb < w3.heap.size ∧ ¬ z3.T rb bb) := Lib.hid ⟨Nat.lt_of_lt_of_le HBB2.out b3.size, fun e => by have := lo3 bb e; have := HBB2.out; omega⟩
    clear S3 lo3 b3 c2 HN2
    unfold ptr at *
    go_upto_region 7 with (fail)
    have HO5 : Hid (Ors W ((w3.alloc (.cells #[.pointer (some ⟨rb, 0, none⟩)] 24)).alloc (.cells #[.int .i64 (n : Int)] 3)) rb z3 Dr.new bb w3.heap.size (w3.heap.size + 1) (.slice A L c) n) := by
      have hb2 : Below w3.heap.size w3 ((w3.alloc (.cells #[.pointer (some ⟨rb, 0, none⟩)] 24)).alloc (.cells #[.int .i64 (n : Int)] 3)) := below_a2 w3 _ _
      have hss : ((w3.alloc (.cells #[.pointer (some ⟨rb, 0, none⟩)] 24)).alloc (.cells #[.int .i64 (n : Int)] 3)).heap.size = w3.heap.size + 2 := by simp
      refine Lib.hid ⟨HS3.out.below hb2, ⟨by have := HFB.out.1; omega, HFB.out.2, keepc hb2 c3⟩, ⟨by omega, fun e => by have := (HS3.out.s.w.in_ e).2; omega, cell_old2 w3 _ _ _⟩, ⟨by omega, fun e => by have := (HS3.out.s.w.in_ e).2; omega, cell_new2 w3 _ _ _⟩⟩
    have HBN : Hid (bb ≠ w3.heap.size + 1) := Lib.hid (by have := HFB.out.1; omega)
    obtain ⟨rx, hrx⟩ : ∃ rx, rx = w3.heap.size := ⟨_, rfl⟩
    obtain ⟨nb, hnb⟩ : ∃ nb, nb = w3.heap.size + 1 := ⟨_, rfl⟩
    rw [← hnb, ← hrx] at HO5 ⊢
    clear hrx hnb c3 HBN HFB HS3
    generalize (w3.alloc (.cells #[.pointer (some ⟨rb, 0, none⟩)] 24)).alloc (.cells #[.int .i64 (n : Int)] 3) = w5 at *
    have xb : w5.cell? ⟨bb, 0, none⟩ = some (.slice A L c) := HO5.out.xb.c
    have xn : w5.cell? ⟨nb, 0, none⟩ = some (.int .i64 (n : Int)) := HO5.out.xn.c
    go_wp2_with fail
    clear hw0 hw1 hw2 hw3 htm hem htd hwP hn0 hn0b
    go_loopw [11, 43] (fun mx ix wr => ∃ (j : Nat) (T : Int) (z : Sh) (d : Dr), mx = .int .i64 T ∧ ix = .int .i64 (j : Int) ∧ T = tot d ∧ j ≤ m ∧ d.t ≤ j ∧ Pc b d ∧ Ors W wr rb z d bb rx nb (.slice A L c) n) (fun _ ix _ => m - (intOf ix).toNat)
    case atStart => exact ⟨0, 0, z3, Dr.new, rfl, rfl, tot_new.symm, Nat.zero_le _, Nat.le_refl _, Pc.new b, HO5.out⟩
    case round =>
      obtain ⟨j, T, z6, d, rfl, rfl, hT, hj, ht, hpc, O6⟩ := hrel
      have HO6 := Lib.hid O6
      have HT := Lib.hid (And.intro hT (And.intro hj ht))
      have HPC := Lib.hid hpc
      clear hT hj ht hpc O6 xb xn HO5
      by_cases hjm : j < m
      · have hjI : (j : Int) < (m : Int) := by omega
        have HJ := Lib.hid hjm
        obtain ⟨g, o, rfl, xc⟩ := (HB.out.below HO6.out.s.bel).at_ hjm
        have hob : (od.getD j 0).toNat < 256 := (od.getD j 0).toNat_lt
        generalize (od.getD j 0).toNat = ov at *
        clear hjm
        by_cases hP0 : P = 0
        · have hPI : ¬ (0 : Int) < (P : Int) := by omega
          go_wp2_with fail
          go_roundw
          case rel => exact ⟨j + 1, T, z6, d, rfl, by go_num, HT.out.1, by have := HJ.out; omega, by have := HT.out.2.2; omega, HPC.out, HO6.out⟩
          case measure => have := HJ.out; simp [intOf]; omega
        · have hPI : (0 : Int) < (P : Int) := by omega
          have hPne : ¬ (P : Int) = 0 := by omega
          have hPneb : ((P : Int) == 0) = false := by simpa using hPne
          have hwo : IntKind.i64.wrap (ov : Int) = (ov : Int) := by rw [IntKind.wrap_i64]; omega
          obtain ⟨r, hr⟩ : ∃ r, r = ov % P := ⟨_, rfl⟩
          have hrP : r < P := by rw [hr]; exact Nat.mod_lt _ (by omega)
          have hto : (ov : Int).tmod (P : Int) = (r : Int) := by rw [hr]; rfl
          have hwr : IntKind.i64.wrap (r : Int) = (r : Int) := by have := HN.out; rw [IntKind.wrap_i64]; omega
          have hkn := HDL.out r hrP
          have HPI := Lib.hid (piece_any HO6.out (HA.out.below HO6.out.s.bel) (k := r) (kn := r * n) (q := min L (r * n + n)) rfl rfl (by omega) (by have := HN.out; omega) (by have := HN.out; omega) (by have := HN.out; omega) (by have := HT.out.2.2; have := HT.out.2.1; have := HN.out; omega))
          have HPT : Hid (Pc b (d.put ((1 + r * n : Nat) : Int) (piece b (r * n) (min L (r * n + n)))) ∧ tot (d.put ((1 + r * n : Nat) : Int) (piece b (r * n) (min L (r * n + n)))) = tot d + (d.hits ((1 + r * n : Nat) : Int) (piece b (r * n) (min L (r * n + n))).length : Int) ∧ (d.put ((1 + r * n : Nat) : Int) (piece b (r * n) (min L (r * n + n)))).t ≤ j + 1) := Lib.hid ⟨HPC.out.put (by omega) (by have := HN.out; omega), tot_put HO6.out.s.s.ok HPC.out.rd HPC.out.en _ _, Nat.succ_le_succ HT.out.2.2⟩
          clear hr hrP hkn hP0
          generalize d.put ((1 + r * n : Nat) : Int) (piece b (r * n) (min L (r * n + n))) = d9 at *
          generalize d.hits ((1 + r * n : Nat) : Int) (piece b (r * n) (min L (r * n + n))).length = hh at *
          obtain ⟨T9, hT9⟩ : ∃ T9, T9 = tot d9 := ⟨_, rfl⟩
          have hwT : IntKind.i64.wrap (T + (hh : Int)) = T9 := by
            have h1 := HPT.out.2.1
            have h2 := tot_le d9
            have h3 := HT.out.1
            rw [IntKind.wrap_i64]
            omega
          have HT9 := Lib.hid hT9
          unfold ptr at HPI
          clear hT9
          go_wp2_with fail
          refine (HPI.out).mono ?_
          rintro e w9 ⟨z9, rfl, O9, -⟩
          have HO9 := Lib.hid O9
          clear O9 HPI xc
          go_wp2_with fail
          go_roundw
          case rel => exact ⟨j + 1, T9, z9, d9, rfl, by go_num, HT9.out, by have := HJ.out; omega, HPT.out.2.2, HPT.out.1, HO9.out⟩
          case measure => have := HJ.out; simp [intOf]; omega
      · obtain rfl : j = m := by have := HT.out.2.1; omega
        clear hjm
        go_wp2_with fail
        go_loopw [11, 59] (fun mx ix wr => ∃ (k : Nat) (T : Int) (z : Sh) (d : Dr), mx = .int .i64 T ∧ ix = .int .i64 (k : Int) ∧ T = tot d ∧ k ≤ P ∧ d.t ≤ j + k ∧ Pc b d ∧ (∀ i, 1 ≤ i → i ≤ k * n → i ≤ L → (d.M i).isSome = true) ∧ Ors W wr rb z d bb rx nb (.slice A L c) n) (fun _ ix _ => P - (intOf ix).toNat)
        case atStart => exact ⟨0, T, z6, d, rfl, rfl, HT.out.1, Nat.zero_le _, HT.out.2.2, HPC.out, fun i h1 h2 _ => by rw [Nat.zero_mul] at h2; omega, HO6.out⟩
        case round =>
          obtain ⟨k, T7, z7, d7, rfl, rfl, hT7, hk, ht7, hpc7, hcm7, O7⟩ := hrel
          have HO7 := Lib.hid O7
          have HT7 := Lib.hid (And.intro hT7 (And.intro hk ht7))
          have HPC7 := Lib.hid hpc7
          have HCM7 := Lib.hid hcm7
          clear hT7 hk ht7 hpc7 hcm7 O7 HO6 HPC HT
          by_cases hkP : k < P
          · have hkI : (k : Int) < (P : Int) := by omega
            have hPL := HN.out.2.2.1
            have HK := Lib.hid hkP
            have hkn := HDL.out k hkP
            have HPI := Lib.hid (piece_any HO7.out (HA.out.below HO7.out.s.bel) (k := k) (kn := k * n) (q := min L (k * n + n)) rfl rfl (by omega) (by have := HN.out; omega) (by have := HN.out; omega) (by have := HN.out; omega) (by have := HT7.out.2.2; have := HT7.out.2.1; have := HN.out; omega))
            have HPT : Hid (Pc b (d7.put ((1 + k * n : Nat) : Int) (piece b (k * n) (min L (k * n + n)))) ∧ tot (d7.put ((1 + k * n : Nat) : Int) (piece b (k * n) (min L (k * n + n)))) = tot d7 + (d7.hits ((1 + k * n : Nat) : Int) (piece b (k * n) (min L (k * n + n))).length : Int) ∧ (d7.put ((1 + k * n : Nat) : Int) (piece b (k * n) (min L (k * n + n)))).t ≤ j + (k + 1) ∧ ∀ i, 1 ≤ i → i ≤ (k + 1) * n → i ≤ L → ((d7.put ((1 + k * n : Nat) : Int) (piece b (k * n) (min L (k * n + n)))).M i).isSome = true) := Lib.hid ⟨HPC7.out.put (by omega) (by have := HN.out; omega), tot_put HO7.out.s.s.ok HPC7.out.rd HPC7.out.en _ _, Nat.succ_le_succ HT7.out.2.2, fun i h1 h2 h3 => by
              rw [Nat.succ_mul] at h2
              rcases Nat.lt_or_ge (k * n) i with h4 | h4
              · exact HPC7.out.came (by have := HN.out; omega) (by omega) (by have := HN.out; omega) (by omega) (by omega)
              · exact came_old (HCM7.out i h1 h4 h3)⟩
            clear hkn hkP
            generalize d7.put ((1 + k * n : Nat) : Int) (piece b (k * n) (min L (k * n + n))) = d9 at *
            generalize d7.hits ((1 + k * n : Nat) : Int) (piece b (k * n) (min L (k * n + n))).length = hh at *
            obtain ⟨T9, hT9⟩ : ∃ T9, T9 = tot d9 := ⟨_, rfl⟩
            have hwT : IntKind.i64.wrap (T7 + (hh : Int)) = T9 := by
              have h1 := HPT.out.2.1
              have h2 := tot_le d9
              have h3 := HT7.out.1
              rw [IntKind.wrap_i64]
              omega
            have HT9 := Lib.hid hT9
            unfold ptr at HPI
            clear hT9
            go_wp2_with fail
            refine (HPI.out).mono ?_
            rintro e w9 ⟨z9, rfl, O9, -⟩
            have HO9 := Lib.hid O9
            clear O9 HPI
            go_wp2_with fail
            go_roundw
            case rel => exact ⟨k + 1, T9, z9, d9, rfl, by go_num, HT9.out, by have := HK.out; omega, HPT.out.2.2.1, HPT.out.1, HPT.out.2.2.2, HO9.out⟩
            case measure => have := HK.out; simp [intOf]; omega
          · obtain rfl : k = P := by have := HT7.out.2.1; omega
            have hLb : b.length = L := HN.out.2.2.2.1
            have hL32 : L ≤ 32 := by have := HN.out; omega
            obtain ⟨f1, f2, f3⟩ := HPC7.out.all HO7.out.s.s.ok (by omega) (fun i h1 h2 => HCM7.out i h1 (by have := HDG.out; omega) (by omega))
            have hmay := HPC7.out.may HO7.out.s.s.ok (by omega) f2
            have hdn := HPC7.out.dn HO7.out.s.s.ok (by omega) f2 f3
            rw [hLb] at hmay hdn f1
            obtain rfl : T7 = (L : Int) := by rw [HT7.out.1, f1]
            have HDN := Lib.hid hdn
            have HEN := Lib.hid (fun (w : World) (h : Sv W w rb z7 d7) => End_any h.s ((L + 1 : Nat) : Int))
            have HEN : Hid (∀ (w : World), Sv W w rb z7 d7 → Calls Try.prog 15 #[.pointer (some ⟨rb, 0, none⟩), .int .i64 ((L + 1 : Nat) : Int)] w fun e w' => e = .returned (.bool true) ∧ Sv W w' rb z7 (d7.tell ((L + 1 : Nat) : Int)) ∧ Mv w rb z7 w' z7) := Lib.hid (fun w h => (HEN.out w h).mono fun e w' ⟨he, hl⟩ => ⟨by rw [he, hmay], h.step hl, hl.m⟩)
            generalize d7.tell ((L + 1 : Nat) : Int) = de at *
            have hack : de.ack = L + 2 := by unfold Dr.ack; rw [if_pos (by rw [HDN.out.nx, HDN.out.en]), HDN.out.nx]; omega
            have hwin : de.rd + 33 - de.nx = 32 - L := by rw [HDN.out.nx, HDN.out.rd]; omega
            have HAC := Lib.hid (fun (w : World) (h : Sv W w rb z7 de) => (tells W rb z7 de).ack w h)
            have HWI := Lib.hid (fun (w : World) (h : Sv W w rb z7 de) => (tells W rb z7 de).win w h)
            rw [hack] at HAC
            rw [hwin] at HWI
            have hwl1 : IntKind.i64.wrap ((L : Int) + 1) = ((L + 1 : Nat) : Int) := by rw [IntKind.wrap_i64]; omega
            have hwl2 : IntKind.i64.wrap ((L : Int) + 2) = ((L + 2 : Nat) : Int) := by rw [IntKind.wrap_i64]; omega
            have hwl3 : IntKind.i64.wrap (32 - (L : Int)) = ((32 - L : Nat) : Int) := by rw [IntKind.wrap_i64]; omega
            have HLB := Lib.hid (And.intro hLb hL32)
            have HO8 := Lib.hid (HO7.out.below (Below.refl _ _).drew)
            have e0 : wr.drew.cell? ⟨bb, 0, none⟩ = some (.slice A L c) ∧ wr.drew.cell? ⟨rx, 0, none⟩ = some (.pointer (some ⟨rb, 0, none⟩)) := ⟨HO7.out.xb.c, HO7.out.xr.c⟩
            have hkI : ¬ (k : Int) < (k : Int) := by omega
            clear hkP f1 f2 f3 hmay hdn hLb hL32 hack hwin HO7
            generalize L + 1 = L1 at *
            generalize L + 2 = L2 at *
            generalize 32 - L = L3 at *
            go_upto_region 21 with (fail)
            refine wp_region_noPanic ?_
            refine wp_region_held_drew (S := fun W => W.cell? ⟨bb, 0, none⟩ = some (.slice A L c) ∧ W.cell? ⟨rx, 0, none⟩ = some (.pointer (some ⟨rb, 0, none⟩))) (by kernel_rfl) e0 (fun _ => ?_)
            refine held_take (i := 0) (v := .int .i64 (L : Int)) (some 68) rfl rfl (by kernel_rfl) (by kernel_rfl) (by kernel_rfl) (fun _ _ _ h => h) (Or.inl ⟨by rfl, fun W hW => by go_simp⟩) e0 ?_
            simp only [Act.put, List.setIfInBounds_toArray, List.set_cons_zero, List.set_cons_succ]
            refine held_take (i := 1) (v := .slice A L c) (some 69) rfl rfl (by kernel_rfl) (by kernel_rfl) (by kernel_rfl) (fun _ _ _ h => h) (Or.inl ⟨by rfl, fun W hW => by have hc := hW.1; go_simp⟩) e0 ?_
            simp only [Act.put, List.setIfInBounds_toArray, List.set_cons_zero, List.set_cons_succ]
            refine held_take (i := 2) (v := .int .i64 (L : Int)) (some 70) rfl rfl (by kernel_rfl) (by kernel_rfl) (by kernel_rfl) (fun _ _ _ h => h) (Or.inl ⟨by rfl, fun W hW => by go_simp⟩) e0 ?_
            simp only [Act.put, List.setIfInBounds_toArray, List.set_cons_zero, List.set_cons_succ]
            refine held_take (i := 3) (v := .bool false) (some 71) rfl rfl (by kernel_rfl) (by kernel_rfl) (by kernel_rfl) (fun _ _ _ h => h) (Or.inl ⟨by rfl, fun W hW => by go_simp⟩) e0 ?_
            simp only [Act.put, List.setIfInBounds_toArray, List.set_cons_zero, List.set_cons_succ]
            refine held_take (i := 4) (v := .bool false) (some 72) rfl rfl (by kernel_rfl) (by kernel_rfl) (by kernel_rfl) (fun _ _ _ h => h) (Or.inl ⟨by rfl, fun W hW => by go_simp⟩) e0 ?_
            simp only [Act.put, List.setIfInBounds_toArray, List.set_cons_zero, List.set_cons_succ]
            refine held_take (i := 5) (v := .pointer (some ⟨rb, 0, none⟩)) (some 73) rfl rfl (by kernel_rfl) (by kernel_rfl) (by kernel_rfl) (fun _ _ _ h => h) (Or.inl ⟨by rfl, fun W hW => by have hc := hW.2; go_simp⟩) e0 ?_
            simp only [Act.put, List.setIfInBounds_toArray, List.set_cons_zero, List.set_cons_succ]
            refine held_take (i := 6) (v := .slice A L c) (some 74) rfl rfl (by kernel_rfl) (by kernel_rfl) (by kernel_rfl) (fun _ _ _ h => h) (Or.inl ⟨by rfl, fun W hW => by have hc := hW.1; go_simp⟩) e0 ?_
            simp only [Act.put, List.setIfInBounds_toArray, List.set_cons_zero, List.set_cons_succ]
            refine held_take (i := 7) (v := .int .i64 (L : Int)) (some 75) rfl rfl (by kernel_rfl) (by kernel_rfl) (by kernel_rfl) (fun _ _ _ h => h) (Or.inl ⟨by rfl, fun W hW => by go_simp⟩) e0 ?_
            simp only [Act.put, List.setIfInBounds_toArray, List.set_cons_zero, List.set_cons_succ]
            refine held_take (i := 8) (v := .int .i64 (L1 : Int)) (some 76) rfl rfl (by kernel_rfl) (by kernel_rfl) (by kernel_rfl) (fun _ _ _ h => h) (Or.inl ⟨by rfl, fun W hW => by have hc := hwl1; go_simp⟩) e0 ?_
            simp only [Act.put, List.setIfInBounds_toArray, List.set_cons_zero, List.set_cons_succ]
            refine wpAnyH_ready (rs := [9]) (by kernel_rfl) (by simp) ?_
            refine AllReadyH.cons rfl (fun K hK => ?_) AllReadyH.nil
            go_simp
            refine (HEN.out _ HO8.out.s).mono ?_
            rintro e w8 ⟨rfl, S8, M8⟩
            have HO9 := Lib.hid (HO8.out.step S8 M8)
            have e1 : w8.cell? ⟨bb, 0, none⟩ = some (.slice A L c) ∧ w8.cell? ⟨rx, 0, none⟩ = some (.pointer (some ⟨rb, 0, none⟩)) := ⟨HO9.out.xb.c, HO9.out.xr.c⟩
            clear S8 M8 HEN
            try dsimp only
            refine hK.out _ _ e1 (fun _ => ?_)
            clear hK
            try simp only [Act.put, List.setIfInBounds_toArray, List.set_cons_zero, List.set_cons_succ]
            refine held_take (i := 10) (v := .bool false) (some 78) rfl rfl (by kernel_rfl) (by kernel_rfl) (by kernel_rfl) (fun _ _ _ h => h) (Or.inl ⟨by rfl, fun W hW => by go_simp⟩) e1 ?_
            simp only [Act.put, List.setIfInBounds_toArray, List.set_cons_zero, List.set_cons_succ]
            refine held_take (i := 11) (v := .bool false) (some 79) rfl rfl (by kernel_rfl) (by kernel_rfl) (by kernel_rfl) (fun _ _ _ h => h) (Or.inl ⟨by rfl, fun W hW => by go_simp⟩) e1 ?_
            simp only [Act.put, List.setIfInBounds_toArray, List.set_cons_zero, List.set_cons_succ]
            refine held_take (i := 12) (v := .bool false) (some 80) rfl rfl (by kernel_rfl) (by kernel_rfl) (by kernel_rfl) (fun _ _ _ h => h) (Or.inl ⟨by rfl, fun W hW => by go_simp⟩) e1 ?_
            simp only [Act.put, List.setIfInBounds_toArray, List.set_cons_zero, List.set_cons_succ]
            refine held_take (i := 13) (v := .pointer (some ⟨rb, 0, none⟩)) (some 81) rfl rfl (by kernel_rfl) (by kernel_rfl) (by kernel_rfl) (fun _ _ _ h => h) (Or.inl ⟨by rfl, fun W hW => by have hc := hW.2; go_simp⟩) e1 ?_
            simp only [Act.put, List.setIfInBounds_toArray, List.set_cons_zero, List.set_cons_succ]
            refine held_take (i := 15) (v := .slice A L c) (some 83) rfl rfl (by kernel_rfl) (by kernel_rfl) (by kernel_rfl) (fun _ _ _ h => h) (Or.inl ⟨by rfl, fun W hW => by have hc := hW.1; go_simp⟩) e1 ?_
            simp only [Act.put, List.setIfInBounds_toArray, List.set_cons_zero, List.set_cons_succ]
            refine held_take (i := 16) (v := .int .i64 (L : Int)) (some 84) rfl rfl (by kernel_rfl) (by kernel_rfl) (by kernel_rfl) (fun _ _ _ h => h) (Or.inl ⟨by rfl, fun W hW => by go_simp⟩) e1 ?_
            simp only [Act.put, List.setIfInBounds_toArray, List.set_cons_zero, List.set_cons_succ]
            refine held_take (i := 17) (v := .int .i64 (L2 : Int)) (some 85) rfl rfl (by kernel_rfl) (by kernel_rfl) (by kernel_rfl) (fun _ _ _ h => h) (Or.inl ⟨by rfl, fun W hW => by have hc := hwl2; go_simp⟩) e1 ?_
            simp only [Act.put, List.setIfInBounds_toArray, List.set_cons_zero, List.set_cons_succ]
            refine wpAnyH_ready (rs := [14]) (by kernel_rfl) (by simp) ?_
            refine AllReadyH.cons rfl (fun K hK => ?_) AllReadyH.nil
            go_simp
            refine (HAC.out _ HO9.out.s).mono ?_
            rintro e w9 ⟨rfl, m9, rfl⟩
            have HO10 := Lib.hid (HO9.out.below (below_dn (Below.refl _ _) m9))
            generalize w8.drewN m9 = w9 at *
            have e2 : w9.cell? ⟨bb, 0, none⟩ = some (.slice A L c) ∧ w9.cell? ⟨rx, 0, none⟩ = some (.pointer (some ⟨rb, 0, none⟩)) := ⟨HO10.out.xb.c, HO10.out.xr.c⟩
            try dsimp only
            refine hK.out _ _ e2 (fun _ => ?_)
            clear hK
            try simp only [Act.put, List.setIfInBounds_toArray, List.set_cons_zero, List.set_cons_succ]
            refine held_take (i := 18) (v := .bool false) (some 86) rfl rfl (by kernel_rfl) (by kernel_rfl) (by kernel_rfl) (fun _ _ _ h => h) (Or.inl ⟨by rfl, fun W hW => by go_simp⟩) e2 ?_
            simp only [Act.put, List.setIfInBounds_toArray, List.set_cons_zero, List.set_cons_succ]
            refine held_take (i := 19) (v := .bool false) (some 87) rfl rfl (by kernel_rfl) (by kernel_rfl) (by kernel_rfl) (fun _ _ _ h => h) (Or.inl ⟨by rfl, fun W hW => by go_simp⟩) e2 ?_
            simp only [Act.put, List.setIfInBounds_toArray, List.set_cons_zero, List.set_cons_succ]
            refine held_take (i := 20) (v := .bool false) (some 88) rfl rfl (by kernel_rfl) (by kernel_rfl) (by kernel_rfl) (fun _ _ _ h => h) (Or.inl ⟨by rfl, fun W hW => by go_simp⟩) e2 ?_
            simp only [Act.put, List.setIfInBounds_toArray, List.set_cons_zero, List.set_cons_succ]
            refine held_take (i := 21) (v := .pointer (some ⟨rb, 0, none⟩)) (some 89) rfl rfl (by kernel_rfl) (by kernel_rfl) (by kernel_rfl) (fun _ _ _ h => h) (Or.inl ⟨by rfl, fun W hW => by have hc := hW.2; go_simp⟩) e2 ?_
            simp only [Act.put, List.setIfInBounds_toArray, List.set_cons_zero, List.set_cons_succ]
            refine held_take (i := 23) (v := .slice A L c) (some 91) rfl rfl (by kernel_rfl) (by kernel_rfl) (by kernel_rfl) (fun _ _ _ h => h) (Or.inl ⟨by rfl, fun W hW => by have hc := hW.1; go_simp⟩) e2 ?_
            simp only [Act.put, List.setIfInBounds_toArray, List.set_cons_zero, List.set_cons_succ]
            refine held_take (i := 24) (v := .int .i64 (L : Int)) (some 92) rfl rfl (by kernel_rfl) (by kernel_rfl) (by kernel_rfl) (fun _ _ _ h => h) (Or.inl ⟨by rfl, fun W hW => by go_simp⟩) e2 ?_
            simp only [Act.put, List.setIfInBounds_toArray, List.set_cons_zero, List.set_cons_succ]
            refine held_take (i := 25) (v := .int .i64 (L3 : Int)) (some 93) rfl rfl (by kernel_rfl) (by kernel_rfl) (by kernel_rfl) (fun _ _ _ h => h) (Or.inl ⟨by rfl, fun W hW => by have hc := hwl3; go_simp⟩) e2 ?_
            simp only [Act.put, List.setIfInBounds_toArray, List.set_cons_zero, List.set_cons_succ]
            refine wpAnyH_ready (rs := [22]) (by kernel_rfl) (by simp) ?_
            refine AllReadyH.cons rfl (fun K hK => ?_) AllReadyH.nil
            go_simp
            refine (HWI.out _ HO10.out.s).mono ?_
            rintro e w10 ⟨rfl, m10, rfl⟩
            have HO11 := Lib.hid (HO10.out.below (below_dn (Below.refl _ _) m10))
            generalize w9.drewN m10 = w10 at *
            have e3 : w10.cell? ⟨bb, 0, none⟩ = some (.slice A L c) ∧ w10.cell? ⟨rx, 0, none⟩ = some (.pointer (some ⟨rb, 0, none⟩)) := ⟨HO11.out.xb.c, HO11.out.xr.c⟩
            try dsimp only
            refine hK.out _ _ e3 (fun _ => ?_)
            clear hK
            try simp only [Act.put, List.setIfInBounds_toArray, List.set_cons_zero, List.set_cons_succ]
            refine held_take (i := 26) (v := .bool false) (some 94) rfl rfl (by kernel_rfl) (by kernel_rfl) (by kernel_rfl) (fun _ _ _ h => h) (Or.inl ⟨by rfl, fun W hW => by go_simp⟩) e3 ?_
            simp only [Act.put, List.setIfInBounds_toArray, List.set_cons_zero, List.set_cons_succ]
            refine held_take (i := 27) (v := .bool false) (some 95) rfl rfl (by kernel_rfl) (by kernel_rfl) (by kernel_rfl) (fun _ _ _ h => h) (Or.inl ⟨by rfl, fun W hW => by go_simp⟩) e3 ?_
            simp only [Act.put, List.setIfInBounds_toArray, List.set_cons_zero, List.set_cons_succ]
            refine wpAnyH_done (by kernel_rfl) ?_ _
            refine NoPanic.normal ?_
            clear e0 e1 e2 e3 hwl1 hwl2 hwl3
            go_wp2_with fail
            go_loopg [15] (L + 1) (fun kx s15 wr => ∃ (i : Nat) (z : Sh) (v : Value), i ≤ L ∧ L + 1 - i ≤ kx ∧ s15 = v ∧ wr.ownsRow W.heap.size 5 1 v i (bv (b.take i)) ∧ (∀ g, v.ownBlock = some g → ¬ z.T rb g ∧ g ≠ bb ∧ g ≠ rx ∧ g ≠ nb) ∧ Ors W wr rb z (de.readN i) bb rx nb (.slice A L c) n)
            case atStart => exact ⟨0, z7, _, Nat.zero_le _, by omega, rfl, World.ownsRow_nil _ _ _ _, (fun g hg => by cases hg), HO11.out⟩
            case round =>
              obtain ⟨i, z8, v, hi, hkx, hsv, hov, hfar, O8⟩ := hrel
              subst hsv
              have HO12 := Lib.hid O8
              have HKX := Lib.hid hkx
              have HOV := Lib.hid hov
              have HFR := Lib.hid hfar
              obtain ⟨vA, vc, rfl, -, -⟩ := RB.of_own hov
              have xr : wr.cell? ⟨rx, 0, none⟩ = some (.pointer (some ⟨rb, 0, none⟩)) := O8.xr.c
              have hib : i ≤ b.length := by have := HLB.out.1; omega
              obtain ⟨m1, m2⟩ := HDN.out.got hib
              obtain ⟨r1, r2⟩ := HDN.out.err hib
              have HRE := Lib.hid (O8.s.read (m := 3) (by unfold isI; omega))
              rw [m1, m2] at HRE
              have hrd : (de.readN i).read 3 = de.readN (i + min 3 (b.length - i)) := by unfold Dr.read; rw [m1, readN_readN]
              rw [hrd] at HRE
              clear hkx hov hfar O8 m1 m2 hrd HO11
              by_cases hil : i < L
              · rw [r1 (by have := HLB.out.1; omega)] at HRE
                obtain ⟨ml, hml⟩ : ∃ ml, ml = min 3 (b.length - i) := ⟨_, rfl⟩
                rw [← hml] at HRE
                have HML : Hid (1 ≤ ml ∧ i + ml ≤ L) := Lib.hid (by have := HLB.out.1; omega)
                have hml0 : ¬ (ml : Int) = 0 := by have := HML.out; omega
                have hml0b : ((ml : Int) == 0) = false := by simpa using hml0
                have HTK : Hid (b.take i ++ (b.drop i).take ml = b.take (i + ml)) := Lib.hid (by rw [List.take_add])
                clear hml r1 r2 hib hi
                unfold ptr at HRE
                go_wp2_with fail
                refine (HRE.out).mono ?_
                rintro e w9 ⟨v9, z9, rfl, T9, S9, M9⟩
                obtain ⟨A9, c9, rfl, r9⟩ := T9.row
                have HR9 := Lib.hid r9
                have HO9 := Lib.hid (HO12.out.step S9 M9)
                have HOV9 : Hid (w9.ownsRow W.heap.size 5 1 (.slice vA i vc) i (bv (b.take i))) := Lib.hid (own_ch2 HOV.out M9.ch (fun g hg e => (HFR.out g hg).1 e))
                have HFR9 : Hid (∀ g, (Value.slice vA i vc).ownBlock = some g → W.heap.size ≤ g ∧ ¬ z9.T rb g ∧ g ≠ bb ∧ g ≠ rx ∧ g ≠ nb) := Lib.hid (fun g hg => ⟨(own_in HOV.out hg).1, fun e => (M9.new g e).elim (HFR.out g hg).1 (fun q => by have := (own_in HOV.out hg).2; omega), (HFR.out g hg).2⟩)
                have HBS : Hid (W.heap.size ≤ w9.heap.size) := Lib.hid HO9.out.s.bel.size
                have HLE : Hid (i + ml ≤ 1099511627776) := Lib.hid (by have := HML.out; have := HLB.out; omega)
                clear HO10
                clear T9 S9 M9 r9 HRE xr HO12
                go_wp2_with (first
                  | (at_builtin; refine wpList_app _ rfl (.tmp 110) (.tmp 111) 28 5 rfl undByte infoByte W.heap.size (.slice vA i vc) i (b.take i) rfl HOV9.out A9 ml c9 _ rfl HR9.out HLE.out HBS.out ?_; intro v10 w10 o10 g10 h10; have HO10 := Lib.hid (And.intro o10 (And.intro g10 h10)); obtain ⟨A10, k10, rfl, -, -⟩ := RB.of_own o10; clear o10 g10 h10)
                  | fail)
                have HOF := Lib.hid (HO9.out.grown HO10.out.2.1 HFR9.out)
                go_roundg (L + 1 - (i + ml))
                case measure => have := HKX.out; have := HML.out; omega
                case rel => exact ⟨i + ml, z9, _, by have := HML.out; omega, Nat.le_refl _, rfl, by rw [← HTK.out]; exact HO10.out.1, fun g hg => by
                  rcases HO10.out.2.2 with h | h
                  · rw [h] at hg
                    exact (HFR9.out g hg).2
                  · rw [h] at hg
                    injection hg with hg
                    refine ⟨fun e => ?_, fun e => ?_, fun e => ?_, fun e => ?_⟩
                    · have := (HO9.out.s.s.w.in_ e).2; omega
                    · have := HO9.out.xb.lt; omega
                    · have := HO9.out.xr.lt; omega
                    · have := HO9.out.xn.lt; omega, HOF.out⟩
              · obtain rfl : i = L := by omega
                rw [r2 (by have := HLB.out.1; omega)] at HRE
                have HBT : Hid (b.take i = b) := Lib.hid (by rw [← HLB.out.1, List.take_length])
                clear r1 r2 hib hi hil
                generalize min 3 (b.length - i) = ml at *
                unfold ptr at HRE
                go_wp2_with fail
                refine (HRE.out).mono ?_
                rintro e w9 ⟨v9, z9, rfl, T9, S9, M9⟩
                obtain ⟨A9, c9, rfl, -⟩ := T9.row
                have HO9 := Lib.hid (HO12.out.step S9 M9)
                have HOV9 : Hid (w9.ownsRow W.heap.size 5 1 (.slice vA i vc) i (bv b)) := Lib.hid (by have h := own_ch2 HOV.out M9.ch (fun g hg e => (HFR.out g hg).1 e); rw [HBT.out] at h; exact h)
                obtain ⟨A8, c8, hv8, r8, -⟩ := RB.of_own HOV9.out
                injection hv8 with e1 _ e3
                subst e1
                subst e3
                have HSM := Lib.hid (Same_any vA A i vc i c b b w9 r8 (HA.out.below HO9.out.s.bel))
                have hss : (b == b) = true := by simp
                rw [hss] at HSM
                have y3 : w9.cell? ⟨bb, 0, none⟩ = some (.slice A i c) := HO9.out.xb.c
                have HFF : Hid (∀ m, Below W.heap.size W (w9.drewN m)) := Lib.hid (fun m => below_dn HO9.out.s.bel m)
                clear T9 S9 M9 r8 hss HRE xr HO12
                go_wp2_with fail
                refine (HSM.out).mono ?_
                rintro e w10 ⟨rfl, m10, rfl⟩
                go_wp2_with fail
                go_ret
                exact ⟨rfl, HFF.out _⟩
end Go.Proofs.Ytancbdnpmabpfaa

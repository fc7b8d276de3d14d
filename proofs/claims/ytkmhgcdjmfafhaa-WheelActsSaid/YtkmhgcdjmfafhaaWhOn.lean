/- Law: each timer is due once, at its tick, in order, and no one that was cancelled. No condition. -/
import Derived.Test.YtkmhgcdjmfafhaaWhMb
namespace Go.Proofs.Ytkmhgcdjmfafhaa
set_option linter.unusedVariables false
set_option linter.unusedSimpArgs false
open Go.RowKit

/-- One wheel, and a map of handles beside it, made since w. -/
def Sg (w wr : World) (wb n : Nat) (l : List (Int × Int)) (gb : Nat) (R : List Int) : Prop :=
  ∃ lab, On wr lab wb n l ∧ RowKit.Below w.heap.size w wr ∧ (∀ x, x < w.heap.size → lab x = 0) ∧ MapB wr gb R ∧ lab gb = 0 ∧ w.heap.size ≤ gb
section
variable {w wr w' : World} {wb n n' gb : Nat} {l l' : List (Int × Int)} {R : List Int} {lab lab' : Nat → Nat}
theorem Sg.step (O0 : On wr lab wb n l) (b : RowKit.Below w.heap.size w wr) (z : ∀ x, x < w.heap.size → lab x = 0) (M : MapB wr gb R) (hg : lab gb = 0) (hge : w.heap.size ≤ gb) (O : On w' lab' wb n' l') (F : Fr lab wr lab' w') : Sg w w' wb n' l' gb R :=
  ⟨lab', O, b.trans ⟨F.1.os, F.1.tape, F.1.output, F.1.size, fun k hk => F.1.block k (Nat.lt_of_lt_of_le hk b.size) fun e => e (z k hk)⟩, fun x hx => (F.2 x (Nat.lt_of_lt_of_le hx b.size)).trans (z x hx), M.keep (F.1.block gb M.lt fun e => e hg), (F.2 gb M.lt).trans hg, hge⟩
theorem Sg.put (h : Sg w wr wb n l gb R) {R' : List Int} (M' : MapB w' gb R') (tu : wr.mapTurned w' gb) : Sg w w' wb n l gb R' := by
  obtain ⟨lab, O, b, z, M, lg, hge⟩ := h
  have c : Ch wr w' (fun k => k = gb) := (Ch.refl wr (fun k => k = gb)).turned tu (fun _ => rfl)
  exact ⟨lab, O.ch c (fun k hk => by rw [hk]; exact lg), b.trans ⟨c.os, c.tape, c.output, c.size, fun k hk => c.block k (Nat.lt_of_lt_of_le hk b.size) fun e => by omega⟩, z, M', lg, hge⟩
theorem Duv.blt {w : World} {base : Nat} {A : Option Addr} {c : Nat} {out : List (Int × Int)} (h : Duv w base (.slice A out.length c) out) {j : Nat} (hj : j < out.length) {g : Nat} (e : A = some ⟨g, 0, none⟩) : g < w.heap.size := by
  obtain ⟨g', e', x0, _⟩ := h.cells hj
  rw [e] at e'
  injection e' with e'
  injection e' with e' _ _
  subst e'
  exact World.block_lt_of_cell? _ _ x0
theorem take_new {out : List (Int × Int)} (hd : ∀ p q, p ∈ out → q ∈ out → p.1 = q.1 → p = q) (hn : out.Nodup) {q : Nat} (hq : q < out.length) : (out.getD q (0, 0)).1 ∉ (out.take q).map Prod.fst ∧ (out.take (q + 1)).map Prod.fst = (out.take q).map Prod.fst ++ [(out.getD q (0, 0)).1] := by
  rw [List.getD_eq_getElem?_getD, List.getElem?_eq_getElem hq]
  refine ⟨fun h => ?_, ?_⟩
  · obtain ⟨a, ha, he⟩ := List.mem_map.1 h
    obtain ⟨i, hi, rfl⟩ := List.mem_take_iff_getElem.1 ha
    have h1 := List.pairwise_iff_getElem.1 hn i q (by omega) hq (by omega)
    exact h1 (hd _ _ (List.getElem_mem _) (List.getElem_mem _) he)
  · rw [List.take_add_one, List.getElem?_eq_getElem hq, List.map_append]
    rfl
theorem ordL_at {out : List (Int × Int)} (h : OrdL out) {q : Nat} (hq : q + 1 < out.length) : (out.getD q (0, 0)).2 < (out.getD (q + 1) (0, 0)).2 ∨ (out.getD q (0, 0)).2 = (out.getD (q + 1) (0, 0)).2 ∧ (out.getD q (0, 0)).1 < (out.getD (q + 1) (0, 0)).1 := by
  rw [List.getD_eq_getElem?_getD, List.getD_eq_getElem?_getD, List.getElem?_eq_getElem hq, List.getElem?_eq_getElem (Nat.lt_of_succ_lt hq)]
  exact List.pairwise_iff_getElem.1 h q (q + 1) _ _ (Nat.lt_succ_self q)
theorem d_cells (w : World) (x y : Value) (t : TypeId) : (w.alloc (.cells #[x, y] t)).cell? ⟨w.heap.size, 0, none⟩ = some x ∧ (w.alloc (.cells #[x, y] t)).cell? ⟨w.heap.size, 1, none⟩ = some y := by
  refine ⟨?_, ?_⟩
  · rw [cell_of_row (w.alloc (.cells #[x, y] t)) w.heap.size 0 #[x, y] t (0, 0) (heap_alloc_new w _)]
    rfl
  · rw [cell_of_row (w.alloc (.cells #[x, y] t)) w.heap.size 1 #[x, y] t (0, 0) (heap_alloc_new w _)]
    rfl
theorem wrap_i {x : Int} (h : isI x) : IntKind.i64.wrap x = x := by
  unfold isI at h
  simp [IntKind.wrap, IntKind.bits, IntKind.signed]
  omega
theorem far2 (n : Nat) : ∃ N : Nat, (N : Int) = (n : Int) + 5000 ∧ n ≤ N ∧ N ≤ n + 10000 ∧ ∀ m : Nat, n ≤ m → ((m : Int) < min ((n : Int) + 5000) ((n : Int) + 10000) ↔ m < N) :=
  ⟨((n : Int) + 5000).toNat, by omega, by omega, by omega, fun m _ => by omega⟩
end

set_option maxRecDepth 20000 in
set_option maxHeartbeats 8000000 in
theorem Once_any (n : Nat) (A1 : Option Addr) (n1 c1 : Nat) (zs1 : List Int) (A2 : Option Addr) (n2 c2 : Nat) (zs2 : List Int) (w : World) (hn : n < 65536) (h1 : RI .u16 w A1 n1 c1 zs1) (z1 : ∀ z ∈ zs1, (Lit.int .u16 z).wf = true) (h2 : RI .u8 w A2 n2 c2 zs2) (z2 : ∀ z ∈ zs2, (Lit.int .u8 z).wf = true) :
    Calls Try.prog 5 #[.int .u16 (n : Int), .slice A1 n1 c1, .slice A2 n2 c2] w (Held w) := by
  have HW := Lib.hid wakes_any
  have hcl : clamp (n : Int) = n := by unfold clamp; omega
  have HN := Lib.hid (fun w => new_any (n : Int) (by unfold isI; omega) w)
  rw [hcl] at HN
  clear hcl
  have hc1 := h1.cap
  have hm1 := h1.max
  have hc2 := h2.cap
  have hm2 := h2.max
  have hmm := @run_makeMap Try.prog
  by_cases hn1 : n1 ≤ 50
  · by_cases hn2 : n2 ≤ 50
    · have hd1 : decide (50 < (n1 : Int)) = false := decide_eq_false (by omega)
      have hd2 : decide (50 < (n2 : Int)) = false := decide_eq_false (by omega)
      go_enter Try.func5, Try.ntmps5
      go_wp2_with fail
      refine (HW.out _).mono ?_
      rintro e w0 ⟨rfl, b0⟩
      go_wp2_with fail
      refine (HN.out _).mono ?_
      rintro e w1 ⟨lab1, wb, rfl, O1, F1⟩
      unfold ptr
      have hS : Sg w0 (w1.alloc (.map #[] 0)) wb n (tl ((n : Int) + 1) zs1 0) w1.heap.size [] := by
        have b1 := F1.start
        have hz : lab1 w1.heap.size = 0 := by
          by_cases e : lab1 w1.heap.size = 0
          · exact e
          · have := O1.lt e
            omega
        exact ⟨lab1, O1.below ((RowKit.Below.refl _ _).alloc (Nat.le_refl _) _), b1.alloc b1.size _, fun x hx => F1.2 x hx, MapB.made w1, hz, b1.size⟩
      have HS := Lib.hid hS
      generalize hgb : w1.heap.size = gb at *
      clear hS O1 F1 HN HW
      go_wp2_with fail
      go_loopw [33] (fun ix wi => ∃ k : Nat, k ≤ n1 ∧ ix = .int .i64 k ∧ Sg w0 wi wb n (tl ((n : Int) + 1) zs1 k) gb []) (fun ix _ => n1 - (intOf ix).toNat)
      case atStart => exact ⟨0, Nat.zero_le _, rfl, HS.out⟩
      case round =>
        clear hgb HS
        obtain ⟨k, hk, rfl, lab, O, b, zl, M, lg, hge⟩ := hrel
        by_cases hlt : k < n1
        · have r1 := (h1.below b0).below b
          obtain ⟨g1, o1, rfl, ck⟩ := r1.at_ hlt
          have hzk : zs1.getD k 0 ∈ zs1 := by
            have hl := h1.len
            rw [List.getD_eq_getElem?_getD, List.getElem?_eq_getElem (by omega)]
            exact List.getElem_mem _
          have hzb := Go.bounds_u16 (z1 _ hzk)
          obtain ⟨t1, t2⟩ := tf_bound (zs1.getD k 0) hzb.1
          have harm := oarm_good O (x := (k : Int)) (t := (n : Int) + 1 + (zs1.getD k 0).tmod 4096) (by unfold isI; omega) (by omega) (by rw [tl_length]; omega) (by omega)
          rw [tl_wo] at harm
          have HA := Lib.hid harm
          have HSt := Lib.hid (fun (w' : World) (lab' : Nat → Nat) (O' : On w' lab' wb n (tl ((n : Int) + 1) zs1 k ++ [((k : Int), (n : Int) + 1 + (zs1.getD k 0).tmod 4096)])) (F' : Fr lab wr lab' w') => (Sg.step O b zl M lg hge O' F' : Sg w0 w' wb n (tl ((n : Int) + 1) zs1 (k + 1)) gb []))
          clear harm O b zl M lg r1
          generalize zs1.getD k 0 = z at *
          generalize hq : z.tmod 4096 = q at *
          go_wp2_with fail
          refine (HA.out).mono ?_
          rintro e w3 ⟨rfl, lab3, O3, F3⟩
          have S3 := HSt.out w3 lab3 O3 F3
          have HS3 := Lib.hid S3
          clear O3 F3 HA HSt S3
          go_wp2_with fail
          go_roundw
          case rel => exact ⟨k + 1, by omega, by go_num, HS3.out⟩
          case measure => simp [intOf]; omega
        · obtain rfl : k = n1 := by omega
          have HLM := Lib.hid (fun p => tl_mem (s := (n : Int) + 1) (zs := zs1) (k := k) (p := p))
          have hll : (tl ((n : Int) + 1) zs1 k).length = k := tl_length _ _ _
          have hS : Sg w0 wr wb n (lw (tl ((n : Int) + 1) zs1 k) []) gb [] := by
            rw [lw_nil]
            exact ⟨lab, O, b, zl, M, lg, hge⟩
          have hdist := O.dist
          have hlnd := O.nodup
          have HS2 := Lib.hid hS
          have HDI := Lib.hid hdist
          have HND := Lib.hid hlnd
          clear hS O b zl M lg hdist hlnd
          generalize tl ((n : Int) + 1) zs1 k = l at *
          go_wp2_with fail
          go_loopw [51] (fun ix wi => ∃ (j : Nat) (R : List Int), j ≤ n2 ∧ ix = .int .i64 j ∧ Sg w0 wi wb n (lw l R) gb R ∧ R.Nodup ∧ ∀ x ∈ R, ∃ p ∈ l, p.1 = x) (fun ix _ => n2 - (intOf ix).toNat)
          case atStart => exact ⟨0, [], Nat.zero_le _, rfl, HS2.out, List.nodup_nil, fun x hx => by cases hx⟩
          case round =>
            clear HS2
            obtain ⟨j, R, hj, rfl, ⟨lab, O, b, zl, M, lg, hge⟩, hRn, hRl⟩ := hrel
            have hRk : R.length ≤ 50 := by
              have := lw_len HDI.out HND.out hRn hRl
              omega
            by_cases hjl : j < n2
            · have r2 := (h2.below b0).below b
              obtain ⟨g2, o2, rfl, ck⟩ := r2.at_ hjl
              have hzk : zs2.getD j 0 ∈ zs2 := by
                have hl := h2.len
                rw [List.getD_eq_getElem?_getD, List.getElem?_eq_getElem (by omega)]
                exact List.getElem_mem _
              have hzb := Go.bounds_u8 (z2 _ hzk)
              generalize zs2.getD j 0 = z at *
              have hz0 : lab wr.heap.size = 0 := by
                by_cases e : lab wr.heap.size = 0
                · exact e
                · have := O.lt e
                  omega
              have hal : RowKit.Below wr.heap.size wr (wr.alloc (.cells #[.int .i64 z] 3)) := (RowKit.Below.refl _ _).alloc (Nat.le_refl _) _
              have HC := Lib.hid (ocancel_any (O.below hal) (x := z) (by unfold isI; omega) (by omega) (cell_new wr (.int .i64 z) 3) hz0)
              have HSt := Lib.hid (fun (w' : World) (lab' : Nat → Nat) (O' : On w' lab' wb n (woL (lw l R) z)) (F' : Fr lab (wr.alloc (.cells #[.int .i64 z] 3)) lab' w') => Sg.step O b zl M lg hge O' (((Fr.refl lab wr).below hal).trans F'))
              clear O b zl M lg hge r2 hal
              go_wp2_with fail
              refine (HC.out).mono ?_
              rintro e w3 ⟨c, rfl, hc, O3, F3⟩
              rcases hc with ⟨hex, rfl⟩ | ⟨hno, rfl⟩
              · have S3 := HSt.out w3 lab O3 ⟨F3.1, F3.2⟩
                rw [lw_wo] at S3
                obtain ⟨p, hp, hpz⟩ := hex
                have hpl := mem_lw.1 hp
                have hzR : z ∉ R := by rw [← hpz]; exact hpl.2
                have M3 : MapB w3 gb R := S3.choose_spec.2.2.2.1
                have hRn' : (R ++ [z]).Nodup := by
                  rw [List.nodup_append]
                  exact ⟨hRn, by simp, fun a ha b hb e => by rw [List.mem_singleton] at hb; subst hb; subst e; exact hzR ha⟩
                have hRl' : ∀ x ∈ R ++ [z], ∃ p ∈ l, p.1 = x := fun x hx => by
                  rcases List.mem_append.1 hx with hx | hx
                  · exact hRl x hx
                  · rw [List.mem_singleton] at hx
                    exact ⟨p, hpl.1, hpz.trans hx.symm⟩
                have HS3 := Lib.hid S3
                have HM3 := Lib.hid M3
                have HRN := Lib.hid hRn'
                have HRL := Lib.hid hRl'
                have HZR := Lib.hid hzR
                clear S3 M3 hRn' hRl' O3 F3 HC HSt hp hpz hpl hzR hRn hRl
                go_wp2_with (first | (at_mapUpdate; refine wpList_putB rfl _ _ _ rfl rfl HM3.out (h := z) (by unfold isI; omega) rfl HZR.out rfl (by omega) ?_; intro w4 M4 tu))
                go_roundw
                case rel => exact ⟨j + 1, R ++ [z], by omega, by go_num, HS3.out.put M4 tu, HRN.out, HRL.out⟩
                case measure => simp [intOf]; omega
              · have S3 := HSt.out w3 lab O3 ⟨F3.1, F3.2⟩
                rw [lw_wo_none hno] at S3
                have HS3 := Lib.hid S3
                have HRN := Lib.hid hRn
                have HRL := Lib.hid hRl
                clear S3 hRn hRl O3 F3 HC HSt hno
                go_wp2_with fail
                go_roundw
                case rel => exact ⟨j + 1, R, by omega, by go_num, HS3.out, HRN.out, HRL.out⟩
                case measure => simp [intOf]; omega
            · obtain rfl : j = n2 := by omega
              obtain ⟨N, hN1, hN2, hN3, hN4⟩ := far2 n
              have hfl : (lw l R).length ≤ l.length := List.length_filter_le _ _
              have HAd := Lib.hid (oadv_any O (t := (n : Int) + 5000) (by unfold isI; omega) (by omega) (by omega) N hN2 hN3 hN4)
              have HB := Lib.hid b
              have HZ := Lib.hid zl
              have HM := Lib.hid M
              have HRN := Lib.hid hRn
              have HRL := Lib.hid hRl
              have hgl := M.lt
              clear O b zl M hN4 hRn hRl
              go_wp2_with fail
              refine (HAd.out).mono ?_
              rintro e w5 ⟨v5, lab5, out, rfl, O5, F5, D5, vl5, od5, mm5⟩
              have htb : ∀ p, p ∈ l → ∃ i : Nat, i < k ∧ p.1 = (i : Int) ∧ p.2 = (n : Int) + 1 + (zs1.getD i 0).tmod 4096 ∧ 0 ≤ (zs1.getD i 0).tmod 4096 ∧ (zs1.getD i 0).tmod 4096 < 4096 ∧ 0 ≤ zs1.getD i 0 ∧ zs1.getD i 0 ≤ 65535 := fun p hp => by
                obtain ⟨i, hi, rfl⟩ := (HLM.out p).1 hp
                have hzk : zs1.getD i 0 ∈ zs1 := by
                  have hl := h1.len
                  rw [List.getD_eq_getElem?_getD, List.getElem?_eq_getElem (by omega)]
                  exact List.getElem_mem _
                have hzb := Go.bounds_u16 (z1 _ hzk)
                obtain ⟨t1, t2⟩ := tf_bound (zs1.getD i 0) hzb.1
                exact ⟨i, hi, rfl, rfl, t1, t2, hzb.1, hzb.2⟩
              have hmem : ∀ p, p ∈ out ↔ p ∈ lw l R := fun p => by
                rw [mm5 p]
                refine ⟨fun h => h.1, fun h => ⟨h, ?_⟩⟩
                obtain ⟨i, _, _, e2, t1, t2, _⟩ := htb p (mem_lw.1 h).1
                omega
              have hnil : ((lw l R).filter fun p => decide ((N : Int) < p.2)) = [] := by
                rw [List.filter_eq_nil_iff]
                intro p hp
                have := ((mm5 p).1 ((hmem p).2 hp)).2
                simp
                omega
              rw [hnil] at O5
              have hlen : out.length + R.length = k := by
                have h9 := lw_len HDI.out HND.out HRN.out HRL.out
                have h8 := nodup_lenA out (lw l R) od5.nodup fun p hp => (hmem p).1 hp
                have h7 := nodup_lenA (lw l R) out (HND.out.filter _) fun p hp => (hmem p).2 hp
                omega
              have M5 := HM.out.keep (w' := w5) (F5.1.block gb hgl fun e => e lg)
              have B5 : RowKit.Below w0.heap.size w0 w5 := HB.out.trans ⟨F5.1.os, F5.1.tape, F5.1.output, F5.1.size, fun x hx => F5.1.block x (Nat.lt_of_lt_of_le hx HB.out.size) fun e => e (HZ.out x hx)⟩
              obtain ⟨A5, c5, rfl, hc5⟩ := D5.slice
              have hgl5 := M5.lt
              have HOW := Lib.hid (O5.below (w' := w5.alloc (.map #[] 0)) ((RowKit.Below.refl _ _).alloc (Nat.le_refl _) _))
              have hlz : lab5 w5.heap.size = 0 := by
                by_cases e : lab5 w5.heap.size = 0
                · exact e
                · have := O5.lt e
                  omega
              have HD6 := Lib.hid (D5.alloc (.map #[] 0))
              have HM6 := Lib.hid (M5.keep (w' := w5.alloc (.map #[] 0)) (Below.heap_alloc w5 _ gb hgl5))
              have HMM := Lib.hid (MapB.made w5)
              have HG5 := Lib.hid (fun (g : Nat) (j : Nat) (hj : j < out.length) (e : A5 = some ⟨g, 0, none⟩) => (D5.blt hj e))
              have HB6 := Lib.hid (B5.alloc B5.size (.map #[] 0))
              have HOD := Lib.hid od5
              have HTB := Lib.hid (fun p (hp : p ∈ out) => htb p (mem_lw.1 ((hmem p).1 hp)).1)
              have HNR := Lib.hid (fun p (hp : p ∈ out) => (mem_lw.1 ((hmem p).1 hp)).2)
              have hs0 : w0.heap.size ≤ w5.heap.size := B5.size
              have HDO := Lib.hid (fun p q (hp : p ∈ out) (hq : q ∈ out) (e : p.1 = q.1) => HDI.out p q (mem_lw.1 ((hmem p).1 hp)).1 (mem_lw.1 ((hmem q).1 hq)).1 e)
              clear htb hmem hnil O5 F5 D5 vl5 od5 mm5 M5 B5 HM HB HZ HAd HRL
              generalize hon : out.length = on at *
              have HON := Lib.hid hon
              clear hon
              go_wp2_with fail
              go_loopw [73] (fun ix wz => ∃ q : Nat, q ≤ on ∧ ix = .int .i64 q ∧ Ch (w5.alloc (.map #[] 0)) wz (fun x => x = w5.heap.size) ∧ MapB wz w5.heap.size ((out.take q).map Prod.fst)) (fun ix _ => on - (intOf ix).toNat)
              case atStart => exact ⟨0, Nat.zero_le _, rfl, Ch.refl _ _, HMM.out⟩
              case round =>
                obtain ⟨q, hq, rfl, cz, Mz⟩ := hrel
                generalize hW6 : w5.alloc (.map #[] 0) = W6 at *
                generalize hmb : w5.heap.size = mb at *
                clear hW6 hmb
                have hgm : gb ≠ mb := by omega
                by_cases hql : q < on
                · have hd6 := HD6.out
                  rw [← HON.out] at hd6
                  have hqo : q < out.length := by rw [HON.out]; exact hql
                  obtain ⟨g5, rfl, x0, x1⟩ := Duv.cells hd6 hqo
                  have hg5 : g5 ≠ mb := fun e => by
                    have h9 := HG5.out g5 q hql rfl
                    omega
                  have y0 := cz.cell x0 hg5
                  have y1 := cz.cell x1 hg5
                  obtain ⟨i, hik, hi1, hi2, ht1, ht2, hz1, hz2⟩ := HTB.out (out.getD q (0, 0)) (by rw [List.getD_eq_getElem?_getD, List.getElem?_eq_getElem hqo]; exact List.getElem_mem _)
                  have hrq := HNR.out (out.getD q (0, 0)) (by rw [List.getD_eq_getElem?_getD, List.getElem?_eq_getElem hqo]; exact List.getElem_mem _)
                  obtain ⟨hnew, htk⟩ := take_new HDO.out HOD.out.nodup hqo
                  have bz : RowKit.Below w0.heap.size w0 wr := HB6.out.trans ⟨cz.os, cz.tape, cz.output, cz.size, fun x hx => cz.block x (Nat.lt_of_lt_of_le hx HB6.out.size) fun e => by omega⟩
                  have r1 := (h1.below b0).below bz
                  obtain ⟨g1, o1, rfl, ck⟩ := r1.at_ hik
                  have Mg : MapB wr gb R := HM6.out.keep (cz.block gb HM6.out.lt fun e => hgm e)
                  have hIi : isI (out.getD q (0, 0)).1 := by rw [hi1]; unfold isI; omega
                  have hh : ∀ x, x < wr.heap.size → (wr.alloc (.cells #[.int .i64 (out.getD q (0, 0)).1, .int .i64 (out.getD q (0, 0)).2] 53)).heap[x]? = wr.heap[x]? := fun x hx => Below.heap_alloc wr _ x hx
                  have MzD := Mz.keep (hh mb Mz.lt)
                  have MgD := Mg.keep (hh gb Mg.lt)
                  obtain ⟨d0, d1⟩ := d_cells wr (.int .i64 (out.getD q (0, 0)).1) (.int .i64 (out.getD q (0, 0)).2) 53
                  have hl1 := fun m => MzD.look hIi hnew ((wr.alloc (.cells #[.int .i64 (out.getD q (0, 0)).1, .int .i64 (out.getD q (0, 0)).2] 53)).drewN m) rfl
                  have hl2 := fun m => MgD.look hIi hrq ((wr.alloc (.cells #[.int .i64 (out.getD q (0, 0)).1, .int .i64 (out.getD q (0, 0)).2] 53)).drewN m) rfl
                  have ckD := (World.cell?_of_block (hh g1 (World.block_lt_of_cell? _ _ ck))).trans ck
                  have cD : Ch W6 (wr.alloc (.cells #[.int .i64 (out.getD q (0, 0)).1, .int .i64 (out.getD q (0, 0)).2] 53)) (fun x => x = mb) := cz.alloc _
                  have HCD := Lib.hid cD
                  have HMD := Lib.hid MzD
                  have HNEW := Lib.hid hnew
                  have HTK := Lib.hid htk
                  have HII := Lib.hid hIi
                  have hqk : (out.take q).length ≤ 50 := by rw [List.length_take]; omega
                  have hprev : ∀ q' : Nat, q = q' + 1 → ∃ a b : Int, (wr.alloc (.cells #[.int .i64 (out.getD q (0, 0)).1, .int .i64 (out.getD q (0, 0)).2] 53)).cell? ⟨g5, q' * 2, none⟩ = some (.int .i64 a) ∧ (wr.alloc (.cells #[.int .i64 (out.getD q (0, 0)).1, .int .i64 (out.getD q (0, 0)).2] 53)).cell? ⟨g5, q' * 2 + 1, none⟩ = some (.int .i64 b) ∧ (b < (out.getD q (0, 0)).2 ∨ b = (out.getD q (0, 0)).2 ∧ a < (out.getD q (0, 0)).1) := fun q' e => by
                    subst e
                    obtain ⟨g', e', z0, z1⟩ := Duv.cells hd6 (j := q') (by omega)
                    injection e' with e'
                    injection e' with e' _ _
                    subst e'
                    have hg5l : g5 < wr.heap.size := World.block_lt_of_cell? _ _ y0
                    exact ⟨_, _, (World.cell?_of_block (hh g5 hg5l)).trans (cz.cell z0 hg5), (World.cell?_of_block (hh g5 hg5l)).trans (cz.cell z1 hg5), ordL_at HOD.out hqo⟩
                  clear x0 x1 hd6 cz Mz bz r1 ck Mg MzD MgD cD hh hnew htk hIi
                  generalize (out.getD q (0, 0)).1 = p1 at *
                  generalize (out.getD q (0, 0)).2 = p2 at *
                  generalize zs1.getD i 0 = z at *
                  generalize hzt : z.tmod 4096 = t at *
                  subst hi1
                  subst hi2
                  go_wp2_with fail
                  have hne : wr.heap.size = wr.heap.size := rfl
                  generalize wr.alloc (.cells #[.int .i64 (i : Int), .int .i64 ((n : Int) + 1 + t)] 53) = WD at *
                  generalize wr.heap.size = db at *
                  have hw1 : IntKind.i64.wrap (n : Int) = n := wrap_i (by unfold isI; omega)
                  have hw2 : IntKind.i64.wrap ((n : Int) + 1) = n + 1 := wrap_i (by unfold isI; omega)
                  have hw3 : IntKind.i64.wrap z = z := wrap_i (by unfold isI; omega)
                  have hw4 : IntKind.i64.wrap ((n : Int) + 1 + t) = n + 1 + t := wrap_i (by unfold isI; omega)
                  rcases Nat.eq_zero_or_pos q with hq0 | hq0
                  · subst hq0
                    have hg0 : decide ((0 : Int) < ((0 : Nat) : Int)) = false := rfl
                    clear hprev
                    go_quiet (fail)
                    go_wp2_with (first | (at_mapUpdate; refine wpList_putB rfl _ _ _ rfl rfl (HMD.out.keep rfl) (h := (i : Int)) HII.out rfl HNEW.out rfl (by rw [List.length_map]; omega) ?_; intro w4 M4 tu))
                    go_roundw
                    case rel => exact ⟨0 + 1, by omega, by go_num, (HCD.out.drewN _).turned tu (fun _ => rfl), by rw [HTK.out]; exact M4⟩
                    case measure => simp [intOf]; omega
                  · obtain ⟨q', rfl⟩ : ∃ q', q = q' + 1 := ⟨q - 1, by omega⟩
                    obtain ⟨pa, pb, v0, v1, hor⟩ := hprev q' rfl
                    clear hprev
                    have hq1 : (q' : Int) + 1 - 1 = (q' : Int) := by omega
                    have hw5 : IntKind.i64.wrap (q' : Int) = q' := wrap_i (by unfold isI; omega)
                    have hb1 : q' < on := by omega
                    have hq2 : decide ((0 : Int) < (q' : Int) + 1) = true := decide_eq_true (by omega)
                    rcases hor with ho | ⟨ho1, ho2⟩
                    · have hA1 : decide ((n : Int) + 1 + t < pb) = false := decide_eq_false (by omega)
                      have hA2 : (pb == (n : Int) + 1 + t) = false := by simp; omega
                      go_quiet (fail)
                      go_wp2_with (first | (at_mapUpdate; refine wpList_putB rfl _ _ _ rfl rfl (HMD.out.keep rfl) (h := (i : Int)) HII.out rfl HNEW.out rfl (by rw [List.length_map]; omega) ?_; intro w4 M4 tu))
                      go_roundw
                      case rel => exact ⟨q' + 1 + 1, by omega, by go_num, (HCD.out.drewN _).turned tu (fun _ => rfl), by rw [HTK.out]; exact M4⟩
                      case measure => simp [intOf]; omega
                    · subst ho1
                      have hA3 : decide ((i : Int) < pa) = false := decide_eq_false (by omega)
                      go_quiet (fail)
                      go_wp2_with (first | (at_mapUpdate; refine wpList_putB rfl _ _ _ rfl rfl (HMD.out.keep rfl) (h := (i : Int)) HII.out rfl HNEW.out rfl (by rw [List.length_map]; omega) ?_; intro w4 M4 tu))
                      go_roundw
                      case rel => exact ⟨q' + 1 + 1, by omega, by go_num, (HCD.out.drewN _).turned tu (fun _ => rfl), by rw [HTK.out]; exact M4⟩
                      case measure => simp [intOf]; omega
                · obtain rfl : q = on := by omega
                  have bz : RowKit.Below w0.heap.size w0 wr := HB6.out.trans ⟨cz.os, cz.tape, cz.output, cz.size, fun x hx => cz.block x (Nat.lt_of_lt_of_le hx HB6.out.size) fun e => by omega⟩
                  have Mg : MapB wr gb R := HM6.out.keep (cz.block gb HM6.out.lt fun e => hgm e)
                  have OW : On wr lab5 wb N [] := HOW.out.ch cz (fun x hx => by rw [hx]; exact hlz)
                  have HL := Lib.hid (olen_any OW)
                  have HMG := Lib.hid Mg
                  have HBZ := Lib.hid bz
                  have hsum : (q : Int) + (R.length : Int) = (k : Int) := by omega
                  clear OW Mg bz cz Mz
                  go_wp2_with (first | (at_len; refine wpList_lenB rfl _ rfl rfl HMG.out ?_))
                  refine (HL.out).mono ?_
                  rintro e w9 ⟨rfl, rfl⟩
                  go_wp2_with fail
                  go_ret
                  exact ⟨rfl, b0.trans (HBZ.out.mono b0.size)⟩
    · have hd1 : decide (50 < (n1 : Int)) = false := decide_eq_false (by omega)
      have hd2 : (50 : Int) < (n2 : Int) := by omega
      go_enter Try.func5, Try.ntmps5
      go_wp2_with fail
      refine (HW.out _).mono ?_
      rintro e w0 ⟨rfl, b0⟩
      go_wp2_with fail
      go_ret
      exact ⟨rfl, b0⟩
  · have hd1 : (50 : Int) < (n1 : Int) := by omega
    go_enter Try.func5, Try.ntmps5
    go_wp2_with fail
    refine (HW.out _).mono ?_
    rintro e w0 ⟨rfl, b0⟩
    go_wp2_with fail
    go_ret
    exact ⟨rfl, b0⟩

end Go.Proofs.Ytkmhgcdjmfafhaa

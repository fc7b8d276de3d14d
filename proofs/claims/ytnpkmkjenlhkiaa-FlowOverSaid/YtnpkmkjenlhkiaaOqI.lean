/- The contracts of reaches and of ended; a row parted in two. Conditions: the queue stands, its numbers go on from its beginning to its end, fewer than 2^31 in all. -/
import Derived.Test.YtnpkmkjenlhkiaaOqG
import Derived.WalkMore
namespace Go.Proofs.Ytnpkmkjenlhkiaa
set_option linter.unusedVariables false
set_option linter.unusedSimpArgs false
open Go.RowKit

theorem st_tot {b en : Nat} {ks : List Ky} (hb : b < 4294967296) (h : Chn b ks en) (ht : tot ks < 4294967296) : st b en = tot ks := by
  have h1 := h.end_ hb
  have h2 := st_on_self hb (tot ks : Int)
  rw [← h1] at h2
  omega

section
variable {base : Nat} {w : World} {qb : Nat} {v : Value} {l : List Pc} {en : Nat}
set_option maxHeartbeats 1600000 in
theorem reaches_any (h : Qu 97 base w qb v l en) (b a : Nat) (hb : b < 4294967296) (ha : a < 4294967296) (hc : Chn b (l.map Pc.key) en) (ht : tot (l.map Pc.key) ≤ 2147483648) :
    Calls Try.prog 79 #[ptr qb, .int .u32 (a : Int)] w fun e w' => e = .returned (.bool (decide (st b a ≤ tot (l.map Pc.key)))) ∧ Below w.heap.size w w' := by
  have HB := Lib.hid (Begin_any h)
  have HE := Lib.hid (End_any h)
  rw [hc.beg] at HB
  have hst := st_tot hb hc (by omega)
  have hen := h.num
  have HS := Lib.hid (fun W => Steps_any b en W hb hen)
  rw [hst] at HS
  generalize tot (l.map Pc.key) = n at *
  have HI := Lib.hid (fun W => In_any a b ((n : Int) + 1) W ha hb (by omega))
  have hd : decide ((st b a : Int) < (n : Int) + 1) = decide (st b a ≤ n) := by
    rw [decide_eq_decide]
    omega
  rw [hd] at HI
  generalize decide (st b a ≤ n) = d at *
  clear hd hst hc h
  unfold ptr at *
  go_enter Try.func79, Try.ntmps79
  go_wp2_with fail
  refine (HB.out).mono ?_
  rintro e w1 ⟨rfl, rfl⟩
  go_wp2_with fail
  refine (HB.out).mono ?_
  rintro e w1 ⟨rfl, rfl⟩
  go_wp2_with fail
  refine (HE.out).mono ?_
  rintro e w1 ⟨rfl, rfl⟩
  go_wp2_with fail
  refine (HS.out _).mono ?_
  rintro e w2 ⟨rfl, b2⟩
  go_wp2_with fail
  refine (HI.out _).mono ?_
  rintro e w3 ⟨rfl, b3⟩
  go_wp2_with fail
  go_ret
  exact ⟨rfl, below_trans b2 b3⟩

theorem drop_getK {ks : List Ky} {j : Nat} (h : j < ks.length) : ks.drop j = ks[j] :: ks.drop (j + 1) := List.drop_eq_getElem_cons h
theorem cnt_stop {k : Ky} {ks : List Ky} {d : Nat} (h : d < k.len) : cnt (k :: ks) d = 0 := by
  unfold cnt
  rw [if_neg (by omega)]
theorem cnt_go {k : Ky} {ks : List Ky} {d : Nat} (h : k.len ≤ d) : cnt (k :: ks) d = cnt ks (d - k.len) + 1 := by
  show (if k.len ≤ d then _ else _) = _
  rw [if_pos h]

set_option maxRecDepth 8000 in
set_option maxHeartbeats 3200000 in
theorem ended_any (h : Qu 97 base w qb v l en) (b a : Nat) (hb : b < 4294967296) (ha : a < 4294967296) (hc : Chn b (l.map Pc.key) en) (hd : ∀ p ∈ l, p.dn ≤ 1099511627776) (hl : l.length ≤ 1073741824) :
    Calls Try.prog 80 #[ptr qb, .int .u32 (a : Int)] w fun e w' => e = .returned (.int .i64 (cnt (l.map Pc.key) (st b a) : Int)) ∧ Below w.heap.size w w' := by
  have HB := Lib.hid (Begin_any h)
  rw [hc.beg] at HB
  have HS := Lib.hid (fun W => Steps_any b a W hb ha)
  have hst := st_lt b a
  have H := Lib.hid h
  have HD := Lib.hid hd
  have hlt := h.lt
  have c0 := h.c0
  obtain ⟨A, c, rfl, hcp, hmx⟩ := h.row.slice
  generalize hn : l.length = n at *
  have HN := Lib.hid hn
  generalize hdd : st b a = dd at *
  clear h hd hc hn hdd
  unfold ptr at *
  go_enter Try.func80, Try.ntmps80
  go_wp2_with fail
  go_step3
  go_wp2_with fail
  refine (HB.out).mono ?_
  rintro e w1 ⟨rfl, rfl⟩
  go_wp2_with fail
  refine (HS.out _).mono ?_
  rintro e w2 ⟨rfl, b2⟩
  have c2 := (b2.cell hlt).trans c0
  have HW2 := Lib.hid b2
  clear b2 c0 HB HS
  go_wp2_with fail
  go_step3
  go_wp2_with fail
  go_loopw [5, 6, 19] (fun x y i wr => ∃ (j r : Nat), j ≤ n ∧ i = .int .i64 j ∧ x = .int .i64 j ∧ y = .int .i64 (r : Int) ∧ r ≤ dd ∧ cnt (l.map Pc.key) dd = j + cnt ((l.map Pc.key).drop j) r ∧ Below w1.heap.size w1 wr) (fun _ _ i _ => n - (intOf i).toNat)
  case atStart => exact ⟨0, dd, Nat.zero_le _, rfl, rfl, rfl, Nat.le_refl _, by simp, HW2.out⟩
  case round =>
    obtain ⟨j, r, hj, rfl, rfl, rfl, hrd, hcn, hbl⟩ := hrel
    have HCN := Lib.hid hcn
    have HBL := Lib.hid hbl
    clear hcn
    by_cases hlt2 : j < n
    · have hjl : j < l.length := by rw [HN.out]; exact hlt2
      have hps := (H.out.row.below hbl).ps (fun p hp => ((H.out.ok p hp).below hbl).pg)
      obtain ⟨g, o, rfl, hr⟩ := hps.at_ hlt2
      have HPG := Lib.hid (hps.ok hlt2)
      have HDN := Lib.hid (HD.out _ (getD_memP hjl))
      have hdk : (l.map Pc.key).drop j = (l.getD j zP).key :: (l.map Pc.key).drop (j + 1) := by
        rw [drop_getK (by simpa using hjl)]
        simp [List.getD_eq_getElem?_getD, hjl]
      have HCN := HCN
      rw [hdk] at HCN
      clear hps hdk hjl hbl
      generalize l.getD j zP = p at *
      have HLN := Lib.hid (fun W (hW : PG W p) => long_any p W hW HDN.out)
      have hls := len_pc HPG.out
      have hlb : p.key.len ≤ 1099511627778 := by
        have := HDN.out
        rw [hls]
        unfold bn
        split <;> split <;> omega
      clear hls
      have HST := Lib.hid (@cnt_stop p.key ((l.map Pc.key).drop (j + 1)) r)
      have HGO := Lib.hid (@cnt_go p.key ((l.map Pc.key).drop (j + 1)) r)
      generalize p.key.len = m at *
      by_cases hgt : r < m
      · have hgi : (r : Int) < (m : Int) := by omega
        have HC0 : Hid (cnt (l.map Pc.key) dd = j) := Lib.hid (by rw [HCN.out, HST.out hgt]; rfl)
        clear HST HGO HCN
        go_wp2_with (first
          | ((with_reducible refine wpList_here ?_); refine wpList_loadV (o := ⟨some 22, _, _, _, _, _⟩) rfl 52 (.tmp 21) rfl _ _ p.vals rfl hr _ Try.underlying52 rfl infoPc ?_)
          | ((with_reducible refine wpList_here ?_); refine wpList_allocV (o := ⟨some 8, _, _, _, _, _⟩) rfl 52 rfl zP.vals zeroPc _ rfl ?_; intro w4 z4 b4 s4)
          | ((with_reducible refine wpList_here ?_); refine wpList_storeV rfl 52 (.tmp 8) (.tmp 22) rfl _ _ p.vals rfl rfl z4 rfl (pc_one p) infoPc ?_; intro w5 z5 g5 s5; have b5 := v_below_g b4 g5 b4.size (Nat.le_refl _); clear z4 b4 g5)
          | ((with_reducible refine wpList_here ?_); refine wpList_loadV (o := ⟨some 23, _, _, _, _, _⟩) rfl 52 (.tmp 8) rfl _ _ p.vals rfl z5.range _ Try.underlying52 rfl infoPc ?_)
          | (go_at_call 78; refine (HLN.out w5 (HPG.out.below b5)).mono ?_; rintro e w6 ⟨rfl, b6⟩; have b7 := HBL.out.trans ((below_trans b5 b6).mono HBL.out.size); clear z5 b5 b6))
        rw [Exit.noGoto_ret]
        go_ret
        exact ⟨by rw [HC0.out]; rfl, b7⟩
      · have hgi : decide ((r : Int) < (m : Int)) = false := decide_eq_false (by omega)
        have HC1 : Hid (cnt (l.map Pc.key) dd = j + 1 + cnt ((l.map Pc.key).drop (j + 1)) (r - m)) := Lib.hid (by rw [HCN.out, HGO.out (by omega)]; omega)
        have hw : IntKind.i64.wrap ((r : Int) - (m : Int)) = ((r - m : Nat) : Int) := by rw [IntKind.wrap_i64]; omega
        clear HST HGO HCN
        go_wp2_with (first
          | ((with_reducible refine wpList_here ?_); refine wpList_loadV (o := ⟨some 22, _, _, _, _, _⟩) rfl 52 (.tmp 21) rfl _ _ p.vals rfl hr _ Try.underlying52 rfl infoPc ?_)
          | ((with_reducible refine wpList_here ?_); refine wpList_allocV (o := ⟨some 8, _, _, _, _, _⟩) rfl 52 rfl zP.vals zeroPc _ rfl ?_; intro w4 z4 b4 s4)
          | ((with_reducible refine wpList_here ?_); refine wpList_storeV rfl 52 (.tmp 8) (.tmp 22) rfl _ _ p.vals rfl rfl z4 rfl (pc_one p) infoPc ?_; intro w5 z5 g5 s5; have b5 := v_below_g b4 g5 b4.size (Nat.le_refl _); clear z4 b4 g5)
          | ((with_reducible refine wpList_here ?_); refine wpList_loadV (o := ⟨some 23, _, _, _, _, _⟩) rfl 52 (.tmp 8) rfl _ _ p.vals rfl z5.range _ Try.underlying52 rfl infoPc ?_)
          | (go_at_call 78; refine (HLN.out w5 (HPG.out.below b5)).mono ?_; rintro e w6 ⟨rfl, b6⟩; have b7 := HBL.out.trans ((below_trans b5 b6).mono HBL.out.size); clear z5 b5 b6))
        go_roundw
        case rel => exact ⟨j + 1, r - m, by omega, by go_num, by go_num, rfl, by omega, HC1.out, b7⟩
        case measure => simp [intOf]; omega
    · obtain rfl : j = n := by omega
      have hz : (l.map Pc.key).drop j = [] := List.drop_eq_nil_of_le (by simp [HN.out])
      rw [hz] at HCN
      have HC0 : Hid (cnt (l.map Pc.key) dd = j) := Lib.hid (by rw [HCN.out]; rfl)
      clear HCN hz
      go_wp2_with fail
      rw [Exit.noGoto_ret]
      go_ret
      exact ⟨by rw [HC0.out]; rfl, hbl⟩
end
end Go.Proofs.Ytnpkmkjenlhkiaa

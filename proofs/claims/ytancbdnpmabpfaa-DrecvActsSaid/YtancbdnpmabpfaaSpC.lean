/- slices.Replace at runs: some runs, one behind the other, become one. Conditions: the slice holds runs, at most 2^40; the new run lies in a block of its own. -/
import Derived.Test.YtancbdnpmabpfaaSpB
namespace Go.Proofs.Ytancbdnpmabpfaa
set_option linter.unusedVariables false
set_option linter.unusedSimpArgs false
open Go.RowKit

theorem insert_any {w : World} {v : Value} {l : List Rn} (h : Row w v l) {i : Nat} (hi : i ≤ l.length) {b : Nat} {x : Rn} (hb : v.ownBlock ≠ some b) (hbs : w.heap[b]? = some (.cells (rv [x]).toArray 61 (0, 0))) (hU : l.length ≤ 1099511627776) :
    Calls Try.prog 60 #[v, .int .i64 (i : Int), .slice (some ⟨b, 0, none⟩) 1 1] w (RepR w v (l.take i ++ x :: l.drop i)) := by
  have hx : w.rangeAt b 0 (rv [x]) := fun j u hj => by rw [cell_of_row w b (0 + j) _ _ (0, 0) hbs]; simpa using hj
  have hbl : b < w.heap.size := (Array.getElem?_eq_some_iff.1 hbs).1
  rcases Nat.lt_or_ge i l.length with hlt | hge
  · rcases h with ⟨rfl, rfl⟩ | ⟨g, o, c, cs, rfl, hg, h1, h2, h3, h4⟩
    · simp at hlt
    · by_cases hr : l.length + 1 ≤ c
      · exact insert_room ⟨cs, hg, h3⟩ h4 hr h2 hlt hx (fun e => hb (by rw [e]; rfl)) hbs hU
      · exact insert_grow h4 (Array.getElem?_eq_some_iff.1 hg).1 (by omega) h1 h2 hlt hx hbl hU
  · obtain rfl : i = l.length := by omega
    have := insert_end h hx hU
    simpa using this

set_option maxRecDepth 8000 in
set_option maxHeartbeats 3200000 in
/-- Replace where the last ones go. -/
theorem replace_last {w : World} {g o c : Nat} {l : List Rn} (hB : Blk w g o c) (h4 : w.rangeAt g o (rv l)) (hc : l.length ≤ c) (h2 : c ≤ 9223372036854775807) {i : Nat} (hi : i < l.length) {b : Nat} {x : Rn} (hx : w.rangeAt b 0 (rv [x])) (hU : l.length ≤ 1099511627776) :
    Calls Try.prog 48 #[.slice (some ⟨g, o, none⟩) l.length c, .int .i64 (i : Int), .int .i64 (l.length : Int), .slice (some ⟨b, 0, none⟩) 1 1] w (RepR w (.slice (some ⟨g, o, none⟩) l.length c) (l.take i ++ [x])) := by
  obtain ⟨n, hn⟩ : ∃ n, n = l.length := ⟨_, rfl⟩
  have hsplit := h4
  rw [← List.take_append_drop i l, rv_append, rangeAt_append, rv_length] at hsplit
  have htl : (l.take i).length = i := by simp; omega
  obtain ⟨hs1, _⟩ := hsplit
  have hr := run_room2 (P := Try.prog) w 56 61 56 undRun infoRun g o i c b 1 x hx (by omega) (hB.there _ _ (by omega))
  obtain ⟨W1, hW1⟩ : ∃ W1, W1 = w.setCells g (o + i * 2) (rv [x]) := ⟨_, rfl⟩
  have hB1 : Blk W1 g o c := by rw [hW1]; exact hB.set _ _
  have hR1 : W1.rangeAt g o (rv (l.take i ++ [x])) := by
    rw [rv_append, rangeAt_append, rv_length, htl, hW1]
    exact ⟨World.rangeAt_setCells_apart hs1 _ _ _ (.inr (.inl (by rw [rv_length, htl]; omega))), World.rangeAt_setCells_same _ _ _ _ (hB.there _ _ (by simp [rv]; omega))⟩
  have hC1 : Ch w W1 (fun k => (Value.slice (some ⟨g, o, none⟩) n c).ownBlock = some k) := by
    rw [hW1]
    exact Ch.setCells (m := fun k => (Value.slice (some ⟨g, o, none⟩) n c).ownBlock = some k) (fun _ => rfl) _ _ (Ch.refl w _)
  rw [← hW1] at hr
  have key : ∀ W, Blk W g o c → W.rangeAt g o (rv (l.take i ++ [x])) → Ch w W (fun k => (Value.slice (some ⟨g, o, none⟩) n c).ownBlock = some k) → RepR w (.slice (some ⟨g, o, none⟩) n c) (l.take i ++ [x]) (.returned (.slice (some ⟨g, o, none⟩) (i + 1) c)) W := fun W q1 q2 q3 =>
    ⟨_, rfl, q1.row (by simp; omega) (by omega) h2 q2, q3, fun k hk => .inl hk⟩
  have hz1 : ¬ ((i : Int) = (n : Int)) := by omega
  have hz3 : (i : Int) ≤ n := by omega
  have hz10 : (i : Int) ≤ (c : Int) := by omega
  have hz11 : (n : Int) ≤ (c : Int) := by omega
  rw [← hn]
  by_cases hl : i + 1 < n
  · obtain ⟨zs, e1, e2⟩ := run_clear2 (P := Try.prog) W1 56 61 0 undRun infoRun (some ⟨g, o + (i + 1) * 2, none⟩) g (o + (i + 1) * 2) (n - (i + 1)) (c - (i + 1)) (fun _ => rfl) (hB1.there _ _ (by omega))
    have HF := Lib.hid (key (W1.setCells g (o + (i + 1) * 2) zs) (hB1.set _ _) (World.rangeAt_setCells_apart hR1 _ _ _ (.inr (.inl (by rw [rv_length]; simp; omega)))) (Ch.setCells (m := fun k => (Value.slice (some ⟨g, o, none⟩) n c).ownBlock = some k) (fun _ => rfl) _ _ hC1))
    generalize W1.setCells g (o + (i + 1) * 2) zs = W2 at *
    have hz2 : (i : Int) + 1 < (n : Int) := by omega
    have hz4 : ¬ c = i + 1 := by omega
    have hz5 : (0 : Int) ≤ (i : Int) + 1 := by omega
    have hz6 : (i : Int) + 1 ≤ (n : Int) := by omega
    have hz7 : ((i : Int) + 1).toNat = i + 1 := by omega
    clear key hB1 hR1 hC1 hW1 htl hs1 hx h4 hB hn e1
    go_enter Try.func48, Try.ntmps48
    go_wp2_with (first | (at_builtin; refine Lib.wpList_append_run _ rfl _ _ _ _ rfl _ _ rfl rfl _ _ hr ?_) | (at_builtin; refine wpList_clear2 _ rfl _ _ rfl _ rfl e2 ?_))
    go_ret
    exact HF.out
  · have hz2 : ¬ ((i : Int) + 1 < (n : Int)) := by omega
    have HF := Lib.hid (key W1 hB1 hR1 hC1)
    clear key hB1 hR1 hC1 hW1 htl hs1 hx h4 hB hn
    go_enter Try.func48, Try.ntmps48
    go_wp2_with (at_builtin; refine Lib.wpList_append_run _ rfl _ _ _ _ rfl _ _ rfl rfl _ _ hr ?_)
    go_ret
    exact HF.out

set_option maxRecDepth 8000 in
set_option maxHeartbeats 4000000 in
/-- Replace where some are behind. -/
theorem replace_mid {w : World} {g o c : Nat} {l : List Rn} (hB : Blk w g o c) (h4 : w.rangeAt g o (rv l)) (hc : l.length ≤ c) (h2 : c ≤ 9223372036854775807) {i j : Nat} (hij : i < j) (hj : j < l.length) {b : Nat} {x : Rn} (hx : w.rangeAt b 0 (rv [x])) (hb : b ≠ g) (hU : l.length ≤ 1099511627776) :
    Calls Try.prog 48 #[.slice (some ⟨g, o, none⟩) l.length c, .int .i64 (i : Int), .int .i64 (j : Int), .slice (some ⟨b, 0, none⟩) 1 1] w (RepR w (.slice (some ⟨g, o, none⟩) l.length c) (l.take i ++ x :: l.drop j)) := by
  obtain ⟨n, hn⟩ : ∃ n, n = l.length := ⟨_, rfl⟩
  have htl : (l.take i).length = i := by simp; omega
  have htj : (l.take j).length = j := by simp; omega
  have hs1 : w.rangeAt g o (rv (l.take i)) := by
    have hsplit := h4
    rw [← List.take_append_drop i l, rv_append, rangeAt_append, rv_length] at hsplit
    exact hsplit.1
  have hs2 : w.rangeAt g (o + j * 2) (rv (l.drop j)) := by
    have hsplit := h4
    rw [← List.take_append_drop j l, rv_append, rangeAt_append, rv_length, htj] at hsplit
    exact hsplit.2
  have hdl : (rv (l.drop j)).length = (n - j) * 2 := by rw [rv_length]; simp [hn]
  obtain ⟨t, ht⟩ : ∃ t, t = i + 1 + (n - j) := ⟨_, rfl⟩
  obtain ⟨W1, hW1⟩ : ∃ W1, W1 = w.drew.setCells g (o + i * 2) (rv [x]) := ⟨_, rfl⟩
  obtain ⟨W2, hW2⟩ : ∃ W2, W2 = W1.drew.setCells g (o + (i + 1) * 2) (rv (l.drop j)) := ⟨_, rfl⟩
  have hB1 : Blk W1 g o c := by rw [hW1]; exact Blk.set (w := w.drew) hB _ _
  have hB2 : Blk W2 g o c := by rw [hW2]; exact Blk.set (w := W1.drew) hB1 _ _
  have th2 : W1.drew.there g (o + (i + 1) * 2) ((n - j) * 2) := by simpa using hB1.there ((i + 1) * 2) ((n - j) * 2) (by omega)
  have c1 : ∀ ty dc, (Builtin.copy_ #[56, 56] ty #[.slice (some ⟨g, o + i * 2, none⟩) (t - i) dc, .slice (some ⟨b, 0, none⟩) 1 1]).run Try.prog w.drew = .ok (goInt (1 : Nat)) W1 := fun ty dc => by
    rw [hW1, run_copy2 (P := Try.prog) w.drew _ _ ty 61 g (o + i * 2) (t - i) dc b 0 1 1 (rv [x]) undRun sz2 (by rw [rv_length]; simp only [Nat.min_def, List.length_singleton]; (try split) <;> omega) (by simpa using hx) (by show w.drew.there g (o + i * 2) 2; simpa using hB.there (i * 2) 2 (by omega)) (rv_one _)]
    congr 2
    simp only [Nat.min_def]; (try split) <;> omega
  have hs3 : W1.drew.rangeAt g (o + j * 2) (rv (l.drop j)) := by
    rw [hW1, World.rangeAt_drew]
    exact World.rangeAt_setCells_apart (w := w.drew) (by simpa using hs2) _ _ _ (.inr (.inr (by simp [rv]; omega)))
  have c2 : ∀ ty dc sc, (Builtin.copy_ #[56, 56] ty #[.slice (some ⟨g, o + (i + 1) * 2, none⟩) (t - (i + 1)) dc, .slice (some ⟨g, o + j * 2, none⟩) (n - j) sc]).run Try.prog W1.drew = .ok (goInt (n - j : Nat)) W2 := fun ty dc sc => by
    rw [hW2, run_copy2 (P := Try.prog) W1.drew _ _ ty 61 g (o + (i + 1) * 2) (t - (i + 1)) dc g (o + j * 2) (n - j) sc (rv (l.drop j)) undRun sz2 (by rw [hdl]; simp only [Nat.min_def]; (try split) <;> omega) hs3 (by rw [hdl]; exact th2) (rv_one _)]
    congr 2
    simp only [Nat.min_def]; (try split) <;> omega
  have hR2 : W2.rangeAt g o (rv (l.take i ++ x :: l.drop j)) := by
    rw [rv_append, rangeAt_append, rv_length, htl, show rv (x :: l.drop j) = rv [x] ++ rv (l.drop j) from rfl, rangeAt_append, hW2]
    refine ⟨World.rangeAt_setCells_apart (w := W1.drew) ?_ _ _ _ (.inr (.inl (by rw [rv_length, htl]; omega))), World.rangeAt_setCells_apart (w := W1.drew) ?_ _ _ _ (.inr (.inl (by simp [rv]; omega))), ?_⟩
    · rw [hW1, World.rangeAt_drew]
      exact World.rangeAt_setCells_apart (w := w.drew) (by simpa using hs1) _ _ _ (.inr (.inl (by rw [rv_length, htl]; omega)))
    · rw [hW1, World.rangeAt_drew]
      exact World.rangeAt_setCells_same _ _ _ _ (by simpa [rv] using hB.there (i * 2) 2 (by omega))
    · rw [show o + i * 2 + (rv [x]).length = o + (i + 1) * 2 from by simp [rv]; omega]
      exact World.rangeAt_setCells_same _ _ _ _ (by rw [hdl]; exact th2)
  have hC2 : Ch w W2 (fun k => (Value.slice (some ⟨g, o, none⟩) n c).ownBlock = some k) := by
    rw [hW2, hW1]
    exact Ch.setCells (m := fun k => (Value.slice (some ⟨g, o, none⟩) n c).ownBlock = some k) (fun _ => rfl) _ _ (Ch.setCells (m := fun k => (Value.slice (some ⟨g, o, none⟩) n c).ownBlock = some k) (fun _ => rfl) _ _ (Ch.refl w _).drew).drew
  obtain ⟨A3, o3, hA3⟩ : ∃ (A3 : Option Addr) (o3 : Nat), A3 = if c = t then some ⟨g, o, none⟩ else some ⟨g, o + t * 2, none⟩ := ⟨_, 0, rfl⟩
  have hsl3 : ∀ W, (Instr.slice 56 (.slice (some ⟨g, o, none⟩) n c) (some (.int .i64 (t : Int))) none none).run Try.prog W = .ok (.slice A3 (n - t) (c - t)) W := fun W => by
    rw [run_slice_l (P := Try.prog) W 56 _ n c elemRun .i64 (t : Int) (by omega) (by omega), sizeOfRun, hA3]
    by_cases e : c = t
    · simp [Result.andThen, sliced, e]
    · simp [Result.andThen, sliced, e, Addr.add_mid]
  obtain ⟨zs, e1, e2⟩ := run_clear2 (P := Try.prog) W2 56 61 0 undRun infoRun A3 g (o + t * 2) (n - t) (c - t) (fun hp => by rw [hA3, if_neg (by omega)]) (hB2.there _ _ (by omega))
  have HF : RepR w (.slice (some ⟨g, o, none⟩) n c) (l.take i ++ x :: l.drop j) (.returned (.slice (some ⟨g, o, none⟩) t c)) (W2.setCells g (o + t * 2) zs) :=
    ⟨_, rfl, (hB2.set _ _).row (by simp; omega) (by omega) h2 (World.rangeAt_setCells_apart hR2 _ _ _ (.inr (.inl (by rw [rv_length]; simp; omega)))), Ch.setCells (m := fun k => (Value.slice (some ⟨g, o, none⟩) n c).ownBlock = some k) (fun _ => rfl) _ _ hC2, fun k hk => .inl hk⟩
  have HF := Lib.hid HF
  generalize W2.setCells g (o + t * 2) zs = W3 at *
  have hz1 : ¬ ((i : Int) = (j : Int)) := by omega
  have hz2 : ¬ ((j : Int) = (n : Int)) := by omega
  have hw1 : IntKind.i64.wrap ((i : Int) + 1) = (i : Int) + 1 := by rw [IntKind.wrap_i64]; omega
  have hw2 : IntKind.i64.wrap ((i : Int) + 1 + ((n - j : Nat) : Int)) = (t : Int) := by rw [IntKind.wrap_i64]; omega
  have hz3 : (i : Int) ≤ n := by omega
  have hz4 : ¬ (c : Int) < (t : Int) := by omega
  have hz5 : (0 : Int) ≤ (i : Int) + 1 := by omega
  have hz6 : (i : Int) + 1 ≤ (j : Int) := by omega
  have hz7 : ((i : Int) + 1).toNat = i + 1 := by omega
  have hz8 : ¬ c = i := by omega
  have hz9 : ¬ c = j := by omega
  have hz10 : (i : Int) ≤ (c : Int) := by omega
  have hz11 : (n : Int) ≤ (c : Int) := by omega
  have hz12 : (j : Int) ≤ (c : Int) := by omega
  have hz13 : (j : Int) ≤ (n : Int) := by omega
  have hz14 : (i : Int) ≤ (j : Int) := by omega
  have hz15 : (t : Int) ≤ (c : Int) := by omega
  have hz16 : ¬ c = i + 1 := by omega
  have hz17 : (i : Int) + 1 ≤ (t : Int) := by omega
  have hz18 : (i : Int) ≤ (t : Int) := by omega
  rw [← hn]
  have h_n := Lib.hid hn
  have h_t := Lib.hid ht
  have h_ij := Lib.hid hij
  clear hB1 hB2 th2 hR2 hC2 hW1 hW2 htl htj hs1 hs2 hs3 hx h4 hB hn ht e1 hA3 hdl hij hj
  go_enter Try.func48, Try.ntmps48
  go_wp2_with fail
  go_region
  go_wp2_with (at_builtin; refine wpList_copy2 _ rfl _ _ _ _ rfl _ _ rfl rfl (c1 _ _) ?_)
  go_region_law (refine step_copy2 _ rfl _ _ 56 56 rfl _ _ (by simp [Act.eval, Act.put]) (by simp [Act.eval, Act.put]) (c2 _ _ _) ?_)
  go_wp2_with (at_builtin; refine wpList_clear2 _ rfl _ _ rfl _ rfl e2 ?_)
  go_ret
  exact HF.out

set_option maxRecDepth 8000 in
set_option maxHeartbeats 1600000 in
theorem replace_any {w : World} {v : Value} {l : List Rn} (h : Row w v l) {i j : Nat} (hij : i ≤ j) (hj : j ≤ l.length) {b : Nat} {x : Rn} (hb : v.ownBlock ≠ some b) (hbs : w.heap[b]? = some (.cells (rv [x]).toArray 61 (0, 0))) (hU : l.length ≤ 1099511627776) :
    Calls Try.prog 48 #[v, .int .i64 (i : Int), .int .i64 (j : Int), .slice (some ⟨b, 0, none⟩) 1 1] w (RepR w v (l.take i ++ x :: l.drop j)) := by
  have hx : w.rangeAt b 0 (rv [x]) := fun j u hj => by rw [cell_of_row w b (0 + j) _ _ (0, 0) hbs]; simpa using hj
  rcases Nat.lt_or_ge i j with hlt | hge
  · rcases h with ⟨rfl, rfl⟩ | ⟨g, o, c, cs, rfl, hg, h1, h2, h3, h4⟩
    · simp at hj
      omega
    · rcases Nat.lt_or_ge j l.length with hjl | hjl
      · exact replace_mid ⟨cs, hg, h3⟩ h4 h1 h2 hlt hjl hx (fun e => hb (by rw [e]; rfl)) hU
      · obtain rfl : j = l.length := by omega
        have := replace_last ⟨cs, hg, h3⟩ h4 h1 h2 hlt hx hU
        simpa using this
  · obtain rfl : j = i := by omega
    have HI := Lib.hid (insert_any h hj hb hbs hU)
    obtain ⟨A, c, rfl, h1, h2⟩ := h.slice
    have hz1 : (j : Int) ≤ (c : Int) := by omega
    obtain ⟨A3, hA3⟩ : ∃ A3 : Option Addr, A3 = if c = j then A else A.map (·.add (j * 2)) := ⟨_, rfl⟩
    have hsl : ∀ W, (Instr.slice 56 (.slice A l.length c) (some (.int .i64 (j : Int))) (some (.int .i64 (j : Int))) none).run Try.prog W = .ok (.slice A3 0 (c - j)) W := fun W => by
      rw [run_slice_lh (P := Try.prog) W 56 A l.length c elemRun .i64 .i64 (j : Int) (j : Int) (by omega) (by omega) hz1, sizeOfRun, hA3]
      simp [Result.andThen, sliced]
    clear hA3
    generalize l.length = n at *
    clear h hbs hx hb
    go_enter Try.func48, Try.ntmps48
    go_wp2_with fail
    refine (HI.out).mono ?_
    rintro e w1 hh
    have HQ := Lib.hid hh
    obtain ⟨v1, rfl, -⟩ := hh
    go_wp2_with fail
    go_ret
    exact HQ.out
end Go.Proofs.Ytancbdnpmabpfaa

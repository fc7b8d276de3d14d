/- The contract of option.Get: the option that bytes begin with, and what is behind it, or an error. Condition: the slice holds bytes, at most 2^30 of them. -/
import Derived.Test.YtbbpemndkphgeaaDoorMg8
import Derived.Test.YtbbpemndkphgeaaDoorMg2
namespace Go.Proofs.YtbbpemndkphgeaaDoor
set_option linter.unusedVariables false
set_option linter.unusedSimpArgs false
open Go.RowKit

/-- An option stored onto another one: all bytes stay. -/
theorem wpList_storeO {P : Program} {ops : Array Oper} {rest : List Oper} {o : Oper} {a : Act} {w : World} {Q : Exit → Act → World → Prop} (hgd : Region.wanted o (yielded ops a.tmps) = true) (ty : TypeId) (x y : Operand) (ho : o.op = .store ty x y) (b : Nat) (u v : Opt) (hx : a.eval x = .pointer (some ⟨b, 0, none⟩)) (hy : a.eval y = .agg v.vals.toArray) (hA : Own w b u.vals)
    (hi : (P.info? ty).map (·.size) = some 14)
    (h : ∀ w', Own w' b v.vals → w.grownBy w' (some b) → Bytes8 w w' → wpList P ops Q rest (a.put o.dst undef) w') : wpList P ops Q (o :: rest) a w := by
  refine wpList_want hgd fun _ hK => wp_store_mid ty x y ho b 0 v.vals.toArray hx hy (by rw [List.size_toArray]; exact hA.there) (by rw [List.size_toArray]; exact hi) (all_oneCell_toArray (vals_one v)) (hK _ _ (h _ (hA.put rfl) (v_g_setCells b _ 0 w) fun p z hp => ?_))
  rw [World.cell?_setCells_out b v.vals 0 w p ?_]
  · exact hp
  · intro h1 h2
    rw [Nat.zero_add]
    refine Or.inr (Nat.le_of_not_lt fun h3 => ?_)
    obtain ⟨pb, po, ps⟩ := p
    simp only at h1 h2 h3
    subst h1 h2
    rw [(hA po h3).1] at hp
    exact vals_no_byte u po z hp

/-- What bytes that begin with the kind k, and go on with r, tell. -/
def getK (k : Nat) (r : List UInt8) : Opt × List UInt8 × Int :=
  if r.length < long (tab k) then (zK 0, [], 3)
  else if okL (tab k) (r.take (long (tab k))) && rightB (prs (zK k) (tab k) (r.take (long (tab k)))) then (prs (zK k) (tab k) (r.take (long (tab k))), r.drop (long (tab k)), 0)
  else (zK 0, [], 4)
/-- .. and any bytes. -/
def getR (bs : List UInt8) : Opt × List UInt8 × Int :=
  if bs.length = 0 then (zK 0, [], 3) else getK (num (bs.take 1)) (bs.drop 1)
/-- What Get leaves. -/
def GetMade (W : World) (r : Opt × List UInt8 × Int) (e : Ending) (w' : World) : Prop :=
  ∃ A c, e = .returned (.tuple #[.agg r.1.vals.toArray, .slice A r.2.1.length c, .int .i64 r.2.2]) ∧ RB w' A r.2.1.length c r.2.1 ∧ Below W.heap.size W w'
theorem getMade_err {W w' : World} {e : Ending} {x : Int} (h : e = .returned (.tuple #[.agg (zK 0).vals.toArray, .slice none 0 0, .int .i64 x])) (hb : Below W.heap.size W w') : GetMade W (zK 0, [], x) e w' :=
  ⟨none, 0, h, RB.nil_ _, hb⟩

set_option maxRecDepth 8000 in
set_option maxHeartbeats 1600000 in
theorem Get_none (A : Option Addr) (c : Nat) (w : World) :
    Calls Tryd.prog 48 #[.slice A 0 c] w (GetMade w (zK 0, [], 3)) := by
  go_enter Tryd.func48, Tryd.ntmps48
  go_wp2_with (first
    | ((with_reducible refine wpList_here ?_); refine wpList_allocV rfl 52 rfl (zK 0).vals zeroOpt _ rfl ?_; intro w1 z1 b1 s1))
  refine (Take_few A 0 c 1 _ (by decide)).mono ?_
  rintro e w2 ⟨rfl, rfl⟩
  go_wp2_with (first
    | ((with_reducible refine wpList_here ?_); refine wpList_storeV rfl 52 (.tmp 2) (.tmp 20) rfl _ _ (zK 0).vals rfl rfl z1 rfl (vals_one _) infoOpt ?_; intro w4 z4 g4 s4))
  have hb4 := v_below_g b1 g4 b1.size (Nat.le_refl _)
  exact bodyPost_ret (results_c2 rfl _ _ w.heap.size (zK 0).vals (.slice none 0 0) (.int .i64 3) _ rfl rfl rfl z4.range Tryd.underlying52 rfl infoOpt) rfl (getMade_err rfl hb4)

theorem tabs_zK (k : Nat) : tab (zK k).kind = tab k := rfl

set_option maxRecDepth 8000 in
set_option maxHeartbeats 1600000 in
theorem Get_some (A : Option Addr) (n c : Nat) (bs : List UInt8) (w : World) (h : RB w A (n + 1) c bs) (hn : n ≤ 1073741824) :
    Calls Tryd.prog 48 #[.slice A (n + 1) c] w (GetMade w (getK (num (bs.take 1)) (bs.drop 1))) := by
  have hx : num (bs.take 1) < 256 := by
    have h1 := num_lt (bs.take 1)
    have h2 : 256 ^ (bs.take 1).length ≤ 256 ^ 1 := Nat.pow_le_pow_right (by decide) (List.length_take_le _ _)
    omega
  have HT : Hid (∀ W, RB W A (n + 1) c bs → Calls Tryd.prog 47 #[.slice A (n + 1) c, .int .i64 1] W (TakeMade W (num (bs.take 1)) n (bs.drop 1))) := Lib.hid (fun W hW => Take_ok A (n + 1) c 1 bs W hW (by have : wn 1 = 1 := rfl; omega) (by omega))
  generalize num (bs.take 1) = k at *
  generalize bs.drop 1 = r at *
  have hz := zK_ok (k := (k : Int)) (by unfold isInt; omega)
  have hl := fine_tab (k : Int)
  go_enter Tryd.func48, Tryd.ntmps48
  go_wp2_with (first
    | ((with_reducible refine wpList_here ?_); refine wpList_allocV rfl 52 rfl (zK 0).vals zeroOpt _ rfl ?_; intro w1 z1 b1 s1))
  refine (HT.out _ (h.below b1)).mono ?_
  rintro e w2 ⟨A2, c2, rfl, r2, b2⟩
  have z2 := z1.below b2
  have b3 := below_trans b1 b2
  clear z1 b1 b2 s1 h
  go_wp2_with (first
    | ((with_reducible refine wpList_here ?_); refine wpList_allocV rfl 52 rfl (zK 0).vals zeroOpt _ rfl ?_; intro w4 z4 b4 s4)
    | ((with_reducible refine wpList_here ?_); refine wpList_storeV rfl 52 (.tmp 8) (.tmp 24) rfl _ _ (zK k).vals rfl rfl z4 rfl (vals_one _) infoOpt ?_; intro w5 z5 g5 s5))
  have d5 := v_below_g b4 g5 b4.size (Nat.le_refl _)
  have r5 := r2.below d5
  have y5 := z2.below d5
  have b6 := below_trans b3 d5
  have hg : w.heap.size < w2.heap.size := z2.lt (Nat.zero_lt_succ _)
  clear z4 b4 g5 d5 r2 z2 s4 s5
  have hrl := r5.len
  have HG : Hid (getK k r = if n < long (tab k) then (zK 0, [], 3) else if okL (tab k) (r.take (long (tab k))) && rightB (prs (zK k) (tab k) (r.take (long (tab k)))) then (prs (zK k) (tab k) (r.take (long (tab k))), r.drop (long (tab k)), 0) else (zK 0, [], 4)) := Lib.hid (by unfold getK; rw [hrl])
  have h48 := hl.long (tab (k : Int)).length
  rw [List.take_of_length_le (Nat.le_refl _)] at h48
  clear hrl
  refine (fields_any w2.heap.size (zK k) w5 z5).mono ?_
  rw [tabs_zK]
  rintro e w6 ⟨A6, c6, rfl, f6, b7⟩
  have z6 := z5.below b7
  have r6 := r5.below b7
  have y6 := y5.below b7
  have b8 := below_trans b6 b7
  clear z5 r5 y5 b7 b6
  have HPO := Lib.hid (fun b => prs_ok (tab (k : Int)) (zK k) b hz hl.1)
  have HLO := Lib.hid (fun W h => long_any A6 (tab (k : Int)).length c6 w2.heap.size (tab (k : Int)) W h hl)
  have HFI := Lib.hid (fun B d b W h1 h2 h3 => fill_any A6 (tab (k : Int)).length c6 w2.heap.size (tab (k : Int)) (zK k) B d b W h1 hl h2 h3)
  generalize (tab (k : Int)) = l at *
  generalize hm : long l = m at *
  have HM := Lib.hid hm
  clear hm
  go_wp2_with fail
  refine (HLO.out _ f6).mono ?_
  rintro e w7 ⟨rfl, b9⟩
  have z7 := z6.below b9
  have r7 := r6.below b9
  have y7 := y6.below b9
  have f7 := f6.below b9
  have b10 := below_trans b8 b9
  clear z6 r6 y6 f6 b9 b8
  by_cases hlt : n < m
  · go_wp2_with fail
    refine (Cut_above A2 n c2 m _ (by omega)).mono ?_
    rintro e w8 ⟨rfl, rfl⟩
    go_wp2_with (first
      | ((with_reducible refine wpList_here ?_); refine wpList_storeV rfl 52 (.tmp 2) (.tmp 36) rfl _ _ (zK 0).vals rfl rfl y7 rfl (vals_one _) infoOpt ?_; intro w9 z9 g9 s9))
    have b11 := v_below_g b10 g9 b10.size (Nat.le_refl _)
    rw [if_pos hlt] at HG
    refine bodyPost_ret (results_c2 rfl _ _ w.heap.size (zK 0).vals (.slice none 0 0) (.int .i64 3) _ rfl rfl rfl z9.range Tryd.underlying52 rfl infoOpt) rfl ?_
    rw [HG.out]
    exact getMade_err rfl b11
  · rw [if_neg hlt] at HG
    have HCU := Lib.hid (fun W h => Cut_ok A2 n c2 m r W h (by omega) (by omega))
    go_wp2_with fail
    refine (HCU.out _ r7).mono ?_
    rintro e w8 ⟨A8, c8, A9, c9, rfl, r8, r9, b11⟩
    have z8 := z7.below b11
    have y8 := y7.below b11
    have f8 := f7.below b11
    have b12 := below_trans b10 b11
    clear z7 r7 y7 f7 b11 b10
    generalize r.take m = t at *
    generalize r.drop m = q at *
    have HQ := Lib.hid r9.len
    have HF2 : Hid (Calls Tryd.prog 65 #[.slice A6 l.length c6, .slice A8 m c8] w8 (FillMade w8 w2.heap.size (zK k) l t)) := Lib.hid (by
      exact HFI.out A8 c8 t w8 f8 z8 r8)
    clear HFI HLO
    go_wp2_with fail
    refine HF2.out.mono ?_
    rintro e w10 ⟨rfl, g10, y10, p10⟩
    have r10 := r9.bytes y10
    have y11 := y8.far g10 (by intro e; injection e with e; omega)
    have b13 := v_below_g b12 g10 b12.size (by omega)
    have HP10 := Lib.hid p10
    clear r9 r8 y8 z8 f8 b12 g10 y10 p10
    cases hk : okL l t with
    | false =>
      rw [hk] at HG
      go_wp2_with (first
        | ((with_reducible refine wpList_here ?_); refine wpList_storeV rfl 52 (.tmp 2) (.tmp 47) rfl _ _ (zK 0).vals rfl rfl y11 rfl (vals_one _) infoOpt ?_; intro w12 z12 g12 s12))
      have b14 := v_below_g b13 g12 b13.size (Nat.le_refl _)
      refine bodyPost_ret (results_c2 rfl _ _ w.heap.size (zK 0).vals (.slice none 0 0) (.int .i64 4) _ rfl rfl rfl z12.range Tryd.underlying52 rfl infoOpt) rfl ?_
      rw [HG.out, if_neg (by simp)]
      exact getMade_err rfl b14
    | true =>
      have p11 := HP10.out hk
      rw [hk, Bool.true_and] at HG
      have hpo := HPO.out t
      clear HP10 HPO hk
      generalize prs (zK k) l t = P at *
      have HR := Lib.hid (fun W => Right_any P W hpo)
      go_wp2_with (first
        | ((with_reducible refine wpList_here ?_); refine wpList_loadV rfl 52 (.tmp 8) rfl _ _ P.vals rfl p11.range _ Tryd.underlying52 rfl infoOpt ?_))
      refine (HR.out _).mono ?_
      rintro e w12 ⟨rfl, b14⟩
      have p12 := p11.below b14
      have y12 := y11.below b14
      have r12 := r10.below b14
      have b15 := below_trans b13 b14
      clear p11 y11 r10 b13 b14
      cases hr : rightB P with
      | false =>
        rw [hr] at HG
        go_wp2_with (first
          | ((with_reducible refine wpList_here ?_); refine wpList_storeV rfl 52 (.tmp 2) (.tmp 47) rfl _ _ (zK 0).vals rfl rfl y12 rfl (vals_one _) infoOpt ?_; intro w13 z13 g13 s13))
        have b16 := v_below_g b15 g13 b15.size (Nat.le_refl _)
        refine bodyPost_ret (results_c2 rfl _ _ w.heap.size (zK 0).vals (.slice none 0 0) (.int .i64 4) _ rfl rfl rfl z13.range Tryd.underlying52 rfl infoOpt) rfl ?_
        rw [HG.out, if_neg (by simp)]
        exact getMade_err rfl b16
      | true =>
        rw [hr] at HG
        go_wp2_with (first
          | ((with_reducible refine wpList_here ?_); refine wpList_loadV rfl 52 (.tmp 8) rfl _ _ P.vals rfl p12.range _ Tryd.underlying52 rfl infoOpt ?_)
          | ((with_reducible refine wpList_here ?_); refine wpList_storeO rfl 52 (.tmp 2) (.tmp 48) rfl _ (zK 0) P rfl rfl y12 infoOpt ?_; intro w13 z13 g13 q13))
        have b16 := v_below_g b15 g13 b15.size (Nat.le_refl _)
        have r13 := r12.bytes q13
        refine bodyPost_ret (results_c2 rfl _ _ w.heap.size P.vals (.slice A9 (n - m) c9) (.int .i64 0) _ rfl rfl rfl z13.range Tryd.underlying52 rfl infoOpt) rfl ?_
        rw [HG.out, if_pos trivial]
        refine ⟨A9, c9, ?_, ?_, b16⟩
        · show _ = Ending.returned (.tuple #[.agg P.vals.toArray, .slice A9 q.length c9, .int .i64 0])
          rw [HQ.out]
        · show RB w13 A9 q.length c9 q
          rw [HQ.out]
          exact r13
end Go.Proofs.YtbbpemndkphgeaaDoor

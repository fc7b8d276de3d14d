/- The contracts of optionsIn and of segment.Get, for a right segment's bytes. Conditions: the segment stands, and is right; the slice holds its bytes; the table of widths stands.
The contract of segment.Get, for a right segment's bytes: that segment. Conditions: the segment stands, and is right; the slice holds its bytes; the table of widths stands.
The contracts of the document's own answers of layer 2: its sum, and bytes with their sum. Condition: a slice that holds bytes, at most 2^39 of them. -/
import Derived.Test.YtbbpemndkphgeaaDoorMg17
import Derived.Test.YtbbpemndkphgeaaDoorMg1
import Derived.Test.YtbbpemndkphgeaaDoorMg9
namespace Go.Proofs.YtbbpemndkphgeaaDoor
set_option linter.unusedVariables false
set_option linter.unusedSimpArgs false
open Go.RowKit

/-- Options, as cells. -/
def ocs (os : List Opt) : List Value := os.flatMap Opt.vals
theorem ocs_snoc (os : List Opt) (x : Opt) : ocs (os ++ [x]) = ocs os ++ x.vals := by simp [ocs]
theorem ocs_length (os : List Opt) : (ocs os).length = os.length * 14 := by
  induction os with
  | nil => rfl
  | cons o r ih =>
    have : ocs (o :: r) = o.vals ++ ocs r := rfl
    rw [this, List.length_append, ih, o.vals_length, List.length_cons]
    omega
theorem ocs_at (os : List Opt) : ∀ (j i : Nat), j < os.length → i < 14 → (ocs os)[j * 14 + i]? = (os.getD j (zK 0)).vals[i]? := by
  induction os with
  | nil => intro j i hj; simp at hj
  | cons o r ih =>
    intro j i hj hi
    have e : ocs (o :: r) = o.vals ++ ocs r := rfl
    rw [e]
    cases j with
    | zero =>
      rw [List.getElem?_append_left (by rw [o.vals_length]; omega), Nat.zero_mul, Nat.zero_add]
      rfl
    | succ j =>
      rw [List.getElem?_append_right (by rw [o.vals_length]; omega), o.vals_length, show (j + 1) * 14 + i - 14 = j * 14 + i from by omega, ih j i (by simpa using hj) hi]
      rfl
theorem infoOptF : (Tryd.prog.info? 52).map (fun i => (i.zero, i.size, i.bytes)) = some (some (.agg (zK 0).vals.toArray), 14, 96) := by kernel_rfl
/-- A slice of the call's own that holds options. -/
theorem OS.of_own {w : World} {base n : Nat} {e : TypeId} {v : Value} {os : List Opt} (h : w.ownsRow base e 14 v n (ocs os)) (hok : ∀ o ∈ os, o.ok) : ∃ A c, v = .slice A n c ∧ OS w A n c os := by
  have hl : os.length = n := by have h1 := h.1; rw [ocs_length] at h1; omega
  rcases h.2 with ⟨rfl, rfl⟩ | ⟨g, cap, cur, rfl, hb, hg, hnc, hm, hsz, ht⟩
  · obtain rfl : os = [] := List.eq_nil_of_length_eq_zero hl
    exact ⟨none, 0, rfl, OS.nil_ w⟩
  · refine ⟨_, cap, rfl, hl, hnc, hm, hok, fun hn => ⟨g, 0, rfl, fun j hj i u hu => ?_⟩⟩
    have hi : i < 14 := by
      have := (List.getElem?_eq_some_iff.1 hu).1
      rw [Opt.vals_length] at this
      exact this
    have h1 := World.ownsRow.cellAt h (j * 14 + i) (by omega)
    rw [ocs_at os j i (by omega) hi, hu] at h1
    rw [Nat.zero_add]
    exact h1
/-- append of one option. -/
theorem wpList_appO {ops : Array Oper} {rest : List Oper} {o : Oper} {a : Act} {w : World} {Q : Exit → Act → World → Prop} (hgd : o.guard = none) (s x : Operand)
    (ho : o.op = .call { callee := .builtin .append, args := #[s, x], argTypes := #[23, 23] })
    (base : Nat) (v : Value) (n : Nat) (os : List Opt) (hs : a.eval s = v) (hown : w.ownsRow base 52 14 v n (ocs os))
    (A : Option Addr) (c : Nat) (y : Opt) (hx : a.eval x = .slice A 1 c) (hy : OS w A 1 c [y]) (hn : n ≤ 1000) (hb : base ≤ w.heap.size)
    (h : ∀ v' w', w'.ownsRow base 52 14 v' (n + 1) (ocs (os ++ [y])) → w.grownBy w' v.ownBlock → wpList Tryd.prog ops Q rest (a.put o.dst v') w') : wpList Tryd.prog ops Q (o :: rest) a w := by
  obtain ⟨i, hi, hz, h1, h2⟩ := info_parts infoOptF
  obtain ⟨b, p, rfl, hc⟩ := hy.at_ (j := 0) (by omega)
  obtain ⟨v', w', hrun, g2, g3, _, _⟩ := run_append_own_at (P := Tryd.prog) w base 23 o.type 52 i _ 14 96 Tryd.underlying23 hi hz h1 h2 rfl (by decide) v n (ocs os) hown ⟨b, p, none⟩ 1 c y.vals
    (by rw [y.vals_length]) (fun j u hu => by rw [Addr.add_lit]; have := hc j u hu; simpa using this) (vals_one y) (by unfold maxLen; omega) (by omega) hb
  rw [← ocs_snoc] at g2
  exact Lib.wpList_append_run w hgd s x 23 23 ho _ _ hs hx v' w' hrun (h v' w' g2 g3)
theorem bytes_grown {base n : Nat} {w w' : World} {v : Value} {xs : List Value} {A : Option Addr} {m c : Nat} {l : List UInt8} (h : RB w A m c l) (hown : w.ownsRow base 52 14 v n xs) (hx : ∀ u ∈ xs, True) (hg : w.grownBy w' v.ownBlock) (hne : ∀ g, v.ownBlock = some g → ∀ b o, A = some ⟨b, o, none⟩ → 0 < m → b ≠ g) : RB w' A m c l := by
  refine ⟨h.1, h.2.1, h.2.2.1, fun hm => ?_⟩
  obtain ⟨b, o, e, hc⟩ := h.2.2.2 hm
  refine ⟨b, o, e, fun j hj => ?_⟩
  rw [hg.cell_far _ (World.block_lt_of_cell? w _ (hc j hj)) (fun e2 => hne b e2.symm b o e hm rfl)]
  exact hc j hj

set_option maxRecDepth 8000 in
set_option maxHeartbeats 3200000 in
theorem optsIn_ok (k : Nat) (A : Option Addr) (n c : Nat) (os : List Opt) (tail : List UInt8) (w : World) (h : RB w A n c (obs os ++ tail)) (hl : os.length = k) (hk : k ≤ 100) (hn : n ≤ 1073741824) (hok : ∀ o ∈ os, o.ok) (hall : os.all rightB = true) :
    Calls Tryd.prog 30 #[.slice A n c, .int .i64 (k : Int)] w fun e w' => ∃ B d A2 c2, e = .returned (.tuple #[.slice B k d, .slice A2 tail.length c2, .int .i64 0]) ∧ OS w' B k d os ∧ Fr w B k ∧ RB w' A2 tail.length c2 tail ∧ Below w.heap.size w w' := by
  have HLN := Lib.hid hl
  have HOK := Lib.hid hok
  have HALL := Lib.hid hall
  clear hl hok hall
  go_enter Tryd.func30, Tryd.ntmps30
  go_wp2_with fail
  go_loopw [0, 7, 12] (fun v l i wr => ∃ (j : Nat) (B : Option Addr) (m d : Nat), j ≤ k ∧ i = .int .i64 j ∧ v = .slice B m d ∧ m ≤ n ∧ RB wr B m d (obs (os.drop j) ++ tail) ∧ wr.ownsRow w.heap.size 52 14 l j (ocs (os.take j)) ∧ Below w.heap.size w wr) (fun _ _ i _ => k - (intOf i).toNat)
  case atStart => exact ⟨0, A, n, c, Nat.zero_le _, rfl, rfl, Nat.le_refl _, h, World.ownsRow_nil _ _ _ _, Below.refl _ _⟩
  case round =>
    obtain ⟨j, B, m, d, hj, rfl, rfl, hmn, hr, ho, hb⟩ := hrel
    clear h
    rename_i u7
    have hl7 : ∃ l : Value, l = u7 := ⟨_, rfl⟩
    obtain ⟨l, rfl⟩ := hl7
    by_cases hlt : j < k
    · have hjl : j < os.length := by rw [HLN.out]; exact hlt
      have hok := HOK.out (os.getD j (zK 0)) (by simp [List.getD_eq_getElem?_getD, List.getElem?_eq_getElem hjl])
      have hx := all_at HALL.out hjl
      have HT := Lib.hid (take_getD (os := os) (j := j) hjl)
      have HD : Hid (obs (os.drop j) ++ tail = ob (os.getD j (zK 0)) ++ (obs (os.drop (j + 1)) ++ tail)) := Lib.hid (by
        rw [drop_getD hjl]
        show (ob _ ++ obs _) ++ tail = _
        rw [List.append_assoc])
      rw [HD.out] at hr
      have HG : Hid (∀ W, RB W B m d (ob (os.getD j (zK 0)) ++ (obs (os.drop (j + 1)) ++ tail)) → Calls Tryd.prog 48 #[.slice B m d] W (GetFr W (os.getD j (zK 0), obs (os.drop (j + 1)) ++ tail, 0))) := Lib.hid (fun W hW => by
        have h1 := Get_fr B m d _ W hW (by omega) (by have h2 := hW.len; rw [List.length_append, ob_length] at h2; omega)
        rw [getR_told hok hx] at h1
        exact h1)
      have hlen := hr.len
      rw [List.length_append] at hlen
      clear hx hjl HD
      generalize os.getD j (zK 0) = x at *
      generalize ht : obs (os.drop (j + 1)) ++ tail = t at *
      have HTT := Lib.hid ht
      clear ht
      go_wp2_with fail
      refine (HG.out _ hr).mono ?_
      rintro e w2 ⟨A2, c2, rfl, r2, f2, b2⟩
      have F2 : Hid (∀ g, l.ownBlock = some g → ∀ b o, A2 = some ⟨b, o, none⟩ → 0 < t.length → b ≠ g) := Lib.hid (fun g hg b p hA hn e3 => by
        obtain ⟨b', p', e1, hb'⟩ := f2 hn
        have h1 := (ho.lt g hg).2
        rw [hA] at e1
        injection e1 with e1
        injection e1 with e1 _
        omega)
      clear f2
      have o2 := own_below ho b2
      have b3 := below_trans hb b2
      have r2 : RB w2 A2 t.length c2 t := r2
      clear hr ho hb b2 HG
      dsimp only
      go_wp2_with (first
        | ((with_reducible refine wpList_here ?_); refine wpList_allocV (o := ⟨some 8, _, _, _, _, _⟩) rfl 52 rfl (zK 0).vals zeroOpt _ rfl ?_; intro w4 z4 d4 s4)
        | ((with_reducible refine wpList_here ?_); refine wpList_storeV rfl 52 (.tmp 8) (.tmp 17) rfl _ _ x.vals rfl rfl z4 rfl (vals_one x) infoOpt ?_; intro w5 z5 g5 s5; have d5 := v_below_g d4 g5 d4.size (Nat.le_refl _); have r5 := r2.below d5; have o5 := own_below o2 d5; have b5 := below_trans b3 d5; clear z4 d4 s4 r2 o2 b3 g5 s5 d5)
        | ((with_reducible refine wpList_here ?_); refine wpList_loadV (o := ⟨some 24, _, _, _, _, _⟩) rfl 52 (.tmp 8) rfl _ _ x.vals rfl z5.range _ Tryd.underlying52 rfl infoOpt ?_)
        | ((with_reducible refine wpList_here ?_); refine wpList_litO (op := ⟨some 25, _, _, _, _, _⟩) rfl (.tmp 24) rfl x rfl hok _ rfl ?_; intro w6 h6 d6; have r6 := r5.below d6; have o6 := own_below o5 d6; have b6 := below_trans b5 d6; clear r5 o5 b5 d6 z5)
        | (at_builtin; refine wpList_appO rfl (.tmp 23) (.tmp 25) rfl w.heap.size _ j (os.take j) rfl o6 _ _ x rfl h6 (by omega) b6.size ?_; intro v7 w7 o7 g7))
      have r7 := bytes_grown r6 o6 (fun _ _ => trivial) g7 F2.out
      have b7 := b6.grown g7 b6.size fun k hk => (o6.lt k hk).1
      go_roundw
      case rel => exact ⟨j + 1, A2, t.length, c2, by omega, by go_num, rfl, by omega, by rw [HTT.out]; exact r7, by rw [HT.out]; exact o7, b7⟩
      case measure => simp [intOf]; omega
    · obtain rfl : j = k := by omega
      rw [List.drop_eq_nil_of_le (by rw [HLN.out]; exact Nat.le_refl _)] at hr
      rw [List.take_of_length_le (by rw [HLN.out]; exact Nat.le_refl _)] at ho
      have hr : RB wr B m d tail := hr
      have hfr : ∀ C e, l = .slice C j e → Fr w C j := fun C e he hn => by
        subst he
        rcases ho.2 with ⟨h1, h2⟩ | ⟨g, cap, cur, h1, h2, _⟩
        · omega
        · injection h1 with h1
          exact ⟨g, 0, h1, h2⟩
      obtain ⟨C, e, rfl, hos⟩ := OS.of_own ho HOK.out
      have F := hfr C e rfl
      clear hfr
      have hl := hr.len
      subst hl
      clear ho
      go_wp2_with fail
      go_ret3
      exact ⟨C, e, B, d, rfl, hos, F, hr, hb⟩
end Go.Proofs.YtbbpemndkphgeaaDoor

namespace Go.Proofs.YtbbpemndkphgeaaDoor
set_option linter.unusedVariables false
set_option linter.unusedSimpArgs false
open Go.RowKit

theorem OS.far {W w w' : World} {A : Option Addr} {n c g : Nat} {os : List Opt} (h : OS w A n c os) (hg : w.grownBy w' (some g)) (hf : Fr W A n) (hlt : g < W.heap.size) : OS w' A n c os :=
  ⟨h.1, h.2.1, h.2.2.1, h.2.2.2.1, fun hn => by
    obtain ⟨b, o, e, hc⟩ := h.2.2.2.2 hn
    obtain ⟨b', o', e', hb⟩ := hf hn
    rw [e] at e'
    injection e' with e'
    injection e' with e1 _
    refine ⟨b, o, e, fun j hj i v hv => ?_⟩
    have h1 := hc j hj i v hv
    rw [hg.cell_far _ (World.block_lt_of_cell? w _ h1) (by intro e2; injection e2 with e2; simp only at e2; omega)]
    exact h1⟩
theorem sbs_take (s : Seg) : (sbs s).take ((sbs s).length - 2) = hby s.head 10 ++ (obs s.os ++ (s.ds ++ pad (sby s))) := by
  have e : sbs s = (sby s ++ pad (sby s)) ++ be (of (sby s)) 2 := rfl
  have hl : (sbs s).length - 2 = (sby s ++ pad (sby s)).length := by
    rw [e, List.length_append, be_length]
    omega
  rw [hl, e, List.take_left' rfl]
  unfold sby
  simp only [List.append_assoc]
/-- A segment with other slices. -/
def withS (s : Seg) (O : Option Addr) (d : Nat) (D : Option Addr) (f : Nat) : Seg := { s with oA := O, oc := d, dA := D, dc := f }
theorem with_same (s : Seg) (O : Option Addr) (d : Nat) (D : Option Addr) (f : Nat) : SameS (withS s O d D f) s := ⟨rfl, rfl, rfl, rfl, rfl, rfl, rfl, rfl, rfl, rfl, rfl, rfl, rfl⟩
theorem with_right (s : Seg) (O : Option Addr) (d : Nat) (D : Option Addr) (f : Nat) : rightS (withS s O d D f) = rightS s := rfl
theorem with_ok {w w' : World} {s : Seg} (h : SG w s) {O : Option Addr} {d : Nat} {D : Option Addr} {f : Nat} (ho : OS w' O s.on d s.os) (hd : RB w' D s.dn f s.ds) : SG w' (withS s O d D f) :=
  ⟨h.src, h.dst, h.sport, h.dport, h.seq, h.ack, h.win, ho, hd⟩

set_option maxRecDepth 8000 in
set_option maxHeartbeats 3200000 in
theorem SegGet_ok (s : Seg) (A : Option Addr) (n c : Nat) (w : World) (h : SG w s) (hr : rightS s = true) (hb : RB w A n c (sbs s)) (hT : Tab w) :
    Calls Tryd.prog 13 #[.slice A n c] w fun e w' => ∃ O d D f, e = .returned (.tuple #[.agg (withS s O d D f).vals.toArray, .int .i64 0]) ∧ SG w' (withS s O d D f) ∧ Below w.heap.size w w' := by
  obtain ⟨r1, r2, r3, r4, r5, h4, h8, hall⟩ := right_all hr
  have hlen := sbs_length h
  have hle := obs_le s.os
  rw [h.opts.len] at hle
  have hn : (sbs s).length = n := hb.len
  have hn1 : n ≤ 1000 := by omega
  obtain ⟨p, hp⟩ : ∃ p, n = p + 2 := ⟨n - 2, by omega⟩
  have HG := Lib.hid (fun W hW => Good_any A n c (sbs s) W hW (by omega))
  rw [show sgood (sbs s) = true from sgood_sput (sby s)] at HG
  obtain ⟨hrun, hb2⟩ := hb.head_ p (by omega)
  have hpt : (sbs s).take p = hby s.head 10 ++ (obs s.os ++ (s.ds ++ pad (sby s))) := by
    rw [← sbs_take, hn, hp]
    rfl
  rw [hpt] at hb2
  have h19 : (hby s.head 10).length = 19 := hby_length _ 10 (Nat.le_refl _)
  have hpl := hb2.len
  rw [List.length_append, h19] at hpl
  have HHI : Hid (∀ W, RB W A p c (hby s.head 10 ++ (obs s.os ++ (s.ds ++ pad (sby s)))) → Tab W → Calls Tryd.prog 28 #[.slice A p c] W fun e w' => ∃ A2 c2, e = .returned (.tuple #[.agg (hv s.head).toArray, .slice A2 (p - 19) c2, .int .i64 0]) ∧ RB w' A2 (p - 19) c2 (obs s.os ++ (s.ds ++ pad (sby s))) ∧ Below W.heap.size W w') := Lib.hid (fun W hW hT => by
    have h1 := headIn_ok A p c _ W hW (by omega) (by omega) hT
    rw [hin_head h hr, List.drop_left' h19] at h1
    exact h1)
  have HSE := Lib.hid (fun W hW => segment_any s W hW hr)
  have HOI := Lib.hid (fun A2 c2 W hW => optsIn_ok s.on A2 (p - 19) c2 s.os (s.ds ++ pad (sby s)) W hW h.opts.len (by omega) (by omega) h.opts.2.2.2.1 hall)
  have HCU : Hid (∀ A3 c3 W, RB W A3 (s.ds ++ pad (sby s)).length c3 (s.ds ++ pad (sby s)) → Calls Tryd.prog 31 #[.slice A3 (s.ds ++ pad (sby s)).length c3, .int .i64 (s.dn : Int)] W (CutMade W s.dn s.ds ((s.ds ++ pad (sby s)).length - s.dn) (pad (sby s)))) := Lib.hid (fun A3 c3 W hW => by
    have hd := h.data.len
    have hpad : (pad (sby s)).length ≤ 1 := by rw [pad_length]; omega
    have h1 := Cut_ok A3 _ c3 s.dn (s.ds ++ pad (sby s)) W hW (by rw [List.length_append]; omega) (by rw [List.length_append]; omega)
    rw [List.take_left' hd, List.drop_left' hd] at h1
    exact h1)
  have HIH : Hid ((Tryd.prog.info? 46).map (·.size) = some (hv s.head).length) := Lib.hid (by rw [hv_length]; exact infoHead)
  have HCE : Hid (∀ W g, Own W g (hv s.head) → W.cell? ⟨g, 6, none⟩ = some (.int .u64 ((flN s.syn s.acks s.fin s.rst : Nat) : Int)) ∧ W.cell? ⟨g, 8, none⟩ = some (.int .u64 (s.on : Int)) ∧ W.cell? ⟨g, 9, none⟩ = some (.int .u64 (s.dn : Int))) := Lib.hid (fun W g hW => by
    have hl : (hv s.head).length = 10 := by rw [hv_length]; rfl
    exact ⟨(hW 6 (by omega)).1, (hW 8 (by omega)).1, (hW 9 (by omega)).1⟩)
  have hfl := flN_lt s.syn s.acks s.fin s.rst
  have hsub : (n : Int) - 2 = (p : Int) := by omega
  have HB := Lib.hid hb
  have HB2 := Lib.hid hb2
  have HS := Lib.hid h
  have HRT := Lib.hid hr
  have HTT := Lib.hid hT
  have hcc := hb.cap
  have hcm := hb.max
  clear hlen hle hn hp hpt h19 hpl hb hb2 r1 r2 r3 r4 r5 hall h hr hT
  generalize hF : flN s.syn s.acks s.fin s.rst = F at *
  clear hF
  generalize hL : (s.ds ++ pad (sby s)).length = L at *
  clear hL
  go_enter Tryd.func13, Tryd.ntmps13
  go_wp2_with (first
    | ((with_reducible refine wpList_here ?_); refine wpList_allocV (o := ⟨some 2, _, _, _, _, _⟩) rfl 26 rfl _ zeroSeg _ rfl ?_; intro w1 z1 b1 s1))
  refine (HG.out _ (HB.out.below b1)).mono ?_
  rintro e w2 ⟨rfl, b2⟩
  have z2 := z1.below b2
  have b3 := below_trans b1 b2
  clear z1 b1 s1 b2 HG
  go_wp2_with fail
  refine (HHI.out _ (HB2.out.below b3) (HTT.out.below b3)).mono ?_
  rintro e w4 ⟨A4, c4, rfl, r4, b4⟩
  have z4 := z2.below b4
  have b5 := below_trans b3 b4
  have l4 := z4.lt (Nat.zero_lt_succ _)
  clear z2 b3 b4 HHI HB HB2 HTT
  go_wp2_with (first
    | ((with_reducible refine wpList_here ?_); refine wpList_allocV (o := ⟨some 4, _, _, _, _, _⟩) rfl 46 rfl _ zeroHead _ rfl ?_; intro w6 y6 d6 s6)
    | ((with_reducible refine wpList_here ?_); refine wpList_storeV rfl 46 (.tmp 4) (.tmp 19) rfl _ _ (hv s.head) rfl rfl y6 (by rw [hv_length, hv_length]; rfl) (hv_one _) HIH.out ?_; intro w7 y7 g7 s7; have d7 := v_below_g d6 g7 d6.size (Nat.le_refl _); have z7 := z4.below d7; have r7 := r4.below d7; have b7 := below_trans b5 d7; have l7 : w4.heap.size < w7.heap.size := (by omega); clear y6 d6 s6 g7 s7 d7 z4 r4 b5)
    | ((with_reducible refine wpList_here ?_); refine wpList_loadV (o := ⟨some 26, _, _, _, _, _⟩) rfl 46 (.tmp 4) rfl _ _ (hv s.head) rfl y7.range _ Tryd.underlying46 rfl HIH.out ?_))
  generalize w4.heap.size = g4 at *
  refine (HSE.out _ (HS.out.below b7)).mono ?_
  rintro e w8 ⟨rfl, b8⟩
  have z8 := z7.below b8
  have y8 := y7.below b8
  have r8 := r7.below b8
  have b9 := below_trans b7 b8
  have l8 := b8.size
  clear z7 y7 r7 b7 b8 HSE
  go_wp2_with (first
    | ((with_reducible refine wpList_here ?_); refine wpList_allocV (o := ⟨some 7, _, _, _, _, _⟩) rfl 26 rfl _ zeroSeg _ rfl ?_; intro w10 x10 d10 s10)
    | ((with_reducible refine wpList_here ?_); refine wpList_storeV rfl 26 (.tmp 7) (.tmp 27) rfl _ _ (bareS s).vals rfl rfl x10 rfl (sv_one _) infoSeg ?_; intro w11 x11 g11 s11; have d11 := v_below_g d10 g11 d10.size (Nat.le_refl _); have z11 := z8.below d11; have y11 := y8.below d11; have r11 := r8.below d11; have b11 := below_trans b9 d11; have l11 : w8.heap.size < w11.heap.size := (by omega); clear x10 d10 s10 g11 s11 d11 z8 y8 r8 b9; obtain ⟨k6, k8, k9⟩ := HCE.out _ _ y11))
  generalize w8.heap.size = g7 at *
  refine (HOI.out _ _ _ r11).mono ?_
  rintro e w12 ⟨O, d, A12, c12, rfl, o12, f12, r12, b12⟩
  have z12 := z11.below b12
  have y12 := y11.below b12
  have x12 := x11.below b12
  have b13 := below_trans b11 b12
  have l12 := b12.size
  have q11 := x12.cels.c11
  have qf11 := (x12 11 (by rw [(bareS s).vals_length]; omega)).2
  clear z11 y11 r11 b11 b12 x11 k6 k8 k9 HOI
  have X13 := Lib.hid (x12.set 11 (by rw [(bareS s).vals_length]; omega) (.slice O s.on d))
  have G13 := Lib.hid (v_g_set w12 g7 11 (.slice O s.on d))
  have Y13 := Lib.hid (bytes_set (.slice O s.on d) q11 (by intro z e; cases e))
  clear x12
  go_upto_region 8 with fail
  have x13 := X13.out
  have g13 := G13.out
  have y8' := Y13.out
  generalize w12.setCell ⟨g7, 11, none⟩ (.slice O s.on d) = w13 at *
  have z13 := z12.far g13 (by intro e; injection e with e; omega)
  have y13 := y12.far g13 (by intro e; injection e with e; omega)
  have o13 := o12.far g13 f12 l11
  have r13 := r12.bytes y8'
  have b14 := v_below_g b13 g13 b13.size (by omega)
  have l13 := g13.size
  obtain ⟨k6, k8, k9⟩ := HCE.out _ _ y13
  clear X13 G13 Y13 g13 y8' z12 y12 o12 r12 b13 q11 qf11
  go_wp2_with fail
  refine (HCU.out _ _ _ r13).mono ?_
  rintro e w14 ⟨D, f, A15, c15, rfl, da, rp, b15⟩
  have z14 := z13.below b15
  have y14 := y13.below b15
  have x14 := x13.below b15
  have o14 := o13.below b15
  have b16 := below_trans b14 b15
  have l14 := b15.size
  have q12 : w14.cell? ⟨g7, 12, none⟩ = some (.slice none 0 0) := (x14 12 (by rw [List.length_set, (bareS s).vals_length]; omega)).1
  have qf12 := (x14 12 (by rw [List.length_set, (bareS s).vals_length]; omega)).2
  have X15 : Hid (Own (w14.setCell ⟨g7, 12, none⟩ (.slice D s.dn f)) g7 (withS s O d D f).vals) := Lib.hid (x14.set 12 (by rw [List.length_set, (bareS s).vals_length]; omega) (.slice D s.dn f))
  have G15 := Lib.hid (v_g_set w14 g7 12 (.slice D s.dn f))
  have Y15 := Lib.hid (bytes_set (.slice D s.dn f) q12 (by intro z e; cases e))
  clear z13 y13 x13 o13 r13 b14 b15 k6 k8 k9 x14 HCU
  go_upto_region 11 with fail
  have x15 := X15.out
  have g15 := G15.out
  have y8' := Y15.out
  generalize w14.setCell ⟨g7, 12, none⟩ (.slice D s.dn f) = w15 at *
  have z15 := z14.far g15 (by intro e; injection e with e; omega)
  have y15 := y14.far g15 (by intro e; injection e with e; omega)
  have o15 := o14.far g15 f12 l11
  have da15 := da.bytes y8'
  have rp15 := rp.bytes y8'
  have b17 := v_below_g b16 g15 b16.size (by omega)
  have l15 := g15.size
  obtain ⟨k6, k8, k9⟩ := HCE.out _ _ y15
  have hF16 : decide ((16 : Int) ≤ (F : Int)) = false := decide_eq_false (by omega)
  clear X15 G15 Y15 g15 y8' z14 y14 o14 da rp b16 q12 qf12 k8 k9 y15
  go_wp2_with fail
  refine (filling_pad _ _ _ (sby s) _ rp15).mono ?_
  rintro e w16 ⟨rfl, rfl⟩
  go_wp2_with (first
    | ((with_reducible refine wpList_here ?_); refine wpList_loadV (o := ⟨some 65, _, _, _, _, _⟩) rfl 26 (.tmp 7) rfl _ _ (withS s O d D f).vals rfl x15.range _ Tryd.underlying26 rfl infoSeg ?_))
  refine (SRight_any (withS s O d D f) _ (with_ok HS.out o15 da15)).mono ?_
  rw [with_right, HRT.out]
  rintro e w17 ⟨rfl, b18⟩
  have z17 := z15.below b18
  have x17 := x15.below b18
  have o17 := o15.below b18
  have d17 := da15.below b18
  have b19 := below_trans b17 b18
  clear z15 x15 o15 da15 b17 b18 k6 rp15
  go_wp2_with (first
    | ((with_reducible refine wpList_here ?_); refine wpList_loadV (o := ⟨some 70, _, _, _, _, _⟩) rfl 26 (.tmp 7) rfl _ _ (withS s O d D f).vals rfl x17.range _ Tryd.underlying26 rfl infoSeg ?_)
    | ((with_reducible refine wpList_here ?_); refine wpList_storeB rfl 26 (.tmp 2) (.tmp 70) rfl _ _ (withS s O d D f).vals rfl rfl z17 rfl (sv_one _) (sv_no8 _) infoSeg ?_; intro w20 z20 g20 y20))
  have b20 := v_below_g b19 g20 b19.size (Nat.le_refl _)
  have o20 := o17.far g20 f12 (by omega)
  have d20 := d17.bytes y20
  exact bodyPost_ret (results_c1 rfl _ _ w.heap.size (withS s O d D f).vals (.int .i64 0) _ rfl rfl z20.range Tryd.underlying26 rfl infoSeg) rfl ⟨O, d, D, f, rfl, with_ok HS.out o20 d20, b20⟩
end Go.Proofs.YtbbpemndkphgeaaDoor

namespace Go.Proofs.YtbbpemndkphgeaaDoor
set_option linter.unusedSimpArgs false
set_option linter.unusedVariables false
open Go.RowKit

/-- The sum of the first 2k bytes. -/
def s2 (l : List UInt8) (k : Nat) : Nat := sm true (l.take (2 * k))
theorem s2_one (l : List UInt8) (k : Nat) (h : 2 * k < l.length) (h' : ¬ 2 * k + 1 < l.length) : s2 l (k + 1) = s2 l k + 256 * (l.getD (2 * k) 0).toNat := by
  have e : l.take (2 * (k + 1)) = l.take (2 * k + 1) := by
    rw [List.take_of_length_le (by omega), List.take_of_length_le (by omega)]
  unfold s2
  rw [e, take_snoc _ _ h, sm_snoc, List.length_take, Nat.min_eq_left (by omega), ev_even (by omega)]
  rfl
theorem s2_two (l : List UInt8) (k : Nat) (h : 2 * k + 1 < l.length) : s2 l (k + 1) = s2 l k + 256 * (l.getD (2 * k) 0).toNat + (l.getD (2 * k + 1) 0).toNat := by
  have e : l.take (2 * (k + 1)) = l.take (2 * k) ++ [l.getD (2 * k) 0] ++ [l.getD (2 * k + 1) 0] := by
    rw [show 2 * (k + 1) = 2 * k + 1 + 1 from by omega, take_snoc _ _ h, take_snoc _ _ (by omega)]
  unfold s2
  have e1 : ev (2 * k) = true := ev_even (by omega)
  have e2 : ev (2 * k + 1) = false := by rw [ev_succ, e1]; rfl
  rw [e, sm_snoc, sm_snoc, List.length_append, List.length_take, Nat.min_eq_left (by omega), List.length_singleton, e1, e2]
  rfl
theorem s2_le (l : List UInt8) (k : Nat) : s2 l k ≤ 65280 * l.length := by
  have h := sm_le true (l.take (2 * k))
  have h2 := List.length_take_le' (2 * k) l
  unfold s2
  omega
theorem s2_all (l : List UInt8) (k : Nat) (h : l.length ≤ 2 * k) : s2 l k = sm true l := by
  unfold s2
  rw [List.take_of_length_le h]

set_option maxHeartbeats 800000 in
theorem ROf_any (A : Option Addr) (n c : Nat) (l : List UInt8) (w : World) (h : RB w A n c l) (ht : n ≤ 1099511627776) :
    Calls Tryd.prog 49 #[.slice A n c] w fun e w' => e = .returned (.int .u16 (of l : Nat)) ∧ w = w' := by
  have hl := Lib.hid h.len
  have hn := h.max
  have hn' := h.cap
  go_enter Tryd.func49, Tryd.ntmps49
  go_wp2_with fail
  go_loop [3, 4] (fun x i => ∃ k : Nat, 2 * k ≤ n + 1 ∧ i = .int .i64 ((2 * k : Nat) : Int) ∧ x = .int .i64 (s2 l k : Nat)) (fun _ i => n + 2 - (intOf i).toNat)
  case atStart => exact ⟨0, by omega, rfl, rfl⟩
  case round =>
    obtain ⟨k, hk, rfl, rfl⟩ := hrel
    have hle := s2_le l k
    rw [hl.out] at hle
    by_cases hlt : 2 * k < n
    · have hx := (l.getD (2 * k) 0).toNat_lt
      obtain ⟨b, o, rfl, hc⟩ := h.at_ hlt
      by_cases hlt2 : 2 * k + 1 < n
      · have hy := (l.getD (2 * k + 1) 0).toNat_lt
        have HS := Lib.hid (s2_two l k (by rw [hl.out]; exact hlt2))
        obtain ⟨b', o', hA, hc'⟩ := h.at_ hlt2
        injection hA with hA
        injection hA with e1 e2
        subst e1 e2
        clear h
        generalize (l.getD (2 * k) 0).toNat = x at *
        generalize (l.getD (2 * k + 1) 0).toNat = y at *
        generalize s2 l k = z at *
        generalize hj : 2 * k = j at *
        have HJ := Lib.hid hj
        clear hj
        go_wp2
        go_round
        case rel => exact ⟨k + 1, by have := HJ.out; omega, by have := HJ.out; rw [show 2 * (k + 1) = j + 2 from by omega]; go_num, by rw [HS.out]; go_num⟩
        case measure => simp [intOf]; omega
      · have HS := Lib.hid (s2_one l k (by rw [hl.out]; exact hlt) (by rw [hl.out]; exact hlt2))
        clear h
        generalize (l.getD (2 * k) 0).toNat = x at *
        generalize s2 l k = z at *
        generalize hj : 2 * k = j at *
        have HJ := Lib.hid hj
        clear hj
        go_wp2
        go_round
        case rel => exact ⟨k + 1, by have := HJ.out; omega, by have := HJ.out; rw [show 2 * (k + 1) = j + 2 from by omega]; go_num, by rw [HS.out]; go_num⟩
        case measure => simp [intOf]; omega
    · have HA := Lib.hid (s2_all l k (by rw [hl.out]; omega))
      generalize s2 l k = z at *
      clear h
      generalize hj : 2 * k = j at *
      clear hj
      go_wp2_with fail
      go_loop [3] (fun t => ∃ y : Nat, y ≤ 71776119061217280 ∧ fo y = fo z ∧ t = .int .i64 (y : Int)) (fun t => (intOf t).toNat)
      case atStart => exact ⟨z, by omega, rfl, rfl⟩
      case round =>
        obtain ⟨y, hy, hf, rfl⟩ := hrel
        have HF := Lib.hid hf
        have HS := Lib.hid (fo_small y)
        have HT := Lib.hid (fo_step y)
        clear hf
        by_cases hlt : 65535 < y
        · go_wp2
          go_round
          case rel => exact ⟨y / 65536 + y % 65536, by omega, by rw [HT.out hlt]; exact HF.out, by go_num⟩
          case measure => simp [intOf]; omega
        · have H1 := Lib.hid (HF.out.symm.trans (HS.out (by omega)))
          go_wp2
          go_ret
          exact ⟨by unfold of; rw [← HA.out, H1.out]; go_num, rfl⟩

theorem rput_eq (l : List UInt8) : sput l = (l ++ pad l) ++ [UInt8.ofNat (of (l ++ pad l) / 256), UInt8.ofNat (of (l ++ pad l) % 256)] := by
  have e : of (l ++ pad l) = of l := of_eq (sm_pad l)
  have h := of_le l
  rw [e]
  unfold sput
  rw [be_two]
  congr 3
  apply UInt8.toNat_inj.1
  rw [UInt8.toNat_ofNat', UInt8.toNat_ofNat']
  omega
theorem RB.lit2 (w : World) (u v : Int) (a b : UInt8) (t : TypeId) (h : u = (a.toNat : Int)) (h' : v = (b.toNat : Int)) : RB (w.alloc (.cells #[.int .u8 u, .int .u8 v] t)) (some ⟨w.heap.size, 0, none⟩) 2 2 [a, b] := by
  subst h h'
  exact RB.lit w [a, b] t (by unfold maxLen; simp)
theorem hi_byte (s : Nat) (h : s ≤ 65535) : (s : Int) / 256 = ((UInt8.ofNat (s / 256)).toNat : Int) := by rw [UInt8.toNat_ofNat']; omega
theorem lo_byte (s : Nat) (h : s ≤ 65535) : (s : Int) % 256 = ((UInt8.ofNat (s % 256)).toNat : Int) := by rw [UInt8.toNat_ofNat']; omega

set_option maxHeartbeats 800000 in
theorem RPut_any (A : Option Addr) (n c m : Nat) (l : List UInt8) (w : World) (h : RB w A n c l) (ht : n ≤ 549755813888) (hm : m = n + n % 2 + 2) :
    Calls Tryd.prog 33 #[.slice A n c] w (OwnMade w m (sput l)) := by
  have hl := h.len
  have hn := h.max
  have hn' := h.cap
  have HL := Lib.hid hl
  have hob := of_le (l ++ pad l)
  have HR := Lib.hid (rput_eq l)
  have HX := Lib.hid (hi_byte _ hob)
  have HY := Lib.hid (lo_byte _ hob)
  have HM := Lib.hid hm
  clear hl hm
  rcases Nat.mod_two_eq_zero_or_one n with h2 | h2
  · have HP : Hid (pad l = []) := Lib.hid (by unfold pad; rw [HL.out, h2]; rfl)
    rw [HP.out, List.append_nil] at HR hob HX HY
    have hmod : ((n : Int) % 2 == 1) = false := by rw [beq_eq_false_iff_ne]; omega
    have H2 := Lib.hid h2
    clear h2 HP
    go_enter Tryd.func33, Tryd.ntmps33
    go_wp2_with (at_builtin; refine wpList_app_nil rfl (.tmp 5) (.tmp 6) 24 5 rfl Tryd.underlying24 infoByte rfl A n c l rfl h (by omega) ?_; intro A1 c1 w1 r1 o1 b1)
    refine (ROf_any _ _ _ _ _ r1 (by omega)).mono ?_
    rintro e w' ⟨rfl, rfl⟩
    generalize of l = s at *
    go_wp2_with (at_builtin; refine wpList_app_more rfl (.tmp 17) (.tmp 24) 24 5 rfl Tryd.underlying24 infoByte _ n l rfl (o1.alloc _) (b1.alloc b1.size _) _ 2 2 [UInt8.ofNat (s / 256), UInt8.ofNat (s % 256)] rfl (RB.lit2 _ _ _ _ _ _ HX.out HY.out) (by omega) ?_; intro A2 c2 w2 r2 o2 b2)
    go_ret
    have e : n + 2 = m := by have := HM.out; have := H2.out; omega
    rw [← HR.out, e] at r2 o2
    exact ⟨_, _, by rw [← e]; rfl, r2, o2, b2⟩
  · have HP : Hid (pad l = [0]) := Lib.hid (by unfold pad; rw [HL.out, h2]; rfl)
    rw [HP.out] at HR hob HX HY
    have hmod : ((n : Int) % 2 == 1) = true := by rw [beq_iff_eq]; omega
    have H2 := Lib.hid h2
    clear h2 HP
    go_enter Tryd.func33, Tryd.ntmps33
    go_wp2_with (first
      | (at_builtin; refine wpList_app_nil rfl (.tmp 5) (.tmp 6) 24 5 rfl Tryd.underlying24 infoByte rfl A n c l rfl h (by omega) ?_; intro A1 c1 w1 r1 o1 b1)
      | (at_builtin; refine wpList_app_more rfl (.tmp 12) (.tmp 13) 24 5 rfl Tryd.underlying24 infoByte _ n l rfl (o1.alloc _) (b1.alloc b1.size _) _ 1 1 [0] rfl (RB.lit1 _ _ _ _ rfl) (by omega) ?_; intro A2 c2 w2 r2 o2 b2))
    refine (ROf_any _ _ _ _ _ r2 (by omega)).mono ?_
    rintro e w' ⟨rfl, rfl⟩
    generalize of (l ++ [0]) = s at *
    go_wp2_with (at_builtin; refine wpList_app_more rfl (.tmp 17) (.tmp 24) 24 5 rfl Tryd.underlying24 infoByte _ (n + 1) (l ++ [0]) rfl (o2.alloc _) (b2.alloc b2.size _) _ 2 2 [UInt8.ofNat (s / 256), UInt8.ofNat (s % 256)] rfl (RB.lit2 _ _ _ _ _ _ HX.out HY.out) (by omega) ?_; intro A3 c3 w3 r3 o3 b3)
    go_ret
    have e : n + 1 + 2 = m := by have := HM.out; have := H2.out; omega
    rw [← HR.out, e] at r3 o3
    exact ⟨_, _, by rw [← e]; rfl, r3, o3, b3⟩
end Go.Proofs.YtbbpemndkphgeaaDoor

/- The contract of option.Put: the bytes of all options, or none, if one isn't right. Conditions: the slice holds options, at most a thousand of them. -/
import Derived.Test.YtbbpemndkphgeaaDoorOptR
import Derived.Test.YtbbpemndkphgeaaDoorSli
namespace Go.Proofs.YtbbpemndkphgeaaDoor
set_option linter.unusedVariables false
set_option linter.unusedSimpArgs false
open Go.RowKit

/-- The bytes of options. -/
def obs (os : List Opt) : List UInt8 := os.flatMap ob
theorem obs_append (a b : List Opt) : obs (a ++ b) = obs a ++ obs b := by simp [obs]
theorem ob_length (o : Opt) : (ob o).length = 1 + long (tab o.kind) := by
  unfold ob
  rw [List.length_append, be_length, toldB_length]
theorem ob_le (o : Opt) : (ob o).length ≤ 49 := by
  have h := (fine_tab o.kind).long (tab o.kind).length
  rw [List.take_of_length_le (Nat.le_refl _)] at h
  rw [ob_length]
  omega
theorem obs_le (os : List Opt) : (obs os).length ≤ 49 * os.length := by
  induction os with
  | nil => simp [obs]
  | cons o r ih =>
    have : obs (o :: r) = ob o ++ obs r := rfl
    rw [this, List.length_append, List.length_cons]
    have := ob_le o
    omega
theorem fl_obs (os : List Opt) (n : Nat) (h : os.length = n) : fl (os.map ob) n = obs os := by
  rw [fl_all _ _ (by rw [List.length_map, h])]
  simp [obs, List.flatMap]
/-- What Put leaves. -/
def PutsMade (W : World) (os : List Opt) (e : Ending) (w' : World) : Prop :=
  (os.all rightB = true → ∃ A c, e = .returned (.tuple #[.slice A (obs os).length c, .int .i64 0]) ∧ RB w' A (obs os).length c (obs os)) ∧
  (os.all rightB = false → e = .returned (.tuple #[.slice none 0 0, .int .i64 1])) ∧ Below W.heap.size W w'
/-- The values vs are slices of the call's own that hold the pieces ps in w. -/
def SlO (w : World) (base : Nat) (vs : List Value) (ps : List (List UInt8)) : Prop :=
  vs.length = ps.length ∧ ∀ j, j < ps.length → ∃ B m d, vs[j]? = some (.slice B m d) ∧ w.ownsRow base 5 1 (.slice B m d) m (bv (ps.getD j []))
section
variable {w w' : World} {base : Nat} {vs us : List Value} {ps qs : List (List UInt8)}
theorem SlO.nil_ (w : World) (base : Nat) : SlO w base [] [] := ⟨rfl, fun j hj => absurd hj (by simp)⟩
theorem SlO.sl (h : SlO w base vs ps) : Sl w vs ps :=
  ⟨h.1, fun j hj => by
    obtain ⟨B, m, d, e, ho⟩ := h.2 j hj
    obtain ⟨A, c, e2, hr, _⟩ := RB.of_own ho
    injection e2 with e3 _ e4
    subst e3 e4
    exact ⟨B, m, d, e, hr⟩⟩
theorem SlO.below (h : SlO w base vs ps) (hb : Below w.heap.size w w') : SlO w' base vs ps :=
  ⟨h.1, fun j hj => by
    obtain ⟨B, m, d, e, ho⟩ := h.2 j hj
    exact ⟨B, m, d, e, own_below ho hb⟩⟩
theorem SlO.far {e : TypeId} {size n : Nat} {v : Value} {xs : List Value} (h : SlO w base vs ps) (hv : w.ownsRow base e size v n xs) (hne : e ≠ 5) (hg : w.grownBy w' v.ownBlock) : SlO w' base vs ps :=
  ⟨h.1, fun j hj => by
    obtain ⟨B, m, d, e1, ho⟩ := h.2 j hj
    exact ⟨B, m, d, e1, own_far ho hg (own_apart ho hv (Ne.symm hne))⟩⟩
theorem SlO.snoc (h : SlO w base vs ps) {B : Option Addr} {m d : Nat} {p : List UInt8} (ho : w.ownsRow base 5 1 (.slice B m d) m (bv p)) : SlO w base (vs ++ [.slice B m d]) (ps ++ [p]) := by
  refine ⟨by simp [h.1], fun j hj => ?_⟩
  simp only [List.length_append, List.length_cons, List.length_nil] at hj
  rw [List.getD_eq_getElem?_getD]
  by_cases hlt : j < ps.length
  · obtain ⟨B, m, d, e, hr⟩ := h.2 j hlt
    rw [List.getD_eq_getElem?_getD] at hr
    rw [List.getElem?_append_left (by rw [h.1]; exact hlt), List.getElem?_append_left hlt]
    exact ⟨B, m, d, e, hr⟩
  · obtain rfl : j = ps.length := by omega
    refine ⟨B, m, d, ?_, ?_⟩
    · rw [List.getElem?_append_right (by rw [h.1]; omega), h.1]; simp
    · rw [List.getElem?_append_right (by omega)]; simpa using ho
end
theorem take_getD {os : List Opt} {j : Nat} (h : j < os.length) : os.take (j + 1) = os.take j ++ [os.getD j (zK 0)] := by
  rw [List.take_succ_eq_append_getElem h]
  simp [List.getD_eq_getElem?_getD, List.getElem?_eq_getElem h]

set_option maxRecDepth 8000 in
set_option maxHeartbeats 1600000 in
theorem Puts_any (A : Option Addr) (n c : Nat) (os : List Opt) (w : World) (h : OS w A n c os) (hn : n ≤ 1000) :
    Calls Tryd.prog 19 #[.slice A n c] w (PutsMade w os) := by
  have hmx := h.max
  have hcp := h.cap
  have HLN := Lib.hid h.len
  go_enter Tryd.func19, Tryd.ntmps19
  go_wp2_with fail
  go_loopw [4, 9] (fun v i wr => ∃ (j : Nat) (vs : List Value), j ≤ n ∧ i = .int .i64 j ∧ wr.ownsRow w.heap.size 24 1 v j vs ∧ SlO wr w.heap.size vs ((os.take j).map ob) ∧ (os.take j).all rightB = true ∧ Below w.heap.size w wr) (fun _ i _ => n - (intOf i).toNat)
  case atStart => exact ⟨0, [], Nat.zero_le _, rfl, World.ownsRow_nil _ _ _ _, SlO.nil_ w _, rfl, Below.refl _ _⟩
  case round =>
    obtain ⟨j, vs, hj, rfl, hown, hsl, hall, hb⟩ := hrel
    by_cases hlt : j < n
    · obtain ⟨b, a, rfl, hc0⟩ := h.at_ hlt
      have hc := range_below hc0 hb
      have hok := h.ok hlt
      have HT := Lib.hid (take_getD (os := os) (j := j) (by rw [HLN.out]; exact hlt))
      have HALL := Lib.hid hall
      clear h hc0 hall
      generalize os.getD j (zK 0) = x at *
      have HR := Lib.hid (fun W => Right_any x W hok)
      have HO := Lib.hid (fun W => told_any x W hok)
      cases hx : rightB x with
      | false =>
        rw [hx] at HR
        have HX := Lib.hid hx
        clear hx
        go_wp2_with (first
          | ((with_reducible refine wpList_here ?_); refine wpList_loadV rfl 52 (.tmp 11) rfl b _ x.vals rfl hc _ Tryd.underlying52 rfl infoOpt ?_)
          | ((with_reducible refine wpList_here ?_); refine wpList_allocV rfl 52 rfl (zK 0).vals zeroOpt _ rfl ?_; intro w1 z1 b1 s1)
          | ((with_reducible refine wpList_here ?_); refine wpList_storeV rfl 52 (.tmp 6) (.tmp 12) rfl _ _ x.vals rfl rfl z1 rfl (vals_one x) infoOpt ?_; intro w2 z2 g2 s2)
          | ((with_reducible refine wpList_here ?_); refine wpList_loadV rfl 52 (.tmp 6) rfl _ _ x.vals rfl z2.range _ Tryd.underlying52 rfl infoOpt ?_))
        have b2 := v_below_g (below_trans hb b1) g2 (by have := hb.size; omega) hb.size
        refine (HR.out _).mono ?_
        rintro e w3 ⟨rfl, b3⟩
        have b4 := below_trans b2 b3
        have HA : Hid (os.all rightB = false) := Lib.hid (by
          cases hc : os.all rightB with
          | false => rfl
          | true =>
            exfalso
            have h5 : (os.take (j + 1)).all rightB = true := List.all_eq_true.2 fun y hy => List.all_eq_true.1 hc y (List.mem_of_mem_take hy)
            rw [HT.out, List.all_append, Bool.and_eq_true] at h5
            have := h5.2
            simp [HX.out] at this)
        go_wp2_with fail
        go_ret2
        exact ⟨fun hc => (by rw [HA.out] at hc; cases hc), fun _ => rfl, b4⟩
      | true =>
        rw [hx] at HR
        have HX := Lib.hid hx
        clear hx
        go_wp2_with (first
          | ((with_reducible refine wpList_here ?_); refine wpList_loadV rfl 52 (.tmp 11) rfl b _ x.vals rfl hc _ Tryd.underlying52 rfl infoOpt ?_)
          | ((with_reducible refine wpList_here ?_); refine wpList_allocV rfl 52 rfl (zK 0).vals zeroOpt _ rfl ?_; intro w1 z1 b1 s1)
          | ((with_reducible refine wpList_here ?_); refine wpList_storeV rfl 52 (.tmp 6) (.tmp 12) rfl _ _ x.vals rfl rfl z1 rfl (vals_one x) infoOpt ?_; intro w2 z2 g2 s2)
          | ((with_reducible refine wpList_here ?_); refine wpList_loadV rfl 52 (.tmp 6) rfl _ _ x.vals rfl z2.range _ Tryd.underlying52 rfl infoOpt ?_))
        have d2 := v_below_g b1 g2 b1.size (Nat.le_refl _)
        refine (HR.out _).mono ?_
        rintro e w3 ⟨rfl, b3⟩
        have z3 := z2.below b3
        have d3 := below_trans d2 b3
        clear z1 b1 g2 d2 b3 z2 s1 s2 hc
        go_wp2_with (first
          | ((with_reducible refine wpList_here ?_); refine wpList_loadV rfl 52 (.tmp 6) rfl _ _ x.vals rfl z3.range _ Tryd.underlying52 rfl infoOpt ?_))
        refine (HO.out _).mono ?_
        rintro e w5 ⟨A5, c5, rfl, r5, q5, b5⟩
        have q6 := own_mono q5 (Nat.le_trans hb.size d3.size)
        have d5 := below_trans d3 b5
        have own5 := own_below hown d5
        have sl5 := (hsl.below d5).snoc q6
        have hb5 := below_trans hb d5
        rw [show (os.take j).map ob ++ [ob x] = (os.take (j + 1)).map ob from by rw [HT.out, List.map_append]; rfl] at sl5
        have HALL2 : Hid ((os.take (j + 1)).all rightB = true) := Lib.hid (by rw [HT.out, List.all_append, HALL.out]; simp [HX.out])
        have hm5 := r5.max
        generalize 1 + long (tab x.kind) = m5 at *
        have HA := Lib.hid (below_a w5 (.cells #[.slice A5 m5 c5] 24))
        have HSRC : Hid (∀ j u, [Value.slice A5 m5 c5][j]? = some u → ∃ b o, (some (⟨w5.heap.size, 0, none⟩ : Addr)) = some ⟨b, o, none⟩ ∧ (w5.alloc (.cells #[.slice A5 m5 c5] 24)).cell? ⟨b, o + j, none⟩ = some u) := Lib.hid (fun j u hu => by
          match j, hu with
          | 0, hu =>
            injection hu with hu
            subst hu
            exact ⟨_, 0, rfl, cell_new w5 _ _⟩)
        have HONE : Hid (∀ u ∈ [Value.slice A5 m5 c5], u.oneCell' = true) := Lib.hid (by
          intro u hu
          rw [List.mem_singleton.1 hu]
          rfl)
        have OWN := Lib.hid (own_below own5 HA.out)
        have SL5 := Lib.hid (sl5.below HA.out)
        have HB5 := Lib.hid (below_trans hb5 HA.out)
        have hz : w.heap.size ≤ (w5.alloc (.cells #[.slice A5 m5 c5] 24)).heap.size := HB5.out.size
        clear hown hsl hb d3 b5 d5 z3 q5 q6 own5 sl5 hb5 r5
        go_wp2_with (at_builtin; refine wpList_appP _ rfl (.tmp 16) (.tmp 19) 64 24 rfl Tryd.underlying64 infoPiece w.heap.size _ j vs rfl OWN.out _ 1 1 [.slice A5 m5 c5] rfl rfl HSRC.out HONE.out (by omega) hz ?_; intro v' w7 own7 g7)
        have sl7 := SL5.out.far OWN.out (by decide) g7
        have b7 := below_grown HB5.out OWN.out g7
        go_roundw
        case rel => exact ⟨j + 1, _, by omega, by go_num, own7, sl7, HALL2.out, b7⟩
        case measure => simp [intOf]; omega
    · obtain rfl : j = n := by omega
      rw [List.take_of_length_le (by rw [HLN.out]; exact Nat.le_refl _)] at hsl hall
      have HALL := Lib.hid hall
      obtain ⟨A2, c2, rfl, hp⟩ := Parts.of_own hown hsl.sl
      have HFL := Lib.hid (fl_obs os j HLN.out)
      have HTL : Hid (tl (os.map ob) j = (obs os).length) := Lib.hid (by rw [tl, HFL.out])
      have hle := obs_le os
      rw [HLN.out] at hle
      have HJ : Hid (∀ W, Parts W A2 j c2 (os.map ob) → Calls Tryd.prog 21 #[.slice A2 j c2] W (Made W 5 (obs os).length (obs os))) := Lib.hid (fun W hW => by
        have := Join_any A2 j c2 (os.map ob) W hW (by rw [HTL.out]; omega)
        rw [HTL.out, HFL.out] at this
        exact this)
      clear hown hsl hall
      go_wp2_with fail
      refine (HJ.out _ hp).mono ?_
      rintro e w2 ⟨v, rfl, own2, b2⟩
      obtain ⟨A3, c3, rfl, r3, _⟩ := RB.of_own own2
      go_wp2_with fail
      go_ret2
      exact ⟨fun _ => ⟨A3, c3, rfl, r3⟩, fun hc => (by rw [HALL.out] at hc; cases hc), below_trans hb b2⟩
end Go.Proofs.YtbbpemndkphgeaaDoor

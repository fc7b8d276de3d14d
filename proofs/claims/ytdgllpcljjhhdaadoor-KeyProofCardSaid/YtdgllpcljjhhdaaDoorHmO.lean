/- The contract of the digest with a key. Conditions: the key and the pieces hold at most 2^37 bytes each, and the pieces are at most 2^37; the table holds FIPS 180-4's constants. -/
import Derived.Test.YtdgllpcljjhhdaaDoorHmD
import Derived.Deep.RegionHeld3
namespace Go.Proofs.YtdgllpcljjhhdaaDoor
set_option linter.unusedVariables false
open Go.RowKit

/-- What stands in each world of the last region: the filled key, the inner digest, the result's place, and all that was there. -/
def Mid (w W : World) (y x : Nat) (k l : List UInt8) : Prop :=
  W.rangeAt y 0 (bv k) ∧ W.there w.heap.size 0 32 ∧ RB W (some ⟨x, 0, none⟩) 32 32 l ∧ Below w.heap.size w W
theorem Mid.below {w W W' : World} {y x : Nat} {k l : List UInt8} (h : Mid w W y x k l) (hb : Below W.heap.size W W') : Mid w W' y x k l := by
  obtain ⟨h1, h2, h3, h4⟩ := h
  refine ⟨fun j v hv => ?_, fun j hj => ?_, h3.below hb, below_trans h4 hb⟩
  · have := h1 j v hv
    exact (hb.cell (World.block_lt_of_cell? W _ this)).trans this
  · obtain ⟨h5, h6⟩ := h2 j hj
    obtain ⟨u, hu⟩ := Option.isSome_iff_exists.1 h5
    have hlt := World.block_lt_of_cell? W _ hu
    exact ⟨by rw [hb.cell hlt, hu]; rfl, by rw [hb.frozen hlt]; exact h6⟩
theorem Mid.keep {w W W' : World} {y x : Nat} {k l : List UInt8} (h : W.rangeAt y 0 (bv k) ∧ Mid w W y x k l) (hb : Below W.heap.size W W') : W'.rangeAt y 0 (bv k) ∧ Mid w W' y x k l := ⟨(h.2.below hb).1, h.2.below hb⟩
theorem Mid.set {w W : World} {y x : Nat} {k l : List UInt8} (h : W.rangeAt y 0 (bv k) ∧ Mid w W y x k l) (hy : w.heap.size ≠ y) (hx : w.heap.size ≠ x) (vs : List Value) :
    (W.setCells w.heap.size 0 vs).rangeAt y 0 (bv k) ∧ Mid w (W.setCells w.heap.size 0 vs) y x k l := by
  obtain ⟨h1, -, h2, h3, h4⟩ := h
  have h5 := World.rangeAt_setCells_apart h1 w.heap.size 0 vs (Or.inl (Ne.symm hy))
  exact ⟨h5, h5, World.there_setCells h2 _ _ _, ⟨h3.1, h3.2.1, h3.2.2.1, fun hn => by
    obtain ⟨b, o, e, hc⟩ := h3.2.2.2 hn
    refine ⟨b, o, e, fun j hj => ?_⟩
    injection e with e
    injection e with e1 e2
    rw [World.cell?_setCells_out _ _ _ _ _ (fun hb _ => absurd (hb.symm.trans e1.symm) hx)]
    exact hc j hj⟩, below_setCells _ (Nat.le_refl _) _ _ _ h4⟩
theorem added_built (k : List UInt8) (hk : k.length = 64) (v : UInt8) {W : World} {X : Option Addr} {l : List UInt8} {t : TypeId} {g : Nat} (hg : g = W.heap.size) (h : RB W X 32 32 l) :
    Calls Tryd.prog 31 #[.agg (bv k).toArray, .int .u8 (v.toNat : Int)] (W.alloc (.cells #[.slice X 32 32] t)).drew fun e w' => e = .returned (.agg (bv (xo v k)).toArray) ∧ Parts w' (some ⟨g, 0, none⟩) 1 1 [l] ∧ Below W.heap.size W w' := by
  subst hg
  have b0 : Below W.heap.size W (W.alloc (.cells #[.slice X 32 32] t)).drew := (below_a W _).drew
  have p0 : Parts (W.alloc (.cells #[.slice X 32 32] t)).drew (some ⟨W.heap.size, 0, none⟩) 1 1 [l] := Parts.one (w := (W.alloc (.cells #[.slice X 32 32] t)).drew) (cell_new W (.slice X 32 32) t) (h.below b0)
  refine (added_any k hk v _).mono ?_
  rintro e w' ⟨rfl, b⟩
  exact ⟨rfl, p0.below b, below_trans b0 b⟩
/-- The world at hand has a new block, and has drawn behind it. -/
theorem calls_drew {P : Program} {f : FuncId} {args : Array Value} {W : World} {o : Obj} {Q : Ending → World → Prop} (h : Calls P f args (W.alloc o).drew Q) : Calls P f args (W.alloc o).drew Q := h
/-- The world at hand has a new block. -/
theorem calls_alloc {P : Program} {f : FuncId} {args : Array Value} {W : World} {o : Obj} {Q : Ending → World → Prop} (h : Calls P f args (W.alloc o) Q) : Calls P f args (W.alloc o) Q := h
theorem there_bv {W : World} {b : Nat} {D : List UInt8} (h : W.there b 0 32) (hl : D.length = 32) : W.there b 0 (bv D).toArray.size := by
  rw [List.size_toArray, bv_length, hl]
  exact h
theorem tl_one (l : List UInt8) (n : Nat) (h : l.length = n) : tl [l] 1 = n := by simp [tl, fl, h]
theorem fl_one (l : List UInt8) : fl [l] 1 = l := by simp [fl]
theorem hdig_one (k : List UInt8) (hk : k.length = 64) {W : World} {A : Option Addr} {l : List UInt8} (h : Parts W A 1 1 [l]) (hl : l.length = 32) (hT : Tab W) :
    Calls Tryd.prog 30 #[.agg (bv k).toArray, .slice A 1 1] W (Dig (k ++ l) W) := by
  have := hdig_any k hk A 1 1 [l] W h (by rw [tl_one l 32 hl]; omega) (by omega) hT
  rw [fl_one] at this
  exact this

set_option maxRecDepth 8000 in
set_option maxHeartbeats 1600000 in
theorem hmac_any (B : Option Addr) (m d : Nat) (k : List UInt8) (A : Option Addr) (n c : Nat) (ps : List (List UInt8)) (w : World) (hk : RB w B m d k) (h : Parts w A n c ps) (hml : m ≤ 137438953472) (ht : tl ps n ≤ 137438953472) (hn : n ≤ 137438953472) (hT : Tab w) :
    Calls Tryd.prog 19 #[.slice B m d, .slice A n c] w fun e w' => e = .returned (.agg (bv (hm k (fl ps n))).toArray) ∧ Below w.heap.size w w' := by
  have HKL := Lib.hid (kf_length k)
  have HX1 : Hid ((xo 54 (kf k)).length = 64) := Lib.hid (by rw [xo_length, kf_length])
  have HX2 : Hid ((xo 92 (kf k)).length = 64) := Lib.hid (by rw [xo_length, kf_length])
  have HD : Hid ((dg (xo 54 (kf k) ++ fl ps n)).length = 32) := Lib.hid (dg_length _)
  have HM : Hid (hm k (fl ps n) = dg (xo 92 (kf k) ++ dg (xo 54 (kf k) ++ fl ps n))) := Lib.hid rfl
  have HK := Lib.hid hk
  have HP := Lib.hid h
  have HT := Lib.hid hT
  clear hk h hT
  go_enter Tryd.func19, Tryd.ntmps19
  go_wp2_with (first
    | ((with_reducible refine wpList_here ?_); refine wpList_zerosA rfl 31 rfl 32 zero32 w6.heap.size rfl ?_; intro w7 x7 b11 s7
       have z7 := z6.below b11
       have y7 := y6.below b11
       have b12 := below_trans b10 b11
       clear z6 y6 b11)
    | ((with_reducible refine wpList_here ?_); refine wpList_zerosA rfl 31 rfl 32 zero32 _ rfl ?_; intro w1 z1 b1 s1)
    | (go_at_call 29; refine (filled_any B m d k w1 (HK.out.below b1) (by omega) (HT.out.below b1)).mono ?_; rintro e w2 ⟨rfl, b2⟩
       have z2 := z1.below b2
       have b3 := below_trans b1 b2
       have q2 : w.heap.size < w2.heap.size := by have := b2.size; omega
       clear b2 z1)
    | ((with_reducible refine wpList_here ?_); refine wpList_zerosA rfl 61 rfl 64 zeroBlock w2.heap.size rfl ?_; intro w3 y3 b4 s3
       have z3 := z2.below b4
       have b5 := below_trans b3 b4
       clear z2 b4)
    | ((with_reducible refine wpList_here ?_); refine wpList_storeA rfl 61 (.tmp 5) (.tmp 8) rfl w2.heap.size 64 _ (kf k) rfl rfl y3 HKL.out infoBlock ?_; intro w4 y4 g4 s4
       have z4 := z3.far g4 (by simp; omega)
       have b6 := below_g b5 g4 b5.size b3.size
       have q4 : w2.heap.size < w4.heap.size := by omega
       clear z3 b5 g4 y3 s3 s4)
    | ((with_reducible refine wpList_here ?_); refine wpList_loadA rfl 61 (.tmp 5) rfl w2.heap.size 64 (kf k) rfl y4 HKL.out (.array 64 5) Tryd.underlying61 rfl infoBlock ?_)
    | (go_at_call 31; refine (added_any (kf k) HKL.out 54 w4).mono ?_; rintro e w5 ⟨rfl, b7⟩
       have z5 := z4.below b7
       have y5 := y4.below b7
       have b8 := below_trans b6 b7
       have q5 : w2.heap.size < w5.heap.size := Nat.lt_of_lt_of_le q4 b7.size
       clear z4 y4 b7)
    | (go_at_call 30; refine (hdig_any (xo 54 (kf k)) HX1.out A n c ps w5 (HP.out.below b8) ht hn (HT.out.below b8)).mono ?_; rintro e w6 ⟨rfl, b9⟩
       have z6 := z5.below b9
       have y6 := y5.below b9
       have b10 := below_trans b8 b9
       have q6 : w2.heap.size < w6.heap.size := Nat.lt_of_lt_of_le q5 b9.size
       clear z5 y5 b9)
    | ((with_reducible refine wpList_here ?_); refine wpList_storeA rfl 31 (.tmp 6) (.tmp 12) rfl w6.heap.size 32 _ (dg (xo 54 (kf k) ++ fl ps n)) rfl rfl x7 HD.out info32 ?_; intro w8 x8 g8 s8
       have HMID : Mid w w8 w2.heap.size w6.heap.size (kf k) (dg (xo 54 (kf k) ++ fl ps n)) := ⟨(y7.far g8 (by simp; omega)).list HKL.out, (z7.far g8 (by simp; omega)).there, x8.rb HD.out (by omega), below_g b12 g8 b12.size (by have := b10.size; omega)⟩
       clear z7 y7 x7 g8 x8))
  have hq6 : w2.heap.size < w6.heap.size := q6
  clear q4 q5 b3 b6 b8 b10 b12 s7 s8
  generalize hI : dg (xo 54 (kf k) ++ fl ps n) = I at *
  have HI := Lib.hid hI
  clear hI
  have HR : w8.rangeAt w2.heap.size 0 (bv (kf k)) := HMID.1
  have HIB : (Tryd.prog.info? 61).map (·.size) = some (bv (kf k)).length := by rw [bv_length, HKL.out]; exact infoBlock
  have HUB : Tryd.prog.underlying 61 = some (.array 64 5) := Tryd.underlying61
  simp only [Act.put, List.setIfInBounds_toArray, List.set_cons_zero, List.set_cons_succ]
  have m0 : Mid w w8.drew w2.heap.size w6.heap.size (kf k) I := HMID.below (Below.refl _ _).drew
  have hD : ∃ D, D = dg (xo 92 (kf k) ++ I) := ⟨_, rfl⟩
  obtain ⟨D, hDE⟩ := hD
  have HDD : Hid (D.length = 32) := Lib.hid (by rw [hDE]; exact dg_length _)
  have HDE := Lib.hid hDE
  have HINF : (Tryd.prog.info? 31).map (·.size) = some (bv D).toArray.size := by rw [List.size_toArray, bv_length, HDD.out]; exact info32
  have HONE := bv_one D
  clear hDE HR
  go_region_held3 (fun W => W.rangeAt w2.heap.size 0 (bv (kf k)) ∧ Mid w W w2.heap.size w6.heap.size (kf k) I)
    (first
      | exact ⟨HMID.1, m0⟩
      | exact ⟨m9.1, m9⟩
      | exact Mid.keep (by assumption) (below_a _ _)
      | exact Mid.keep (by assumption) (by assumption)
      | exact Mid.set (by assumption) (by omega) (by omega) _)
    (first
      | (go_at_call 31; (with_reducible refine calls_drew ?_); refine (added_built (kf k) HKL.out 92 rfl HMID.2.2.1).mono ?_; rintro e w9 ⟨rfl, p9, b9⟩; have m9 := HMID.below b9)
      | (go_at_call 31; refine (added_any (kf k) HKL.out 92 _).mono ?_; rintro e w9 ⟨rfl, b9⟩; have m9 := m0.below b9)
      | (go_at_call 30; (with_reducible refine calls_alloc ?_)
         have mA := m9.below (below_a w9 (.cells #[.slice (some ⟨w6.heap.size, 0, none⟩) 32 32] 33))
         refine (hdig_one (xo 92 (kf k)) HX2.out (Parts.one (cell_new w9 _ _) mA.2.2.1) HD.out (HT.out.below mA.2.2.2)).mono ?_; rintro e wA ⟨rfl, bA⟩
         have mB := mA.below bA
         have hth := there_bv mB.2.1 HDD.out
         rw [← HDE.out])
      | (go_at_call 30; refine (hdig_one (xo 92 (kf k)) HX2.out p9 HD.out (HT.out.below m9.2.2.2)).mono ?_; rintro e wA ⟨rfl, bA⟩
         have mB := m9.below bA
         have hth := there_bv mB.2.1 HDD.out
         rw [← HDE.out]))
  all_goals
    have hr := World.rangeAt_setCells_same wA w.heap.size 0 (bv D) (show wA.there w.heap.size 0 (bv D).length from hth)
    have hb := below_setCells w.heap.size (Nat.le_refl _) (bv D) 0 _ mB.2.2.2
    have HINF2 : Hid ((Tryd.prog.info? 31).map (·.size) = some (bv D).length) := Lib.hid HINF
    have HE : Hid (D = hm k (fl ps n)) := Lib.hid (by rw [HM.out, ← HDE.out])
    generalize wA.setCells w.heap.size 0 (bv D) = wB at *
    clear hth HINF HIB HUB
    go_wp2_with fail
    refine bodyPost_ret (results_cell_mid rfl _ _ w.heap.size (bv D) (.array 32 5) rfl hr Tryd.underlying31 rfl HINF2.out) rfl ⟨by rw [HE.out], hb⟩
end Go.Proofs.YtdgllpcljjhhdaaDoor

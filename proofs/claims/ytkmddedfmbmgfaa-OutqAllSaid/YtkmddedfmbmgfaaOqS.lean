/- The law OutqAll. No condition. -/
import Derived.Test.YtkmddedfmbmgfaaOqR
import Derived.Test.YtkmddedfmbmgfaaPcFr
namespace Go.Proofs.Ytkmddedfmbmgfaa
set_option linter.unusedVariables false
set_option linter.unusedSimpArgs false
open Go.RowKit

/-- A queue, what was told, what was wanted, apart. -/
structure Trio (W w : World) (qb : Nat) (v : Value) (l : List Pc) (b : Nat) (ks : List Ky) (en : Nat) (u : Value) (r : List Pc) (gs : List Ky) (x : Value) (y : List Pc) (hs : List Ky) : Prop where
  q : Sq 54 W w qb v l b ks en
  g : Bag W w u r gs
  h : Bag W w x y hs
  gq : ∀ k, Bb u r k → ¬ Qb qb v l k
  hq : ∀ k, Bb x y k → ¬ Qb qb v l k
  gh : ∀ k, Bb u r k → ¬ Bb x y k
section
variable {W w w' : World} {qb : Nat} {v : Value} {l : List Pc} {b : Nat} {ks : List Ky} {en : Nat} {u : Value} {r : List Pc} {gs : List Ky} {x : Value} {y : List Pc} {hs : List Ky}
theorem Trio.below (t : Trio W w qb v l b ks en u r gs x y hs) (bl : Below w.heap.size w w') : Trio W w' qb v l b ks en u r gs x y hs := ⟨t.q.below bl, t.g.below bl, t.h.below bl, t.gq, t.hq, t.gh⟩
/-- The queue has turned. -/
theorem Trio.queue {v' : Value} {l' : List Pc} {b' : Nat} {ks' : List Ky} {en' : Nat} (t : Trio W w qb v l b ks en u r gs x y hs) (s : Sq 54 W w' qb v' l' b' ks' en') (ho : ∀ g, Qb qb v' l' g → Qb qb v l g ∨ w.heap.size ≤ g) (c : Ch w w' (fun k => k = qb ∨ v.ownBlock = some k)) : Trio W w' qb v' l' b' ks' en' u r gs x y hs := by
  have hm : ∀ k, (k = qb ∨ v.ownBlock = some k) → Qb qb v l k := fun k e => by
    rcases e with e | e
    · exact .inl e
    · exact .inr (.inl e)
  refine ⟨s, t.g.frame c (fun k hk e => t.gq k hk (hm k e)), t.h.frame c (fun k hk e => t.hq k hk (hm k e)), fun k hk e => ?_, fun k hk e => ?_, t.gh⟩
  · rcases ho k e with h | h
    · exact t.gq k hk h
    · have := (t.g.in_ hk).2
      omega
  · rcases ho k e with h | h
    · exact t.hq k hk h
    · have := (t.h.in_ hk).2
      omega
/-- What was told has grown, by pieces that lie apart. -/
theorem Trio.told {u' : Value} {qs : List Pc} {fs : List Ky} (t : Trio W w qb v l b ks en u r gs x y hs) (hq : ∀ p ∈ qs, PO W.heap.size w p) (hk : qs.map Pc.key = fs) (ha : ∀ p ∈ qs, ∀ k, p.blk = some k → ¬ Qb qb v l k ∧ ¬ Bb x y k) (o' : w'.ownsRow W.heap.size 33 6 u' (gs.length + fs.length) (pv (r ++ qs))) (g : w.grownBy w' u.ownBlock) (o : u'.ownBlock = u.ownBlock ∨ u'.ownBlock = some w.heap.size) :
    Trio W w' qb v l b ks en u' (r ++ qs) (gs ++ fs) x y hs := by
  have c := bag_ch g
  refine ⟨t.q.frame c (fun k hk e => t.gq k (.inl e) hk) (fun k e => (t.g.in_ (.inl e)).1), t.g.app hq hk o' g, t.h.frame c (fun k hk e => t.gh k (.inl e) hk), fun k hk e => ?_, t.hq, fun k hk e => ?_⟩
  · rcases bb_app o hk with h | h | ⟨p, hp, h⟩
    · exact t.gq k h e
    · have := (t.q.in_ e).2
      omega
    · exact (ha p hp k h).1 e
  · rcases bb_app o hk with h | h | ⟨p, hp, h⟩
    · exact t.gh k h e
    · have := (t.h.in_ e).2
      omega
    · exact (ha p hp k h).2 e
/-- .. and what was wanted. -/
theorem Trio.swap (t : Trio W w qb v l b ks en u r gs x y hs) : Trio W w qb v l b ks en x y hs u r gs := ⟨t.q, t.h, t.g, t.hq, t.gq, fun k h e => t.gh k e h⟩
end

theorem Own.ch {w w' : World} {b : Nat} {vs : List Value} {m : Nat → Prop} (h : Own w b vs) (c : Ch w w' m) (hn : ¬ m b) : Own w' b vs := fun j hj => by
  have hb := c.block b (h.lt (by omega)) hn
  exact ⟨(World.cell?_of_block (a := ⟨b, j, none⟩) hb).trans (h j hj).1, (World.frozen?_of_block (a := ⟨b, j, none⟩) hb).trans (h j hj).2⟩
theorem PS.one {w : World} {g : Nat} {q : Pc} (h : Own w g q.vals) (hq : PG w q) : PS w (some ⟨g, 0, none⟩) 1 1 [q] :=
  ⟨rfl, Nat.le_refl _, by unfold maxLen; omega, fun p hp => by simp at hp; subst hp; exact hq, fun _ => ⟨g, 0, rfl, by rw [pv_one1]; exact h.range⟩⟩
/-- A piece that came in lies below. -/
theorem old_blk {W : World} {p : Pc} (h : PG W p) : ∀ g o s, p.dA = some ⟨g, o, s⟩ → 0 < p.dn → g < W.heap.size := fun g o s e hn => by
  obtain ⟨b, o', e2, hc⟩ := h.data.2.2.2 hn
  rw [e] at e2
  injection e2 with e2
  injection e2 with e2 _ _
  subst e2
  exact World.block_lt_of_cell? _ _ (hc 0 hn)

set_option maxRecDepth 8000 in
set_option maxHeartbeats 6400000 in
theorem All13_any (s : Nat) (A : Option Addr) (n c : Nat) (pl : List Pc) (B : Option Addr) (m d : Nat) (al : List UInt8) (W : World) (hs : s < 4294967296) (hP : PS W A n c pl) (hR : RB W B m d al) :
    Calls Try.prog 4 #[.int .u32 (s : Int), .slice A n c, .slice B m d] W (Held W) := by
  have HW := Lib.hid (wakes_any W)
  have HN := Lib.hid (fun w b => snew_any W w s hs b)
  have hcp := hP.cap
  have hmx := hP.max
  have hcp2 := hR.cap
  have hmx2 := hR.max
  have HPS := Lib.hid hP
  have HRB := Lib.hid hR
  clear hP hR
  go_enter Try.func4, Try.ntmps4
  go_wp2_with fail
  refine (HW.out).mono ?_
  rintro e w1 ⟨rfl, b1⟩
  have HB1 := Lib.hid b1
  clear b1
  by_cases hn : 50 < n
  · have hn1 : (50 : Int) < (n : Int) := by omega
    go_wp2_with fail
    go_ret
    exact ⟨rfl, HB1.out⟩
  have hn1 : decide ((50 : Int) < (n : Int)) = false := decide_eq_false (by omega)
  by_cases hm : 50 < m
  · have hm1 : (50 : Int) < (m : Int) := by omega
    go_wp2_with fail
    go_ret
    exact ⟨rfl, HB1.out⟩
  have hm1 : decide ((50 : Int) < (m : Int)) = false := decide_eq_false (by omega)
  go_wp2_with fail
  refine (HN.out w1 HB1.out).mono ?_
  rintro e w2 ⟨qb, rfl, -, S2, -⟩
  have HT2 : Hid (Trio W w2 qb (.slice none 0 0) [] s [] s (.slice none 0 0) [] [] (.slice none 0 0) [] []) := Lib.hid ⟨S2, Bag.nil_ W w2, Bag.nil_ W w2, fun k h => absurd h (bb_nil k), fun k h => absurd h (bb_nil k), fun k h => absurd h (bb_nil k)⟩
  clear S2
  unfold ptr
  go_wp2_with fail
  go_loopw [8, 33] (fun x i wr => ∃ (j : Nat) (v : Value) (l : List Pc) (ks : List Ky) (en : Nat) (y : List Pc), j ≤ n ∧ i = .int .i64 j ∧ ks.length ≤ j ∧ Trio W wr qb v l s ks en (.slice none 0 0) [] [] x y ks) (fun _ i _ => n - (intOf i).toNat)
  case atStart => exact ⟨0, _, _, _, _, _, Nat.zero_le _, rfl, Nat.le_refl _, HT2.out⟩
  case round =>
    obtain ⟨j, v, l, ks, en, y, hj, rfl, hkl, T⟩ := hrel
    obtain ⟨x, rfl⟩ : ∃ x, x = u8 := ⟨_, rfl⟩
    have HT := Lib.hid T
    have HKL := Lib.hid hkl
    by_cases hlt : j < n
    · obtain ⟨g, o, rfl, hr⟩ := (HPS.out.below T.q.bel).at_ hlt
      have HPW := Lib.hid (HPS.out.ok hlt)
      clear T hkl
      generalize pl.getD j zP = p at *
      have hpc := HPW.out.data.cap
      have hpm := HPW.out.data.max
      have b4 := (below_a wr (.cells #[.int .u32 (p.seq : Int), .bool p.syn, .bool p.fin, .slice p.dA p.dn p.dc, .int .i64 p.dsn, .bool p.last] 33))
      by_cases hd : 50 < p.dn
      · have hd1 : (50 : Int) < (p.dn : Int) := by omega
        clear b4
        go_wp2_with (first
          | ((with_reducible refine wpList_here ?_); refine wpList_loadV (o := ⟨some 36, _, _, _, _, _⟩) rfl 33 (.tmp 35) rfl _ _ p.vals rfl hr _ Try.underlying33 rfl infoPc ?_)
          | ((with_reducible refine wpList_here ?_); refine wpList_allocV (o := ⟨some 10, _, _, _, _, _⟩) rfl 33 rfl zP.vals zeroPc _ rfl ?_; intro w4 z4 b4 s4)
          | ((with_reducible refine wpList_here ?_); refine wpList_storeV rfl 33 (.tmp 10) (.tmp 36) rfl _ _ p.vals rfl rfl z4 rfl (pc_one p) infoPc ?_; intro w5 z5 g5 s5; have b5 := v_below_g b4 g5 b4.size (Nat.le_refl _); have k5 : w5.cell? ⟨wr.heap.size, 3, none⟩ = some (.slice p.dA p.dn p.dc) := (z5 3 (by rw [Pc.vals_length]; omega)).1; clear z4 b4 g5))
        go_ret
        exact ⟨rfl, (HT.out.below b5).q.bel⟩
      · have hd1 : decide ((50 : Int) < (p.dn : Int)) = false := decide_eq_false (by omega)
        clear b4
        go_wp2_with (first
          | ((with_reducible refine wpList_here ?_); refine wpList_loadV (o := ⟨some 36, _, _, _, _, _⟩) rfl 33 (.tmp 35) rfl _ _ p.vals rfl hr _ Try.underlying33 rfl infoPc ?_)
          | ((with_reducible refine wpList_here ?_); refine wpList_allocV (o := ⟨some 10, _, _, _, _, _⟩) rfl 33 rfl zP.vals zeroPc _ rfl ?_; intro w4 z4 b4 s4)
          | ((with_reducible refine wpList_here ?_); refine wpList_storeV rfl 33 (.tmp 10) (.tmp 36) rfl _ _ p.vals rfl rfl z4 rfl (pc_one p) infoPc ?_; intro w5 z5 g5 s5; have b5 := v_below_g b4 g5 b4.size (Nat.le_refl _); have k5 : w5.cell? ⟨wr.heap.size, 3, none⟩ = some (.slice p.dA p.dn p.dc) := (z5 3 (by rw [Pc.vals_length]; omega)).1; clear z4 b4 g5)
          | ((with_reducible refine wpList_here ?_); refine wpList_loadV (o := ⟨some 42, _, _, _, _, _⟩) rfl 33 (.tmp 10) rfl _ _ p.vals rfl z5.range _ Try.underlying33 rfl infoPc ?_))
        have hsz : W.heap.size ≤ wr.heap.size := HT.out.q.bel.size
        have HP := Lib.hid (spush_any (HT.out.below b5).q (by have := HKL.out; omega) p (HPW.out.below (HT.out.below b5).q.bel) (by omega) (fun g' o' s' e hn' => by
          have h1 := old_blk HPW.out g' o' s' e hn'
          exact ⟨fun e2 => by have := (HT.out.q.in_ (.inl e2)).1; omega, fun e2 => by have := (HT.out.q.in_ (.inr (.inl e2))).1; omega⟩))
        refine (HP.out).mono ?_
        rintro e w6 ⟨q, v', l', m', rfl, hk, ho, hm', S6, hlt6, hold, c6⟩
        have HT6 := Lib.hid ((HT.out.below b5).queue S6 hold c6)
        have z6 := z5.ch c6 (fun e => by
          have h1 : Qb qb v l wr.heap.size := by
            rcases e with e | e
            · exact .inl e
            · exact .inr (.inl e)
          have := (HT.out.q.in_ h1).2
          omega)
        have HO6 := Lib.hid ho
        have HK6 := Lib.hid hk
        have HM6 : Hid (w5.heap.size ≤ m' ∧ (∀ g, Qb qb v' l' g → g < m')) := Lib.hid ⟨hm', hlt6⟩
        have hb5 := b5.size
        have HLG := Lib.hid (fun W (hW : PG W p) => rLong_any p W hW (by omega))
        have hlk : (p.key.at en).len = p.key.len := rfl
        have HPW6 := Lib.hid (HPW.out.below HT6.out.q.bel)
        have hpl := pushK_len ks (p.key.at en)
        have HPL : Hid ((pushK ks (p.key.at en)).length ≤ j + 1) := Lib.hid (by have := HKL.out; omega)
        have hpe : pushK ks (p.key.at en) = if 0 < p.key.len then ks ++ [p.key.at en] else ks := rfl
        have HPE := Lib.hid hpe
        clear hk ho hm' S6 hlt6 hold c6 HP z5 k5 hpl hpe
        generalize pushK ks (p.key.at en) = ks2 at *
        by_cases hpos : 0 < p.key.len
        · have hpi : (0 : Int) < (p.key.len : Int) := by omega
          have e2 := HPE.out
          rw [if_pos hpos] at e2
          have HE2 := Lib.hid e2
          clear e2 HPE
          go_wp2_with (first
            | ((with_reducible refine wpList_here ?_); refine wpList_allocV (o := ⟨some 11, _, _, _, _, _⟩) rfl 33 rfl zP.vals zeroPc _ rfl ?_; intro w7 z7 b7 s7)
            | ((with_reducible refine wpList_here ?_); refine wpList_storeV rfl 33 (.tmp 11) (.tmp 43) rfl _ _ q.vals rfl rfl z7 rfl (pc_one q) infoPc ?_; intro w8 z8 g8 s8; have b8 := v_below_g b7 g8 b7.size (Nat.le_refl _); have y8 := z6.below b8; have HT8 := Lib.hid (HT6.out.below b8); have HO8 := Lib.hid (HO6.out.below b8); have HG8 := Lib.hid (HPW6.out.below b8); clear z7 b7 g8 z6 b8)
            | ((with_reducible refine wpList_here ?_); refine wpList_loadV (o := ⟨some 44, _, _, _, _, _⟩) rfl 33 (.tmp 10) rfl _ _ p.vals rfl y8.range _ Try.underlying33 rfl infoPc ?_)
            | (go_at_call 21; refine (HLG.out _ HG8.out).mono ?_; rintro e w9 ⟨rfl, b9⟩; have z9 := z8.below b9; have HT9 := Lib.hid (HT8.out.below b9); have HO9 := Lib.hid (HO8.out.below b9); clear y8 z8 b9)
            | ((with_reducible refine wpList_here ?_); refine wpList_loadV (o := ⟨some 48, _, _, _, _, _⟩) rfl 33 (.tmp 11) rfl _ _ q.vals rfl z9.range _ Try.underlying33 rfl infoPc ?_)
            | ((with_reducible refine wpList_here ?_); refine wpList_litP (op := ⟨some 49, _, _, _, _, _⟩) rfl (.tmp 48) rfl q rfl _ rfl ?_; intro w10 x10 b10 t10; have HT10 := Lib.hid (HT9.out.below b10); have HO10 := Lib.hid (HO9.out.below b10); have HX10 := Lib.hid (PS.one x10 HO10.out.pg); clear x10 b10 t10 z9)
            | (at_builtin; refine wpList_appPs rfl (.tmp 47) (.tmp 49) rfl W.heap.size x ks.length y rfl HT10.out.h.own _ 1 1 [q] rfl HX10.out (by have := HKL.out; omega) HT10.out.q.bel.size ?_; intro x11 w11 o11 g11 r11; have HT11 := Lib.hid (HT10.out.swap.told (qs := [q]) (fs := [p.key.at en]) (fun p' hp' => by simp at hp'; subst hp'; exact HO10.out.mono (by have := HM6.out.1; omega)) (by simp [HK6.out]) (fun p' hp' k hk => by simp at hp'; subst hp'; exact ⟨fun e => by have h1 := (HO10.out.lt hk).1; have h2 := HM6.out.2 k e; omega, bb_nil k⟩) o11 g11 r11).swap; clear o11 g11 r11))
          rw [← HE2.out] at HT11
          go_roundw
          case rel => exact ⟨j + 1, _, _, _, _, _, by omega, by go_num, HPL.out, HT11.out⟩
          case measure => simp [intOf]; omega
        · have hpi : decide ((0 : Int) < (p.key.len : Int)) = false := decide_eq_false (by omega)
          have e2 := HPE.out
          rw [if_neg hpos] at e2
          subst e2
          clear HPE
          go_wp2_with (first
            | ((with_reducible refine wpList_here ?_); refine wpList_allocV (o := ⟨some 11, _, _, _, _, _⟩) rfl 33 rfl zP.vals zeroPc _ rfl ?_; intro w7 z7 b7 s7)
            | ((with_reducible refine wpList_here ?_); refine wpList_storeV rfl 33 (.tmp 11) (.tmp 43) rfl _ _ q.vals rfl rfl z7 rfl (pc_one q) infoPc ?_; intro w8 z8 g8 s8; have b8 := v_below_g b7 g8 b7.size (Nat.le_refl _); have y8 := z6.below b8; have HT8 := Lib.hid (HT6.out.below b8); have HG8 := Lib.hid (HPW6.out.below b8); clear z7 b7 g8 z6 b8)
            | ((with_reducible refine wpList_here ?_); refine wpList_loadV (o := ⟨some 44, _, _, _, _, _⟩) rfl 33 (.tmp 10) rfl _ _ p.vals rfl y8.range _ Try.underlying33 rfl infoPc ?_)
            | (go_at_call 21; refine (HLG.out _ HG8.out).mono ?_; rintro e w9 ⟨rfl, b9⟩; have HT9 := Lib.hid (HT8.out.below b9); clear y8 z8 b9))
          go_roundw
          case rel => exact ⟨j + 1, _, _, _, _, _, by omega, by go_num, HPL.out, HT9.out⟩
          case measure => simp [intOf]; omega
    · obtain rfl : j = n := by omega
      clear T hkl
      have hk50 : ks.length ≤ 50 := by have := HKL.out; omega
      go_wp2_with fail
      go_loopw [12, 54] (fun u i wz => ∃ (q : Nat) (v' : Value) (l' : List Pc) (b : Nat) (fs : List Ky) (r : List Pc) (gs : List Ky), q ≤ m ∧ i = .int .i64 q ∧ Trio W wz qb v' l' b fs en u r gs x y ks ∧ gs ++ fs = ks) (fun _ i _ => m - (intOf i).toNat)
      case atStart => exact ⟨0, _, _, _, _, _, _, Nat.zero_le _, rfl, HT.out, rfl⟩
      case round =>
        obtain ⟨z, v2, l2, b, fs, r, gs, hz, rfl, T2, hgf⟩ := hrel
        obtain ⟨u, rfl⟩ : ∃ u, u = u12 := ⟨_, rfl⟩
        have HT2' := Lib.hid T2
        have HGF := Lib.hid hgf
        clear HT2 HT
        by_cases hzm : z < m
        · obtain ⟨g, o, rfl, hc⟩ := HRB.out.2.2.2 (by omega)
          have hx0 := (T2.q.bel.cell (p := ⟨g, o + z, none⟩) (World.block_lt_of_cell? _ _ (hc z hzm))).trans (hc z hzm)
          have hxb := (al.getD z 0).toNat_lt
          have hfl : fs.length ≤ 50 := by
            have := congrArg List.length hgf
            rw [List.length_append] at this
            omega
          have hgl : gs.length ≤ 50 := by
            have := congrArg List.length hgf
            rw [List.length_append] at this
            omega
          have HFL := Lib.hid hfl
          have HGL := Lib.hid hgl
          have HBG := Lib.hid (Begin_any T2.q.qu)
          have hbg : beg l2 en = b := Chn.beg (by rw [T2.q.ky]; exact T2.q.ch)
          rw [hbg] at HBG
          have hbl := T2.q.lt
          have HO := Lib.hid (fun w => rOn_any b (((al.getD z 0).toNat : Int) % 20) w hbl (by omega))
          have hal := on_lt b (((al.getD z 0).toNat : Int) % 20)
          clear T2 hgf hc hbg hfl hgl
          generalize (al.getD z 0).toNat = zz at *
          have hi1 : IntKind.i64.wrap (zz : Int) = (zz : Int) := by rw [IntKind.wrap_i64]; omega
          generalize on b ((zz : Int) % 20) = a at *
          have HAL := Lib.hid hal
          clear hal
          unfold ptr at *
          go_wp2_with fail
          refine (HBG.out).mono ?_
          rintro e w3 ⟨rfl, rfl⟩
          go_wp2_with fail
          refine (HO.out _).mono ?_
          rintro e w4 ⟨rfl, b4⟩
          have HT4 := Lib.hid (HT2'.out.below b4)
          clear b4 HT2' HBG HO
          by_cases hle : st b a ≤ tot fs
          · have HA := Lib.hid (sack_yes HT4.out.q (by have := HFL.out; omega) a HAL.out hle)
            unfold ptr at HA
            clear hle
            go_wp2_with fail
            refine (HA.out).mono ?_
            rintro e w5 ⟨vo, v5, l5, rfl, ⟨qs, o1, o2, o3⟩, S5, hq5, c5⟩
            have HT5 := Lib.hid (HT4.out.queue S5 (fun k hk => .inl (hq5 k hk)) c5)
            have HQS : Hid ((∀ p ∈ qs, PO w4.heap.size w5 p) ∧ qs.map Pc.key = fs.take (cnt fs (st b a)) ∧ (∀ k, Qb qb v5 l5 k → k < w4.heap.size)) := Lib.hid ⟨o3, o2, fun k hk => (HT4.out.q.in_ (hq5 k hk)).2⟩
            have hql := (Row.of_own o1).2
            obtain ⟨A5, c5', rfl, -, -⟩ := (Row.of_own o1).1.slice
            have HPS5 := Lib.hid ((Row.of_own o1).1.ps (fun p hp => (o3 p hp).pg))
            have HTD := Lib.hid (List.take_append_drop (cnt fs (st b a)) fs)
            have hcl : qs.length ≤ 50 := by
              rw [hql, List.length_take]
              have := HFL.out
              omega
            have hw4 := HT4.out.q.bel.size
            have HW4 := Lib.hid (fun k (hk : Bb x y k) => (HT4.out.h.in_ hk).2)
            have hkl2 : (fs.take (cnt fs (st b a))).length = qs.length := hql.symm
            have HKL2 := Lib.hid hkl2
            clear S5 hq5 c5 o1 o2 o3 HA hkl2 hql HT4
            generalize begK b fs (st b a) = b5 at *
            generalize fs.take (cnt fs (st b a)) = ts at *
            generalize fs.drop (cnt fs (st b a)) = ds at *
            generalize hnq : qs.length = nq at *
            clear hnq
            go_wp2_with (first
              | (at_builtin; refine wpList_appPs rfl (.tmp 70) (.tmp 71) rfl W.heap.size u gs.length r rfl HT5.out.g.own _ nq c5' qs rfl HPS5.out (by have := HGL.out; omega) HT5.out.q.bel.size ?_; intro u6 w6 o6 g6 r6; have HT6 := Lib.hid (HT5.out.told (qs := qs) (fs := ts) (fun p hp => (HQS.out.1 p hp).mono hw4) HQS.out.2.1 (fun p hp k hk => ⟨fun e => by have h1 := ((HQS.out.1 p hp).lt hk).1; have h2 := HQS.out.2.2 k e; omega, fun e => by have h1 := ((HQS.out.1 p hp).lt hk).1; have h2 := HW4.out k e; omega⟩) (by rw [HKL2.out]; exact o6) g6 r6); clear o6 g6 r6))
            go_roundw
            case rel => exact ⟨z + 1, _, _, _, _, _, _, by omega, by go_num, HT6.out, by rw [List.append_assoc, HTD.out]; exact HGF.out⟩
            case measure => simp [intOf]; omega
          · have HA := Lib.hid (sack_no HT4.out.q (by have := HFL.out; omega) a HAL.out (by omega))
            unfold ptr at HA
            clear hle
            go_wp2_with fail
            refine (HA.out).mono ?_
            rintro e w5 ⟨rfl, b5⟩
            have HT5 := Lib.hid (HT4.out.below b5)
            clear HT4 HA b5
            go_wp2_with fail
            go_roundw
            case rel => exact ⟨z + 1, _, _, _, _, _, _, by omega, by go_num, HT5.out, HGF.out⟩
            case measure => simp [intOf]; omega
        · obtain rfl : z = m := by omega
          have hfl : fs.length ≤ 50 := by
            have := congrArg List.length hgf
            rw [List.length_append] at this
            omega
          have hgl : gs.length ≤ 50 := by
            have := congrArg List.length hgf
            rw [List.length_append] at this
            omega
          have hen := T2.q.qu.num
          have hte := tot_le T2.q.sm
          have hst : st b en = tot fs := st_tot T2.q.lt T2.q.ch (by omega)
          have HE := Lib.hid (End_any T2.q.qu)
          have HA := Lib.hid (sack_yes T2.q (by omega) en hen (by rw [hst]; exact Nat.le_refl _))
          have hcn : cnt fs (st b en) = fs.length := by rw [hst]; exact cnt_all _ _ (Nat.le_refl _)
          have HCN := Lib.hid hcn
          have HGL := Lib.hid hgl
          have HFL := Lib.hid hfl
          clear T2 hgf hfl hgl hen hte hst hcn
          unfold ptr at *
          go_wp2_with fail
          refine (HE.out).mono ?_
          rintro e w3 ⟨rfl, rfl⟩
          go_wp2_with fail
          refine (HA.out).mono ?_
          rintro e w5 ⟨vo, v5, l5, rfl, ⟨qs, o1, o2, o3⟩, S5, hq5, c5⟩
          rw [HCN.out, List.take_length] at o1 o2
          have HT5 := Lib.hid (HT2'.out.queue S5 (fun k hk => .inl (hq5 k hk)) c5)
          have HQS : Hid ((∀ p ∈ qs, PO w3.heap.size w5 p) ∧ qs.map Pc.key = fs ∧ (∀ k, Qb qb v5 l5 k → k < w3.heap.size)) := Lib.hid ⟨o3, o2, fun k hk => (HT2'.out.q.in_ (hq5 k hk)).2⟩
          have hql := (Row.of_own o1).2
          obtain ⟨A5, c5', rfl, -, -⟩ := (Row.of_own o1).1.slice
          have HPS5 := Lib.hid ((Row.of_own o1).1.ps (fun p hp => (o3 p hp).pg))
          rw [hql] at HPS5 ⊢
          have hw4 := HT2'.out.q.bel.size
          have HW4 := Lib.hid (fun k (hk : Bb x y k) => (HT2'.out.h.in_ hk).2)
          have hl5 : l5 = [] := by
            have h1 := S5.llen
            rw [HCN.out, List.length_drop, Nat.sub_self] at h1
            exact List.eq_nil_of_length_eq_zero h1
          subst hl5
          clear S5 hq5 c5 o1 o2 o3 HA HE hql HT2' hk50
          generalize begK b fs (st b en) = b5 at *
          generalize fs.drop (cnt fs (st b en)) = ds at *
          have hf50 : fs.length ≤ 50 := HFL.out
          generalize hnf : fs.length = nf at *
          have HNF := Lib.hid hnf
          clear hnf
          go_wp2_with (first
            | (at_builtin; refine wpList_appPs rfl (.tmp 81) (.tmp 82) rfl W.heap.size u gs.length r rfl HT5.out.g.own _ nf c5' qs rfl HPS5.out (by have := HGL.out; omega) HT5.out.q.bel.size ?_; intro u6 w6 o6 g6 r6; have HT6 := Lib.hid (HT5.out.told (qs := qs) (fs := fs) (fun p hp => (HQS.out.1 p hp).mono hw4) HQS.out.2.1 (fun p hp k hk => ⟨fun e => by have h1 := ((HQS.out.1 p hp).lt hk).1; have h2 := HQS.out.2.2 k e; omega, fun e => by have h1 := ((HQS.out.1 p hp).lt hk).1; have h2 := HW4.out k e; omega⟩) (by rw [HNF.out]; exact o6) g6 r6); clear o6 g6 r6))
          rw [HGF.out] at HT6
          have HL := Lib.hid (Len_any HT6.out.q.qu)
          have HBG := Lib.hid (Begin_any HT6.out.q.qu)
          have HE := Lib.hid (End_any HT6.out.q.qu)
          have hb0 : beg [] en = en := rfl
          rw [hb0] at HBG
          have hl0 : (([] : List Pc).length : Int) = 0 := rfl
          rw [hl0] at HL
          obtain ⟨A7, c7, rfl, hx1, hx2, hps7⟩ := HT6.out.g.ps
          obtain ⟨A8, c8, rfl, hx3, hx4, hps8⟩ := HT6.out.h.ps
          have HS := Lib.hid (SameAll_yes _ _ _ _ _ _ _ _ _ hps7 hps8 (HT6.out.g.ky.trans HT6.out.h.ky.symm))
          have HB6 := Lib.hid HT6.out.q.bel
          clear hps7 hps8 hb0 hl0
          unfold ptr at *
          go_wp2_with fail
          refine (HL.out).mono ?_
          rintro e w7 ⟨rfl, rfl⟩
          go_wp2_with fail
          refine (HBG.out).mono ?_
          rintro e w7 ⟨rfl, rfl⟩
          go_wp2_with fail
          refine (HE.out).mono ?_
          rintro e w7 ⟨rfl, rfl⟩
          go_wp2_with fail
          refine (HS.out).mono ?_
          rintro e w8 ⟨rfl, b8⟩
          go_wp2_with fail
          go_ret
          exact ⟨rfl, HB6.out.trans (b8.mono HB6.out.size)⟩
end Go.Proofs.Ytkmddedfmbmgfaa

/- A receiver's Put. Conditions: the receiver stands, with at most 999 calls of Put behind it; numbers of at most 2^31, bytes of at most 2^40. -/
import Derived.Test.YtancbdnpmabpfaaDrN
namespace Go.Proofs.Ytancbdnpmabpfaa
set_option linter.unusedVariables false
set_option linter.unusedSimpArgs false
open Go.RowKit Go.Lib

def PutP (base : Nat) (w : World) (rb : Nat) (z : Sh) (d : Dr) (x : Int) (b : List UInt8) (e : Ending) (w' : World) : Prop :=
  e = .returned (.int .i64 (d.hits x b.length : Int)) ∧ ∃ z', Left base w rb z (d.put x b) w' z'
section
variable {base : Nat} {w : World} {rb : Nat} {z : Sh} {d : Dr}
theorem Rw.toF {w : World} {nx en t t' : Nat} {D : List UInt8} {F G : Int → Option UInt8} (h : Rw base w rb z nx en D F t) (e : ∀ k, F k = G k) (ht : t ≤ t') : Rw base w rb z nx en D G t' := by
  have e' : F = G := funext e
  subst e'
  obtain ⟨n, h1, h2⟩ := h.map
  exact ⟨h.blk, h.st, ⟨n, by omega, h2⟩, h.data, h.lo, h.lvlo⟩
theorem Rw.toD {w : World} {nx en t : Nat} {D D' : List UInt8} {F : Int → Option UInt8} (h : Rw base w rb z nx en D F t) (e : D = D') : Rw base w rb z nx en D' F t := e ▸ h
/-- From the set's Add on: goOn. -/
theorem put_go (H0 : Rc base w rb z d) (hcap : d.t + 1 ≤ 1000) {x : Int} (hx : x ≤ 2147483648) {b : List UInt8} {f bh : Nat} (hS : Span d x b.length f bh) {wr w5 : World} (R : Rw base wr rb z d.nx d.en d.dat (d.mid x b (f : Int) (bh : Int)) (33 * d.t + (bh - f))) {v' : Value} {l' : List Rn} (s : St w5 z.ob v' l') (a : AddR z.l (inR (f : Int) ((bh : Int) - (f : Int))) l') (c : Ch wr w5 (fun k => k = z.ob ∨ z.lv.ownBlock = some k)) (o : ∀ k, v'.ownBlock = some k → z.lv.ownBlock = some k ∨ wr.heap.size ≤ k) (hb : base ≤ wr.heap.size) :
    Mv wr rb z w5 { z with lv := v', l := l' } ∧ Calls Try.prog 30 #[ptr rb] w5 (GoP base w5 rb { z with lv := v', l := l' } (d.put x b).nx d.en (d.putM x b b.length) d.rd (33 * (d.t + 1))) := by
  obtain ⟨r, m⟩ := R.setl s c o
  have hok := H0.ok
  have hl := hS.lt hok
  obtain ⟨p1, p2, p3, p4⟩ := hok.put_nx (x := x) (b := b)
  have hn := H0.nums
  have hD : d.dat = datM (d.putM x b b.length) d.rd d.nx := datM_congr (fun n h1 h2 => (Dr.putM_old (hok.all n (by omega) h2)).symm)
  have r2 := ((r.toF (fun k => mid_end hS hok k) (show 33 * d.t + (bh - f) ≤ 33 * (d.t + 1) by omega)).toD hD)
  exact ⟨m, goOn_any r2 (ls_put hS hok hx (by omega) H0.ls a) (by omega) hok.lo p1 p4 p3 (by omega) (Nat.le_trans hb c.size)⟩
theorem put_end (H0 : Rc base w rb z d) (hcap : d.t + 1 ≤ 1000) {x : Int} {b : List UInt8} {w6 : World} {z6 : Sh} (r : Rw base w6 rb z6 (d.put x b).nx d.en (datM (d.putM x b b.length) d.rd (d.put x b).nx) (ahd (d.putM x b b.length) (d.put x b).nx) (33 * (d.t + 1))) (L : Ls z6.l (d.putM x b b.length) (d.put x b).nx) (m : Mv w rb z w6 z6) : Left base w rb z (d.put x b) w6 z6 :=
  ⟨⟨r, L, H0.ok.put, hcap⟩, m⟩

set_option maxRecDepth 20000 in
set_option maxHeartbeats 6400000 in
theorem Put_any (H : Rc base w rb z d) (hbase : base ≤ w.heap.size) {x : Int} (hx : -1099511627776 ≤ x ∧ x ≤ 2147483648) {A : Option Addr} {n c : Nat} {b : List UInt8} (R : RB w A n c b) (hn : n ≤ 1099511627776) (hcap : d.t + 1 ≤ 1000) :
    Calls Try.prog 11 #[ptr rb, .int .i64 x, .slice A n c] w (PutP base w rb z d x b) := by
  have hnum := H.nums
  obtain ⟨f, hf⟩ : ∃ f : Nat, (f : Int) = max x (d.nx : Int) := ⟨(max x (d.nx : Int)).toNat, by omega⟩
  obtain ⟨bh, hbh⟩ : ∃ bh : Nat, (bh : Int) = max (f : Int) (min (x + (n : Int)) (d.bound : Int)) := ⟨(max (f : Int) (min (x + (n : Int)) (d.bound : Int))).toNat, by omega⟩
  have hlen := R.len
  have HS : Hid (Span d x b.length f bh) := Lib.hid ⟨hf, by rw [hlen]; exact hbh⟩
  have HB := Lib.hid (bound_any H)
  have HH := Lib.hid H
  have HLT := Lib.hid (HS.out.lt H.ok)
  have c0 : w.cell? ⟨rb, 0, none⟩ = some (.int .i64 (d.nx : Int)) := H.w.cell 0
  have hm1 : max x (d.nx : Int) = (f : Int) := hf.symm
  have hm2 : max (f : Int) (min (x + (n : Int)) (d.bound : Int)) = (bh : Int) := hbh.symm
  have hw1 : IntKind.i64.wrap (x + (n : Int)) = x + (n : Int) := by rw [IntKind.wrap_i64]; omega
  have HC := Lib.hid (And.intro hx.1 (And.intro hx.2 (And.intro hn (And.intro hcap (And.intro hbase hlen)))))
  have HRB := Lib.hid R
  have hcc := R.cap
  have HFB : Hid (f ≤ 2147483648 ∧ bh ≤ 2147483681 ∧ d.nx ≤ 33001) := Lib.hid (by have := HLT.out; refine ⟨by omega, by omega, by omega⟩)
  have HIN := Lib.hid (fun q h1 h2 => HS.out.in_ (q := q) h1 h2)
  have HM : Hid (∀ (w6 : World) (z6 : Sh), Left base w rb z (d.put x b) w6 z6 → PutP base w rb z d x b (.returned (.int .i64 (d.hits x b.length : Int))) w6) := Lib.hid (fun w6 z6 h => ⟨rfl, z6, h⟩)
  clear H hbase hx R hn hcap hf hbh hlen hnum
  obtain ⟨nx, hnx⟩ : ∃ nx, nx = d.nx := ⟨_, rfl⟩
  obtain ⟨bd, hbd⟩ : ∃ bd, bd = d.bound := ⟨_, rfl⟩
  obtain ⟨ob, hob⟩ : ∃ ob, ob = z.ob := ⟨_, rfl⟩
  rw [← hnx] at hm1 c0
  rw [← hbd] at hm2 HB
  have HNX := Lib.hid hnx
  have HOB := Lib.hid hob
  clear hnx hbd hob
  unfold ptr at *
  go_enter Try.func11, Try.ntmps11
  go_wp2_with fail
  refine (HB.out).mono ?_
  rintro e w1 ⟨rfl, m, rfl⟩
  have HB1 : Hid (Below w.heap.size w (w.drewN m)) := Lib.hid (below_dn (Below.refl _ _) m)
  generalize w.drewN m = w1 at *
  have H1 := Lib.hid (HH.out.below HB1.out)
  have HR1 := Lib.hid (HRB.out.below HB1.out)
  clear c0 HB
  go_wp2_with fail
  go_loopw [9] (fun ix wr => ∃ q : Nat, ix = .int .i64 (q : Int) ∧ f ≤ q ∧ q ≤ bh ∧ Rw base wr rb z d.nx d.en d.dat (d.mid x b (f : Int) (q : Int)) (33 * d.t + (q - f)) ∧ Mv w1 rb z wr z ∧ RB wr A n c b) (fun ix _ => bh - (intOf ix).toNat)
  case atStart => exact ⟨f, rfl, Nat.le_refl _, HLT.out.2.1, H1.out.w.toF (fun k => mid_start k) (by omega), Mv.refl _ _ _, HR1.out⟩
  case round =>
    obtain ⟨q, rfl, q1, q2, RW, m, RB1⟩ := hrel
    have HR := Lib.hid RW
    have HMV := Lib.hid m
    have HRB2 := Lib.hid RB1
    have HQ := Lib.hid (And.intro q1 q2)
    have c2 : wr.cell? ⟨rb, 2, none⟩ = some (.pointer (some ⟨ob, 0, none⟩)) := by rw [HOB.out]; exact RW.cell 2
    clear RW m RB1
    by_cases hlt : q < bh
    · have hltI : (q : Int) < (bh : Int) := by omega
      have HIQ := Lib.hid (HIN.out q q1 hlt)
      have HHS := Lib.hid (Has_any HR.out.st (x := (q : Int)) (by have := HFB.out; unfold isI; omega))
      have hw9 : IntKind.i64.wrap ((q : Int) + 1) = ((q + 1 : Nat) : Int) := by have := HFB.out; rw [IntKind.wrap_i64]; omega
      obtain ⟨q', hq'⟩ : ∃ q', q' = q + 1 := ⟨_, rfl⟩
      rw [← hq'] at hw9
      have HQ' := Lib.hid hq'
      have HLQ := Lib.hid hlt
      rw [← HOB.out] at HHS
      unfold ptr at HHS
      clear q1 q2 hq' hlt
      go_wp2_with fail
      refine (HHS.out).mono ?_
      rintro e w5 ⟨bb, rfl, hh, b5⟩
      have HB5 := Lib.hid b5
      have H5 := Lib.hid (HR.out.below b5)
      have HBB := Lib.hid hh
      have HR5 := Lib.hid (HRB2.out.below b5)
      clear hh b5 HHS c2
      have hnew : d.newAt (q : Int) = !bb := by
        rw [newAt_in HH.out.ok HIQ.out.1 HIQ.out.2.1]
        have h := HBB.out
        unfold hasB at h
        rw [HH.out.ls (q : Int), Int.toNat_natCast] at h
        have h2 : (d.nx : Int) ≤ (q : Int) := by have := HIQ.out.1; omega
        cases hM : d.M q with
        | none =>
          cases bb with
          | false => rfl
          | true =>
            have := (h.1 rfl).2
            rw [hM] at this
            cases this
        | some v =>
          have : bb = true := h.2 ⟨h2, by rw [hM]; rfl⟩
          rw [this]
          rfl
      have HNW := Lib.hid hnew
      clear hnew
      cases bb with
      | true =>
        have HR6 : Hid (Rw base w5 rb z d.nx d.en d.dat (d.mid x b (f : Int) ((q + 1 : Nat) : Int)) (33 * d.t + (q + 1 - f)) ∧ Mv w1 rb z w5 z) := Lib.hid ⟨H5.out.toF (fun k => mid_no HNW.out k) (by omega), HMV.out.after HB5.out⟩
        go_wp2_with fail
        go_roundw
        case rel => exact ⟨q + 1, by rw [HQ'.out], by have := HQ.out; omega, by have := HLQ.out; omega, HR6.out.1, HR6.out.2, HR5.out⟩
        case measure =>
          show bh - (q' : Int).toNat < bh - (q : Int).toNat
          have := HLQ.out
          have := HQ'.out
          omega
      | false =>
        have y3 : w5.cell? ⟨rb, 3, none⟩ = some (.map (some z.mb)) := H5.out.cell 3
        obtain ⟨i, hi⟩ : ∃ i : Nat, (q : Int) - x = (i : Int) := ⟨((q : Int) - x).toNat, by have := HIQ.out; omega⟩
        have hin : i < n := by have := HIQ.out; have := HC.out; omega
        have hwi : IntKind.i64.wrap ((q : Int) - x) = (i : Int) := by have := HFB.out; have := HC.out; rw [IntKind.wrap_i64]; omega
        have hinI : (i : Int) < (n : Int) := by omega
        obtain ⟨g, o, rfl, xc⟩ := HR5.out.at_ (j := i) hin
        obtain ⟨mb, hmb⟩ : ∃ mb, mb = z.mb := ⟨_, rfl⟩
        rw [← hmb] at y3
        have HMB := Lib.hid hmb
        have HI := Lib.hid hi
        obtain ⟨k, hk, hM⟩ := H5.out.map
        have HK := Lib.hid hk
        have HMM := Lib.hid hM
        have HAT : Hid (d.mid x b (f : Int) (q : Int) (q : Int) = none) := Lib.hid (by
          have h := HNW.out
          have h3 := (Dr.newAt_iff.1 h).2.2
          rw [Int.toNat_natCast] at h3
          unfold Dr.mid
          rw [decide_eq_false (by omega), Bool.and_false, if_pos (by have := HIQ.out.1; omega), Int.toNat_natCast, h3]
          rfl)
        clear hmb hi hk hM
        generalize hbt : b.getD i 0 = bt at *
        have HBT := Lib.hid hbt
        clear hbt
        go_upto_region 9 with (fail)
        go_still_tail 11, (by kernel_rfl)
        change wpList _ _ _ _ _ w5.drew
        refine wpList_putV rfl _ _ _ rfl rfl (by rw [HMB.out]; exact HMM.out.keep (w' := w5.drew) rfl) (h := (q : Int)) (by have := HFB.out; have := HLQ.out; unfold isI; omega) rfl HAT.out (b := bt) rfl (by have := HK.out; have := HC.out; have := HLQ.out; have := HFB.out; omega) ?_
        intro w6 M6 tu
        have HR6 : Hid (Rw base w6 rb z d.nx d.en d.dat (d.mid x b (f : Int) ((q + 1 : Nat) : Int)) (33 * d.t + (q + 1 - f)) ∧ Mv w1 rb z w6 z ∧ RB w6 (some ⟨g, o, none⟩) n c b) := by
          rw [HMB.out] at M6 tu
          have HD := H5.out.below (Below.refl _ _).drew
          obtain ⟨r, mm⟩ := HD.setm (F' := d.mid x b (f : Int) ((q + 1 : Nat) : Int)) (n := k + 1) (t' := 33 * d.t + (q + 1 - f)) (M6.congr (fun j => by
            rw [← mid_yes HIQ.out.1 HQ.out.1 HNW.out j, ← HBT.out]
            have e : ((q : Int) - x).toNat = i := by have := HI.out; omega
            rw [e])) (by have := HK.out; have := HQ.out; omega) tu
          obtain ⟨es, cl, hob2⟩ := HMM.out.obj
          have c6 : Ch w5.drew w6 (fun j => j = z.mb) := Ch.turned (m := fun j => j = z.mb) (Ch.refl w5.drew _) tu (fun _ => rfl)
          exact Lib.hid ⟨r, (HMV.out.after (HB5.out.trans (Below.refl _ _).drew)).then_ mm, rb_ch (w := w5.drew) HR5.out.drew c6 (fun g' o' s' e hn => rb_map HR5.out hob2 g' o' s' e hn)⟩
        clear M6 tu y3 xc
        go_wp2_with fail
        go_roundw
        case rel => exact ⟨q + 1, by rw [HQ'.out], by have := HQ.out; omega, by have := HLQ.out; omega, HR6.out.1, HR6.out.2.1, HR6.out.2.2⟩
        case measure =>
          show bh - (q' : Int).toNat < bh - (q : Int).toNat
          have := HLQ.out
          have := HQ'.out
          omega
    · obtain rfl : q = bh := by omega
      have hltI : ¬ (q : Int) < (q : Int) := by omega
      have hw2 : IntKind.i64.wrap ((q : Int) - (f : Int)) = (q : Int) - (f : Int) := by have := HFB.out; rw [IntKind.wrap_i64]; omega
      have HADD := Lib.hid (Add_any HR.out.st (f := (f : Int)) (g := (q : Int) - (f : Int)) (by have := HFB.out; unfold isI; omega) (by have := HFB.out; unfold isI; omega))
      have hbs : base ≤ wr.heap.size := by have := HC.out; have h1 := HMV.out.ch.size; have := HB1.out.size; omega
      have HBS := Lib.hid hbs
      rw [← HOB.out] at HADD
      unfold ptr at HADD
      clear hlt q1 q2 hbs
      go_wp2_with fail
      refine (HADD.out).mono ?_
      rintro e w5 ⟨v', l', rfl, s', a', _, c', o'⟩
      rw [HOB.out] at s' c'
      have hmany := many_put HS.out HH.out.ok HC.out.2.1 (by have := HC.out.2.2.2.1; omega) HH.out.w.st.tid s'.tid HH.out.ls a'
      rw [hmany]
      have HG := Lib.hid (put_go HH.out HC.out.2.2.2.1 HC.out.2.1 HS.out HR.out s' a' c' o' HBS.out)
      clear hmany s' a' c' o' HADD c2
      have HG2 := Lib.hid HG.out.2
      unfold ptr at HG2
      go_wp2_with fail
      refine (HG2.out).mono ?_
      rintro e w6 ⟨rfl, z6, r6, L6, m6⟩
      have HX := Lib.hid (HM.out w6 z6 (put_end HH.out HC.out.2.2.2.1 r6 L6 (((Mv.of_below HB1.out).then_ HMV.out).then_ (HG.out.1.then_ m6))))
      clear r6 L6 m6 HG2
      go_wp2_with fail
      go_ret
      exact HX.out
end
end Go.Proofs.Ytancbdnpmabpfaa

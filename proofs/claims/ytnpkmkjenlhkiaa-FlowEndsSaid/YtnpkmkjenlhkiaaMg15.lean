/- The contract of hearData. Conditions: the flow stands, its numbers within their bounds; what is told of what was heard stands too, apart from the flow. -/
import Derived.Test.YtnpkmkjenlhkiaaMg14
namespace Go.Proofs.Ytnpkmkjenlhkiaa
set_option linter.unusedVariables false
set_option linter.unusedSimpArgs false
set_option maxRecDepth 20000
open Go.RowKit Go.Lib

/-- What it leads to that the other one's Fin came. -/
def F.finc (x : F) (t : Int) : F := if x.st = 3 then x.at_ 6 else if x.st = 4 then x.at_ 7 else if x.st = 5 then x.lin t else x
theorem finc_fc (x : F) (t : Int) (qb : Nat) (v : Value) : (x.fc qb v).finc t = (x.finc t).fc qb v := by
  unfold Fc.finc F.finc
  show (if x.st = 3 then _ else if x.st = 4 then _ else if x.st = 5 then _ else _) = _
  by_cases h1 : x.st = 3
  · rw [if_pos h1, if_pos h1]; rfl
  · rw [if_neg h1, if_neg h1]
    by_cases h2 : x.st = 4
    · rw [if_pos h2, if_pos h2]; rfl
    · rw [if_neg h2, if_neg h2]
      by_cases h3 : x.st = 5
      · rw [if_pos h3, if_pos h3]; rfl
      · rw [if_neg h3, if_neg h3]
theorem finc_same (x : F) (t : Int) : (x.finc t).b = x.b ∧ (x.finc t).ks = x.ks ∧ (x.finc t).en = x.en ∧ (x.finc t).os = x.os ∧ (x.finc t).rcv = x.rcv := by
  unfold F.finc
  by_cases h1 : x.st = 3
  · rw [if_pos h1]; exact ⟨rfl, rfl, rfl, rfl, rfl⟩
  · rw [if_neg h1]
    by_cases h2 : x.st = 4
    · rw [if_pos h2]; exact ⟨rfl, rfl, rfl, rfl, rfl⟩
    · rw [if_neg h2]
      by_cases h3 : x.st = 5
      · rw [if_pos h3]; exact ⟨rfl, rfl, rfl, rfl, rfl⟩
      · rw [if_neg h3]; exact ⟨rfl, rfl, rfl, rfl, rfl⟩
/-- Are a segment's data fresh? What they, and its Fin, do. -/
def F.isFresh (x : F) (q : Nat) : Prop := q = x.rcv ∧ (x.st = 3 ∨ x.st = 4 ∨ x.st = 5)
instance (x : F) (q : Nat) : Decidable (x.isFresh q) := by unfold F.isFresh; exact inferInstance
def F.takes (x : F) (q ln : Nat) (fin : Bool) (t : Int) : F := if x.isFresh q then (if fin = true then (x.rcvd (on x.rcv (ln : Int))).finc t else x.rcvd (on x.rcv (ln : Int))) else x
def F.hdata (x : F) (q ln : Nat) (fin : Bool) (t : Int) : F := if 0 < ln ∨ bf q x.rcv = true then (x.takes q ln fin t).tell (tK x.en) else x.takes q ln fin t
theorem bf_self (a : Nat) (h : a < 4294967296) : bf a a = false := by
  unfold bf Go.Proofs.Ytnpkmkjenlhkiaa.st
  rw [decide_eq_false]
  omega
section
variable {base : Nat} {w w' : World} {s : Sh} {x : F}
theorem Fl.finc_ {e : Ending} {t : Int} (h : Fl base w s x) (d : Did w s.fb ((x.fc s.qb s.ov).finc t) e w') : Fl base w' s (x.finc t) ∧ Ch w w' (fun g => g = s.fb) := by
  have k := finc_same x t
  exact ⟨h.did d.2.1 d.2.2 (finc_fc x t _ _) k.1 k.2.1 k.2.2.1 k.2.2.2.1 (by rw [k.2.2.2.2]; exact h.rcv), d.2.2⟩
/-- Within hearData: the flow, what was heard, the segment. -/
structure Dt (base : Nat) (w : World) (s : Sh) (y : F) (hb g : Nat) (hs sg : List Value) (W : World) : Prop where
  fl : Fl base W s y
  ch : Ch w W (fun k => s.T k ∨ k = hb)
  hd : Own W hb hs
  bx : Own W g sg
theorem Dt.below {y : F} {hb g : Nat} {hs sg : List Value} {W W2 : World} (h : Dt base w s y hb g hs sg W) (b : Below W.heap.size W W2) : Dt base w s y hb g hs sg W2 :=
  ⟨h.fl.below b, h.ch.trans (Ch.of_below (fun _ => False) b) (fun _ _ e => e) (fun _ _ e => e.elim), h.hd.below b, h.bx.below b⟩
theorem Dt.did {y y' : F} {hb g : Nat} {hs sg : List Value} {W W2 : World} (h : Dt base w s y hb g hs sg W) (n1 : 0 < hs.length) (n2 : 0 < sg.length) (h1 : hb ≠ s.fb) (h2 : g ≠ s.fb) (f : Fl base W2 s y') (c : Ch W W2 (fun k => k = s.fb)) : Dt base w s y' hb g hs sg W2 :=
  ⟨f, h.ch.trans c (fun _ _ e => e) (fun _ _ e => .inl (.inl e)), h.hd.ch n1 c h1, h.bx.ch n2 c h2⟩
theorem Dt.hear {y : F} {hb g : Nat} {hs sg : List Value} {W : World} (h : Dt base w s y hb g hs sg W) (n2 : 0 < sg.length) (h1 : ¬ s.T hb) (h2 : g ≠ hb) (k : Nat) (hk : k < hs.length) (v : Value) : Dt base w s y hb g (hs.set k v) sg (W.setCell ⟨hb, k, none⟩ v) :=
  ⟨h.fl.frame (ch_set W hb k v) (fun j hj e => h1 (e ▸ hj)), h.ch.trans (ch_set W hb k v) (fun _ _ e => e) (fun _ _ e => .inr e), h.hd.set k hk v, h.bx.ch n2 (ch_set W hb k v) h2⟩
theorem Dt.leftH {y : F} {hb g : Nat} {hs sg : List Value} {W : World} (h : Dt base w s y hb g hs sg W) : LeftH base w s y hb W := ⟨s, rfl, h.fl, h.ch, fun k hk => .inl hk⟩
theorem Dt.tell {y y' : F} {hb g : Nat} {hs sg : List Value} {W W2 : World} (h : Dt base w s y hb g hs sg W) (l : Left base W s y' W2) : LeftH base w s y' hb W2 := by
  obtain ⟨s2, e, f, c, n⟩ := l
  exact ⟨s2, e, f, h.ch.trans c (fun _ _ e => e) (fun _ _ e => .inl e), fun k hk => by
    rcases n k hk with h1 | h1
    · exact .inl h1
    · exact .inr (Nat.le_trans h.ch.size h1)⟩
theorem takes_en (x : F) (q ln : Nat) (fin : Bool) (t : Int) : (x.takes q ln fin t).en = x.en := by
  unfold F.takes
  by_cases h : x.isFresh q
  · rw [if_pos h]
    by_cases h2 : fin = true
    · rw [if_pos h2, (finc_same _ _).2.2.1]; rfl
    · rw [if_neg h2]; rfl
  · rw [if_neg h]
theorem takes_os (x : F) (q ln : Nat) (fin : Bool) (t : Int) : (x.takes q ln fin t).os = x.os := by
  unfold F.takes
  by_cases h : x.isFresh q
  · rw [if_pos h]
    by_cases h2 : fin = true
    · rw [if_pos h2, (finc_same _ _).2.2.2.1]; rfl
    · rw [if_neg h2]; rfl
  · rw [if_neg h]
/-- What hearData leaves. -/
def DataP (base : Nat) (w : World) (s : Sh) (x' : F) (hb : Nat) (op fresh : Bool) (v : Value) (e : Ending) (w' : World) : Prop := e = .returned (.tuple #[]) ∧ LeftH base w s x' hb w' ∧ ∃ fi, Own w' hb (hv op fi false false fresh v)
set_option maxHeartbeats 12800000 in
theorem hearData_any (h : Fl base w s x) (q ak : Nat) (kk fin rr : Bool) (A : Option Addr) (n c : Nat) (hq : q < 4294967296) (hnc : n ≤ c) (hcm : c ≤ 9223372036854775807) (hn0 : n ≤ 1099511627776) (hb : Nat) (op : Bool) (v : Value) (hd0 : Own w hb (hv op false false false false v)) (hbt : ¬ s.T hb) (hn : x.os.length ≤ 274877906944) (t : Int) :
    Calls Try.prog 44 #[ptr s.fb, .agg (sgx q ak false kk fin rr A n c).toArray, .int .i64 t, ptr hb] w (DataP base w s (x.hdata q (n + bn fin) fin t) hb op (decide (x.isFresh q)) v) := by
  have H := Lib.hid h
  have hfb := h.fa.lt
  have hlb := hd0.lt (by show 0 < 6; omega)
  have hne : hb ≠ s.fb := fun e => hbt (.inl e)
  have hgT : ¬ s.T w.heap.size := fun e => by have := (h.in_ e).2; omega
  have HBT := Lib.hid (And.intro hbt hgT)
  have HD0 := Lib.hid hd0
  have hLb : n + bn fin ≤ 1099511627778 := by cases fin <;> (unfold bn; simp; omega)
  have hLp : fin = true → 0 < n + bn fin := fun e => by rw [e]; exact Nat.succ_pos n
  have hL0 : n + bn false + bn fin = n + bn fin := rfl
  have HLg := Lib.hid (fun W => Long_sg q ak false kk fin rr A n c W hnc hcm hn0)
  rw [hL0] at HLg
  generalize n + bn fin = L at *
  clear hL0
  have HBf := Lib.hid (fun W => Before_any q x.rcv W hq h.rcv)
  have HTe := Lib.hid (fun (W : World) (y : F) (f : Fl base W s y) (e1 : y.os = x.os) => tellAt_any f y.en f.qu.num (by rw [e1]; omega))
  have HTk := Lib.hid (fun (W : World) (y : F) (f : Fl base W s y) => takes_any f.fa)
  have HEn := Lib.hid (fun (W : World) (y : F) (f : Fl base W s y) => End_any f.qu)
  have HFc := Lib.hid (fun (W : World) (y : F) (f : Fl base W s y) => finCame_any f.fa t)
  have HON := Lib.hid (fun (m : Nat) (W : World) (hm : m ≤ 2199023255552) => On_any x.rcv (m : Int) W h.rcv (by omega))
  have hrc := h.rcv
  clear h hbt hgT hd0 hn hq hcm
  unfold ptr at *
  cases fin
  · by_cases hlen : 0 < L
    · have hli : (0 : Int) < (L : Int) := by omega
      by_cases hqr : q = x.rcv
      · subst hqr
        by_cases htk : x.st = 3 ∨ x.st = 4 ∨ x.st = 5
        · have HTk : Hid (∀ (W : World) (y : F), Fl base W s y → y.st = x.st → Calls Try.prog 64 #[.pointer (some ⟨s.fb, 0, none⟩)] W fun e w' => e = .returned (.bool true) ∧ w' = W) := Lib.hid (fun W y f e => by have := HTk.out W y f; rw [show decide ((y.fc s.qb s.ov).st = 3 ∨ (y.fc s.qb s.ov).st = 4 ∨ (y.fc s.qb s.ov).st = 5) = true from decide_eq_true (by show y.st = 3 ∨ y.st = 4 ∨ y.st = 5; rw [e]; exact htk)] at this; exact this)
          as_aux_lemma =>
            go_enter Try.func44, Try.ntmps44
            go_wp2_with (first
              | ((with_reducible refine wpList_here ?_); refine wpList_boxV (o := ⟨some 5, _, _, _, _, _⟩) rfl 47 (.tmp 1) rfl (sgx x.rcv ak false kk false rr A n c) rfl _ rfl ?_; intro w1 z1 b1 s1; have HD1 : Hid (Dt base w s x hb w.heap.size (hv op false false false false v) (sgx x.rcv ak false kk false rr A n c) w1.drew) := Lib.hid ⟨H.out.below b1.drew, (Ch.of_below _ b1.drew), HD0.out.below b1.drew, z1⟩; clear b1 z1)
              | fail)
            generalize hwd : w1.drew = wd at *
            have hgs : w.heap.size ≠ s.fb ∧ w.heap.size ≠ hb := ⟨by omega, by omega⟩
            generalize hgz : w.heap.size = g at *
            have e0 : wd.rangeAt g 0 (sgx x.rcv ak false kk false rr A n c) ∧ wd.cell? ⟨s.fb, 6, none⟩ = some (.int .u32 (x.rcv : Int)) ∧ wd.cell? ⟨g, 4, none⟩ = some (.int .u32 (x.rcv : Int)) := ⟨HD1.out.bx.range, HD1.out.fl.fa.c6, (HD1.out.bx 4 (by rw [sgx_length]; omega)).1⟩
            refine wp_region_noPanic ?_
            refine wp_region_held_drew (S := fun W => W.rangeAt g 0 (sgx x.rcv ak false kk false rr A n c) ∧ W.cell? ⟨s.fb, 6, none⟩ = some (.int .u32 (x.rcv : Int)) ∧ W.cell? ⟨g, 4, none⟩ = some (.int .u32 (x.rcv : Int))) (by kernel_rfl) (by rw [hwd]; exact e0) (fun _ => ?_)
            rw [hwd]
            clear hwd
            refine held_take (i := 0) (v := .agg (sgx x.rcv ak false kk false rr A n c).toArray) (some 9) rfl rfl (by kernel_rfl) (by kernel_rfl) (by kernel_rfl) (fun _ _ _ h => h) (yieldsIf_load_mid (by rfl) 47 (.tmp 5) rfl _ _ rfl _ _ (fun W hW => hW.1) Try.underlying47 rfl infoSg) e0 ?_
            simp only [Act.put, List.setIfInBounds_toArray, List.set_cons_zero, List.set_cons_succ]
            refine wpAnyH_ready (rs := [1]) (by kernel_rfl) (by simp) ?_
            refine AllReadyH.cons rfl (fun K hK => ?_) AllReadyH.nil
            go_simp
            refine (HLg.out _).mono ?_
            rintro e w2 ⟨rfl, b2⟩
            have HD1 := Lib.hid (HD1.out.below b2)
            have e0 : w2.rangeAt g 0 (sgx x.rcv ak false kk false rr A n c) ∧ w2.cell? ⟨s.fb, 6, none⟩ = some (.int .u32 (x.rcv : Int)) ∧ w2.cell? ⟨g, 4, none⟩ = some (.int .u32 (x.rcv : Int)) := ⟨HD1.out.bx.range, HD1.out.fl.fa.c6, (HD1.out.bx 4 (by rw [sgx_length]; omega)).1⟩
            clear b2
            dsimp only
            refine hK.out _ _ e0 (fun _ => ?_)
            clear hK
            try simp only [Act.put, List.setIfInBounds_toArray, List.set_cons_zero, List.set_cons_succ]
            refine held_take (i := 2) (v := .bool true) (some 11) rfl rfl (by kernel_rfl) (by kernel_rfl) (by kernel_rfl) (fun _ _ _ h => h) (Or.inl ⟨by rfl, fun W hW => by go_simp⟩) e0 ?_
            simp only [Act.put, List.setIfInBounds_toArray, List.set_cons_zero, List.set_cons_succ]
            refine held_take (i := 3) (v := .bool true) (some 12) rfl rfl (by kernel_rfl) (by kernel_rfl) (by kernel_rfl) (fun _ _ _ h => h) (Or.inl ⟨by rfl, fun W hW => by go_simp⟩) e0 ?_
            simp only [Act.put, List.setIfInBounds_toArray, List.set_cons_zero, List.set_cons_succ]
            refine held_take (i := 4) (v := undef) (some 13) rfl rfl (by kernel_rfl) (by kernel_rfl) (by kernel_rfl) (fun _ _ _ h => h) (Or.inr ⟨by rfl, by rfl⟩) e0 ?_
            simp only [Act.put, List.setIfInBounds_toArray, List.set_cons_zero, List.set_cons_succ]
            refine held_take (i := 6) (v := undef) (some 15) rfl rfl (by kernel_rfl) (by kernel_rfl) (by kernel_rfl) (fun _ _ _ h => h) (Or.inr ⟨by rfl, by rfl⟩) e0 ?_
            simp only [Act.put, List.setIfInBounds_toArray, List.set_cons_zero, List.set_cons_succ]
            refine held_take (i := 5) (v := undef) (some 14) rfl rfl (by kernel_rfl) (by kernel_rfl) (by kernel_rfl) (fun _ _ _ h => h) (Or.inr ⟨by rfl, by rfl⟩) e0 ?_
            simp only [Act.put, List.setIfInBounds_toArray, List.set_cons_zero, List.set_cons_succ]
            refine held_take (i := 7) (v := undef) (some 16) rfl rfl (by kernel_rfl) (by kernel_rfl) (by kernel_rfl) (fun _ _ _ h => h) (Or.inr ⟨by rfl, by rfl⟩) e0 ?_
            simp only [Act.put, List.setIfInBounds_toArray, List.set_cons_zero, List.set_cons_succ]
            refine held_take (i := 8) (v := undef) (some 17) rfl rfl (by kernel_rfl) (by kernel_rfl) (by kernel_rfl) (fun _ _ _ h => h) (Or.inr ⟨by rfl, by rfl⟩) e0 ?_
            simp only [Act.put, List.setIfInBounds_toArray, List.set_cons_zero, List.set_cons_succ]
            refine held_take (i := 9) (v := undef) (some 18) rfl rfl (by kernel_rfl) (by kernel_rfl) (by kernel_rfl) (fun _ _ _ h => h) (Or.inr ⟨by rfl, by rfl⟩) e0 ?_
            simp only [Act.put, List.setIfInBounds_toArray, List.set_cons_zero, List.set_cons_succ]
            refine held_take (i := 10) (v := undef) (some 19) rfl rfl (by kernel_rfl) (by kernel_rfl) (by kernel_rfl) (fun _ _ _ h => h) (Or.inr ⟨by rfl, by rfl⟩) e0 ?_
            simp only [Act.put, List.setIfInBounds_toArray, List.set_cons_zero, List.set_cons_succ]
            refine held_take (i := 11) (v := .bool true) (some 20) rfl rfl (by kernel_rfl) (by kernel_rfl) (by kernel_rfl) (fun _ _ _ h => h) (Or.inl ⟨by rfl, fun W hW => by go_simp⟩) e0 ?_
            simp only [Act.put, List.setIfInBounds_toArray, List.set_cons_zero, List.set_cons_succ]
            refine held_take (i := 12) (v := .bool true) (some 8) rfl rfl (by kernel_rfl) (by kernel_rfl) (by kernel_rfl) (fun _ _ _ h => h) (Or.inl ⟨by rfl, fun W hW => by go_simp⟩) e0 ?_
            simp only [Act.put, List.setIfInBounds_toArray, List.set_cons_zero, List.set_cons_succ]
            refine wpAnyH_done (by kernel_rfl) ?_ _
            refine NoPanic.normal ?_
            go_wp2_with fail
            have HD1 := Lib.hid (HD1.out.below (Below.refl _ _).drew)
            have ex : w2.drew.rangeAt g 0 (sgx x.rcv ak false kk false rr A n c) ∧ w2.drew.cell? ⟨s.fb, 6, none⟩ = some (.int .u32 (x.rcv : Int)) ∧ w2.drew.cell? ⟨g, 4, none⟩ = some (.int .u32 (x.rcv : Int)) := ⟨HD1.out.bx.range, HD1.out.fl.fa.c6, (HD1.out.bx 4 (by rw [sgx_length]; omega)).1⟩
            clear e0
            have e0 := ex
            clear ex
            generalize hwd : w2.drew = we at *
            refine wp_region_noPanic ?_
            refine wp_region_held_drew (S := fun W => W.rangeAt g 0 (sgx x.rcv ak false kk false rr A n c) ∧ W.cell? ⟨s.fb, 6, none⟩ = some (.int .u32 (x.rcv : Int)) ∧ W.cell? ⟨g, 4, none⟩ = some (.int .u32 (x.rcv : Int))) (by kernel_rfl) (by rw [hwd]; exact e0) (fun _ => ?_)
            rw [hwd]
            clear hwd
            refine held_take (i := 0) (v := .pointer (some ⟨g, 4, none⟩)) (some 21) rfl rfl (by kernel_rfl) (by kernel_rfl) (by kernel_rfl) (fun _ _ _ h => h) (Or.inl ⟨by rfl, fun W hW => by go_simp⟩) e0 ?_
            simp only [Act.put, List.setIfInBounds_toArray, List.set_cons_zero, List.set_cons_succ]
            refine held_take (i := 2) (v := .pointer (some ⟨s.fb, 0, none⟩)) (some 23) rfl rfl (by kernel_rfl) (by kernel_rfl) (by kernel_rfl) (fun _ _ _ h => h) (Or.inl ⟨by rfl, fun W hW => by go_simp⟩) e0 ?_
            simp only [Act.put, List.setIfInBounds_toArray, List.set_cons_zero, List.set_cons_succ]
            refine held_take (i := 1) (v := .int .u32 (x.rcv : Int)) (some 22) rfl rfl (by kernel_rfl) (by kernel_rfl) (by kernel_rfl) (fun _ _ _ h => h) (Or.inl ⟨by rfl, fun W hW => by have hc := hW.2.2; go_simp⟩) e0 ?_
            simp only [Act.put, List.setIfInBounds_toArray, List.set_cons_zero, List.set_cons_succ]
            refine held_take (i := 3) (v := .pointer (some ⟨s.fb, 0, none⟩)) (some 24) rfl rfl (by kernel_rfl) (by kernel_rfl) (by kernel_rfl) (fun _ _ _ h => h) (Or.inl ⟨by rfl, fun W hW => by go_simp⟩) e0 ?_
            simp only [Act.put, List.setIfInBounds_toArray, List.set_cons_zero, List.set_cons_succ]
            refine held_take (i := 4) (v := .pointer (some ⟨s.fb, 6, none⟩)) (some 25) rfl rfl (by kernel_rfl) (by kernel_rfl) (by kernel_rfl) (fun _ _ _ h => h) (Or.inl ⟨by rfl, fun W hW => by go_simp⟩) e0 ?_
            simp only [Act.put, List.setIfInBounds_toArray, List.set_cons_zero, List.set_cons_succ]
            refine held_take (i := 5) (v := .int .u32 (x.rcv : Int)) (some 26) rfl rfl (by kernel_rfl) (by kernel_rfl) (by kernel_rfl) (fun _ _ _ h => h) (Or.inl ⟨by rfl, fun W hW => by have hc := hW.2.1; go_simp⟩) e0 ?_
            simp only [Act.put, List.setIfInBounds_toArray, List.set_cons_zero, List.set_cons_succ]
            refine held_take (i := 6) (v := .bool true) (some 27) rfl rfl (by kernel_rfl) (by kernel_rfl) (by kernel_rfl) (fun _ _ _ h => h) (Or.inl ⟨by rfl, fun W hW => by go_simp⟩) e0 ?_
            simp only [Act.put, List.setIfInBounds_toArray, List.set_cons_zero, List.set_cons_succ]
            refine held_take (i := 7) (v := .bool true) (some 28) rfl rfl (by kernel_rfl) (by kernel_rfl) (by kernel_rfl) (fun _ _ _ h => h) (Or.inl ⟨by rfl, fun W hW => by go_simp⟩) e0 ?_
            simp only [Act.put, List.setIfInBounds_toArray, List.set_cons_zero, List.set_cons_succ]
            refine held_take (i := 8) (v := .pointer (some ⟨s.fb, 0, none⟩)) (some 29) rfl rfl (by kernel_rfl) (by kernel_rfl) (by kernel_rfl) (fun _ _ _ h => h) (Or.inl ⟨by rfl, fun W hW => by go_simp⟩) e0 ?_
            simp only [Act.put, List.setIfInBounds_toArray, List.set_cons_zero, List.set_cons_succ]
            refine wpAnyH_ready (rs := [9]) (by kernel_rfl) (by simp) ?_
            refine AllReadyH.cons rfl (fun K hK => ?_) AllReadyH.nil
            go_simp
            refine (HTk.out _ _ HD1.out.fl rfl).mono ?_
            rintro e w4 ⟨rfl, hw4⟩
            obtain rfl : we = w4 := hw4.symm
            dsimp only
            refine hK.out _ _ e0 (fun _ => ?_)
            clear hK
            try simp only [Act.put, List.setIfInBounds_toArray, List.set_cons_zero, List.set_cons_succ]
            refine held_take (i := 10) (v := .bool true) (some 31) rfl rfl (by kernel_rfl) (by kernel_rfl) (by kernel_rfl) (fun _ _ _ h => h) (Or.inl ⟨by rfl, fun W hW => by go_simp⟩) e0 ?_
            simp only [Act.put, List.setIfInBounds_toArray, List.set_cons_zero, List.set_cons_succ]
            refine wpAnyH_done (by kernel_rfl) ?_ _
            refine NoPanic.normal ?_
            go_wp2_with fail
            have HD1 := Lib.hid (HD1.out.below (Below.refl _ _).drew)
            have i4 := (HD1.out.hd 4 (by show 4 < 6; omega))
            have i1 := (HD1.out.hd 1 (by show 1 < 6; omega))
            have e5 : we.drew.cell? ⟨hb, 4, none⟩ = some (.bool false) ∧ we.drew.frozen? ⟨hb, 4, none⟩ = false ∧ we.drew.cell? ⟨hb, 1, none⟩ = some (.bool false) ∧ we.drew.frozen? ⟨hb, 1, none⟩ = false ∧ we.drew.cell? ⟨g, 8, none⟩ = some (.bool false) := ⟨i4.1, i4.2, i1.1, i1.2, (HD1.out.bx 8 (by rw [sgx_length]; omega)).1⟩
            clear e0 i4 i1
            generalize hwd : we.drew = wf at *
            refine wp_region_noPanic ?_
            have e5 : (∃ b, wf.cell? ⟨hb, 4, none⟩ = some (.bool b)) ∧ wf.frozen? ⟨hb, 4, none⟩ = false ∧ (∃ b, wf.cell? ⟨hb, 1, none⟩ = some (.bool b)) ∧ wf.frozen? ⟨hb, 1, none⟩ = false ∧ wf.cell? ⟨g, 8, none⟩ = some (.bool false) := ⟨⟨_, e5.1⟩, e5.2.1, ⟨_, e5.2.2.1⟩, e5.2.2.2.1, e5.2.2.2.2⟩
            refine wp_region_held_drew (S := fun W => (∃ b, W.cell? ⟨hb, 4, none⟩ = some (.bool b)) ∧ W.frozen? ⟨hb, 4, none⟩ = false ∧ (∃ b, W.cell? ⟨hb, 1, none⟩ = some (.bool b)) ∧ W.frozen? ⟨hb, 1, none⟩ = false ∧ W.cell? ⟨g, 8, none⟩ = some (.bool false)) (by kernel_rfl) (by rw [hwd]; exact e5) (fun _ => ?_)
            rw [hwd]
            clear hwd
            refine held_take (i := 0) (v := .pointer (some ⟨hb, 0, none⟩)) (some 32) rfl rfl (by kernel_rfl) (by kernel_rfl) (by kernel_rfl) (fun _ _ _ h => h) (Or.inl ⟨by rfl, fun W hW => by go_simp⟩) e5 ?_
            simp only [Act.put, List.setIfInBounds_toArray, List.set_cons_zero, List.set_cons_succ]
            refine held_take (i := 1) (v := .pointer (some ⟨hb, 0, none⟩)) (some 33) rfl rfl (by kernel_rfl) (by kernel_rfl) (by kernel_rfl) (fun _ _ _ h => h) (Or.inl ⟨by rfl, fun W hW => by go_simp⟩) e5 ?_
            simp only [Act.put, List.setIfInBounds_toArray, List.set_cons_zero, List.set_cons_succ]
            refine held_take (i := 2) (v := .pointer (some ⟨g, 8, none⟩)) (some 34) rfl rfl (by kernel_rfl) (by kernel_rfl) (by kernel_rfl) (fun _ _ _ h => h) (Or.inl ⟨by rfl, fun W hW => by go_simp⟩) e5 ?_
            simp only [Act.put, List.setIfInBounds_toArray, List.set_cons_zero, List.set_cons_succ]
            refine held_take (i := 3) (v := .bool false) (some 35) rfl rfl (by kernel_rfl) (by kernel_rfl) (by kernel_rfl) (fun _ _ _ h => h) (Or.inl ⟨by rfl, fun W hW => by have hc := hW.2.2.2.2; go_simp⟩) e5 ?_
            simp only [Act.put, List.setIfInBounds_toArray, List.set_cons_zero, List.set_cons_succ]
            refine held_take (i := 4) (v := .pointer (some ⟨hb, 0, none⟩)) (some 36) rfl rfl (by kernel_rfl) (by kernel_rfl) (by kernel_rfl) (fun _ _ _ h => h) (Or.inl ⟨by rfl, fun W hW => by go_simp⟩) e5 ?_
            simp only [Act.put, List.setIfInBounds_toArray, List.set_cons_zero, List.set_cons_succ]
            refine held_take (i := 5) (v := .pointer (some ⟨hb, 4, none⟩)) (some 37) rfl rfl (by kernel_rfl) (by kernel_rfl) (by kernel_rfl) (fun _ _ _ h => h) (Or.inl ⟨by rfl, fun W hW => by go_simp⟩) e5 ?_
            simp only [Act.put, List.setIfInBounds_toArray, List.set_cons_zero, List.set_cons_succ]
            refine wpAnyH_ready (rs := [6]) (by kernel_rfl) (by simp) ?_
            refine AllReadyH.cons rfl (fun K hK => ?_) AllReadyH.nil
            obtain ⟨b4, c4⟩ := e5.1
            have f4 := e5.2.1
            go_simp
            have HD6 := Lib.hid (HD1.out.hear (by rw [sgx_length]; omega) HBT.out.1 hgs.2 4 (by show 4 < 6; omega) (.bool true))
            have e6 : (∃ b, (wf.setCell ⟨hb, 4, none⟩ (.bool true)).cell? ⟨hb, 4, none⟩ = some (.bool b)) ∧ (wf.setCell ⟨hb, 4, none⟩ (.bool true)).frozen? ⟨hb, 4, none⟩ = false ∧ (∃ b, (wf.setCell ⟨hb, 4, none⟩ (.bool true)).cell? ⟨hb, 1, none⟩ = some (.bool b)) ∧ (wf.setCell ⟨hb, 4, none⟩ (.bool true)).frozen? ⟨hb, 1, none⟩ = false ∧ (wf.setCell ⟨hb, 4, none⟩ (.bool true)).cell? ⟨g, 8, none⟩ = some (.bool false) := ⟨⟨_, (HD6.out.hd 4 (by show 4 < 6; omega)).1⟩, (HD6.out.hd 4 (by show 4 < 6; omega)).2, ⟨_, (HD6.out.hd 1 (by show 1 < 6; omega)).1⟩, (HD6.out.hd 1 (by show 1 < 6; omega)).2, (HD6.out.bx 8 (by rw [sgx_length]; omega)).1⟩
            clear c4 f4
            refine hK.out _ _ e6 (fun _ => ?_)
            clear hK
            try simp only [Act.put, List.setIfInBounds_toArray, List.set_cons_zero, List.set_cons_succ]
            refine held_take (i := 7) (v := .pointer (some ⟨hb, 0, none⟩)) (some 38) rfl rfl (by kernel_rfl) (by kernel_rfl) (by kernel_rfl) (fun _ _ _ h => h) (Or.inl ⟨by rfl, fun W hW => by go_simp⟩) e6 ?_
            simp only [Act.put, List.setIfInBounds_toArray, List.set_cons_zero, List.set_cons_succ]
            refine held_take (i := 8) (v := .pointer (some ⟨hb, 1, none⟩)) (some 39) rfl rfl (by kernel_rfl) (by kernel_rfl) (by kernel_rfl) (fun _ _ _ h => h) (Or.inl ⟨by rfl, fun W hW => by go_simp⟩) e6 ?_
            simp only [Act.put, List.setIfInBounds_toArray, List.set_cons_zero, List.set_cons_succ]
            refine wpAnyH_ready (rs := [9]) (by kernel_rfl) (by simp) ?_
            refine AllReadyH.cons rfl (fun K hK => ?_) AllReadyH.nil
            obtain ⟨b1, c1⟩ := e6.2.2.1
            have f1 := e6.2.2.2.1
            go_simp
            have HD7 := Lib.hid (HD6.out.hear (by rw [sgx_length]; omega) HBT.out.1 hgs.2 1 (by show 1 < 6; omega) (.bool false))
            have e7 : (∃ b, ((wf.setCell ⟨hb, 4, none⟩ (.bool true)).setCell ⟨hb, 1, none⟩ (.bool false)).cell? ⟨hb, 4, none⟩ = some (.bool b)) ∧ ((wf.setCell ⟨hb, 4, none⟩ (.bool true)).setCell ⟨hb, 1, none⟩ (.bool false)).frozen? ⟨hb, 4, none⟩ = false ∧ (∃ b, ((wf.setCell ⟨hb, 4, none⟩ (.bool true)).setCell ⟨hb, 1, none⟩ (.bool false)).cell? ⟨hb, 1, none⟩ = some (.bool b)) ∧ ((wf.setCell ⟨hb, 4, none⟩ (.bool true)).setCell ⟨hb, 1, none⟩ (.bool false)).frozen? ⟨hb, 1, none⟩ = false ∧ ((wf.setCell ⟨hb, 4, none⟩ (.bool true)).setCell ⟨hb, 1, none⟩ (.bool false)).cell? ⟨g, 8, none⟩ = some (.bool false) := ⟨⟨_, (HD7.out.hd 4 (by show 4 < 6; omega)).1⟩, (HD7.out.hd 4 (by show 4 < 6; omega)).2, ⟨_, (HD7.out.hd 1 (by show 1 < 6; omega)).1⟩, (HD7.out.hd 1 (by show 1 < 6; omega)).2, (HD7.out.bx 8 (by rw [sgx_length]; omega)).1⟩
            clear c1 f1
            refine hK.out _ _ e7 (fun _ => ?_)
            clear hK
            try simp only [Act.put, List.setIfInBounds_toArray, List.set_cons_zero, List.set_cons_succ]
            refine wpAnyH_done (by kernel_rfl) ?_ _
            refine NoPanic.normal ?_
            have HD7 : Hid (Dt base w s x hb g (hv op false false false true v) (sgx x.rcv ak false kk false rr A n c) ((wf.setCell ⟨hb, 4, none⟩ (.bool true)).setCell ⟨hb, 1, none⟩ (.bool false))) := Lib.hid HD7.out
            clear e5 e6 e7 HD6 HD1
            generalize (wf.setCell ⟨hb, 4, none⟩ (.bool true)).setCell ⟨hb, 1, none⟩ (.bool false) = wg at *
            go_wp2_with fail
            have HD1 := Lib.hid (HD7.out.below (Below.refl _ _).drew)
            clear HD7
            have e0 : wg.drew.rangeAt g 0 (sgx x.rcv ak false kk false rr A n c) ∧ wg.drew.cell? ⟨s.fb, 6, none⟩ = some (.int .u32 (x.rcv : Int)) ∧ wg.drew.cell? ⟨g, 4, none⟩ = some (.int .u32 (x.rcv : Int)) := ⟨HD1.out.bx.range, HD1.out.fl.fa.c6, (HD1.out.bx 4 (by rw [sgx_length]; omega)).1⟩
            have e9 : wg.drew.frozen? ⟨s.fb, 6, none⟩ = false := HD1.out.fl.fa.fz 6
            generalize hwd : wg.drew = wh at *
            refine wp_region_noPanic ?_
            refine until_start (fun W => W.rangeAt g 0 (sgx x.rcv ak false kk false rr A n c) ∧ W.cell? ⟨s.fb, 6, none⟩ = some (.int .u32 (x.rcv : Int)) ∧ W.cell? ⟨g, 4, none⟩ = some (.int .u32 (x.rcv : Int))) 10 (by kernel_rfl) (by rw [hwd]; exact e0) (fun _ => ?_)
            rw [hwd]
            clear hwd
            refine until_take (i := 0) (v := .pointer (some ⟨s.fb, 0, none⟩)) (some 40) [10] rfl rfl (by kernel_rfl) (by kernel_rfl) (by kernel_rfl) (by kernel_rfl) rfl rfl (fun _ _ _ h => h) (Or.inl ⟨by rfl, fun W hW => by go_simp⟩) e0 ?_
            simp only [Act.put, List.setIfInBounds_toArray, List.set_cons_zero, List.set_cons_succ]
            refine until_take (i := 1) (v := .pointer (some ⟨s.fb, 0, none⟩)) (some 41) [10] rfl rfl (by kernel_rfl) (by kernel_rfl) (by kernel_rfl) (by kernel_rfl) rfl rfl (fun _ _ _ h => h) (Or.inl ⟨by rfl, fun W hW => by go_simp⟩) e0 ?_
            simp only [Act.put, List.setIfInBounds_toArray, List.set_cons_zero, List.set_cons_succ]
            refine until_take (i := 5) (v := .agg (sgx x.rcv ak false kk false rr A n c).toArray) (some 45) [10] rfl rfl (by kernel_rfl) (by kernel_rfl) (by kernel_rfl) (by kernel_rfl) rfl rfl (fun _ _ _ h => h) (yieldsIf_load_mid (by rfl) 47 (.tmp 5) rfl _ _ rfl _ _ (fun W hW => hW.1) Try.underlying47 rfl infoSg) e0 ?_
            simp only [Act.put, List.setIfInBounds_toArray, List.set_cons_zero, List.set_cons_succ]
            refine until_take (i := 2) (v := .pointer (some ⟨s.fb, 0, none⟩)) (some 42) [10] rfl rfl (by kernel_rfl) (by kernel_rfl) (by kernel_rfl) (by kernel_rfl) rfl rfl (fun _ _ _ h => h) (Or.inl ⟨by rfl, fun W hW => by go_simp⟩) e0 ?_
            simp only [Act.put, List.setIfInBounds_toArray, List.set_cons_zero, List.set_cons_succ]
            refine until_take (i := 3) (v := .pointer (some ⟨s.fb, 6, none⟩)) (some 43) [10] rfl rfl (by kernel_rfl) (by kernel_rfl) (by kernel_rfl) (by kernel_rfl) rfl rfl (fun _ _ _ h => h) (Or.inl ⟨by rfl, fun W hW => by go_simp⟩) e0 ?_
            simp only [Act.put, List.setIfInBounds_toArray, List.set_cons_zero, List.set_cons_succ]
            refine until_take (i := 4) (v := .int .u32 (x.rcv : Int)) (some 44) [10] rfl rfl (by kernel_rfl) (by kernel_rfl) (by kernel_rfl) (by kernel_rfl) rfl rfl (fun _ _ _ h => h) (Or.inl ⟨by rfl, fun W hW => by have hc := hW.2.1; go_simp⟩) e0 ?_
            simp only [Act.put, List.setIfInBounds_toArray, List.set_cons_zero, List.set_cons_succ]
            refine until_step (i := 6) (by kernel_rfl) rfl rfl (fun K hK => ?_)
            go_simp
            refine (HLg.out _).mono ?_
            rintro e w5 ⟨rfl, b5⟩
            have HD1 := Lib.hid (HD1.out.below b5)
            have e0 : w5.rangeAt g 0 (sgx x.rcv ak false kk false rr A n c) ∧ w5.cell? ⟨s.fb, 6, none⟩ = some (.int .u32 (x.rcv : Int)) ∧ w5.cell? ⟨g, 4, none⟩ = some (.int .u32 (x.rcv : Int)) := ⟨HD1.out.bx.range, HD1.out.fl.fa.c6, (HD1.out.bx 4 (by rw [sgx_length]; omega)).1⟩
            clear b5
            dsimp only
            refine hK.out _ _ e0 (fun _ => ?_)
            clear hK
            try simp only [Act.put, List.setIfInBounds_toArray, List.set_cons_zero, List.set_cons_succ]
            refine until_step (i := 7) (by kernel_rfl) rfl rfl (fun K hK => ?_)
            go_simp
            refine (HON.out (L) _ (by omega)).mono ?_
            rintro e w6 ⟨rfl, b6⟩
            have HD1 := Lib.hid (HD1.out.below b6)
            have e0 : w6.rangeAt g 0 (sgx x.rcv ak false kk false rr A n c) ∧ w6.cell? ⟨s.fb, 6, none⟩ = some (.int .u32 (x.rcv : Int)) ∧ w6.cell? ⟨g, 4, none⟩ = some (.int .u32 (x.rcv : Int)) := ⟨HD1.out.bx.range, HD1.out.fl.fa.c6, (HD1.out.bx 4 (by rw [sgx_length]; omega)).1⟩
            have f6 := HD1.out.fl.fa.fz 6
            have c6 := e0.2.1
            clear b6
            dsimp only
            refine hK.out _ _ e0 (fun _ => ?_)
            clear hK
            try simp only [Act.put, List.setIfInBounds_toArray, List.set_cons_zero, List.set_cons_succ]
            refine until_take (i := 8) (v := .pointer (some ⟨s.fb, 0, none⟩)) (some 48) [9, 10] rfl rfl (by kernel_rfl) (by kernel_rfl) (by kernel_rfl) (by kernel_rfl) rfl rfl (fun _ _ _ h => h) (Or.inl ⟨by rfl, fun W hW => by go_simp⟩) e0 ?_
            simp only [Act.put, List.setIfInBounds_toArray, List.set_cons_zero, List.set_cons_succ]
            refine until_take (i := 9) (v := .pointer (some ⟨s.fb, 6, none⟩)) (some 49) [10] rfl rfl (by kernel_rfl) (by kernel_rfl) (by kernel_rfl) (by kernel_rfl) rfl rfl (fun _ _ _ h => h) (Or.inl ⟨by rfl, fun W hW => by go_simp⟩) e0 ?_
            simp only [Act.put, List.setIfInBounds_toArray, List.set_cons_zero, List.set_cons_succ]
            refine until_last (by kernel_rfl) rfl (fun K hK => ?_)
            go_simp
            have h8 := HD1.out.fl.rcvd_ (on_lt x.rcv (L : Int))
            have HD8 := Lib.hid (HD1.out.did (by show 0 < 6; omega) (by rw [sgx_length]; omega) hne hgs.1 h8.1 h8.2)
            have e8 : True := trivial
            clear h8
            refine hK.out _ _ ?_
            clear hK
            try simp only [Act.put, List.setIfInBounds_toArray, List.set_cons_zero, List.set_cons_succ]
            refine wpAnyH_done (by kernel_rfl) ?_ _
            refine NoPanic.normal ?_
            clear e0 e9 f6 c6 HD1
            generalize w6.setCell ⟨s.fb, 6, none⟩ (.int .u32 (on x.rcv (L : Int) : Nat)) = wi at *
            have i8 : wi.cell? ⟨g, 8, none⟩ = some (.bool false) := (HD8.out.bx 8 (by rw [sgx_length]; omega)).1
            have hfr : x.isFresh x.rcv := ⟨rfl, htk⟩
            have htl : 0 < L ∨ bf x.rcv x.rcv = true := .inl hlen
            have i0 := HD8.out.fl.fa.c0
            dsimp only [F.fc] at i0
            unfold ptr at i0
            have HE := Lib.hid (HEn.out _ _ HD8.out.fl)
            have HT := Lib.hid (HTe.out _ _ HD8.out.fl rfl)
            go_wp2_with (first
              | (go_at_call 37; refine HE.out.mono ?_; rintro e wk ⟨rfl, rfl⟩)
              | (go_at_call 51; refine HT.out.mono ?_; rintro e wl ⟨rfl, ll⟩; have HL := Lib.hid ll; clear ll)
              | fail)
            go_end0
            have htk : x.takes x.rcv L false t = (x.rcvd (on x.rcv (L : Int))) := by unfold F.takes; rw [if_pos hfr]; exact if_neg (fun e => by cases e)
            have hdf : decide (x.isFresh x.rcv) = true := decide_eq_true hfr
            try rw [hdf]
            unfold F.hdata
            rw [if_pos htl, htk]
            exact ⟨rfl, HD8.out.tell HL.out, false, HL.out.own HD8.out.hd (by show 0 < 6; omega) HBT.out.1⟩
        · have HTk : Hid (∀ (W : World) (y : F), Fl base W s y → y.st = x.st → Calls Try.prog 64 #[.pointer (some ⟨s.fb, 0, none⟩)] W fun e w' => e = .returned (.bool false) ∧ w' = W) := Lib.hid (fun W y f e => by have := HTk.out W y f; rw [show decide ((y.fc s.qb s.ov).st = 3 ∨ (y.fc s.qb s.ov).st = 4 ∨ (y.fc s.qb s.ov).st = 5) = false from decide_eq_false (by show ¬ (y.st = 3 ∨ y.st = 4 ∨ y.st = 5); rw [e]; exact htk)] at this; exact this)
          as_aux_lemma =>
            go_enter Try.func44, Try.ntmps44
            go_wp2_with (first
              | ((with_reducible refine wpList_here ?_); refine wpList_boxV (o := ⟨some 5, _, _, _, _, _⟩) rfl 47 (.tmp 1) rfl (sgx x.rcv ak false kk false rr A n c) rfl _ rfl ?_; intro w1 z1 b1 s1; have HD1 : Hid (Dt base w s x hb w.heap.size (hv op false false false false v) (sgx x.rcv ak false kk false rr A n c) w1.drew) := Lib.hid ⟨H.out.below b1.drew, (Ch.of_below _ b1.drew), HD0.out.below b1.drew, z1⟩; clear b1 z1)
              | fail)
            generalize hwd : w1.drew = wd at *
            have hgs : w.heap.size ≠ s.fb ∧ w.heap.size ≠ hb := ⟨by omega, by omega⟩
            generalize hgz : w.heap.size = g at *
            have e0 : wd.rangeAt g 0 (sgx x.rcv ak false kk false rr A n c) ∧ wd.cell? ⟨s.fb, 6, none⟩ = some (.int .u32 (x.rcv : Int)) ∧ wd.cell? ⟨g, 4, none⟩ = some (.int .u32 (x.rcv : Int)) := ⟨HD1.out.bx.range, HD1.out.fl.fa.c6, (HD1.out.bx 4 (by rw [sgx_length]; omega)).1⟩
            refine wp_region_noPanic ?_
            refine wp_region_held_drew (S := fun W => W.rangeAt g 0 (sgx x.rcv ak false kk false rr A n c) ∧ W.cell? ⟨s.fb, 6, none⟩ = some (.int .u32 (x.rcv : Int)) ∧ W.cell? ⟨g, 4, none⟩ = some (.int .u32 (x.rcv : Int))) (by kernel_rfl) (by rw [hwd]; exact e0) (fun _ => ?_)
            rw [hwd]
            clear hwd
            refine held_take (i := 0) (v := .agg (sgx x.rcv ak false kk false rr A n c).toArray) (some 9) rfl rfl (by kernel_rfl) (by kernel_rfl) (by kernel_rfl) (fun _ _ _ h => h) (yieldsIf_load_mid (by rfl) 47 (.tmp 5) rfl _ _ rfl _ _ (fun W hW => hW.1) Try.underlying47 rfl infoSg) e0 ?_
            simp only [Act.put, List.setIfInBounds_toArray, List.set_cons_zero, List.set_cons_succ]
            refine wpAnyH_ready (rs := [1]) (by kernel_rfl) (by simp) ?_
            refine AllReadyH.cons rfl (fun K hK => ?_) AllReadyH.nil
            go_simp
            refine (HLg.out _).mono ?_
            rintro e w2 ⟨rfl, b2⟩
            have HD1 := Lib.hid (HD1.out.below b2)
            have e0 : w2.rangeAt g 0 (sgx x.rcv ak false kk false rr A n c) ∧ w2.cell? ⟨s.fb, 6, none⟩ = some (.int .u32 (x.rcv : Int)) ∧ w2.cell? ⟨g, 4, none⟩ = some (.int .u32 (x.rcv : Int)) := ⟨HD1.out.bx.range, HD1.out.fl.fa.c6, (HD1.out.bx 4 (by rw [sgx_length]; omega)).1⟩
            clear b2
            dsimp only
            refine hK.out _ _ e0 (fun _ => ?_)
            clear hK
            try simp only [Act.put, List.setIfInBounds_toArray, List.set_cons_zero, List.set_cons_succ]
            refine held_take (i := 2) (v := .bool true) (some 11) rfl rfl (by kernel_rfl) (by kernel_rfl) (by kernel_rfl) (fun _ _ _ h => h) (Or.inl ⟨by rfl, fun W hW => by go_simp⟩) e0 ?_
            simp only [Act.put, List.setIfInBounds_toArray, List.set_cons_zero, List.set_cons_succ]
            refine held_take (i := 3) (v := .bool true) (some 12) rfl rfl (by kernel_rfl) (by kernel_rfl) (by kernel_rfl) (fun _ _ _ h => h) (Or.inl ⟨by rfl, fun W hW => by go_simp⟩) e0 ?_
            simp only [Act.put, List.setIfInBounds_toArray, List.set_cons_zero, List.set_cons_succ]
            refine held_take (i := 4) (v := undef) (some 13) rfl rfl (by kernel_rfl) (by kernel_rfl) (by kernel_rfl) (fun _ _ _ h => h) (Or.inr ⟨by rfl, by rfl⟩) e0 ?_
            simp only [Act.put, List.setIfInBounds_toArray, List.set_cons_zero, List.set_cons_succ]
            refine held_take (i := 6) (v := undef) (some 15) rfl rfl (by kernel_rfl) (by kernel_rfl) (by kernel_rfl) (fun _ _ _ h => h) (Or.inr ⟨by rfl, by rfl⟩) e0 ?_
            simp only [Act.put, List.setIfInBounds_toArray, List.set_cons_zero, List.set_cons_succ]
            refine held_take (i := 5) (v := undef) (some 14) rfl rfl (by kernel_rfl) (by kernel_rfl) (by kernel_rfl) (fun _ _ _ h => h) (Or.inr ⟨by rfl, by rfl⟩) e0 ?_
            simp only [Act.put, List.setIfInBounds_toArray, List.set_cons_zero, List.set_cons_succ]
            refine held_take (i := 7) (v := undef) (some 16) rfl rfl (by kernel_rfl) (by kernel_rfl) (by kernel_rfl) (fun _ _ _ h => h) (Or.inr ⟨by rfl, by rfl⟩) e0 ?_
            simp only [Act.put, List.setIfInBounds_toArray, List.set_cons_zero, List.set_cons_succ]
            refine held_take (i := 8) (v := undef) (some 17) rfl rfl (by kernel_rfl) (by kernel_rfl) (by kernel_rfl) (fun _ _ _ h => h) (Or.inr ⟨by rfl, by rfl⟩) e0 ?_
            simp only [Act.put, List.setIfInBounds_toArray, List.set_cons_zero, List.set_cons_succ]
            refine held_take (i := 9) (v := undef) (some 18) rfl rfl (by kernel_rfl) (by kernel_rfl) (by kernel_rfl) (fun _ _ _ h => h) (Or.inr ⟨by rfl, by rfl⟩) e0 ?_
            simp only [Act.put, List.setIfInBounds_toArray, List.set_cons_zero, List.set_cons_succ]
            refine held_take (i := 10) (v := undef) (some 19) rfl rfl (by kernel_rfl) (by kernel_rfl) (by kernel_rfl) (fun _ _ _ h => h) (Or.inr ⟨by rfl, by rfl⟩) e0 ?_
            simp only [Act.put, List.setIfInBounds_toArray, List.set_cons_zero, List.set_cons_succ]
            refine held_take (i := 11) (v := .bool true) (some 20) rfl rfl (by kernel_rfl) (by kernel_rfl) (by kernel_rfl) (fun _ _ _ h => h) (Or.inl ⟨by rfl, fun W hW => by go_simp⟩) e0 ?_
            simp only [Act.put, List.setIfInBounds_toArray, List.set_cons_zero, List.set_cons_succ]
            refine held_take (i := 12) (v := .bool true) (some 8) rfl rfl (by kernel_rfl) (by kernel_rfl) (by kernel_rfl) (fun _ _ _ h => h) (Or.inl ⟨by rfl, fun W hW => by go_simp⟩) e0 ?_
            simp only [Act.put, List.setIfInBounds_toArray, List.set_cons_zero, List.set_cons_succ]
            refine wpAnyH_done (by kernel_rfl) ?_ _
            refine NoPanic.normal ?_
            go_wp2_with fail
            have HD1 := Lib.hid (HD1.out.below (Below.refl _ _).drew)
            have ex : w2.drew.rangeAt g 0 (sgx x.rcv ak false kk false rr A n c) ∧ w2.drew.cell? ⟨s.fb, 6, none⟩ = some (.int .u32 (x.rcv : Int)) ∧ w2.drew.cell? ⟨g, 4, none⟩ = some (.int .u32 (x.rcv : Int)) := ⟨HD1.out.bx.range, HD1.out.fl.fa.c6, (HD1.out.bx 4 (by rw [sgx_length]; omega)).1⟩
            clear e0
            have e0 := ex
            clear ex
            generalize hwd : w2.drew = we at *
            refine wp_region_noPanic ?_
            refine wp_region_held_drew (S := fun W => W.rangeAt g 0 (sgx x.rcv ak false kk false rr A n c) ∧ W.cell? ⟨s.fb, 6, none⟩ = some (.int .u32 (x.rcv : Int)) ∧ W.cell? ⟨g, 4, none⟩ = some (.int .u32 (x.rcv : Int))) (by kernel_rfl) (by rw [hwd]; exact e0) (fun _ => ?_)
            rw [hwd]
            clear hwd
            refine held_take (i := 0) (v := .pointer (some ⟨g, 4, none⟩)) (some 21) rfl rfl (by kernel_rfl) (by kernel_rfl) (by kernel_rfl) (fun _ _ _ h => h) (Or.inl ⟨by rfl, fun W hW => by go_simp⟩) e0 ?_
            simp only [Act.put, List.setIfInBounds_toArray, List.set_cons_zero, List.set_cons_succ]
            refine held_take (i := 2) (v := .pointer (some ⟨s.fb, 0, none⟩)) (some 23) rfl rfl (by kernel_rfl) (by kernel_rfl) (by kernel_rfl) (fun _ _ _ h => h) (Or.inl ⟨by rfl, fun W hW => by go_simp⟩) e0 ?_
            simp only [Act.put, List.setIfInBounds_toArray, List.set_cons_zero, List.set_cons_succ]
            refine held_take (i := 1) (v := .int .u32 (x.rcv : Int)) (some 22) rfl rfl (by kernel_rfl) (by kernel_rfl) (by kernel_rfl) (fun _ _ _ h => h) (Or.inl ⟨by rfl, fun W hW => by have hc := hW.2.2; go_simp⟩) e0 ?_
            simp only [Act.put, List.setIfInBounds_toArray, List.set_cons_zero, List.set_cons_succ]
            refine held_take (i := 3) (v := .pointer (some ⟨s.fb, 0, none⟩)) (some 24) rfl rfl (by kernel_rfl) (by kernel_rfl) (by kernel_rfl) (fun _ _ _ h => h) (Or.inl ⟨by rfl, fun W hW => by go_simp⟩) e0 ?_
            simp only [Act.put, List.setIfInBounds_toArray, List.set_cons_zero, List.set_cons_succ]
            refine held_take (i := 4) (v := .pointer (some ⟨s.fb, 6, none⟩)) (some 25) rfl rfl (by kernel_rfl) (by kernel_rfl) (by kernel_rfl) (fun _ _ _ h => h) (Or.inl ⟨by rfl, fun W hW => by go_simp⟩) e0 ?_
            simp only [Act.put, List.setIfInBounds_toArray, List.set_cons_zero, List.set_cons_succ]
            refine held_take (i := 5) (v := .int .u32 (x.rcv : Int)) (some 26) rfl rfl (by kernel_rfl) (by kernel_rfl) (by kernel_rfl) (fun _ _ _ h => h) (Or.inl ⟨by rfl, fun W hW => by have hc := hW.2.1; go_simp⟩) e0 ?_
            simp only [Act.put, List.setIfInBounds_toArray, List.set_cons_zero, List.set_cons_succ]
            refine held_take (i := 6) (v := .bool true) (some 27) rfl rfl (by kernel_rfl) (by kernel_rfl) (by kernel_rfl) (fun _ _ _ h => h) (Or.inl ⟨by rfl, fun W hW => by go_simp⟩) e0 ?_
            simp only [Act.put, List.setIfInBounds_toArray, List.set_cons_zero, List.set_cons_succ]
            refine held_take (i := 7) (v := .bool true) (some 28) rfl rfl (by kernel_rfl) (by kernel_rfl) (by kernel_rfl) (fun _ _ _ h => h) (Or.inl ⟨by rfl, fun W hW => by go_simp⟩) e0 ?_
            simp only [Act.put, List.setIfInBounds_toArray, List.set_cons_zero, List.set_cons_succ]
            refine held_take (i := 8) (v := .pointer (some ⟨s.fb, 0, none⟩)) (some 29) rfl rfl (by kernel_rfl) (by kernel_rfl) (by kernel_rfl) (fun _ _ _ h => h) (Or.inl ⟨by rfl, fun W hW => by go_simp⟩) e0 ?_
            simp only [Act.put, List.setIfInBounds_toArray, List.set_cons_zero, List.set_cons_succ]
            refine wpAnyH_ready (rs := [9]) (by kernel_rfl) (by simp) ?_
            refine AllReadyH.cons rfl (fun K hK => ?_) AllReadyH.nil
            go_simp
            refine (HTk.out _ _ HD1.out.fl rfl).mono ?_
            rintro e w4 ⟨rfl, hw4⟩
            obtain rfl : we = w4 := hw4.symm
            dsimp only
            refine hK.out _ _ e0 (fun _ => ?_)
            clear hK
            try simp only [Act.put, List.setIfInBounds_toArray, List.set_cons_zero, List.set_cons_succ]
            refine held_take (i := 10) (v := .bool false) (some 31) rfl rfl (by kernel_rfl) (by kernel_rfl) (by kernel_rfl) (fun _ _ _ h => h) (Or.inl ⟨by rfl, fun W hW => by go_simp⟩) e0 ?_
            simp only [Act.put, List.setIfInBounds_toArray, List.set_cons_zero, List.set_cons_succ]
            refine wpAnyH_done (by kernel_rfl) ?_ _
            refine NoPanic.normal ?_
            clear e0
            have hfr : ¬ x.isFresh x.rcv := fun e => htk e.2
            have htl : 0 < L ∨ bf x.rcv x.rcv = true := .inl hlen
            have i0 := HD1.out.fl.fa.c0
            dsimp only [F.fc] at i0
            unfold ptr at i0
            have HE := Lib.hid (HEn.out _ _ HD1.out.fl)
            have HT := Lib.hid (HTe.out _ _ HD1.out.fl rfl)
            go_wp2_with (first
              | (go_at_call 37; refine HE.out.mono ?_; rintro e wk ⟨rfl, rfl⟩)
              | (go_at_call 51; refine HT.out.mono ?_; rintro e wl ⟨rfl, ll⟩; have HL := Lib.hid ll; clear ll)
              | fail)
            go_end0
            have htk : x.takes x.rcv L false t = x := if_neg hfr
            have hdf : decide (x.isFresh x.rcv) = false := decide_eq_false hfr
            try rw [hdf]
            unfold F.hdata
            rw [if_pos htl, htk]
            exact ⟨rfl, HD1.out.tell HL.out, false, HL.out.own HD1.out.hd (by show 0 < 6; omega) HBT.out.1⟩
      · have n3 : ((q : Int) == (x.rcv : Int)) = false := by rw [beq_eq_false_iff_ne]; omega
        have n4 : ¬ (q : Int) = (x.rcv : Int) := by omega
        as_aux_lemma =>
          go_enter Try.func44, Try.ntmps44
          go_wp2_with (first
            | ((with_reducible refine wpList_here ?_); refine wpList_boxV (o := ⟨some 5, _, _, _, _, _⟩) rfl 47 (.tmp 1) rfl (sgx q ak false kk false rr A n c) rfl _ rfl ?_; intro w1 z1 b1 s1; have HD1 : Hid (Dt base w s x hb w.heap.size (hv op false false false false v) (sgx q ak false kk false rr A n c) w1.drew) := Lib.hid ⟨H.out.below b1.drew, (Ch.of_below _ b1.drew), HD0.out.below b1.drew, z1⟩; clear b1 z1)
            | fail)
          generalize hwd : w1.drew = wd at *
          have hgs : w.heap.size ≠ s.fb ∧ w.heap.size ≠ hb := ⟨by omega, by omega⟩
          generalize hgz : w.heap.size = g at *
          have e0 : wd.rangeAt g 0 (sgx q ak false kk false rr A n c) ∧ wd.cell? ⟨s.fb, 6, none⟩ = some (.int .u32 (x.rcv : Int)) ∧ wd.cell? ⟨g, 4, none⟩ = some (.int .u32 (q : Int)) := ⟨HD1.out.bx.range, HD1.out.fl.fa.c6, (HD1.out.bx 4 (by rw [sgx_length]; omega)).1⟩
          refine wp_region_noPanic ?_
          refine wp_region_held_drew (S := fun W => W.rangeAt g 0 (sgx q ak false kk false rr A n c) ∧ W.cell? ⟨s.fb, 6, none⟩ = some (.int .u32 (x.rcv : Int)) ∧ W.cell? ⟨g, 4, none⟩ = some (.int .u32 (q : Int))) (by kernel_rfl) (by rw [hwd]; exact e0) (fun _ => ?_)
          rw [hwd]
          clear hwd
          refine held_take (i := 0) (v := .agg (sgx q ak false kk false rr A n c).toArray) (some 9) rfl rfl (by kernel_rfl) (by kernel_rfl) (by kernel_rfl) (fun _ _ _ h => h) (yieldsIf_load_mid (by rfl) 47 (.tmp 5) rfl _ _ rfl _ _ (fun W hW => hW.1) Try.underlying47 rfl infoSg) e0 ?_
          simp only [Act.put, List.setIfInBounds_toArray, List.set_cons_zero, List.set_cons_succ]
          refine wpAnyH_ready (rs := [1]) (by kernel_rfl) (by simp) ?_
          refine AllReadyH.cons rfl (fun K hK => ?_) AllReadyH.nil
          go_simp
          refine (HLg.out _).mono ?_
          rintro e w2 ⟨rfl, b2⟩
          have HD1 := Lib.hid (HD1.out.below b2)
          have e0 : w2.rangeAt g 0 (sgx q ak false kk false rr A n c) ∧ w2.cell? ⟨s.fb, 6, none⟩ = some (.int .u32 (x.rcv : Int)) ∧ w2.cell? ⟨g, 4, none⟩ = some (.int .u32 (q : Int)) := ⟨HD1.out.bx.range, HD1.out.fl.fa.c6, (HD1.out.bx 4 (by rw [sgx_length]; omega)).1⟩
          clear b2
          dsimp only
          refine hK.out _ _ e0 (fun _ => ?_)
          clear hK
          try simp only [Act.put, List.setIfInBounds_toArray, List.set_cons_zero, List.set_cons_succ]
          refine held_take (i := 2) (v := .bool true) (some 11) rfl rfl (by kernel_rfl) (by kernel_rfl) (by kernel_rfl) (fun _ _ _ h => h) (Or.inl ⟨by rfl, fun W hW => by go_simp⟩) e0 ?_
          simp only [Act.put, List.setIfInBounds_toArray, List.set_cons_zero, List.set_cons_succ]
          refine held_take (i := 3) (v := .bool true) (some 12) rfl rfl (by kernel_rfl) (by kernel_rfl) (by kernel_rfl) (fun _ _ _ h => h) (Or.inl ⟨by rfl, fun W hW => by go_simp⟩) e0 ?_
          simp only [Act.put, List.setIfInBounds_toArray, List.set_cons_zero, List.set_cons_succ]
          refine held_take (i := 4) (v := undef) (some 13) rfl rfl (by kernel_rfl) (by kernel_rfl) (by kernel_rfl) (fun _ _ _ h => h) (Or.inr ⟨by rfl, by rfl⟩) e0 ?_
          simp only [Act.put, List.setIfInBounds_toArray, List.set_cons_zero, List.set_cons_succ]
          refine held_take (i := 6) (v := undef) (some 15) rfl rfl (by kernel_rfl) (by kernel_rfl) (by kernel_rfl) (fun _ _ _ h => h) (Or.inr ⟨by rfl, by rfl⟩) e0 ?_
          simp only [Act.put, List.setIfInBounds_toArray, List.set_cons_zero, List.set_cons_succ]
          refine held_take (i := 5) (v := undef) (some 14) rfl rfl (by kernel_rfl) (by kernel_rfl) (by kernel_rfl) (fun _ _ _ h => h) (Or.inr ⟨by rfl, by rfl⟩) e0 ?_
          simp only [Act.put, List.setIfInBounds_toArray, List.set_cons_zero, List.set_cons_succ]
          refine held_take (i := 7) (v := undef) (some 16) rfl rfl (by kernel_rfl) (by kernel_rfl) (by kernel_rfl) (fun _ _ _ h => h) (Or.inr ⟨by rfl, by rfl⟩) e0 ?_
          simp only [Act.put, List.setIfInBounds_toArray, List.set_cons_zero, List.set_cons_succ]
          refine held_take (i := 8) (v := undef) (some 17) rfl rfl (by kernel_rfl) (by kernel_rfl) (by kernel_rfl) (fun _ _ _ h => h) (Or.inr ⟨by rfl, by rfl⟩) e0 ?_
          simp only [Act.put, List.setIfInBounds_toArray, List.set_cons_zero, List.set_cons_succ]
          refine held_take (i := 9) (v := undef) (some 18) rfl rfl (by kernel_rfl) (by kernel_rfl) (by kernel_rfl) (fun _ _ _ h => h) (Or.inr ⟨by rfl, by rfl⟩) e0 ?_
          simp only [Act.put, List.setIfInBounds_toArray, List.set_cons_zero, List.set_cons_succ]
          refine held_take (i := 10) (v := undef) (some 19) rfl rfl (by kernel_rfl) (by kernel_rfl) (by kernel_rfl) (fun _ _ _ h => h) (Or.inr ⟨by rfl, by rfl⟩) e0 ?_
          simp only [Act.put, List.setIfInBounds_toArray, List.set_cons_zero, List.set_cons_succ]
          refine held_take (i := 11) (v := .bool true) (some 20) rfl rfl (by kernel_rfl) (by kernel_rfl) (by kernel_rfl) (fun _ _ _ h => h) (Or.inl ⟨by rfl, fun W hW => by go_simp⟩) e0 ?_
          simp only [Act.put, List.setIfInBounds_toArray, List.set_cons_zero, List.set_cons_succ]
          refine held_take (i := 12) (v := .bool true) (some 8) rfl rfl (by kernel_rfl) (by kernel_rfl) (by kernel_rfl) (fun _ _ _ h => h) (Or.inl ⟨by rfl, fun W hW => by go_simp⟩) e0 ?_
          simp only [Act.put, List.setIfInBounds_toArray, List.set_cons_zero, List.set_cons_succ]
          refine wpAnyH_done (by kernel_rfl) ?_ _
          refine NoPanic.normal ?_
          go_wp2_with fail
          have HD1 := Lib.hid (HD1.out.below (Below.refl _ _).drew)
          have ex : w2.drew.rangeAt g 0 (sgx q ak false kk false rr A n c) ∧ w2.drew.cell? ⟨s.fb, 6, none⟩ = some (.int .u32 (x.rcv : Int)) ∧ w2.drew.cell? ⟨g, 4, none⟩ = some (.int .u32 (q : Int)) := ⟨HD1.out.bx.range, HD1.out.fl.fa.c6, (HD1.out.bx 4 (by rw [sgx_length]; omega)).1⟩
          clear e0
          have e0 := ex
          clear ex
          generalize hwd : w2.drew = we at *
          refine wp_region_noPanic ?_
          refine wp_region_held_drew (S := fun W => W.rangeAt g 0 (sgx q ak false kk false rr A n c) ∧ W.cell? ⟨s.fb, 6, none⟩ = some (.int .u32 (x.rcv : Int)) ∧ W.cell? ⟨g, 4, none⟩ = some (.int .u32 (q : Int))) (by kernel_rfl) (by rw [hwd]; exact e0) (fun _ => ?_)
          rw [hwd]
          clear hwd
          refine held_take (i := 0) (v := .pointer (some ⟨g, 4, none⟩)) (some 21) rfl rfl (by kernel_rfl) (by kernel_rfl) (by kernel_rfl) (fun _ _ _ h => h) (Or.inl ⟨by rfl, fun W hW => by go_simp⟩) e0 ?_
          simp only [Act.put, List.setIfInBounds_toArray, List.set_cons_zero, List.set_cons_succ]
          refine held_take (i := 2) (v := .pointer (some ⟨s.fb, 0, none⟩)) (some 23) rfl rfl (by kernel_rfl) (by kernel_rfl) (by kernel_rfl) (fun _ _ _ h => h) (Or.inl ⟨by rfl, fun W hW => by go_simp⟩) e0 ?_
          simp only [Act.put, List.setIfInBounds_toArray, List.set_cons_zero, List.set_cons_succ]
          refine held_take (i := 1) (v := .int .u32 (q : Int)) (some 22) rfl rfl (by kernel_rfl) (by kernel_rfl) (by kernel_rfl) (fun _ _ _ h => h) (Or.inl ⟨by rfl, fun W hW => by have hc := hW.2.2; go_simp⟩) e0 ?_
          simp only [Act.put, List.setIfInBounds_toArray, List.set_cons_zero, List.set_cons_succ]
          refine held_take (i := 3) (v := .pointer (some ⟨s.fb, 0, none⟩)) (some 24) rfl rfl (by kernel_rfl) (by kernel_rfl) (by kernel_rfl) (fun _ _ _ h => h) (Or.inl ⟨by rfl, fun W hW => by go_simp⟩) e0 ?_
          simp only [Act.put, List.setIfInBounds_toArray, List.set_cons_zero, List.set_cons_succ]
          refine held_take (i := 4) (v := .pointer (some ⟨s.fb, 6, none⟩)) (some 25) rfl rfl (by kernel_rfl) (by kernel_rfl) (by kernel_rfl) (fun _ _ _ h => h) (Or.inl ⟨by rfl, fun W hW => by go_simp⟩) e0 ?_
          simp only [Act.put, List.setIfInBounds_toArray, List.set_cons_zero, List.set_cons_succ]
          refine held_take (i := 5) (v := .int .u32 (x.rcv : Int)) (some 26) rfl rfl (by kernel_rfl) (by kernel_rfl) (by kernel_rfl) (fun _ _ _ h => h) (Or.inl ⟨by rfl, fun W hW => by have hc := hW.2.1; go_simp⟩) e0 ?_
          simp only [Act.put, List.setIfInBounds_toArray, List.set_cons_zero, List.set_cons_succ]
          refine held_take (i := 6) (v := .bool false) (some 27) rfl rfl (by kernel_rfl) (by kernel_rfl) (by kernel_rfl) (fun _ _ _ h => h) (Or.inl ⟨by rfl, fun W hW => by go_simp⟩) e0 ?_
          simp only [Act.put, List.setIfInBounds_toArray, List.set_cons_zero, List.set_cons_succ]
          refine held_take (i := 7) (v := .bool false) (some 28) rfl rfl (by kernel_rfl) (by kernel_rfl) (by kernel_rfl) (fun _ _ _ h => h) (Or.inl ⟨by rfl, fun W hW => by go_simp⟩) e0 ?_
          simp only [Act.put, List.setIfInBounds_toArray, List.set_cons_zero, List.set_cons_succ]
          refine held_take (i := 8) (v := undef) (some 29) rfl rfl (by kernel_rfl) (by kernel_rfl) (by kernel_rfl) (fun _ _ _ h => h) (Or.inr ⟨by rfl, by rfl⟩) e0 ?_
          simp only [Act.put, List.setIfInBounds_toArray, List.set_cons_zero, List.set_cons_succ]
          refine held_take (i := 9) (v := undef) (some 30) rfl rfl (by kernel_rfl) (by kernel_rfl) (by kernel_rfl) (fun _ _ _ h => h) (Or.inr ⟨by rfl, by rfl⟩) e0 ?_
          simp only [Act.put, List.setIfInBounds_toArray, List.set_cons_zero, List.set_cons_succ]
          refine held_take (i := 10) (v := .bool false) (some 31) rfl rfl (by kernel_rfl) (by kernel_rfl) (by kernel_rfl) (fun _ _ _ h => h) (Or.inl ⟨by rfl, fun W hW => by go_simp⟩) e0 ?_
          simp only [Act.put, List.setIfInBounds_toArray, List.set_cons_zero, List.set_cons_succ]
          refine wpAnyH_done (by kernel_rfl) ?_ _
          refine NoPanic.normal ?_
          clear e0
          have hfr : ¬ x.isFresh q := fun e => hqr e.1
          have htl : 0 < L ∨ bf q x.rcv = true := .inl hlen
          have i0 := HD1.out.fl.fa.c0
          dsimp only [F.fc] at i0
          unfold ptr at i0
          have HE := Lib.hid (HEn.out _ _ HD1.out.fl)
          have HT := Lib.hid (HTe.out _ _ HD1.out.fl rfl)
          go_wp2_with (first
            | (go_at_call 37; refine HE.out.mono ?_; rintro e wk ⟨rfl, rfl⟩)
            | (go_at_call 51; refine HT.out.mono ?_; rintro e wl ⟨rfl, ll⟩; have HL := Lib.hid ll; clear ll)
            | fail)
          go_end0
          have htk : x.takes q L false t = x := if_neg hfr
          have hdf : decide (x.isFresh q) = false := decide_eq_false hfr
          try rw [hdf]
          unfold F.hdata
          rw [if_pos htl, htk]
          exact ⟨rfl, HD1.out.tell HL.out, false, HL.out.own HD1.out.hd (by show 0 < 6; omega) HBT.out.1⟩
    · have hli : decide ((0 : Int) < (L : Int)) = false := decide_eq_false (by omega)
      cases hbf : bf q x.rcv
      · rw [hbf] at HBf
        by_cases hqr : q = x.rcv
        · subst hqr
          by_cases htk : x.st = 3 ∨ x.st = 4 ∨ x.st = 5
          · have HTk : Hid (∀ (W : World) (y : F), Fl base W s y → y.st = x.st → Calls Try.prog 64 #[.pointer (some ⟨s.fb, 0, none⟩)] W fun e w' => e = .returned (.bool true) ∧ w' = W) := Lib.hid (fun W y f e => by have := HTk.out W y f; rw [show decide ((y.fc s.qb s.ov).st = 3 ∨ (y.fc s.qb s.ov).st = 4 ∨ (y.fc s.qb s.ov).st = 5) = true from decide_eq_true (by show y.st = 3 ∨ y.st = 4 ∨ y.st = 5; rw [e]; exact htk)] at this; exact this)
            as_aux_lemma =>
              go_enter Try.func44, Try.ntmps44
              go_wp2_with (first
                | ((with_reducible refine wpList_here ?_); refine wpList_boxV (o := ⟨some 5, _, _, _, _, _⟩) rfl 47 (.tmp 1) rfl (sgx x.rcv ak false kk false rr A n c) rfl _ rfl ?_; intro w1 z1 b1 s1; have HD1 : Hid (Dt base w s x hb w.heap.size (hv op false false false false v) (sgx x.rcv ak false kk false rr A n c) w1.drew) := Lib.hid ⟨H.out.below b1.drew, (Ch.of_below _ b1.drew), HD0.out.below b1.drew, z1⟩; clear b1 z1)
                | fail)
              generalize hwd : w1.drew = wd at *
              have hgs : w.heap.size ≠ s.fb ∧ w.heap.size ≠ hb := ⟨by omega, by omega⟩
              generalize hgz : w.heap.size = g at *
              have e0 : wd.rangeAt g 0 (sgx x.rcv ak false kk false rr A n c) ∧ wd.cell? ⟨s.fb, 6, none⟩ = some (.int .u32 (x.rcv : Int)) ∧ wd.cell? ⟨g, 4, none⟩ = some (.int .u32 (x.rcv : Int)) := ⟨HD1.out.bx.range, HD1.out.fl.fa.c6, (HD1.out.bx 4 (by rw [sgx_length]; omega)).1⟩
              refine wp_region_noPanic ?_
              refine wp_region_held_drew (S := fun W => W.rangeAt g 0 (sgx x.rcv ak false kk false rr A n c) ∧ W.cell? ⟨s.fb, 6, none⟩ = some (.int .u32 (x.rcv : Int)) ∧ W.cell? ⟨g, 4, none⟩ = some (.int .u32 (x.rcv : Int))) (by kernel_rfl) (by rw [hwd]; exact e0) (fun _ => ?_)
              rw [hwd]
              clear hwd
              refine held_take (i := 0) (v := .agg (sgx x.rcv ak false kk false rr A n c).toArray) (some 9) rfl rfl (by kernel_rfl) (by kernel_rfl) (by kernel_rfl) (fun _ _ _ h => h) (yieldsIf_load_mid (by rfl) 47 (.tmp 5) rfl _ _ rfl _ _ (fun W hW => hW.1) Try.underlying47 rfl infoSg) e0 ?_
              simp only [Act.put, List.setIfInBounds_toArray, List.set_cons_zero, List.set_cons_succ]
              refine wpAnyH_ready (rs := [1]) (by kernel_rfl) (by simp) ?_
              refine AllReadyH.cons rfl (fun K hK => ?_) AllReadyH.nil
              go_simp
              refine (HLg.out _).mono ?_
              rintro e w2 ⟨rfl, b2⟩
              have HD1 := Lib.hid (HD1.out.below b2)
              have e0 : w2.rangeAt g 0 (sgx x.rcv ak false kk false rr A n c) ∧ w2.cell? ⟨s.fb, 6, none⟩ = some (.int .u32 (x.rcv : Int)) ∧ w2.cell? ⟨g, 4, none⟩ = some (.int .u32 (x.rcv : Int)) := ⟨HD1.out.bx.range, HD1.out.fl.fa.c6, (HD1.out.bx 4 (by rw [sgx_length]; omega)).1⟩
              clear b2
              dsimp only
              refine hK.out _ _ e0 (fun _ => ?_)
              clear hK
              try simp only [Act.put, List.setIfInBounds_toArray, List.set_cons_zero, List.set_cons_succ]
              refine held_take (i := 2) (v := .bool false) (some 11) rfl rfl (by kernel_rfl) (by kernel_rfl) (by kernel_rfl) (fun _ _ _ h => h) (Or.inl ⟨by rfl, fun W hW => by go_simp⟩) e0 ?_
              simp only [Act.put, List.setIfInBounds_toArray, List.set_cons_zero, List.set_cons_succ]
              refine held_take (i := 3) (v := .bool false) (some 12) rfl rfl (by kernel_rfl) (by kernel_rfl) (by kernel_rfl) (fun _ _ _ h => h) (Or.inl ⟨by rfl, fun W hW => by go_simp⟩) e0 ?_
              simp only [Act.put, List.setIfInBounds_toArray, List.set_cons_zero, List.set_cons_succ]
              refine held_take (i := 4) (v := .pointer (some ⟨g, 4, none⟩)) (some 13) rfl rfl (by kernel_rfl) (by kernel_rfl) (by kernel_rfl) (fun _ _ _ h => h) (Or.inl ⟨by rfl, fun W hW => by go_simp⟩) e0 ?_
              simp only [Act.put, List.setIfInBounds_toArray, List.set_cons_zero, List.set_cons_succ]
              refine held_take (i := 6) (v := .pointer (some ⟨s.fb, 0, none⟩)) (some 15) rfl rfl (by kernel_rfl) (by kernel_rfl) (by kernel_rfl) (fun _ _ _ h => h) (Or.inl ⟨by rfl, fun W hW => by go_simp⟩) e0 ?_
              simp only [Act.put, List.setIfInBounds_toArray, List.set_cons_zero, List.set_cons_succ]
              refine held_take (i := 5) (v := .int .u32 (x.rcv : Int)) (some 14) rfl rfl (by kernel_rfl) (by kernel_rfl) (by kernel_rfl) (fun _ _ _ h => h) (Or.inl ⟨by rfl, fun W hW => by have hc := hW.2.2; go_simp⟩) e0 ?_
              simp only [Act.put, List.setIfInBounds_toArray, List.set_cons_zero, List.set_cons_succ]
              refine held_take (i := 7) (v := .pointer (some ⟨s.fb, 0, none⟩)) (some 16) rfl rfl (by kernel_rfl) (by kernel_rfl) (by kernel_rfl) (fun _ _ _ h => h) (Or.inl ⟨by rfl, fun W hW => by go_simp⟩) e0 ?_
              simp only [Act.put, List.setIfInBounds_toArray, List.set_cons_zero, List.set_cons_succ]
              refine held_take (i := 8) (v := .pointer (some ⟨s.fb, 6, none⟩)) (some 17) rfl rfl (by kernel_rfl) (by kernel_rfl) (by kernel_rfl) (fun _ _ _ h => h) (Or.inl ⟨by rfl, fun W hW => by go_simp⟩) e0 ?_
              simp only [Act.put, List.setIfInBounds_toArray, List.set_cons_zero, List.set_cons_succ]
              refine held_take (i := 9) (v := .int .u32 (x.rcv : Int)) (some 18) rfl rfl (by kernel_rfl) (by kernel_rfl) (by kernel_rfl) (fun _ _ _ h => h) (Or.inl ⟨by rfl, fun W hW => by have hc := hW.2.1; go_simp⟩) e0 ?_
              simp only [Act.put, List.setIfInBounds_toArray, List.set_cons_zero, List.set_cons_succ]
              refine wpAnyH_ready (rs := [10]) (by kernel_rfl) (by simp) ?_
              refine AllReadyH.cons rfl (fun K hK => ?_) AllReadyH.nil
              go_simp
              refine (HBf.out _).mono ?_
              rintro e w3 ⟨rfl, b3⟩
              have HD1 := Lib.hid (HD1.out.below b3)
              have e0 : w3.rangeAt g 0 (sgx x.rcv ak false kk false rr A n c) ∧ w3.cell? ⟨s.fb, 6, none⟩ = some (.int .u32 (x.rcv : Int)) ∧ w3.cell? ⟨g, 4, none⟩ = some (.int .u32 (x.rcv : Int)) := ⟨HD1.out.bx.range, HD1.out.fl.fa.c6, (HD1.out.bx 4 (by rw [sgx_length]; omega)).1⟩
              clear b3
              dsimp only
              refine hK.out _ _ e0 (fun _ => ?_)
              clear hK
              try simp only [Act.put, List.setIfInBounds_toArray, List.set_cons_zero, List.set_cons_succ]
              refine held_take (i := 11) (v := .bool false) (some 20) rfl rfl (by kernel_rfl) (by kernel_rfl) (by kernel_rfl) (fun _ _ _ h => h) (Or.inl ⟨by rfl, fun W hW => by go_simp⟩) e0 ?_
              simp only [Act.put, List.setIfInBounds_toArray, List.set_cons_zero, List.set_cons_succ]
              refine held_take (i := 12) (v := .bool false) (some 8) rfl rfl (by kernel_rfl) (by kernel_rfl) (by kernel_rfl) (fun _ _ _ h => h) (Or.inl ⟨by rfl, fun W hW => by go_simp⟩) e0 ?_
              simp only [Act.put, List.setIfInBounds_toArray, List.set_cons_zero, List.set_cons_succ]
              refine wpAnyH_done (by kernel_rfl) ?_ _
              refine NoPanic.normal ?_
              go_wp2_with fail
              have HD1 := Lib.hid (HD1.out.below (Below.refl _ _).drew)
              have ex : w3.drew.rangeAt g 0 (sgx x.rcv ak false kk false rr A n c) ∧ w3.drew.cell? ⟨s.fb, 6, none⟩ = some (.int .u32 (x.rcv : Int)) ∧ w3.drew.cell? ⟨g, 4, none⟩ = some (.int .u32 (x.rcv : Int)) := ⟨HD1.out.bx.range, HD1.out.fl.fa.c6, (HD1.out.bx 4 (by rw [sgx_length]; omega)).1⟩
              clear e0
              have e0 := ex
              clear ex
              generalize hwd : w3.drew = we at *
              refine wp_region_noPanic ?_
              refine wp_region_held_drew (S := fun W => W.rangeAt g 0 (sgx x.rcv ak false kk false rr A n c) ∧ W.cell? ⟨s.fb, 6, none⟩ = some (.int .u32 (x.rcv : Int)) ∧ W.cell? ⟨g, 4, none⟩ = some (.int .u32 (x.rcv : Int))) (by kernel_rfl) (by rw [hwd]; exact e0) (fun _ => ?_)
              rw [hwd]
              clear hwd
              refine held_take (i := 0) (v := .pointer (some ⟨g, 4, none⟩)) (some 21) rfl rfl (by kernel_rfl) (by kernel_rfl) (by kernel_rfl) (fun _ _ _ h => h) (Or.inl ⟨by rfl, fun W hW => by go_simp⟩) e0 ?_
              simp only [Act.put, List.setIfInBounds_toArray, List.set_cons_zero, List.set_cons_succ]
              refine held_take (i := 2) (v := .pointer (some ⟨s.fb, 0, none⟩)) (some 23) rfl rfl (by kernel_rfl) (by kernel_rfl) (by kernel_rfl) (fun _ _ _ h => h) (Or.inl ⟨by rfl, fun W hW => by go_simp⟩) e0 ?_
              simp only [Act.put, List.setIfInBounds_toArray, List.set_cons_zero, List.set_cons_succ]
              refine held_take (i := 1) (v := .int .u32 (x.rcv : Int)) (some 22) rfl rfl (by kernel_rfl) (by kernel_rfl) (by kernel_rfl) (fun _ _ _ h => h) (Or.inl ⟨by rfl, fun W hW => by have hc := hW.2.2; go_simp⟩) e0 ?_
              simp only [Act.put, List.setIfInBounds_toArray, List.set_cons_zero, List.set_cons_succ]
              refine held_take (i := 3) (v := .pointer (some ⟨s.fb, 0, none⟩)) (some 24) rfl rfl (by kernel_rfl) (by kernel_rfl) (by kernel_rfl) (fun _ _ _ h => h) (Or.inl ⟨by rfl, fun W hW => by go_simp⟩) e0 ?_
              simp only [Act.put, List.setIfInBounds_toArray, List.set_cons_zero, List.set_cons_succ]
              refine held_take (i := 4) (v := .pointer (some ⟨s.fb, 6, none⟩)) (some 25) rfl rfl (by kernel_rfl) (by kernel_rfl) (by kernel_rfl) (fun _ _ _ h => h) (Or.inl ⟨by rfl, fun W hW => by go_simp⟩) e0 ?_
              simp only [Act.put, List.setIfInBounds_toArray, List.set_cons_zero, List.set_cons_succ]
              refine held_take (i := 5) (v := .int .u32 (x.rcv : Int)) (some 26) rfl rfl (by kernel_rfl) (by kernel_rfl) (by kernel_rfl) (fun _ _ _ h => h) (Or.inl ⟨by rfl, fun W hW => by have hc := hW.2.1; go_simp⟩) e0 ?_
              simp only [Act.put, List.setIfInBounds_toArray, List.set_cons_zero, List.set_cons_succ]
              refine held_take (i := 6) (v := .bool true) (some 27) rfl rfl (by kernel_rfl) (by kernel_rfl) (by kernel_rfl) (fun _ _ _ h => h) (Or.inl ⟨by rfl, fun W hW => by go_simp⟩) e0 ?_
              simp only [Act.put, List.setIfInBounds_toArray, List.set_cons_zero, List.set_cons_succ]
              refine held_take (i := 7) (v := .bool true) (some 28) rfl rfl (by kernel_rfl) (by kernel_rfl) (by kernel_rfl) (fun _ _ _ h => h) (Or.inl ⟨by rfl, fun W hW => by go_simp⟩) e0 ?_
              simp only [Act.put, List.setIfInBounds_toArray, List.set_cons_zero, List.set_cons_succ]
              refine held_take (i := 8) (v := .pointer (some ⟨s.fb, 0, none⟩)) (some 29) rfl rfl (by kernel_rfl) (by kernel_rfl) (by kernel_rfl) (fun _ _ _ h => h) (Or.inl ⟨by rfl, fun W hW => by go_simp⟩) e0 ?_
              simp only [Act.put, List.setIfInBounds_toArray, List.set_cons_zero, List.set_cons_succ]
              refine wpAnyH_ready (rs := [9]) (by kernel_rfl) (by simp) ?_
              refine AllReadyH.cons rfl (fun K hK => ?_) AllReadyH.nil
              go_simp
              refine (HTk.out _ _ HD1.out.fl rfl).mono ?_
              rintro e w4 ⟨rfl, hw4⟩
              obtain rfl : we = w4 := hw4.symm
              dsimp only
              refine hK.out _ _ e0 (fun _ => ?_)
              clear hK
              try simp only [Act.put, List.setIfInBounds_toArray, List.set_cons_zero, List.set_cons_succ]
              refine held_take (i := 10) (v := .bool true) (some 31) rfl rfl (by kernel_rfl) (by kernel_rfl) (by kernel_rfl) (fun _ _ _ h => h) (Or.inl ⟨by rfl, fun W hW => by go_simp⟩) e0 ?_
              simp only [Act.put, List.setIfInBounds_toArray, List.set_cons_zero, List.set_cons_succ]
              refine wpAnyH_done (by kernel_rfl) ?_ _
              refine NoPanic.normal ?_
              go_wp2_with fail
              have HD1 := Lib.hid (HD1.out.below (Below.refl _ _).drew)
              have i4 := (HD1.out.hd 4 (by show 4 < 6; omega))
              have i1 := (HD1.out.hd 1 (by show 1 < 6; omega))
              have e5 : we.drew.cell? ⟨hb, 4, none⟩ = some (.bool false) ∧ we.drew.frozen? ⟨hb, 4, none⟩ = false ∧ we.drew.cell? ⟨hb, 1, none⟩ = some (.bool false) ∧ we.drew.frozen? ⟨hb, 1, none⟩ = false ∧ we.drew.cell? ⟨g, 8, none⟩ = some (.bool false) := ⟨i4.1, i4.2, i1.1, i1.2, (HD1.out.bx 8 (by rw [sgx_length]; omega)).1⟩
              clear e0 i4 i1
              generalize hwd : we.drew = wf at *
              refine wp_region_noPanic ?_
              have e5 : (∃ b, wf.cell? ⟨hb, 4, none⟩ = some (.bool b)) ∧ wf.frozen? ⟨hb, 4, none⟩ = false ∧ (∃ b, wf.cell? ⟨hb, 1, none⟩ = some (.bool b)) ∧ wf.frozen? ⟨hb, 1, none⟩ = false ∧ wf.cell? ⟨g, 8, none⟩ = some (.bool false) := ⟨⟨_, e5.1⟩, e5.2.1, ⟨_, e5.2.2.1⟩, e5.2.2.2.1, e5.2.2.2.2⟩
              refine wp_region_held_drew (S := fun W => (∃ b, W.cell? ⟨hb, 4, none⟩ = some (.bool b)) ∧ W.frozen? ⟨hb, 4, none⟩ = false ∧ (∃ b, W.cell? ⟨hb, 1, none⟩ = some (.bool b)) ∧ W.frozen? ⟨hb, 1, none⟩ = false ∧ W.cell? ⟨g, 8, none⟩ = some (.bool false)) (by kernel_rfl) (by rw [hwd]; exact e5) (fun _ => ?_)
              rw [hwd]
              clear hwd
              refine held_take (i := 0) (v := .pointer (some ⟨hb, 0, none⟩)) (some 32) rfl rfl (by kernel_rfl) (by kernel_rfl) (by kernel_rfl) (fun _ _ _ h => h) (Or.inl ⟨by rfl, fun W hW => by go_simp⟩) e5 ?_
              simp only [Act.put, List.setIfInBounds_toArray, List.set_cons_zero, List.set_cons_succ]
              refine held_take (i := 1) (v := .pointer (some ⟨hb, 0, none⟩)) (some 33) rfl rfl (by kernel_rfl) (by kernel_rfl) (by kernel_rfl) (fun _ _ _ h => h) (Or.inl ⟨by rfl, fun W hW => by go_simp⟩) e5 ?_
              simp only [Act.put, List.setIfInBounds_toArray, List.set_cons_zero, List.set_cons_succ]
              refine held_take (i := 2) (v := .pointer (some ⟨g, 8, none⟩)) (some 34) rfl rfl (by kernel_rfl) (by kernel_rfl) (by kernel_rfl) (fun _ _ _ h => h) (Or.inl ⟨by rfl, fun W hW => by go_simp⟩) e5 ?_
              simp only [Act.put, List.setIfInBounds_toArray, List.set_cons_zero, List.set_cons_succ]
              refine held_take (i := 3) (v := .bool false) (some 35) rfl rfl (by kernel_rfl) (by kernel_rfl) (by kernel_rfl) (fun _ _ _ h => h) (Or.inl ⟨by rfl, fun W hW => by have hc := hW.2.2.2.2; go_simp⟩) e5 ?_
              simp only [Act.put, List.setIfInBounds_toArray, List.set_cons_zero, List.set_cons_succ]
              refine held_take (i := 4) (v := .pointer (some ⟨hb, 0, none⟩)) (some 36) rfl rfl (by kernel_rfl) (by kernel_rfl) (by kernel_rfl) (fun _ _ _ h => h) (Or.inl ⟨by rfl, fun W hW => by go_simp⟩) e5 ?_
              simp only [Act.put, List.setIfInBounds_toArray, List.set_cons_zero, List.set_cons_succ]
              refine held_take (i := 5) (v := .pointer (some ⟨hb, 4, none⟩)) (some 37) rfl rfl (by kernel_rfl) (by kernel_rfl) (by kernel_rfl) (fun _ _ _ h => h) (Or.inl ⟨by rfl, fun W hW => by go_simp⟩) e5 ?_
              simp only [Act.put, List.setIfInBounds_toArray, List.set_cons_zero, List.set_cons_succ]
              refine wpAnyH_ready (rs := [6]) (by kernel_rfl) (by simp) ?_
              refine AllReadyH.cons rfl (fun K hK => ?_) AllReadyH.nil
              obtain ⟨b4, c4⟩ := e5.1
              have f4 := e5.2.1
              go_simp
              have HD6 := Lib.hid (HD1.out.hear (by rw [sgx_length]; omega) HBT.out.1 hgs.2 4 (by show 4 < 6; omega) (.bool true))
              have e6 : (∃ b, (wf.setCell ⟨hb, 4, none⟩ (.bool true)).cell? ⟨hb, 4, none⟩ = some (.bool b)) ∧ (wf.setCell ⟨hb, 4, none⟩ (.bool true)).frozen? ⟨hb, 4, none⟩ = false ∧ (∃ b, (wf.setCell ⟨hb, 4, none⟩ (.bool true)).cell? ⟨hb, 1, none⟩ = some (.bool b)) ∧ (wf.setCell ⟨hb, 4, none⟩ (.bool true)).frozen? ⟨hb, 1, none⟩ = false ∧ (wf.setCell ⟨hb, 4, none⟩ (.bool true)).cell? ⟨g, 8, none⟩ = some (.bool false) := ⟨⟨_, (HD6.out.hd 4 (by show 4 < 6; omega)).1⟩, (HD6.out.hd 4 (by show 4 < 6; omega)).2, ⟨_, (HD6.out.hd 1 (by show 1 < 6; omega)).1⟩, (HD6.out.hd 1 (by show 1 < 6; omega)).2, (HD6.out.bx 8 (by rw [sgx_length]; omega)).1⟩
              clear c4 f4
              refine hK.out _ _ e6 (fun _ => ?_)
              clear hK
              try simp only [Act.put, List.setIfInBounds_toArray, List.set_cons_zero, List.set_cons_succ]
              refine held_take (i := 7) (v := .pointer (some ⟨hb, 0, none⟩)) (some 38) rfl rfl (by kernel_rfl) (by kernel_rfl) (by kernel_rfl) (fun _ _ _ h => h) (Or.inl ⟨by rfl, fun W hW => by go_simp⟩) e6 ?_
              simp only [Act.put, List.setIfInBounds_toArray, List.set_cons_zero, List.set_cons_succ]
              refine held_take (i := 8) (v := .pointer (some ⟨hb, 1, none⟩)) (some 39) rfl rfl (by kernel_rfl) (by kernel_rfl) (by kernel_rfl) (fun _ _ _ h => h) (Or.inl ⟨by rfl, fun W hW => by go_simp⟩) e6 ?_
              simp only [Act.put, List.setIfInBounds_toArray, List.set_cons_zero, List.set_cons_succ]
              refine wpAnyH_ready (rs := [9]) (by kernel_rfl) (by simp) ?_
              refine AllReadyH.cons rfl (fun K hK => ?_) AllReadyH.nil
              obtain ⟨b1, c1⟩ := e6.2.2.1
              have f1 := e6.2.2.2.1
              go_simp
              have HD7 := Lib.hid (HD6.out.hear (by rw [sgx_length]; omega) HBT.out.1 hgs.2 1 (by show 1 < 6; omega) (.bool false))
              have e7 : (∃ b, ((wf.setCell ⟨hb, 4, none⟩ (.bool true)).setCell ⟨hb, 1, none⟩ (.bool false)).cell? ⟨hb, 4, none⟩ = some (.bool b)) ∧ ((wf.setCell ⟨hb, 4, none⟩ (.bool true)).setCell ⟨hb, 1, none⟩ (.bool false)).frozen? ⟨hb, 4, none⟩ = false ∧ (∃ b, ((wf.setCell ⟨hb, 4, none⟩ (.bool true)).setCell ⟨hb, 1, none⟩ (.bool false)).cell? ⟨hb, 1, none⟩ = some (.bool b)) ∧ ((wf.setCell ⟨hb, 4, none⟩ (.bool true)).setCell ⟨hb, 1, none⟩ (.bool false)).frozen? ⟨hb, 1, none⟩ = false ∧ ((wf.setCell ⟨hb, 4, none⟩ (.bool true)).setCell ⟨hb, 1, none⟩ (.bool false)).cell? ⟨g, 8, none⟩ = some (.bool false) := ⟨⟨_, (HD7.out.hd 4 (by show 4 < 6; omega)).1⟩, (HD7.out.hd 4 (by show 4 < 6; omega)).2, ⟨_, (HD7.out.hd 1 (by show 1 < 6; omega)).1⟩, (HD7.out.hd 1 (by show 1 < 6; omega)).2, (HD7.out.bx 8 (by rw [sgx_length]; omega)).1⟩
              clear c1 f1
              refine hK.out _ _ e7 (fun _ => ?_)
              clear hK
              try simp only [Act.put, List.setIfInBounds_toArray, List.set_cons_zero, List.set_cons_succ]
              refine wpAnyH_done (by kernel_rfl) ?_ _
              refine NoPanic.normal ?_
              have HD7 : Hid (Dt base w s x hb g (hv op false false false true v) (sgx x.rcv ak false kk false rr A n c) ((wf.setCell ⟨hb, 4, none⟩ (.bool true)).setCell ⟨hb, 1, none⟩ (.bool false))) := Lib.hid HD7.out
              clear e5 e6 e7 HD6 HD1
              generalize (wf.setCell ⟨hb, 4, none⟩ (.bool true)).setCell ⟨hb, 1, none⟩ (.bool false) = wg at *
              go_wp2_with fail
              have HD1 := Lib.hid (HD7.out.below (Below.refl _ _).drew)
              clear HD7
              have e0 : wg.drew.rangeAt g 0 (sgx x.rcv ak false kk false rr A n c) ∧ wg.drew.cell? ⟨s.fb, 6, none⟩ = some (.int .u32 (x.rcv : Int)) ∧ wg.drew.cell? ⟨g, 4, none⟩ = some (.int .u32 (x.rcv : Int)) := ⟨HD1.out.bx.range, HD1.out.fl.fa.c6, (HD1.out.bx 4 (by rw [sgx_length]; omega)).1⟩
              have e9 : wg.drew.frozen? ⟨s.fb, 6, none⟩ = false := HD1.out.fl.fa.fz 6
              generalize hwd : wg.drew = wh at *
              refine wp_region_noPanic ?_
              refine until_start (fun W => W.rangeAt g 0 (sgx x.rcv ak false kk false rr A n c) ∧ W.cell? ⟨s.fb, 6, none⟩ = some (.int .u32 (x.rcv : Int)) ∧ W.cell? ⟨g, 4, none⟩ = some (.int .u32 (x.rcv : Int))) 10 (by kernel_rfl) (by rw [hwd]; exact e0) (fun _ => ?_)
              rw [hwd]
              clear hwd
              refine until_take (i := 0) (v := .pointer (some ⟨s.fb, 0, none⟩)) (some 40) [10] rfl rfl (by kernel_rfl) (by kernel_rfl) (by kernel_rfl) (by kernel_rfl) rfl rfl (fun _ _ _ h => h) (Or.inl ⟨by rfl, fun W hW => by go_simp⟩) e0 ?_
              simp only [Act.put, List.setIfInBounds_toArray, List.set_cons_zero, List.set_cons_succ]
              refine until_take (i := 1) (v := .pointer (some ⟨s.fb, 0, none⟩)) (some 41) [10] rfl rfl (by kernel_rfl) (by kernel_rfl) (by kernel_rfl) (by kernel_rfl) rfl rfl (fun _ _ _ h => h) (Or.inl ⟨by rfl, fun W hW => by go_simp⟩) e0 ?_
              simp only [Act.put, List.setIfInBounds_toArray, List.set_cons_zero, List.set_cons_succ]
              refine until_take (i := 5) (v := .agg (sgx x.rcv ak false kk false rr A n c).toArray) (some 45) [10] rfl rfl (by kernel_rfl) (by kernel_rfl) (by kernel_rfl) (by kernel_rfl) rfl rfl (fun _ _ _ h => h) (yieldsIf_load_mid (by rfl) 47 (.tmp 5) rfl _ _ rfl _ _ (fun W hW => hW.1) Try.underlying47 rfl infoSg) e0 ?_
              simp only [Act.put, List.setIfInBounds_toArray, List.set_cons_zero, List.set_cons_succ]
              refine until_take (i := 2) (v := .pointer (some ⟨s.fb, 0, none⟩)) (some 42) [10] rfl rfl (by kernel_rfl) (by kernel_rfl) (by kernel_rfl) (by kernel_rfl) rfl rfl (fun _ _ _ h => h) (Or.inl ⟨by rfl, fun W hW => by go_simp⟩) e0 ?_
              simp only [Act.put, List.setIfInBounds_toArray, List.set_cons_zero, List.set_cons_succ]
              refine until_take (i := 3) (v := .pointer (some ⟨s.fb, 6, none⟩)) (some 43) [10] rfl rfl (by kernel_rfl) (by kernel_rfl) (by kernel_rfl) (by kernel_rfl) rfl rfl (fun _ _ _ h => h) (Or.inl ⟨by rfl, fun W hW => by go_simp⟩) e0 ?_
              simp only [Act.put, List.setIfInBounds_toArray, List.set_cons_zero, List.set_cons_succ]
              refine until_take (i := 4) (v := .int .u32 (x.rcv : Int)) (some 44) [10] rfl rfl (by kernel_rfl) (by kernel_rfl) (by kernel_rfl) (by kernel_rfl) rfl rfl (fun _ _ _ h => h) (Or.inl ⟨by rfl, fun W hW => by have hc := hW.2.1; go_simp⟩) e0 ?_
              simp only [Act.put, List.setIfInBounds_toArray, List.set_cons_zero, List.set_cons_succ]
              refine until_step (i := 6) (by kernel_rfl) rfl rfl (fun K hK => ?_)
              go_simp
              refine (HLg.out _).mono ?_
              rintro e w5 ⟨rfl, b5⟩
              have HD1 := Lib.hid (HD1.out.below b5)
              have e0 : w5.rangeAt g 0 (sgx x.rcv ak false kk false rr A n c) ∧ w5.cell? ⟨s.fb, 6, none⟩ = some (.int .u32 (x.rcv : Int)) ∧ w5.cell? ⟨g, 4, none⟩ = some (.int .u32 (x.rcv : Int)) := ⟨HD1.out.bx.range, HD1.out.fl.fa.c6, (HD1.out.bx 4 (by rw [sgx_length]; omega)).1⟩
              clear b5
              dsimp only
              refine hK.out _ _ e0 (fun _ => ?_)
              clear hK
              try simp only [Act.put, List.setIfInBounds_toArray, List.set_cons_zero, List.set_cons_succ]
              refine until_step (i := 7) (by kernel_rfl) rfl rfl (fun K hK => ?_)
              go_simp
              refine (HON.out (L) _ (by omega)).mono ?_
              rintro e w6 ⟨rfl, b6⟩
              have HD1 := Lib.hid (HD1.out.below b6)
              have e0 : w6.rangeAt g 0 (sgx x.rcv ak false kk false rr A n c) ∧ w6.cell? ⟨s.fb, 6, none⟩ = some (.int .u32 (x.rcv : Int)) ∧ w6.cell? ⟨g, 4, none⟩ = some (.int .u32 (x.rcv : Int)) := ⟨HD1.out.bx.range, HD1.out.fl.fa.c6, (HD1.out.bx 4 (by rw [sgx_length]; omega)).1⟩
              have f6 := HD1.out.fl.fa.fz 6
              have c6 := e0.2.1
              clear b6
              dsimp only
              refine hK.out _ _ e0 (fun _ => ?_)
              clear hK
              try simp only [Act.put, List.setIfInBounds_toArray, List.set_cons_zero, List.set_cons_succ]
              refine until_take (i := 8) (v := .pointer (some ⟨s.fb, 0, none⟩)) (some 48) [9, 10] rfl rfl (by kernel_rfl) (by kernel_rfl) (by kernel_rfl) (by kernel_rfl) rfl rfl (fun _ _ _ h => h) (Or.inl ⟨by rfl, fun W hW => by go_simp⟩) e0 ?_
              simp only [Act.put, List.setIfInBounds_toArray, List.set_cons_zero, List.set_cons_succ]
              refine until_take (i := 9) (v := .pointer (some ⟨s.fb, 6, none⟩)) (some 49) [10] rfl rfl (by kernel_rfl) (by kernel_rfl) (by kernel_rfl) (by kernel_rfl) rfl rfl (fun _ _ _ h => h) (Or.inl ⟨by rfl, fun W hW => by go_simp⟩) e0 ?_
              simp only [Act.put, List.setIfInBounds_toArray, List.set_cons_zero, List.set_cons_succ]
              refine until_last (by kernel_rfl) rfl (fun K hK => ?_)
              go_simp
              have h8 := HD1.out.fl.rcvd_ (on_lt x.rcv (L : Int))
              have HD8 := Lib.hid (HD1.out.did (by show 0 < 6; omega) (by rw [sgx_length]; omega) hne hgs.1 h8.1 h8.2)
              have e8 : True := trivial
              clear h8
              refine hK.out _ _ ?_
              clear hK
              try simp only [Act.put, List.setIfInBounds_toArray, List.set_cons_zero, List.set_cons_succ]
              refine wpAnyH_done (by kernel_rfl) ?_ _
              refine NoPanic.normal ?_
              clear e0 e9 f6 c6 HD1
              generalize w6.setCell ⟨s.fb, 6, none⟩ (.int .u32 (on x.rcv (L : Int) : Nat)) = wi at *
              have i8 : wi.cell? ⟨g, 8, none⟩ = some (.bool false) := (HD8.out.bx 8 (by rw [sgx_length]; omega)).1
              have hfr : x.isFresh x.rcv := ⟨rfl, htk⟩
              have htl : ¬ (0 < L ∨ bf x.rcv x.rcv = true) := by rw [hbf]; rintro (h | h); exact absurd h (by omega); cases h
              have i0 := HD8.out.fl.fa.c0
              dsimp only [F.fc] at i0
              unfold ptr at i0
              have HE := Lib.hid (HEn.out _ _ HD8.out.fl)
              have HT := Lib.hid (HTe.out _ _ HD8.out.fl rfl)
              go_wp2_with (first
                | fail)
              go_end0
              have htk : x.takes x.rcv L false t = (x.rcvd (on x.rcv (L : Int))) := by unfold F.takes; rw [if_pos hfr]; exact if_neg (fun e => by cases e)
              have hdf : decide (x.isFresh x.rcv) = true := decide_eq_true hfr
              try rw [hdf]
              unfold F.hdata
              rw [if_neg htl, htk]
              exact ⟨rfl, HD8.out.leftH, false, HD8.out.hd⟩
          · have HTk : Hid (∀ (W : World) (y : F), Fl base W s y → y.st = x.st → Calls Try.prog 64 #[.pointer (some ⟨s.fb, 0, none⟩)] W fun e w' => e = .returned (.bool false) ∧ w' = W) := Lib.hid (fun W y f e => by have := HTk.out W y f; rw [show decide ((y.fc s.qb s.ov).st = 3 ∨ (y.fc s.qb s.ov).st = 4 ∨ (y.fc s.qb s.ov).st = 5) = false from decide_eq_false (by show ¬ (y.st = 3 ∨ y.st = 4 ∨ y.st = 5); rw [e]; exact htk)] at this; exact this)
            as_aux_lemma =>
              go_enter Try.func44, Try.ntmps44
              go_wp2_with (first
                | ((with_reducible refine wpList_here ?_); refine wpList_boxV (o := ⟨some 5, _, _, _, _, _⟩) rfl 47 (.tmp 1) rfl (sgx x.rcv ak false kk false rr A n c) rfl _ rfl ?_; intro w1 z1 b1 s1; have HD1 : Hid (Dt base w s x hb w.heap.size (hv op false false false false v) (sgx x.rcv ak false kk false rr A n c) w1.drew) := Lib.hid ⟨H.out.below b1.drew, (Ch.of_below _ b1.drew), HD0.out.below b1.drew, z1⟩; clear b1 z1)
                | fail)
              generalize hwd : w1.drew = wd at *
              have hgs : w.heap.size ≠ s.fb ∧ w.heap.size ≠ hb := ⟨by omega, by omega⟩
              generalize hgz : w.heap.size = g at *
              have e0 : wd.rangeAt g 0 (sgx x.rcv ak false kk false rr A n c) ∧ wd.cell? ⟨s.fb, 6, none⟩ = some (.int .u32 (x.rcv : Int)) ∧ wd.cell? ⟨g, 4, none⟩ = some (.int .u32 (x.rcv : Int)) := ⟨HD1.out.bx.range, HD1.out.fl.fa.c6, (HD1.out.bx 4 (by rw [sgx_length]; omega)).1⟩
              refine wp_region_noPanic ?_
              refine wp_region_held_drew (S := fun W => W.rangeAt g 0 (sgx x.rcv ak false kk false rr A n c) ∧ W.cell? ⟨s.fb, 6, none⟩ = some (.int .u32 (x.rcv : Int)) ∧ W.cell? ⟨g, 4, none⟩ = some (.int .u32 (x.rcv : Int))) (by kernel_rfl) (by rw [hwd]; exact e0) (fun _ => ?_)
              rw [hwd]
              clear hwd
              refine held_take (i := 0) (v := .agg (sgx x.rcv ak false kk false rr A n c).toArray) (some 9) rfl rfl (by kernel_rfl) (by kernel_rfl) (by kernel_rfl) (fun _ _ _ h => h) (yieldsIf_load_mid (by rfl) 47 (.tmp 5) rfl _ _ rfl _ _ (fun W hW => hW.1) Try.underlying47 rfl infoSg) e0 ?_
              simp only [Act.put, List.setIfInBounds_toArray, List.set_cons_zero, List.set_cons_succ]
              refine wpAnyH_ready (rs := [1]) (by kernel_rfl) (by simp) ?_
              refine AllReadyH.cons rfl (fun K hK => ?_) AllReadyH.nil
              go_simp
              refine (HLg.out _).mono ?_
              rintro e w2 ⟨rfl, b2⟩
              have HD1 := Lib.hid (HD1.out.below b2)
              have e0 : w2.rangeAt g 0 (sgx x.rcv ak false kk false rr A n c) ∧ w2.cell? ⟨s.fb, 6, none⟩ = some (.int .u32 (x.rcv : Int)) ∧ w2.cell? ⟨g, 4, none⟩ = some (.int .u32 (x.rcv : Int)) := ⟨HD1.out.bx.range, HD1.out.fl.fa.c6, (HD1.out.bx 4 (by rw [sgx_length]; omega)).1⟩
              clear b2
              dsimp only
              refine hK.out _ _ e0 (fun _ => ?_)
              clear hK
              try simp only [Act.put, List.setIfInBounds_toArray, List.set_cons_zero, List.set_cons_succ]
              refine held_take (i := 2) (v := .bool false) (some 11) rfl rfl (by kernel_rfl) (by kernel_rfl) (by kernel_rfl) (fun _ _ _ h => h) (Or.inl ⟨by rfl, fun W hW => by go_simp⟩) e0 ?_
              simp only [Act.put, List.setIfInBounds_toArray, List.set_cons_zero, List.set_cons_succ]
              refine held_take (i := 3) (v := .bool false) (some 12) rfl rfl (by kernel_rfl) (by kernel_rfl) (by kernel_rfl) (fun _ _ _ h => h) (Or.inl ⟨by rfl, fun W hW => by go_simp⟩) e0 ?_
              simp only [Act.put, List.setIfInBounds_toArray, List.set_cons_zero, List.set_cons_succ]
              refine held_take (i := 4) (v := .pointer (some ⟨g, 4, none⟩)) (some 13) rfl rfl (by kernel_rfl) (by kernel_rfl) (by kernel_rfl) (fun _ _ _ h => h) (Or.inl ⟨by rfl, fun W hW => by go_simp⟩) e0 ?_
              simp only [Act.put, List.setIfInBounds_toArray, List.set_cons_zero, List.set_cons_succ]
              refine held_take (i := 6) (v := .pointer (some ⟨s.fb, 0, none⟩)) (some 15) rfl rfl (by kernel_rfl) (by kernel_rfl) (by kernel_rfl) (fun _ _ _ h => h) (Or.inl ⟨by rfl, fun W hW => by go_simp⟩) e0 ?_
              simp only [Act.put, List.setIfInBounds_toArray, List.set_cons_zero, List.set_cons_succ]
              refine held_take (i := 5) (v := .int .u32 (x.rcv : Int)) (some 14) rfl rfl (by kernel_rfl) (by kernel_rfl) (by kernel_rfl) (fun _ _ _ h => h) (Or.inl ⟨by rfl, fun W hW => by have hc := hW.2.2; go_simp⟩) e0 ?_
              simp only [Act.put, List.setIfInBounds_toArray, List.set_cons_zero, List.set_cons_succ]
              refine held_take (i := 7) (v := .pointer (some ⟨s.fb, 0, none⟩)) (some 16) rfl rfl (by kernel_rfl) (by kernel_rfl) (by kernel_rfl) (fun _ _ _ h => h) (Or.inl ⟨by rfl, fun W hW => by go_simp⟩) e0 ?_
              simp only [Act.put, List.setIfInBounds_toArray, List.set_cons_zero, List.set_cons_succ]
              refine held_take (i := 8) (v := .pointer (some ⟨s.fb, 6, none⟩)) (some 17) rfl rfl (by kernel_rfl) (by kernel_rfl) (by kernel_rfl) (fun _ _ _ h => h) (Or.inl ⟨by rfl, fun W hW => by go_simp⟩) e0 ?_
              simp only [Act.put, List.setIfInBounds_toArray, List.set_cons_zero, List.set_cons_succ]
              refine held_take (i := 9) (v := .int .u32 (x.rcv : Int)) (some 18) rfl rfl (by kernel_rfl) (by kernel_rfl) (by kernel_rfl) (fun _ _ _ h => h) (Or.inl ⟨by rfl, fun W hW => by have hc := hW.2.1; go_simp⟩) e0 ?_
              simp only [Act.put, List.setIfInBounds_toArray, List.set_cons_zero, List.set_cons_succ]
              refine wpAnyH_ready (rs := [10]) (by kernel_rfl) (by simp) ?_
              refine AllReadyH.cons rfl (fun K hK => ?_) AllReadyH.nil
              go_simp
              refine (HBf.out _).mono ?_
              rintro e w3 ⟨rfl, b3⟩
              have HD1 := Lib.hid (HD1.out.below b3)
              have e0 : w3.rangeAt g 0 (sgx x.rcv ak false kk false rr A n c) ∧ w3.cell? ⟨s.fb, 6, none⟩ = some (.int .u32 (x.rcv : Int)) ∧ w3.cell? ⟨g, 4, none⟩ = some (.int .u32 (x.rcv : Int)) := ⟨HD1.out.bx.range, HD1.out.fl.fa.c6, (HD1.out.bx 4 (by rw [sgx_length]; omega)).1⟩
              clear b3
              dsimp only
              refine hK.out _ _ e0 (fun _ => ?_)
              clear hK
              try simp only [Act.put, List.setIfInBounds_toArray, List.set_cons_zero, List.set_cons_succ]
              refine held_take (i := 11) (v := .bool false) (some 20) rfl rfl (by kernel_rfl) (by kernel_rfl) (by kernel_rfl) (fun _ _ _ h => h) (Or.inl ⟨by rfl, fun W hW => by go_simp⟩) e0 ?_
              simp only [Act.put, List.setIfInBounds_toArray, List.set_cons_zero, List.set_cons_succ]
              refine held_take (i := 12) (v := .bool false) (some 8) rfl rfl (by kernel_rfl) (by kernel_rfl) (by kernel_rfl) (fun _ _ _ h => h) (Or.inl ⟨by rfl, fun W hW => by go_simp⟩) e0 ?_
              simp only [Act.put, List.setIfInBounds_toArray, List.set_cons_zero, List.set_cons_succ]
              refine wpAnyH_done (by kernel_rfl) ?_ _
              refine NoPanic.normal ?_
              go_wp2_with fail
              have HD1 := Lib.hid (HD1.out.below (Below.refl _ _).drew)
              have ex : w3.drew.rangeAt g 0 (sgx x.rcv ak false kk false rr A n c) ∧ w3.drew.cell? ⟨s.fb, 6, none⟩ = some (.int .u32 (x.rcv : Int)) ∧ w3.drew.cell? ⟨g, 4, none⟩ = some (.int .u32 (x.rcv : Int)) := ⟨HD1.out.bx.range, HD1.out.fl.fa.c6, (HD1.out.bx 4 (by rw [sgx_length]; omega)).1⟩
              clear e0
              have e0 := ex
              clear ex
              generalize hwd : w3.drew = we at *
              refine wp_region_noPanic ?_
              refine wp_region_held_drew (S := fun W => W.rangeAt g 0 (sgx x.rcv ak false kk false rr A n c) ∧ W.cell? ⟨s.fb, 6, none⟩ = some (.int .u32 (x.rcv : Int)) ∧ W.cell? ⟨g, 4, none⟩ = some (.int .u32 (x.rcv : Int))) (by kernel_rfl) (by rw [hwd]; exact e0) (fun _ => ?_)
              rw [hwd]
              clear hwd
              refine held_take (i := 0) (v := .pointer (some ⟨g, 4, none⟩)) (some 21) rfl rfl (by kernel_rfl) (by kernel_rfl) (by kernel_rfl) (fun _ _ _ h => h) (Or.inl ⟨by rfl, fun W hW => by go_simp⟩) e0 ?_
              simp only [Act.put, List.setIfInBounds_toArray, List.set_cons_zero, List.set_cons_succ]
              refine held_take (i := 2) (v := .pointer (some ⟨s.fb, 0, none⟩)) (some 23) rfl rfl (by kernel_rfl) (by kernel_rfl) (by kernel_rfl) (fun _ _ _ h => h) (Or.inl ⟨by rfl, fun W hW => by go_simp⟩) e0 ?_
              simp only [Act.put, List.setIfInBounds_toArray, List.set_cons_zero, List.set_cons_succ]
              refine held_take (i := 1) (v := .int .u32 (x.rcv : Int)) (some 22) rfl rfl (by kernel_rfl) (by kernel_rfl) (by kernel_rfl) (fun _ _ _ h => h) (Or.inl ⟨by rfl, fun W hW => by have hc := hW.2.2; go_simp⟩) e0 ?_
              simp only [Act.put, List.setIfInBounds_toArray, List.set_cons_zero, List.set_cons_succ]
              refine held_take (i := 3) (v := .pointer (some ⟨s.fb, 0, none⟩)) (some 24) rfl rfl (by kernel_rfl) (by kernel_rfl) (by kernel_rfl) (fun _ _ _ h => h) (Or.inl ⟨by rfl, fun W hW => by go_simp⟩) e0 ?_
              simp only [Act.put, List.setIfInBounds_toArray, List.set_cons_zero, List.set_cons_succ]
              refine held_take (i := 4) (v := .pointer (some ⟨s.fb, 6, none⟩)) (some 25) rfl rfl (by kernel_rfl) (by kernel_rfl) (by kernel_rfl) (fun _ _ _ h => h) (Or.inl ⟨by rfl, fun W hW => by go_simp⟩) e0 ?_
              simp only [Act.put, List.setIfInBounds_toArray, List.set_cons_zero, List.set_cons_succ]
              refine held_take (i := 5) (v := .int .u32 (x.rcv : Int)) (some 26) rfl rfl (by kernel_rfl) (by kernel_rfl) (by kernel_rfl) (fun _ _ _ h => h) (Or.inl ⟨by rfl, fun W hW => by have hc := hW.2.1; go_simp⟩) e0 ?_
              simp only [Act.put, List.setIfInBounds_toArray, List.set_cons_zero, List.set_cons_succ]
              refine held_take (i := 6) (v := .bool true) (some 27) rfl rfl (by kernel_rfl) (by kernel_rfl) (by kernel_rfl) (fun _ _ _ h => h) (Or.inl ⟨by rfl, fun W hW => by go_simp⟩) e0 ?_
              simp only [Act.put, List.setIfInBounds_toArray, List.set_cons_zero, List.set_cons_succ]
              refine held_take (i := 7) (v := .bool true) (some 28) rfl rfl (by kernel_rfl) (by kernel_rfl) (by kernel_rfl) (fun _ _ _ h => h) (Or.inl ⟨by rfl, fun W hW => by go_simp⟩) e0 ?_
              simp only [Act.put, List.setIfInBounds_toArray, List.set_cons_zero, List.set_cons_succ]
              refine held_take (i := 8) (v := .pointer (some ⟨s.fb, 0, none⟩)) (some 29) rfl rfl (by kernel_rfl) (by kernel_rfl) (by kernel_rfl) (fun _ _ _ h => h) (Or.inl ⟨by rfl, fun W hW => by go_simp⟩) e0 ?_
              simp only [Act.put, List.setIfInBounds_toArray, List.set_cons_zero, List.set_cons_succ]
              refine wpAnyH_ready (rs := [9]) (by kernel_rfl) (by simp) ?_
              refine AllReadyH.cons rfl (fun K hK => ?_) AllReadyH.nil
              go_simp
              refine (HTk.out _ _ HD1.out.fl rfl).mono ?_
              rintro e w4 ⟨rfl, hw4⟩
              obtain rfl : we = w4 := hw4.symm
              dsimp only
              refine hK.out _ _ e0 (fun _ => ?_)
              clear hK
              try simp only [Act.put, List.setIfInBounds_toArray, List.set_cons_zero, List.set_cons_succ]
              refine held_take (i := 10) (v := .bool false) (some 31) rfl rfl (by kernel_rfl) (by kernel_rfl) (by kernel_rfl) (fun _ _ _ h => h) (Or.inl ⟨by rfl, fun W hW => by go_simp⟩) e0 ?_
              simp only [Act.put, List.setIfInBounds_toArray, List.set_cons_zero, List.set_cons_succ]
              refine wpAnyH_done (by kernel_rfl) ?_ _
              refine NoPanic.normal ?_
              clear e0
              have hfr : ¬ x.isFresh x.rcv := fun e => htk e.2
              have htl : ¬ (0 < L ∨ bf x.rcv x.rcv = true) := by rw [hbf]; rintro (h | h); exact absurd h (by omega); cases h
              have i0 := HD1.out.fl.fa.c0
              dsimp only [F.fc] at i0
              unfold ptr at i0
              have HE := Lib.hid (HEn.out _ _ HD1.out.fl)
              have HT := Lib.hid (HTe.out _ _ HD1.out.fl rfl)
              go_wp2_with (first
                | fail)
              go_end0
              have htk : x.takes x.rcv L false t = x := if_neg hfr
              have hdf : decide (x.isFresh x.rcv) = false := decide_eq_false hfr
              try rw [hdf]
              unfold F.hdata
              rw [if_neg htl, htk]
              exact ⟨rfl, HD1.out.leftH, false, HD1.out.hd⟩
        · have n3 : ((q : Int) == (x.rcv : Int)) = false := by rw [beq_eq_false_iff_ne]; omega
          have n4 : ¬ (q : Int) = (x.rcv : Int) := by omega
          as_aux_lemma =>
            go_enter Try.func44, Try.ntmps44
            go_wp2_with (first
              | ((with_reducible refine wpList_here ?_); refine wpList_boxV (o := ⟨some 5, _, _, _, _, _⟩) rfl 47 (.tmp 1) rfl (sgx q ak false kk false rr A n c) rfl _ rfl ?_; intro w1 z1 b1 s1; have HD1 : Hid (Dt base w s x hb w.heap.size (hv op false false false false v) (sgx q ak false kk false rr A n c) w1.drew) := Lib.hid ⟨H.out.below b1.drew, (Ch.of_below _ b1.drew), HD0.out.below b1.drew, z1⟩; clear b1 z1)
              | fail)
            generalize hwd : w1.drew = wd at *
            have hgs : w.heap.size ≠ s.fb ∧ w.heap.size ≠ hb := ⟨by omega, by omega⟩
            generalize hgz : w.heap.size = g at *
            have e0 : wd.rangeAt g 0 (sgx q ak false kk false rr A n c) ∧ wd.cell? ⟨s.fb, 6, none⟩ = some (.int .u32 (x.rcv : Int)) ∧ wd.cell? ⟨g, 4, none⟩ = some (.int .u32 (q : Int)) := ⟨HD1.out.bx.range, HD1.out.fl.fa.c6, (HD1.out.bx 4 (by rw [sgx_length]; omega)).1⟩
            refine wp_region_noPanic ?_
            refine wp_region_held_drew (S := fun W => W.rangeAt g 0 (sgx q ak false kk false rr A n c) ∧ W.cell? ⟨s.fb, 6, none⟩ = some (.int .u32 (x.rcv : Int)) ∧ W.cell? ⟨g, 4, none⟩ = some (.int .u32 (q : Int))) (by kernel_rfl) (by rw [hwd]; exact e0) (fun _ => ?_)
            rw [hwd]
            clear hwd
            refine held_take (i := 0) (v := .agg (sgx q ak false kk false rr A n c).toArray) (some 9) rfl rfl (by kernel_rfl) (by kernel_rfl) (by kernel_rfl) (fun _ _ _ h => h) (yieldsIf_load_mid (by rfl) 47 (.tmp 5) rfl _ _ rfl _ _ (fun W hW => hW.1) Try.underlying47 rfl infoSg) e0 ?_
            simp only [Act.put, List.setIfInBounds_toArray, List.set_cons_zero, List.set_cons_succ]
            refine wpAnyH_ready (rs := [1]) (by kernel_rfl) (by simp) ?_
            refine AllReadyH.cons rfl (fun K hK => ?_) AllReadyH.nil
            go_simp
            refine (HLg.out _).mono ?_
            rintro e w2 ⟨rfl, b2⟩
            have HD1 := Lib.hid (HD1.out.below b2)
            have e0 : w2.rangeAt g 0 (sgx q ak false kk false rr A n c) ∧ w2.cell? ⟨s.fb, 6, none⟩ = some (.int .u32 (x.rcv : Int)) ∧ w2.cell? ⟨g, 4, none⟩ = some (.int .u32 (q : Int)) := ⟨HD1.out.bx.range, HD1.out.fl.fa.c6, (HD1.out.bx 4 (by rw [sgx_length]; omega)).1⟩
            clear b2
            dsimp only
            refine hK.out _ _ e0 (fun _ => ?_)
            clear hK
            try simp only [Act.put, List.setIfInBounds_toArray, List.set_cons_zero, List.set_cons_succ]
            refine held_take (i := 2) (v := .bool false) (some 11) rfl rfl (by kernel_rfl) (by kernel_rfl) (by kernel_rfl) (fun _ _ _ h => h) (Or.inl ⟨by rfl, fun W hW => by go_simp⟩) e0 ?_
            simp only [Act.put, List.setIfInBounds_toArray, List.set_cons_zero, List.set_cons_succ]
            refine held_take (i := 3) (v := .bool false) (some 12) rfl rfl (by kernel_rfl) (by kernel_rfl) (by kernel_rfl) (fun _ _ _ h => h) (Or.inl ⟨by rfl, fun W hW => by go_simp⟩) e0 ?_
            simp only [Act.put, List.setIfInBounds_toArray, List.set_cons_zero, List.set_cons_succ]
            refine held_take (i := 4) (v := .pointer (some ⟨g, 4, none⟩)) (some 13) rfl rfl (by kernel_rfl) (by kernel_rfl) (by kernel_rfl) (fun _ _ _ h => h) (Or.inl ⟨by rfl, fun W hW => by go_simp⟩) e0 ?_
            simp only [Act.put, List.setIfInBounds_toArray, List.set_cons_zero, List.set_cons_succ]
            refine held_take (i := 6) (v := .pointer (some ⟨s.fb, 0, none⟩)) (some 15) rfl rfl (by kernel_rfl) (by kernel_rfl) (by kernel_rfl) (fun _ _ _ h => h) (Or.inl ⟨by rfl, fun W hW => by go_simp⟩) e0 ?_
            simp only [Act.put, List.setIfInBounds_toArray, List.set_cons_zero, List.set_cons_succ]
            refine held_take (i := 5) (v := .int .u32 (q : Int)) (some 14) rfl rfl (by kernel_rfl) (by kernel_rfl) (by kernel_rfl) (fun _ _ _ h => h) (Or.inl ⟨by rfl, fun W hW => by have hc := hW.2.2; go_simp⟩) e0 ?_
            simp only [Act.put, List.setIfInBounds_toArray, List.set_cons_zero, List.set_cons_succ]
            refine held_take (i := 7) (v := .pointer (some ⟨s.fb, 0, none⟩)) (some 16) rfl rfl (by kernel_rfl) (by kernel_rfl) (by kernel_rfl) (fun _ _ _ h => h) (Or.inl ⟨by rfl, fun W hW => by go_simp⟩) e0 ?_
            simp only [Act.put, List.setIfInBounds_toArray, List.set_cons_zero, List.set_cons_succ]
            refine held_take (i := 8) (v := .pointer (some ⟨s.fb, 6, none⟩)) (some 17) rfl rfl (by kernel_rfl) (by kernel_rfl) (by kernel_rfl) (fun _ _ _ h => h) (Or.inl ⟨by rfl, fun W hW => by go_simp⟩) e0 ?_
            simp only [Act.put, List.setIfInBounds_toArray, List.set_cons_zero, List.set_cons_succ]
            refine held_take (i := 9) (v := .int .u32 (x.rcv : Int)) (some 18) rfl rfl (by kernel_rfl) (by kernel_rfl) (by kernel_rfl) (fun _ _ _ h => h) (Or.inl ⟨by rfl, fun W hW => by have hc := hW.2.1; go_simp⟩) e0 ?_
            simp only [Act.put, List.setIfInBounds_toArray, List.set_cons_zero, List.set_cons_succ]
            refine wpAnyH_ready (rs := [10]) (by kernel_rfl) (by simp) ?_
            refine AllReadyH.cons rfl (fun K hK => ?_) AllReadyH.nil
            go_simp
            refine (HBf.out _).mono ?_
            rintro e w3 ⟨rfl, b3⟩
            have HD1 := Lib.hid (HD1.out.below b3)
            have e0 : w3.rangeAt g 0 (sgx q ak false kk false rr A n c) ∧ w3.cell? ⟨s.fb, 6, none⟩ = some (.int .u32 (x.rcv : Int)) ∧ w3.cell? ⟨g, 4, none⟩ = some (.int .u32 (q : Int)) := ⟨HD1.out.bx.range, HD1.out.fl.fa.c6, (HD1.out.bx 4 (by rw [sgx_length]; omega)).1⟩
            clear b3
            dsimp only
            refine hK.out _ _ e0 (fun _ => ?_)
            clear hK
            try simp only [Act.put, List.setIfInBounds_toArray, List.set_cons_zero, List.set_cons_succ]
            refine held_take (i := 11) (v := .bool false) (some 20) rfl rfl (by kernel_rfl) (by kernel_rfl) (by kernel_rfl) (fun _ _ _ h => h) (Or.inl ⟨by rfl, fun W hW => by go_simp⟩) e0 ?_
            simp only [Act.put, List.setIfInBounds_toArray, List.set_cons_zero, List.set_cons_succ]
            refine held_take (i := 12) (v := .bool false) (some 8) rfl rfl (by kernel_rfl) (by kernel_rfl) (by kernel_rfl) (fun _ _ _ h => h) (Or.inl ⟨by rfl, fun W hW => by go_simp⟩) e0 ?_
            simp only [Act.put, List.setIfInBounds_toArray, List.set_cons_zero, List.set_cons_succ]
            refine wpAnyH_done (by kernel_rfl) ?_ _
            refine NoPanic.normal ?_
            go_wp2_with fail
            have HD1 := Lib.hid (HD1.out.below (Below.refl _ _).drew)
            have ex : w3.drew.rangeAt g 0 (sgx q ak false kk false rr A n c) ∧ w3.drew.cell? ⟨s.fb, 6, none⟩ = some (.int .u32 (x.rcv : Int)) ∧ w3.drew.cell? ⟨g, 4, none⟩ = some (.int .u32 (q : Int)) := ⟨HD1.out.bx.range, HD1.out.fl.fa.c6, (HD1.out.bx 4 (by rw [sgx_length]; omega)).1⟩
            clear e0
            have e0 := ex
            clear ex
            generalize hwd : w3.drew = we at *
            refine wp_region_noPanic ?_
            refine wp_region_held_drew (S := fun W => W.rangeAt g 0 (sgx q ak false kk false rr A n c) ∧ W.cell? ⟨s.fb, 6, none⟩ = some (.int .u32 (x.rcv : Int)) ∧ W.cell? ⟨g, 4, none⟩ = some (.int .u32 (q : Int))) (by kernel_rfl) (by rw [hwd]; exact e0) (fun _ => ?_)
            rw [hwd]
            clear hwd
            refine held_take (i := 0) (v := .pointer (some ⟨g, 4, none⟩)) (some 21) rfl rfl (by kernel_rfl) (by kernel_rfl) (by kernel_rfl) (fun _ _ _ h => h) (Or.inl ⟨by rfl, fun W hW => by go_simp⟩) e0 ?_
            simp only [Act.put, List.setIfInBounds_toArray, List.set_cons_zero, List.set_cons_succ]
            refine held_take (i := 2) (v := .pointer (some ⟨s.fb, 0, none⟩)) (some 23) rfl rfl (by kernel_rfl) (by kernel_rfl) (by kernel_rfl) (fun _ _ _ h => h) (Or.inl ⟨by rfl, fun W hW => by go_simp⟩) e0 ?_
            simp only [Act.put, List.setIfInBounds_toArray, List.set_cons_zero, List.set_cons_succ]
            refine held_take (i := 1) (v := .int .u32 (q : Int)) (some 22) rfl rfl (by kernel_rfl) (by kernel_rfl) (by kernel_rfl) (fun _ _ _ h => h) (Or.inl ⟨by rfl, fun W hW => by have hc := hW.2.2; go_simp⟩) e0 ?_
            simp only [Act.put, List.setIfInBounds_toArray, List.set_cons_zero, List.set_cons_succ]
            refine held_take (i := 3) (v := .pointer (some ⟨s.fb, 0, none⟩)) (some 24) rfl rfl (by kernel_rfl) (by kernel_rfl) (by kernel_rfl) (fun _ _ _ h => h) (Or.inl ⟨by rfl, fun W hW => by go_simp⟩) e0 ?_
            simp only [Act.put, List.setIfInBounds_toArray, List.set_cons_zero, List.set_cons_succ]
            refine held_take (i := 4) (v := .pointer (some ⟨s.fb, 6, none⟩)) (some 25) rfl rfl (by kernel_rfl) (by kernel_rfl) (by kernel_rfl) (fun _ _ _ h => h) (Or.inl ⟨by rfl, fun W hW => by go_simp⟩) e0 ?_
            simp only [Act.put, List.setIfInBounds_toArray, List.set_cons_zero, List.set_cons_succ]
            refine held_take (i := 5) (v := .int .u32 (x.rcv : Int)) (some 26) rfl rfl (by kernel_rfl) (by kernel_rfl) (by kernel_rfl) (fun _ _ _ h => h) (Or.inl ⟨by rfl, fun W hW => by have hc := hW.2.1; go_simp⟩) e0 ?_
            simp only [Act.put, List.setIfInBounds_toArray, List.set_cons_zero, List.set_cons_succ]
            refine held_take (i := 6) (v := .bool false) (some 27) rfl rfl (by kernel_rfl) (by kernel_rfl) (by kernel_rfl) (fun _ _ _ h => h) (Or.inl ⟨by rfl, fun W hW => by go_simp⟩) e0 ?_
            simp only [Act.put, List.setIfInBounds_toArray, List.set_cons_zero, List.set_cons_succ]
            refine held_take (i := 7) (v := .bool false) (some 28) rfl rfl (by kernel_rfl) (by kernel_rfl) (by kernel_rfl) (fun _ _ _ h => h) (Or.inl ⟨by rfl, fun W hW => by go_simp⟩) e0 ?_
            simp only [Act.put, List.setIfInBounds_toArray, List.set_cons_zero, List.set_cons_succ]
            refine held_take (i := 8) (v := undef) (some 29) rfl rfl (by kernel_rfl) (by kernel_rfl) (by kernel_rfl) (fun _ _ _ h => h) (Or.inr ⟨by rfl, by rfl⟩) e0 ?_
            simp only [Act.put, List.setIfInBounds_toArray, List.set_cons_zero, List.set_cons_succ]
            refine held_take (i := 9) (v := undef) (some 30) rfl rfl (by kernel_rfl) (by kernel_rfl) (by kernel_rfl) (fun _ _ _ h => h) (Or.inr ⟨by rfl, by rfl⟩) e0 ?_
            simp only [Act.put, List.setIfInBounds_toArray, List.set_cons_zero, List.set_cons_succ]
            refine held_take (i := 10) (v := .bool false) (some 31) rfl rfl (by kernel_rfl) (by kernel_rfl) (by kernel_rfl) (fun _ _ _ h => h) (Or.inl ⟨by rfl, fun W hW => by go_simp⟩) e0 ?_
            simp only [Act.put, List.setIfInBounds_toArray, List.set_cons_zero, List.set_cons_succ]
            refine wpAnyH_done (by kernel_rfl) ?_ _
            refine NoPanic.normal ?_
            clear e0
            have hfr : ¬ x.isFresh q := fun e => hqr e.1
            have htl : ¬ (0 < L ∨ bf q x.rcv = true) := by rw [hbf]; rintro (h | h); exact absurd h (by omega); cases h
            have i0 := HD1.out.fl.fa.c0
            dsimp only [F.fc] at i0
            unfold ptr at i0
            have HE := Lib.hid (HEn.out _ _ HD1.out.fl)
            have HT := Lib.hid (HTe.out _ _ HD1.out.fl rfl)
            go_wp2_with (first
              | fail)
            go_end0
            have htk : x.takes q L false t = x := if_neg hfr
            have hdf : decide (x.isFresh q) = false := decide_eq_false hfr
            try rw [hdf]
            unfold F.hdata
            rw [if_neg htl, htk]
            exact ⟨rfl, HD1.out.leftH, false, HD1.out.hd⟩
      · rw [hbf] at HBf
        by_cases hqr : q = x.rcv
        · rw [hqr, bf_self _ hrc] at hbf
          cases hbf
        · have n3 : ((q : Int) == (x.rcv : Int)) = false := by rw [beq_eq_false_iff_ne]; omega
          have n4 : ¬ (q : Int) = (x.rcv : Int) := by omega
          as_aux_lemma =>
            go_enter Try.func44, Try.ntmps44
            go_wp2_with (first
              | ((with_reducible refine wpList_here ?_); refine wpList_boxV (o := ⟨some 5, _, _, _, _, _⟩) rfl 47 (.tmp 1) rfl (sgx q ak false kk false rr A n c) rfl _ rfl ?_; intro w1 z1 b1 s1; have HD1 : Hid (Dt base w s x hb w.heap.size (hv op false false false false v) (sgx q ak false kk false rr A n c) w1.drew) := Lib.hid ⟨H.out.below b1.drew, (Ch.of_below _ b1.drew), HD0.out.below b1.drew, z1⟩; clear b1 z1)
              | fail)
            generalize hwd : w1.drew = wd at *
            have hgs : w.heap.size ≠ s.fb ∧ w.heap.size ≠ hb := ⟨by omega, by omega⟩
            generalize hgz : w.heap.size = g at *
            have e0 : wd.rangeAt g 0 (sgx q ak false kk false rr A n c) ∧ wd.cell? ⟨s.fb, 6, none⟩ = some (.int .u32 (x.rcv : Int)) ∧ wd.cell? ⟨g, 4, none⟩ = some (.int .u32 (q : Int)) := ⟨HD1.out.bx.range, HD1.out.fl.fa.c6, (HD1.out.bx 4 (by rw [sgx_length]; omega)).1⟩
            refine wp_region_noPanic ?_
            refine wp_region_held_drew (S := fun W => W.rangeAt g 0 (sgx q ak false kk false rr A n c) ∧ W.cell? ⟨s.fb, 6, none⟩ = some (.int .u32 (x.rcv : Int)) ∧ W.cell? ⟨g, 4, none⟩ = some (.int .u32 (q : Int))) (by kernel_rfl) (by rw [hwd]; exact e0) (fun _ => ?_)
            rw [hwd]
            clear hwd
            refine held_take (i := 0) (v := .agg (sgx q ak false kk false rr A n c).toArray) (some 9) rfl rfl (by kernel_rfl) (by kernel_rfl) (by kernel_rfl) (fun _ _ _ h => h) (yieldsIf_load_mid (by rfl) 47 (.tmp 5) rfl _ _ rfl _ _ (fun W hW => hW.1) Try.underlying47 rfl infoSg) e0 ?_
            simp only [Act.put, List.setIfInBounds_toArray, List.set_cons_zero, List.set_cons_succ]
            refine wpAnyH_ready (rs := [1]) (by kernel_rfl) (by simp) ?_
            refine AllReadyH.cons rfl (fun K hK => ?_) AllReadyH.nil
            go_simp
            refine (HLg.out _).mono ?_
            rintro e w2 ⟨rfl, b2⟩
            have HD1 := Lib.hid (HD1.out.below b2)
            have e0 : w2.rangeAt g 0 (sgx q ak false kk false rr A n c) ∧ w2.cell? ⟨s.fb, 6, none⟩ = some (.int .u32 (x.rcv : Int)) ∧ w2.cell? ⟨g, 4, none⟩ = some (.int .u32 (q : Int)) := ⟨HD1.out.bx.range, HD1.out.fl.fa.c6, (HD1.out.bx 4 (by rw [sgx_length]; omega)).1⟩
            clear b2
            dsimp only
            refine hK.out _ _ e0 (fun _ => ?_)
            clear hK
            try simp only [Act.put, List.setIfInBounds_toArray, List.set_cons_zero, List.set_cons_succ]
            refine held_take (i := 2) (v := .bool false) (some 11) rfl rfl (by kernel_rfl) (by kernel_rfl) (by kernel_rfl) (fun _ _ _ h => h) (Or.inl ⟨by rfl, fun W hW => by go_simp⟩) e0 ?_
            simp only [Act.put, List.setIfInBounds_toArray, List.set_cons_zero, List.set_cons_succ]
            refine held_take (i := 3) (v := .bool false) (some 12) rfl rfl (by kernel_rfl) (by kernel_rfl) (by kernel_rfl) (fun _ _ _ h => h) (Or.inl ⟨by rfl, fun W hW => by go_simp⟩) e0 ?_
            simp only [Act.put, List.setIfInBounds_toArray, List.set_cons_zero, List.set_cons_succ]
            refine held_take (i := 4) (v := .pointer (some ⟨g, 4, none⟩)) (some 13) rfl rfl (by kernel_rfl) (by kernel_rfl) (by kernel_rfl) (fun _ _ _ h => h) (Or.inl ⟨by rfl, fun W hW => by go_simp⟩) e0 ?_
            simp only [Act.put, List.setIfInBounds_toArray, List.set_cons_zero, List.set_cons_succ]
            refine held_take (i := 6) (v := .pointer (some ⟨s.fb, 0, none⟩)) (some 15) rfl rfl (by kernel_rfl) (by kernel_rfl) (by kernel_rfl) (fun _ _ _ h => h) (Or.inl ⟨by rfl, fun W hW => by go_simp⟩) e0 ?_
            simp only [Act.put, List.setIfInBounds_toArray, List.set_cons_zero, List.set_cons_succ]
            refine held_take (i := 5) (v := .int .u32 (q : Int)) (some 14) rfl rfl (by kernel_rfl) (by kernel_rfl) (by kernel_rfl) (fun _ _ _ h => h) (Or.inl ⟨by rfl, fun W hW => by have hc := hW.2.2; go_simp⟩) e0 ?_
            simp only [Act.put, List.setIfInBounds_toArray, List.set_cons_zero, List.set_cons_succ]
            refine held_take (i := 7) (v := .pointer (some ⟨s.fb, 0, none⟩)) (some 16) rfl rfl (by kernel_rfl) (by kernel_rfl) (by kernel_rfl) (fun _ _ _ h => h) (Or.inl ⟨by rfl, fun W hW => by go_simp⟩) e0 ?_
            simp only [Act.put, List.setIfInBounds_toArray, List.set_cons_zero, List.set_cons_succ]
            refine held_take (i := 8) (v := .pointer (some ⟨s.fb, 6, none⟩)) (some 17) rfl rfl (by kernel_rfl) (by kernel_rfl) (by kernel_rfl) (fun _ _ _ h => h) (Or.inl ⟨by rfl, fun W hW => by go_simp⟩) e0 ?_
            simp only [Act.put, List.setIfInBounds_toArray, List.set_cons_zero, List.set_cons_succ]
            refine held_take (i := 9) (v := .int .u32 (x.rcv : Int)) (some 18) rfl rfl (by kernel_rfl) (by kernel_rfl) (by kernel_rfl) (fun _ _ _ h => h) (Or.inl ⟨by rfl, fun W hW => by have hc := hW.2.1; go_simp⟩) e0 ?_
            simp only [Act.put, List.setIfInBounds_toArray, List.set_cons_zero, List.set_cons_succ]
            refine wpAnyH_ready (rs := [10]) (by kernel_rfl) (by simp) ?_
            refine AllReadyH.cons rfl (fun K hK => ?_) AllReadyH.nil
            go_simp
            refine (HBf.out _).mono ?_
            rintro e w3 ⟨rfl, b3⟩
            have HD1 := Lib.hid (HD1.out.below b3)
            have e0 : w3.rangeAt g 0 (sgx q ak false kk false rr A n c) ∧ w3.cell? ⟨s.fb, 6, none⟩ = some (.int .u32 (x.rcv : Int)) ∧ w3.cell? ⟨g, 4, none⟩ = some (.int .u32 (q : Int)) := ⟨HD1.out.bx.range, HD1.out.fl.fa.c6, (HD1.out.bx 4 (by rw [sgx_length]; omega)).1⟩
            clear b3
            dsimp only
            refine hK.out _ _ e0 (fun _ => ?_)
            clear hK
            try simp only [Act.put, List.setIfInBounds_toArray, List.set_cons_zero, List.set_cons_succ]
            refine held_take (i := 11) (v := .bool true) (some 20) rfl rfl (by kernel_rfl) (by kernel_rfl) (by kernel_rfl) (fun _ _ _ h => h) (Or.inl ⟨by rfl, fun W hW => by go_simp⟩) e0 ?_
            simp only [Act.put, List.setIfInBounds_toArray, List.set_cons_zero, List.set_cons_succ]
            refine held_take (i := 12) (v := .bool true) (some 8) rfl rfl (by kernel_rfl) (by kernel_rfl) (by kernel_rfl) (fun _ _ _ h => h) (Or.inl ⟨by rfl, fun W hW => by go_simp⟩) e0 ?_
            simp only [Act.put, List.setIfInBounds_toArray, List.set_cons_zero, List.set_cons_succ]
            refine wpAnyH_done (by kernel_rfl) ?_ _
            refine NoPanic.normal ?_
            go_wp2_with fail
            have HD1 := Lib.hid (HD1.out.below (Below.refl _ _).drew)
            have ex : w3.drew.rangeAt g 0 (sgx q ak false kk false rr A n c) ∧ w3.drew.cell? ⟨s.fb, 6, none⟩ = some (.int .u32 (x.rcv : Int)) ∧ w3.drew.cell? ⟨g, 4, none⟩ = some (.int .u32 (q : Int)) := ⟨HD1.out.bx.range, HD1.out.fl.fa.c6, (HD1.out.bx 4 (by rw [sgx_length]; omega)).1⟩
            clear e0
            have e0 := ex
            clear ex
            generalize hwd : w3.drew = we at *
            refine wp_region_noPanic ?_
            refine wp_region_held_drew (S := fun W => W.rangeAt g 0 (sgx q ak false kk false rr A n c) ∧ W.cell? ⟨s.fb, 6, none⟩ = some (.int .u32 (x.rcv : Int)) ∧ W.cell? ⟨g, 4, none⟩ = some (.int .u32 (q : Int))) (by kernel_rfl) (by rw [hwd]; exact e0) (fun _ => ?_)
            rw [hwd]
            clear hwd
            refine held_take (i := 0) (v := .pointer (some ⟨g, 4, none⟩)) (some 21) rfl rfl (by kernel_rfl) (by kernel_rfl) (by kernel_rfl) (fun _ _ _ h => h) (Or.inl ⟨by rfl, fun W hW => by go_simp⟩) e0 ?_
            simp only [Act.put, List.setIfInBounds_toArray, List.set_cons_zero, List.set_cons_succ]
            refine held_take (i := 2) (v := .pointer (some ⟨s.fb, 0, none⟩)) (some 23) rfl rfl (by kernel_rfl) (by kernel_rfl) (by kernel_rfl) (fun _ _ _ h => h) (Or.inl ⟨by rfl, fun W hW => by go_simp⟩) e0 ?_
            simp only [Act.put, List.setIfInBounds_toArray, List.set_cons_zero, List.set_cons_succ]
            refine held_take (i := 1) (v := .int .u32 (q : Int)) (some 22) rfl rfl (by kernel_rfl) (by kernel_rfl) (by kernel_rfl) (fun _ _ _ h => h) (Or.inl ⟨by rfl, fun W hW => by have hc := hW.2.2; go_simp⟩) e0 ?_
            simp only [Act.put, List.setIfInBounds_toArray, List.set_cons_zero, List.set_cons_succ]
            refine held_take (i := 3) (v := .pointer (some ⟨s.fb, 0, none⟩)) (some 24) rfl rfl (by kernel_rfl) (by kernel_rfl) (by kernel_rfl) (fun _ _ _ h => h) (Or.inl ⟨by rfl, fun W hW => by go_simp⟩) e0 ?_
            simp only [Act.put, List.setIfInBounds_toArray, List.set_cons_zero, List.set_cons_succ]
            refine held_take (i := 4) (v := .pointer (some ⟨s.fb, 6, none⟩)) (some 25) rfl rfl (by kernel_rfl) (by kernel_rfl) (by kernel_rfl) (fun _ _ _ h => h) (Or.inl ⟨by rfl, fun W hW => by go_simp⟩) e0 ?_
            simp only [Act.put, List.setIfInBounds_toArray, List.set_cons_zero, List.set_cons_succ]
            refine held_take (i := 5) (v := .int .u32 (x.rcv : Int)) (some 26) rfl rfl (by kernel_rfl) (by kernel_rfl) (by kernel_rfl) (fun _ _ _ h => h) (Or.inl ⟨by rfl, fun W hW => by have hc := hW.2.1; go_simp⟩) e0 ?_
            simp only [Act.put, List.setIfInBounds_toArray, List.set_cons_zero, List.set_cons_succ]
            refine held_take (i := 6) (v := .bool false) (some 27) rfl rfl (by kernel_rfl) (by kernel_rfl) (by kernel_rfl) (fun _ _ _ h => h) (Or.inl ⟨by rfl, fun W hW => by go_simp⟩) e0 ?_
            simp only [Act.put, List.setIfInBounds_toArray, List.set_cons_zero, List.set_cons_succ]
            refine held_take (i := 7) (v := .bool false) (some 28) rfl rfl (by kernel_rfl) (by kernel_rfl) (by kernel_rfl) (fun _ _ _ h => h) (Or.inl ⟨by rfl, fun W hW => by go_simp⟩) e0 ?_
            simp only [Act.put, List.setIfInBounds_toArray, List.set_cons_zero, List.set_cons_succ]
            refine held_take (i := 8) (v := undef) (some 29) rfl rfl (by kernel_rfl) (by kernel_rfl) (by kernel_rfl) (fun _ _ _ h => h) (Or.inr ⟨by rfl, by rfl⟩) e0 ?_
            simp only [Act.put, List.setIfInBounds_toArray, List.set_cons_zero, List.set_cons_succ]
            refine held_take (i := 9) (v := undef) (some 30) rfl rfl (by kernel_rfl) (by kernel_rfl) (by kernel_rfl) (fun _ _ _ h => h) (Or.inr ⟨by rfl, by rfl⟩) e0 ?_
            simp only [Act.put, List.setIfInBounds_toArray, List.set_cons_zero, List.set_cons_succ]
            refine held_take (i := 10) (v := .bool false) (some 31) rfl rfl (by kernel_rfl) (by kernel_rfl) (by kernel_rfl) (fun _ _ _ h => h) (Or.inl ⟨by rfl, fun W hW => by go_simp⟩) e0 ?_
            simp only [Act.put, List.setIfInBounds_toArray, List.set_cons_zero, List.set_cons_succ]
            refine wpAnyH_done (by kernel_rfl) ?_ _
            refine NoPanic.normal ?_
            clear e0
            have hfr : ¬ x.isFresh q := fun e => hqr e.1
            have htl : 0 < L ∨ bf q x.rcv = true := .inr hbf
            have i0 := HD1.out.fl.fa.c0
            dsimp only [F.fc] at i0
            unfold ptr at i0
            have HE := Lib.hid (HEn.out _ _ HD1.out.fl)
            have HT := Lib.hid (HTe.out _ _ HD1.out.fl rfl)
            go_wp2_with (first
              | (go_at_call 37; refine HE.out.mono ?_; rintro e wk ⟨rfl, rfl⟩)
              | (go_at_call 51; refine HT.out.mono ?_; rintro e wl ⟨rfl, ll⟩; have HL := Lib.hid ll; clear ll)
              | fail)
            go_end0
            have htk : x.takes q L false t = x := if_neg hfr
            have hdf : decide (x.isFresh q) = false := decide_eq_false hfr
            try rw [hdf]
            unfold F.hdata
            rw [if_pos htl, htk]
            exact ⟨rfl, HD1.out.tell HL.out, false, HL.out.own HD1.out.hd (by show 0 < 6; omega) HBT.out.1⟩
  · by_cases hlen : 0 < L
    · have hli : (0 : Int) < (L : Int) := by omega
      by_cases hqr : q = x.rcv
      · subst hqr
        by_cases htk : x.st = 3 ∨ x.st = 4 ∨ x.st = 5
        · have HTk : Hid (∀ (W : World) (y : F), Fl base W s y → y.st = x.st → Calls Try.prog 64 #[.pointer (some ⟨s.fb, 0, none⟩)] W fun e w' => e = .returned (.bool true) ∧ w' = W) := Lib.hid (fun W y f e => by have := HTk.out W y f; rw [show decide ((y.fc s.qb s.ov).st = 3 ∨ (y.fc s.qb s.ov).st = 4 ∨ (y.fc s.qb s.ov).st = 5) = true from decide_eq_true (by show y.st = 3 ∨ y.st = 4 ∨ y.st = 5; rw [e]; exact htk)] at this; exact this)
          as_aux_lemma =>
            go_enter Try.func44, Try.ntmps44
            go_wp2_with (first
              | ((with_reducible refine wpList_here ?_); refine wpList_boxV (o := ⟨some 5, _, _, _, _, _⟩) rfl 47 (.tmp 1) rfl (sgx x.rcv ak false kk true rr A n c) rfl _ rfl ?_; intro w1 z1 b1 s1; have HD1 : Hid (Dt base w s x hb w.heap.size (hv op false false false false v) (sgx x.rcv ak false kk true rr A n c) w1.drew) := Lib.hid ⟨H.out.below b1.drew, (Ch.of_below _ b1.drew), HD0.out.below b1.drew, z1⟩; clear b1 z1)
              | fail)
            generalize hwd : w1.drew = wd at *
            have hgs : w.heap.size ≠ s.fb ∧ w.heap.size ≠ hb := ⟨by omega, by omega⟩
            generalize hgz : w.heap.size = g at *
            have e0 : wd.rangeAt g 0 (sgx x.rcv ak false kk true rr A n c) ∧ wd.cell? ⟨s.fb, 6, none⟩ = some (.int .u32 (x.rcv : Int)) ∧ wd.cell? ⟨g, 4, none⟩ = some (.int .u32 (x.rcv : Int)) := ⟨HD1.out.bx.range, HD1.out.fl.fa.c6, (HD1.out.bx 4 (by rw [sgx_length]; omega)).1⟩
            refine wp_region_noPanic ?_
            refine wp_region_held_drew (S := fun W => W.rangeAt g 0 (sgx x.rcv ak false kk true rr A n c) ∧ W.cell? ⟨s.fb, 6, none⟩ = some (.int .u32 (x.rcv : Int)) ∧ W.cell? ⟨g, 4, none⟩ = some (.int .u32 (x.rcv : Int))) (by kernel_rfl) (by rw [hwd]; exact e0) (fun _ => ?_)
            rw [hwd]
            clear hwd
            refine held_take (i := 0) (v := .agg (sgx x.rcv ak false kk true rr A n c).toArray) (some 9) rfl rfl (by kernel_rfl) (by kernel_rfl) (by kernel_rfl) (fun _ _ _ h => h) (yieldsIf_load_mid (by rfl) 47 (.tmp 5) rfl _ _ rfl _ _ (fun W hW => hW.1) Try.underlying47 rfl infoSg) e0 ?_
            simp only [Act.put, List.setIfInBounds_toArray, List.set_cons_zero, List.set_cons_succ]
            refine wpAnyH_ready (rs := [1]) (by kernel_rfl) (by simp) ?_
            refine AllReadyH.cons rfl (fun K hK => ?_) AllReadyH.nil
            go_simp
            refine (HLg.out _).mono ?_
            rintro e w2 ⟨rfl, b2⟩
            have HD1 := Lib.hid (HD1.out.below b2)
            have e0 : w2.rangeAt g 0 (sgx x.rcv ak false kk true rr A n c) ∧ w2.cell? ⟨s.fb, 6, none⟩ = some (.int .u32 (x.rcv : Int)) ∧ w2.cell? ⟨g, 4, none⟩ = some (.int .u32 (x.rcv : Int)) := ⟨HD1.out.bx.range, HD1.out.fl.fa.c6, (HD1.out.bx 4 (by rw [sgx_length]; omega)).1⟩
            clear b2
            dsimp only
            refine hK.out _ _ e0 (fun _ => ?_)
            clear hK
            try simp only [Act.put, List.setIfInBounds_toArray, List.set_cons_zero, List.set_cons_succ]
            refine held_take (i := 2) (v := .bool true) (some 11) rfl rfl (by kernel_rfl) (by kernel_rfl) (by kernel_rfl) (fun _ _ _ h => h) (Or.inl ⟨by rfl, fun W hW => by go_simp⟩) e0 ?_
            simp only [Act.put, List.setIfInBounds_toArray, List.set_cons_zero, List.set_cons_succ]
            refine held_take (i := 3) (v := .bool true) (some 12) rfl rfl (by kernel_rfl) (by kernel_rfl) (by kernel_rfl) (fun _ _ _ h => h) (Or.inl ⟨by rfl, fun W hW => by go_simp⟩) e0 ?_
            simp only [Act.put, List.setIfInBounds_toArray, List.set_cons_zero, List.set_cons_succ]
            refine held_take (i := 4) (v := undef) (some 13) rfl rfl (by kernel_rfl) (by kernel_rfl) (by kernel_rfl) (fun _ _ _ h => h) (Or.inr ⟨by rfl, by rfl⟩) e0 ?_
            simp only [Act.put, List.setIfInBounds_toArray, List.set_cons_zero, List.set_cons_succ]
            refine held_take (i := 6) (v := undef) (some 15) rfl rfl (by kernel_rfl) (by kernel_rfl) (by kernel_rfl) (fun _ _ _ h => h) (Or.inr ⟨by rfl, by rfl⟩) e0 ?_
            simp only [Act.put, List.setIfInBounds_toArray, List.set_cons_zero, List.set_cons_succ]
            refine held_take (i := 5) (v := undef) (some 14) rfl rfl (by kernel_rfl) (by kernel_rfl) (by kernel_rfl) (fun _ _ _ h => h) (Or.inr ⟨by rfl, by rfl⟩) e0 ?_
            simp only [Act.put, List.setIfInBounds_toArray, List.set_cons_zero, List.set_cons_succ]
            refine held_take (i := 7) (v := undef) (some 16) rfl rfl (by kernel_rfl) (by kernel_rfl) (by kernel_rfl) (fun _ _ _ h => h) (Or.inr ⟨by rfl, by rfl⟩) e0 ?_
            simp only [Act.put, List.setIfInBounds_toArray, List.set_cons_zero, List.set_cons_succ]
            refine held_take (i := 8) (v := undef) (some 17) rfl rfl (by kernel_rfl) (by kernel_rfl) (by kernel_rfl) (fun _ _ _ h => h) (Or.inr ⟨by rfl, by rfl⟩) e0 ?_
            simp only [Act.put, List.setIfInBounds_toArray, List.set_cons_zero, List.set_cons_succ]
            refine held_take (i := 9) (v := undef) (some 18) rfl rfl (by kernel_rfl) (by kernel_rfl) (by kernel_rfl) (fun _ _ _ h => h) (Or.inr ⟨by rfl, by rfl⟩) e0 ?_
            simp only [Act.put, List.setIfInBounds_toArray, List.set_cons_zero, List.set_cons_succ]
            refine held_take (i := 10) (v := undef) (some 19) rfl rfl (by kernel_rfl) (by kernel_rfl) (by kernel_rfl) (fun _ _ _ h => h) (Or.inr ⟨by rfl, by rfl⟩) e0 ?_
            simp only [Act.put, List.setIfInBounds_toArray, List.set_cons_zero, List.set_cons_succ]
            refine held_take (i := 11) (v := .bool true) (some 20) rfl rfl (by kernel_rfl) (by kernel_rfl) (by kernel_rfl) (fun _ _ _ h => h) (Or.inl ⟨by rfl, fun W hW => by go_simp⟩) e0 ?_
            simp only [Act.put, List.setIfInBounds_toArray, List.set_cons_zero, List.set_cons_succ]
            refine held_take (i := 12) (v := .bool true) (some 8) rfl rfl (by kernel_rfl) (by kernel_rfl) (by kernel_rfl) (fun _ _ _ h => h) (Or.inl ⟨by rfl, fun W hW => by go_simp⟩) e0 ?_
            simp only [Act.put, List.setIfInBounds_toArray, List.set_cons_zero, List.set_cons_succ]
            refine wpAnyH_done (by kernel_rfl) ?_ _
            refine NoPanic.normal ?_
            go_wp2_with fail
            have HD1 := Lib.hid (HD1.out.below (Below.refl _ _).drew)
            have ex : w2.drew.rangeAt g 0 (sgx x.rcv ak false kk true rr A n c) ∧ w2.drew.cell? ⟨s.fb, 6, none⟩ = some (.int .u32 (x.rcv : Int)) ∧ w2.drew.cell? ⟨g, 4, none⟩ = some (.int .u32 (x.rcv : Int)) := ⟨HD1.out.bx.range, HD1.out.fl.fa.c6, (HD1.out.bx 4 (by rw [sgx_length]; omega)).1⟩
            clear e0
            have e0 := ex
            clear ex
            generalize hwd : w2.drew = we at *
            refine wp_region_noPanic ?_
            refine wp_region_held_drew (S := fun W => W.rangeAt g 0 (sgx x.rcv ak false kk true rr A n c) ∧ W.cell? ⟨s.fb, 6, none⟩ = some (.int .u32 (x.rcv : Int)) ∧ W.cell? ⟨g, 4, none⟩ = some (.int .u32 (x.rcv : Int))) (by kernel_rfl) (by rw [hwd]; exact e0) (fun _ => ?_)
            rw [hwd]
            clear hwd
            refine held_take (i := 0) (v := .pointer (some ⟨g, 4, none⟩)) (some 21) rfl rfl (by kernel_rfl) (by kernel_rfl) (by kernel_rfl) (fun _ _ _ h => h) (Or.inl ⟨by rfl, fun W hW => by go_simp⟩) e0 ?_
            simp only [Act.put, List.setIfInBounds_toArray, List.set_cons_zero, List.set_cons_succ]
            refine held_take (i := 2) (v := .pointer (some ⟨s.fb, 0, none⟩)) (some 23) rfl rfl (by kernel_rfl) (by kernel_rfl) (by kernel_rfl) (fun _ _ _ h => h) (Or.inl ⟨by rfl, fun W hW => by go_simp⟩) e0 ?_
            simp only [Act.put, List.setIfInBounds_toArray, List.set_cons_zero, List.set_cons_succ]
            refine held_take (i := 1) (v := .int .u32 (x.rcv : Int)) (some 22) rfl rfl (by kernel_rfl) (by kernel_rfl) (by kernel_rfl) (fun _ _ _ h => h) (Or.inl ⟨by rfl, fun W hW => by have hc := hW.2.2; go_simp⟩) e0 ?_
            simp only [Act.put, List.setIfInBounds_toArray, List.set_cons_zero, List.set_cons_succ]
            refine held_take (i := 3) (v := .pointer (some ⟨s.fb, 0, none⟩)) (some 24) rfl rfl (by kernel_rfl) (by kernel_rfl) (by kernel_rfl) (fun _ _ _ h => h) (Or.inl ⟨by rfl, fun W hW => by go_simp⟩) e0 ?_
            simp only [Act.put, List.setIfInBounds_toArray, List.set_cons_zero, List.set_cons_succ]
            refine held_take (i := 4) (v := .pointer (some ⟨s.fb, 6, none⟩)) (some 25) rfl rfl (by kernel_rfl) (by kernel_rfl) (by kernel_rfl) (fun _ _ _ h => h) (Or.inl ⟨by rfl, fun W hW => by go_simp⟩) e0 ?_
            simp only [Act.put, List.setIfInBounds_toArray, List.set_cons_zero, List.set_cons_succ]
            refine held_take (i := 5) (v := .int .u32 (x.rcv : Int)) (some 26) rfl rfl (by kernel_rfl) (by kernel_rfl) (by kernel_rfl) (fun _ _ _ h => h) (Or.inl ⟨by rfl, fun W hW => by have hc := hW.2.1; go_simp⟩) e0 ?_
            simp only [Act.put, List.setIfInBounds_toArray, List.set_cons_zero, List.set_cons_succ]
            refine held_take (i := 6) (v := .bool true) (some 27) rfl rfl (by kernel_rfl) (by kernel_rfl) (by kernel_rfl) (fun _ _ _ h => h) (Or.inl ⟨by rfl, fun W hW => by go_simp⟩) e0 ?_
            simp only [Act.put, List.setIfInBounds_toArray, List.set_cons_zero, List.set_cons_succ]
            refine held_take (i := 7) (v := .bool true) (some 28) rfl rfl (by kernel_rfl) (by kernel_rfl) (by kernel_rfl) (fun _ _ _ h => h) (Or.inl ⟨by rfl, fun W hW => by go_simp⟩) e0 ?_
            simp only [Act.put, List.setIfInBounds_toArray, List.set_cons_zero, List.set_cons_succ]
            refine held_take (i := 8) (v := .pointer (some ⟨s.fb, 0, none⟩)) (some 29) rfl rfl (by kernel_rfl) (by kernel_rfl) (by kernel_rfl) (fun _ _ _ h => h) (Or.inl ⟨by rfl, fun W hW => by go_simp⟩) e0 ?_
            simp only [Act.put, List.setIfInBounds_toArray, List.set_cons_zero, List.set_cons_succ]
            refine wpAnyH_ready (rs := [9]) (by kernel_rfl) (by simp) ?_
            refine AllReadyH.cons rfl (fun K hK => ?_) AllReadyH.nil
            go_simp
            refine (HTk.out _ _ HD1.out.fl rfl).mono ?_
            rintro e w4 ⟨rfl, hw4⟩
            obtain rfl : we = w4 := hw4.symm
            dsimp only
            refine hK.out _ _ e0 (fun _ => ?_)
            clear hK
            try simp only [Act.put, List.setIfInBounds_toArray, List.set_cons_zero, List.set_cons_succ]
            refine held_take (i := 10) (v := .bool true) (some 31) rfl rfl (by kernel_rfl) (by kernel_rfl) (by kernel_rfl) (fun _ _ _ h => h) (Or.inl ⟨by rfl, fun W hW => by go_simp⟩) e0 ?_
            simp only [Act.put, List.setIfInBounds_toArray, List.set_cons_zero, List.set_cons_succ]
            refine wpAnyH_done (by kernel_rfl) ?_ _
            refine NoPanic.normal ?_
            go_wp2_with fail
            have HD1 := Lib.hid (HD1.out.below (Below.refl _ _).drew)
            have i4 := (HD1.out.hd 4 (by show 4 < 6; omega))
            have i1 := (HD1.out.hd 1 (by show 1 < 6; omega))
            have e5 : we.drew.cell? ⟨hb, 4, none⟩ = some (.bool false) ∧ we.drew.frozen? ⟨hb, 4, none⟩ = false ∧ we.drew.cell? ⟨hb, 1, none⟩ = some (.bool false) ∧ we.drew.frozen? ⟨hb, 1, none⟩ = false ∧ we.drew.cell? ⟨g, 8, none⟩ = some (.bool true) := ⟨i4.1, i4.2, i1.1, i1.2, (HD1.out.bx 8 (by rw [sgx_length]; omega)).1⟩
            clear e0 i4 i1
            generalize hwd : we.drew = wf at *
            refine wp_region_noPanic ?_
            have e5 : (∃ b, wf.cell? ⟨hb, 4, none⟩ = some (.bool b)) ∧ wf.frozen? ⟨hb, 4, none⟩ = false ∧ (∃ b, wf.cell? ⟨hb, 1, none⟩ = some (.bool b)) ∧ wf.frozen? ⟨hb, 1, none⟩ = false ∧ wf.cell? ⟨g, 8, none⟩ = some (.bool true) := ⟨⟨_, e5.1⟩, e5.2.1, ⟨_, e5.2.2.1⟩, e5.2.2.2.1, e5.2.2.2.2⟩
            refine wp_region_held_drew (S := fun W => (∃ b, W.cell? ⟨hb, 4, none⟩ = some (.bool b)) ∧ W.frozen? ⟨hb, 4, none⟩ = false ∧ (∃ b, W.cell? ⟨hb, 1, none⟩ = some (.bool b)) ∧ W.frozen? ⟨hb, 1, none⟩ = false ∧ W.cell? ⟨g, 8, none⟩ = some (.bool true)) (by kernel_rfl) (by rw [hwd]; exact e5) (fun _ => ?_)
            rw [hwd]
            clear hwd
            refine held_take (i := 0) (v := .pointer (some ⟨hb, 0, none⟩)) (some 32) rfl rfl (by kernel_rfl) (by kernel_rfl) (by kernel_rfl) (fun _ _ _ h => h) (Or.inl ⟨by rfl, fun W hW => by go_simp⟩) e5 ?_
            simp only [Act.put, List.setIfInBounds_toArray, List.set_cons_zero, List.set_cons_succ]
            refine held_take (i := 1) (v := .pointer (some ⟨hb, 0, none⟩)) (some 33) rfl rfl (by kernel_rfl) (by kernel_rfl) (by kernel_rfl) (fun _ _ _ h => h) (Or.inl ⟨by rfl, fun W hW => by go_simp⟩) e5 ?_
            simp only [Act.put, List.setIfInBounds_toArray, List.set_cons_zero, List.set_cons_succ]
            refine held_take (i := 2) (v := .pointer (some ⟨g, 8, none⟩)) (some 34) rfl rfl (by kernel_rfl) (by kernel_rfl) (by kernel_rfl) (fun _ _ _ h => h) (Or.inl ⟨by rfl, fun W hW => by go_simp⟩) e5 ?_
            simp only [Act.put, List.setIfInBounds_toArray, List.set_cons_zero, List.set_cons_succ]
            refine held_take (i := 3) (v := .bool true) (some 35) rfl rfl (by kernel_rfl) (by kernel_rfl) (by kernel_rfl) (fun _ _ _ h => h) (Or.inl ⟨by rfl, fun W hW => by have hc := hW.2.2.2.2; go_simp⟩) e5 ?_
            simp only [Act.put, List.setIfInBounds_toArray, List.set_cons_zero, List.set_cons_succ]
            refine held_take (i := 4) (v := .pointer (some ⟨hb, 0, none⟩)) (some 36) rfl rfl (by kernel_rfl) (by kernel_rfl) (by kernel_rfl) (fun _ _ _ h => h) (Or.inl ⟨by rfl, fun W hW => by go_simp⟩) e5 ?_
            simp only [Act.put, List.setIfInBounds_toArray, List.set_cons_zero, List.set_cons_succ]
            refine held_take (i := 5) (v := .pointer (some ⟨hb, 4, none⟩)) (some 37) rfl rfl (by kernel_rfl) (by kernel_rfl) (by kernel_rfl) (fun _ _ _ h => h) (Or.inl ⟨by rfl, fun W hW => by go_simp⟩) e5 ?_
            simp only [Act.put, List.setIfInBounds_toArray, List.set_cons_zero, List.set_cons_succ]
            refine wpAnyH_ready (rs := [6]) (by kernel_rfl) (by simp) ?_
            refine AllReadyH.cons rfl (fun K hK => ?_) AllReadyH.nil
            obtain ⟨b4, c4⟩ := e5.1
            have f4 := e5.2.1
            go_simp
            have HD6 := Lib.hid (HD1.out.hear (by rw [sgx_length]; omega) HBT.out.1 hgs.2 4 (by show 4 < 6; omega) (.bool true))
            have e6 : (∃ b, (wf.setCell ⟨hb, 4, none⟩ (.bool true)).cell? ⟨hb, 4, none⟩ = some (.bool b)) ∧ (wf.setCell ⟨hb, 4, none⟩ (.bool true)).frozen? ⟨hb, 4, none⟩ = false ∧ (∃ b, (wf.setCell ⟨hb, 4, none⟩ (.bool true)).cell? ⟨hb, 1, none⟩ = some (.bool b)) ∧ (wf.setCell ⟨hb, 4, none⟩ (.bool true)).frozen? ⟨hb, 1, none⟩ = false ∧ (wf.setCell ⟨hb, 4, none⟩ (.bool true)).cell? ⟨g, 8, none⟩ = some (.bool true) := ⟨⟨_, (HD6.out.hd 4 (by show 4 < 6; omega)).1⟩, (HD6.out.hd 4 (by show 4 < 6; omega)).2, ⟨_, (HD6.out.hd 1 (by show 1 < 6; omega)).1⟩, (HD6.out.hd 1 (by show 1 < 6; omega)).2, (HD6.out.bx 8 (by rw [sgx_length]; omega)).1⟩
            clear c4 f4
            refine hK.out _ _ e6 (fun _ => ?_)
            clear hK
            try simp only [Act.put, List.setIfInBounds_toArray, List.set_cons_zero, List.set_cons_succ]
            refine held_take (i := 7) (v := .pointer (some ⟨hb, 0, none⟩)) (some 38) rfl rfl (by kernel_rfl) (by kernel_rfl) (by kernel_rfl) (fun _ _ _ h => h) (Or.inl ⟨by rfl, fun W hW => by go_simp⟩) e6 ?_
            simp only [Act.put, List.setIfInBounds_toArray, List.set_cons_zero, List.set_cons_succ]
            refine held_take (i := 8) (v := .pointer (some ⟨hb, 1, none⟩)) (some 39) rfl rfl (by kernel_rfl) (by kernel_rfl) (by kernel_rfl) (fun _ _ _ h => h) (Or.inl ⟨by rfl, fun W hW => by go_simp⟩) e6 ?_
            simp only [Act.put, List.setIfInBounds_toArray, List.set_cons_zero, List.set_cons_succ]
            refine wpAnyH_ready (rs := [9]) (by kernel_rfl) (by simp) ?_
            refine AllReadyH.cons rfl (fun K hK => ?_) AllReadyH.nil
            obtain ⟨b1, c1⟩ := e6.2.2.1
            have f1 := e6.2.2.2.1
            go_simp
            have HD7 := Lib.hid (HD6.out.hear (by rw [sgx_length]; omega) HBT.out.1 hgs.2 1 (by show 1 < 6; omega) (.bool true))
            have e7 : (∃ b, ((wf.setCell ⟨hb, 4, none⟩ (.bool true)).setCell ⟨hb, 1, none⟩ (.bool true)).cell? ⟨hb, 4, none⟩ = some (.bool b)) ∧ ((wf.setCell ⟨hb, 4, none⟩ (.bool true)).setCell ⟨hb, 1, none⟩ (.bool true)).frozen? ⟨hb, 4, none⟩ = false ∧ (∃ b, ((wf.setCell ⟨hb, 4, none⟩ (.bool true)).setCell ⟨hb, 1, none⟩ (.bool true)).cell? ⟨hb, 1, none⟩ = some (.bool b)) ∧ ((wf.setCell ⟨hb, 4, none⟩ (.bool true)).setCell ⟨hb, 1, none⟩ (.bool true)).frozen? ⟨hb, 1, none⟩ = false ∧ ((wf.setCell ⟨hb, 4, none⟩ (.bool true)).setCell ⟨hb, 1, none⟩ (.bool true)).cell? ⟨g, 8, none⟩ = some (.bool true) := ⟨⟨_, (HD7.out.hd 4 (by show 4 < 6; omega)).1⟩, (HD7.out.hd 4 (by show 4 < 6; omega)).2, ⟨_, (HD7.out.hd 1 (by show 1 < 6; omega)).1⟩, (HD7.out.hd 1 (by show 1 < 6; omega)).2, (HD7.out.bx 8 (by rw [sgx_length]; omega)).1⟩
            clear c1 f1
            refine hK.out _ _ e7 (fun _ => ?_)
            clear hK
            try simp only [Act.put, List.setIfInBounds_toArray, List.set_cons_zero, List.set_cons_succ]
            refine wpAnyH_done (by kernel_rfl) ?_ _
            refine NoPanic.normal ?_
            have HD7 : Hid (Dt base w s x hb g (hv op true false false true v) (sgx x.rcv ak false kk true rr A n c) ((wf.setCell ⟨hb, 4, none⟩ (.bool true)).setCell ⟨hb, 1, none⟩ (.bool true))) := Lib.hid HD7.out
            clear e5 e6 e7 HD6 HD1
            generalize (wf.setCell ⟨hb, 4, none⟩ (.bool true)).setCell ⟨hb, 1, none⟩ (.bool true) = wg at *
            go_wp2_with fail
            have HD1 := Lib.hid (HD7.out.below (Below.refl _ _).drew)
            clear HD7
            have e0 : wg.drew.rangeAt g 0 (sgx x.rcv ak false kk true rr A n c) ∧ wg.drew.cell? ⟨s.fb, 6, none⟩ = some (.int .u32 (x.rcv : Int)) ∧ wg.drew.cell? ⟨g, 4, none⟩ = some (.int .u32 (x.rcv : Int)) := ⟨HD1.out.bx.range, HD1.out.fl.fa.c6, (HD1.out.bx 4 (by rw [sgx_length]; omega)).1⟩
            have e9 : wg.drew.frozen? ⟨s.fb, 6, none⟩ = false := HD1.out.fl.fa.fz 6
            generalize hwd : wg.drew = wh at *
            refine wp_region_noPanic ?_
            refine until_start (fun W => W.rangeAt g 0 (sgx x.rcv ak false kk true rr A n c) ∧ W.cell? ⟨s.fb, 6, none⟩ = some (.int .u32 (x.rcv : Int)) ∧ W.cell? ⟨g, 4, none⟩ = some (.int .u32 (x.rcv : Int))) 10 (by kernel_rfl) (by rw [hwd]; exact e0) (fun _ => ?_)
            rw [hwd]
            clear hwd
            refine until_take (i := 0) (v := .pointer (some ⟨s.fb, 0, none⟩)) (some 40) [10] rfl rfl (by kernel_rfl) (by kernel_rfl) (by kernel_rfl) (by kernel_rfl) rfl rfl (fun _ _ _ h => h) (Or.inl ⟨by rfl, fun W hW => by go_simp⟩) e0 ?_
            simp only [Act.put, List.setIfInBounds_toArray, List.set_cons_zero, List.set_cons_succ]
            refine until_take (i := 1) (v := .pointer (some ⟨s.fb, 0, none⟩)) (some 41) [10] rfl rfl (by kernel_rfl) (by kernel_rfl) (by kernel_rfl) (by kernel_rfl) rfl rfl (fun _ _ _ h => h) (Or.inl ⟨by rfl, fun W hW => by go_simp⟩) e0 ?_
            simp only [Act.put, List.setIfInBounds_toArray, List.set_cons_zero, List.set_cons_succ]
            refine until_take (i := 5) (v := .agg (sgx x.rcv ak false kk true rr A n c).toArray) (some 45) [10] rfl rfl (by kernel_rfl) (by kernel_rfl) (by kernel_rfl) (by kernel_rfl) rfl rfl (fun _ _ _ h => h) (yieldsIf_load_mid (by rfl) 47 (.tmp 5) rfl _ _ rfl _ _ (fun W hW => hW.1) Try.underlying47 rfl infoSg) e0 ?_
            simp only [Act.put, List.setIfInBounds_toArray, List.set_cons_zero, List.set_cons_succ]
            refine until_take (i := 2) (v := .pointer (some ⟨s.fb, 0, none⟩)) (some 42) [10] rfl rfl (by kernel_rfl) (by kernel_rfl) (by kernel_rfl) (by kernel_rfl) rfl rfl (fun _ _ _ h => h) (Or.inl ⟨by rfl, fun W hW => by go_simp⟩) e0 ?_
            simp only [Act.put, List.setIfInBounds_toArray, List.set_cons_zero, List.set_cons_succ]
            refine until_take (i := 3) (v := .pointer (some ⟨s.fb, 6, none⟩)) (some 43) [10] rfl rfl (by kernel_rfl) (by kernel_rfl) (by kernel_rfl) (by kernel_rfl) rfl rfl (fun _ _ _ h => h) (Or.inl ⟨by rfl, fun W hW => by go_simp⟩) e0 ?_
            simp only [Act.put, List.setIfInBounds_toArray, List.set_cons_zero, List.set_cons_succ]
            refine until_take (i := 4) (v := .int .u32 (x.rcv : Int)) (some 44) [10] rfl rfl (by kernel_rfl) (by kernel_rfl) (by kernel_rfl) (by kernel_rfl) rfl rfl (fun _ _ _ h => h) (Or.inl ⟨by rfl, fun W hW => by have hc := hW.2.1; go_simp⟩) e0 ?_
            simp only [Act.put, List.setIfInBounds_toArray, List.set_cons_zero, List.set_cons_succ]
            refine until_step (i := 6) (by kernel_rfl) rfl rfl (fun K hK => ?_)
            go_simp
            refine (HLg.out _).mono ?_
            rintro e w5 ⟨rfl, b5⟩
            have HD1 := Lib.hid (HD1.out.below b5)
            have e0 : w5.rangeAt g 0 (sgx x.rcv ak false kk true rr A n c) ∧ w5.cell? ⟨s.fb, 6, none⟩ = some (.int .u32 (x.rcv : Int)) ∧ w5.cell? ⟨g, 4, none⟩ = some (.int .u32 (x.rcv : Int)) := ⟨HD1.out.bx.range, HD1.out.fl.fa.c6, (HD1.out.bx 4 (by rw [sgx_length]; omega)).1⟩
            clear b5
            dsimp only
            refine hK.out _ _ e0 (fun _ => ?_)
            clear hK
            try simp only [Act.put, List.setIfInBounds_toArray, List.set_cons_zero, List.set_cons_succ]
            refine until_step (i := 7) (by kernel_rfl) rfl rfl (fun K hK => ?_)
            go_simp
            refine (HON.out (L) _ (by omega)).mono ?_
            rintro e w6 ⟨rfl, b6⟩
            have HD1 := Lib.hid (HD1.out.below b6)
            have e0 : w6.rangeAt g 0 (sgx x.rcv ak false kk true rr A n c) ∧ w6.cell? ⟨s.fb, 6, none⟩ = some (.int .u32 (x.rcv : Int)) ∧ w6.cell? ⟨g, 4, none⟩ = some (.int .u32 (x.rcv : Int)) := ⟨HD1.out.bx.range, HD1.out.fl.fa.c6, (HD1.out.bx 4 (by rw [sgx_length]; omega)).1⟩
            have f6 := HD1.out.fl.fa.fz 6
            have c6 := e0.2.1
            clear b6
            dsimp only
            refine hK.out _ _ e0 (fun _ => ?_)
            clear hK
            try simp only [Act.put, List.setIfInBounds_toArray, List.set_cons_zero, List.set_cons_succ]
            refine until_take (i := 8) (v := .pointer (some ⟨s.fb, 0, none⟩)) (some 48) [9, 10] rfl rfl (by kernel_rfl) (by kernel_rfl) (by kernel_rfl) (by kernel_rfl) rfl rfl (fun _ _ _ h => h) (Or.inl ⟨by rfl, fun W hW => by go_simp⟩) e0 ?_
            simp only [Act.put, List.setIfInBounds_toArray, List.set_cons_zero, List.set_cons_succ]
            refine until_take (i := 9) (v := .pointer (some ⟨s.fb, 6, none⟩)) (some 49) [10] rfl rfl (by kernel_rfl) (by kernel_rfl) (by kernel_rfl) (by kernel_rfl) rfl rfl (fun _ _ _ h => h) (Or.inl ⟨by rfl, fun W hW => by go_simp⟩) e0 ?_
            simp only [Act.put, List.setIfInBounds_toArray, List.set_cons_zero, List.set_cons_succ]
            refine until_last (by kernel_rfl) rfl (fun K hK => ?_)
            go_simp
            have h8 := HD1.out.fl.rcvd_ (on_lt x.rcv (L : Int))
            have HD8 := Lib.hid (HD1.out.did (by show 0 < 6; omega) (by rw [sgx_length]; omega) hne hgs.1 h8.1 h8.2)
            have e8 : True := trivial
            clear h8
            refine hK.out _ _ ?_
            clear hK
            try simp only [Act.put, List.setIfInBounds_toArray, List.set_cons_zero, List.set_cons_succ]
            refine wpAnyH_done (by kernel_rfl) ?_ _
            refine NoPanic.normal ?_
            clear e0 e9 f6 c6 HD1
            generalize w6.setCell ⟨s.fb, 6, none⟩ (.int .u32 (on x.rcv (L : Int) : Nat)) = wi at *
            have i8 : wi.cell? ⟨g, 8, none⟩ = some (.bool true) := (HD8.out.bx 8 (by rw [sgx_length]; omega)).1
            have HX := Lib.hid (HFc.out _ _ HD8.out.fl)
            have hfr : x.isFresh x.rcv := ⟨rfl, htk⟩
            have htl : 0 < L ∨ bf x.rcv x.rcv = true := .inl hlen
            go_wp2_with (first
              | (go_at_call 65; refine HX.out.mono ?_; rintro e wj dj; obtain rfl := dj.1; have hj := HD8.out.fl.finc_ dj; have HD9 := Lib.hid (HD8.out.did (by show 0 < 6; omega) (by rw [sgx_length]; omega) hne hgs.1 hj.1 hj.2); have i0 := HD9.out.fl.fa.c0; dsimp only [F.fc] at i0; unfold ptr at i0; have HE := Lib.hid (HEn.out _ _ HD9.out.fl); have hte := HTe.out _ _ HD9.out.fl (finc_same _ _).2.2.2.1; rw [(finc_same _ _).2.2.1] at hte; have HT := Lib.hid hte; have hee := HE.out; rw [(finc_same _ _).2.2.1] at hee; have HE := Lib.hid hee; clear hte hee; clear dj hj)
              | (go_at_call 37; refine HE.out.mono ?_; rintro e wk ⟨rfl, rfl⟩)
              | (go_at_call 51; refine HT.out.mono ?_; rintro e wl ⟨rfl, ll⟩; have HL := Lib.hid ll; clear ll)
              | fail)
            go_end0
            have htk : x.takes x.rcv L true t = ((x.rcvd (on x.rcv (L : Int))).finc t) := by unfold F.takes; rw [if_pos hfr]; exact if_pos rfl
            have hdf : decide (x.isFresh x.rcv) = true := decide_eq_true hfr
            try rw [hdf]
            unfold F.hdata
            rw [if_pos htl, htk]
            exact ⟨rfl, HD9.out.tell HL.out, true, HL.out.own HD9.out.hd (by show 0 < 6; omega) HBT.out.1⟩
        · have HTk : Hid (∀ (W : World) (y : F), Fl base W s y → y.st = x.st → Calls Try.prog 64 #[.pointer (some ⟨s.fb, 0, none⟩)] W fun e w' => e = .returned (.bool false) ∧ w' = W) := Lib.hid (fun W y f e => by have := HTk.out W y f; rw [show decide ((y.fc s.qb s.ov).st = 3 ∨ (y.fc s.qb s.ov).st = 4 ∨ (y.fc s.qb s.ov).st = 5) = false from decide_eq_false (by show ¬ (y.st = 3 ∨ y.st = 4 ∨ y.st = 5); rw [e]; exact htk)] at this; exact this)
          as_aux_lemma =>
            go_enter Try.func44, Try.ntmps44
            go_wp2_with (first
              | ((with_reducible refine wpList_here ?_); refine wpList_boxV (o := ⟨some 5, _, _, _, _, _⟩) rfl 47 (.tmp 1) rfl (sgx x.rcv ak false kk true rr A n c) rfl _ rfl ?_; intro w1 z1 b1 s1; have HD1 : Hid (Dt base w s x hb w.heap.size (hv op false false false false v) (sgx x.rcv ak false kk true rr A n c) w1.drew) := Lib.hid ⟨H.out.below b1.drew, (Ch.of_below _ b1.drew), HD0.out.below b1.drew, z1⟩; clear b1 z1)
              | fail)
            generalize hwd : w1.drew = wd at *
            have hgs : w.heap.size ≠ s.fb ∧ w.heap.size ≠ hb := ⟨by omega, by omega⟩
            generalize hgz : w.heap.size = g at *
            have e0 : wd.rangeAt g 0 (sgx x.rcv ak false kk true rr A n c) ∧ wd.cell? ⟨s.fb, 6, none⟩ = some (.int .u32 (x.rcv : Int)) ∧ wd.cell? ⟨g, 4, none⟩ = some (.int .u32 (x.rcv : Int)) := ⟨HD1.out.bx.range, HD1.out.fl.fa.c6, (HD1.out.bx 4 (by rw [sgx_length]; omega)).1⟩
            refine wp_region_noPanic ?_
            refine wp_region_held_drew (S := fun W => W.rangeAt g 0 (sgx x.rcv ak false kk true rr A n c) ∧ W.cell? ⟨s.fb, 6, none⟩ = some (.int .u32 (x.rcv : Int)) ∧ W.cell? ⟨g, 4, none⟩ = some (.int .u32 (x.rcv : Int))) (by kernel_rfl) (by rw [hwd]; exact e0) (fun _ => ?_)
            rw [hwd]
            clear hwd
            refine held_take (i := 0) (v := .agg (sgx x.rcv ak false kk true rr A n c).toArray) (some 9) rfl rfl (by kernel_rfl) (by kernel_rfl) (by kernel_rfl) (fun _ _ _ h => h) (yieldsIf_load_mid (by rfl) 47 (.tmp 5) rfl _ _ rfl _ _ (fun W hW => hW.1) Try.underlying47 rfl infoSg) e0 ?_
            simp only [Act.put, List.setIfInBounds_toArray, List.set_cons_zero, List.set_cons_succ]
            refine wpAnyH_ready (rs := [1]) (by kernel_rfl) (by simp) ?_
            refine AllReadyH.cons rfl (fun K hK => ?_) AllReadyH.nil
            go_simp
            refine (HLg.out _).mono ?_
            rintro e w2 ⟨rfl, b2⟩
            have HD1 := Lib.hid (HD1.out.below b2)
            have e0 : w2.rangeAt g 0 (sgx x.rcv ak false kk true rr A n c) ∧ w2.cell? ⟨s.fb, 6, none⟩ = some (.int .u32 (x.rcv : Int)) ∧ w2.cell? ⟨g, 4, none⟩ = some (.int .u32 (x.rcv : Int)) := ⟨HD1.out.bx.range, HD1.out.fl.fa.c6, (HD1.out.bx 4 (by rw [sgx_length]; omega)).1⟩
            clear b2
            dsimp only
            refine hK.out _ _ e0 (fun _ => ?_)
            clear hK
            try simp only [Act.put, List.setIfInBounds_toArray, List.set_cons_zero, List.set_cons_succ]
            refine held_take (i := 2) (v := .bool true) (some 11) rfl rfl (by kernel_rfl) (by kernel_rfl) (by kernel_rfl) (fun _ _ _ h => h) (Or.inl ⟨by rfl, fun W hW => by go_simp⟩) e0 ?_
            simp only [Act.put, List.setIfInBounds_toArray, List.set_cons_zero, List.set_cons_succ]
            refine held_take (i := 3) (v := .bool true) (some 12) rfl rfl (by kernel_rfl) (by kernel_rfl) (by kernel_rfl) (fun _ _ _ h => h) (Or.inl ⟨by rfl, fun W hW => by go_simp⟩) e0 ?_
            simp only [Act.put, List.setIfInBounds_toArray, List.set_cons_zero, List.set_cons_succ]
            refine held_take (i := 4) (v := undef) (some 13) rfl rfl (by kernel_rfl) (by kernel_rfl) (by kernel_rfl) (fun _ _ _ h => h) (Or.inr ⟨by rfl, by rfl⟩) e0 ?_
            simp only [Act.put, List.setIfInBounds_toArray, List.set_cons_zero, List.set_cons_succ]
            refine held_take (i := 6) (v := undef) (some 15) rfl rfl (by kernel_rfl) (by kernel_rfl) (by kernel_rfl) (fun _ _ _ h => h) (Or.inr ⟨by rfl, by rfl⟩) e0 ?_
            simp only [Act.put, List.setIfInBounds_toArray, List.set_cons_zero, List.set_cons_succ]
            refine held_take (i := 5) (v := undef) (some 14) rfl rfl (by kernel_rfl) (by kernel_rfl) (by kernel_rfl) (fun _ _ _ h => h) (Or.inr ⟨by rfl, by rfl⟩) e0 ?_
            simp only [Act.put, List.setIfInBounds_toArray, List.set_cons_zero, List.set_cons_succ]
            refine held_take (i := 7) (v := undef) (some 16) rfl rfl (by kernel_rfl) (by kernel_rfl) (by kernel_rfl) (fun _ _ _ h => h) (Or.inr ⟨by rfl, by rfl⟩) e0 ?_
            simp only [Act.put, List.setIfInBounds_toArray, List.set_cons_zero, List.set_cons_succ]
            refine held_take (i := 8) (v := undef) (some 17) rfl rfl (by kernel_rfl) (by kernel_rfl) (by kernel_rfl) (fun _ _ _ h => h) (Or.inr ⟨by rfl, by rfl⟩) e0 ?_
            simp only [Act.put, List.setIfInBounds_toArray, List.set_cons_zero, List.set_cons_succ]
            refine held_take (i := 9) (v := undef) (some 18) rfl rfl (by kernel_rfl) (by kernel_rfl) (by kernel_rfl) (fun _ _ _ h => h) (Or.inr ⟨by rfl, by rfl⟩) e0 ?_
            simp only [Act.put, List.setIfInBounds_toArray, List.set_cons_zero, List.set_cons_succ]
            refine held_take (i := 10) (v := undef) (some 19) rfl rfl (by kernel_rfl) (by kernel_rfl) (by kernel_rfl) (fun _ _ _ h => h) (Or.inr ⟨by rfl, by rfl⟩) e0 ?_
            simp only [Act.put, List.setIfInBounds_toArray, List.set_cons_zero, List.set_cons_succ]
            refine held_take (i := 11) (v := .bool true) (some 20) rfl rfl (by kernel_rfl) (by kernel_rfl) (by kernel_rfl) (fun _ _ _ h => h) (Or.inl ⟨by rfl, fun W hW => by go_simp⟩) e0 ?_
            simp only [Act.put, List.setIfInBounds_toArray, List.set_cons_zero, List.set_cons_succ]
            refine held_take (i := 12) (v := .bool true) (some 8) rfl rfl (by kernel_rfl) (by kernel_rfl) (by kernel_rfl) (fun _ _ _ h => h) (Or.inl ⟨by rfl, fun W hW => by go_simp⟩) e0 ?_
            simp only [Act.put, List.setIfInBounds_toArray, List.set_cons_zero, List.set_cons_succ]
            refine wpAnyH_done (by kernel_rfl) ?_ _
            refine NoPanic.normal ?_
            go_wp2_with fail
            have HD1 := Lib.hid (HD1.out.below (Below.refl _ _).drew)
            have ex : w2.drew.rangeAt g 0 (sgx x.rcv ak false kk true rr A n c) ∧ w2.drew.cell? ⟨s.fb, 6, none⟩ = some (.int .u32 (x.rcv : Int)) ∧ w2.drew.cell? ⟨g, 4, none⟩ = some (.int .u32 (x.rcv : Int)) := ⟨HD1.out.bx.range, HD1.out.fl.fa.c6, (HD1.out.bx 4 (by rw [sgx_length]; omega)).1⟩
            clear e0
            have e0 := ex
            clear ex
            generalize hwd : w2.drew = we at *
            refine wp_region_noPanic ?_
            refine wp_region_held_drew (S := fun W => W.rangeAt g 0 (sgx x.rcv ak false kk true rr A n c) ∧ W.cell? ⟨s.fb, 6, none⟩ = some (.int .u32 (x.rcv : Int)) ∧ W.cell? ⟨g, 4, none⟩ = some (.int .u32 (x.rcv : Int))) (by kernel_rfl) (by rw [hwd]; exact e0) (fun _ => ?_)
            rw [hwd]
            clear hwd
            refine held_take (i := 0) (v := .pointer (some ⟨g, 4, none⟩)) (some 21) rfl rfl (by kernel_rfl) (by kernel_rfl) (by kernel_rfl) (fun _ _ _ h => h) (Or.inl ⟨by rfl, fun W hW => by go_simp⟩) e0 ?_
            simp only [Act.put, List.setIfInBounds_toArray, List.set_cons_zero, List.set_cons_succ]
            refine held_take (i := 2) (v := .pointer (some ⟨s.fb, 0, none⟩)) (some 23) rfl rfl (by kernel_rfl) (by kernel_rfl) (by kernel_rfl) (fun _ _ _ h => h) (Or.inl ⟨by rfl, fun W hW => by go_simp⟩) e0 ?_
            simp only [Act.put, List.setIfInBounds_toArray, List.set_cons_zero, List.set_cons_succ]
            refine held_take (i := 1) (v := .int .u32 (x.rcv : Int)) (some 22) rfl rfl (by kernel_rfl) (by kernel_rfl) (by kernel_rfl) (fun _ _ _ h => h) (Or.inl ⟨by rfl, fun W hW => by have hc := hW.2.2; go_simp⟩) e0 ?_
            simp only [Act.put, List.setIfInBounds_toArray, List.set_cons_zero, List.set_cons_succ]
            refine held_take (i := 3) (v := .pointer (some ⟨s.fb, 0, none⟩)) (some 24) rfl rfl (by kernel_rfl) (by kernel_rfl) (by kernel_rfl) (fun _ _ _ h => h) (Or.inl ⟨by rfl, fun W hW => by go_simp⟩) e0 ?_
            simp only [Act.put, List.setIfInBounds_toArray, List.set_cons_zero, List.set_cons_succ]
            refine held_take (i := 4) (v := .pointer (some ⟨s.fb, 6, none⟩)) (some 25) rfl rfl (by kernel_rfl) (by kernel_rfl) (by kernel_rfl) (fun _ _ _ h => h) (Or.inl ⟨by rfl, fun W hW => by go_simp⟩) e0 ?_
            simp only [Act.put, List.setIfInBounds_toArray, List.set_cons_zero, List.set_cons_succ]
            refine held_take (i := 5) (v := .int .u32 (x.rcv : Int)) (some 26) rfl rfl (by kernel_rfl) (by kernel_rfl) (by kernel_rfl) (fun _ _ _ h => h) (Or.inl ⟨by rfl, fun W hW => by have hc := hW.2.1; go_simp⟩) e0 ?_
            simp only [Act.put, List.setIfInBounds_toArray, List.set_cons_zero, List.set_cons_succ]
            refine held_take (i := 6) (v := .bool true) (some 27) rfl rfl (by kernel_rfl) (by kernel_rfl) (by kernel_rfl) (fun _ _ _ h => h) (Or.inl ⟨by rfl, fun W hW => by go_simp⟩) e0 ?_
            simp only [Act.put, List.setIfInBounds_toArray, List.set_cons_zero, List.set_cons_succ]
            refine held_take (i := 7) (v := .bool true) (some 28) rfl rfl (by kernel_rfl) (by kernel_rfl) (by kernel_rfl) (fun _ _ _ h => h) (Or.inl ⟨by rfl, fun W hW => by go_simp⟩) e0 ?_
            simp only [Act.put, List.setIfInBounds_toArray, List.set_cons_zero, List.set_cons_succ]
            refine held_take (i := 8) (v := .pointer (some ⟨s.fb, 0, none⟩)) (some 29) rfl rfl (by kernel_rfl) (by kernel_rfl) (by kernel_rfl) (fun _ _ _ h => h) (Or.inl ⟨by rfl, fun W hW => by go_simp⟩) e0 ?_
            simp only [Act.put, List.setIfInBounds_toArray, List.set_cons_zero, List.set_cons_succ]
            refine wpAnyH_ready (rs := [9]) (by kernel_rfl) (by simp) ?_
            refine AllReadyH.cons rfl (fun K hK => ?_) AllReadyH.nil
            go_simp
            refine (HTk.out _ _ HD1.out.fl rfl).mono ?_
            rintro e w4 ⟨rfl, hw4⟩
            obtain rfl : we = w4 := hw4.symm
            dsimp only
            refine hK.out _ _ e0 (fun _ => ?_)
            clear hK
            try simp only [Act.put, List.setIfInBounds_toArray, List.set_cons_zero, List.set_cons_succ]
            refine held_take (i := 10) (v := .bool false) (some 31) rfl rfl (by kernel_rfl) (by kernel_rfl) (by kernel_rfl) (fun _ _ _ h => h) (Or.inl ⟨by rfl, fun W hW => by go_simp⟩) e0 ?_
            simp only [Act.put, List.setIfInBounds_toArray, List.set_cons_zero, List.set_cons_succ]
            refine wpAnyH_done (by kernel_rfl) ?_ _
            refine NoPanic.normal ?_
            clear e0
            have hfr : ¬ x.isFresh x.rcv := fun e => htk e.2
            have htl : 0 < L ∨ bf x.rcv x.rcv = true := .inl hlen
            have i0 := HD1.out.fl.fa.c0
            dsimp only [F.fc] at i0
            unfold ptr at i0
            have HE := Lib.hid (HEn.out _ _ HD1.out.fl)
            have HT := Lib.hid (HTe.out _ _ HD1.out.fl rfl)
            go_wp2_with (first
              | (go_at_call 37; refine HE.out.mono ?_; rintro e wk ⟨rfl, rfl⟩)
              | (go_at_call 51; refine HT.out.mono ?_; rintro e wl ⟨rfl, ll⟩; have HL := Lib.hid ll; clear ll)
              | fail)
            go_end0
            have htk : x.takes x.rcv L true t = x := if_neg hfr
            have hdf : decide (x.isFresh x.rcv) = false := decide_eq_false hfr
            try rw [hdf]
            unfold F.hdata
            rw [if_pos htl, htk]
            exact ⟨rfl, HD1.out.tell HL.out, false, HL.out.own HD1.out.hd (by show 0 < 6; omega) HBT.out.1⟩
      · have n3 : ((q : Int) == (x.rcv : Int)) = false := by rw [beq_eq_false_iff_ne]; omega
        have n4 : ¬ (q : Int) = (x.rcv : Int) := by omega
        as_aux_lemma =>
          go_enter Try.func44, Try.ntmps44
          go_wp2_with (first
            | ((with_reducible refine wpList_here ?_); refine wpList_boxV (o := ⟨some 5, _, _, _, _, _⟩) rfl 47 (.tmp 1) rfl (sgx q ak false kk true rr A n c) rfl _ rfl ?_; intro w1 z1 b1 s1; have HD1 : Hid (Dt base w s x hb w.heap.size (hv op false false false false v) (sgx q ak false kk true rr A n c) w1.drew) := Lib.hid ⟨H.out.below b1.drew, (Ch.of_below _ b1.drew), HD0.out.below b1.drew, z1⟩; clear b1 z1)
            | fail)
          generalize hwd : w1.drew = wd at *
          have hgs : w.heap.size ≠ s.fb ∧ w.heap.size ≠ hb := ⟨by omega, by omega⟩
          generalize hgz : w.heap.size = g at *
          have e0 : wd.rangeAt g 0 (sgx q ak false kk true rr A n c) ∧ wd.cell? ⟨s.fb, 6, none⟩ = some (.int .u32 (x.rcv : Int)) ∧ wd.cell? ⟨g, 4, none⟩ = some (.int .u32 (q : Int)) := ⟨HD1.out.bx.range, HD1.out.fl.fa.c6, (HD1.out.bx 4 (by rw [sgx_length]; omega)).1⟩
          refine wp_region_noPanic ?_
          refine wp_region_held_drew (S := fun W => W.rangeAt g 0 (sgx q ak false kk true rr A n c) ∧ W.cell? ⟨s.fb, 6, none⟩ = some (.int .u32 (x.rcv : Int)) ∧ W.cell? ⟨g, 4, none⟩ = some (.int .u32 (q : Int))) (by kernel_rfl) (by rw [hwd]; exact e0) (fun _ => ?_)
          rw [hwd]
          clear hwd
          refine held_take (i := 0) (v := .agg (sgx q ak false kk true rr A n c).toArray) (some 9) rfl rfl (by kernel_rfl) (by kernel_rfl) (by kernel_rfl) (fun _ _ _ h => h) (yieldsIf_load_mid (by rfl) 47 (.tmp 5) rfl _ _ rfl _ _ (fun W hW => hW.1) Try.underlying47 rfl infoSg) e0 ?_
          simp only [Act.put, List.setIfInBounds_toArray, List.set_cons_zero, List.set_cons_succ]
          refine wpAnyH_ready (rs := [1]) (by kernel_rfl) (by simp) ?_
          refine AllReadyH.cons rfl (fun K hK => ?_) AllReadyH.nil
          go_simp
          refine (HLg.out _).mono ?_
          rintro e w2 ⟨rfl, b2⟩
          have HD1 := Lib.hid (HD1.out.below b2)
          have e0 : w2.rangeAt g 0 (sgx q ak false kk true rr A n c) ∧ w2.cell? ⟨s.fb, 6, none⟩ = some (.int .u32 (x.rcv : Int)) ∧ w2.cell? ⟨g, 4, none⟩ = some (.int .u32 (q : Int)) := ⟨HD1.out.bx.range, HD1.out.fl.fa.c6, (HD1.out.bx 4 (by rw [sgx_length]; omega)).1⟩
          clear b2
          dsimp only
          refine hK.out _ _ e0 (fun _ => ?_)
          clear hK
          try simp only [Act.put, List.setIfInBounds_toArray, List.set_cons_zero, List.set_cons_succ]
          refine held_take (i := 2) (v := .bool true) (some 11) rfl rfl (by kernel_rfl) (by kernel_rfl) (by kernel_rfl) (fun _ _ _ h => h) (Or.inl ⟨by rfl, fun W hW => by go_simp⟩) e0 ?_
          simp only [Act.put, List.setIfInBounds_toArray, List.set_cons_zero, List.set_cons_succ]
          refine held_take (i := 3) (v := .bool true) (some 12) rfl rfl (by kernel_rfl) (by kernel_rfl) (by kernel_rfl) (fun _ _ _ h => h) (Or.inl ⟨by rfl, fun W hW => by go_simp⟩) e0 ?_
          simp only [Act.put, List.setIfInBounds_toArray, List.set_cons_zero, List.set_cons_succ]
          refine held_take (i := 4) (v := undef) (some 13) rfl rfl (by kernel_rfl) (by kernel_rfl) (by kernel_rfl) (fun _ _ _ h => h) (Or.inr ⟨by rfl, by rfl⟩) e0 ?_
          simp only [Act.put, List.setIfInBounds_toArray, List.set_cons_zero, List.set_cons_succ]
          refine held_take (i := 6) (v := undef) (some 15) rfl rfl (by kernel_rfl) (by kernel_rfl) (by kernel_rfl) (fun _ _ _ h => h) (Or.inr ⟨by rfl, by rfl⟩) e0 ?_
          simp only [Act.put, List.setIfInBounds_toArray, List.set_cons_zero, List.set_cons_succ]
          refine held_take (i := 5) (v := undef) (some 14) rfl rfl (by kernel_rfl) (by kernel_rfl) (by kernel_rfl) (fun _ _ _ h => h) (Or.inr ⟨by rfl, by rfl⟩) e0 ?_
          simp only [Act.put, List.setIfInBounds_toArray, List.set_cons_zero, List.set_cons_succ]
          refine held_take (i := 7) (v := undef) (some 16) rfl rfl (by kernel_rfl) (by kernel_rfl) (by kernel_rfl) (fun _ _ _ h => h) (Or.inr ⟨by rfl, by rfl⟩) e0 ?_
          simp only [Act.put, List.setIfInBounds_toArray, List.set_cons_zero, List.set_cons_succ]
          refine held_take (i := 8) (v := undef) (some 17) rfl rfl (by kernel_rfl) (by kernel_rfl) (by kernel_rfl) (fun _ _ _ h => h) (Or.inr ⟨by rfl, by rfl⟩) e0 ?_
          simp only [Act.put, List.setIfInBounds_toArray, List.set_cons_zero, List.set_cons_succ]
          refine held_take (i := 9) (v := undef) (some 18) rfl rfl (by kernel_rfl) (by kernel_rfl) (by kernel_rfl) (fun _ _ _ h => h) (Or.inr ⟨by rfl, by rfl⟩) e0 ?_
          simp only [Act.put, List.setIfInBounds_toArray, List.set_cons_zero, List.set_cons_succ]
          refine held_take (i := 10) (v := undef) (some 19) rfl rfl (by kernel_rfl) (by kernel_rfl) (by kernel_rfl) (fun _ _ _ h => h) (Or.inr ⟨by rfl, by rfl⟩) e0 ?_
          simp only [Act.put, List.setIfInBounds_toArray, List.set_cons_zero, List.set_cons_succ]
          refine held_take (i := 11) (v := .bool true) (some 20) rfl rfl (by kernel_rfl) (by kernel_rfl) (by kernel_rfl) (fun _ _ _ h => h) (Or.inl ⟨by rfl, fun W hW => by go_simp⟩) e0 ?_
          simp only [Act.put, List.setIfInBounds_toArray, List.set_cons_zero, List.set_cons_succ]
          refine held_take (i := 12) (v := .bool true) (some 8) rfl rfl (by kernel_rfl) (by kernel_rfl) (by kernel_rfl) (fun _ _ _ h => h) (Or.inl ⟨by rfl, fun W hW => by go_simp⟩) e0 ?_
          simp only [Act.put, List.setIfInBounds_toArray, List.set_cons_zero, List.set_cons_succ]
          refine wpAnyH_done (by kernel_rfl) ?_ _
          refine NoPanic.normal ?_
          go_wp2_with fail
          have HD1 := Lib.hid (HD1.out.below (Below.refl _ _).drew)
          have ex : w2.drew.rangeAt g 0 (sgx q ak false kk true rr A n c) ∧ w2.drew.cell? ⟨s.fb, 6, none⟩ = some (.int .u32 (x.rcv : Int)) ∧ w2.drew.cell? ⟨g, 4, none⟩ = some (.int .u32 (q : Int)) := ⟨HD1.out.bx.range, HD1.out.fl.fa.c6, (HD1.out.bx 4 (by rw [sgx_length]; omega)).1⟩
          clear e0
          have e0 := ex
          clear ex
          generalize hwd : w2.drew = we at *
          refine wp_region_noPanic ?_
          refine wp_region_held_drew (S := fun W => W.rangeAt g 0 (sgx q ak false kk true rr A n c) ∧ W.cell? ⟨s.fb, 6, none⟩ = some (.int .u32 (x.rcv : Int)) ∧ W.cell? ⟨g, 4, none⟩ = some (.int .u32 (q : Int))) (by kernel_rfl) (by rw [hwd]; exact e0) (fun _ => ?_)
          rw [hwd]
          clear hwd
          refine held_take (i := 0) (v := .pointer (some ⟨g, 4, none⟩)) (some 21) rfl rfl (by kernel_rfl) (by kernel_rfl) (by kernel_rfl) (fun _ _ _ h => h) (Or.inl ⟨by rfl, fun W hW => by go_simp⟩) e0 ?_
          simp only [Act.put, List.setIfInBounds_toArray, List.set_cons_zero, List.set_cons_succ]
          refine held_take (i := 2) (v := .pointer (some ⟨s.fb, 0, none⟩)) (some 23) rfl rfl (by kernel_rfl) (by kernel_rfl) (by kernel_rfl) (fun _ _ _ h => h) (Or.inl ⟨by rfl, fun W hW => by go_simp⟩) e0 ?_
          simp only [Act.put, List.setIfInBounds_toArray, List.set_cons_zero, List.set_cons_succ]
          refine held_take (i := 1) (v := .int .u32 (q : Int)) (some 22) rfl rfl (by kernel_rfl) (by kernel_rfl) (by kernel_rfl) (fun _ _ _ h => h) (Or.inl ⟨by rfl, fun W hW => by have hc := hW.2.2; go_simp⟩) e0 ?_
          simp only [Act.put, List.setIfInBounds_toArray, List.set_cons_zero, List.set_cons_succ]
          refine held_take (i := 3) (v := .pointer (some ⟨s.fb, 0, none⟩)) (some 24) rfl rfl (by kernel_rfl) (by kernel_rfl) (by kernel_rfl) (fun _ _ _ h => h) (Or.inl ⟨by rfl, fun W hW => by go_simp⟩) e0 ?_
          simp only [Act.put, List.setIfInBounds_toArray, List.set_cons_zero, List.set_cons_succ]
          refine held_take (i := 4) (v := .pointer (some ⟨s.fb, 6, none⟩)) (some 25) rfl rfl (by kernel_rfl) (by kernel_rfl) (by kernel_rfl) (fun _ _ _ h => h) (Or.inl ⟨by rfl, fun W hW => by go_simp⟩) e0 ?_
          simp only [Act.put, List.setIfInBounds_toArray, List.set_cons_zero, List.set_cons_succ]
          refine held_take (i := 5) (v := .int .u32 (x.rcv : Int)) (some 26) rfl rfl (by kernel_rfl) (by kernel_rfl) (by kernel_rfl) (fun _ _ _ h => h) (Or.inl ⟨by rfl, fun W hW => by have hc := hW.2.1; go_simp⟩) e0 ?_
          simp only [Act.put, List.setIfInBounds_toArray, List.set_cons_zero, List.set_cons_succ]
          refine held_take (i := 6) (v := .bool false) (some 27) rfl rfl (by kernel_rfl) (by kernel_rfl) (by kernel_rfl) (fun _ _ _ h => h) (Or.inl ⟨by rfl, fun W hW => by go_simp⟩) e0 ?_
          simp only [Act.put, List.setIfInBounds_toArray, List.set_cons_zero, List.set_cons_succ]
          refine held_take (i := 7) (v := .bool false) (some 28) rfl rfl (by kernel_rfl) (by kernel_rfl) (by kernel_rfl) (fun _ _ _ h => h) (Or.inl ⟨by rfl, fun W hW => by go_simp⟩) e0 ?_
          simp only [Act.put, List.setIfInBounds_toArray, List.set_cons_zero, List.set_cons_succ]
          refine held_take (i := 8) (v := undef) (some 29) rfl rfl (by kernel_rfl) (by kernel_rfl) (by kernel_rfl) (fun _ _ _ h => h) (Or.inr ⟨by rfl, by rfl⟩) e0 ?_
          simp only [Act.put, List.setIfInBounds_toArray, List.set_cons_zero, List.set_cons_succ]
          refine held_take (i := 9) (v := undef) (some 30) rfl rfl (by kernel_rfl) (by kernel_rfl) (by kernel_rfl) (fun _ _ _ h => h) (Or.inr ⟨by rfl, by rfl⟩) e0 ?_
          simp only [Act.put, List.setIfInBounds_toArray, List.set_cons_zero, List.set_cons_succ]
          refine held_take (i := 10) (v := .bool false) (some 31) rfl rfl (by kernel_rfl) (by kernel_rfl) (by kernel_rfl) (fun _ _ _ h => h) (Or.inl ⟨by rfl, fun W hW => by go_simp⟩) e0 ?_
          simp only [Act.put, List.setIfInBounds_toArray, List.set_cons_zero, List.set_cons_succ]
          refine wpAnyH_done (by kernel_rfl) ?_ _
          refine NoPanic.normal ?_
          clear e0
          have hfr : ¬ x.isFresh q := fun e => hqr e.1
          have htl : 0 < L ∨ bf q x.rcv = true := .inl hlen
          have i0 := HD1.out.fl.fa.c0
          dsimp only [F.fc] at i0
          unfold ptr at i0
          have HE := Lib.hid (HEn.out _ _ HD1.out.fl)
          have HT := Lib.hid (HTe.out _ _ HD1.out.fl rfl)
          go_wp2_with (first
            | (go_at_call 37; refine HE.out.mono ?_; rintro e wk ⟨rfl, rfl⟩)
            | (go_at_call 51; refine HT.out.mono ?_; rintro e wl ⟨rfl, ll⟩; have HL := Lib.hid ll; clear ll)
            | fail)
          go_end0
          have htk : x.takes q L true t = x := if_neg hfr
          have hdf : decide (x.isFresh q) = false := decide_eq_false hfr
          try rw [hdf]
          unfold F.hdata
          rw [if_pos htl, htk]
          exact ⟨rfl, HD1.out.tell HL.out, false, HL.out.own HD1.out.hd (by show 0 < 6; omega) HBT.out.1⟩
    · exact absurd (hLp rfl) hlen
end
end Go.Proofs.Ytnpkmkjenlhkiaa

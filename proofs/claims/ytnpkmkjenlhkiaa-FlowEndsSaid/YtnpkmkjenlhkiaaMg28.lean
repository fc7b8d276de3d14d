/- The law's begins; the pair at first; the bounds of any steps. No condition but at most 100000 steps.
Rows of structs of two whole numbers, as arguments are read. No condition.
The law FlowPair. Conditions: the arguments are of their kinds.
Two flows with all in order: what each call comes to. No condition. -/
import Derived.Test.YtnpkmkjenlhkiaaMg25
import Derived.Test.YtnpkmkjenlhkiaaMg27
import Derived.Test.YtnpkmkjenlhkiaaMg1
import Derived.OpenShut
import Derived.Deep.Slices
import Derived.ChangeOld
import Derived.ProofKit
namespace Go.Proofs.Ytnpkmkjenlhkiaa
set_option linter.unusedVariables false
set_option linter.unusedSimpArgs false
set_option maxRecDepth 20000
open Go.RowKit Go.Lib

/-- Reachable pairs keep the bounds of a step. -/
theorem Both.bd {i n : Nat} {p : P} (h : Both i n p) (hn : n ≤ 100000) : Bd p.flush := by
  obtain ⟨⟨h0, h1, m0, m1, I⟩, N⟩ := h
  have I := I.flush
  have N := N.flush
  have ht := N.t
  have l0 := I.l0.2.1
  have l1 := I.l1.1
  have pos0 := fun k hk => (I.a.his.pos k hk).2
  have hz : ∀ (x : F) (i i' m : Nat) (h h' : List Ky), Side x i h i' h' m → h.length ≤ n + 1 → x.os = [] → Nb x p.flush.t → Fz x := fun x i i' m h h' S hl ho B => by
    have c1 := S.nums
    have c2 := B.df
    have c3 := B.bg
    have c4 := B.tr
    have c5 := B.d
    exact ⟨c1.1, by omega, c1.2.2, by rw [ho]; exact Nat.zero_le _, B.E, by omega, by omega, by omega, B.dw, by omega⟩
  have hp1 : ∀ f, p.flush.f1 = some f → ∀ k ∈ h1, k.ds.length ≤ 12 := fun f hf k hk => ((I.b f hf).his.pos k hk).2
  have hpos1 : ∀ k ∈ h1, k.ds.length ≤ 12 := by
    cases hf : p.flush.f1 with
    | none => rw [(I.no hf).1]; intro k hk; cases hk
    | some f => exact hp1 f hf
  have d0 := data_length h0 pos0
  have d1 := data_length h1 hpos1
  have e0 := data_length (h1.take m0) (fun k hk => hpos1 k (List.mem_of_mem_take hk))
  have e1 := data_length (h0.take m1) (fun k hk => pos0 k (List.mem_of_mem_take hk))
  rw [List.length_take] at e0 e1
  refine ⟨hz _ _ _ _ _ _ I.a l0 rfl N.f0, fun f hf => ?_, fun k hk => ?_, by have := N.way; omega, by omega, by rw [I.s0]; omega, by rw [I.s1]; omega, by rw [I.c0]; omega, by rw [I.c1]; omega⟩
  · have ho : f.os = [] := by
      have hf : p.f1.map F.quiet = some f := hf
      obtain ⟨g, hg, rfl⟩ := Option.map_eq_some_iff.1 hf
      rfl
    exact hz _ _ _ _ _ _ (I.b f hf) l1 ho (N.f1 f hf)
  · have hw := I.way k hk
    rcases Nat.lt_or_ge k.to 1 with h2 | h2
    · have K := hw.2.2 (by omega)
      refine ⟨K.rst, ?_⟩
      rcases K.k with e | ⟨j, _, e⟩
      · exact hpos1 _ e
      · rw [e]; exact Nat.zero_le _
    · have K := hw.2.1 (by omega)
      exact Pok_small I.a.his K

theorem wpList_boxO {P : Program} {ops : Array Oper} {rest : List Oper} {o : Oper} {a : Act} {w : World} {Q : Exit → Act → World → Prop} (hg : Region.wanted o (yielded ops a.tmps) = true) (t : TypeId) (x : Operand) (ho : o.op = .box t x) (vs : List Value) (hx : a.eval x = .agg vs.toArray) (g : Nat) (hgs : w.heap.size = g)
    (h : ∀ w', w'.heap[g]? = some (.cells vs.toArray t (0, 0)) → Below w.heap.size w w' → w'.heap.size = g + 1 → wpList P ops Q rest (a.put o.dst (.pointer (some ⟨g, 0, none⟩))) w') : wpList P ops Q (o :: rest) a w := by
  subst hgs
  refine wpList_want hg fun K hK => ?_
  unfold Oper.wp execOp
  simp only [ho, hx, Sem.run_bind, Instr.box, newVar, newRow, run_newObj_alloc, Sem.run_pure, Result.andThen_ok]
  exact hK _ _ (h _ (heap_alloc_new w _) (below_a w _) (by simp))
section
variable {GB : Option Nat} {base : Nat} {w w' w1 : World} {pb : Nat} {i : Nat}
theorem nil_row {w : World} {base : Nat} {e : TypeId} {s : Nat} : w.ownsRow base e s (.slice none 0 0) 0 [] := ⟨by rw [Nat.zero_mul]; rfl, .inl ⟨rfl, rfl⟩⟩
/-- The pair at first. -/
def M0 (s : Sh) : Ms := ⟨s, none, .slice none 0 0, [], .slice none 0 0, .slice none 0 0, .slice none 0 0, .slice none 0 0⟩
theorem PR.first {s : Sh} (h : Fl base w s (F.dial i 0)) (hlo : base ≤ w.heap.size) (b : Below w.heap.size w w') (ho : w'.heap[w.heap.size]? = some (.cells ((M0 s).cs 0) 33 (0, 0))) :
    ∃ lab, PR none base w' w.heap.size (P.init i) (M0 s) lab := by
  have nb : ∀ c lab, Bl base w' lab (.slice none 0 0) [] c := fun c lab => ⟨nil_row, fun g e => by cases e⟩
  refine ⟨fun g => if g = w.heap.size then 3 else 1, ⟨ho, hlo, h.below b, (fun f e => by cases e), fun _ => rfl, nil_row, rfl, (fun k hk => by cases hk), nb _ _, nb _ _, nb _ _, nb _ _, fun g hg => if_neg (by have := (h.in_ hg).2; omega), (fun s hs => by cases hs), if_pos rfl, (fun g e => by cases e), (fun k hk => by cases hk), fun g e => by cases e⟩⟩
end
theorem sizeOfB (W : World) : (sizeOf (Try.prog.elem 30)).run Try.prog W = .ok 1 W := by kernel_rfl
theorem elemB : Try.prog.underlying 30 = some (.slice (Try.prog.elem 30)) := by kernel_rfl
theorem slTB (A : Option Addr) (n c m : Nat) (hm : m ≤ c) (W : World) : ∃ A', (Instr.slice 30 (.slice A n c) none (some (.int .i64 (m : Int))) none).run Try.prog W = .ok (.slice A' m c) W ∧ (∀ b o, A = some ⟨b, o, none⟩ → A' = A) := by
  refine ⟨if c = 0 then A else A.map (·.add 0), ?_, fun b o e => ?_⟩
  · rw [run_slice_h (P := Try.prog) W 30 A n c elemB .i64 (m : Int) (by omega) (by omega), sizeOfB]
    simp [Result.andThen, sliced]
  · subst e
    split
    · rfl
    · simp [Addr.add_lit]
theorem RB.addr {w : World} {A A' : Option Addr} {n c : Nat} {l : List UInt8} (h : RB w A n c l) (hA : ∀ b o, A = some ⟨b, o, none⟩ → A' = A) : RB w A' n c l := by
  obtain ⟨h1, h2, h3, h4⟩ := h
  refine ⟨h1, h2, h3, fun h0 => ?_⟩
  obtain ⟨b, o, e, hc⟩ := h4 h0
  exact ⟨b, o, (hA b o e).trans e, hc⟩
set_option maxHeartbeats 800000 in
theorem begins_yes (A B : Option Addr) (n c m d : Nat) (l r : List UInt8) (w : World) (h : RB w A n c l) (h' : RB w B m d r) (hp : r <+: l) :
    Calls Try.prog 11 #[.slice A n c, .slice B m d] w fun e w' => e = .returned (.bool true) ∧ ∃ q, w' = w.drewN q := by
  have hmn : m ≤ n := by
    have := hp.length_le
    have := h.len
    have := h'.len
    omega
  have hr : l.take m = r := by
    obtain ⟨t, rfl⟩ := hp
    have := h'.len
    subst this
    exact List.take_left
  obtain ⟨A', hs, hA⟩ := slTB A n c m (by have := h.max; have := h.cap; omega) w
  have h9 := (h.take hmn).addr hA
  rw [hr] at h9
  have HS := Lib.hid (Same_any A' B m c m d r r w h9 h')
  have hdm : (m : Int) ≤ (n : Int) := by omega
  clear h h' hp hr hA h9
  go_enter Try.func11, Try.ntmps11
  go_wp2_with fail
  refine HS.out.mono ?_
  rintro e w1 ⟨rfl, q, rfl⟩
  have he : (r == r) = true := beq_self_eq_true r
  rw [he]
  go_wp2_with fail
  go_ret
  exact ⟨rfl, q, rfl⟩
end Go.Proofs.Ytnpkmkjenlhkiaa

namespace Go.Proofs.Ytnpkmkjenlhkiaa
set_option linter.unusedVariables false
set_option linter.unusedSimpArgs false
open Go.RowKit Go.ChangeShapes Go.WideShapes Go.Deep

def B64d (x : Int) : Prop := -9223372036854775808 ≤ x ∧ x ≤ 9223372036854775807
def z2 : Int × Int := (0, 0)

/-- A slice of n structs of two whole numbers each. -/
structure Duo (w : World) (A : Option Addr) (n c : Nat) (l : List (Int × Int)) : Prop where
  len : l.length = n
  cap : n ≤ c
  max : c ≤ 9223372036854775807
  ok : ∀ x ∈ l, B64d x.1 ∧ B64d x.2
  mem : 0 < n → ∃ g o, A = some ⟨g, o, none⟩ ∧ ∀ j, j < n → w.cell? ⟨g, o + j * 2, none⟩ = some (.int .i64 (l.getD j z2).1) ∧ w.cell? ⟨g, o + j * 2 + 1, none⟩ = some (.int .i64 (l.getD j z2).2)

theorem Duo.below {w w' : World} {A : Option Addr} {n c : Nat} {l : List (Int × Int)} (h : Duo w A n c l) (b : Below w.heap.size w w') : Duo w' A n c l := by
  refine ⟨h.len, h.cap, h.max, h.ok, fun hn => ?_⟩
  obtain ⟨g, o, e, hc⟩ := h.mem hn
  have hk : ∀ p v, w.cell? p = some v → w'.cell? p = some v := fun p v hp => (World.cell?_of_block (b.block _ (World.block_lt_of_cell? _ _ hp))).trans hp
  exact ⟨g, o, e, fun j hj => ⟨hk _ _ (hc j hj).1, hk _ _ (hc j hj).2⟩⟩

section
variable {H : Type} {enc : TypeId × Value → H} {P : Program} {w : World} {base : Nat} {spare : Nat → Bool} {held : Bool}
/-- The two cells that are read as such a struct. -/
theorem duo_of_trod {fs : Array Field} {t ti : TypeId} {fuel : Nat} {cs : List Value} {x : DataW H × List MemPlace} (ht : P.underlying t = some (.struct fs)) (hi : P.underlying ti = some (.int .i64)) (hc : P.cellsOf ti = 1)
    (hf : [fs[0]?, fs[1]?, fs[2]?].map (fun o => o.map fun f => (f.type, f.offset)) = [some (ti, 0), some (ti, 1), none]) (hl : cs.length = 2) (h : DataW.trod enc P w base spare held fuel t cs = some x) : ∃ a b : Int, B64d a ∧ B64d b ∧ cs = [.int .i64 a, .int .i64 b] := by
  obtain ⟨xs, n, _, _, _, hlen, hg⟩ := DataW.trod_struct ht h
  simp only [List.map_cons, List.map_nil, List.cons.injEq, and_true, Option.map_eq_some_iff, Option.map_eq_none_iff, Prod.mk.injEq] at hf
  obtain ⟨⟨f0, p0, t0, o0⟩, ⟨f1, p1, t1, o1⟩, p3⟩ := hf
  have hs : fs.size = 2 := by
    have h2 := (Array.getElem?_eq_some_iff.1 p1).1
    have h3 := Array.getElem?_eq_none_iff.1 p3
    omega
  have get : ∀ (i : Nat), i < 2 → ∃ y, xs[i]? = some y := fun i hi => ⟨_, List.getElem?_eq_getElem (by rw [hlen, hs]; exact hi)⟩
  match cs, hl with
  | [c0, c1], _ =>
    obtain ⟨y0, e0⟩ := get 0 (by omega)
    obtain ⟨y1, e1⟩ := get 1 (by omega)
    have g0 := hg 0 _ p0
    have g1 := hg 1 _ p1
    rw [e0, t0, o0, hc] at g0
    rw [e1, t1, o1, hc] at g1
    obtain ⟨a0, q0, _, w0⟩ := DataW.trod_int hi g0
    obtain ⟨a1, q1, _, w1⟩ := DataW.trod_int hi g1
    obtain rfl : c0 = .int .i64 a0 := by have q : [c0] = _ := q0; injection q
    obtain rfl : c1 = .int .i64 a1 := by have q : [c1] = _ := q1; injection q
    exact ⟨a0, a1, Go.bounds_i64 w0, Go.bounds_i64 w1, rfl⟩
theorem duos_of_trod {fs : Array Field} {t e ti : TypeId} {fuel : Nat} {A : Option Addr} {n c : Nat} {x : DataW H × List MemPlace} (hs : P.underlying t = some (.slice e)) (ht : P.underlying e = some (.struct fs)) (hi : P.underlying ti = some (.int .i64)) (hc : P.cellsOf ti = 1)
    (hf : [fs[0]?, fs[1]?, fs[2]?].map (fun o => o.map fun f => (f.type, f.offset)) = [some (ti, 0), some (ti, 1), none]) (hC : P.cellsOf e = 2) (h : DataW.trod enc P w base (fun _ => true) held fuel t [.slice A n c] = some x) : ∃ l, Duo w A n c l := by
  rcases open_slice hs h with ⟨hcs, _⟩ | ⟨a, len, cap, m, k, D, Pl, hcs, _, hl, hm, hmm, _, hit⟩
  · simp at hcs
    obtain ⟨rfl, rfl, rfl⟩ := hcs
    exact ⟨[], rfl, Nat.le_refl _, Nat.zero_le _, by simp, fun h => absurd h (by omega)⟩
  · simp at hcs
    obtain ⟨rfl, rfl, rfl⟩ := hcs
    have hm' : m = c := by simpa using hmm
    subst hm'
    rw [hC] at hit
    have hx : ∀ i, ∃ o : Int × Int, i < n → (B64d o.1 ∧ B64d o.2) ∧ ∀ j, j < 2 → w.cell? ((a.add (i * 2)).add j) = ([.int .i64 o.1, .int .i64 o.2] : List Value)[j]? := fun i => by
      by_cases hin : i < n
      · obtain ⟨cs', hc', htr⟩ := hit i (by omega)
        obtain ⟨_, hcl, hat⟩ := World.cells?_some hc'
        obtain ⟨a0, a1, b0, b1, rfl⟩ := duo_of_trod ht hi hc hf hcl htr
        exact ⟨(a0, a1), fun _ => ⟨⟨b0, b1⟩, fun j hj => hat j hj⟩⟩
      · exact ⟨z2, fun h => absurd h hin⟩
    obtain ⟨f, hfx⟩ := Classical.axiomOfChoice hx
    refine ⟨(List.range n).map f, by simp, hl, hm, fun o ho => ?_, fun hn => ?_⟩
    · obtain ⟨i, hi', rfl⟩ := List.mem_map.1 ho
      exact (hfx i (List.mem_range.1 hi')).1
    · obtain ⟨b, o, s⟩ := a
      have h0 := (hfx 0 hn).2 0 (by omega)
      have hsn : s = none := by
        have := World.cell?_spot (h0.trans (List.getElem?_eq_getElem (by simp)))
        simpa [Addr.add] using this
      subst hsn
      refine ⟨b, o, rfl, fun j hj => ?_⟩
      have e : ((List.range n).map f).getD j z2 = f j := by simp [hj]
      rw [e]
      have k0 := (hfx j hj).2 0 (by omega)
      have k1 := (hfx j hj).2 1 (by omega)
      rw [Addr.add_lit, Addr.add_lit] at k0 k1
      exact ⟨k0, k1⟩
end
end Go.Proofs.Ytnpkmkjenlhkiaa

namespace Go.Proofs.Ytnpkmkjenlhkiaa
set_option linter.unusedVariables false
set_option linter.unusedSimpArgs false
set_option maxRecDepth 20000
open Go.RowKit Go.Lib

theorem sizeNet : (Try.prog.info? 35).map (·.size) = some 2 := by kernel_rfl
theorem zeroNet : (Try.prog.info? 35).map (·.zero) = some (some (.agg #[.int .i64 0, .int .i64 0])) := by kernel_rfl
def nv (x : Int × Int) : List Value := [.int .i64 x.1, .int .i64 x.2]
theorem nv_one (x : Int × Int) : ∀ u ∈ nv x, u.oneCell' = true := by
  intro u hu
  simp only [nv, List.mem_cons, List.not_mem_nil, or_false] at hu
  rcases hu with rfl | rfl <;> rfl
theorem take_succ_getD (l : List (Int × Int)) (j : Nat) (hj : j < l.length) : l.take (j + 1) = l.take j ++ [l.getD j z2] := by
  rw [List.take_succ_eq_append_getElem hj, List.getD_eq_getElem?_getD, List.getElem?_eq_getElem hj]
  rfl
/-- Row of the pair's bytes, as read. -/
theorem Bl.rb {base : Nat} {w : World} {lab : Nat → Nat} {v : Value} {l : List UInt8} {c : Nat} (h : Bl base w lab v l c) : ∃ A k, v = .slice A l.length k ∧ RB w A l.length k l := by
  obtain ⟨A, k, e, hr, _⟩ := RB.of_own h.row
  exact ⟨A, k, e, hr⟩
set_option maxHeartbeats 12800000 in
theorem FPair_any (i : Nat) (A : Option Addr) (n c : Nat) (l : List (Int × Int)) (W : World) (hi : i < 4294967296) (hl : Duo W A n c l) : Calls Try.prog 3 #[.int .u32 (i : Int), .slice A n c] W (Held W) := by
  have HW := Lib.hid (wakes_any W)
  have HL := Lib.hid hl
  have hmx := hl.max
  have hcp := hl.cap
  clear hl
  by_cases hlong : 200 < n
  · have hb : (200 : Int) < (n : Int) := by omega
    go_enter Try.func3, Try.ntmps3
    go_wp2_with fail
    refine (HW.out).mono ?_
    rintro e w1 ⟨rfl, b1⟩
    have B1 := Lib.hid b1
    clear b1
    go_wp2_with fail
    go_ret
    exact ⟨rfl, B1.out⟩
  · have hb : decide ((200 : Int) < (n : Int)) = false := decide_eq_false (by omega)
    have HD := Lib.hid (fun w => Dial_any i 0 w hi (by unfold isInt; decide))
    go_enter Try.func3, Try.ntmps3
    go_wp2_with fail
    refine (HW.out).mono ?_
    rintro e w1 ⟨rfl, b1⟩
    have B1 := Lib.hid b1
    clear b1
    go_wp2_with fail
    refine (HD.out _).mono ?_
    rintro e w2 ⟨s, rfl, f2, b2⟩
    have B2 := Lib.hid (B1.out.trans (b2.mono B1.out.size))
    have F2 := Lib.hid (f2.mono B1.out.size)
    clear f2 b2 HW HD
    unfold ptr
    go_wp2_with (first
      | ((with_reducible refine wpList_here ?_); refine wpList_boxO (o := ⟨some 17, _, _, _, _, _⟩) rfl 33 (.tmp 16) rfl ((M0 s).cs 0).toList rfl _ rfl ?_; intro w3 o3 b3 s3; have O3 := Lib.hid o3; have B3 := Lib.hid b3; clear o3 b3)
      | fail)
    have HP := Lib.hid (PR.first F2.out B2.out.size B3.out (by exact O3.out))
    have HB := Lib.hid (B2.out.trans (B3.out.mono B2.out.size))
    obtain ⟨pb, hpb⟩ : ∃ g, g = w2.heap.size := ⟨_, rfl⟩
    rw [← hpb] at HP
    rw [← hpb]
    clear hpb B2 F2 B3 O3 s3
    have HLN := Lib.hid (show n ≤ 200 by omega)
    go_loopw [20] (fun v wr => ∃ j : Nat, j ≤ n ∧ v = .int .i64 (j : Int) ∧ Below W.heap.size W wr ∧ ∃ m lab, PR none W.heap.size wr pb ((P.init i).run (l.take j)) m lab) (fun v _ => n - (intOf v).toNat)
    case atStart => exact ⟨0, Nat.zero_le _, rfl, HB.out, _, HP.out⟩
    case round =>
      obtain ⟨j, hj, rfl, hB, m1, lab1, h1⟩ := hrel
      by_cases hlt : j < n
      · have hli : (j : Int) < (n : Int) := by omega
        obtain ⟨g, o, hA, hc⟩ := HL.out.mem (by omega)
        subst hA
        have hjl : j < l.length := by rw [HL.out.len]; exact hlt
        have hc1 := hB.cell (World.block_lt_of_cell? W _ (hc j hlt).1) |>.trans (hc j hlt).1
        have hc2 := hB.cell (World.block_lt_of_cell? W _ (hc j hlt).2) |>.trans (hc j hlt).2
        have hok := HL.out.ok (l.getD j z2) (by rw [List.getD_eq_getElem?_getD, List.getElem?_eq_getElem hjl]; exact List.getElem_mem _)
        have htk := take_succ_getD l j hjl
        obtain ⟨x, hx⟩ : ∃ x, x = l.getD j z2 := ⟨_, rfl⟩
        rw [← hx] at hc1 hc2 hok htk
        have hr : wr.rangeAt g (o + j * 2) (nv x) := fun q v hv => by
          rcases q with _ | _ | q
          · injection hv with hv; subst hv; exact hc1
          · injection hv with hv; subst hv; exact hc2
          · cases hv
        have HBO := Lib.hid (Both.run i hi (l.take j) (by rw [List.length_take]; have := HLN.out; omega))
        have hl2 : (l.take j).length ≤ 100000 := by rw [List.length_take]; have := HLN.out; omega
        have hpp := pair_pure i hi (l.take (j + 1)) (by rw [List.length_take]; have := HLN.out; omega)
        rw [htk, run_snoc] at hpp
        have HPP := Lib.hid hpp
        have HTK : Hid ((P.init i).run (l.take (j + 1)) = ((P.init i).run (l.take j)).step x.1 x.2) := Lib.hid (by rw [htk, run_snoc])
        have HST := Lib.hid (fun (W2 : World) (b : Below wr.heap.size wr W2) => step_any (h1.below b) (HBO.out.bd hl2) x.1 x.2 hok.1 hok.2)
        have HBr := Lib.hid hB
        have hlo := h1.lo
        have hlt1 := h1.lt
        unfold ptr at HST
        clear h1 hB hc hc1 hc2 hx htk hpp hl2 HBO hjl hok
        generalize (P.init i).run (l.take j) = p0 at *
        go_wp2_with (first
          | ((with_reducible refine wpList_here ?_); refine wpList_loadV (o := ⟨some 23, _, _, _, _, _⟩) rfl 35 (.tmp 22) rfl _ _ (nv x) rfl hr _ Try.underlying35 rfl sizeNet ?_)
          | ((with_reducible refine wpList_here ?_); refine wpList_allocV (o := ⟨some 7, _, _, _, _, _⟩) rfl 35 rfl (nv (0, 0)) zeroNet _ rfl ?_; intro w4 z4 b4 s4)
          | ((with_reducible refine wpList_here ?_); refine wpList_storeV rfl 35 (.tmp 7) (.tmp 23) rfl _ _ (nv x) rfl rfl z4 rfl (nv_one _) sizeNet ?_; intro w5 z5 g5 s5; have HB5 := Lib.hid (v_below_g b4 g5 b4.size (Nat.le_refl _)); clear b4 g5)
          | ((with_reducible refine wpList_here ?_); refine wpList_loadV (o := ⟨some 25, _, _, _, _, _⟩) rfl 35 (.tmp 7) rfl _ _ (nv x) rfl z5.range _ Try.underlying35 rfl sizeNet ?_)
          | fail)
        refine (HST.out _ HB5.out).mono ?_
        rintro e w6 ⟨rfl, ⟨m6, lab6, h6⟩, b6⟩
        have HBX : Hid (Below W.heap.size W w6) := Lib.hid ((HBr.out.trans (HB5.out.mono (by omega))).trans b6)
        obtain ⟨A0, k0, e0, r0⟩ := h6.s0.rb
        obtain ⟨A1, k1, e1, r1⟩ := h6.s1.rb
        obtain ⟨A2, k2, e2, r2⟩ := h6.c0.rb
        obtain ⟨A3, k3, e3, r3⟩ := h6.c1.rb
        have q0 := h6.at_ 3
        have q1 := h6.at_ 4
        have q2 := h6.at_ 5
        have q3 := h6.at_ 6
        rw [show (m6.cs (p0.step x.1 x.2).t)[3]? = some m6.sv0 from rfl, e0] at q0
        rw [show (m6.cs (p0.step x.1 x.2).t)[4]? = some m6.sv1 from rfl, e1] at q1
        rw [show (m6.cs (p0.step x.1 x.2).t)[5]? = some m6.cv0 from rfl, e2] at q2
        rw [show (m6.cs (p0.step x.1 x.2).t)[6]? = some m6.cv1 from rfl, e3] at q3
        have HS1 := Lib.hid (fun q => begins_yes A0 A3 _ k0 _ k3 _ _ (w6.drewN q) r0 r3 HPP.out.1)
        have HS2 := Lib.hid (fun q => begins_yes A1 A2 _ k1 _ k2 _ _ (w6.drewN q) r1 r2 HPP.out.2)
        have HE : Hid (∃ m lab, PR none W.heap.size w6 pb ((P.init i).run (l.take (j + 1))) m lab) := Lib.hid ⟨m6, lab6, by rw [HTK.out]; exact h6⟩
        clear b6 h6 e0 e1 e2 e3 r0 r1 r2 r3 HPP
        generalize (p0.step x.1 x.2).s0.length = n0 at *
        generalize (p0.step x.1 x.2).s1.length = n1 at *
        generalize (p0.step x.1 x.2).c0.length = n2 at *
        generalize (p0.step x.1 x.2).c1.length = n3 at *
        go_wp2_with fail
        go_quiet (first | (go_at_call_of 11 (Value.slice A0 n0 k0); exact Calls.quiet_of (HS1.out _)) | (go_at_call_of 11 (Value.slice A1 n1 k1); exact Calls.quiet_of (HS2.out _)))
        obtain ⟨m7, lab7, h7⟩ := HE.out
        have HE7 := Lib.hid (And.intro (h7.below (below_drewN (Below.refl _ _) nq)) (below_drewN HBX.out nq))
        clear h7
        go_wp2_with fail
        go_roundw
        case rel => exact ⟨j + 1, by omega, by go_num, HE7.out.2, m7, lab7, HE7.out.1⟩
        case measure => simp [intOf]; omega
      · obtain rfl : j = n := by omega
        have HBr := Lib.hid hB
        clear h1 hB
        go_wp2_with fail
        go_ret
        exact ⟨rfl, HBr.out⟩
theorem LawPair (i : Nat) (A : Option Addr) (n c : Nat) (l : List (Int × Int)) (W : World) (hi : i < 4294967296) (hl : Duo W A n c l) : Calls Try.prog 3 #[.int .u32 (i : Int), .slice A n c] W (Held W) := FPair_any i A n c l W hi hl
end Go.Proofs.Ytnpkmkjenlhkiaa

namespace Go.Proofs.Ytnpkmkjenlhkiaa
set_option linter.unusedVariables false
set_option linter.unusedSimpArgs false
set_option maxRecDepth 20000

/-- All that is on the way comes, up to so many packets. -/
def P.settle : Nat → P → P
  | 0, p => p
  | n + 1, p => if p.way = [] then p else P.settle n (p.step 0 0)
theorem settle_nil (n : Nat) (p : P) (h : p.way = []) : p.settle n = p := by
  cases n with
  | zero => rfl
  | succ n => exact if_pos h
theorem settle_cons (n : Nat) (p : P) (h : p.way ≠ []) : p.settle (n + 1) = (p.step 0 0).settle n := if_neg h
theorem Both.settle {i : Nat} : ∀ (k n : Nat) (p : P), Both i n p → n + k ≤ 100000 → ∃ n', n' ≤ n + k ∧ Both i n' (p.settle k)
  | 0, n, p, h, _ => ⟨n, Nat.le_refl _, h⟩
  | k + 1, n, p, h, hn => by
    by_cases hw : p.way = []
    · rw [settle_nil _ _ hw]
      exact ⟨n, by omega, h⟩
    · rw [settle_cons _ _ hw]
      obtain ⟨n', h1, h2⟩ := Both.settle k (n + 1) _ (h.step (by omega) 0 0) (by omega)
      exact ⟨n', by omega, h2⟩
theorem addw_none (k : Nat) (w : List Pk) : addw k w [] = w := by unfold addw; simp
theorem quiet_same {x : F} (h : x.os = []) : x.quiet = x := by
  obtain ⟨a, b, c, d, e, f, g, i, j, k, l, m⟩ := x
  have h : m = [] := h
  subst h
  rfl
theorem flush_id {p : P} (h0 : p.f0.os = []) (h1 : ∀ f, p.f1 = some f → f.os = []) : p.flush = p := by
  obtain ⟨f0, f1, w, s0, s1, c0, c1, t⟩ := p
  have h0 : f0.os = [] := h0
  have e1 : outs f1 = [] := by
    cases f1 with
    | none => rfl
    | some f => exact h1 f rfl
  have e2 : f1.map F.quiet = f1 := by
    cases f1 with
    | none => rfl
    | some f => exact congrArg some (quiet_same (h1 f rfl))
  show P.mk f0.quiet (f1.map F.quiet) (addw 0 (addw 1 w f0.os) (outs f1)) s0 s1 c0 c1 t = _
  rw [h0, e1, e2, addw_none, addw_none, quiet_same h0]
theorem addw_all {k : Nat} {w : List Pk} {os : List Ou} (h : w.length + os.length ≤ 60) : addw k w os = w ++ os.map (Pk.mk k) := by
  unfold addw
  rw [List.take_of_length_le (by rw [List.length_map]; omega)]
theorem act_head {p : P} {w : Pk} {r : List Pk} (h : p.way = w :: r) : p.act 0 0 = { p with way := r }.comes w := by
  have ha : p.at_ 0 = 0 := by unfold P.at_; omega
  unfold P.act
  rw [if_pos ⟨by decide, by rw [h]; exact List.cons_ne_nil _ _⟩, ha, h]
  rfl
/-- The one packet on the way comes to the second flow. -/
theorem step0_1 (f0 f : F) (o : Ou) (s0 s1 c0 c1 : List UInt8) (t : Nat) (h0 : f0.os = []) (h1 : f.os = []) (l : List Ou) (hl : (f.hearO o t).os = l) (hn : l.length ≤ 60) :
    P.step ⟨f0, some f, [⟨1, o⟩], s0, s1, c0, c1, t⟩ 0 0 = ⟨f0, some (f.hearO o t).quiet, l.map (Pk.mk 0), s0, s1, c0, c1 ++ (if f.heardO o t = true then o.k.ds else []), t⟩ := by
  unfold P.step
  rw [flush_id (p := ⟨f0, some f, [⟨1, o⟩], s0, s1, c0, c1, t⟩) h0 (fun g e => by have e : some f = some g := e; injection e with e; rw [← e]; exact h1), act_head rfl]
  show P.mk f0.quiet (some (f.hearO o t).quiet) (addw 0 (addw 1 [] f0.os) (f.hearO o t).os) s0 s1 c0 _ t = _
  rw [h0, addw_none, hl, quiet_same h0, addw_all (by simpa using hn), List.nil_append]
  rfl
theorem step0_0 (f0 f : F) (o : Ou) (s0 s1 c0 c1 : List UInt8) (t : Nat) (h0 : f0.os = []) (h1 : f.os = []) (l : List Ou) (hl : (f0.hearO o t).os = l) (hn : l.length ≤ 60) :
    P.step ⟨f0, some f, [⟨0, o⟩], s0, s1, c0, c1, t⟩ 0 0 = ⟨(f0.hearO o t).quiet, some f, l.map (Pk.mk 1), s0, s1, c0 ++ (if f0.heardO o t = true then o.k.ds else []), c1, t⟩ := by
  unfold P.step
  rw [flush_id (p := ⟨f0, some f, [⟨0, o⟩], s0, s1, c0, c1, t⟩) h0 (fun g e => by have e : some f = some g := e; injection e with e; rw [← e]; exact h1), act_head rfl]
  show P.mk (f0.hearO o t).quiet (some f.quiet) (addw 0 (addw 1 [] (f0.hearO o t).os) f.os) s0 s1 _ c1 t = _
  rw [h1, addw_none, hl, quiet_same h1, addw_all (by simpa using hn), List.nil_append]
  rfl

/-- A flow that has nothing left: its state, its end, what it awaits. -/
structure Qf (x : F) (s en rc : Nat) : Prop where
  st : x.st = s
  ks : x.ks = []
  b : x.b = en
  e_ : x.en = en
  rcv : x.rcv = rc
  os : x.os = []
  lt : en < 4294967296
  rl : rc < 4294967296
theorem Qf.quiet {x : F} {s en rc : Nat} (h : Qf x s en rc) : x.quiet = x := quiet_same h.os
theorem gone_nil {x : F} (h : x.ks = []) (a : Nat) : x.gone a = [] := by
  unfold F.gone
  rw [h]
  split <;> simp
theorem hacks_nil {x : F} (h : x.ks = []) (a : Nat) (k : Bool) (t : Int) : x.hacks a k t = x := by
  unfold F.hacks F.hack
  have h1 : x.acked a t = x := if_pos (gone_nil h a)
  rw [gone_nil h, h1]
  split <;> rfl
/-- A flow that has one piece left. -/
structure Qo (x : F) (s en rc : Nat) (k : Ky) : Prop where
  st : x.st = s
  ks : x.ks = [k.at en]
  b : x.b = en
  e_ : x.en = on en (k.len : Int)
  rcv : x.rcv = rc
  lt : en < 4294967296
  rl : rc < 4294967296
theorem Qf.send {x : F} {s en rc : Nat} (h : Qf x s en rc) (k : Ky) (t : Int) : Qo (x.send k t) s en rc k ∧ (x.send k t).os = [⟨k.at en, rc, decide (s ≠ 1), false⟩] := by
  have S := send_same x k t
  generalize x.send k t = y at *
  obtain ⟨s1, s2, s3, s4, s5, s6⟩ := S
  rw [h.ks, List.nil_append, h.e_] at s1
  rw [h.e_] at s2
  rw [h.os, List.nil_append, h.e_, h.rcv, h.st] at s6
  exact ⟨⟨s5.trans h.st, s1, s3.trans h.b, s2, s4.trans h.rcv, h.lt, h.rl⟩, s6⟩
/-- What a Fin that came makes of a state. -/
def finS (s : Nat) : Nat := if s = 3 then 6 else if s = 4 then 7 else if s = 5 then 9 else s
/-- .. one that was acknowledged. -/
def ackS (s : Nat) : Nat := if s = 4 then 5 else if s = 7 then 9 else if s = 8 then 10 else s
theorem finc_S (x : F) (t : Int) : (x.finc t).st = finS x.st ∧ (x.finc t).dw = if x.st = 5 then 8 else x.dw := by
  unfold F.finc finS
  by_cases h1 : x.st = 3
  · rw [if_pos h1, if_pos h1, if_neg (by omega)]; exact ⟨rfl, rfl⟩
  · rw [if_neg h1, if_neg h1]
    by_cases h2 : x.st = 4
    · rw [if_pos h2, if_pos h2, if_neg (by omega)]; exact ⟨rfl, rfl⟩
    · rw [if_neg h2, if_neg h2]
      by_cases h3 : x.st = 5
      · rw [if_pos h3, if_pos h3, if_pos h3]; exact ⟨rfl, rfl⟩
      · rw [if_neg h3, if_neg h3, if_neg h3]; exact ⟨rfl, rfl⟩
theorem fina_S (x : F) (t : Int) : (x.fina t).st = ackS x.st ∧ ((x.fina t).dw = if x.st = 7 then 8 else if x.st = 8 then 0 else x.dw) := by
  unfold F.fina ackS
  by_cases h1 : x.st = 4
  · rw [if_pos h1, if_pos h1, if_neg (by omega), if_neg (by omega)]; exact ⟨rfl, rfl⟩
  · rw [if_neg h1, if_neg h1]
    by_cases h2 : x.st = 7
    · rw [if_pos h2, if_pos h2, if_pos h2]; exact ⟨rfl, rfl⟩
    · rw [if_neg h2, if_neg h2, if_neg h2]
      by_cases h3 : x.st = 8
      · rw [if_pos h3, if_pos h3, if_pos h3]; exact ⟨rfl, rfl⟩
      · rw [if_neg h3, if_neg h3, if_neg h3]; exact ⟨rfl, rfl⟩
/-- The piece that is awaited comes. -/
theorem hear_piece {y : F} {s en rc : Nat} (h : Qf y s en rc) (hs : s = 3 ∨ s = 4 ∨ s = 5) (k : Ky) (hk : k.seq = rc) (hsy : k.syn = false) (hl : 0 < k.ds.length + bn k.fin) (ak : Nat) (t : Int) :
    ∃ Y, y.hearO ⟨k, ak, true, false⟩ t = Y ∧ Qf Y.quiet (if k.fin = true then finS s else s) en (on rc ((k.ds.length + bn k.fin : Nat) : Int)) ∧ Y.os = [⟨tK en, on rc ((k.ds.length + bn k.fin : Nat) : Int), true, false⟩] ∧ y.heardO ⟨k, ak, true, false⟩ t = true ∧ Y.dw = (if k.fin = true ∧ s = 5 then 8 else y.dw) ∧ (k.fin = true → s = 5 → Y.df = t) := by
  have hst := h.st
  have hf : y.isFresh k.seq := ⟨by rw [hk, h.rcv], by rw [hst]; exact hs⟩
  have e1 : y.hearO ⟨k, ak, true, false⟩ t = y.hdata k.seq (k.ds.length + bn k.fin) k.fin t := by
    unfold F.hearO F.hear
    dsimp only
    rw [if_neg (by omega), if_neg (by omega), if_neg (by rw [hsy]; decide), hacks_nil h.ks, if_pos (by omega)]
  have e2 : y.heardO ⟨k, ak, true, false⟩ t = true := by
    unfold F.heardO F.heard
    dsimp only
    rw [if_neg (by omega), if_neg (by omega), if_neg (by rw [hsy]; decide), hacks_nil h.ks]
    exact decide_eq_true ⟨by omega, hf⟩
  refine ⟨_, e1, ?_, ?_, e2, ?_, ?_⟩
  all_goals unfold F.hdata; rw [if_pos (.inl hl)]; unfold F.takes; rw [if_pos hf]
  all_goals generalize k.ds.length + bn k.fin = ln at *
  all_goals by_cases hfin : k.fin = true
  all_goals (first | rw [if_pos hfin] | rw [if_neg hfin])
  · have S := finc_same (y.rcvd (on y.rcv (ln : Int))) t
    have S2 := finc_S (y.rcvd (on y.rcv (ln : Int))) t
    rw [if_pos hfin]
    generalize (y.rcvd (on y.rcv (ln : Int))).finc t = z at *
    refine ⟨S2.1.trans (by show finS y.st = _; rw [hst]), S.2.1.trans h.ks, S.1.trans h.b, S.2.2.1.trans h.e_, S.2.2.2.2.trans (by show on y.rcv (ln : Int) = _; rw [h.rcv]), rfl, h.lt, on_lt _ _⟩
  · rw [if_neg hfin]
    exact ⟨hst, h.ks, h.b, h.e_, by show on y.rcv (ln : Int) = _; rw [h.rcv], rfl, h.lt, on_lt _ _⟩
  · have S := finc_same (y.rcvd (on y.rcv (ln : Int))) t
    have S2 := finc_S (y.rcvd (on y.rcv (ln : Int))) t
    generalize (y.rcvd (on y.rcv (ln : Int))).finc t = z at *
    have hz : z.st ≠ 1 := by
      rw [S2.1]
      show finS y.st ≠ 1
      unfold finS
      rw [hst]
      rcases hs with rfl | rfl | rfl <;> decide
    show z.os ++ [(⟨tK y.en, z.rcv, decide (z.st ≠ 1), false⟩ : Ou)] = _
    rw [S.2.2.2.1, S.2.2.2.2, decide_eq_true hz]
    show y.os ++ [(⟨tK y.en, on y.rcv (ln : Int), true, false⟩ : Ou)] = _
    rw [h.os, h.e_, h.rcv, List.nil_append]
  · have hz : y.st ≠ 1 := by omega
    show y.os ++ [(⟨tK y.en, on y.rcv (ln : Int), decide (y.st ≠ 1), false⟩ : Ou)] = _
    rw [h.os, h.e_, h.rcv, decide_eq_true hz, List.nil_append]
  · have S2 := finc_S (y.rcvd (on y.rcv (ln : Int))) t
    generalize (y.rcvd (on y.rcv (ln : Int))).finc t = z at *
    show z.dw = _
    rw [S2.2]
    show (if y.st = 5 then (8 : Int) else y.dw) = _
    rw [hst]
    by_cases h5 : s = 5
    · rw [if_pos h5, if_pos ⟨hfin, h5⟩]
    · rw [if_neg h5, if_neg (fun e => h5 e.2)]
  · show y.dw = _
    rw [if_neg (fun e => hfin e.1)]
  · intro _ h5
    unfold F.finc
    rw [if_neg (by show ¬ y.st = 3; omega), if_neg (by show ¬ y.st = 4; omega), if_pos (by show y.st = 5; omega)]
    rfl
  · intro h _
    exact absurd h hfin
theorem bf_same {a : Nat} (h : a < 4294967296) : bf a a = false := bf_self a h
/-- An acknowledgement of the one piece that is left. -/
theorem hear_ack {x : F} {s en rc : Nat} {k : Ky} (h : Qo x s en rc k) (hs : s = 3 ∨ s = 4 ∨ s = 8) (hf : k.fin = true ↔ s ≠ 3) (hsy : k.syn = false) (hl : 0 < k.len) (hl2 : k.len ≤ 1000) (t : Int) :
    ∃ X, x.hearO ⟨tK rc, on en (k.len : Int), true, false⟩ t = X ∧ Qf X.quiet (if s = 4 then 5 else if s = 8 then 10 else s) (on en (k.len : Int)) rc ∧ X.os = x.os ∧ X.dw = 0 := by
  have hst := h.st
  have H := h
  have hg : x.gone (on en (k.len : Int)) = [k.at en] := by
    have h1 : Go.Proofs.Ytnpkmkjenlhkiaa.st x.b (on en (k.len : Int)) = k.len := by
      rw [h.b]
      have := st_on_self h.lt (k.len : Int)
      omega
    unfold F.gone
    rw [h1, h.ks, if_pos (by show k.len ≤ k.len + 0; omega)]
    show List.take (if k.len ≤ k.len then 0 + 1 else 0) [k.at en] = _
    rw [if_pos (Nat.le_refl _)]
    rfl
  have hne : x.gone (on en (k.len : Int)) ≠ [] := by rw [hg]; exact List.cons_ne_nil _ _
  have ha : x.acked (on en (k.len : Int)) t = x.ackd 1 t := by
    rcases acked_ x (on en (k.len : Int)) t with ⟨e, _⟩ | ⟨_, e⟩
    · exact absurd e hne
    · rw [e, hg]; rfl
  have A := ackd_same x 1 t
  have A2 := ackd_en x 1 t
  have A3 := ackd_os x 1 t
  have hdk : x.ks.drop 1 = [] := by rw [h.ks]; rfl
  have A4 : (x.ackd 1 t).dw = 0 := by
    unfold F.ackd
    have hz : ∀ z : F, z.ks = [] → (z.fresh_.redue t).dw = 0 := fun z hz => by
      unfold F.redue
      rw [if_pos (show z.fresh_.ks = [] from hz)]
      rfl
    apply hz
    split
    · exact hdk
    · exact hdk
  obtain ⟨y, hy⟩ : ∃ y, y = x.ackd 1 t := ⟨_, rfl⟩
  rw [← hy] at A A2 A3 A4 ha
  have hk1 : x.hacks (on en (k.len : Int)) true t = y.hk1 (k.at en) t := by
    unfold F.hacks F.hack
    rw [if_pos rfl, ha, hg]
    rfl
  have Ab : y.b = on en (k.len : Int) := by
    rw [A.2.1, h.ks, h.b]
    show on en ((k.len + 0 : Nat) : Int) = _
    rw [Nat.add_zero]
  -- behind what a Fin makes of it
  obtain ⟨Z, hZ⟩ : ∃ Z, Z = y.hk1 (k.at en) t := ⟨_, rfl⟩
  have hZs : Z.ks = [] ∧ Z.b = on en (k.len : Int) ∧ Z.en = on en (k.len : Int) ∧ Z.rcv = rc ∧ Z.os = x.os ∧ Z.st = (if s = 4 then 5 else if s = 8 then 10 else s) ∧ Z.dw = 0 := by
    have yst : y.st = s := A.2.2.1.trans hst
    rw [hZ]
    unfold F.hk1
    rw [if_neg (by show ¬ (k.syn = true ∧ _); rw [hsy]; rintro ⟨h, _⟩; cases h)]
    by_cases hfin : k.fin = true
    · rw [if_pos (show (k.at en).fin = true from hfin)]
      have S := fina_same y t
      have S2 := fina_S y t
      generalize y.fina t = z at *
      refine ⟨S.2.1.trans (A.1.trans hdk), S.1.trans Ab, S.2.2.1.trans (A2.trans h.e_), S.2.2.2.2.trans (A.2.2.2.1.trans h.rcv), S.2.2.2.1.trans A3, ?_, ?_⟩
      · rw [S2.1, yst]
        have := hf.1 hfin
        rcases hs with rfl | rfl | rfl
        · exact absurd rfl this
        · rfl
        · rfl
      · rw [S2.2, yst, A4]
        rcases hs with rfl | rfl | rfl <;> rfl
    · rw [if_neg (show ¬ (k.at en).fin = true from hfin)]
      have h3 : s = 3 := by
        rcases Nat.decEq s 3 with h | h
        · exact absurd (hf.2 h) hfin
        · exact h
      refine ⟨A.1.trans hdk, Ab, A2.trans h.e_, A.2.2.2.1.trans h.rcv, A3, ?_, A4⟩
      rw [yst, h3]
      rfl
  rw [← hZ] at hk1
  clear hZ hy ha A A2 A3 A4 Ab hg hne
  have e1 : x.hearO ⟨tK rc, on en (k.len : Int), true, false⟩ t = if 3 ≤ Z.st ∧ Z.st ≤ 9 then Z.hdata rc 0 false t else Z := by
    unfold F.hearO F.hear
    dsimp only
    rw [if_neg (by omega), if_neg (by omega), if_neg (show ¬ (tK rc).syn = true from (by show ¬ false = true; decide)), hk1]
    rfl
  obtain ⟨z1, z2, z3, z4, z5, z6, z7⟩ := hZs
  refine ⟨_, e1, ?_⟩
  by_cases h39 : 3 ≤ Z.st ∧ Z.st ≤ 9
  · rw [if_pos h39]
    have e2 : Z.hdata rc 0 false t = Z.takes rc 0 false t := by
      unfold F.hdata
      rw [if_neg]
      rintro (h | h)
      · omega
      · rw [z4, bf_same H.rl] at h
        cases h
    rw [e2]
    have S := takes_same Z rc 0 false t
    have S2 := takes_rcv Z rc 0 false t
    have S3 : (Z.takes rc 0 false t).st = Z.st ∧ (Z.takes rc 0 false t).dw = Z.dw := by
      unfold F.takes
      split
      · rw [if_neg (by decide)]; exact ⟨rfl, rfl⟩
      · exact ⟨rfl, rfl⟩
    have hr : (Z.takes rc 0 false t).rcv = rc := by
      rw [S2]
      split
      · rw [z4]; exact on_zero h.rl
      · exact z4
    generalize Z.takes rc 0 false t = z at *
    exact ⟨⟨S3.1.trans z6, S.2.1.trans z1, S.1.trans z2, S.2.2.1.trans z3, hr, rfl, on_lt _ _, h.rl⟩, S.2.2.2.trans z5, S3.2.trans z7⟩
  · rw [if_neg h39]
    exact ⟨⟨z6, z1, z2, z3, z4, rfl, on_lt _ _, h.rl⟩, z5, z7⟩
end Go.Proofs.Ytnpkmkjenlhkiaa

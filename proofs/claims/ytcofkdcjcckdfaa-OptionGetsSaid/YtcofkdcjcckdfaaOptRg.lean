/- The document's own way to read any option: what it answers is what the program's own way answers; words for its answer. No condition. -/
import Derived.Test.YtcofkdcjcckdfaaOptWp
namespace Go.Proofs.Ytcofkdcjcckdfaa
set_option linter.unusedVariables false
set_option linter.unusedSimpArgs false
open Go.RowKit

/-- The document's words, of bytes that begin with x. -/
theorem getR_ref (x : UInt8) (l : List UInt8) : getR (x :: l) =
    if sz (x.toNat : Int) = 0 then (zK 0, [], 4) else if (x :: l).length < sz (x.toNat : Int) then (zK 0, [], 3)
    else if rrightB (prs (zK (x.toNat : Int)) (tab (x.toNat : Int)) (((x :: l).take (sz (x.toNat : Int))).drop 1)) && (ob (prs (zK (x.toNat : Int)) (tab (x.toNat : Int)) (((x :: l).take (sz (x.toNat : Int))).drop 1)) == (x :: l).take (sz (x.toNat : Int)))
      then (prs (zK (x.toNat : Int)) (tab (x.toNat : Int)) (((x :: l).take (sz (x.toNat : Int))).drop 1), (x :: l).drop (sz (x.toNat : Int)), 0) else (zK 0, [], 4) := by
  have h0 : getR (x :: l) = getK x.toNat l := getR_cons x l
  rw [h0]
  have hx := x.toNat_lt
  by_cases hs : sz (x.toNat : Int) = 0
  · rw [if_pos hs, getK_none hs]
  rw [if_neg hs]
  by_cases hl : (x :: l).length < sz (x.toNat : Int)
  · rw [if_pos hl, getK_short hs (by simpa using hl)]
  rw [if_neg hl]
  have hsz := sz_pos hs
  rw [hsz] at hl ⊢
  rw [List.length_cons] at hl
  have e1 : (x :: l).take (1 + long (tab (x.toNat : Int))) = x :: l.take (long (tab (x.toNat : Int))) := by rw [Nat.add_comm]; rfl
  have e2 : (x :: l).drop (1 + long (tab (x.toNat : Int))) = l.drop (long (tab (x.toNat : Int))) := by rw [Nat.add_comm]; rfl
  rw [e1, e2, show (x :: l.take (long (tab (x.toNat : Int)))).drop 1 = l.take (long (tab (x.toNat : Int))) from rfl]
  have hfl : (l.take (long (tab (x.toNat : Int)))).length = long (tab (x.toNat : Int)) := by rw [List.length_take]; omega
  unfold getK
  rw [if_neg (by omega)]
  have hP := prs_ok (tab (x.toNat : Int)) (zK (x.toNat : Int)) (l.take (long (tab (x.toNat : Int)))) (zK_ok (by unfold isInt; omega)) (fine_tab _).1
  have hk := prs_kind (tab (x.toNat : Int)) (zK (x.toNat : Int)) (l.take (long (tab (x.toNat : Int))))
  have hiff := okL_iff (tab (x.toNat : Int)) (zK (x.toNat : Int)) (l.take (long (tab (x.toNat : Int)))) (wide_tab _) (fine_tab _).2.2 hfl
  generalize l.take (long (tab (x.toNat : Int))) = f at *
  generalize prs (zK (x.toNat : Int)) (tab (x.toNat : Int)) f = P at *
  have hk' : P.kind = (x.toNat : Int) := hk
  have hob : ob P = x :: toldB P (tab (x.toNat : Int)) := by
    unfold ob
    rw [hk', byte_one]
    have e : UInt8.ofNat (u64 (x.toNat : Int)) = x := by
      apply UInt8.toNat_inj.1
      rw [UInt8.toNat_ofNat']
      have := u64_int (x.toNat : Int)
      omega
    rw [e]
    rfl
  have hb : (ob P == x :: f) = okL (tab (x.toNat : Int)) f := by
    rw [Bool.eq_iff_iff, beq_iff_eq, hob, hiff, List.cons.injEq]
    exact ⟨fun h => h.2, fun h => ⟨rfl, h⟩⟩
  rw [hb, right_eq P hP, Bool.and_comm]

/-- The document's answer, as its cells. -/
def gv (o : Opt) (v : Value) (e : Int) : List Value := o.vals ++ [v, .int .i64 e]
theorem gv_length (o : Opt) (v : Value) (e : Int) : (gv o v e).length = 16 := rfl
theorem gv_one (o : Opt) (A : Option Addr) (n c : Nat) (e : Int) : ∀ u ∈ gv o (.slice A n c) e, u.oneCell' = true := by
  intro u hu
  unfold gv at hu
  rcases List.mem_append.1 hu with h | h
  · exact vals_one o u h
  · simp only [List.mem_cons, List.not_mem_nil, or_false] at h
    rcases h with rfl | rfl <;> rfl
theorem infoGot : (Try.prog.info? 39).map (·.size) = some 16 := by kernel_rfl
theorem zeroGot : (Try.prog.info? 39).map (·.zero) = some (some (.agg (gv (zK 0) (.slice none 0 0) 0).toArray)) := by kernel_rfl
theorem build_got (o : Opt) (A : Option Addr) (n c : Nat) (W : World) : (Instr.build 39 #[(0, .agg o.vals.toArray), (1, .slice A n c), (2, .int .i64 0)]).run Try.prog W = .ok (.agg (gv o (.slice A n c) 0).toArray) W := by kernel_rfl
/-- Of a block that holds an answer: the option in it, the bytes behind it, the error. -/
theorem gv_opt {w : World} {b : Nat} {o : Opt} {v : Value} {e : Int} (h : Own w b (gv o v e)) : w.rangeAt b 0 o.vals := fun j u hu => by
  have hj : j < 14 := (List.getElem?_eq_some_iff.1 hu).1
  rw [Nat.zero_add, (h j (by rw [gv_length]; omega)).1]
  unfold gv
  rw [List.getElem?_append_left (by rw [o.vals_length]; exact hj), hu]
theorem gv_rest {w : World} {b : Nat} {o : Opt} {v : Value} {e : Int} (h : Own w b (gv o v e)) : w.cell? ⟨b, 14, none⟩ = some v := (h 14 (by rw [gv_length]; omega)).1
theorem gv_err {w : World} {b : Nat} {o : Opt} {v : Value} {e : Int} (h : Own w b (gv o v e)) : w.cell? ⟨b, 15, none⟩ = some (.int .i64 e) := (h 15 (by rw [gv_length]; omega)).1
/-- What the document's own way leaves. -/
def RGetMade (W : World) (r : Opt × List UInt8 × Int) (e : Ending) (w' : World) : Prop :=
  ∃ A c, e = .returned (.agg (gv r.1 (.slice A r.2.1.length c) r.2.2).toArray) ∧ RB w' A r.2.1.length c r.2.1 ∧ Below W.heap.size W w'
theorem rgetMade_err {W w' : World} {e : Ending} {x : Int} (h : e = .returned (.agg (gv (zK 0) (.slice none 0 0) x).toArray)) (hb : Below W.heap.size W w') : RGetMade W (zK 0, [], x) e w' :=
  ⟨none, 0, h, RB.nil_ _, hb⟩
end Go.Proofs.Ytcofkdcjcckdfaa

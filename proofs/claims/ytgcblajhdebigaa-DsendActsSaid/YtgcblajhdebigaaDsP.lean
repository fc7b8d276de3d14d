/- A sender of which nothing is lost, or one run alone: what its calls tell, and make of it. No condition. -/
import Derived.Test.YtgcblajhdebigaaDsI
namespace Go.Proofs.Ytgcblajhdebigaa
set_option linter.unusedVariables false
set_option linter.unusedSimpArgs false

/-- Nothing is lost. -/
def cl (b : List UInt8) (u q e : Nat) (t : Bool) : Dq := ⟨b, fun _ => false, u, q, e, t, false⟩
/-- One run is lost. -/
def ls1 (b : List UInt8) (u q e : Nat) (t : Bool) (f n : Nat) : Dq := ⟨b, fun k => decide (f ≤ k ∧ k < f + n), u, q, e, t, false⟩
section
variable {b : List UInt8} {u q e : Nat} {t : Bool}
theorem cl_from (h : u ≤ q) : (cl b u q e t).from_ = q := by
  unfold Dq.from_
  show seek (fun _ => false) u (q - u) = q
  rw [seek_none (fun _ _ _ => rfl)]
  omega
theorem cl_most (h : u ≤ q) (m : Nat) : (cl b u q e t).most m = min m (min e (b.length + 1) - q) := by
  unfold Dq.most
  rw [cl_from h]
  exact if_neg (Nat.lt_irrefl q)
theorem cl_dsn (h : u ≤ q) (m : Nat) : (cl b u q e t).dsn m = if min m (min e (b.length + 1) - q) = 0 then 0 else q := by
  unfold Dq.dsn
  rw [cl_most h, cl_from h]
theorem cl_got (h : u ≤ q) (m : Nat) : (cl b u q e t).got m = (b.drop (q - 1)).take (min m (min e (b.length + 1) - q)) := by
  unfold Dq.got
  rw [cl_most h, cl_from h]
  rfl
theorem cl_take (h : u ≤ q) (m : Nat) : (cl b u q e t).take m = cl b u (q + min m (min e (b.length + 1) - q)) e t := by
  unfold Dq.take
  rw [cl_most h, cl_from h]
  generalize min m (min e (b.length + 1) - q) = n
  show (⟨b, fun k => false && _, u, max q (q + n), e, t, false⟩ : Dq) = ⟨b, fun _ => false, u, q + n, e, t, false⟩
  rw [show max q (q + n) = q + n from by omega]
  rfl
theorem cl_lose (f n : Nat) : (cl b u q e t).lose f (f + n) = ls1 b u q e t f n := by
  show (⟨b, fun k => false || decide (f ≤ k ∧ k < f + n), u, q, e, t, false⟩ : Dq) = ⟨b, fun k => decide (f ≤ k ∧ k < f + n), u, q, e, t, false⟩
  rfl
theorem cl_kept (f n : Nat) : kept (cl b u q e t).L f n = n := kept_all (fun _ _ _ => rfl)
theorem cl_due (h : u ≤ q) : (cl b u q e true).due = if q = b.length + 1 then b.length + 1 else 0 := by
  unfold Dq.due
  rw [cl_from h]
  show (if true = true ∧ q = b.length + 1 ∧ q = q ∧ false = false then b.length + 1 else 0) = _
  by_cases hq : q = b.length + 1
  · rw [if_pos ⟨rfl, hq, rfl, rfl⟩, if_pos hq]
  · rw [if_neg (fun h => hq h.2.1), if_neg hq]
theorem ls1_from {f n : Nat} (h : u ≤ f) (hn : 1 ≤ n) (hf : f < q) : (ls1 b u q e t f n).from_ = f := by
  unfold Dq.from_
  refine seek_eq h ?_ (fun j h1 h2 => ?_) ?_
  · show f < u + (q - u); omega
  · show decide (f ≤ j ∧ j < f + n) = false
    rw [decide_eq_false]; omega
  · show decide (f ≤ f ∧ f < f + n) = true
    rw [decide_eq_true]; omega
theorem ls1_most {f n : Nat} (h : u ≤ f) (hn : 1 ≤ n) (hf : f < q) {m : Nat} (hm : n ≤ m) : (ls1 b u q e t f n).most m = n := by
  unfold Dq.most
  rw [ls1_from h hn hf]
  rw [if_pos (show f < (ls1 b u q e t f n).next from hf)]
  refine runl_eq hm (fun j h1 h2 => ?_) (fun _ => ?_)
  · show decide (f ≤ j ∧ j < f + n) = true
    rw [decide_eq_true]; omega
  · show decide (f ≤ f + n ∧ f + n < f + n) = false
    rw [decide_eq_false]; omega
theorem ls1_dsn {f n : Nat} (h : u ≤ f) (hn : 1 ≤ n) (hf : f < q) {m : Nat} (hm : n ≤ m) : (ls1 b u q e t f n).dsn m = f := by
  unfold Dq.dsn
  rw [ls1_most h hn hf hm, ls1_from h hn hf, if_neg (by omega)]
theorem ls1_got {f n : Nat} (h : u ≤ f) (hn : 1 ≤ n) (hf : f < q) {m : Nat} (hm : n ≤ m) : (ls1 b u q e t f n).got m = (b.drop (f - 1)).take n := by
  unfold Dq.got
  rw [ls1_most h hn hf hm, ls1_from h hn hf]
  rfl
theorem ls1_take {f n : Nat} (h : u ≤ f) (hn : 1 ≤ n) (hf : f < q) (hfq : f + n ≤ q) {m : Nat} (hm : n ≤ m) : (ls1 b u q e t f n).take m = cl b u q e t := by
  unfold Dq.take
  rw [ls1_most h hn hf hm, ls1_from h hn hf]
  show (⟨b, fun k => decide (f ≤ k ∧ k < f + n) && !decide (f ≤ k ∧ k < f + n), u, max q (f + n), e, t, false⟩ : Dq) = ⟨b, fun _ => false, u, q, e, t, false⟩
  rw [show max q (f + n) = q from by omega]
  congr 1
  funext k
  cases decide (f ≤ k ∧ k < f + n) <;> rfl
theorem ls1_due {f n : Nat} (h : u ≤ f) (hn : 1 ≤ n) (hf : f < q) : (ls1 b u q e t f n).due = 0 := by
  unfold Dq.due
  rw [ls1_from h hn hf]
  refine if_neg (fun hh => ?_)
  have h1 : f = q := hh.2.2.1
  omega
end
theorem wrote_new {b : List UInt8} (h : b.length ≤ 64) : Dq.new.wrote b = cl b 1 1 33 false ∧ Dq.new.wN b.length = b.length ∧ Dq.new.wE b.length = 0 := by
  have hr : Dq.new.room_ = 64 := rfl
  refine ⟨?_, ?_, ?_⟩
  · show Dq.new.put (min b.length Dq.new.room_) b = _
    rw [hr, Nat.min_eq_left h]
    show (⟨[] ++ b.take b.length, _, _, _, _, _, _⟩ : Dq) = _
    rw [List.take_length, List.nil_append]
    rfl
  · show min b.length Dq.new.room_ = _
    rw [hr]; omega
  · show (if Dq.new.room_ = 0 ∧ 0 < b.length then (7 : Int) else 0) = 0
    rw [hr]
    rfl
theorem cl_tell (b : List UInt8) (u q e : Nat) : (cl b u q e false).tell = cl b u q e true := rfl
theorem most8 : mostOf 8 = 8 := rfl
theorem most_in (m : Int) : 1 ≤ mostOf m ∧ mostOf m ≤ 8 := by unfold mostOf; omega
end Go.Proofs.Ytgcblajhdebigaa

/- Both managers side by side. Conditions: both stand. -/
import Derived.Test.YtpkhalneclmoeaaPaU
import Derived.Test.YtpkhalneclmoeaaTri
import Derived.Test.YtpkhalneclmoeaaPaL
namespace Go.Proofs.Ytpkhalneclmoeaa
set_option linter.unusedVariables false
set_option linter.unusedSimpArgs false
open Go.RowKit Go.Lib

/-- The program's manager says p, the document's q. -/
structure Bo (W w : World) (pb xb : Nat) (p q : Pm) (L : List (Int × Int)) (y : Rx) : Prop where
  s : St w pb p
  x : Rf W.heap.size w xb q L y
  g : W.heap.size ≤ pb
  gx : W.heap.size ≤ xb
  bl : Below W.heap.size W w
section
variable {W w w' : World} {pb xb : Nat} {p p' q q' : Pm} {L : List (Int × Int)} {y : Rx}
theorem Bo.below (h : Bo W w pb xb p q L y) (b : Below w.heap.size w w') : Bo W w' pb xb p q L y := ⟨h.s.below b, h.x.below b, h.g, h.gx, h.bl.trans (b.mono h.bl.size)⟩
theorem Bo.didS (h : Bo W w pb xb p q L y) (s : St w' pb p') (c : Ch w w' (fun k => k = pb)) : Bo W w' pb xb p' q L y :=
  ⟨s, h.x.far h.s.bk c (by decide) (by decide) (by decide), h.g, h.gx, did_below h.bl c h.g⟩
theorem Bo.didX (h : Bo W w pb xb p q L y) (l : LeftR W.heap.size w xb y q' w') : ∃ L' y', Bo W w' pb xb p q' L' y' := by
  obtain ⟨L', y', r, c⟩ := l
  refine ⟨L', y', h.s.ch c (h.x.apart h.s.bk (by decide) (by decide)), r, h.g, h.gx, ?_⟩
  exact ((Ch.of_below (y.T xb) h.bl).trans c (fun _ _ e => e) (fun _ _ e => e)).below fun k hk e => by
    rcases e with e | e
    · have := h.gx
      omega
    · have := (own_in h.x.l e).1
      omega
theorem Bo.size (h : Bo W w pb xb p q L y) : W.heap.size ≤ w.heap.size := h.bl.size
end
theorem cell3 (w : World) (x y z : Value) (t : TypeId) : (w.alloc (.cells #[x, y, z] t)).cell? ⟨w.heap.size, 0, none⟩ = some x ∧ (w.alloc (.cells #[x, y, z] t)).cell? ⟨w.heap.size, 1, none⟩ = some y ∧ (w.alloc (.cells #[x, y, z] t)).cell? ⟨w.heap.size, 2, none⟩ = some z :=
  ⟨by rw [cell_of_row _ _ _ _ _ _ (heap_alloc_new w _)]; rfl, by rw [cell_of_row _ _ _ _ _ _ (heap_alloc_new w _)]; rfl, by rw [cell_of_row _ _ _ _ _ _ (heap_alloc_new w _)]; rfl⟩

/-- What the law's last test reads: what both Next told, and the document's lists. -/
structure Look (w : World) (gn gf xb : Nat) (a b : Int) (t : Bool) (y : Rx) : Prop where
  n0 : w.cell? ⟨gn, 0, none⟩ = some (.int .i64 a)
  n1 : w.cell? ⟨gn, 1, none⟩ = some (.int .i64 b)
  f0 : w.cell? ⟨gf, 0, none⟩ = some (.int .i64 a)
  f1 : w.cell? ⟨gf, 1, none⟩ = some (.int .i64 b)
  f2 : w.cell? ⟨gf, 2, none⟩ = some (.bool t)
  x0 : w.cell? ⟨xb, 0, none⟩ = some (.slice y.oA y.on y.oc)
  x1 : w.cell? ⟨xb, 1, none⟩ = some (.slice y.tA y.tn y.tc)
  x2 : w.cell? ⟨xb, 2, none⟩ = some (.slice y.lA y.ln y.lc)
theorem Look.below {w w' : World} {gn gf xb : Nat} {a b : Int} {t : Bool} {y : Rx} (h : Look w gn gf xb a b t y) (k : Below w.heap.size w w') : Look w' gn gf xb a b t y :=
  ⟨keepc k h.n0, keepc k h.n1, keepc k h.f0, keepc k h.f1, keepc k h.f2, keepc k h.x0, keepc k h.x1, keepc k h.x2⟩
theorem untL_rises (p : Pm) (x : Int) : (p.untL x).Pairwise lx := by
  unfold Pm.untL
  split
  · exact prs_rises _ _
  · exact List.Pairwise.nil
theorem ints_of {w : World} {base : Nat} {e : TypeId} {A : Option Addr} {n c : Nat} {l : List Int} (h : w.ownsRow base e 1 (.slice A n c) n (iv .i64 l)) : RI .i64 w A n c l := by
  obtain ⟨A', c', e', r, -⟩ := RI.of_own h
  injection e' with e1 _ e2
  subst e1 e2
  exact r
theorem pairs_of {w : World} {base : Nat} {e : TypeId} {A : Option Addr} {n c : Nat} {l : List (Int × Int)} (h : w.ownsRow base e 2 (.slice A n c) n (pv l)) : PS w A n c l := by
  obtain ⟨A', c', e', r⟩ := PS.of_own h
  injection e' with e1 _ e2
  subst e1 e2
  exact r
/-- A row of the program's pairs stays where the document's manager is written. -/
theorem row_far {W w w' : World} {pb xb : Nat} {p q : Pm} {L : List (Int × Int)} {y : Rx} (h : Bo W w pb xb p q L y) {b0 : Nat} {v : Value} {n : Nat} {l : List (Int × Int)} (o : w.ownsRow b0 45 2 v n (pv l)) (c : Ch w w' (y.T xb)) : w'.ownsRow b0 45 2 v n (pv l) :=
  own_ch2 o c fun g hg e => by
    rcases e with e | e
    · exact own_type o h.x.blk (by decide) (by rw [hg, e])
    · obtain ⟨cs, hc⟩ := ch_ownrow o hg
      obtain ⟨cs', hc'⟩ := ch_ownrow h.x.l e
      have := Option.some.inj (Eq.trans (Eq.symm hc) hc')
      injection this with _ h2 _
      exact absurd h2 (by decide)
theorem DidG.left {base : Nat} {w : World} {xb : Nat} {v : Value} {p' : Pm} {e : Ending} {w' : World} (y : Rx) (h : DidG base w xb v p' e w') : DidR base w xb y v p' e w' := by
  obtain ⟨h1, L, y', r, c, -⟩ := h
  exact ⟨h1, L, y', r, c.mono fun _ _ e => .inl e⟩
end Go.Proofs.Ytpkhalneclmoeaa

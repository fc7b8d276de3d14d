/- A table of tokens, as its callers see it. No condition. -/
import Derived.Test.YtgkonmjchdpohaaDoorTkM
import Derived.Test.YtgkonmjchdpohaaDoorKeyTk
import Derived.Test.YtgkonmjchdpohaaDoorShaL
import Derived.Test.YtgkonmjchdpohaaDoorInt
import Derived.Deep.RegionHeld3
namespace Go.Proofs.YtgkonmjchdpohaaDoor
set_option linter.unusedVariables false
set_option linter.unusedSimpArgs false
open Go.RowKit

def ptr (b : Nat) : Value := .pointer (some ⟨b, 0, none⟩)
def isI (h : Int) : Prop := -9223372036854775808 ≤ h ∧ h ≤ 9223372036854775807

/-- At block tb stands a table with room for c tokens; its map, at block mb, holds l. -/
structure Tb (w : World) (tb mb c : Nat) (l : Ents) : Prop where
  blk : w.heap[tb]? = some (.cells #[.int .i64 (c : Int), .map (some mb)] 63 (0, 0))
  map : MapE w mb l
  room : c ≤ 64
  fits : l.length ≤ c

section
variable {w w' : World} {tb mb c : Nat} {l : Ents}
theorem Tb.lt (h : Tb w tb mb c l) : tb < w.heap.size := (Array.getElem?_eq_some_iff.1 h.blk).1
theorem Tb.c0 (h : Tb w tb mb c l) : w.cell? ⟨tb, 0, none⟩ = some (.int .i64 (c : Int)) := by rw [cell_of_row w tb 0 _ _ (0, 0) h.blk]; rfl
theorem Tb.c1 (h : Tb w tb mb c l) : w.cell? ⟨tb, 1, none⟩ = some (.map (some mb)) := by rw [cell_of_row w tb 1 _ _ (0, 0) h.blk]; rfl
theorem Tb.ne (h : Tb w tb mb c l) : tb ≠ mb := fun e => by
  obtain ⟨D, ⟨es, cl, hb, _⟩, _⟩ := h.map
  have h1 := h.blk
  rw [e, hb] at h1
  cases h1
theorem Tb.ch (h : Tb w tb mb c l) {m : Nat → Prop} (k : Ch w w' m) (h1 : ¬ m tb) (h2 : ¬ m mb) : Tb w' tb mb c l := ⟨(k.block tb h.lt h1).trans h.blk, h.map.keep (k.block mb h.map.lt h2), h.room, h.fits⟩
theorem Tb.below (h : Tb w tb mb c l) (b : RowKit.Below w.heap.size w w') : Tb w' tb mb c l := h.ch (Ch.of_below (fun _ => False) b) (fun e => e) fun e => e
theorem Tb.drew (h : Tb w tb mb c l) : Tb w.drew tb mb c l := h.ch (Ch.refl w fun _ => False).drew (fun e => e) fun e => e
theorem Tb.drewN (h : Tb w tb mb c l) (n : Nat) : Tb (w.drewN n) tb mb c l := h.ch ((Ch.refl w fun _ => False).drewN n) (fun e => e) fun e => e
theorem Tb.alloc (h : Tb w tb mb c l) (o : Obj) : Tb (w.alloc o) tb mb c l := h.ch ((Ch.refl w fun _ => False).alloc o) (fun e => e) fun e => e
theorem Tb.put (h : Tb w tb mb c l) {l' : Ents} (k : Ch w w' (fun g => g = mb)) (hm : MapE w' mb l') (hf : l'.length ≤ c) : Tb w' tb mb c l' := ⟨(k.block tb h.lt h.ne).trans h.blk, hm, h.room, hf⟩
end

/-- How much room there is. -/
def cp (t : Int) : Nat := (min (max t 1) 64).toNat
theorem cp_eq (t : Int) : ((cp t : Nat) : Int) = min (max t 1) 64 := by unfold cp; omega
theorem cp_le (t : Int) : 1 ≤ cp t ∧ cp t ≤ 64 := by unfold cp; omega

set_option maxHeartbeats 1600000 in
theorem tnew_any (t : Int) (ht : isI t) (w : World) : Calls Tryd.prog 9 #[.int .i64 t] w fun e w' => ∃ tb mb, e = .returned (ptr tb) ∧ Tb w' tb mb (cp t) [] ∧ RowKit.Below w.heap.size w w' ∧ w.heap.size ≤ tb ∧ w.heap.size ≤ mb := by
  have hmm := @run_makeMap Tryd.prog
  have hc := cp_eq t
  have hc2 := cp_le t
  have key : Tb ((w.alloc (.map #[] 0)).alloc (.cells #[.int .i64 (cp t : Nat), .map (some w.heap.size)] 63)) (w.heap.size + 1) w.heap.size (cp t) [] := by
    refine ⟨?_, (MapE.made w).keep (Below.heap_alloc _ _ _ (by simp)), hc2.2, Nat.zero_le _⟩
    have h := heap_alloc_new (w.alloc (.map #[] 0)) (.cells #[.int .i64 (cp t : Nat), .map (some w.heap.size)] 63)
    rw [World.size_alloc] at h
    exact h
  have HK := Lib.hid key
  clear key
  generalize cp t = n at *
  unfold isI at ht
  obtain ⟨M, hM⟩ : ∃ M, max t 1 = M := ⟨_, rfl⟩
  rw [hM] at hc
  have hc3 := hc.symm
  clear hc
  unfold ptr at *
  go_enter Tryd.func9, Tryd.ntmps9
  go_wp2_with fail
  go_ret
  exact ⟨w.heap.size + 1, w.heap.size, rfl, HK.out, ((RowKit.Below.refl _ _).alloc (Nat.le_refl _) _).alloc (by simp) _, by omega, Nat.le_refl _⟩

set_option maxHeartbeats 1600000 in
theorem tfind_any {w : World} {tb mb c : Nat} {l : Ents} (h : Tb w tb mb c l) {k : Nat} (hk : k < 4294967296) :
    Calls Tryd.prog 19 #[ptr tb, .int .u32 (k : Int)] w fun e w' => e = .returned (.tuple #[.int .i64 ((fnd l k).getD Ent.none).owner, .bool ((fnd l k).getD Ent.none).live]) ∧ RowKit.Below w.heap.size w w' := by
  have c1 := h.c1
  have hl := h.map.look hk w rfl
  clear hk
  generalize (fnd l k).getD Ent.none = e at *
  obtain ⟨lv, ow, fr⟩ := e
  unfold Ent.val at hl
  dsimp only at hl ⊢
  have hb : RowKit.Below w.heap.size w (w.alloc (.cells #[.bool lv, .int .i64 ow, .int .i64 fr] 65)) := below_a _ _
  have HB := Lib.hid hb
  clear h hb
  unfold ptr
  go_enter Tryd.func19, Tryd.ntmps19
  go_wp2_with fail
  go_quiet (fail)
  go_wp2_with fail
  go_ret2
  exact ⟨rfl, below_dn HB.out _⟩

theorem fld0 (b : Bool) (o f : Int) (w : World) : (Instr.field 65 (.agg #[.bool b, .int .i64 o, .int .i64 f]) 0).run Tryd.prog w = .ok (.bool b) w := by kernel_rfl

set_option maxRecDepth 20000 in
set_option maxHeartbeats 1600000 in
theorem tfree_no {w : World} {tb mb c : Nat} {l : Ents} (h : Tb w tb mb c l) {k : Nat} (hk : k < 4294967296) (hn : ((fnd l k).getD Ent.none).live = false) (t : Int) :
    Calls Tryd.prog 14 #[ptr tb, .int .u32 (k : Int), .int .i64 t] w fun e w' => e = .returned (.int .i64 6) ∧ w' = w := by
  have c1 := h.c1
  have hl := h.map.look hk w rfl
  clear hk h
  generalize (fnd l k).getD Ent.none = e at *
  obtain ⟨lv, ow, fr⟩ := e
  unfold Ent.val at hl
  dsimp only at hl hn
  subst hn
  have hfd := fld0 false ow fr w
  unfold ptr
  go_enter Tryd.func14, Tryd.ntmps14
  go_wp2_with fail
  go_ret
  exact ⟨rfl, rfl⟩
set_option maxRecDepth 20000 in
set_option maxHeartbeats 1600000 in
theorem tfree_yes {w : World} {tb mb c : Nat} {l : Ents} (h : Tb w tb mb c l) {k : Nat} (hk : k < 4294967296) (hn : ((fnd l k).getD Ent.none).live = true) (t : Int) :
    Calls Tryd.prog 14 #[ptr tb, .int .u32 (k : Int), .int .i64 t] w fun e w' => e = .returned (.int .i64 0) ∧ Tb w' tb mb c (upd l k ⟨false, 0, t⟩) ∧ Ch w w' (fun g => g = mb) := by
  have c1 := h.c1
  have hl := h.map.look hk w rfl
  have hin : k ∈ keys l := by
    cases hf : fnd l k with
    | none => rw [hf] at hn; cases hn
    | some e => exact mem_keys (fnd_some hf)
  have HT := Lib.hid h
  have HKK := Lib.hid hk
  have HIN := Lib.hid hin
  have hfit := h.fits
  have hroom := h.room
  clear hk h hin
  generalize (fnd l k).getD Ent.none = e at *
  obtain ⟨lv, ow, fr⟩ := e
  unfold Ent.val at hl
  dsimp only at hl hn
  subst hn
  have hfd := fld0 true ow fr w
  unfold ptr
  go_enter Tryd.func14, Tryd.ntmps14
  go_wp2_with (first | (at_mapUpdate; refine wpList_putE rfl _ _ _ rfl rfl HT.out.map HKK.out rfl ⟨false, 0, t⟩ rfl (by omega) (.inr ⟨HIN.out, rfl⟩) ?_; intro w4 M4 tu))
  go_ret
  have hch := (Ch.refl w (fun g => g = mb)).turned tu fun _ => rfl
  exact ⟨rfl, HT.out.put hch M4 (by unfold upd; rw [List.length_map]; exact HT.out.fits), hch⟩

end Go.Proofs.YtgkonmjchdpohaaDoor

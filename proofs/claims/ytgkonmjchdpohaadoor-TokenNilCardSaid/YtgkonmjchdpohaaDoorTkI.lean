/- Time goes on: the contract of Tick. Condition: the ticks are whole numbers of 64 bits. -/
import Derived.Test.YtgkonmjchdpohaaDoorTkR
namespace Go.Proofs.YtgkonmjchdpohaaDoor
set_option linter.unusedVariables false
set_option linter.unusedSimpArgs false
open Go.RowKit

theorem Kp.sub {l : Ents} {left : Nat → Bool} {t : Int} {p : Nat × Ent} (h : p ∈ Kp l left t) : p ∈ l := (List.mem_filter.1 h).1

/-- While a table goes on to tick t. -/
def TI (w : World) (mb : Nat) (l : Ents) (t : Int) (v : Value) (wr : World) : Prop :=
  ∃ left cnt, Rg wr mb w.heap.size (Kp l left t) left cnt ∧ v = .int .i64 ((l.length - (Kp l left t).length : Nat) : Int) ∧ Ch w wr (fun g => g = mb)

set_option maxRecDepth 20000 in
set_option maxHeartbeats 1600000 in
theorem ttick_any {w : World} {tb mb c : Nat} {l : Ents} (h : Tb w tb mb c l) (hf : ∀ p ∈ l, isI p.2.freed) {t : Int} (ht : isI t) :
    Calls Tryd.prog 16 #[ptr tb, .int .i64 t] w fun e w' => e = .returned (.int .i64 ((l.length - (l.filter fun p => !ov p.2 t).length : Nat) : Int)) ∧ Tb w' tb mb c (l.filter fun p => !ov p.2 t) ∧ Ch w w' (fun g => g = mb) := by
  have c1 := h.c1
  have HH := Lib.hid h
  have HF := Lib.hid hf
  have HTI := Lib.hid ht
  have HND := Lib.hid h.map.nd
  have HKY := Lib.hid h.map.key
  have htl := h.lt
  have hml := h.map.lt
  have hne := h.ne
  have hroom := h.room
  have hfits := h.fits
  clear h hf ht
  unfold ptr
  go_enter Tryd.func16, Tryd.ntmps16
  go_wp2_with (first | (at_range; refine wpList_rangeE rfl _ rfl rfl HH.out.map ?_; intro w0 R0 b0 s0))
  go_frame
  have HS : Hid (TI w mb l t (.int .i64 0) w0) := Lib.hid ⟨_, _, by rw [Kp.start]; exact R0, by rw [Kp.start]; simp, Ch.of_below _ b0⟩
  clear R0 b0 s0
  go_loopw [5] (fun v wr => TI w mb l t v wr) (fun _ wr => wr.rangeLeft mb w.heap.size)
  case atStart => exact HS.out
  case round =>
    obtain ⟨left, cnt, R, rfl, ch⟩ := hrel
    have HRG := Lib.hid R
    have HCH := Lib.hid ch
    have HLE : Hid ((Kp l left t).length ≤ l.length) := Lib.hid (List.length_filter_le _ _)
    clear R ch
    go_wp2_with (first | (at_next; refine wpList_nextE rfl _ rfl rfl HRG.out ?_ ?_))
    · intro hl0
      have HL := Lib.hid (Kp.done (t := t) HKY.out hl0)
      clear hl0
      go_wp2_with fail
      go_ret
      rw [HL.out]
      exact ⟨rfl, HH.out.put HCH.out (by rw [← HL.out]; exact HRG.out.mapE) (Nat.le_trans (List.length_filter_le _ _) hfits), HCH.out⟩
    · intro k e w1 cnt1 hk hlk hin R1 hlt g1 s1 hen
      have hin2 := Kp.sub hin
      have HO := Lib.hid (fun W => over_any e t W (HF.out _ hin2) HTI.out)
      have hr := HRG.out.lt
      have hcs := HCH.out.size
      have HC1 : Hid (Ch w w1 (fun g => g = mb)) := Lib.hid (HCH.out.grown g1 fun g hg hgl => by injection hg with hg; omega)
      have c2 := HC1.out.cell c1 hne
      have HR1 := Lib.hid R1
      have HK := Lib.hid hk
      have HIN := Lib.hid hin2
      have HIK := Lib.hid (mem_keys hin)
      have hlt2 := HRG.out.left_eq
      have HR0 := Lib.hid hlt2
      clear R1 g1 hlk hin hin2 hk hlt2
      obtain ⟨lv, ow, fr⟩ := e
      dsimp only at *
      cases hov : ov ⟨lv, ow, fr⟩ t with
      | true =>
        have HOV := Lib.hid hov
        rw [hov] at HO
        clear hov
        go_wp2_with (first
          | (go_at_call 26; refine (HO.out _).mono ?_; rintro en w3 ⟨rfl, b3⟩; have hb := below_trans (below_a w1 (.cells #[.bool lv, .int .i64 ow, .int .i64 fr] 65)) b3; have HC3 := Lib.hid (HC1.out.then_ (Ch.of_below _ hb)); have c3 := HC3.out.cell c1 hne; have HR3 := Lib.hid (HR1.out.below hb); clear b3 hb)
          | (at_delete; refine wpList_delR rfl _ _ rfl rfl HR3.out HK.out rfl HIK.out ?_; intro w4 cnt4 R4 hle tu; go_frame))
        have HD := Lib.hid (wo_length HRG.out.mapE.nd HIK.out)
        have hll := HD.out
        have hle2 := HLE.out
        go_roundw
        case rel =>
          refine ⟨fun j => left j && !decide (j = k), cnt4, ?_, ?_, HC3.out.turned tu fun _ => rfl⟩
          · rw [Kp.goes HND.out HIN.out HOV.out]
            have e1 : (fun j => (left j && !decide (j = k)) && !decide (j = k)) = fun j => left j && !decide (j = k) := by
              funext j
              cases left j <;> cases decide (j = k) <;> rfl
            rw [← e1]
            exact R4
          · rw [Kp.goes HND.out HIN.out HOV.out]
            congr 1
            omega
        case measure =>
          rw [R4.left_eq, HR0.out]
          omega
      | false =>
        have HOV := Lib.hid hov
        rw [hov] at HO
        clear hov
        go_wp2_with (first
          | (go_at_call 26; refine (HO.out _).mono ?_; rintro en w3 ⟨rfl, b3⟩; have hb := below_trans (below_a w1 (.cells #[.bool lv, .int .i64 ow, .int .i64 fr] 65)) b3; have HC3 := Lib.hid (HC1.out.then_ (Ch.of_below _ hb)); have HR3 := Lib.hid (HR1.out.below hb); clear b3 hb))
        go_roundw
        case rel =>
          refine ⟨fun j => left j && !decide (j = k), cnt1, ?_, ?_, HC3.out⟩
          · rw [Kp.stays HND.out HIN.out HOV.out]
            exact HR3.out
          · rw [Kp.stays HND.out HIN.out HOV.out]
        case measure =>
          rw [HR3.out.left_eq, HR0.out]
          exact hlt

end Go.Proofs.YtgkonmjchdpohaaDoor

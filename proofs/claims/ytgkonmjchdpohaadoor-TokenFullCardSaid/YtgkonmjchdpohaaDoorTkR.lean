/- A map from tokens gone through, whatever its order. No condition. -/
import Derived.Test.YtgkonmjchdpohaaDoorTkK
namespace Go.Proofs.YtgkonmjchdpohaaDoor
set_option linter.unusedVariables false
set_option linter.unusedSimpArgs false
open Go.RowKit

/-- Block r goes through the map at mb, which holds l: left says which tokens are still to come. -/
def Rg (w : World) (mb r : Nat) (l : Ents) (left : Nat → Bool) (cnt : Nat) : Prop :=
  ∃ (D : DataW Unit) (n : Nat) (lf : Lit → Bool), w.ranges Tryd.prog 38 pe mb r n D lf cnt ∧ RD D l ∧ ∀ k, k < 4294967296 → lf (tk k) = left k

section
variable {w w' : World} {mb r cnt : Nat} {l : Ents} {left : Nat → Bool}
theorem Rg.left_eq (h : Rg w mb r l left cnt) : w.rangeLeft mb r = cnt := by
  obtain ⟨D, n, lf, h, _⟩ := h
  exact h.left_eq
theorem Rg.mapE (h : Rg w mb r l left cnt) : MapE w mb l := by
  obtain ⟨D, n, lf, h, R, _⟩ := h
  exact ⟨D, own_size h.owns R.size, R⟩
theorem Rg.keep (h : Rg w mb r l left cnt) {row : Option Nat} (hg : w.grownBy w' row) (h1 : row ≠ some mb) (h2 : row ≠ some r) : Rg w' mb r l left cnt := by
  obtain ⟨D, n, lf, h, R⟩ := h
  exact ⟨D, n, lf, h.kept hg (fun e => h1 e.symm) (fun e => h2 e.symm), R⟩
theorem Rg.lt (h : Rg w mb r l left cnt) : r < w.heap.size ∧ mb < w.heap.size ∧ r ≠ mb := by
  have hm := h.mapE.lt
  obtain ⟨D, n, lf, h, R⟩ := h
  exact ⟨h.lt, hm, h.ne⟩
theorem Rg.below (h : Rg w mb r l left cnt) (b : RowKit.Below w.heap.size w w') : Rg w' mb r l left cnt :=
  h.keep (row := Option.none) ⟨b.os, b.tape, b.output, b.size, fun k hk _ => b.block k hk⟩ (fun e => by cases e) fun e => by cases e
end

section
variable {w : World} {ops : Array Oper} {rest : List Oper} {o : Oper} {a : Act} {Q : Exit → Act → World → Prop} {mb r cnt : Nat} {l : Ents} {left : Nat → Bool}

theorem wpList_rangeE (hg : o.guard = none) (m : Operand) (hop : o.op = Op.range 61 m) (hm : a.eval m = .map (some mb)) (hM : MapE w mb l)
    (hK : ∀ w', Rg w' mb w.heap.size l (fun k => decide (k ∈ keys l)) l.length → RowKit.Below w.heap.size w w' → w'.heap.size = w.heap.size + 1 → wpList Tryd.prog ops Q rest (a.put o.dst (.pointer (some ⟨w.heap.size, 0, none⟩))) w') :
    wpList Tryd.prog ops Q (o :: rest) a w := by
  obtain ⟨D, hown, R⟩ := hM
  refine wpList_range_own w hg m 61 hop 38 65 keyU Tryd.underlying61 pe mb _ D hm hown fun w' h1 h2 h3 => hK w' ?_ ⟨h2.os, h2.tape, h2.output, h2.size, fun k hk => h2.block k hk (by simp)⟩ h3
  exact ⟨D, _, Maps.has D, by rw [← R.size]; exact h1, R, R.has⟩

theorem wpList_nextE (hg : o.guard = none) (it : Operand) (hop : o.op = Op.next it false) (hit : a.eval it = .pointer (some ⟨r, 0, none⟩)) (h : Rg w mb r l left cnt)
    (hDone : (∀ k, k < 4294967296 → left k = false) → wpList Tryd.prog ops Q rest (a.put o.dst (.tuple #[.bool false])) w)
    (hMore : ∀ (k : Nat) (e : Ent) (w' : World) (cnt' : Nat), k < 4294967296 → left k = true → (k, e) ∈ l → Rg w' mb r l (fun j => left j && !decide (j = k)) cnt' → cnt' < cnt → w.grownBy w' (some r) → w'.heap.size = w.heap.size →
      (Instr.entry (.pointer (some ⟨r, 0, none⟩))).run Tryd.prog w' = .ok (.tuple #[.int .u32 (k : Int), .agg #[.bool e.live, .int .i64 e.owner, .int .i64 e.freed]]) w' →
      wpList Tryd.prog ops Q rest (a.put o.dst (.tuple #[.bool true, .int .u32 (k : Int), .agg #[.bool e.live, .int .i64 e.owner, .int .i64 e.freed]])) w') :
    wpList Tryd.prog ops Q (o :: rest) a w := by
  obtain ⟨D, n, lf, hr, R, hlf⟩ := h
  refine wpList_next_ranges w hg it hop 38 keyU pe (Value.int .u32) Ent.val (fun key kl hkey => by obtain ⟨x, rfl, _⟩ := Maps.keyOf_int_inv Tryd.underlying38 hkey; exact ⟨x, rfl⟩) (fun v y hv => by obtain ⟨e, rfl, _⟩ := pe_any hv; exact ⟨e, rfl⟩)
    mb r n D lf cnt hit hr (fun _ hl => hDone fun k hk => by rw [← hlf k hk]; exact hl _) fun x c kl y w' cnt' hkey hlk hv hat hrg hlt hgr hsz hen => ?_
  obtain ⟨x', ex, rfl, hwx⟩ := Maps.keyOf_int_inv Tryd.underlying38 hkey
  injection ex with _ ex
  subst ex
  have hb := Go.bounds_u32 hwx
  obtain ⟨k, rfl⟩ := Int.eq_ofNat_of_zero_le hb.1
  have hk : k < 4294967296 := by omega
  rw [pe_val] at hv
  injection hv with hv
  subst hv
  have hin : k ∈ keys l := by
    cases hd : decide (k ∈ keys l) with
    | true => simpa using hd
    | false =>
      have h1 := R.has k hk
      rw [hd] at h1
      have h2 := Maps.atKey_of_not_has h1 (.nil : DataW Unit)
      have h3 := hat .nil
      change D.atKey (tk k) .nil = c.dat at h3
      rw [h2] at h3
      cases h3
  obtain ⟨p, hp, hpk⟩ := List.mem_map.1 hin
  have hce : p.2 = c := by
    have h1 := R.at_ p hp .nil
    rw [hpk] at h1
    exact Ent.dat_inj (h1.symm.trans (hat .nil))
  have hmem : (k, c) ∈ l := by
    rw [← hce, ← hpk]
    exact hp
  refine hMore k c w' cnt' hk (by rw [← hlf k hk]; exact hlk) hmem ⟨D, n, _, hrg, R, fun j hj => ?_⟩ hlt hgr hsz hen
  show (lf (tk j) && !(tk j).sameKey (tk k)) = _
  rw [tk_same, hlf j hj]

theorem wpList_delR (hg : o.guard = none) (m x : Operand) (hop : o.op = Op.call { callee := Callee.builtin Builtin.delete, args := #[m, x], argTypes := #[61, 38] }) (hm : a.eval m = .map (some mb)) (h : Rg w mb r l left cnt) {k : Nat} (hk : k < 4294967296) (hx : a.eval x = .int .u32 (k : Int)) (hin : k ∈ keys l)
    (hK : ∀ w' cnt', Rg w' mb r (wo l k) (fun j => left j && !decide (j = k)) cnt' → cnt' ≤ cnt → w.mapTurned w' mb → wpList Tryd.prog ops Q rest (a.put o.dst (.tuple #[])) w') :
    wpList Tryd.prog ops Q (o :: rest) a w := by
  obtain ⟨D, n, lf, hr, R, hlf⟩ := h
  refine wpList_delete_ranges w hg m x 61 38 hop 65 keyU Tryd.underlying61 pe mb r n D lf cnt hm hr (.int .u32 (k : Int)) (tk k) hx (keyOfU hk) fun w' cnt' h1 h2 h3 => hK w' cnt' ⟨_, n, _, h1, R.del (hr.owns.tidy keyU) hk hin, fun j hj => ?_⟩ h2 h3
  show (lf (tk j) && !(tk j).sameKey (tk k)) = _
  rw [tk_same, hlf j hj]
end

/-- Is the quarantine of an entry over? -/
def ov (e : Ent) (t : Int) : Bool := !e.live && decide (e.freed + 10 ≤ t)
/-- What is left while time goes on: those that are still to come, and those whose time isn't over. -/
def Kp (l : Ents) (left : Nat → Bool) (t : Int) : Ents := l.filter fun p => left p.1 || !ov p.2 t

theorem Kp.start (l : Ents) (t : Int) : Kp l (fun k => decide (k ∈ keys l)) t = l := by
  unfold Kp
  rw [List.filter_eq_self]
  intro p hp
  have := mem_keys hp
  simp [this]
theorem Kp.stays {l : Ents} {left : Nat → Bool} {t : Int} (hn : (keys l).Nodup) {k : Nat} {e : Ent} (he : (k, e) ∈ l) (ho : ov e t = false) : Kp l (fun j => left j && !decide (j = k)) t = Kp l left t := by
  unfold Kp
  refine List.filter_congr fun p hp => ?_
  by_cases e1 : p.1 = k
  · obtain ⟨a, b⟩ := p
    subst e1
    have := ents_inj hn he hp
    subst this
    simp [ho]
  · simp [e1]
theorem Kp.goes {l : Ents} {left : Nat → Bool} {t : Int} (hn : (keys l).Nodup) {k : Nat} {e : Ent} (he : (k, e) ∈ l) (ho : ov e t = true) : Kp l (fun j => left j && !decide (j = k)) t = wo (Kp l left t) k := by
  unfold Kp wo
  rw [List.filter_filter]
  refine List.filter_congr fun p hp => ?_
  by_cases e1 : p.1 = k
  · obtain ⟨a, b⟩ := p
    subst e1
    have := ents_inj hn he hp
    subst this
    simp [ho]
  · simp [e1]
theorem Kp.done {l : Ents} {left : Nat → Bool} {t : Int} (hk : ∀ p, p ∈ l → p.1 < 4294967296) (h : ∀ k, k < 4294967296 → left k = false) : Kp l left t = l.filter fun p => !ov p.2 t := by
  unfold Kp
  refine List.filter_congr fun p hp => ?_
  rw [h p.1 (hk p hp)]
  simp

theorem sub_wrap {t f : Int} (h1 : isI t) (h2 : isI f) (h : f ≤ t) : IntKind.u64.wrap (IntKind.u64.wrap t - IntKind.u64.wrap f) = t - f := by
  unfold isI at *
  simp [IntKind.wrap, IntKind.bits, IntKind.signed]
  omega

set_option maxRecDepth 20000 in
set_option maxHeartbeats 1600000 in
theorem over_any (e : Ent) (t : Int) (w : World) (hf : isI e.freed) (ht : isI t) : Calls Tryd.prog 26 #[.agg #[.bool e.live, .int .i64 e.owner, .int .i64 e.freed], .int .i64 t] w fun en w' => en = .returned (.bool (ov e t)) ∧ RowKit.Below w.heap.size w w' := by
  obtain ⟨lv, ow, f⟩ := e
  dsimp only at *
  have HB := Lib.hid (below_a w (.cells #[.bool lv, .int .i64 ow, .int .i64 f] 65))
  have key : ov ⟨lv, ow, f⟩ t = (!lv && decide (f + 10 ≤ t)) := rfl
  have HK := Lib.hid key
  have HW := Lib.hid (fun h => sub_wrap ht hf h)
  clear key hf ht
  cases lv with
  | true =>
    go_enter Tryd.func26, Tryd.ntmps26
    go_wp2_with fail
    go_ret
    exact ⟨by rw [HK.out]; rfl, HB.out⟩
  | false =>
    by_cases h1 : f ≤ t
    · have hw := HW.out h1
      by_cases h2 : f + 10 ≤ t
      · have hd : decide (10 ≤ t - f) = true := decide_eq_true (by omega)
        have HD := Lib.hid (decide_eq_true h2)
        clear h2
        go_enter Tryd.func26, Tryd.ntmps26
        go_wp2_with fail
        go_ret
        exact ⟨by rw [HK.out, HD.out]; rfl, HB.out⟩
      · have hd : decide (10 ≤ t - f) = false := decide_eq_false (by omega)
        have HD := Lib.hid (decide_eq_false h2)
        clear h2
        go_enter Tryd.func26, Tryd.ntmps26
        go_wp2_with fail
        go_ret
        exact ⟨by rw [HK.out, HD.out]; rfl, HB.out⟩
    · have HD : Hid (decide (f + 10 ≤ t) = false) := Lib.hid (decide_eq_false (by omega))
      have hd : decide (f ≤ t) = false := decide_eq_false h1
      go_enter Tryd.func26, Tryd.ntmps26
      go_wp2_with fail
      go_ret
      exact ⟨by rw [HK.out, HD.out]; rfl, HB.out⟩
end Go.Proofs.YtgkonmjchdpohaaDoor

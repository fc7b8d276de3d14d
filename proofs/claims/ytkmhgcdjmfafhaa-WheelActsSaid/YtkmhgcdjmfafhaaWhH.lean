/- A list is put in the order of its handles: the contract of byHandle, over the library's sort. Condition: the row holds timers, at most 2^40. -/
import Derived.Test.YtkmhgcdjmfafhaaWhS
import Derived.Test.YtkmhgcdjmfafhaaWhLy
import Derived.Lib.OwnBridge
namespace Go.Proofs.Ytkmhgcdjmfafhaa
set_option linter.unusedVariables false
set_option linter.unusedSimpArgs false
open Go.RowKit

set_option maxHeartbeats 800000 in
theorem hclos_any (x y : Nat) (a b : Int) (W : World) (h1 : W.cell? ⟨x, 0, none⟩ = some (.int .i64 a)) (h2 : W.cell? ⟨y, 0, none⟩ = some (.int .i64 b)) :
    Calls Try.prog 36 #[ptr x, ptr y] W fun e w' => e = .returned (.int .i64 (Lib.compareInt a b)) ∧ ∃ q, w' = W.drewN q := by
  have hcon := fun n => AnyG.cmp_Compare_int Try.cmpL a b (W.drewN n)
  change ∀ n, Calls Try.prog 37 _ _ _ at hcon
  have HC := Lib.hid hcon
  clear hcon
  generalize Lib.compareInt a b = r at *
  unfold ptr
  go_enter Try.func36, Try.ntmps36
  go_wp2_with fail
  go_quiet (first | (go_at_call_of 37 (Value.int IntKind.i64 a); exact Calls.quiet_of_same (HC.out _)))
  go_wp2_with fail
  go_ret
  exact ⟨rfl, _, rfl⟩

theorem hclos_t (x y : Nat) (a b : Int) (W : World) (h1 : W.cell? ⟨x, 1, none⟩ = some (.int .i64 a)) (h2 : W.cell? ⟨y, 1, none⟩ = some (.int .i64 b)) :
    Calls Try.prog 43 #[ptr x, ptr y] W fun e w' => e = .returned (.int .i64 (Lib.compareInt a b)) ∧ ∃ q, w' = W.drewN q := by
  have hcon := fun n => AnyG.cmp_Compare_int Try.cmpL a b (W.drewN n)
  change ∀ n, Calls Try.prog 37 _ _ _ at hcon
  have HC := Lib.hid hcon
  clear hcon
  generalize Lib.compareInt a b = r at *
  unfold ptr
  go_enter Try.func43, Try.ntmps43
  go_wp2_with fail
  go_quiet (first | (go_at_call_of 37 (Value.int IntKind.i64 a); exact Calls.quiet_of_same (HC.out _)))
  go_wp2_with fail
  go_ret
  exact ⟨rfl, _, rfl⟩

section
open Go.Shelf Go.Lib Go.Sort
theorem lt_cmp {α : Type} (f : α → Int) (x y : α) : ltOf (fun x y => Lib.compareInt (f x) (f y)) x y = decide (f x < f y) := by
  unfold ltOf Lib.compareInt
  by_cases h1 : f x < f y
  · simp [h1]
  · by_cases h2 : f y < f x <;> simp [h1, h2]
theorem swo_cmp {α : Type} (f : α → Int) : SWO (ltOf (fun x y : α => Lib.compareInt (f x) (f y))) where
  irrefl x := by rw [lt_cmp]; simp
  trans x y z h1 h2 := by rw [lt_cmp] at *; simp at *; omega
  ntrans x y z h1 h2 := by rw [lt_cmp] at *; simp at *; omega

/-- A world of the sort's: nothing has turned but the row. -/
theorem sw_ch {α : Type} [Inhabited α] {enc : α → Value} {w w' : World} {g off : Nat} {d : Array α} (h : SW enc w g off d w') : Ch w w' (fun k => k = g) := by
  obtain ⟨n, os, rfl⟩ := h
  unfold sortWorld
  refine ⟨rfl, rfl, rfl, by simp, fun k hk hne => ?_⟩
  rw [heap_grow_old _ _ (by simpa using hk)]
  have : g ≠ k := fun e => hne e.symm
  simp [putRow, mapBlock, Sort.ahead, Array.getElem?_modify, this]
theorem sw_own {α : Type} [Inhabited α] {enc : α → Value} {w w' : World} {e : TypeId} {g n cap : Nat} {zs ys : List α} (hown : w.ownsRow 0 e 1 (.slice (some ⟨g, 0, none⟩) n cap) n (zs.map enc)) (hy : ys.length = n) (h : SW enc w g 0 ys.toArray w') :
    w'.ownsRow 0 e 1 (.slice (some ⟨g, 0, none⟩) n cap) n (ys.map enc) := by
  obtain ⟨q, os, rfl⟩ := h
  have h1 := Lib.ownsRow_putRow (q := q) (k := n) hown hy (Nat.le_refl n)
  rw [List.take_of_length_le (by omega)] at h1
  refine own_ch h1 (m := fun _ => False) ⟨rfl, rfl, rfl, by simp [sortWorld], fun k hk _ => ?_⟩ (fun _ _ h => h)
  exact heap_grow_old _ _ hk

set_option maxHeartbeats 1600000 in
theorem sortf_any (A : Option Addr) (n c : Nat) (w : World) (h62 : n < 4611686018427387904) {Q : Ending → World → Prop}
    (hp : Calls Try.prog 39 #[.slice A n c, .int .i64 0, .int .i64 n, .int .i64 (Lib.bitLen n : Nat), .func (.func 36) #[] #[]] w fun e w' => e = .returned (.tuple #[]) ∧ Q e w') :
    Calls Try.prog 35 #[.slice A n c, .func (.func 36) #[] #[]] w fun e w' => e = .returned (.tuple #[]) ∧ Q e w' := by
  have hl : Calls Try.prog 40 #[.int .u64 (n : Int)] w fun e w' => e = .returned (.int .i64 (Lib.bitLen n : Nat)) ∧ w' = w := by
    have h := Any.bits_Len (SlLaysF0.n15.bits (P := Try.prog) Try.lenL) (n : Int) w (by omega) (by omega)
    rwa [Int.toNat_natCast] at h
  have wr : IntKind.u64.wrap (n : Int) = n := by simp [IntKind.wrap, IntKind.bits, IntKind.signed]; omega
  generalize Lib.bitLen n = l at *
  have HP := Lib.hid hp
  have HL := Lib.hid hl
  clear hp hl
  go_enter Try.func35, Try.ntmps35
  go_wp2_with (first
    | (go_at_call 40; refine (HL.out).mono ?_; rintro e w' ⟨rfl, rfl⟩)
    | (go_at_call 39; refine (HP.out).mono ?_; rintro e w' ⟨rfl, hQ⟩))
  go_end0
  exact ⟨rfl, hQ⟩

set_option maxHeartbeats 4000000 in
theorem byH_holds (hd : Nat → Int) (tk : Nat → Nat) : ByH hd tk := by
  intro w A c xs hlen hown hT
  have key : Calls Try.prog 35 #[.slice A xs.length c, .func (.func 36) #[] #[]] w fun e w' => e = .returned (.tuple #[]) ∧
      ∃ zs : List Nat, zs.Perm xs ∧ zs.Pairwise (fun a b => hd a ≤ hd b) ∧ w'.ownsRow 0 64 1 (.slice A xs.length c) xs.length (zs.map ptr) ∧ Ch w w' (fun k => (Value.slice A xs.length c).ownBlock = some k) := by
    rcases xs with _ | ⟨x0, xr⟩
    · refine sortf_any A 0 c w (by omega) (Q := fun e w' => ∃ zs : List Nat, zs.Perm [] ∧ zs.Pairwise (fun a b => hd a ≤ hd b) ∧ w'.ownsRow 0 64 1 (.slice A 0 c) 0 (zs.map ptr) ∧ Ch w w' (fun k => (Value.slice A 0 c).ownBlock = some k)) ?_
      have hn := AnyF.pdqsortCmpFunc_none (P := Try.prog) (ρ := Try.pdqL_ren) { Try.pdqL with } A c (Lib.bitLen 0 : Nat) (.func (.func 36) #[] #[]) w
      change Calls Try.prog 39 _ _ _ at hn
      exact hn.mono fun e w' ⟨he, hw⟩ => ⟨he, [], .refl _, .nil, by rw [hw]; exact hown, by rw [hw]; exact Ch.refl _ _⟩
    · generalize hxs : x0 :: xr = xs at *
      have hx0 : x0 ∈ xs := by rw [← hxs]; exact List.mem_cons_self ..
      have hpos : 0 < xs.length := List.length_pos_of_mem hx0
      letI : Inhabited {b // b ∈ xs} := ⟨⟨x0, hx0⟩⟩
      have hmap : xs.attach.map (fun b => ptr b.1) = xs.map ptr := by
        have h1 : xs.attach.map (fun b => ptr b.1) = (xs.attach.map (fun b : {b // b ∈ xs} => b.1)).map ptr := by rw [List.map_map]; rfl
        rw [h1, List.attach_map_subtype_val]
      have hown1 : w.ownsRow 0 64 1 (.slice A xs.length c) xs.length (xs.attach.map (fun b => ptr b.1)) := by rw [hmap]; exact hown
      obtain ⟨g, cap, hv, _, hg, _, _, hal, hH⟩ := Lib.holds_of_ownsRow hown1 (by intro e; injection e with _ e; omega)
      injection hv with hA _ hc
      subst hA
      obtain rfl := hc
      have hsz : xs.attach.toArray.size = xs.length := by simp
      have hcmp : CmpLays1 Try.prog 36 #[] (fun b : {b // b ∈ xs} => ptr b.1) (fun x y => Lib.compareInt (hd x.1) (hd y.1)) g 0 xs.attach.toArray.size w := by
        refine CmpReads.lays fun m os dk hs x y => ?_
        have hcell : ∀ b : {b // b ∈ xs}, (sortWorld (fun b : {b // b ∈ xs} => ptr b.1) w g 0 m dk os).cell? ⟨b.1, 0, none⟩ = some (.int .i64 (hd b.1)) := fun b => by
          obtain ⟨⟨q, t⟩, hne⟩ := hT b.1 b.2
          exact (sw_ch ⟨m, os, rfl⟩).cell t.c0 (fun e => hne (by simp only at e; rw [e]; rfl))
        exact hclos_any x.1 y.1 (hd x.1) (hd y.1) _ (hcell x) (hcell y)
      have eg : ∀ args w, (callFunc 36 args).run Try.prog w = .ok (.enter 36 args) w := enters_of Try.func36 (by kernel_rfl) rfl
      have hO := swo_cmp (fun b : {b // b ∈ xs} => hd b.1)
      have hlim : Lib.bitLen xs.attach.toArray.size < 4611686018427387904 := Nat.lt_of_le_of_lt (Lib.bitLen_le _ 62 (by omega) (by omega)) (by omega)
      have hp := Any.pdqsortCmpFunc_all Try.pdqL (fun b : {b // b ∈ xs} => ptr b.1) (fun x y => Lib.compareInt (hd x.1) (hd y.1)) 36 #[] hO g 0 c xs.attach.toArray w eg hcmp ⟨fun _ => rfl, hH, hg⟩ (xs.attach.toArray.size + 1) 0 xs.attach.toArray.size (Lib.bitLen xs.attach.toArray.size) xs.attach.toArray w
        (by omega) rfl (SW.start hH) (Nat.zero_le _) (Nat.le_refl _) (by omega) hlim (Or.inl rfl)
      change Calls Try.prog 39 _ _ _ at hp
      have hs := pdq_sorts (ltOf (fun x y : {b // b ∈ xs} => Lib.compareInt (hd x.1) (hd y.1))) hO xs.attach.toArray 0 xs.attach.toArray.size (Lib.bitLen xs.attach.toArray.size) true true (Nat.zero_le _) (Nat.le_refl _) (Or.inl rfl)
      generalize pdq (ltOf (fun x y : {b // b ∈ xs} => Lib.compareInt (hd x.1) (hd y.1))) xs.attach.toArray 0 xs.attach.toArray.size (Lib.bitLen xs.attach.toArray.size) true true = d' at *
      obtain ⟨⟨p1, p2, p3⟩, s1⟩ := hs
      rw [hsz] at hp p1 p3 s1
      refine sortf_any _ xs.length c w (by omega) (Q := fun e w' => ∃ zs : List Nat, zs.Perm xs ∧ zs.Pairwise (fun a b => hd a ≤ hd b) ∧ w'.ownsRow 0 64 1 (.slice (some ⟨g, 0, none⟩) xs.length c) xs.length (zs.map ptr) ∧ Ch w w' (fun k => (Value.slice (some ⟨g, 0, none⟩) xs.length c).ownBlock = some k)) (hp.mono fun e w' ⟨he, hw⟩ => ⟨he, d'.toList.map (·.1), ?_, ?_, ?_, ?_⟩)
      · have e1 : d'.extract 0 xs.length = d' := by rw [← p1]; simp
        have e2 : xs.attach.toArray.extract 0 xs.length = xs.attach.toArray := by simp; exact List.take_of_length_le (by omega)
        rw [e1, e2] at p3
        have h9 := p3.map (fun b : {b // b ∈ xs} => b.1)
        rw [List.attach_map_subtype_val] at h9
        exact h9
      · rw [List.pairwise_map, List.pairwise_iff_getElem]
        intro i j hi hj hij
        have h1 := s1 i j (Nat.zero_le _) hij (by simpa [p1] using hj)
        rw [lt_cmp (fun b : {b // b ∈ xs} => hd b.1), decide_eq_false_iff_not, getElem!_pos d' i (by simpa using hi), getElem!_pos d' j (by simpa using hj)] at h1
        simp only [Array.getElem_toList]
        omega
      · rw [List.map_map]
        exact sw_own hown1 (by simpa using p1) hw
      · exact (sw_ch hw).mono fun k _ e => by rw [e]; rfl
  have HK := Lib.hid key
  clear key hown hT
  generalize hl : xs.length = l at *
  go_enter Try.func33, Try.ntmps33
  go_wp2_with (first
    | (go_at_call 35; refine (HK.out).mono ?_; rintro e w' ⟨rfl, zs, q1, q2, q3, q4⟩))
  go_ret
  exact ⟨rfl, zs, q1, q2, q3, q4⟩
end

end Go.Proofs.Ytkmhgcdjmfafhaa

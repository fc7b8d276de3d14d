/- The contracts of a field's number and of setting it. Conditions: the field's address leads to an option's cell; the number is one of 64 bits. -/
import Derived.Test.YtbbpemndkphgeaaDoorOptM
namespace Go.Proofs.YtbbpemndkphgeaaDoor
set_option linter.unusedVariables false
set_option linter.unusedSimpArgs false
open Go.RowKit

/-- The type of the address of place s. -/
def pt (s : Nat) : TypeId := if s ≤ 2 then 97 else if s ≤ 4 then 98 else if isB s then 100 else 99
/-- A field: the cells of its value. -/
def fv (g : Nat) (f : Nat × Nat) : List Value := [.iface (pt f.1) (.pointer (some ⟨g, f.1, none⟩)), .int .i64 (f.2 : Int)]
theorem fv_one (g : Nat) (f : Nat × Nat) : ∀ u ∈ fv g f, u.oneCell' = true := by
  intro u hu
  simp only [fv, List.mem_cons, List.not_mem_nil, or_false] at hu
  rcases hu with rfl | rfl <;> rfl
theorem infoField : (Tryd.prog.info? 85).map (·.size) = some 2 := by kernel_rfl

theorem as_64 (v : Value) (W : World) : (Instr.typeAssert (.iface 97 v) 20 97 true).run Tryd.prog W = .ok (.tuple #[v, .bool true]) W := by kernel_rfl
theorem as_64_32 (v : Value) (W : World) : (Instr.typeAssert (.iface 98 v) 20 97 true).run Tryd.prog W = .ok (.tuple #[.pointer none, .bool false]) W := by kernel_rfl
theorem as_64_int (v : Value) (W : World) : (Instr.typeAssert (.iface 99 v) 20 97 true).run Tryd.prog W = .ok (.tuple #[.pointer none, .bool false]) W := by kernel_rfl
theorem as_64_bool (v : Value) (W : World) : (Instr.typeAssert (.iface 100 v) 20 97 true).run Tryd.prog W = .ok (.tuple #[.pointer none, .bool false]) W := by kernel_rfl
theorem as_32 (v : Value) (W : World) : (Instr.typeAssert (.iface 98 v) 20 98 true).run Tryd.prog W = .ok (.tuple #[v, .bool true]) W := by kernel_rfl
theorem as_32_int (v : Value) (W : World) : (Instr.typeAssert (.iface 99 v) 20 98 true).run Tryd.prog W = .ok (.tuple #[.pointer none, .bool false]) W := by kernel_rfl
theorem as_32_bool (v : Value) (W : World) : (Instr.typeAssert (.iface 100 v) 20 98 true).run Tryd.prog W = .ok (.tuple #[.pointer none, .bool false]) W := by kernel_rfl
theorem as_int (v : Value) (W : World) : (Instr.typeAssert (.iface 99 v) 20 99 true).run Tryd.prog W = .ok (.tuple #[v, .bool true]) W := by kernel_rfl
theorem as_int_bool (v : Value) (W : World) : (Instr.typeAssert (.iface 100 v) 20 99 true).run Tryd.prog W = .ok (.tuple #[.pointer none, .bool false]) W := by kernel_rfl
theorem as_bool (v : Value) (W : World) : (Instr.typeAssert (.iface 100 v) 20 100 true).run Tryd.prog W = .ok (.tuple #[v, .bool true]) W := by kernel_rfl

set_option maxHeartbeats 400000 in
theorem number_64 (g s wd x : Nat) (w : World) (hc : w.cell? ⟨g, s, none⟩ = some (.int .u64 (x : Int))) :
    Calls Tryd.prog 57 #[.agg #[.iface 97 (.pointer (some ⟨g, s, none⟩)), .int .i64 (wd : Int)]] w fun e w' => e = .returned (.int .u64 (x : Int)) ∧ Below w.heap.size w w' := by
  have h1 := as_64
  have hl := World.block_lt_of_cell? w _ hc
  go_enter Tryd.func57, Tryd.ntmps57
  go_wp2
  go_ret
  exact ⟨rfl, below_a w _⟩
set_option maxHeartbeats 400000 in
theorem number_32 (g s wd x : Nat) (w : World) (hx : x < 4294967296) (hc : w.cell? ⟨g, s, none⟩ = some (.int .u32 (x : Int))) :
    Calls Tryd.prog 57 #[.agg #[.iface 98 (.pointer (some ⟨g, s, none⟩)), .int .i64 (wd : Int)]] w fun e w' => e = .returned (.int .u64 (x : Int)) ∧ Below w.heap.size w w' := by
  have h1 := as_64_32
  have h2 := as_32
  have hl := World.block_lt_of_cell? w _ hc
  go_enter Tryd.func57, Tryd.ntmps57
  go_wp2
  go_ret
  exact ⟨rfl, below_a w _⟩
theorem wrap_u64 (x : Int) : IntKind.u64.wrap x = (u64 x : Nat) := by
  rw [u64_int]
  simp [IntKind.wrap, IntKind.bits, IntKind.signed]
set_option maxHeartbeats 400000 in
theorem number_int (g s wd : Nat) (x : Int) (w : World) (hx : isInt x) (hc : w.cell? ⟨g, s, none⟩ = some (.int .i64 x)) :
    Calls Tryd.prog 57 #[.agg #[.iface 99 (.pointer (some ⟨g, s, none⟩)), .int .i64 (wd : Int)]] w fun e w' => e = .returned (.int .u64 (u64 x : Nat)) ∧ Below w.heap.size w w' := by
  have h1 := as_64_int
  have h2 := as_32_int
  have h3 := as_int
  have hl := World.block_lt_of_cell? w _ hc
  have HW := Lib.hid (wrap_u64 x)
  go_enter Tryd.func57, Tryd.ntmps57
  go_wp2
  go_ret
  exact ⟨by rw [← HW.out]; rfl, below_a w _⟩
set_option maxHeartbeats 400000 in
theorem number_bool (g s wd : Nat) (x : Bool) (w : World) (hc : w.cell? ⟨g, s, none⟩ = some (.bool x)) :
    Calls Tryd.prog 57 #[.agg #[.iface 100 (.pointer (some ⟨g, s, none⟩)), .int .i64 (wd : Int)]] w fun e w' => e = .returned (.int .u64 (b2n x : Nat)) ∧ Below w.heap.size w w' := by
  have h1 := as_64_bool
  have h2 := as_32_bool
  have h3 := as_int_bool
  have h4 := as_bool
  have hl := World.block_lt_of_cell? w _ hc
  cases x
  all_goals
    go_enter Tryd.func57, Tryd.ntmps57
    go_wp2
    go_ret
    exact ⟨rfl, below_a w _⟩

/-- A field's number. -/
theorem number_any (g : Nat) (f : Nat × Nat) (o : Opt) (w : World) (h : Own w g o.vals) (ho : o.ok) (hs : spot f.1) :
    Calls Tryd.prog 57 #[.agg (fv g f).toArray] w fun e w' => e = .returned (.int .u64 (o.num f.1 : Nat)) ∧ Below w.heap.size w w' := by
  obtain ⟨s, wd⟩ := f
  have hc := (h s (by rw [o.vals_length]; unfold spot at hs; simp at hs; omega)).1
  rcases spot_or hs with h' | h' | h' | h' | h' | h' | h' | h' | h' | h' | h' | h' | h' <;> simp only at h' <;> subst h'
  · exact number_64 g 1 wd o.key w hc
  · exact number_64 g 2 wd o.mac w hc
  · exact number_32 g 3 wd o.token w ho.token hc
  · exact number_32 g 4 wd o.nonce w ho.nonce hc
  · exact number_int g 5 wd o.addr w ho.addr hc
  · exact number_int g 6 wd o.reason w ho.reason hc
  · exact number_bool g 7 wd o.backup w hc
  · exact number_bool g 8 wd o.hasAck w hc
  · exact number_int g 9 wd o.ack w ho.ack hc
  · exact number_bool g 10 wd o.hasMap w hc
  · exact number_int g 11 wd o.dsn w ho.dsn hc
  · exact number_int g 12 wd o.len w ho.len hc
  · exact number_bool g 13 wd o.fin w hc
end Go.Proofs.YtbbpemndkphgeaaDoor

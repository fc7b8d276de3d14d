/- The contracts of the document's own way to put an option in bytes, kind by kind. Condition: each of its numbers is one of its kind. -/
import Derived.Test.YtbbpemndkphgeaaDoorMg11
import Derived.Test.YtbbpemndkphgeaaDoorMg8
namespace Go.Proofs.YtbbpemndkphgeaaDoor
set_option linter.unusedVariables false
set_option linter.unusedSimpArgs false
open Go.RowKit

set_option maxRecDepth 8000 in
set_option maxHeartbeats 1600000 in
theorem rbytes_1 (o : Opt) (w : World) (hok : o.ok) (hk : o.kind = 1) : Calls Tryd.prog 46 #[.agg o.vals.toArray] w (OwnMade w 9 (ob o)) := by
  have HOB : Hid (ob o = ([UInt8.ofNat 1] ++ be o.key 8)) := Lib.hid (by
    unfold ob
    rw [hk]
    simp [toldB, tab, tabN, Opt.num, byte_one, u64])
  have h1 := hok.key
  have h2 := hok.mac
  have h3 := hok.token
  have h4 := hok.nonce
  have HA0 : Hid (∀ W, Calls Tryd.prog 50 #[.int .u64 (o.key : Int), .int .i64 8] W (Made W 5 8 (be o.key 8))) := Lib.hid (fun W => Bytes_any o.key 8 W (by omega))
  go_enter Tryd.func46, Tryd.ntmps46
  go_wp2_with (first
    | ((with_reducible refine wpList_here ?_); refine wpList_boxV rfl 52 (.tmp 0) rfl o.vals rfl _ rfl ?_; intro w1 z1 b1 s1; have k0 : w1.cell? ⟨w.heap.size, 0, none⟩ = some (.int .i64 o.kind) := (z1 0 (Nat.zero_lt_succ _)).1; rw [hk] at k0)
    | ((with_reducible refine wpList_here ?_); refine wpList_byte1 (o := ⟨some 7, _, _, _, _, _⟩) rfl (.tmp 6) rfl _ rfl _ rfl ?_; intro w9 e9; have hS0 : Bst w w1.heap.size w.heap.size o w9 (.slice (some ⟨w1.heap.size, 0, none⟩) 1 1) 1 [UInt8.ofNat 1] := (by rw [e9]; exact Bst.start w w1 w.heap.size o 1 (UInt8.ofNat 1) rfl z1 b1 (by omega)); have k0' : w9.cell? ⟨w.heap.size, 0, none⟩ = some (.int .i64 o.kind) := hS0.cell 0 (by omega); rw [hk] at k0'; have k1 : w9.cell? ⟨w.heap.size, 1, none⟩ = some (.int .u64 (o.key : Int)) := hS0.cell 1 (by omega); clear z1 b1 s1 e9 k0))
  refine (HA0.out _).mono ?_
  rintro e wa0 ⟨va0, rfl, oa0, ba0⟩
  obtain ⟨Aa0, ca0, rfl, ra0, _⟩ := RB.of_own oa0
  have hT0 := hS0.keep ba0
  clear oa0 ba0 hS0
  go_wp2_with (first
    | (at_builtin; refine wpList_app _ rfl (.tmp 13) (.tmp 16) 24 5 rfl Tryd.underlying24 infoByte w1.heap.size _ 1 _ rfl hT0.own _ 8 _ _ rfl ra0 (by omega) hT0.base ?_; intro v10 w10 ho1 hg1 _; have hS1 := hT0.app ho1 hg1; clear ho1 hg1 hT0 ra0))
  have b0 := hS1.below
  have ow := own_mono hS1.own hS1.old
  obtain ⟨Af, cf, rfl, rf, _⟩ := RB.of_own ow
  go_ret
  rw [HOB.out]
  exact ⟨Af, cf, rfl, rf, ow, b0⟩

set_option maxRecDepth 8000 in
set_option maxHeartbeats 1600000 in
theorem rbytes_2 (o : Opt) (w : World) (hok : o.ok) (hk : o.kind = 2) : Calls Tryd.prog 46 #[.agg o.vals.toArray] w (OwnMade w 11 (ob o)) := by
  have HOB : Hid (ob o = ((([UInt8.ofNat 2] ++ be o.token 4) ++ be o.nonce 4) ++ [UInt8.ofNat (u64 o.addr), UInt8.ofNat (b2n o.backup)])) := Lib.hid (by
    unfold ob
    rw [hk]
    simp [toldB, tab, tabN, Opt.num, byte_one, u64])
  have h1 := hok.key
  have h2 := hok.mac
  have h3 := hok.token
  have h4 := hok.nonce
  have HA0 : Hid (∀ W, Calls Tryd.prog 50 #[.int .u64 (o.token : Int), .int .i64 4] W (Made W 5 4 (be o.token 4))) := Lib.hid (fun W => Bytes_any o.token 4 W (by omega))
  have HA1 : Hid (∀ W, Calls Tryd.prog 50 #[.int .u64 (o.nonce : Int), .int .i64 4] W (Made W 5 4 (be o.nonce 4))) := Lib.hid (fun W => Bytes_any o.nonce 4 W (by omega))
  have HX2 := Lib.hid (byte_int o.addr)
  have HY2 := Lib.hid (byte_bool o.backup)
  go_enter Tryd.func46, Tryd.ntmps46
  go_wp2_with (first
    | ((with_reducible refine wpList_here ?_); refine wpList_boxV rfl 52 (.tmp 0) rfl o.vals rfl _ rfl ?_; intro w1 z1 b1 s1; have k0 : w1.cell? ⟨w.heap.size, 0, none⟩ = some (.int .i64 o.kind) := (z1 0 (Nat.zero_lt_succ _)).1; rw [hk] at k0)
    | ((with_reducible refine wpList_here ?_); refine wpList_byte1 (o := ⟨some 7, _, _, _, _, _⟩) rfl (.tmp 6) rfl _ rfl _ rfl ?_; intro w9 e9; have hS0 : Bst w w1.heap.size w.heap.size o w9 (.slice (some ⟨w1.heap.size, 0, none⟩) 1 1) 1 [UInt8.ofNat 2] := (by rw [e9]; exact Bst.start w w1 w.heap.size o 2 (UInt8.ofNat 2) rfl z1 b1 (by omega)); have k0' : w9.cell? ⟨w.heap.size, 0, none⟩ = some (.int .i64 o.kind) := hS0.cell 0 (by omega); rw [hk] at k0'; have k3 : w9.cell? ⟨w.heap.size, 3, none⟩ = some (.int .u32 (o.token : Int)) := hS0.cell 3 (by omega); clear z1 b1 s1 e9 k0))
  refine (HA0.out _).mono ?_
  rintro e wa0 ⟨va0, rfl, oa0, ba0⟩
  obtain ⟨Aa0, ca0, rfl, ra0, _⟩ := RB.of_own oa0
  have hT0 := hS0.keep ba0
  clear oa0 ba0 hS0
  go_wp2_with (first
    | (at_builtin; refine wpList_app _ rfl (.tmp 20) (.tmp 24) 24 5 rfl Tryd.underlying24 infoByte w1.heap.size _ 1 _ rfl hT0.own _ 4 _ _ rfl ra0 (by omega) hT0.base ?_; intro v10 w10 ho1 hg1 _; have hS1 := hT0.app ho1 hg1; have k4 : w10.cell? ⟨w.heap.size, 4, none⟩ = some (.int .u32 (o.nonce : Int)) := hS1.cell 4 (by omega); clear ho1 hg1 hT0 ra0))
  refine (HA1.out _).mono ?_
  rintro e wa1 ⟨va1, rfl, oa1, ba1⟩
  obtain ⟨Aa1, ca1, rfl, ra1, _⟩ := RB.of_own oa1
  have hT1 := hS1.keep ba1
  clear oa1 ba1 hS1
  go_wp2_with (first
    | (at_builtin; refine wpList_app _ rfl (.tmp 26) (.tmp 30) 24 5 rfl Tryd.underlying24 infoByte w1.heap.size _ 5 _ rfl hT1.own _ 4 _ _ rfl ra1 (by omega) hT1.base ?_; intro v11 w11 ho2 hg2 _; have hS2 := hT1.app ho2 hg2; have k5 : w11.cell? ⟨w.heap.size, 5, none⟩ = some (.int .i64 o.addr) := hS2.cell 5 (by omega); have k7 : w11.cell? ⟨w.heap.size, 7, none⟩ = some (.bool o.backup) := hS2.cell 7 (by omega); clear ho2 hg2 hT1 ra1))
  have hD := hS2.keep (w1 := (w11.alloc (.cells #[.int .u8 (o.addr % 256), .int .u8 (b2n o.backup : Nat)] 5)).drew) (below_a _ _).drew
  have hRB : RB ((w11.alloc (.cells #[.int .u8 (o.addr % 256), .int .u8 (b2n o.backup : Nat)] 5)).drew) (some ⟨w11.heap.size, 0, none⟩) 2 2 [UInt8.ofNat (u64 o.addr), UInt8.ofNat (b2n o.backup)] := by
    rw [HX2.out, HY2.out]
    exact (RB.lit w11 [UInt8.ofNat (u64 o.addr), UInt8.ofNat (b2n o.backup)] 5 (by unfold maxLen; simp)).drew
  go_region_held3 (fun W => W.cell? ⟨w.heap.size, 5, none⟩ = some (.int .i64 o.addr) ∧ W.cell? ⟨w.heap.size, 7, none⟩ = some (.bool o.backup))
    (first
      | exact ⟨k5, k7⟩
      | exact ⟨hS3.cell 5 (by omega), hS3.cell 7 (by omega)⟩
      | exact ⟨hD.cell 5 (by omega), hD.cell 7 (by omega)⟩
      | go_keep)
    (first
      | (go_at_call 62; ((refine (truth_any o.backup _).mono ?_); rintro e w' ⟨rfl, rfl⟩))
      | ((refine step_app _ (by rfl) (.tmp 32) (.tmp 39) 24 5 (by rfl) Tryd.underlying24 infoByte w1.heap.size _ 9 _ (by rfl) hD.own _ 2 2 _ (by rfl) hRB (by omega) hD.base ?_; intro v12 w12 ho3 hg3 _; have hS3 := hD.app ho3 hg3)))
  go_wp2_with fail
  have b0 := hS3.below
  have ow := own_mono hS3.own hS3.old
  obtain ⟨Af, cf, rfl, rf, _⟩ := RB.of_own ow
  go_ret
  rw [HOB.out]
  exact ⟨Af, cf, rfl, rf, ow, b0⟩

set_option maxRecDepth 8000 in
set_option maxHeartbeats 1600000 in
theorem rbytes_3 (o : Opt) (w : World) (hok : o.ok) (hk : o.kind = 3) : Calls Tryd.prog 46 #[.agg o.vals.toArray] w (OwnMade w 13 (ob o)) := by
  have HOB : Hid (ob o = (([UInt8.ofNat 3] ++ be o.mac 8) ++ be o.nonce 4)) := Lib.hid (by
    unfold ob
    rw [hk]
    simp [toldB, tab, tabN, Opt.num, byte_one, u64])
  have h1 := hok.key
  have h2 := hok.mac
  have h3 := hok.token
  have h4 := hok.nonce
  have HA0 : Hid (∀ W, Calls Tryd.prog 50 #[.int .u64 (o.mac : Int), .int .i64 8] W (Made W 5 8 (be o.mac 8))) := Lib.hid (fun W => Bytes_any o.mac 8 W (by omega))
  have HA1 : Hid (∀ W, Calls Tryd.prog 50 #[.int .u64 (o.nonce : Int), .int .i64 4] W (Made W 5 4 (be o.nonce 4))) := Lib.hid (fun W => Bytes_any o.nonce 4 W (by omega))
  go_enter Tryd.func46, Tryd.ntmps46
  go_wp2_with (first
    | ((with_reducible refine wpList_here ?_); refine wpList_boxV rfl 52 (.tmp 0) rfl o.vals rfl _ rfl ?_; intro w1 z1 b1 s1; have k0 : w1.cell? ⟨w.heap.size, 0, none⟩ = some (.int .i64 o.kind) := (z1 0 (Nat.zero_lt_succ _)).1; rw [hk] at k0)
    | ((with_reducible refine wpList_here ?_); refine wpList_byte1 (o := ⟨some 7, _, _, _, _, _⟩) rfl (.tmp 6) rfl _ rfl _ rfl ?_; intro w9 e9; have hS0 : Bst w w1.heap.size w.heap.size o w9 (.slice (some ⟨w1.heap.size, 0, none⟩) 1 1) 1 [UInt8.ofNat 3] := (by rw [e9]; exact Bst.start w w1 w.heap.size o 3 (UInt8.ofNat 3) rfl z1 b1 (by omega)); have k0' : w9.cell? ⟨w.heap.size, 0, none⟩ = some (.int .i64 o.kind) := hS0.cell 0 (by omega); rw [hk] at k0'; have k2 : w9.cell? ⟨w.heap.size, 2, none⟩ = some (.int .u64 (o.mac : Int)) := hS0.cell 2 (by omega); clear z1 b1 s1 e9 k0))
  refine (HA0.out _).mono ?_
  rintro e wa0 ⟨va0, rfl, oa0, ba0⟩
  obtain ⟨Aa0, ca0, rfl, ra0, _⟩ := RB.of_own oa0
  have hT0 := hS0.keep ba0
  clear oa0 ba0 hS0
  go_wp2_with (first
    | (at_builtin; refine wpList_app _ rfl (.tmp 43) (.tmp 46) 24 5 rfl Tryd.underlying24 infoByte w1.heap.size _ 1 _ rfl hT0.own _ 8 _ _ rfl ra0 (by omega) hT0.base ?_; intro v10 w10 ho1 hg1 _; have hS1 := hT0.app ho1 hg1; have k4 : w10.cell? ⟨w.heap.size, 4, none⟩ = some (.int .u32 (o.nonce : Int)) := hS1.cell 4 (by omega); clear ho1 hg1 hT0 ra0))
  refine (HA1.out _).mono ?_
  rintro e wa1 ⟨va1, rfl, oa1, ba1⟩
  obtain ⟨Aa1, ca1, rfl, ra1, _⟩ := RB.of_own oa1
  have hT1 := hS1.keep ba1
  clear oa1 ba1 hS1
  go_wp2_with (first
    | (at_builtin; refine wpList_app _ rfl (.tmp 48) (.tmp 52) 24 5 rfl Tryd.underlying24 infoByte w1.heap.size _ 9 _ rfl hT1.own _ 4 _ _ rfl ra1 (by omega) hT1.base ?_; intro v11 w11 ho2 hg2 _; have hS2 := hT1.app ho2 hg2; clear ho2 hg2 hT1 ra1))
  have b0 := hS2.below
  have ow := own_mono hS2.own hS2.old
  obtain ⟨Af, cf, rfl, rf, _⟩ := RB.of_own ow
  go_ret
  rw [HOB.out]
  exact ⟨Af, cf, rfl, rf, ow, b0⟩

set_option maxRecDepth 8000 in
set_option maxHeartbeats 1600000 in
theorem rbytes_4 (o : Opt) (w : World) (hok : o.ok) (hk : o.kind = 4) : Calls Tryd.prog 46 #[.agg o.vals.toArray] w (OwnMade w 9 (ob o)) := by
  have HOB : Hid (ob o = ([UInt8.ofNat 4] ++ be o.mac 8)) := Lib.hid (by
    unfold ob
    rw [hk]
    simp [toldB, tab, tabN, Opt.num, byte_one, u64])
  have h1 := hok.key
  have h2 := hok.mac
  have h3 := hok.token
  have h4 := hok.nonce
  have HA0 : Hid (∀ W, Calls Tryd.prog 50 #[.int .u64 (o.mac : Int), .int .i64 8] W (Made W 5 8 (be o.mac 8))) := Lib.hid (fun W => Bytes_any o.mac 8 W (by omega))
  go_enter Tryd.func46, Tryd.ntmps46
  go_wp2_with (first
    | ((with_reducible refine wpList_here ?_); refine wpList_boxV rfl 52 (.tmp 0) rfl o.vals rfl _ rfl ?_; intro w1 z1 b1 s1; have k0 : w1.cell? ⟨w.heap.size, 0, none⟩ = some (.int .i64 o.kind) := (z1 0 (Nat.zero_lt_succ _)).1; rw [hk] at k0)
    | ((with_reducible refine wpList_here ?_); refine wpList_byte1 (o := ⟨some 7, _, _, _, _, _⟩) rfl (.tmp 6) rfl _ rfl _ rfl ?_; intro w9 e9; have hS0 : Bst w w1.heap.size w.heap.size o w9 (.slice (some ⟨w1.heap.size, 0, none⟩) 1 1) 1 [UInt8.ofNat 4] := (by rw [e9]; exact Bst.start w w1 w.heap.size o 4 (UInt8.ofNat 4) rfl z1 b1 (by omega)); have k0' : w9.cell? ⟨w.heap.size, 0, none⟩ = some (.int .i64 o.kind) := hS0.cell 0 (by omega); rw [hk] at k0'; have k2 : w9.cell? ⟨w.heap.size, 2, none⟩ = some (.int .u64 (o.mac : Int)) := hS0.cell 2 (by omega); clear z1 b1 s1 e9 k0))
  refine (HA0.out _).mono ?_
  rintro e wa0 ⟨va0, rfl, oa0, ba0⟩
  obtain ⟨Aa0, ca0, rfl, ra0, _⟩ := RB.of_own oa0
  have hT0 := hS0.keep ba0
  clear oa0 ba0 hS0
  go_wp2_with (first
    | (at_builtin; refine wpList_app _ rfl (.tmp 56) (.tmp 59) 24 5 rfl Tryd.underlying24 infoByte w1.heap.size _ 1 _ rfl hT0.own _ 8 _ _ rfl ra0 (by omega) hT0.base ?_; intro v10 w10 ho1 hg1 _; have hS1 := hT0.app ho1 hg1; clear ho1 hg1 hT0 ra0))
  have b0 := hS1.below
  have ow := own_mono hS1.own hS1.old
  obtain ⟨Af, cf, rfl, rf, _⟩ := RB.of_own ow
  go_ret
  rw [HOB.out]
  exact ⟨Af, cf, rfl, rf, ow, b0⟩

set_option maxRecDepth 8000 in
set_option maxHeartbeats 1600000 in
theorem rbytes_5 (o : Opt) (w : World) (hok : o.ok) (hk : o.kind = 5) : Calls Tryd.prog 46 #[.agg o.vals.toArray] w (OwnMade w 13 (ob o)) := by
  have HOB : Hid (ob o = ((((([UInt8.ofNat 5] ++ [UInt8.ofNat (b2n o.hasAck)]) ++ be (u64 o.ack) 4) ++ [UInt8.ofNat (b2n o.hasMap)]) ++ be (u64 o.dsn) 4) ++ [UInt8.ofNat (u64 o.len), UInt8.ofNat (b2n o.fin)])) := Lib.hid (by
    unfold ob
    rw [hk]
    simp [toldB, tab, tabN, Opt.num, byte_one, u64])
  have h1 := hok.key
  have h2 := hok.mac
  have h3 := hok.token
  have h4 := hok.nonce
  have HX0 := Lib.hid (byte_bool o.hasAck)
  have HX2 := Lib.hid (byte_bool o.hasMap)
  have HX4 := Lib.hid (byte_int o.len)
  have HY4 := Lib.hid (byte_bool o.fin)
  go_enter Tryd.func46, Tryd.ntmps46
  go_wp2_with (first
    | ((with_reducible refine wpList_here ?_); refine wpList_boxV rfl 52 (.tmp 0) rfl o.vals rfl _ rfl ?_; intro w1 z1 b1 s1; have k0 : w1.cell? ⟨w.heap.size, 0, none⟩ = some (.int .i64 o.kind) := (z1 0 (Nat.zero_lt_succ _)).1; rw [hk] at k0)
    | ((with_reducible refine wpList_here ?_); refine wpList_byte1 (o := ⟨some 7, _, _, _, _, _⟩) rfl (.tmp 6) rfl _ rfl _ rfl ?_; intro w9 e9; have hS0 : Bst w w1.heap.size w.heap.size o w9 (.slice (some ⟨w1.heap.size, 0, none⟩) 1 1) 1 [UInt8.ofNat 5] := (by rw [e9]; exact Bst.start w w1 w.heap.size o 5 (UInt8.ofNat 5) rfl z1 b1 (by omega)); have k0' : w9.cell? ⟨w.heap.size, 0, none⟩ = some (.int .i64 o.kind) := hS0.cell 0 (by omega); rw [hk] at k0'; have k8 : w9.cell? ⟨w.heap.size, 8, none⟩ = some (.bool o.hasAck) := hS0.cell 8 (by omega); clear z1 b1 s1 e9 k0)
    | (go_at_call 62; ((with_reducible refine (truth_any o.hasAck _).mono ?_); rintro e w' ⟨rfl, rfl⟩))
    | ((with_reducible refine wpList_here ?_); refine wpList_byte1 (o := ⟨some 67, _, _, _, _, _⟩) rfl (.tmp 66) rfl _ rfl _ rfl ?_; intro wq0 eq0; have hT0 := hS0.keep (w1 := wq0) (by rw [eq0]; exact below_a _ _); have ra0 : RB wq0 (some ⟨w9.heap.size, 0, none⟩) 1 1 _ := (by rw [eq0]; exact RB.lit1 _ _ _ _ HX0.out); clear eq0)
    | (at_builtin; refine wpList_app _ rfl (.tmp 63) (.tmp 67) 24 5 rfl Tryd.underlying24 infoByte w1.heap.size _ 1 _ rfl hT0.own _ 1 1 _ rfl ra0 (by omega) hT0.base ?_; intro v10 w10 ho1 hg1 _; have hS1 := hT0.app ho1 hg1; have k9 : w10.cell? ⟨w.heap.size, 9, none⟩ = some (.int .i64 o.ack) := hS1.cell 9 (by omega); clear ho1 hg1 hS0 hT0 ra0))
  refine (num4_any _ _).mono ?_
  rintro e wa1 ⟨va1, rfl, oa1, ba1⟩
  obtain ⟨Aa1, ca1, rfl, ra1, _⟩ := RB.of_own oa1
  have hT1 := hS1.keep ba1
  clear oa1 ba1 hS1
  go_wp2_with (first
    | (at_builtin; refine wpList_app _ rfl (.tmp 69) (.tmp 72) 24 5 rfl Tryd.underlying24 infoByte w1.heap.size _ 2 _ rfl hT1.own _ 4 _ _ rfl ra1 (by omega) hT1.base ?_; intro v11 w11 ho2 hg2 _; have hS2 := hT1.app ho2 hg2; have k10 : w11.cell? ⟨w.heap.size, 10, none⟩ = some (.bool o.hasMap) := hS2.cell 10 (by omega); clear ho2 hg2 hT1 ra1)
    | (go_at_call 62; ((with_reducible refine (truth_any o.hasMap _).mono ?_); rintro e w' ⟨rfl, rfl⟩))
    | ((with_reducible refine wpList_here ?_); refine wpList_byte1 (o := ⟨some 78, _, _, _, _, _⟩) rfl (.tmp 77) rfl _ rfl _ rfl ?_; intro wq2 eq2; have hT2 := hS2.keep (w1 := wq2) (by rw [eq2]; exact below_a _ _); have ra2 : RB wq2 (some ⟨w11.heap.size, 0, none⟩) 1 1 _ := (by rw [eq2]; exact RB.lit1 _ _ _ _ HX2.out); clear eq2)
    | (at_builtin; refine wpList_app _ rfl (.tmp 74) (.tmp 78) 24 5 rfl Tryd.underlying24 infoByte w1.heap.size _ 6 _ rfl hT2.own _ 1 1 _ rfl ra2 (by omega) hT2.base ?_; intro v12 w12 ho3 hg3 _; have hS3 := hT2.app ho3 hg3; have k11 : w12.cell? ⟨w.heap.size, 11, none⟩ = some (.int .i64 o.dsn) := hS3.cell 11 (by omega); clear ho3 hg3 hS2 hT2 ra2))
  refine (num4_any _ _).mono ?_
  rintro e wa3 ⟨va3, rfl, oa3, ba3⟩
  obtain ⟨Aa3, ca3, rfl, ra3, _⟩ := RB.of_own oa3
  have hT3 := hS3.keep ba3
  clear oa3 ba3 hS3
  go_wp2_with (first
    | (at_builtin; refine wpList_app _ rfl (.tmp 80) (.tmp 83) 24 5 rfl Tryd.underlying24 infoByte w1.heap.size _ 7 _ rfl hT3.own _ 4 _ _ rfl ra3 (by omega) hT3.base ?_; intro v13 w13 ho4 hg4 _; have hS4 := hT3.app ho4 hg4; have k12 : w13.cell? ⟨w.heap.size, 12, none⟩ = some (.int .i64 o.len) := hS4.cell 12 (by omega); have k13 : w13.cell? ⟨w.heap.size, 13, none⟩ = some (.bool o.fin) := hS4.cell 13 (by omega); clear ho4 hg4 hT3 ra3))
  have hD := hS4.keep (w1 := (w13.alloc (.cells #[.int .u8 (o.len % 256), .int .u8 (b2n o.fin : Nat)] 5)).drew) (below_a _ _).drew
  have hRB : RB ((w13.alloc (.cells #[.int .u8 (o.len % 256), .int .u8 (b2n o.fin : Nat)] 5)).drew) (some ⟨w13.heap.size, 0, none⟩) 2 2 [UInt8.ofNat (u64 o.len), UInt8.ofNat (b2n o.fin)] := by
    rw [HX4.out, HY4.out]
    exact (RB.lit w13 [UInt8.ofNat (u64 o.len), UInt8.ofNat (b2n o.fin)] 5 (by unfold maxLen; simp)).drew
  go_region_held3 (fun W => W.cell? ⟨w.heap.size, 12, none⟩ = some (.int .i64 o.len) ∧ W.cell? ⟨w.heap.size, 13, none⟩ = some (.bool o.fin))
    (first
      | exact ⟨k12, k13⟩
      | exact ⟨hS5.cell 12 (by omega), hS5.cell 13 (by omega)⟩
      | exact ⟨hD.cell 12 (by omega), hD.cell 13 (by omega)⟩
      | go_keep)
    (first
      | (go_at_call 62; ((refine (truth_any o.fin _).mono ?_); rintro e w' ⟨rfl, rfl⟩))
      | ((refine step_app _ (by rfl) (.tmp 85) (.tmp 92) 24 5 (by rfl) Tryd.underlying24 infoByte w1.heap.size _ 11 _ (by rfl) hD.own _ 2 2 _ (by rfl) hRB (by omega) hD.base ?_; intro v14 w14 ho5 hg5 _; have hS5 := hD.app ho5 hg5)))
  go_wp2_with fail
  have b0 := hS5.below
  have ow := own_mono hS5.own hS5.old
  obtain ⟨Af, cf, rfl, rf, _⟩ := RB.of_own ow
  go_ret
  rw [HOB.out]
  exact ⟨Af, cf, rfl, rf, ow, b0⟩

set_option maxRecDepth 8000 in
set_option maxHeartbeats 1600000 in
theorem rbytes_6 (o : Opt) (w : World) (hok : o.ok) (hk : o.kind = 6) : Calls Tryd.prog 46 #[.agg o.vals.toArray] w (OwnMade w 2 (ob o)) := by
  have HOB : Hid (ob o = ([UInt8.ofNat 6] ++ [UInt8.ofNat (u64 o.addr)])) := Lib.hid (by
    unfold ob
    rw [hk]
    simp [toldB, tab, tabN, Opt.num, byte_one, u64])
  have h1 := hok.key
  have h2 := hok.mac
  have h3 := hok.token
  have h4 := hok.nonce
  have HX0 := Lib.hid (byte_int o.addr)
  go_enter Tryd.func46, Tryd.ntmps46
  go_wp2_with (first
    | ((with_reducible refine wpList_here ?_); refine wpList_boxV rfl 52 (.tmp 0) rfl o.vals rfl _ rfl ?_; intro w1 z1 b1 s1; have k0 : w1.cell? ⟨w.heap.size, 0, none⟩ = some (.int .i64 o.kind) := (z1 0 (Nat.zero_lt_succ _)).1; rw [hk] at k0)
    | ((with_reducible refine wpList_here ?_); refine wpList_byte1 (o := ⟨some 7, _, _, _, _, _⟩) rfl (.tmp 6) rfl _ rfl _ rfl ?_; intro w9 e9; have hS0 : Bst w w1.heap.size w.heap.size o w9 (.slice (some ⟨w1.heap.size, 0, none⟩) 1 1) 1 [UInt8.ofNat 6] := (by rw [e9]; exact Bst.start w w1 w.heap.size o 6 (UInt8.ofNat 6) rfl z1 b1 (by omega)); have k0' : w9.cell? ⟨w.heap.size, 0, none⟩ = some (.int .i64 o.kind) := hS0.cell 0 (by omega); rw [hk] at k0'; have k5 : w9.cell? ⟨w.heap.size, 5, none⟩ = some (.int .i64 o.addr) := hS0.cell 5 (by omega); clear z1 b1 s1 e9 k0)
    | ((with_reducible refine wpList_here ?_); refine wpList_byte1 (o := ⟨some 101, _, _, _, _, _⟩) rfl (.tmp 100) rfl _ rfl _ rfl ?_; intro wq0 eq0; have hT0 := hS0.keep (w1 := wq0) (by rw [eq0]; exact below_a _ _); have ra0 : RB wq0 (some ⟨w9.heap.size, 0, none⟩) 1 1 _ := (by rw [eq0]; exact RB.lit1 _ _ _ _ HX0.out); clear eq0)
    | (at_builtin; refine wpList_app _ rfl (.tmp 97) (.tmp 101) 24 5 rfl Tryd.underlying24 infoByte w1.heap.size _ 1 _ rfl hT0.own _ 1 1 _ rfl ra0 (by omega) hT0.base ?_; intro v10 w10 ho1 hg1 _; have hS1 := hT0.app ho1 hg1; clear ho1 hg1 hS0 hT0 ra0))
  have b0 := hS1.below
  have ow := own_mono hS1.own hS1.old
  obtain ⟨Af, cf, rfl, rf, _⟩ := RB.of_own ow
  go_ret
  rw [HOB.out]
  exact ⟨Af, cf, rfl, rf, ow, b0⟩

set_option maxRecDepth 8000 in
set_option maxHeartbeats 1600000 in
theorem rbytes_7 (o : Opt) (w : World) (hok : o.ok) (hk : o.kind = 7) : Calls Tryd.prog 46 #[.agg o.vals.toArray] w (OwnMade w 2 (ob o)) := by
  have HOB : Hid (ob o = ([UInt8.ofNat 7] ++ [UInt8.ofNat (u64 o.addr)])) := Lib.hid (by
    unfold ob
    rw [hk]
    simp [toldB, tab, tabN, Opt.num, byte_one, u64])
  have h1 := hok.key
  have h2 := hok.mac
  have h3 := hok.token
  have h4 := hok.nonce
  have HX0 := Lib.hid (byte_int o.addr)
  go_enter Tryd.func46, Tryd.ntmps46
  go_wp2_with (first
    | ((with_reducible refine wpList_here ?_); refine wpList_boxV rfl 52 (.tmp 0) rfl o.vals rfl _ rfl ?_; intro w1 z1 b1 s1; have k0 : w1.cell? ⟨w.heap.size, 0, none⟩ = some (.int .i64 o.kind) := (z1 0 (Nat.zero_lt_succ _)).1; rw [hk] at k0)
    | ((with_reducible refine wpList_here ?_); refine wpList_byte1 (o := ⟨some 7, _, _, _, _, _⟩) rfl (.tmp 6) rfl _ rfl _ rfl ?_; intro w9 e9; have hS0 : Bst w w1.heap.size w.heap.size o w9 (.slice (some ⟨w1.heap.size, 0, none⟩) 1 1) 1 [UInt8.ofNat 7] := (by rw [e9]; exact Bst.start w w1 w.heap.size o 7 (UInt8.ofNat 7) rfl z1 b1 (by omega)); have k0' : w9.cell? ⟨w.heap.size, 0, none⟩ = some (.int .i64 o.kind) := hS0.cell 0 (by omega); rw [hk] at k0'; have k5 : w9.cell? ⟨w.heap.size, 5, none⟩ = some (.int .i64 o.addr) := hS0.cell 5 (by omega); clear z1 b1 s1 e9 k0)
    | ((with_reducible refine wpList_here ?_); refine wpList_byte1 (o := ⟨some 101, _, _, _, _, _⟩) rfl (.tmp 100) rfl _ rfl _ rfl ?_; intro wq0 eq0; have hT0 := hS0.keep (w1 := wq0) (by rw [eq0]; exact below_a _ _); have ra0 : RB wq0 (some ⟨w9.heap.size, 0, none⟩) 1 1 _ := (by rw [eq0]; exact RB.lit1 _ _ _ _ HX0.out); clear eq0)
    | (at_builtin; refine wpList_app _ rfl (.tmp 97) (.tmp 101) 24 5 rfl Tryd.underlying24 infoByte w1.heap.size _ 1 _ rfl hT0.own _ 1 1 _ rfl ra0 (by omega) hT0.base ?_; intro v10 w10 ho1 hg1 _; have hS1 := hT0.app ho1 hg1; clear ho1 hg1 hS0 hT0 ra0))
  have b0 := hS1.below
  have ow := own_mono hS1.own hS1.old
  obtain ⟨Af, cf, rfl, rf, _⟩ := RB.of_own ow
  go_ret
  rw [HOB.out]
  exact ⟨Af, cf, rfl, rf, ow, b0⟩

set_option maxRecDepth 8000 in
set_option maxHeartbeats 1600000 in
theorem rbytes_8 (o : Opt) (w : World) (hok : o.ok) (hk : o.kind = 8) : Calls Tryd.prog 46 #[.agg o.vals.toArray] w (OwnMade w 2 (ob o)) := by
  have HOB : Hid (ob o = ([UInt8.ofNat 8] ++ [UInt8.ofNat (b2n o.backup)])) := Lib.hid (by
    unfold ob
    rw [hk]
    simp [toldB, tab, tabN, Opt.num, byte_one, u64])
  have h1 := hok.key
  have h2 := hok.mac
  have h3 := hok.token
  have h4 := hok.nonce
  have HX0 := Lib.hid (byte_bool o.backup)
  go_enter Tryd.func46, Tryd.ntmps46
  go_wp2_with (first
    | ((with_reducible refine wpList_here ?_); refine wpList_boxV rfl 52 (.tmp 0) rfl o.vals rfl _ rfl ?_; intro w1 z1 b1 s1; have k0 : w1.cell? ⟨w.heap.size, 0, none⟩ = some (.int .i64 o.kind) := (z1 0 (Nat.zero_lt_succ _)).1; rw [hk] at k0)
    | ((with_reducible refine wpList_here ?_); refine wpList_byte1 (o := ⟨some 7, _, _, _, _, _⟩) rfl (.tmp 6) rfl _ rfl _ rfl ?_; intro w9 e9; have hS0 : Bst w w1.heap.size w.heap.size o w9 (.slice (some ⟨w1.heap.size, 0, none⟩) 1 1) 1 [UInt8.ofNat 8] := (by rw [e9]; exact Bst.start w w1 w.heap.size o 8 (UInt8.ofNat 8) rfl z1 b1 (by omega)); have k0' : w9.cell? ⟨w.heap.size, 0, none⟩ = some (.int .i64 o.kind) := hS0.cell 0 (by omega); rw [hk] at k0'; have k7 : w9.cell? ⟨w.heap.size, 7, none⟩ = some (.bool o.backup) := hS0.cell 7 (by omega); clear z1 b1 s1 e9 k0)
    | (go_at_call 62; ((with_reducible refine (truth_any o.backup _).mono ?_); rintro e w' ⟨rfl, rfl⟩))
    | ((with_reducible refine wpList_here ?_); refine wpList_byte1 (o := ⟨some 109, _, _, _, _, _⟩) rfl (.tmp 108) rfl _ rfl _ rfl ?_; intro wq0 eq0; have hT0 := hS0.keep (w1 := wq0) (by rw [eq0]; exact below_a _ _); have ra0 : RB wq0 (some ⟨w9.heap.size, 0, none⟩) 1 1 _ := (by rw [eq0]; exact RB.lit1 _ _ _ _ HX0.out); clear eq0)
    | (at_builtin; refine wpList_app _ rfl (.tmp 105) (.tmp 109) 24 5 rfl Tryd.underlying24 infoByte w1.heap.size _ 1 _ rfl hT0.own _ 1 1 _ rfl ra0 (by omega) hT0.base ?_; intro v10 w10 ho1 hg1 _; have hS1 := hT0.app ho1 hg1; clear ho1 hg1 hS0 hT0 ra0))
  have b0 := hS1.below
  have ow := own_mono hS1.own hS1.old
  obtain ⟨Af, cf, rfl, rf, _⟩ := RB.of_own ow
  go_ret
  rw [HOB.out]
  exact ⟨Af, cf, rfl, rf, ow, b0⟩

set_option maxRecDepth 8000 in
set_option maxHeartbeats 1600000 in
theorem rbytes_9 (o : Opt) (w : World) (hok : o.ok) (hk : o.kind = 9) : Calls Tryd.prog 46 #[.agg o.vals.toArray] w (OwnMade w 5 (ob o)) := by
  have HOB : Hid (ob o = ([UInt8.ofNat 9] ++ be (u64 o.dsn) 4)) := Lib.hid (by
    unfold ob
    rw [hk]
    simp [toldB, tab, tabN, Opt.num, byte_one, u64])
  have h1 := hok.key
  have h2 := hok.mac
  have h3 := hok.token
  have h4 := hok.nonce
  go_enter Tryd.func46, Tryd.ntmps46
  go_wp2_with (first
    | ((with_reducible refine wpList_here ?_); refine wpList_boxV rfl 52 (.tmp 0) rfl o.vals rfl _ rfl ?_; intro w1 z1 b1 s1; have k0 : w1.cell? ⟨w.heap.size, 0, none⟩ = some (.int .i64 o.kind) := (z1 0 (Nat.zero_lt_succ _)).1; rw [hk] at k0)
    | ((with_reducible refine wpList_here ?_); refine wpList_byte1 (o := ⟨some 7, _, _, _, _, _⟩) rfl (.tmp 6) rfl _ rfl _ rfl ?_; intro w9 e9; have hS0 : Bst w w1.heap.size w.heap.size o w9 (.slice (some ⟨w1.heap.size, 0, none⟩) 1 1) 1 [UInt8.ofNat 9] := (by rw [e9]; exact Bst.start w w1 w.heap.size o 9 (UInt8.ofNat 9) rfl z1 b1 (by omega)); have k0' : w9.cell? ⟨w.heap.size, 0, none⟩ = some (.int .i64 o.kind) := hS0.cell 0 (by omega); rw [hk] at k0'; have k11 : w9.cell? ⟨w.heap.size, 11, none⟩ = some (.int .i64 o.dsn) := hS0.cell 11 (by omega); clear z1 b1 s1 e9 k0))
  refine (num4_any _ _).mono ?_
  rintro e wa0 ⟨va0, rfl, oa0, ba0⟩
  obtain ⟨Aa0, ca0, rfl, ra0, _⟩ := RB.of_own oa0
  have hT0 := hS0.keep ba0
  clear oa0 ba0 hS0
  go_wp2_with (first
    | (at_builtin; refine wpList_app _ rfl (.tmp 113) (.tmp 116) 24 5 rfl Tryd.underlying24 infoByte w1.heap.size _ 1 _ rfl hT0.own _ 4 _ _ rfl ra0 (by omega) hT0.base ?_; intro v10 w10 ho1 hg1 _; have hS1 := hT0.app ho1 hg1; clear ho1 hg1 hT0 ra0))
  have b0 := hS1.below
  have ow := own_mono hS1.own hS1.old
  obtain ⟨Af, cf, rfl, rf, _⟩ := RB.of_own ow
  go_ret
  rw [HOB.out]
  exact ⟨Af, cf, rfl, rf, ow, b0⟩

set_option maxRecDepth 8000 in
set_option maxHeartbeats 1600000 in
theorem rbytes_10 (o : Opt) (w : World) (hok : o.ok) (hk : o.kind = 10) : Calls Tryd.prog 46 #[.agg o.vals.toArray] w (OwnMade w 9 (ob o)) := by
  have HOB : Hid (ob o = ([UInt8.ofNat 10] ++ be o.key 8)) := Lib.hid (by
    unfold ob
    rw [hk]
    simp [toldB, tab, tabN, Opt.num, byte_one, u64])
  have h1 := hok.key
  have h2 := hok.mac
  have h3 := hok.token
  have h4 := hok.nonce
  have HA0 : Hid (∀ W, Calls Tryd.prog 50 #[.int .u64 (o.key : Int), .int .i64 8] W (Made W 5 8 (be o.key 8))) := Lib.hid (fun W => Bytes_any o.key 8 W (by omega))
  go_enter Tryd.func46, Tryd.ntmps46
  go_wp2_with (first
    | ((with_reducible refine wpList_here ?_); refine wpList_boxV rfl 52 (.tmp 0) rfl o.vals rfl _ rfl ?_; intro w1 z1 b1 s1; have k0 : w1.cell? ⟨w.heap.size, 0, none⟩ = some (.int .i64 o.kind) := (z1 0 (Nat.zero_lt_succ _)).1; rw [hk] at k0)
    | ((with_reducible refine wpList_here ?_); refine wpList_byte1 (o := ⟨some 7, _, _, _, _, _⟩) rfl (.tmp 6) rfl _ rfl _ rfl ?_; intro w9 e9; have hS0 : Bst w w1.heap.size w.heap.size o w9 (.slice (some ⟨w1.heap.size, 0, none⟩) 1 1) 1 [UInt8.ofNat 10] := (by rw [e9]; exact Bst.start w w1 w.heap.size o 10 (UInt8.ofNat 10) rfl z1 b1 (by omega)); have k0' : w9.cell? ⟨w.heap.size, 0, none⟩ = some (.int .i64 o.kind) := hS0.cell 0 (by omega); rw [hk] at k0'; have k1 : w9.cell? ⟨w.heap.size, 1, none⟩ = some (.int .u64 (o.key : Int)) := hS0.cell 1 (by omega); clear z1 b1 s1 e9 k0))
  refine (HA0.out _).mono ?_
  rintro e wa0 ⟨va0, rfl, oa0, ba0⟩
  obtain ⟨Aa0, ca0, rfl, ra0, _⟩ := RB.of_own oa0
  have hT0 := hS0.keep ba0
  clear oa0 ba0 hS0
  go_wp2_with (first
    | (at_builtin; refine wpList_app _ rfl (.tmp 13) (.tmp 16) 24 5 rfl Tryd.underlying24 infoByte w1.heap.size _ 1 _ rfl hT0.own _ 8 _ _ rfl ra0 (by omega) hT0.base ?_; intro v10 w10 ho1 hg1 _; have hS1 := hT0.app ho1 hg1; clear ho1 hg1 hT0 ra0))
  have b0 := hS1.below
  have ow := own_mono hS1.own hS1.old
  obtain ⟨Af, cf, rfl, rf, _⟩ := RB.of_own ow
  go_ret
  rw [HOB.out]
  exact ⟨Af, cf, rfl, rf, ow, b0⟩

set_option maxRecDepth 8000 in
set_option maxHeartbeats 1600000 in
theorem rbytes_11 (o : Opt) (w : World) (hok : o.ok) (hk : o.kind = 11) : Calls Tryd.prog 46 #[.agg o.vals.toArray] w (OwnMade w 2 (ob o)) := by
  have HOB : Hid (ob o = ([UInt8.ofNat 11] ++ [UInt8.ofNat (u64 o.reason)])) := Lib.hid (by
    unfold ob
    rw [hk]
    simp [toldB, tab, tabN, Opt.num, byte_one, u64])
  have h1 := hok.key
  have h2 := hok.mac
  have h3 := hok.token
  have h4 := hok.nonce
  have HX0 := Lib.hid (byte_int o.reason)
  go_enter Tryd.func46, Tryd.ntmps46
  go_wp2_with (first
    | ((with_reducible refine wpList_here ?_); refine wpList_boxV rfl 52 (.tmp 0) rfl o.vals rfl _ rfl ?_; intro w1 z1 b1 s1; have k0 : w1.cell? ⟨w.heap.size, 0, none⟩ = some (.int .i64 o.kind) := (z1 0 (Nat.zero_lt_succ _)).1; rw [hk] at k0)
    | ((with_reducible refine wpList_here ?_); refine wpList_byte1 (o := ⟨some 7, _, _, _, _, _⟩) rfl (.tmp 6) rfl _ rfl _ rfl ?_; intro w9 e9; have hS0 : Bst w w1.heap.size w.heap.size o w9 (.slice (some ⟨w1.heap.size, 0, none⟩) 1 1) 1 [UInt8.ofNat 11] := (by rw [e9]; exact Bst.start w w1 w.heap.size o 11 (UInt8.ofNat 11) rfl z1 b1 (by omega)); have k0' : w9.cell? ⟨w.heap.size, 0, none⟩ = some (.int .i64 o.kind) := hS0.cell 0 (by omega); rw [hk] at k0'; have k6 : w9.cell? ⟨w.heap.size, 6, none⟩ = some (.int .i64 o.reason) := hS0.cell 6 (by omega); clear z1 b1 s1 e9 k0)
    | ((with_reducible refine wpList_here ?_); refine wpList_byte1 (o := ⟨some 124, _, _, _, _, _⟩) rfl (.tmp 123) rfl _ rfl _ rfl ?_; intro wq0 eq0; have hT0 := hS0.keep (w1 := wq0) (by rw [eq0]; exact below_a _ _); have ra0 : RB wq0 (some ⟨w9.heap.size, 0, none⟩) 1 1 _ := (by rw [eq0]; exact RB.lit1 _ _ _ _ HX0.out); clear eq0)
    | (at_builtin; refine wpList_app _ rfl (.tmp 120) (.tmp 124) 24 5 rfl Tryd.underlying24 infoByte w1.heap.size _ 1 _ rfl hT0.own _ 1 1 _ rfl ra0 (by omega) hT0.base ?_; intro v10 w10 ho1 hg1 _; have hS1 := hT0.app ho1 hg1; clear ho1 hg1 hS0 hT0 ra0))
  have b0 := hS1.below
  have ow := own_mono hS1.own hS1.old
  obtain ⟨Af, cf, rfl, rf, _⟩ := RB.of_own ow
  go_ret
  rw [HOB.out]
  exact ⟨Af, cf, rfl, rf, ow, b0⟩

set_option maxRecDepth 8000 in
set_option maxHeartbeats 1600000 in
theorem rbytes_0 (o : Opt) (w : World) (hk : tab o.kind = []) : Calls Tryd.prog 46 #[.agg o.vals.toArray] w (OwnMade w 1 (ob o)) := by
  have hne : ∀ k : Int, tab k ≠ [] → (o.kind == k) = false := fun k h => by
    rw [beq_eq_false_iff_ne]
    intro e
    rw [e] at hk
    exact h hk
  have HOB : Hid (ob o = [UInt8.ofNat (u64 o.kind)]) := Lib.hid (by
    unfold ob
    rw [hk, byte_one]
    rfl)
  have HX := Lib.hid (byte_int o.kind)
  have n1 := hne 1 (by decide)
  have n2 := hne 2 (by decide)
  have n3 := hne 3 (by decide)
  have n4 := hne 4 (by decide)
  have n5 := hne 5 (by decide)
  have n6 := hne 6 (by decide)
  have n7 := hne 7 (by decide)
  have n8 := hne 8 (by decide)
  have n9 := hne 9 (by decide)
  have n10 := hne 10 (by decide)
  have n11 := hne 11 (by decide)
  clear hne hk
  go_enter Tryd.func46, Tryd.ntmps46
  go_wp2_with (first
    | ((with_reducible refine wpList_here ?_); refine wpList_boxV rfl 52 (.tmp 0) rfl o.vals rfl _ rfl ?_; intro w1 z1 b1 s1; have k0 : w1.cell? ⟨w.heap.size, 0, none⟩ = some (.int .i64 o.kind) := (z1 0 (Nat.zero_lt_succ _)).1)
    | ((with_reducible refine wpList_here ?_); refine wpList_byte1 (o := ⟨some 7, _, _, _, _, _⟩) rfl (.tmp 6) rfl _ rfl _ rfl ?_; intro w9 e9; have hS0 : Bst w w1.heap.size w.heap.size o w9 (.slice (some ⟨w1.heap.size, 0, none⟩) 1 1) 1 [UInt8.ofNat (u64 o.kind)] := (by rw [e9]; exact Bst.start w w1 w.heap.size o _ (UInt8.ofNat (u64 o.kind)) HX.out z1 b1 (by omega)); have k0' : w9.cell? ⟨w.heap.size, 0, none⟩ = some (.int .i64 o.kind) := hS0.cell 0 (by omega); clear z1 b1 s1 e9 k0))
  have b0 := hS0.below
  have ow := own_mono hS0.own hS0.old
  obtain ⟨Af, cf, e, rf, _⟩ := RB.of_own ow
  injection e with e1 _ e3
  subst e1 e3
  go_ret
  rw [HOB.out]
  exact ⟨_, _, rfl, rf, ow, b0⟩
/-- An option's bytes, of whatever kind. -/
theorem rbytes_any (o : Opt) (w : World) (hok : o.ok) : Calls Tryd.prog 46 #[.agg o.vals.toArray] w (OwnMade w (ob o).length (ob o)) := by
  have hl := ob_length o
  rcases kind_or o.kind with hc | hc | hc | hc | hc | hc | hc | hc | hc | hc | hc | hc | hc | hc
  · rw [tab_neg hc] at hl; rw [hl]; exact rbytes_0 o w (tab_neg hc)
  · rw [tab_far hc] at hl; rw [hl]; exact rbytes_0 o w (tab_far hc)
  · rw [hc] at hl; rw [hl]; exact rbytes_0 o w (by rw [hc]; rfl)
  · rw [hc] at hl; rw [hl]; exact rbytes_1 o w hok hc
  · rw [hc] at hl; rw [hl]; exact rbytes_2 o w hok hc
  · rw [hc] at hl; rw [hl]; exact rbytes_3 o w hok hc
  · rw [hc] at hl; rw [hl]; exact rbytes_4 o w hok hc
  · rw [hc] at hl; rw [hl]; exact rbytes_5 o w hok hc
  · rw [hc] at hl; rw [hl]; exact rbytes_6 o w hok hc
  · rw [hc] at hl; rw [hl]; exact rbytes_7 o w hok hc
  · rw [hc] at hl; rw [hl]; exact rbytes_8 o w hok hc
  · rw [hc] at hl; rw [hl]; exact rbytes_9 o w hok hc
  · rw [hc] at hl; rw [hl]; exact rbytes_10 o w hok hc
  · rw [hc] at hl; rw [hl]; exact rbytes_11 o w hok hc
end Go.Proofs.YtbbpemndkphgeaaDoor

/- The contracts of Answer, Out, Left, Send, Close; a segment as what is told. Conditions: the flow stands, with at most 2^30 pieces and at most 2^39 to be sent. -/
import Derived.Test.YtlcegchdkigibaaGreatDoorMg16
namespace Go.Proofs.YtlcegchdkigibaaGreatDoor.LF
set_option linter.unusedVariables false
set_option linter.unusedSimpArgs false
set_option maxRecDepth 20000
open Go.RowKit Go.Lib

/-- What is told, as a segment's cells. -/
def Oc.sg (o : Oc) : List Value := [.int .i64 0, .int .i64 0, .int .i64 0, .int .i64 0, .int .u32 (o.p.seq : Int), .int .u32 (o.ack : Int), .bool o.p.syn, .bool o.acks, .bool o.p.fin, .bool o.rst, .int .i64 0, .slice none 0 0, .slice o.p.dA o.p.dn o.p.dc]
theorem sg_length (o : Oc) : o.sg.length = 13 := rfl
theorem sg_one (o : Oc) : ∀ u ∈ o.sg, u.oneCell' = true := by
  intro u hu
  simp only [Oc.sg, List.mem_cons, List.not_mem_nil, or_false] at hu
  rcases hu with rfl | rfl | rfl | rfl | rfl | rfl | rfl | rfl | rfl | rfl | rfl | rfl | rfl <;> rfl
theorem infoSg : (Tryz.prog.info? 40).map (·.size) = some 13 := by kernel_rfl

set_option maxHeartbeats 1600000 in
theorem Answer_any (i : Nat) (o : Oc) (t : Int) (w : World) (hi : i < 4294967296) (hq : o.p.seq < 4294967296) (ht : isInt t) : Calls Tryz.prog 186 #[.int .u32 (i : Int), .agg o.sg.toArray, .int .i64 t] w (MadeF w (F.answer i o.p.seq t)) := by
  have HB := Lib.hid (fun W => begun_any i 2 (on o.p.seq 1) t W hi (on_lt _ _) ht)
  have HO := Lib.hid (fun W => On_any o.p.seq 1 W hq (by omega))
  go_enter Tryz.func186, Tryz.ntmps186
  go_wp2_with (first
    | ((with_reducible refine wpList_here ?_); refine wpList_boxV (o := ⟨some 4, _, _, _, _, _⟩) rfl 40 (.tmp 1) rfl o.sg rfl _ rfl ?_; intro w1 z1 b1 s1; have k4 : w1.cell? ⟨w.heap.size, 4, none⟩ = some (.int .u32 (o.p.seq : Int)) := (z1 4 (by rw [sg_length]; omega)).1; have HB1 := Lib.hid b1; clear b1 z1)
    | fail)
  refine (HO.out _).mono ?_
  rintro e w2 ⟨rfl, b2⟩
  have HB2 := Lib.hid (below_trans HB1.out b2)
  clear b2 k4 s1 HO
  have HBG := Lib.hid (HB.out w2)
  clear HB HB1
  go_wp2_with fail
  refine HBG.out.mono ?_
  rintro e w3 ⟨s, rfl, f, b⟩
  have HF := Lib.hid (f.mono HB2.out.size)
  have HB3 := Lib.hid (below_trans HB2.out b)
  clear f b
  go_wp2_with fail
  go_ret
  exact ⟨s, rfl, HF.out, HB3.out⟩

section
variable {base : Nat} {w : World} {s : Sh} {x : F}
/-- Nothing is to be sent any more. -/
def F.quiet (x : F) : F := { x with os := [] }
def Sh.quiet (s : Sh) : Sh := { s with ov := .slice none 0 0, ol := [] }
set_option maxHeartbeats 1600000 in
theorem Out_any (h : Fl base w s x) : Calls Tryz.prog 158 #[ptr s.fb] w fun e w' => e = .returned s.ov ∧ Fl base w' s.quiet x.quiet ∧ Ch w w' (fun g => g = s.fb) := by
  have H := Lib.hid h
  have c12 := h.fa.c12
  have f12 := h.fa.fz 12
  obtain ⟨A, c, hv, hc1, hc2⟩ := own_slice h.row
  have c12' : w.cell? ⟨s.fb, 12, none⟩ = some s.ov := c12
  rw [hv] at c12'
  rw [hv]
  have HV := Lib.hid hv
  clear h c12 hv
  generalize hn : s.ol.length = n at *
  clear hn
  unfold ptr
  go_enter Tryz.func158, Tryz.ntmps158
  go_wp2_with fail
  go_ret
  have k := ch_set w s.fb 12 (.slice none 0 0)
  have h := H.out
  refine ⟨rfl, ⟨h.fa.set 12 _ _ rfl, h.lo, h.qu.frame k (fun g hg e => h.ne_queue (e ▸ hg)), h.ky, h.cn, h.lt, World.ownsRow_nil _ _ _ _, rfl, (fun o ho => by cases ho), (fun o ho => by cases ho), h.rcv⟩, k⟩
set_option maxHeartbeats 1600000 in
theorem Left_any (h : Fl base w s x) (hl : x.ks.length ≤ 1073741824) (hd : ∀ k ∈ x.ks, k.ds.length ≤ 1099511627776) : Calls Tryz.prog 331 #[ptr s.fb] w fun e w' => (∃ A c, e = .returned (.slice A x.ks.length c)) ∧ Below w.heap.size w w' := by
  have HA := Lib.hid (All_any h.qu (by rw [h.llen]; omega) (fun p hp => by
    have := hd p.key (by rw [← h.ky]; exact List.mem_map_of_mem hp)
    have h2 := (h.qu.ok p hp).pg.data.len
    have : p.ds.length ≤ 1099511627776 := this
    omega))
  rw [h.ky] at HA
  have c0 := h.fa.c0
  clear h hl hd
  dsimp only [F.fc] at c0
  unfold ptr at *
  go_enter Tryz.func331, Tryz.ntmps331
  go_wp2_with fail
  refine HA.out.mono ?_
  rintro e w1 ⟨v, rfl, ⟨qs, h1, h2, h3⟩, b1⟩
  obtain ⟨A, c, rfl, _, _⟩ := own_slice h1
  have HB := Lib.hid b1
  clear h1 h2 h3 b1
  go_wp2_with fail
  go_ret
  exact ⟨⟨A, c, rfl⟩, HB.out⟩

/-- What Send does; what it answers. -/
def dK (dsn : Int) (last : Bool) (ds : List UInt8) : Ky := ⟨0, false, false, dsn, last, ds⟩
def F.put (x : F) (dsn : Int) (last : Bool) (ds : List UInt8) (t : Int) : F := if x.st = 3 ∨ x.st = 6 then (if ds.length = 0 ∨ 8 < ds.length then x else x.send (dK dsn last ds) t) else x
def F.putE (x : F) (ds : List UInt8) : Int := if x.st = 3 ∨ x.st = 6 then (if ds.length = 0 ∨ 8 < ds.length then 1 else 0) else 9
set_option maxHeartbeats 3200000 in
theorem Send_any (h : Fl base w s x) (A : Option Addr) (n c : Nat) (ds : List UInt8) (hp : RB w A n c ds) (hap : ∀ g o s', A = some ⟨g, o, s'⟩ → 0 < n → ¬ s.T g) (dsn : Int) (hdsn : isInt dsn) (last : Bool) (hl : x.ks.length ≤ 1073741824) (hn : x.os.length ≤ 549755813888) (hE : x.E.Ok) (t : Int) (ht : isInt t) :
    Calls Tryz.prog 202 #[ptr s.fb, .slice A n c, .int .i64 dsn, .bool last, .int .i64 t] w fun e w' => e = .returned (.int .i64 (x.putE ds)) ∧ Left base w s (x.put dsn last ds t) w' := by
  have hlen := hp.len
  have HS := Lib.hid (sends_any h.fa)
  have H := Lib.hid h
  unfold F.putE F.put
  rw [hlen]
  by_cases h1 : x.st = 3 ∨ x.st = 6
  · have e1 : decide ((x.fc s.qb s.ov).st = 3 ∨ (x.fc s.qb s.ov).st = 6) = true := decide_eq_true h1
    rw [e1] at HS
    rw [if_pos h1, if_pos h1]
    by_cases h2 : n = 0
    · subst h2
      rw [if_pos (.inl rfl), if_pos (.inl rfl)]
      clear h h1 e1 hp hap hl hn hE ht hdsn
      unfold ptr at *
      go_enter Tryz.func202, Tryz.ntmps202
      go_wp2_with (first | (go_at_call 276; refine HS.out.mono ?_; rintro e w1 ⟨rfl, rfl⟩) | fail)
      go_ret
      exact ⟨rfl, Left.same H.out (Below.refl _ _)⟩
    · by_cases h3 : 8 < n
      · rw [if_pos (.inr h3), if_pos (.inr h3)]
        have n2 : ((n : Int) == 0) = false := by rw [beq_eq_false_iff_ne]; omega
        have n3 : (8 : Int) < (n : Int) := by omega
        clear h h1 e1 hp hap hl hn hE ht hdsn h2 h3
        unfold ptr at *
        go_enter Tryz.func202, Tryz.ntmps202
        go_wp2_with (first | (go_at_call 276; refine HS.out.mono ?_; rintro e w1 ⟨rfl, rfl⟩) | fail)
        go_ret
        exact ⟨rfl, Left.same H.out (Below.refl _ _)⟩
      · rw [if_neg (by omega), if_neg (by omega)]
        have n2 : ((n : Int) == 0) = false := by rw [beq_eq_false_iff_ne]; omega
        have n3 : decide ((8 : Int) < (n : Int)) = false := decide_eq_false (by omega)
        have HSend := Lib.hid (send_any h ⟨0, false, false, A, n, c, dsn, last, ds⟩ ⟨by show (0 : Nat) < 4294967296; omega, hdsn, hp⟩ (fun g o s' e hn => ⟨fun e2 => hap g o s' e hn (.inr (.inl (.inl e2))), fun e2 => hap g o s' e hn (.inr (.inl (.inr (.inl e2)))), fun e2 => hap g o s' e hn (.inl e2)⟩) (by show n ≤ _; omega) (by show 0 < ds.length + bn false + bn false; omega) hl hn hE t ht)
        clear h h1 e1 hp hap hl hn hE ht hdsn h2 h3
        unfold ptr at *
        go_enter Tryz.func202, Tryz.ntmps202
        go_wp2_with (first | (go_at_call 276; refine HS.out.mono ?_; rintro e w1 ⟨rfl, rfl⟩) | (go_at_call 172; refine HSend.out.mono ?_; rintro e w2 ⟨rfl, l2⟩; have HL2 := Lib.hid l2; clear l2) | fail)
        go_ret
        exact ⟨rfl, HL2.out⟩
  · have e1 : decide ((x.fc s.qb s.ov).st = 3 ∨ (x.fc s.qb s.ov).st = 6) = false := decide_eq_false h1
    rw [e1] at HS
    rw [if_neg h1, if_neg h1]
    clear h h1 e1 hp hap hl hn hE ht hdsn
    unfold ptr at *
    go_enter Tryz.func202, Tryz.ntmps202
    go_wp2_with (first | (go_at_call 276; refine HS.out.mono ?_; rintro e w1 ⟨rfl, rfl⟩) | fail)
    go_ret
    exact ⟨rfl, Left.same H.out (Below.refl _ _)⟩

def F.at_ (x : F) (st : Nat) : F := { x with st := st }
def fP : Pc := { zP with fin := true }
def fK : Ky := ⟨0, false, true, 0, false, []⟩
theorem fP_ok (w : World) : PG w fP := ⟨Nat.zero_lt_succ _, ⟨by show (-9223372036854775808 : Int) ≤ 0; decide, by show (0 : Int) ≤ 9223372036854775807; decide⟩, RB.nil_ w⟩
theorem send_st (x : F) (k : Ky) (t : Int) : (x.send k t).st = x.st := by
  unfold F.send
  dsimp only
  split <;> split <;> rfl
/-- What Close does. -/
def F.close (x : F) (t : Int) : F := if x.st = 3 then (x.send fK t).at_ 4 else if x.st = 6 then (x.send fK t).at_ 8 else x
def F.closeE (x : F) : Int := if x.st = 3 ∨ x.st = 6 then 0 else 9
theorem Left.at_ {w' : World} {st : Nat} {x' : F} (k : Fl base w' s x') : Left base w' s (x'.at_ st) (w'.setCell ⟨s.fb, 5, none⟩ (.int .i64 (st : Int))) :=
  k.left (k.fa.set 5 _ ((x'.at_ st).fc s.qb s.ov) rfl) (ch_set _ _ _ _) rfl rfl rfl rfl rfl k.rcv
set_option maxHeartbeats 3200000 in
theorem Close_any (h : Fl base w s x) (hl : x.ks.length ≤ 1073741824) (hn : x.os.length ≤ 549755813888) (hE : x.E.Ok) (t : Int) (ht : isInt t) :
    Calls Tryz.prog 198 #[ptr s.fb, .int .i64 t] w fun e w' => e = .returned (.int .i64 x.closeE) ∧ Left base w s (x.close t) w' := by
  have HS := Lib.hid (sends_any h.fa)
  have H := Lib.hid h
  unfold F.closeE F.close
  by_cases h1 : x.st = 3 ∨ x.st = 6
  · have e1 : decide ((x.fc s.qb s.ov).st = 3 ∨ (x.fc s.qb s.ov).st = 6) = true := decide_eq_true h1
    rw [e1] at HS
    rw [if_pos h1]
    have HSend := Lib.hid (send_any h fP (fP_ok w) (fun g o s' e hn => by cases e) (by decide) (by decide) hl hn hE t ht)
    by_cases h2 : x.st = 3
    · rw [if_pos h2]
      clear h h1 e1 hl hn hE ht
      unfold ptr at *
      go_enter Tryz.func198, Tryz.ntmps198
      go_wp2_with (first | (go_at_call 276; refine HS.out.mono ?_; rintro e w1 ⟨rfl, rfl⟩) | (go_at_call 172; refine HSend.out.mono ?_; rintro e w2 ⟨rfl, s2, e2, f2, c2, n2⟩; have HF := Lib.hid f2; have HC := Lib.hid (And.intro e2 (And.intro c2 n2)); have c5 := f2.fa.c5; have f5 := f2.fa.fz 5; dsimp only [F.fc] at c5; rw [send_st, h2] at c5; rw [e2] at c5 f5; clear e2 f2 c2 n2) | fail)
      go_ret
      have := Left.at_ (st := 4) HF.out
      rw [HC.out.1] at this
      exact ⟨rfl, Left.then_ HC.out.1 HC.out.2.1 HC.out.2.2 this⟩
    · have h3 : x.st = 6 := h1.resolve_left h2
      rw [if_neg h2, if_pos h3]
      clear h h1 e1 hl hn hE ht
      unfold ptr at *
      go_enter Tryz.func198, Tryz.ntmps198
      go_wp2_with (first | (go_at_call 276; refine HS.out.mono ?_; rintro e w1 ⟨rfl, rfl⟩) | (go_at_call 172; refine HSend.out.mono ?_; rintro e w2 ⟨rfl, s2, e2, f2, c2, n2⟩; have HF := Lib.hid f2; have HC := Lib.hid (And.intro e2 (And.intro c2 n2)); have c5 := f2.fa.c5; have f5 := f2.fa.fz 5; dsimp only [F.fc] at c5; rw [send_st, h3] at c5; rw [e2] at c5 f5; clear e2 f2 c2 n2) | fail)
      go_ret
      have := Left.at_ (st := 8) HF.out
      rw [HC.out.1] at this
      exact ⟨rfl, Left.then_ HC.out.1 HC.out.2.1 HC.out.2.2 this⟩
  · have e1 : decide ((x.fc s.qb s.ov).st = 3 ∨ (x.fc s.qb s.ov).st = 6) = false := decide_eq_false h1
    rw [e1] at HS
    rw [if_neg h1, if_neg (fun e => h1 (.inl e)), if_neg (fun e => h1 (.inr e))]
    clear h h1 e1 hl hn hE ht
    unfold ptr at *
    go_enter Tryz.func198, Tryz.ntmps198
    go_wp2_with (first | (go_at_call 276; refine HS.out.mono ?_; rintro e w1 ⟨rfl, rfl⟩) | fail)
    go_ret
    exact ⟨rfl, Left.same H.out (Below.refl _ _)⟩
end
end Go.Proofs.YtlcegchdkigibaaGreatDoor.LF

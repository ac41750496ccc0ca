/-
  Values, Room, Recv and Send.
-/
import Derived.Test.YtdfjbgfdaokjgaaCond
namespace Go.Proofs.Ytdfjbgfdaokjgaa
open Go.RowKit

theorem results_tmp4 {fn : Func} {t u v x : Tmp} (h : fn.results = #[.tmp t, .tmp u, .tmp v, .tmp x]) (tmps : Array Value) (P : Program) (w : World) :
    (results fn tmps).run P w = .ok (.tuple #[tmps.getD t undef, tmps.getD u undef, tmps.getD v undef, tmps.getD x undef]) w := by
  simp [results, h, go_sem]

set_option maxRecDepth 100000 in
set_option maxHeartbeats 2000000 in
theorem values_out (rv : Value) (md : Bool) (oo : Option Addr) (no co : Nat) (oc : Option Addr) (nc cc : Nat) (oh : Option Addr) (nh ch : Nat) (w : World)
    (hh : Calls Try.prog 36 #[rv] w fun e w' => e = .returned (.agg (hdC md oo no co oc nc cc oh nh ch)) ∧ Below w.heap.size w w')
    (m : Int) (hout : m < 0 ∨ (nh : Int) ≤ m) (hn : nh ≤ 1000) :
    Calls Try.prog 21 #[rv, .int .i64 m] w fun e w' => e = .returned (.tuple #[.slice none 0 0, .int .i64 (if md = true then 4 else 1)]) ∧ Below w.heap.size w w' := by
  have HH := Lib.hid hh
  clear hh
  cases md
  all_goals
    go_enter Try.func21, Try.ntmps21
    go_wp2_with fail
    refine HH.out.mono ?_
    rintro e w1 ⟨rfl, hb1⟩
    have HB1 := Lib.hid hb1
    clear hb1
    go_wp2_with fail
    refine (find_chan_out _ _ _ _ _ _ _ m hout (by omega) _).mono ?_
    rintro e w2 ⟨q, rfl, hb2, hq, hbq⟩
    have HB2 := Lib.hid (below_step HB1.out hb2)
    clear hb2 HB1
    go_wp2_with fail
    first
      | (with_reducible refine (refused_b 4 (by omega) true false _ _ 4 (refS_t _ _ _) _).mono ?_)
      | (with_reducible refine (refused_b 4 (by omega) false false _ _ 1 (refS_f _ _ _) _).mono ?_)
    rintro e w4 ⟨rfl, hb4⟩
    have HB4 := Lib.hid (below_step HB2.out hb4)
    clear hb4
    go_wp2_with fail
    go_ret2
    exact ⟨rfl, HB4.out⟩

set_option maxRecDepth 100000 in
set_option maxHeartbeats 2000000 in
theorem room_out (rv : Value) (md : Bool) (oo : Option Addr) (no co : Nat) (oc : Option Addr) (nc cc : Nat) (oh : Option Addr) (nh ch : Nat) (w : World)
    (hh : Calls Try.prog 36 #[rv] w fun e w' => e = .returned (.agg (hdC md oo no co oc nc cc oh nh ch)) ∧ Below w.heap.size w w')
    (m : Int) (hout : m < 0 ∨ (nh : Int) ≤ m) (hn : nh ≤ 1000) :
    Calls Try.prog 22 #[rv, .int .i64 m] w fun e w' => e = .returned (.tuple #[.int .i64 0, .int .i64 (if md = true then 4 else 1)]) ∧ Below w.heap.size w w' := by
  have HH := Lib.hid hh
  clear hh
  cases md
  all_goals
    go_enter Try.func22, Try.ntmps22
    go_wp2_with fail
    refine HH.out.mono ?_
    rintro e w1 ⟨rfl, hb1⟩
    have HB1 := Lib.hid hb1
    clear hb1
    go_wp2_with fail
    refine (find_chan_out _ _ _ _ _ _ _ m hout (by omega) _).mono ?_
    rintro e w2 ⟨q, rfl, hb2, hq, hbq⟩
    have HB2 := Lib.hid (below_step HB1.out hb2)
    clear hb2 HB1
    go_wp2_with fail
    first
      | (with_reducible refine (refused_b 4 (by omega) true false _ _ 4 (refS_t _ _ _) _).mono ?_)
      | (with_reducible refine (refused_b 4 (by omega) false false _ _ 1 (refS_f _ _ _) _).mono ?_)
    rintro e w4 ⟨rfl, hb4⟩
    have HB4 := Lib.hid (below_step HB2.out hb4)
    clear hb4
    go_wp2_with fail
    go_ret2
    exact ⟨rfl, HB4.out⟩

set_option maxRecDepth 100000 in
set_option maxHeartbeats 2000000 in
theorem recv_out (rv : Value) (md : Bool) (oo : Option Addr) (no co : Nat) (oc : Option Addr) (nc cc : Nat) (oh : Option Addr) (nh ch : Nat) (w : World)
    (hh : Calls Try.prog 36 #[rv] w fun e w' => e = .returned (.agg (hdC md oo no co oc nc cc oh nh ch)) ∧ Below w.heap.size w w')
    (m : Int) (hout : m < 0 ∨ (nh : Int) ≤ m) (hn : nh ≤ 1000) :
    Calls Try.prog 20 #[rv, .int .i64 m] w fun e w' => e = .returned (.tuple #[.int .i64 0, .int .i64 0, .bool false, .int .i64 (if md = true then 4 else 1)]) ∧ Below w.heap.size w w' := by
  have HH := Lib.hid hh
  clear hh
  cases md
  all_goals
    go_enter Try.func20, Try.ntmps20
    go_wp2_with fail
    refine HH.out.mono ?_
    rintro e w1 ⟨rfl, hb1⟩
    have HB1 := Lib.hid hb1
    clear hb1
    go_wp2_with fail
    refine (find_chan_out _ _ _ _ _ _ _ m hout (by omega) _).mono ?_
    rintro e w2 ⟨q, rfl, hb2, hq, hbq⟩
    have HB2 := Lib.hid (below_step HB1.out hb2)
    clear hb2 HB1
    go_wp2_with fail
    first
      | (with_reducible refine (refused_b 4 (by omega) true false _ _ 4 (refS_t _ _ _) _).mono ?_)
      | (with_reducible refine (refused_b 4 (by omega) false false _ _ 1 (refS_f _ _ _) _).mono ?_)
    rintro e w4 ⟨rfl, hb4⟩
    have HB4 := Lib.hid (below_step HB2.out hb4)
    clear hb4
    go_wp2_with fail
    refine bodyPost_ret (results_tmp4 rfl _ _ _) rfl ?_
    exact ⟨rfl, HB4.out⟩

set_option maxRecDepth 100000 in
set_option maxHeartbeats 2000000 in
theorem send_out (rv : Value) (md : Bool) (oo : Option Addr) (no co : Nat) (oc : Option Addr) (nc cc : Nat) (oh : Option Addr) (nh ch : Nat) (w : World)
    (hh : Calls Try.prog 36 #[rv] w fun e w' => e = .returned (.agg (hdC md oo no co oc nc cc oh nh ch)) ∧ Below w.heap.size w w')
    (m : Int) (hout : m < 0 ∨ (nh : Int) ≤ m) (hn : nh ≤ 1000) (t : Int) :
    Calls Try.prog 19 #[rv, .int .i64 m, .int .i64 t] w fun e w' => e = .returned (.tuple #[.int .i64 0, .bool false, .int .i64 (if md = true then 4 else 1)]) ∧ Below w.heap.size w w' := by
  have HH := Lib.hid hh
  clear hh
  cases md
  all_goals
    go_enter Try.func19, Try.ntmps19
    go_wp2_with fail
    refine HH.out.mono ?_
    rintro e w1 ⟨rfl, hb1⟩
    have HB1 := Lib.hid hb1
    clear hb1
    go_wp2_with fail
    refine (find_chan_out _ _ _ _ _ _ _ m hout (by omega) _).mono ?_
    rintro e w2 ⟨q, rfl, hb2, hq, hbq⟩
    have HB2 := Lib.hid (below_step HB1.out hb2)
    clear hb2 HB1
    go_wp2_with fail
    refine (value_b t _ rfl _).mono ?_
    rintro e w3 ⟨rfl, hb3⟩
    have HB3 := Lib.hid (below_step HB2.out hb3)
    obtain ⟨a0, a1, a2, a3, f0, f1, f2, f3⟩ := ((Blk.new w2 86 #[_, .bool false, .bool false, .bool false]).below hb3 (by simp)).four
    have hz2 : w.heap.size ≤ w2.heap.size := HB2.out.size
    clear hb3
    go_wp2_with fail
    first
      | (with_reducible refine (refused_b 2 (by omega) true false _ _ 4 (refS_t _ _ _) _).mono ?_)
      | (with_reducible refine (refused_b 2 (by omega) false false _ _ 1 (refS_f _ _ _) _).mono ?_)
    rintro e w4 ⟨rfl, hb4⟩
    have HB4 := Lib.hid (below_set HB3.out hz2 hb4)
    clear hb4
    go_wp2_with fail
    go_ret3
    exact ⟨rfl, HB4.out⟩

section
variable {w : World} {base p : Nat} {s : SM} {y : Ly}
set_option maxRecDepth 100000 in
set_option maxHeartbeats 2000000 in
theorem values_in (hs : SyncAt w base p s y) (hn : s.chans.length ≤ 1000) (m : Int) (c : Cn) (ho : at_ s.chans m = some c) (hl : c.rest.length ≤ 1000000) :
    Calls Try.prog 21 #[.pointer (some ⟨p, 0, none⟩), .int .i64 m] w fun e w' => ∃ u, e = .returned (.tuple #[u, .int .i64 0]) ∧ w'.ownsRow w.heap.size 2 1 u c.rest.length (c.rest.map (Value.int .i64)) ∧ Below w.heap.size w w' := by
  obtain ⟨h1, h2, h3⟩ := at_some ho
  obtain ⟨g, v, hg, hv, _, _, _, _, _, _⟩ := hs.chan h3 hl
  have HS := Lib.hid hs; have HG := Lib.hid hg; have HVV := Lib.hid hv; have H3 := Lib.hid h3; have HLL := Lib.hid hl
  have e0 : y.oh = some ⟨g, 0, none⟩ := hg
  clear hs h3 ho hg hv hl
  go_enter Try.func21, Try.ntmps21
  go_wp2_with fail
  refine (has_b HS.out).mono ?_
  rintro e w1 ⟨rfl, hb1⟩
  have HB1 := Lib.hid hb1
  clear hb1
  go_wp2_with fail
  refine (find_chan_in true _ _ _ g _ _ m h1 h2 (by omega) _).mono ?_
  rintro e w2 ⟨rfl, hb2⟩
  have HB2 := Lib.hid (below_step HB1.out hb2)
  clear hb2 HB1
  go_wp2_with fail
  refine (refused_b 4 (by omega) true true _ _ 0 rfl _).mono ?_
  rintro e w4 ⟨rfl, hb4⟩
  have HB4 := Lib.hid (below_step HB2.out hb4)
  clear hb4
  have hs4 := HS.out.below HB4.out
  obtain ⟨g', v', hg', hv', hq4, r1, r2, r3, _, _⟩ := hs4.chan H3.out HLL.out
  obtain rfl : g = g' := by
    rw [HG.out] at hg'
    simpa using hg'
  obtain rfl : v = v' := by
    rw [HVV.out] at hv'
    simpa using hv'
  have HS4 := Lib.hid hs4; have HQ4 := Lib.hid hq4
  clear hs4 hg' hv' hq4
  obtain ⟨o, cc, rfl, _⟩ := row_shape HQ4.out.own
  have HA := Lib.hid (all_int64 base g (m.toNat * 3) c.rest.length o cc c.rest w4 rfl HLL.out HQ4.out.cell HQ4.out.own)
  clear HS4 r1 r2 r3
  go_wp2_with fail
  refine HA.out.mono ?_
  rintro e w5 ⟨u, rfl, hu, hb5⟩
  have HU := Lib.hid hu; have HB5 := Lib.hid (HB4.out.trans (hb5.mono HB4.out.size))
  clear hu hb5
  go_wp2_with fail
  go_ret2
  exact ⟨u, rfl, ownsRow_base HU.out HB4.out.size, HB5.out⟩

set_option maxRecDepth 100000 in
set_option maxHeartbeats 2000000 in
theorem room_in (hs : SyncAt w base p s y) (hn : s.chans.length ≤ 1000) (m : Int) (c : Cn) (ho : at_ s.chans m = some c) (hl : c.rest.length ≤ 1000000) :
    Calls Try.prog 22 #[.pointer (some ⟨p, 0, none⟩), .int .i64 m] w fun e w' => e = .returned (.tuple #[.int .i64 c.room, .int .i64 0]) ∧ Below w.heap.size w w' := by
  obtain ⟨h1, h2, h3⟩ := at_some ho
  obtain ⟨g, v, hg, hv, _, _, _, _, _, _⟩ := hs.chan h3 hl
  have HS := Lib.hid hs; have HG := Lib.hid hg; have HVV := Lib.hid hv; have H3 := Lib.hid h3; have HLL := Lib.hid hl
  have e0 : y.oh = some ⟨g, 0, none⟩ := hg
  clear hs h3 ho hg hv hl
  go_enter Try.func22, Try.ntmps22
  go_wp2_with fail
  refine (has_b HS.out).mono ?_
  rintro e w1 ⟨rfl, hb1⟩
  have HB1 := Lib.hid hb1
  clear hb1
  go_wp2_with fail
  refine (find_chan_in true _ _ _ g _ _ m h1 h2 (by omega) _).mono ?_
  rintro e w2 ⟨rfl, hb2⟩
  have HB2 := Lib.hid (below_step HB1.out hb2)
  clear hb2 HB1
  go_wp2_with fail
  refine (refused_b 4 (by omega) true true _ _ 0 rfl _).mono ?_
  rintro e w4 ⟨rfl, hb4⟩
  have HB4 := Lib.hid (below_step HB2.out hb4)
  clear hb4
  have hs4 := HS.out.below HB4.out
  obtain ⟨g', v', hg', hv', hq4, r1, r2, r3, _, _⟩ := hs4.chan H3.out HLL.out
  obtain rfl : g = g' := by
    rw [HG.out] at hg'
    simpa using hg'
  obtain rfl : v = v' := by
    rw [HVV.out] at hv'
    simpa using hv'
  have HS4 := Lib.hid hs4; have HQ4 := Lib.hid hq4
  clear hs4 hg' hv' hq4
  clear HS4 r2 r3
  go_wp2_with fail
  go_ret2
  exact ⟨rfl, HB4.out⟩

set_option maxRecDepth 100000 in
set_option maxHeartbeats 2000000 in
theorem recv_no (hs : SyncAt w base p s y) (hn : s.chans.length ≤ 1000) (m : Int) (c : Cn) (ho : at_ s.chans m = some c) (hl : c.rest.length ≤ 1000000) (hsl : c.sent.length ≤ 1000000) (h0 : c.rest = []) :
    Calls Try.prog 20 #[.pointer (some ⟨p, 0, none⟩), .int .i64 m] w fun e w' => e = .returned (.tuple #[.int .i64 0, .int .i64 0, .bool false, .int .i64 0]) ∧ Below w.heap.size w w' := by
  obtain ⟨h1, h2, h3⟩ := at_some ho
  obtain ⟨g, v, hg, hv, _, _, _, _, _, _⟩ := hs.chan h3 hl
  have HS := Lib.hid hs; have HG := Lib.hid hg; have HVV := Lib.hid hv; have H3 := Lib.hid h3; have HLL := Lib.hid hl
  have e0 : y.oh = some ⟨g, 0, none⟩ := hg
  clear hs h3 ho hg hv hl
  have H0 := Lib.hid h0
  clear h0
  go_enter Try.func20, Try.ntmps20
  go_wp2_with fail
  refine (has_b HS.out).mono ?_
  rintro e w1 ⟨rfl, hb1⟩
  have HB1 := Lib.hid hb1
  clear hb1
  go_wp2_with fail
  refine (find_chan_in true _ _ _ g _ _ m h1 h2 (by omega) _).mono ?_
  rintro e w2 ⟨rfl, hb2⟩
  have HB2 := Lib.hid (below_step HB1.out hb2)
  clear hb2 HB1
  go_wp2_with fail
  refine (refused_b 4 (by omega) true true _ _ 0 rfl _).mono ?_
  rintro e w4 ⟨rfl, hb4⟩
  have HB4 := Lib.hid (below_step HB2.out hb4)
  clear hb4
  have hs4 := HS.out.below HB4.out
  obtain ⟨g', v', hg', hv', hq4, r1, r2, r3, _, _⟩ := hs4.chan H3.out HLL.out
  obtain rfl : g = g' := by
    rw [HG.out] at hg'
    simpa using hg'
  obtain rfl : v = v' := by
    rw [HVV.out] at hv'
    simpa using hv'
  have HS4 := Lib.hid hs4; have HQ4 := Lib.hid hq4
  clear hs4 hg' hv' hq4
  have HA := Lib.hid (recv_nil base g (m.toNat * 3) v c.sent.length hsl w4 (by have := HQ4.out; rwa [H0.out] at this) r2)
  clear HS4 r1 r2 r3
  go_wp2_with fail
  refine HA.out.mono ?_
  rintro e w5 ⟨rfl, hb5⟩
  have HB5 := Lib.hid (HB4.out.trans (hb5.mono HB4.out.size))
  clear hb5
  go_wp2_with fail
  refine bodyPost_ret (results_tmp4 rfl _ _ _) rfl ?_
  exact ⟨rfl, HB5.out⟩

set_option maxRecDepth 100000 in
set_option maxHeartbeats 2000000 in
theorem recv_yes (hs : SyncAt w base p s y) (hn : s.chans.length ≤ 1000) (m : Int) (c : Cn) (ho : at_ s.chans m = some c) (hl : c.rest.length ≤ 1000000) (hsl : c.sent.length ≤ 1000000) (ht : c.taken ≤ c.sent.length) (x : Int) (r : List Int) (h0 : c.rest = x :: r) :
    Calls Try.prog 20 #[.pointer (some ⟨p, 0, none⟩), .int .i64 m] w fun e w' => e = .returned (.tuple #[.int .i64 x, .int .i64 (c.taken : Nat), .bool true, .int .i64 0]) ∧ Aft w w' base p s y { s with chans := s.chans.set m.toNat { c with taken := c.taken + 1 } } := by
  obtain ⟨h1, h2, h3⟩ := at_some ho
  have hrl : c.sent.length - c.taken = r.length + 1 := by
    have h5 := c.rest_len
    rw [h0] at h5
    simpa using h5.symm
  have hre : (Cn.mk c.room c.sent (c.taken + 1)).rest = r := by
    have h6 : (c.sent.drop c.taken).drop 1 = r := by
      have : c.sent.drop c.taken = x :: r := h0
      rw [this]; rfl
    rw [List.drop_drop] at h6
    exact h6
  have HRE := Lib.hid hre
  have hnum : ((c.sent.length : Nat) : Int) - ((r.length + 1 : Nat) : Int) = (c.taken : Nat) := by omega
  have HNUM := Lib.hid hnum
  clear hre hnum hrl ht
  obtain ⟨g, v, hg, hv, _, _, _, _, _, _⟩ := hs.chan h3 hl
  have HS := Lib.hid hs; have HG := Lib.hid hg; have HVV := Lib.hid hv; have H3 := Lib.hid h3; have HLL := Lib.hid hl
  have e0 : y.oh = some ⟨g, 0, none⟩ := hg
  clear hs h3 ho hg hv hl
  have H0 := Lib.hid h0
  clear h0
  go_enter Try.func20, Try.ntmps20
  go_wp2_with fail
  refine (has_b HS.out).mono ?_
  rintro e w1 ⟨rfl, hb1⟩
  have HB1 := Lib.hid hb1
  clear hb1
  go_wp2_with fail
  refine (find_chan_in true _ _ _ g _ _ m h1 h2 (by omega) _).mono ?_
  rintro e w2 ⟨rfl, hb2⟩
  have HB2 := Lib.hid (below_step HB1.out hb2)
  clear hb2 HB1
  go_wp2_with fail
  refine (refused_b 4 (by omega) true true _ _ 0 rfl _).mono ?_
  rintro e w4 ⟨rfl, hb4⟩
  have HB4 := Lib.hid (below_step HB2.out hb4)
  clear hb4
  have hs4 := HS.out.below HB4.out
  obtain ⟨g', v', hg', hv', hq4, r1, r2, r3, _, _⟩ := hs4.chan H3.out HLL.out
  obtain rfl : g = g' := by
    rw [HG.out] at hg'
    simpa using hg'
  obtain rfl : v = v' := by
    rw [HVV.out] at hv'
    simpa using hv'
  have HS4 := Lib.hid hs4; have HQ4 := Lib.hid hq4
  clear hs4 hg' hv' hq4
  have HA := Lib.hid (recv_cons base g (m.toNat * 3) v x r c.sent.length hsl w4 (by have := HQ4.out; rwa [H0.out] at this) r2)
  rw [HNUM.out] at HA
  have HR2 := Lib.hid r2; have HR3 := Lib.hid r3
  clear r1 r2 r3
  go_wp2_with fail
  refine HA.out.mono ?_
  rintro e w5 ⟨rfl, v', hst⟩
  have HST := Lib.hid hst
  clear hst
  go_wp2_with fail
  refine bodyPost_ret (results_tmp4 rfl _ _ _) rfl ?_
  refine ⟨rfl, Aft.wrap HB4.out (Aft.chan HS4.out HG.out HVV.out H3.out rfl (by rw [HRE.out]; exact HST.out.own) ?_ HST.out.only HST.out.lies) (Below.refl _ _)⟩
  rw [HST.out.blk]
  exact (heap_setCell_self (by rw [World.cell?_setCell_other _ _ _ _ (by simp)]; exact HR2.out)).symm

set_option maxRecDepth 100000 in
set_option maxHeartbeats 2000000 in
theorem send_bad (hs : SyncAt w base p s y) (hn : s.chans.length ≤ 1000) (m : Int) (c : Cn) (ho : at_ s.chans m = some c) (t : Int) (hl : c.rest.length ≤ 1000000) (ht : inB (-2147483648) 2147483647 t = false) :
    Calls Try.prog 19 #[.pointer (some ⟨p, 0, none⟩), .int .i64 m, .int .i64 t] w fun e w' => e = .returned (.tuple #[.int .i64 0, .bool false, .int .i64 2]) ∧ Below w.heap.size w w' := by
  obtain ⟨h1, h2, h3⟩ := at_some ho
  have HT := Lib.hid ht
  clear ht
  obtain ⟨g, v, hg, hv, _, _, _, _, _, _⟩ := hs.chan h3 hl
  have HS := Lib.hid hs; have HG := Lib.hid hg; have HVV := Lib.hid hv; have H3 := Lib.hid h3; have HLL := Lib.hid hl
  have e0 : y.oh = some ⟨g, 0, none⟩ := hg
  clear hs h3 ho hg hv hl
  go_enter Try.func19, Try.ntmps19
  go_wp2_with fail
  refine (has_b HS.out).mono ?_
  rintro e w1 ⟨rfl, hb1⟩
  have HB1 := Lib.hid hb1
  clear hb1
  go_wp2_with fail
  refine (find_chan_in true _ _ _ g _ _ m h1 h2 (by omega) _).mono ?_
  rintro e w2 ⟨rfl, hb2⟩
  have HB2 := Lib.hid (below_step HB1.out hb2)
  clear hb2 HB1
  go_wp2_with fail
  refine (value_b t _ HT.out _).mono ?_
  rintro e w3 ⟨rfl, hb3⟩
  have HB3 := Lib.hid (below_step HB2.out hb3)
  obtain ⟨a0, a1, a2, a3, f0, f1, f2, f3⟩ := ((Blk.new w2 86 #[.bool true, .bool true, .bool false, .bool false]).below hb3 (by simp)).four
  have hz2 : w.heap.size ≤ w2.heap.size := HB2.out.size
  clear hb3
  go_wp2_with fail
  refine (refused_b 2 (by omega) true true _ _ 2 rfl _).mono ?_
  rintro e w4 ⟨rfl, hb4⟩
  have HB4 := Lib.hid (below_set HB3.out hz2 hb4)
  clear hb4 a0 a1 a2 a3 f0 f1 f2 f3
  have hs4 := HS.out.below HB4.out
  obtain ⟨g', v', hg', hv', hq4, r1, r2, r3, _, _⟩ := hs4.chan H3.out HLL.out
  obtain rfl : g = g' := by
    rw [HG.out] at hg'
    simpa using hg'
  obtain rfl : v = v' := by
    rw [HVV.out] at hv'
    simpa using hv'
  have HS4 := Lib.hid hs4; have HQ4 := Lib.hid hq4
  clear hs4 hg' hv' hq4
  clear HS4 r1 r2 r3
  go_wp2_with fail
  go_ret3
  exact ⟨rfl, HB4.out⟩

set_option maxRecDepth 100000 in
set_option maxHeartbeats 2000000 in
theorem send_full (hs : SyncAt w base p s y) (hn : s.chans.length ≤ 1000) (m : Int) (c : Cn) (ho : at_ s.chans m = some c) (t : Int) (hl : c.rest.length ≤ 1000000) (ht : inB (-2147483648) 2147483647 t = true) (hf : decide (c.room ≤ (c.rest.length : Int)) = true) :
    Calls Try.prog 19 #[.pointer (some ⟨p, 0, none⟩), .int .i64 m, .int .i64 t] w fun e w' => e = .returned (.tuple #[.int .i64 0, .bool false, .int .i64 0]) ∧ Below w.heap.size w w' := by
  obtain ⟨h1, h2, h3⟩ := at_some ho
  have HT := Lib.hid ht; have HFF := Lib.hid hf
  clear ht hf
  obtain ⟨g, v, hg, hv, _, _, _, _, _, _⟩ := hs.chan h3 hl
  have HS := Lib.hid hs; have HG := Lib.hid hg; have HVV := Lib.hid hv; have H3 := Lib.hid h3; have HLL := Lib.hid hl
  have e0 : y.oh = some ⟨g, 0, none⟩ := hg
  clear hs h3 ho hg hv hl
  go_enter Try.func19, Try.ntmps19
  go_wp2_with fail
  refine (has_b HS.out).mono ?_
  rintro e w1 ⟨rfl, hb1⟩
  have HB1 := Lib.hid hb1
  clear hb1
  go_wp2_with fail
  refine (find_chan_in true _ _ _ g _ _ m h1 h2 (by omega) _).mono ?_
  rintro e w2 ⟨rfl, hb2⟩
  have HB2 := Lib.hid (below_step HB1.out hb2)
  clear hb2 HB1
  go_wp2_with fail
  refine (value_b t _ HT.out _).mono ?_
  rintro e w3 ⟨rfl, hb3⟩
  have HB3 := Lib.hid (below_step HB2.out hb3)
  obtain ⟨a0, a1, a2, a3, f0, f1, f2, f3⟩ := ((Blk.new w2 86 #[.bool true, .bool true, .bool false, .bool false]).below hb3 (by simp)).four
  have hz2 : w.heap.size ≤ w2.heap.size := HB2.out.size
  clear hb3
  go_wp2_with fail
  refine (refused_b 2 (by omega) true true _ _ 0 rfl _).mono ?_
  rintro e w4 ⟨rfl, hb4⟩
  have HB4 := Lib.hid (below_set HB3.out hz2 hb4)
  clear hb4 a0 a1 a2 a3 f0 f1 f2 f3
  have hs4 := HS.out.below HB4.out
  obtain ⟨g', v', hg', hv', hq4, r1, r2, r3, _, _⟩ := hs4.chan H3.out HLL.out
  obtain rfl : g = g' := by
    rw [HG.out] at hg'
    simpa using hg'
  obtain rfl : v = v' := by
    rw [HVV.out] at hv'
    simpa using hv'
  have HS4 := Lib.hid hs4; have HQ4 := Lib.hid hq4
  clear hs4 hg' hv' hq4
  obtain ⟨o, cc, e9, _⟩ := row_shape HQ4.out.own
  have HF := Lib.hid (full_any g (m.toNat * 3) c.rest.length c.room o cc w4 (by rw [← e9]; exact HQ4.out.cell) r1)
  rw [HFF.out] at HF
  have HR2 := Lib.hid r2; have HR3 := Lib.hid r3
  clear r1 r2 r3 e9
  go_wp2_with fail
  refine HF.out.mono ?_
  rintro e w5 ⟨rfl, hb5⟩
  have HB5 := Lib.hid (HB4.out.trans (hb5.mono HB4.out.size))
  clear hb5 HS4
  go_wp2_with fail
  go_ret3
  exact ⟨rfl, HB5.out⟩

set_option maxRecDepth 100000 in
set_option maxHeartbeats 2000000 in
theorem send_yes (hs : SyncAt w base p s y) (hn : s.chans.length ≤ 1000) (m : Int) (c : Cn) (ho : at_ s.chans m = some c) (t : Int) (hl : c.rest.length ≤ 1000000) (hsl : c.sent.length ≤ 1000000) (ht : inB (-2147483648) 2147483647 t = true) (htk : c.taken ≤ c.sent.length) (hf : decide (c.room ≤ (c.rest.length : Int)) = false) :
    Calls Try.prog 19 #[.pointer (some ⟨p, 0, none⟩), .int .i64 m, .int .i64 t] w fun e w' => e = .returned (.tuple #[.int .i64 (c.sent.length : Nat), .bool true, .int .i64 0]) ∧ Aft w w' base p s y { s with chans := s.chans.set m.toNat { c with sent := c.sent ++ [t] } } := by
  obtain ⟨h1, h2, h3⟩ := at_some ho
  have hre : (Cn.mk c.room (c.sent ++ [t]) c.taken).rest = c.rest ++ [t] := List.drop_append_of_le_length htk
  have HRE := Lib.hid hre
  have HT := Lib.hid ht; have HFF := Lib.hid hf
  clear ht hf hre htk
  obtain ⟨g, v, hg, hv, _, _, _, _, _, _⟩ := hs.chan h3 hl
  have HS := Lib.hid hs; have HG := Lib.hid hg; have HVV := Lib.hid hv; have H3 := Lib.hid h3; have HLL := Lib.hid hl
  have e0 : y.oh = some ⟨g, 0, none⟩ := hg
  clear hs h3 ho hg hv hl
  go_enter Try.func19, Try.ntmps19
  go_wp2_with fail
  refine (has_b HS.out).mono ?_
  rintro e w1 ⟨rfl, hb1⟩
  have HB1 := Lib.hid hb1
  clear hb1
  go_wp2_with fail
  refine (find_chan_in true _ _ _ g _ _ m h1 h2 (by omega) _).mono ?_
  rintro e w2 ⟨rfl, hb2⟩
  have HB2 := Lib.hid (below_step HB1.out hb2)
  clear hb2 HB1
  go_wp2_with fail
  refine (value_b t _ HT.out _).mono ?_
  rintro e w3 ⟨rfl, hb3⟩
  have HB3 := Lib.hid (below_step HB2.out hb3)
  obtain ⟨a0, a1, a2, a3, f0, f1, f2, f3⟩ := ((Blk.new w2 86 #[.bool true, .bool true, .bool false, .bool false]).below hb3 (by simp)).four
  have hz2 : w.heap.size ≤ w2.heap.size := HB2.out.size
  clear hb3
  go_wp2_with fail
  refine (refused_b 2 (by omega) true true _ _ 0 rfl _).mono ?_
  rintro e w4 ⟨rfl, hb4⟩
  have HB4 := Lib.hid (below_set HB3.out hz2 hb4)
  clear hb4 a0 a1 a2 a3 f0 f1 f2 f3
  have hs4 := HS.out.below HB4.out
  obtain ⟨g', v', hg', hv', hq4, r1, r2, r3, _, _⟩ := hs4.chan H3.out HLL.out
  obtain rfl : g = g' := by
    rw [HG.out] at hg'
    simpa using hg'
  obtain rfl : v = v' := by
    rw [HVV.out] at hv'
    simpa using hv'
  have HS4 := Lib.hid hs4; have HQ4 := Lib.hid hq4
  clear hs4 hg' hv' hq4
  obtain ⟨o, cc, e9, _⟩ := row_shape HQ4.out.own
  have HF := Lib.hid (full_any g (m.toNat * 3) c.rest.length c.room o cc w4 (by rw [← e9]; exact HQ4.out.cell) r1)
  rw [HFF.out] at HF
  have HR2 := Lib.hid r2; have HR3 := Lib.hid r3
  clear r1 r2 r3 e9
  go_wp2_with fail
  refine HF.out.mono ?_
  rintro e w5 ⟨rfl, hb5⟩
  have HB5 := Lib.hid (HB4.out.trans (hb5.mono HB4.out.size))
  have hs5 := HS4.out.below hb5
  obtain ⟨g', v', hg', hv', hq5, _, r2, r3, _, _⟩ := hs5.chan H3.out HLL.out
  obtain rfl : g = g' := by
    rw [HG.out] at hg'
    simpa using hg'
  obtain rfl : v = v' := by
    rw [HVV.out] at hv'
    simpa using hv'
  have hb9 : base ≤ w5.heap.size := by have := hs5.head.lt; have := hs5.hbase; omega
  have HSE := Lib.hid (send_any base g (m.toNat * 3) v c.rest t c.sent.length hsl w5 hb9 hq5 r2 r3)
  have HS5 := Lib.hid hs5
  have HNE := Lib.hid hq5.ne; have HGL := Lib.hid (World.block_lt_of_cell? w5 _ hq5.cell)
  clear hb5 HS4 HR2 HR3 r2 r3 hq5 hg' hv' hs5
  go_wp2_with fail
  refine HSE.out.mono ?_
  rintro e w6 ⟨rfl, v', w7, hst, hw6⟩
  have HST := Lib.hid hst; have HW6 := Lib.hid hw6
  clear hst hw6
  go_wp2_with fail
  go_ret3
  refine ⟨rfl, Aft.wrap HB5.out (Aft.chan (v' := v') HS5.out HG.out HVV.out H3.out rfl ?_ ?_ ?_ HST.out.lies) (Below.refl _ _)⟩
  · rw [HRE.out, ← HW6.out]
    exact ownsRow_block HST.out.own (fun b hb => Below.heap_setCell _ _ _ _ (by
      simp
      rintro rfl
      rcases HST.out.lies _ hb with h | h
      · exact HNE.out h
      · have := HGL.out; omega))
  · rw [← HW6.out, List.length_append]
    exact heap_setCell_alike HST.out.blk _
  · rw [← HW6.out]
    exact HST.out.only.setCell (.inl (.inl rfl)) _

end
end Go.Proofs.Ytdfjbgfdaokjgaa

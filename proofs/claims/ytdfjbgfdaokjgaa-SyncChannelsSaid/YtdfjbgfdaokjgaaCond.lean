/-
  Waits, Signal and All.
-/
import Derived.Test.YtdfjbgfdaokjgaaLock
import Derived.Test.YtdfjbgfdaokjgaaCollect
namespace Go.Proofs.Ytdfjbgfdaokjgaa
open Go.RowKit

theorem collect_off (base B i Bx : Nat) (v : Value) (xs : List Int) (w : World) (hq : QAt w base B i 3 v xs) (hbx : w.cell? ⟨Bx, 0, none⟩ = some (.pointer (some ⟨B, i, none⟩))) (hxB : Bx ≠ B) (hxv : v.ownBlock ≠ some Bx) :
    Calls Try.prog 43 #[.func (.func 67) #[] #[.pointer (some ⟨Bx, 0, none⟩)]] w fun e w' =>
      ∃ u, e = .returned u ∧ w'.ownsRow w.heap.size 3 1 u xs.length (xs.map (Value.int .i64)) ∧ ∃ v', QStep w w' base B i 3 v v' [] := by
  have H := Lib.hid (appendSeq_off base B i Bx v xs w hq hbx hxB hxv)
  clear hq hbx hxB hxv
  go_enter Try.func43, Try.ntmps43
  go_wp2_with fail
  refine H.out.mono ?_
  rintro e w' ⟨u, rfl, h1, h2⟩
  have H1 := Lib.hid h1; have H2 := Lib.hid h2
  clear h1 h2
  go_wp2_with fail
  go_ret
  exact ⟨u, rfl, H1.out, H2.out⟩

set_option maxRecDepth 100000 in
set_option maxHeartbeats 2000000 in
theorem waits_out (rv : Value) (md : Bool) (oo : Option Addr) (no co : Nat) (oc : Option Addr) (nc cc : Nat) (oh : Option Addr) (nh ch : Nat) (w : World)
    (hh : Calls Try.prog 36 #[rv] w fun e w' => e = .returned (.agg (hdC md oo no co oc nc cc oh nh ch)) ∧ Below w.heap.size w w')
    (m : Int) (hout : m < 0 ∨ (nc : Int) ≤ m) (hn : nc ≤ 1000) :
    Calls Try.prog 16 #[rv, .int .i64 m] w fun e w' => e = .returned (.tuple #[.slice none 0 0, .int .i64 (if md = true then 4 else 1)]) ∧ Below w.heap.size w w' := by
  have HH := Lib.hid hh
  clear hh
  cases md
  all_goals
    go_enter Try.func16, Try.ntmps16
    go_wp2_with fail
    refine HH.out.mono ?_
    rintro e w1 ⟨rfl, hb1⟩
    have HB1 := Lib.hid hb1
    clear hb1
    go_wp2_with fail
    refine (find_cond_out _ _ _ _ _ _ _ m hout (by omega) _).mono ?_
    rintro e w2 ⟨q, rfl, hb2, hq, hbq⟩
    have HB2 := Lib.hid (below_step HB1.out hb2)
    clear hb2 HB1
    go_wp2_with fail
    first
      | (with_reducible refine (refused_b 4 (by omega) true false _ _ 4 (refS_t _ _ _) _).mono ?_)
      | (with_reducible refine (refused_b 4 (by omega) false false _ _ 1 (refS_f _ _ _) _).mono ?_)
    rintro e w4 ⟨rfl, hb4⟩
    have HB4 := Lib.hid (below_step HB2.out hb4)
    clear hb4
    go_wp2_with fail
    go_ret2
    exact ⟨rfl, HB4.out⟩

set_option maxRecDepth 100000 in
set_option maxHeartbeats 2000000 in
theorem signal_out (rv : Value) (md : Bool) (oo : Option Addr) (no co : Nat) (oc : Option Addr) (nc cc : Nat) (oh : Option Addr) (nh ch : Nat) (w : World)
    (hh : Calls Try.prog 36 #[rv] w fun e w' => e = .returned (.agg (hdC md oo no co oc nc cc oh nh ch)) ∧ Below w.heap.size w w')
    (m : Int) (hout : m < 0 ∨ (nc : Int) ≤ m) (hn : nc ≤ 1000) :
    Calls Try.prog 17 #[rv, .int .i64 m] w fun e w' => e = .returned (.tuple #[.int .i64 0, .bool false, .int .i64 (if md = true then 4 else 1)]) ∧ Below w.heap.size w w' := by
  have HH := Lib.hid hh
  clear hh
  cases md
  all_goals
    go_enter Try.func17, Try.ntmps17
    go_wp2_with fail
    refine HH.out.mono ?_
    rintro e w1 ⟨rfl, hb1⟩
    have HB1 := Lib.hid hb1
    clear hb1
    go_wp2_with fail
    refine (find_cond_out _ _ _ _ _ _ _ m hout (by omega) _).mono ?_
    rintro e w2 ⟨q, rfl, hb2, hq, hbq⟩
    have HB2 := Lib.hid (below_step HB1.out hb2)
    clear hb2 HB1
    go_wp2_with fail
    first
      | (with_reducible refine (refused_b 4 (by omega) true false _ _ 4 (refS_t _ _ _) _).mono ?_)
      | (with_reducible refine (refused_b 4 (by omega) false false _ _ 1 (refS_f _ _ _) _).mono ?_)
    rintro e w4 ⟨rfl, hb4⟩
    have HB4 := Lib.hid (below_step HB2.out hb4)
    clear hb4
    go_wp2_with fail
    go_ret3
    exact ⟨rfl, HB4.out⟩

set_option maxRecDepth 100000 in
set_option maxHeartbeats 2000000 in
theorem all_out (rv : Value) (md : Bool) (oo : Option Addr) (no co : Nat) (oc : Option Addr) (nc cc : Nat) (oh : Option Addr) (nh ch : Nat) (w : World)
    (hh : Calls Try.prog 36 #[rv] w fun e w' => e = .returned (.agg (hdC md oo no co oc nc cc oh nh ch)) ∧ Below w.heap.size w w')
    (m : Int) (hout : m < 0 ∨ (nc : Int) ≤ m) (hn : nc ≤ 1000) :
    Calls Try.prog 18 #[rv, .int .i64 m] w fun e w' => e = .returned (.tuple #[.slice none 0 0, .int .i64 (if md = true then 4 else 1)]) ∧ Below w.heap.size w w' := by
  have HH := Lib.hid hh
  clear hh
  cases md
  all_goals
    go_enter Try.func18, Try.ntmps18
    go_wp2_with fail
    refine HH.out.mono ?_
    rintro e w1 ⟨rfl, hb1⟩
    have HB1 := Lib.hid hb1
    clear hb1
    go_wp2_with fail
    refine (find_cond_out _ _ _ _ _ _ _ m hout (by omega) _).mono ?_
    rintro e w2 ⟨q, rfl, hb2, hq, hbq⟩
    have HB2 := Lib.hid (below_step HB1.out hb2)
    clear hb2 HB1
    go_wp2_with fail
    first
      | (with_reducible refine (refused_b 4 (by omega) true false _ _ 4 (refS_t _ _ _) _).mono ?_)
      | (with_reducible refine (refused_b 4 (by omega) false false _ _ 1 (refS_f _ _ _) _).mono ?_)
    rintro e w4 ⟨rfl, hb4⟩
    have HB4 := Lib.hid (below_step HB2.out hb4)
    clear hb4
    go_wp2_with fail
    go_ret2
    exact ⟨rfl, HB4.out⟩

section
variable {w : World} {base p : Nat} {s : SM} {y : Ly}
set_option maxRecDepth 100000 in
set_option maxHeartbeats 2000000 in
theorem waits_in (hs : SyncAt w base p s y) (hn : s.conds.length ≤ 1000) (m : Int) (l : List Int) (ho : at_ s.conds m = some l) (hl : l.length ≤ 1000000) :
    Calls Try.prog 16 #[.pointer (some ⟨p, 0, none⟩), .int .i64 m] w fun e w' => ∃ u, e = .returned (.tuple #[u, .int .i64 0]) ∧ w'.ownsRow w.heap.size 3 1 u l.length (l.map (Value.int .i64)) ∧ Below w.heap.size w w' := by
  obtain ⟨h1, h2, h3⟩ := at_some ho
  obtain ⟨g, v, hg, hv, _, _, _⟩ := hs.cond h3 hl
  have HS := Lib.hid hs; have HG := Lib.hid hg; have HVV := Lib.hid hv; have H3 := Lib.hid h3; have HLL := Lib.hid hl
  have e0 : y.oc = some ⟨g, 0, none⟩ := hg
  clear hs h3 ho hg hv hl
  go_enter Try.func16, Try.ntmps16
  go_wp2_with fail
  refine (has_b HS.out).mono ?_
  rintro e w1 ⟨rfl, hb1⟩
  have HB1 := Lib.hid hb1
  clear hb1
  go_wp2_with fail
  refine (find_cond_in true _ _ _ g _ _ m h1 h2 (by omega) _).mono ?_
  rintro e w2 ⟨rfl, hb2⟩
  have HB2 := Lib.hid (below_step HB1.out hb2)
  clear hb2 HB1
  go_wp2_with fail
  refine (refused_b 4 (by omega) true true _ _ 0 rfl _).mono ?_
  rintro e w4 ⟨rfl, hb4⟩
  have HB4 := Lib.hid (below_step HB2.out hb4)
  clear hb4
  have hs4 := HS.out.below HB4.out
  obtain ⟨g', v', hg', hv', hq4, _, _⟩ := hs4.cond H3.out HLL.out
  obtain rfl : g = g' := by
    rw [HG.out] at hg'
    simpa using hg'
  obtain rfl : v = v' := by
    rw [HVV.out] at hv'
    simpa using hv'
  have HS4 := Lib.hid hs4; have HQ4 := Lib.hid hq4
  clear hs4 hg' hv' hq4
  obtain ⟨o, c, rfl, _⟩ := row_shape HQ4.out.own
  have HA := Lib.hid (all_int base g m.toNat l.length o c l w4 rfl HLL.out HQ4.out.cell HQ4.out.own)
  clear HS4
  go_wp2_with fail
  refine HA.out.mono ?_
  rintro e w5 ⟨u, rfl, hu, hb5⟩
  have HU := Lib.hid hu; have HB5 := Lib.hid (HB4.out.trans (hb5.mono HB4.out.size))
  clear hu hb5
  go_wp2_with fail
  go_ret2
  exact ⟨u, rfl, ownsRow_base HU.out HB4.out.size, HB5.out⟩

set_option maxRecDepth 100000 in
set_option maxHeartbeats 2000000 in
theorem signal_nil (hs : SyncAt w base p s y) (hn : s.conds.length ≤ 1000) (m : Int) (l : List Int) (ho : at_ s.conds m = some l) (hl : l.length ≤ 1000000) (h0 : l = []) :
    Calls Try.prog 17 #[.pointer (some ⟨p, 0, none⟩), .int .i64 m] w fun e w' => e = .returned (.tuple #[.int .i64 0, .bool false, .int .i64 0]) ∧ Below w.heap.size w w' := by
  obtain ⟨h1, h2, h3⟩ := at_some ho
  subst h0
  obtain ⟨g, v, hg, hv, _, _, _⟩ := hs.cond h3 hl
  have HS := Lib.hid hs; have HG := Lib.hid hg; have HVV := Lib.hid hv; have H3 := Lib.hid h3; have HLL := Lib.hid hl
  have e0 : y.oc = some ⟨g, 0, none⟩ := hg
  clear hs h3 ho hg hv hl
  go_enter Try.func17, Try.ntmps17
  go_wp2_with fail
  refine (has_b HS.out).mono ?_
  rintro e w1 ⟨rfl, hb1⟩
  have HB1 := Lib.hid hb1
  clear hb1
  go_wp2_with fail
  refine (find_cond_in true _ _ _ g _ _ m h1 h2 (by omega) _).mono ?_
  rintro e w2 ⟨rfl, hb2⟩
  have HB2 := Lib.hid (below_step HB1.out hb2)
  clear hb2 HB1
  go_wp2_with fail
  refine (refused_b 4 (by omega) true true _ _ 0 rfl _).mono ?_
  rintro e w4 ⟨rfl, hb4⟩
  have HB4 := Lib.hid (below_step HB2.out hb4)
  clear hb4
  have hs4 := HS.out.below HB4.out
  obtain ⟨g', v', hg', hv', hq4, _, _⟩ := hs4.cond H3.out HLL.out
  obtain rfl : g = g' := by
    rw [HG.out] at hg'
    simpa using hg'
  obtain rfl : v = v' := by
    rw [HVV.out] at hv'
    simpa using hv'
  have HS4 := Lib.hid hs4; have HQ4 := Lib.hid hq4
  clear hs4 hg' hv' hq4
  have HA := Lib.hid (take_int_nil base g m.toNat v w4 HQ4.out)
  clear HS4
  go_wp2_with fail
  refine HA.out.mono ?_
  rintro e w5 ⟨rfl, hb5⟩
  have HB5 := Lib.hid (HB4.out.trans (hb5.mono HB4.out.size))
  clear hb5
  go_wp2_with fail
  go_ret3
  exact ⟨rfl, HB5.out⟩

set_option maxRecDepth 100000 in
set_option maxHeartbeats 2000000 in
theorem signal_cons (hs : SyncAt w base p s y) (hn : s.conds.length ≤ 1000) (m : Int) (l : List Int) (ho : at_ s.conds m = some l) (hl : l.length ≤ 1000000) (x : Int) (r : List Int) (h0 : l = x :: r) :
    Calls Try.prog 17 #[.pointer (some ⟨p, 0, none⟩), .int .i64 m] w fun e w' => e = .returned (.tuple #[.int .i64 x, .bool true, .int .i64 0]) ∧ Aft w w' base p s y { s with conds := s.conds.set m.toNat r } := by
  obtain ⟨h1, h2, h3⟩ := at_some ho
  subst h0
  obtain ⟨g, v, hg, hv, _, _, _⟩ := hs.cond h3 hl
  have HS := Lib.hid hs; have HG := Lib.hid hg; have HVV := Lib.hid hv; have H3 := Lib.hid h3; have HLL := Lib.hid hl
  have e0 : y.oc = some ⟨g, 0, none⟩ := hg
  clear hs h3 ho hg hv hl
  go_enter Try.func17, Try.ntmps17
  go_wp2_with fail
  refine (has_b HS.out).mono ?_
  rintro e w1 ⟨rfl, hb1⟩
  have HB1 := Lib.hid hb1
  clear hb1
  go_wp2_with fail
  refine (find_cond_in true _ _ _ g _ _ m h1 h2 (by omega) _).mono ?_
  rintro e w2 ⟨rfl, hb2⟩
  have HB2 := Lib.hid (below_step HB1.out hb2)
  clear hb2 HB1
  go_wp2_with fail
  refine (refused_b 4 (by omega) true true _ _ 0 rfl _).mono ?_
  rintro e w4 ⟨rfl, hb4⟩
  have HB4 := Lib.hid (below_step HB2.out hb4)
  clear hb4
  have hs4 := HS.out.below HB4.out
  obtain ⟨g', v', hg', hv', hq4, _, _⟩ := hs4.cond H3.out HLL.out
  obtain rfl : g = g' := by
    rw [HG.out] at hg'
    simpa using hg'
  obtain rfl : v = v' := by
    rw [HVV.out] at hv'
    simpa using hv'
  have HS4 := Lib.hid hs4; have HQ4 := Lib.hid hq4
  clear hs4 hg' hv' hq4
  have HA := Lib.hid (take_int_cons base g m.toNat v x r w4 HQ4.out)
  go_wp2_with fail
  refine HA.out.mono ?_
  rintro e w5 ⟨rfl, v', hst⟩
  have HST := Lib.hid hst
  clear hst
  go_wp2_with fail
  go_ret3
  exact ⟨rfl, Aft.wrap HB4.out (Aft.cond HS4.out HG.out HVV.out H3.out HST.out) (Below.refl _ _)⟩

set_option maxRecDepth 100000 in
set_option maxHeartbeats 2000000 in
theorem all_in (hs : SyncAt w base p s y) (hn : s.conds.length ≤ 1000) (m : Int) (l : List Int) (ho : at_ s.conds m = some l) (hl : l.length ≤ 1000000) :
    Calls Try.prog 18 #[.pointer (some ⟨p, 0, none⟩), .int .i64 m] w fun e w' => ∃ u, e = .returned (.tuple #[u, .int .i64 0]) ∧ w'.ownsRow w.heap.size 3 1 u l.length (l.map (Value.int .i64)) ∧ Aft w w' base p s y { s with conds := s.conds.set m.toNat [] } := by
  obtain ⟨h1, h2, h3⟩ := at_some ho
  obtain ⟨g, v, hg, hv, _, _, _⟩ := hs.cond h3 hl
  have HS := Lib.hid hs; have HG := Lib.hid hg; have HVV := Lib.hid hv; have H3 := Lib.hid h3; have HLL := Lib.hid hl
  have e0 : y.oc = some ⟨g, 0, none⟩ := hg
  clear hs h3 ho hg hv hl
  go_enter Try.func18, Try.ntmps18
  go_wp2_with fail
  refine (has_b HS.out).mono ?_
  rintro e w1 ⟨rfl, hb1⟩
  have HB1 := Lib.hid hb1
  clear hb1
  go_wp2_with fail
  refine (find_cond_in true _ _ _ g _ _ m h1 h2 (by omega) _).mono ?_
  rintro e w2 ⟨rfl, hb2⟩
  have HB2 := Lib.hid (below_step HB1.out hb2)
  clear hb2 HB1
  go_wp2_with fail
  refine (refused_b 4 (by omega) true true _ _ 0 rfl _).mono ?_
  rintro e w4 ⟨rfl, hb4⟩
  have HB4 := Lib.hid (below_step HB2.out hb4)
  clear hb4
  have hs4 := HS.out.below HB4.out
  obtain ⟨g', v', hg', hv', hq4, _, _⟩ := hs4.cond H3.out HLL.out
  obtain rfl : g = g' := by
    rw [HG.out] at hg'
    simpa using hg'
  obtain rfl : v = v' := by
    rw [HVV.out] at hv'
    simpa using hv'
  have HS4 := Lib.hid hs4; have HQ4 := Lib.hid hq4
  clear hs4 hg' hv' hq4
  go_wp2_with fail
  refine (off_int g m.toNat _).mono ?_
  rintro e w5 ⟨rfl, hw5⟩
  have hb5 : Below w4.heap.size w4 w5 := by rw [← hw5]; exact (Below.refl _ _).alloc (Nat.le_refl _) _
  have hx5 : w5.cell? ⟨w4.heap.size, 0, none⟩ = some (.pointer (some ⟨g, m.toNat, none⟩)) := by rw [← hw5]; exact (Blk.new w4 _ _).cell 0
  have hs5 := HS4.out.below hb5
  have hlt : ∀ b, SFp p y s b → b < w4.heap.size := fun b hb => (HS4.out.lt hb).2
  obtain ⟨g', v', hg', hv', hq5, hf1, hf2⟩ := hs5.cond H3.out HLL.out
  obtain rfl : g = g' := by
    rw [HG.out] at hg'
    simpa using hg'
  obtain rfl : v = v' := by
    rw [HVV.out] at hv'
    simpa using hv'
  have HA := Lib.hid (collect_off base g m.toNat w4.heap.size v l w5 hq5 hx5 (fun e => by have := hlt g hf1; omega) (fun e => by have := hlt _ (hf2 _ e); omega))
  have HS5 := Lib.hid hs5; have HB5 := Lib.hid (HB4.out.trans (hb5.mono HB4.out.size))
  clear hw5 hb5 hx5 hs5 hlt hg' hv' hq5 hf1 hf2
  go_wp2_with fail
  refine HA.out.mono ?_
  rintro e w6 ⟨u, rfl, hu, v', hst⟩
  have HU := Lib.hid hu; have HST := Lib.hid hst
  clear hu hst
  go_wp2_with fail
  go_ret2
  exact ⟨u, rfl, ownsRow_base HU.out HB5.out.size, Aft.wrap HB5.out (Aft.cond HS5.out HG.out HVV.out H3.out HST.out) (Below.refl _ _)⟩

end
end Go.Proofs.Ytdfjbgfdaokjgaa

/-
  Owner and Lock.
-/
import Derived.Test.YtdfjbgfdaokjgaaModel
namespace Go.Proofs.Ytdfjbgfdaokjgaa
open Go.RowKit

set_option maxRecDepth 100000 in
set_option maxHeartbeats 2000000 in
theorem owner_out (rv : Value) (md : Bool) (oo : Option Addr) (no co : Nat) (oc : Option Addr) (nc cc : Nat) (oh : Option Addr) (nh ch : Nat) (w : World)
    (hh : Calls Try.prog 36 #[rv] w fun e w' => e = .returned (.agg (hdC md oo no co oc nc cc oh nh ch)) ∧ Below w.heap.size w w')
    (m : Int) (hout : m < 0 ∨ (no : Int) ≤ m) (hn : no ≤ 1000) :
    Calls Try.prog 14 #[rv, .int .i64 m] w fun e w' => e = .returned (.tuple #[.int .i64 0, .int .i64 (if md = true then 4 else 1)]) ∧ Below w.heap.size w w' := by
  have HH := Lib.hid hh
  clear hh
  cases md
  all_goals
    go_enter Try.func14, Try.ntmps14
    go_wp2_with fail
    refine HH.out.mono ?_
    rintro e w1 ⟨rfl, hb1⟩
    have HB1 := Lib.hid hb1
    clear hb1
    go_wp2_with fail
    refine (find_int_out _ _ _ _ _ _ _ m hout (by omega) _).mono ?_
    rintro e w2 ⟨q, rfl, hb2, hq, hbq⟩
    have HB2 := Lib.hid (below_step HB1.out hb2)
    clear hb2 HB1
    go_wp2_with fail
    first
      | (with_reducible refine (refused_b 4 (by omega) true false _ _ 4 (refS_t _ _ _) _).mono ?_)
      | (with_reducible refine (refused_b 4 (by omega) false false _ _ 1 (refS_f _ _ _) _).mono ?_)
    rintro e w4 ⟨rfl, hb4⟩
    have HB4 := Lib.hid (below_step HB2.out hb4)
    clear hb4
    go_wp2_with fail
    go_ret2
    exact ⟨rfl, HB4.out⟩

set_option maxRecDepth 100000 in
set_option maxHeartbeats 2000000 in
theorem lock_out (rv : Value) (md : Bool) (oo : Option Addr) (no co : Nat) (oc : Option Addr) (nc cc : Nat) (oh : Option Addr) (nh ch : Nat) (w : World)
    (hh : Calls Try.prog 36 #[rv] w fun e w' => e = .returned (.agg (hdC md oo no co oc nc cc oh nh ch)) ∧ Below w.heap.size w w')
    (m : Int) (hout : m < 0 ∨ (no : Int) ≤ m) (hn : no ≤ 1000) (t : Int) :
    Calls Try.prog 15 #[rv, .int .i64 m, .int .i64 t] w fun e w' => e = .returned (.tuple #[.bool false, .int .i64 (if md = true then 4 else 1)]) ∧ Below w.heap.size w w' := by
  have HH := Lib.hid hh
  clear hh
  cases md
  all_goals
    go_enter Try.func15, Try.ntmps15
    go_wp2_with fail
    refine HH.out.mono ?_
    rintro e w1 ⟨rfl, hb1⟩
    have HB1 := Lib.hid hb1
    clear hb1
    go_wp2_with fail
    refine (find_int_out _ _ _ _ _ _ _ m hout (by omega) _).mono ?_
    rintro e w2 ⟨q, rfl, hb2, hq, hbq⟩
    have HB2 := Lib.hid (below_step HB1.out hb2)
    clear hb2 HB1
    go_wp2_with fail
    refine (thread_b t _ rfl _).mono ?_
    rintro e w3 ⟨rfl, hb3⟩
    have HB3 := Lib.hid (below_step HB2.out hb3)
    obtain ⟨a0, a1, a2, a3, f0, f1, f2, f3⟩ := ((Blk.new w2 86 #[_, .bool false, .bool false, .bool false]).below hb3 (by simp)).four
    have hz2 : w.heap.size ≤ w2.heap.size := HB2.out.size
    clear hb3
    go_wp2_with fail
    first
      | (with_reducible refine (refused_b 2 (by omega) true false _ _ 4 (refS_t _ _ _) _).mono ?_)
      | (with_reducible refine (refused_b 2 (by omega) false false _ _ 1 (refS_f _ _ _) _).mono ?_)
    rintro e w4 ⟨rfl, hb4⟩
    have HB4 := Lib.hid (below_set HB3.out hz2 hb4)
    clear hb4
    go_wp2_with fail
    go_ret2
    exact ⟨rfl, HB4.out⟩

section
variable {w : World} {base p : Nat} {s : SM} {y : Ly}
set_option maxRecDepth 100000 in
set_option maxHeartbeats 2000000 in
theorem owner_in (hs : SyncAt w base p s y) (hn : s.owners.length ≤ 1000) (m : Int) (o : Int) (ho : at_ s.owners m = some o) :
    Calls Try.prog 14 #[.pointer (some ⟨p, 0, none⟩), .int .i64 m] w fun e w' => e = .returned (.tuple #[.int .i64 o, .int .i64 0]) ∧ Below w.heap.size w w' := by
  obtain ⟨h1, h2, h3⟩ := at_some ho
  obtain ⟨g, hg, _, _, _⟩ := hs.owner h3
  have HS := Lib.hid hs; have HG := Lib.hid hg; have H3 := Lib.hid h3
  have e0 : y.oo = some ⟨g, 0, none⟩ := hg
  clear hs h3 ho hg
  go_enter Try.func14, Try.ntmps14
  go_wp2_with fail
  refine (has_b HS.out).mono ?_
  rintro e w1 ⟨rfl, hb1⟩
  have HB1 := Lib.hid hb1
  clear hb1
  go_wp2_with fail
  refine (find_int_in true _ _ _ g _ _ m h1 h2 (by omega) _).mono ?_
  rintro e w2 ⟨rfl, hb2⟩
  have HB2 := Lib.hid (below_step HB1.out hb2)
  clear hb2 HB1
  go_wp2_with fail
  refine (refused_b 4 (by omega) true true _ _ 0 rfl _).mono ?_
  rintro e w4 ⟨rfl, hb4⟩
  have HB4 := Lib.hid (below_step HB2.out hb4)
  clear hb4
  have hs4 := HS.out.below HB4.out
  obtain ⟨g', hg', k1, k2, _⟩ := hs4.owner H3.out
  obtain rfl : g = g' := by
    rw [HG.out] at hg'
    simpa using hg'
  have HS4 := Lib.hid hs4
  clear hs4 hg'
  clear HS4
  go_wp2_with fail
  go_ret2
  exact ⟨rfl, HB4.out⟩

set_option maxRecDepth 100000 in
set_option maxHeartbeats 2000000 in
theorem lock_bad (hs : SyncAt w base p s y) (hn : s.owners.length ≤ 1000) (m : Int) (o : Int) (ho : at_ s.owners m = some o) (t : Int) (ht : inB 0 7 t = false) :
    Calls Try.prog 15 #[.pointer (some ⟨p, 0, none⟩), .int .i64 m, .int .i64 t] w fun e w' => e = .returned (.tuple #[.bool false, .int .i64 2]) ∧ Below w.heap.size w w' := by
  obtain ⟨h1, h2, h3⟩ := at_some ho
  have HT := Lib.hid ht
  clear ht
  obtain ⟨g, hg, _, _, _⟩ := hs.owner h3
  have HS := Lib.hid hs; have HG := Lib.hid hg; have H3 := Lib.hid h3
  have e0 : y.oo = some ⟨g, 0, none⟩ := hg
  clear hs h3 ho hg
  go_enter Try.func15, Try.ntmps15
  go_wp2_with fail
  refine (has_b HS.out).mono ?_
  rintro e w1 ⟨rfl, hb1⟩
  have HB1 := Lib.hid hb1
  clear hb1
  go_wp2_with fail
  refine (find_int_in true _ _ _ g _ _ m h1 h2 (by omega) _).mono ?_
  rintro e w2 ⟨rfl, hb2⟩
  have HB2 := Lib.hid (below_step HB1.out hb2)
  clear hb2 HB1
  go_wp2_with fail
  refine (thread_b t _ HT.out _).mono ?_
  rintro e w3 ⟨rfl, hb3⟩
  have HB3 := Lib.hid (below_step HB2.out hb3)
  obtain ⟨a0, a1, a2, a3, f0, f1, f2, f3⟩ := ((Blk.new w2 86 #[.bool true, .bool true, .bool false, .bool false]).below hb3 (by simp)).four
  have hz2 : w.heap.size ≤ w2.heap.size := HB2.out.size
  clear hb3
  go_wp2_with fail
  refine (refused_b 2 (by omega) true true _ _ 2 rfl _).mono ?_
  rintro e w4 ⟨rfl, hb4⟩
  have HB4 := Lib.hid (below_set HB3.out hz2 hb4)
  clear hb4 a0 a1 a2 a3 f0 f1 f2 f3
  have hs4 := HS.out.below HB4.out
  obtain ⟨g', hg', k1, k2, _⟩ := hs4.owner H3.out
  obtain rfl : g = g' := by
    rw [HG.out] at hg'
    simpa using hg'
  have HS4 := Lib.hid hs4
  clear hs4 hg'
  clear k1 k2 HS4
  go_wp2_with fail
  go_ret2
  exact ⟨rfl, HB4.out⟩

set_option maxRecDepth 100000 in
set_option maxHeartbeats 2000000 in
theorem lock_had (hs : SyncAt w base p s y) (hn : s.owners.length ≤ 1000) (m : Int) (o : Int) (ho : at_ s.owners m = some o) (t : Int) (ht : inB 0 7 t = true) (hm1 : o ≠ -1) :
    Calls Try.prog 15 #[.pointer (some ⟨p, 0, none⟩), .int .i64 m, .int .i64 t] w fun e w' => e = .returned (.tuple #[.bool false, .int .i64 0]) ∧ Below w.heap.size w w' := by
  obtain ⟨h1, h2, h3⟩ := at_some ho
  have HT := Lib.hid ht
  clear ht
  have HM := Lib.hid hm1
  clear hm1
  obtain ⟨g, hg, _, _, _⟩ := hs.owner h3
  have HS := Lib.hid hs; have HG := Lib.hid hg; have H3 := Lib.hid h3
  have e0 : y.oo = some ⟨g, 0, none⟩ := hg
  clear hs h3 ho hg
  go_enter Try.func15, Try.ntmps15
  go_wp2_with fail
  refine (has_b HS.out).mono ?_
  rintro e w1 ⟨rfl, hb1⟩
  have HB1 := Lib.hid hb1
  clear hb1
  go_wp2_with fail
  refine (find_int_in true _ _ _ g _ _ m h1 h2 (by omega) _).mono ?_
  rintro e w2 ⟨rfl, hb2⟩
  have HB2 := Lib.hid (below_step HB1.out hb2)
  clear hb2 HB1
  go_wp2_with fail
  refine (thread_b t _ HT.out _).mono ?_
  rintro e w3 ⟨rfl, hb3⟩
  have HB3 := Lib.hid (below_step HB2.out hb3)
  obtain ⟨a0, a1, a2, a3, f0, f1, f2, f3⟩ := ((Blk.new w2 86 #[.bool true, .bool true, .bool false, .bool false]).below hb3 (by simp)).four
  have hz2 : w.heap.size ≤ w2.heap.size := HB2.out.size
  clear hb3
  go_wp2_with fail
  refine (refused_b 2 (by omega) true true _ _ 0 rfl _).mono ?_
  rintro e w4 ⟨rfl, hb4⟩
  have HB4 := Lib.hid (below_set HB3.out hz2 hb4)
  clear hb4 a0 a1 a2 a3 f0 f1 f2 f3
  have hs4 := HS.out.below HB4.out
  obtain ⟨g', hg', k1, k2, _⟩ := hs4.owner H3.out
  obtain rfl : g = g' := by
    rw [HG.out] at hg'
    simpa using hg'
  have HS4 := Lib.hid hs4
  clear hs4 hg'
  clear HS4
  have hq : (o != -1) = true := bne_iff_ne.2 HM.out
  go_wp2_with fail
  go_ret2
  exact ⟨rfl, HB4.out⟩

set_option maxRecDepth 100000 in
set_option maxHeartbeats 2000000 in
theorem lock_yes (hs : SyncAt w base p s y) (hn : s.owners.length ≤ 1000) (m : Int) (o : Int) (ho : at_ s.owners m = some o) (t : Int) (ht : inB 0 7 t = true) (hm1 : o = -1) :
    Calls Try.prog 15 #[.pointer (some ⟨p, 0, none⟩), .int .i64 m, .int .i64 t] w fun e w' => e = .returned (.tuple #[.bool true, .int .i64 0]) ∧ Aft w w' base p s y { s with owners := s.owners.set m.toNat t } := by
  obtain ⟨h1, h2, h3⟩ := at_some ho
  have HT := Lib.hid ht
  clear ht
  subst hm1
  obtain ⟨g, hg, _, _, hfp⟩ := hs.owner h3
  have HS := Lib.hid hs; have HG := Lib.hid hg; have H3 := Lib.hid h3
  have e0 : y.oo = some ⟨g, 0, none⟩ := hg
  clear hs h3 ho hg
  go_enter Try.func15, Try.ntmps15
  go_wp2_with fail
  refine (has_b HS.out).mono ?_
  rintro e w1 ⟨rfl, hb1⟩
  have HB1 := Lib.hid hb1
  clear hb1
  go_wp2_with fail
  refine (find_int_in true _ _ _ g _ _ m h1 h2 (by omega) _).mono ?_
  rintro e w2 ⟨rfl, hb2⟩
  have HB2 := Lib.hid (below_step HB1.out hb2)
  clear hb2 HB1
  go_wp2_with fail
  refine (thread_b t _ HT.out _).mono ?_
  rintro e w3 ⟨rfl, hb3⟩
  have HB3 := Lib.hid (below_step HB2.out hb3)
  obtain ⟨a0, a1, a2, a3, f0, f1, f2, f3⟩ := ((Blk.new w2 86 #[.bool true, .bool true, .bool false, .bool false]).below hb3 (by simp)).four
  have hz2 : w.heap.size ≤ w2.heap.size := HB2.out.size
  clear hb3
  go_wp2_with fail
  refine (refused_b 2 (by omega) true true _ _ 0 rfl _).mono ?_
  rintro e w4 ⟨rfl, hb4⟩
  have HB4 := Lib.hid (below_set HB3.out hz2 hb4)
  clear hb4 a0 a1 a2 a3 f0 f1 f2 f3
  have hs4 := HS.out.below HB4.out
  obtain ⟨g', hg', k1, k2, _⟩ := hs4.owner H3.out
  obtain rfl : g = g' := by
    rw [HG.out] at hg'
    simpa using hg'
  have HS4 := Lib.hid hs4
  clear hs4 hg'
  go_wp2_with fail
  go_ret2
  exact ⟨rfl, Aft.wrap HB4.out (Aft.owner HS4.out HG.out hfp m.toNat t) (Below.refl _ _)⟩

end
end Go.Proofs.Ytdfjbgfdaokjgaa

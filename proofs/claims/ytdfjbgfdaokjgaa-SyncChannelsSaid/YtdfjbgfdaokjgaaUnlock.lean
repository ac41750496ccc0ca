/-
  Unlock.
-/
import Derived.Test.YtdfjbgfdaokjgaaChans
import Derived.Deep.CutRange
import Derived.Deep.RegionWith
namespace Go.Proofs.Ytdfjbgfdaokjgaa
open Go.RowKit

theorem below_step_drew {w w1 w2 : World} {o : Obj} (h : Below w.heap.size w w1) (hb : Below (w1.alloc o).drew.heap.size (w1.alloc o).drew w2) : Below w.heap.size w w2 :=
  below_step h (o := o) (((Below.refl _ (w1.alloc o)).drew).trans hb)
/-- What the region ahead of what is refused leaves. -/
structure Asks (w w2 wc : World) (md th r q : Bool) : Prop where
  below : Below w.heap.size w wc
  blk : Blk wc w2.heap.size 86 #[.bool md, .bool th, .bool r, .bool q]
theorem Asks.fin {w w2 w3 : World} {md th r q : Bool} {x y : Value} (h1 : Below w.heap.size w w3) (h2 : Blk w3 w2.heap.size 86 #[.bool md, .bool th, x, y]) (hz : w.heap.size ≤ w2.heap.size) :
    Asks w w2 ((w3.setCell ⟨w2.heap.size, 2, none⟩ (.bool r)).setCell ⟨w2.heap.size, 3, none⟩ (.bool q)) md th r q :=
  ⟨(h1.setCell hz _).setCell hz _, (h2.set_ 2 _).set_ 3 _⟩
theorem Asks.fin' {w w2 w3 : World} {md th r q : Bool} {x y : Value} (h1 : Below w.heap.size w w3) (h2 : Blk w3 w2.heap.size 86 #[.bool md, .bool th, x, y]) (hz : w.heap.size ≤ w2.heap.size) :
    Asks w w2 ((w3.setCell ⟨w2.heap.size, 3, none⟩ (.bool q)).setCell ⟨w2.heap.size, 2, none⟩ (.bool r)) md th r q :=
  ⟨(h1.setCell hz _).setCell hz _, (h2.set_ 3 _).set_ 2 _⟩
theorem Asks.fin2 {w w2 w3 : World} {md th r q : Bool} {x : Value} (h1 : Below w.heap.size w w3) (h2 : Blk w3 w2.heap.size 86 #[.bool md, .bool th, x, .bool q]) (hz : w.heap.size ≤ w2.heap.size) :
    Asks w w2 (w3.setCell ⟨w2.heap.size, 2, none⟩ (.bool r)) md th r q :=
  ⟨h1.setCell hz _, h2.set_ 2 _⟩
theorem Asks.fin3 {w w2 w3 : World} {md th r q : Bool} {x : Value} (h1 : Below w.heap.size w w3) (h2 : Blk w3 w2.heap.size 86 #[.bool md, .bool th, .bool r, x]) (hz : w.heap.size ≤ w2.heap.size) :
    Asks w w2 (w3.setCell ⟨w2.heap.size, 3, none⟩ (.bool q)) md th r q :=
  ⟨h1.setCell hz _, h2.set_ 3 _⟩
theorem SyncAt.ownerAt {w : World} {base p : Nat} {s : SM} {y : Ly} (h : SyncAt w base p s y) {g k : Nat} {o : Int} (hg : y.oo = some ⟨g, 0, none⟩) (hk : s.owners[k]? = some o) : w.cell? ⟨g, k, none⟩ = some (.int .i64 o) ∧ w.frozen? ⟨g, k, none⟩ = false := by
  obtain ⟨g', hg', k1, k2, _⟩ := h.owner hk
  obtain rfl : g = g' := by
    rw [hg] at hg'
    simpa using hg'
  exact ⟨k1, k2⟩

set_option maxRecDepth 100000 in
set_option maxHeartbeats 2000000 in
theorem unlock_out (rv : Value) (md : Bool) (oo : Option Addr) (no co : Nat) (oc : Option Addr) (nc cc : Nat) (oh : Option Addr) (nh ch : Nat) (w : World)
    (hh : Calls Try.prog 36 #[rv] w fun e w' => e = .returned (.agg (hdC md oo no co oc nc cc oh nh ch)) ∧ Below w.heap.size w w')
    (m : Int) (hout : m < 0 ∨ (no : Int) ≤ m) (hn : no ≤ 1000) (t : Int) :
    Calls Try.prog 24 #[rv, .int .i64 m, .int .i64 t] w fun e w' => e = .returned (.int .i64 (if md = true then 4 else 1)) ∧ Below w.heap.size w w' := by
  have HH := Lib.hid hh
  obtain ⟨r, hr⟩ : ∃ r, inB 0 7 t = r := ⟨_, rfl⟩
  have HT := Lib.hid hr
  obtain ⟨qq, hq⟩ : ∃ q, ((0 : Int) == t) = q := ⟨_, rfl⟩
  clear hh hr
  cases md
  case false =>
    go_enter Try.func24, Try.ntmps24
    go_wp2_with fail
    refine HH.out.mono ?_
    rintro e w1 ⟨rfl, hb1⟩
    have HB1 := Lib.hid hb1
    clear hb1
    go_wp2_with fail
    refine (find_int_out _ _ _ _ _ _ _ m hout (by omega) _).mono ?_
    rintro e w2 ⟨q, rfl, hb2, hq2, hbq⟩
    have HB2 := Lib.hid (below_step HB1.out hb2)
    clear hb2 HB1
    have hz2 : w.heap.size ≤ w2.heap.size := HB2.out.size
    go_wp2_with fail
    have k0 := cell_alloc' (show w2.cell? ⟨q, 0, none⟩ = some (.int .i64 0) from hbq.cell 0) (.cells #[.bool false, .bool false, .bool false, .bool false] 86)
    have HBQ := Lib.hid hbq
    have hg1 : q < w2.heap.size := hbq.lt
    have hg2 : ¬ q = w2.heap.size := by omega
    have hg3 : ¬ w2.heap.size = q := by omega
    clear hbq
    go_cut [] from 21 to 29 (fun wc => Asks w w2 wc false false r qq)
    case' first =>
      go_region_with (go_at_call 39; refine (thread_b t _ HT.out _).mono ?_; rintro e w3 ⟨rfl, hb3⟩; have HB3 := Lib.hid (below_step_drew HB2.out hb3); have k1 := (((HBQ.out.alloc _).drew).below hb3 (by simp; omega)).cell 0; have ha := (Blk.drew (Blk.new w2 86 _)).below hb3 (by simp); have HA := Lib.hid ha; obtain ⟨a0, a1, a2, a3, f0, f1, f2, f3⟩ := ha.four; clear hb3 ha)
      all_goals
        go_wp2_with fail
        go_meet
        first
          | exact Asks.fin HB3.out HA.out hz2
          | exact Asks.fin' HB3.out HA.out hz2
          | exact Asks.fin2 HB3.out HA.out hz2
          | exact Asks.fin3 HB3.out HA.out hz2
    case' rest =>
      have hc := hcut
      obtain ⟨hbc, hac⟩ := hc
      have HBC := Lib.hid hbc
      obtain ⟨a0, a1, a2, a3, f0, f1, f2, f3⟩ := hac.four
      clear hcut hbc hac k0
      go_wp2_with fail
      refine (refused_b 140 (by omega) false false _ _ 1 (refS_f _ _ _) _).mono ?_
      rintro e w4 ⟨rfl, hb4⟩
      have HB4 := Lib.hid (HBC.out.trans (hb4.mono HBC.out.size))
      clear hb4 a0 a1 a2 a3 f0 f1 f2 f3 hq hg1 hg2 hg3
      go_wp2_with fail
      go_ret
      exact ⟨rfl, HB4.out⟩
  case true =>
    go_enter Try.func24, Try.ntmps24
    go_wp2_with fail
    refine HH.out.mono ?_
    rintro e w1 ⟨rfl, hb1⟩
    have HB1 := Lib.hid hb1
    clear hb1
    go_wp2_with fail
    refine (find_int_out _ _ _ _ _ _ _ m hout (by omega) _).mono ?_
    rintro e w2 ⟨q, rfl, hb2, hq2, hbq⟩
    have HB2 := Lib.hid (below_step HB1.out hb2)
    clear hb2 HB1
    have hz2 : w.heap.size ≤ w2.heap.size := HB2.out.size
    go_wp2_with fail
    have k0 := cell_alloc' (show w2.cell? ⟨q, 0, none⟩ = some (.int .i64 0) from hbq.cell 0) (.cells #[.bool true, .bool false, .bool false, .bool false] 86)
    have HBQ := Lib.hid hbq
    have hg1 : q < w2.heap.size := hbq.lt
    have hg2 : ¬ q = w2.heap.size := by omega
    have hg3 : ¬ w2.heap.size = q := by omega
    clear hbq
    go_cut [] from 21 to 29 (fun wc => Asks w w2 wc true false r qq)
    case' first =>
      go_region_with (go_at_call 39; refine (thread_b t _ HT.out _).mono ?_; rintro e w3 ⟨rfl, hb3⟩; have HB3 := Lib.hid (below_step_drew HB2.out hb3); have k1 := (((HBQ.out.alloc _).drew).below hb3 (by simp; omega)).cell 0; have ha := (Blk.drew (Blk.new w2 86 _)).below hb3 (by simp); have HA := Lib.hid ha; obtain ⟨a0, a1, a2, a3, f0, f1, f2, f3⟩ := ha.four; clear hb3 ha)
      all_goals
        go_wp2_with fail
        go_meet
        first
          | exact Asks.fin HB3.out HA.out hz2
          | exact Asks.fin' HB3.out HA.out hz2
          | exact Asks.fin2 HB3.out HA.out hz2
          | exact Asks.fin3 HB3.out HA.out hz2
    case' rest =>
      have hc := hcut
      obtain ⟨hbc, hac⟩ := hc
      have HBC := Lib.hid hbc
      obtain ⟨a0, a1, a2, a3, f0, f1, f2, f3⟩ := hac.four
      clear hcut hbc hac k0
      go_wp2_with fail
      refine (refused_b 140 (by omega) true false _ _ 4 (refS_t _ _ _) _).mono ?_
      rintro e w4 ⟨rfl, hb4⟩
      have HB4 := Lib.hid (HBC.out.trans (hb4.mono HBC.out.size))
      clear hb4 a0 a1 a2 a3 f0 f1 f2 f3 hq hg1 hg2 hg3
      go_wp2_with fail
      go_ret
      exact ⟨rfl, HB4.out⟩

section
variable {w : World} {base p : Nat} {s : SM} {y : Ly}
set_option maxRecDepth 100000 in
set_option maxHeartbeats 2000000 in
theorem unlock_bad (hs : SyncAt w base p s y) (hn : s.owners.length ≤ 1000) (m : Int) (o : Int) (ho : at_ s.owners m = some o) (t : Int) (ht : inB 0 7 t = false) :
    Calls Try.prog 24 #[.pointer (some ⟨p, 0, none⟩), .int .i64 m, .int .i64 t] w fun e w' => e = .returned (.int .i64 2) ∧ Below w.heap.size w w' := by
  obtain ⟨h1, h2, h3⟩ := at_some ho
  have HT := Lib.hid ht
  clear ht
  obtain ⟨q, hq⟩ : ∃ q, (o == t) = q := ⟨_, rfl⟩
  obtain ⟨g, hg, _, _, hfp⟩ := hs.owner h3
  have HS := Lib.hid hs; have HG := Lib.hid hg; have H3 := Lib.hid h3
  have e0 : y.oo = some ⟨g, 0, none⟩ := hg
  clear hs h3 ho hg
  go_enter Try.func24, Try.ntmps24
  go_wp2_with fail
  refine (has_b HS.out).mono ?_
  rintro e w1 ⟨rfl, hb1⟩
  have HB1 := Lib.hid hb1
  clear hb1
  go_wp2_with fail
  refine (find_int_in true _ _ _ g _ _ m h1 h2 (by omega) _).mono ?_
  rintro e w2 ⟨rfl, hb2⟩
  have HB2 := Lib.hid (below_step HB1.out hb2)
  clear hb2 HB1
  go_wp2_with fail
  have hz2 : w.heap.size ≤ w2.heap.size := HB2.out.size
  have k0 : (w2.alloc (.cells #[.bool true, .bool true, .bool false, .bool false] 86)).cell? ⟨g, m.toNat, none⟩ = some (.int .i64 o) := by
    obtain ⟨k1, k2⟩ := (HS.out.below HB2.out).ownerAt HG.out H3.out
    exact cell_alloc' k1 _
  have hg1 : g < w2.heap.size := ((HS.out.below HB2.out).lt hfp).2
  have hg2 : ¬ g = w2.heap.size := by omega
  have hg3 : ¬ w2.heap.size = g := by omega
  go_cut [] from 21 to 29 (fun wc => Asks w w2 wc true true false q)
  case first =>
    go_region_with (go_at_call 39; refine (thread_b t _ HT.out _).mono ?_; rintro e w3 ⟨rfl, hb3⟩; have HB3 := Lib.hid (below_step_drew HB2.out hb3); obtain ⟨k1, k2⟩ := (HS.out.below HB3.out).ownerAt HG.out H3.out; have ha := (Blk.drew (Blk.new w2 86 _)).below hb3 (by simp); have HA := Lib.hid ha; obtain ⟨a0, a1, a2, a3, f0, f1, f2, f3⟩ := ha.four; clear hb3 ha)
    all_goals
      go_wp2_with fail
      go_meet
      first
        | exact Asks.fin HB3.out HA.out hz2
        | exact Asks.fin' HB3.out HA.out hz2
        | exact Asks.fin2 HB3.out HA.out hz2
        | exact Asks.fin3 HB3.out HA.out hz2
  case rest =>
  have hc := hcut
  obtain ⟨hbc, hac⟩ := hc
  have HBC := Lib.hid hbc
  obtain ⟨a0, a1, a2, a3, f0, f1, f2, f3⟩ := hac.four
  clear hcut hbc hac k0
  go_wp2_with fail
  refine (refused_b 140 (by omega) true true _ _ 2 rfl _).mono ?_
  rintro e w4 ⟨rfl, hb4⟩
  have HB4 := Lib.hid (HBC.out.trans (hb4.mono HBC.out.size))
  obtain ⟨k1, k2⟩ := (HS.out.below HB4.out).ownerAt HG.out H3.out
  clear hb4 a0 a1 a2 a3 f0 f1 f2 f3 hq hg1 hg2 hg3
  go_wp2_with fail
  go_ret
  exact ⟨rfl, HB4.out⟩

set_option maxRecDepth 100000 in
set_option maxHeartbeats 2000000 in
theorem unlock_not (hs : SyncAt w base p s y) (hn : s.owners.length ≤ 1000) (m : Int) (o : Int) (ho : at_ s.owners m = some o) (t : Int) (ht : inB 0 7 t = true) (hot : o ≠ t) :
    Calls Try.prog 24 #[.pointer (some ⟨p, 0, none⟩), .int .i64 m, .int .i64 t] w fun e w' => e = .returned (.int .i64 140) ∧ Below w.heap.size w w' := by
  obtain ⟨h1, h2, h3⟩ := at_some ho
  have HT := Lib.hid ht
  clear ht
  have hq : (o == t) = false := by rw [beq_eq_false_iff_ne]; exact hot
  clear hot
  obtain ⟨g, hg, _, _, hfp⟩ := hs.owner h3
  have HS := Lib.hid hs; have HG := Lib.hid hg; have H3 := Lib.hid h3
  have e0 : y.oo = some ⟨g, 0, none⟩ := hg
  clear hs h3 ho hg
  go_enter Try.func24, Try.ntmps24
  go_wp2_with fail
  refine (has_b HS.out).mono ?_
  rintro e w1 ⟨rfl, hb1⟩
  have HB1 := Lib.hid hb1
  clear hb1
  go_wp2_with fail
  refine (find_int_in true _ _ _ g _ _ m h1 h2 (by omega) _).mono ?_
  rintro e w2 ⟨rfl, hb2⟩
  have HB2 := Lib.hid (below_step HB1.out hb2)
  clear hb2 HB1
  go_wp2_with fail
  have hz2 : w.heap.size ≤ w2.heap.size := HB2.out.size
  have k0 : (w2.alloc (.cells #[.bool true, .bool true, .bool false, .bool false] 86)).cell? ⟨g, m.toNat, none⟩ = some (.int .i64 o) := by
    obtain ⟨k1, k2⟩ := (HS.out.below HB2.out).ownerAt HG.out H3.out
    exact cell_alloc' k1 _
  have hg1 : g < w2.heap.size := ((HS.out.below HB2.out).lt hfp).2
  have hg2 : ¬ g = w2.heap.size := by omega
  have hg3 : ¬ w2.heap.size = g := by omega
  go_cut [] from 21 to 29 (fun wc => Asks w w2 wc true true true false)
  case first =>
    go_region_with (go_at_call 39; refine (thread_b t _ HT.out _).mono ?_; rintro e w3 ⟨rfl, hb3⟩; have HB3 := Lib.hid (below_step_drew HB2.out hb3); obtain ⟨k1, k2⟩ := (HS.out.below HB3.out).ownerAt HG.out H3.out; have ha := (Blk.drew (Blk.new w2 86 _)).below hb3 (by simp); have HA := Lib.hid ha; obtain ⟨a0, a1, a2, a3, f0, f1, f2, f3⟩ := ha.four; clear hb3 ha)
    all_goals
      go_wp2_with fail
      go_meet
      first
        | exact Asks.fin HB3.out HA.out hz2
        | exact Asks.fin' HB3.out HA.out hz2
        | exact Asks.fin2 HB3.out HA.out hz2
        | exact Asks.fin3 HB3.out HA.out hz2
  case rest =>
  have hc := hcut
  obtain ⟨hbc, hac⟩ := hc
  have HBC := Lib.hid hbc
  obtain ⟨a0, a1, a2, a3, f0, f1, f2, f3⟩ := hac.four
  clear hcut hbc hac k0
  go_wp2_with fail
  refine (refused_b 140 (by omega) true true _ _ 140 rfl _).mono ?_
  rintro e w4 ⟨rfl, hb4⟩
  have HB4 := Lib.hid (HBC.out.trans (hb4.mono HBC.out.size))
  obtain ⟨k1, k2⟩ := (HS.out.below HB4.out).ownerAt HG.out H3.out
  clear hb4 a0 a1 a2 a3 f0 f1 f2 f3 hq hg1 hg2 hg3
  go_wp2_with fail
  go_ret
  exact ⟨rfl, HB4.out⟩

set_option maxRecDepth 100000 in
set_option maxHeartbeats 2000000 in
theorem unlock_yes (hs : SyncAt w base p s y) (hn : s.owners.length ≤ 1000) (m : Int) (o : Int) (ho : at_ s.owners m = some o) (t : Int) (ht : inB 0 7 t = true) (hot : o = t) :
    Calls Try.prog 24 #[.pointer (some ⟨p, 0, none⟩), .int .i64 m, .int .i64 t] w fun e w' => e = .returned (.int .i64 0) ∧ Aft w w' base p s y { s with owners := s.owners.set m.toNat (-1) } := by
  obtain ⟨h1, h2, h3⟩ := at_some ho
  have HT := Lib.hid ht
  clear ht
  have hq : (o == t) = true := by simp [hot]
  clear hot
  obtain ⟨g, hg, _, _, hfp⟩ := hs.owner h3
  have HS := Lib.hid hs; have HG := Lib.hid hg; have H3 := Lib.hid h3
  have e0 : y.oo = some ⟨g, 0, none⟩ := hg
  clear hs h3 ho hg
  go_enter Try.func24, Try.ntmps24
  go_wp2_with fail
  refine (has_b HS.out).mono ?_
  rintro e w1 ⟨rfl, hb1⟩
  have HB1 := Lib.hid hb1
  clear hb1
  go_wp2_with fail
  refine (find_int_in true _ _ _ g _ _ m h1 h2 (by omega) _).mono ?_
  rintro e w2 ⟨rfl, hb2⟩
  have HB2 := Lib.hid (below_step HB1.out hb2)
  clear hb2 HB1
  go_wp2_with fail
  have hz2 : w.heap.size ≤ w2.heap.size := HB2.out.size
  have k0 : (w2.alloc (.cells #[.bool true, .bool true, .bool false, .bool false] 86)).cell? ⟨g, m.toNat, none⟩ = some (.int .i64 o) := by
    obtain ⟨k1, k2⟩ := (HS.out.below HB2.out).ownerAt HG.out H3.out
    exact cell_alloc' k1 _
  have hg1 : g < w2.heap.size := ((HS.out.below HB2.out).lt hfp).2
  have hg2 : ¬ g = w2.heap.size := by omega
  have hg3 : ¬ w2.heap.size = g := by omega
  go_cut [] from 21 to 29 (fun wc => Asks w w2 wc true true true true)
  case first =>
    go_region_with (go_at_call 39; refine (thread_b t _ HT.out _).mono ?_; rintro e w3 ⟨rfl, hb3⟩; have HB3 := Lib.hid (below_step_drew HB2.out hb3); obtain ⟨k1, k2⟩ := (HS.out.below HB3.out).ownerAt HG.out H3.out; have ha := (Blk.drew (Blk.new w2 86 _)).below hb3 (by simp); have HA := Lib.hid ha; obtain ⟨a0, a1, a2, a3, f0, f1, f2, f3⟩ := ha.four; clear hb3 ha)
    all_goals
      go_wp2_with fail
      go_meet
      first
        | exact Asks.fin HB3.out HA.out hz2
        | exact Asks.fin' HB3.out HA.out hz2
        | exact Asks.fin2 HB3.out HA.out hz2
        | exact Asks.fin3 HB3.out HA.out hz2
  case rest =>
  have hc := hcut
  obtain ⟨hbc, hac⟩ := hc
  have HBC := Lib.hid hbc
  obtain ⟨a0, a1, a2, a3, f0, f1, f2, f3⟩ := hac.four
  clear hcut hbc hac k0
  go_wp2_with fail
  refine (refused_b 140 (by omega) true true _ _ 0 rfl _).mono ?_
  rintro e w4 ⟨rfl, hb4⟩
  have HB4 := Lib.hid (HBC.out.trans (hb4.mono HBC.out.size))
  obtain ⟨k1, k2⟩ := (HS.out.below HB4.out).ownerAt HG.out H3.out
  clear hb4 a0 a1 a2 a3 f0 f1 f2 f3 hq hg1 hg2 hg3
  go_wp2_with fail
  go_ret
  exact ⟨rfl, Aft.wrap HB4.out (Aft.owner (HS.out.below HB4.out) HG.out hfp m.toNat (-1)) (Below.refl _ _)⟩

end
end Go.Proofs.Ytdfjbgfdaokjgaa

/-
  Wait.
-/
import Derived.Test.YtdfjbgfdaokjgaaUnlock
namespace Go.Proofs.Ytdfjbgfdaokjgaa
open Go.RowKit

/-- What lies while it is asked whether a thread may wait. -/
structure WI (w w1 w2 : World) (hd : Array Value) (md th : Bool) (W : World) (x y : Value) : Prop where
  below : Below w.heap.size w W
  asked : Blk W w2.heap.size 86 #[.bool md, .bool th, x, y]
  box : Blk W w1.heap.size 76 hd
theorem WI.under {w w1 w2 W W' : World} {hd : Array Value} {md th : Bool} {x y : Value} (h : WI w w1 w2 hd md th W x y) (hb : Below W.heap.size W W') : WI w w1 w2 hd md th W' x y :=
  ⟨h.below.trans (hb.mono h.below.size), h.asked.below hb h.asked.lt, h.box.below hb h.box.lt⟩
theorem WI.set2 {w w1 w2 W : World} {hd : Array Value} {md th : Bool} {x y : Value} (h : WI w w1 w2 hd md th W x y) (hz : w.heap.size ≤ w2.heap.size) (hne : w1.heap.size ≠ w2.heap.size) (u : Value) : WI w w1 w2 hd md th (W.setCell ⟨w2.heap.size, 2, none⟩ u) u y :=
  ⟨h.below.setCell hz _, h.asked.set_ 2 u, h.box.far hne u⟩
theorem WI.set3 {w w1 w2 W : World} {hd : Array Value} {md th : Bool} {x y : Value} (h : WI w w1 w2 hd md th W x y) (hz : w.heap.size ≤ w2.heap.size) (hne : w1.heap.size ≠ w2.heap.size) (u : Value) : WI w w1 w2 hd md th (W.setCell ⟨w2.heap.size, 3, none⟩ u) x u :=
  ⟨h.below.setCell hz _, h.asked.set_ 3 u, h.box.far hne u⟩
theorem SyncAt.condAt {w : World} {base p : Nat} {s : SM} {y : Ly} (h : SyncAt w base p s y) {g k : Nat} {v : Value} {l : List Int} (hg : y.oc = some ⟨g, 0, none⟩) (hv : y.cv[k]? = some v) (hk : s.conds[k]? = some l) (hm : l.length ≤ 1000000) : QAt w base g k 3 v l := by
  obtain ⟨g', v', hg', hv', hq, _⟩ := h.cond hk hm
  obtain rfl : g = g' := by
    rw [hg] at hg'
    simpa using hg'
  obtain rfl : v = v' := by
    rw [hv] at hv'
    simpa using hv'
  exact hq
theorem waits_b (md : Bool) (oo : Option Addr) (no co : Nat) (oc : Option Addr) (nc cc : Nat) (oh : Option Addr) (nh ch : Nat) (t : Int) (ls : List (List Int)) (hls : ls.length = nc) (hnc : nc ≤ 1000000) (r : Bool) (hr : decide (t ∈ ls.flatten) = r) (w : World) (hla : LsAt w oc ls) :
    Calls Try.prog 51 #[.agg (hdC md oo no co oc nc cc oh nh ch), .int .i64 t] w fun e w' => e = .returned (.bool r) ∧ Below w.heap.size w w' :=
  (waits_any md oo no co oc nc cc oh nh ch t ls hls hnc w hla).mono fun e w' ⟨⟨r', h1, h2⟩, h3⟩ => ⟨by
    rw [h1, ← hr]
    congr 2
    cases r' with
    | true => exact (decide_eq_true (h2.1 rfl)).symm
    | false => exact (decide_eq_false (fun h => by have := h2.2 h; cases this)).symm, h3⟩

set_option maxRecDepth 100000 in
set_option maxHeartbeats 2000000 in
theorem wait_out (rv : Value) (md : Bool) (oo : Option Addr) (no co : Nat) (oc : Option Addr) (nc cc : Nat) (oh : Option Addr) (nh ch : Nat) (w : World)
    (hh : Calls Try.prog 36 #[rv] w fun e w' => e = .returned (.agg (hdC md oo no co oc nc cc oh nh ch)) ∧ Below w.heap.size w w')
    (m : Int) (hout : m < 0 ∨ (nc : Int) ≤ m) (hn : nc ≤ 1000) (t : Int) (ls : List (List Int)) (hls : ls.length = nc) (hla : LsAt w oc ls) :
    Calls Try.prog 25 #[rv, .int .i64 m, .int .i64 t] w fun e w' => e = .returned (.int .i64 (if md = true then 4 else 1)) ∧ Below w.heap.size w w' := by
  have HH := Lib.hid hh
  clear hh
  obtain ⟨r, hr⟩ : ∃ r, inB 0 7 t = r := ⟨_, rfl⟩
  have HT := Lib.hid hr
  obtain ⟨r2, hr2⟩ : ∃ r, decide (t ∈ ls.flatten) = r := ⟨_, rfl⟩
  have HR2 := Lib.hid hr2
  have HLS := Lib.hid hls
  clear hr hr2 hls
  cases md
  case false =>
    go_enter Try.func25, Try.ntmps25
    go_wp2_with fail
    refine HH.out.mono ?_
    rintro e w1 ⟨rfl, hb1⟩
    have HB1 := Lib.hid hb1
    have HLA : Hid (LsAt w oc ls) := hla
    clear hb1
    go_wp2_with fail
    refine (find_cond_out _ _ _ _ _ _ _ m hout (by omega) _).mono ?_
    rintro e w2 ⟨q9, rfl, hb2, hq9, hbq⟩
    have HB2 := Lib.hid (below_step HB1.out hb2)
    have HBX : Hid (Blk w2 w1.heap.size 76 (hdC false oo no co oc nc cc oh nh ch)) := (Blk.new w1 76 (hdC false oo no co oc nc cc oh nh ch)).below hb2 (by simp)
    clear hb2 HB1
    go_wp2_with fail
    have hz2 : w.heap.size ≤ w2.heap.size := HB2.out.size
    have HI0 := Lib.hid (WI.mk (hd := (hdC false oo no co oc nc cc oh nh ch)) (md := false) (th := false) ((HB2.out.alloc HB2.out.size (.cells #[.bool false, .bool false, .bool false, .bool false] 86)).drew) ((Blk.new w2 86 #[.bool false, .bool false, .bool false, .bool false]).drew) ((HBX.out.alloc (.cells #[.bool false, .bool false, .bool false, .bool false] 86)).drew))
    have hne1 : w1.heap.size < w2.heap.size := HBX.out.lt
    have hne2 : ¬ w1.heap.size = w2.heap.size := by omega
    have hne3 : ¬ w2.heap.size = w1.heap.size := by omega
    have HWT : Hid (∀ W x2 x3, WI w w1 w2 (hdC false oo no co oc nc cc oh nh ch) false false W x2 x3 → Calls Try.prog 51 #[.agg (hdC false oo no co oc nc cc oh nh ch), .int .i64 t] W fun e w' => e = .returned (.bool r2) ∧ Below W.heap.size W w') := fun W x2 x3 h => waits_b _ _ _ _ _ _ _ _ _ _ t ls HLS.out (by omega) r2 HR2.out W (HLA.out.below h.below)
    obtain ⟨d0, d1, d2, d3, _, _, _, _⟩ := HI0.out.box.four
    go_cut [] from 21 to 28 (fun wc => Asks w w2 wc false false r (!r2))
    case' first =>
      go_region_with (first
        | (go_at_call 39; refine (thread_b t _ HT.out _).mono ?_; rintro e w3 ⟨rfl, hb3⟩; have HI3 : Hid (WI w w1 w2 (hdC false oo no co oc nc cc oh nh ch) false false w3 _ _) := (by first | with_reducible exact Lib.hid (HI0.out.under hb3) | with_reducible exact Lib.hid (HI4.out.under hb3) | with_reducible exact Lib.hid ((HI4.out.set3 hz2 hne2 _).under hb3)); obtain ⟨a0, a1, a2, a3, f0, f1, f2, f3⟩ := HI3.out.asked.four; obtain ⟨d0, d1, d2, d3, _, _, _, _⟩ := HI3.out.box.four; clear hb3)
        | (go_at_call 51; refine (HWT.out _ _ _ (by first | with_reducible exact HI0.out | with_reducible exact HI3.out | with_reducible exact HI3.out.set2 hz2 hne2 _)).mono ?_; rintro e w4 ⟨rfl, hb4⟩; have HI4 : Hid (WI w w1 w2 (hdC false oo no co oc nc cc oh nh ch) false false w4 _ _) := (by first | with_reducible exact Lib.hid (HI0.out.under hb4) | with_reducible exact Lib.hid (HI3.out.under hb4) | with_reducible exact Lib.hid ((HI3.out.set2 hz2 hne2 _).under hb4)); obtain ⟨a0, a1, a2, a3, f0, f1, f2, f3⟩ := HI4.out.asked.four; clear hb4))
      all_goals
        go_wp2_with fail
        go_meet
        first
          | exact Asks.fin HI4.out.below HI4.out.asked hz2
          | exact Asks.fin' HI4.out.below HI4.out.asked hz2
          | exact Asks.fin3 HI4.out.below HI4.out.asked hz2
          | exact Asks.fin HI3.out.below HI3.out.asked hz2
          | exact Asks.fin' HI3.out.below HI3.out.asked hz2
          | exact Asks.fin2 HI3.out.below HI3.out.asked hz2
    case' rest =>
      have hc := hcut
      obtain ⟨hbc, hac⟩ := hc
      have HBC := Lib.hid hbc
      obtain ⟨a0, a1, a2, a3, f0, f1, f2, f3⟩ := hac.four
      clear hcut hbc hac d0 d1 d2 d3 hne1 hne2 hne3
      go_wp2_with fail
      refine (refused_b 141 (by omega) false false _ _ 1 (refS_f _ _ _) _).mono ?_
      rintro e w5 ⟨rfl, hb5⟩
      have HB5 := Lib.hid (HBC.out.trans (hb5.mono HBC.out.size))
      clear hb5 a0 a1 a2 a3 f0 f1 f2 f3
      go_wp2_with fail
      go_ret
      exact ⟨rfl, HB5.out⟩
  case true =>
    go_enter Try.func25, Try.ntmps25
    go_wp2_with fail
    refine HH.out.mono ?_
    rintro e w1 ⟨rfl, hb1⟩
    have HB1 := Lib.hid hb1
    have HLA : Hid (LsAt w oc ls) := hla
    clear hb1
    go_wp2_with fail
    refine (find_cond_out _ _ _ _ _ _ _ m hout (by omega) _).mono ?_
    rintro e w2 ⟨q9, rfl, hb2, hq9, hbq⟩
    have HB2 := Lib.hid (below_step HB1.out hb2)
    have HBX : Hid (Blk w2 w1.heap.size 76 (hdC true oo no co oc nc cc oh nh ch)) := (Blk.new w1 76 (hdC true oo no co oc nc cc oh nh ch)).below hb2 (by simp)
    clear hb2 HB1
    go_wp2_with fail
    have hz2 : w.heap.size ≤ w2.heap.size := HB2.out.size
    have HI0 := Lib.hid (WI.mk (hd := (hdC true oo no co oc nc cc oh nh ch)) (md := true) (th := false) ((HB2.out.alloc HB2.out.size (.cells #[.bool true, .bool false, .bool false, .bool false] 86)).drew) ((Blk.new w2 86 #[.bool true, .bool false, .bool false, .bool false]).drew) ((HBX.out.alloc (.cells #[.bool true, .bool false, .bool false, .bool false] 86)).drew))
    have hne1 : w1.heap.size < w2.heap.size := HBX.out.lt
    have hne2 : ¬ w1.heap.size = w2.heap.size := by omega
    have hne3 : ¬ w2.heap.size = w1.heap.size := by omega
    have HWT : Hid (∀ W x2 x3, WI w w1 w2 (hdC true oo no co oc nc cc oh nh ch) true false W x2 x3 → Calls Try.prog 51 #[.agg (hdC true oo no co oc nc cc oh nh ch), .int .i64 t] W fun e w' => e = .returned (.bool r2) ∧ Below W.heap.size W w') := fun W x2 x3 h => waits_b _ _ _ _ _ _ _ _ _ _ t ls HLS.out (by omega) r2 HR2.out W (HLA.out.below h.below)
    obtain ⟨d0, d1, d2, d3, _, _, _, _⟩ := HI0.out.box.four
    go_cut [] from 21 to 28 (fun wc => Asks w w2 wc true false r (!r2))
    case' first =>
      go_region_with (first
        | (go_at_call 39; refine (thread_b t _ HT.out _).mono ?_; rintro e w3 ⟨rfl, hb3⟩; have HI3 : Hid (WI w w1 w2 (hdC true oo no co oc nc cc oh nh ch) true false w3 _ _) := (by first | with_reducible exact Lib.hid (HI0.out.under hb3) | with_reducible exact Lib.hid (HI4.out.under hb3) | with_reducible exact Lib.hid ((HI4.out.set3 hz2 hne2 _).under hb3)); obtain ⟨a0, a1, a2, a3, f0, f1, f2, f3⟩ := HI3.out.asked.four; obtain ⟨d0, d1, d2, d3, _, _, _, _⟩ := HI3.out.box.four; clear hb3)
        | (go_at_call 51; refine (HWT.out _ _ _ (by first | with_reducible exact HI0.out | with_reducible exact HI3.out | with_reducible exact HI3.out.set2 hz2 hne2 _)).mono ?_; rintro e w4 ⟨rfl, hb4⟩; have HI4 : Hid (WI w w1 w2 (hdC true oo no co oc nc cc oh nh ch) true false w4 _ _) := (by first | with_reducible exact Lib.hid (HI0.out.under hb4) | with_reducible exact Lib.hid (HI3.out.under hb4) | with_reducible exact Lib.hid ((HI3.out.set2 hz2 hne2 _).under hb4)); obtain ⟨a0, a1, a2, a3, f0, f1, f2, f3⟩ := HI4.out.asked.four; clear hb4))
      all_goals
        go_wp2_with fail
        go_meet
        first
          | exact Asks.fin HI4.out.below HI4.out.asked hz2
          | exact Asks.fin' HI4.out.below HI4.out.asked hz2
          | exact Asks.fin3 HI4.out.below HI4.out.asked hz2
          | exact Asks.fin HI3.out.below HI3.out.asked hz2
          | exact Asks.fin' HI3.out.below HI3.out.asked hz2
          | exact Asks.fin2 HI3.out.below HI3.out.asked hz2
    case' rest =>
      have hc := hcut
      obtain ⟨hbc, hac⟩ := hc
      have HBC := Lib.hid hbc
      obtain ⟨a0, a1, a2, a3, f0, f1, f2, f3⟩ := hac.four
      clear hcut hbc hac d0 d1 d2 d3 hne1 hne2 hne3
      go_wp2_with fail
      refine (refused_b 141 (by omega) true false _ _ 4 (refS_t _ _ _) _).mono ?_
      rintro e w5 ⟨rfl, hb5⟩
      have HB5 := Lib.hid (HBC.out.trans (hb5.mono HBC.out.size))
      clear hb5 a0 a1 a2 a3 f0 f1 f2 f3
      go_wp2_with fail
      go_ret
      exact ⟨rfl, HB5.out⟩

section
variable {w : World} {base p : Nat} {s : SM} {y : Ly}
set_option maxRecDepth 100000 in
set_option maxHeartbeats 2000000 in
theorem wait_bad (hs : SyncAt w base p s y) (hn : s.conds.length ≤ 1000) (m : Int) (l : List Int) (ho : at_ s.conds m = some l) (t : Int) (hl : l.length ≤ 1000000) (hlm : ∀ l ∈ s.conds, l.length ≤ 1000000) (ht : inB 0 7 t = false) :
    Calls Try.prog 25 #[.pointer (some ⟨p, 0, none⟩), .int .i64 m, .int .i64 t] w fun e w' => e = .returned (.int .i64 2) ∧ Below w.heap.size w w' := by
  obtain ⟨h1, h2, h3⟩ := at_some ho
  have HT := Lib.hid ht
  clear ht
  obtain ⟨r2, hr2⟩ : ∃ r, decide (t ∈ s.conds.flatten) = r := ⟨_, rfl⟩
  have HR2 := Lib.hid hr2
  clear hr2
  obtain ⟨g, v, hg, hv, _, _, _⟩ := hs.cond h3 hl
  have HS := Lib.hid hs; have HG := Lib.hid hg; have HVV := Lib.hid hv; have H3 := Lib.hid h3; have HLL := Lib.hid hl
  have e0 : y.oc = some ⟨g, 0, none⟩ := hg
  clear hs h3 ho hg hv hl
  have HLA : Hid (LsAt w (some ⟨g, 0, none⟩) s.conds) := by
    have h9 := HS.out.ls hlm
    rwa [HG.out] at h9
  clear hlm
  go_enter Try.func25, Try.ntmps25
  go_wp2_with fail
  refine (has_b HS.out).mono ?_
  rintro e w1 ⟨rfl, hb1⟩
  have HB1 := Lib.hid hb1
  clear hb1
  go_wp2_with fail
  refine (find_cond_in true _ _ _ g _ _ m h1 h2 (by omega) _).mono ?_
  rintro e w2 ⟨rfl, hb2⟩
  have HB2 := Lib.hid (below_step HB1.out hb2)
  have HBX : Hid (Blk w2 w1.heap.size 76 (hdC true y.oo s.owners.length y.co (some ⟨g, 0, none⟩) s.conds.length y.cc y.oh s.chans.length y.ch)) := (Blk.new w1 76 (hdC true y.oo s.owners.length y.co (some ⟨g, 0, none⟩) s.conds.length y.cc y.oh s.chans.length y.ch)).below hb2 (by simp)
  clear hb2 HB1
  go_wp2_with fail
  have hz2 : w.heap.size ≤ w2.heap.size := HB2.out.size
  have HI0 := Lib.hid (WI.mk (hd := (hdC true y.oo s.owners.length y.co (some ⟨g, 0, none⟩) s.conds.length y.cc y.oh s.chans.length y.ch)) (md := true) (th := true) ((HB2.out.alloc HB2.out.size (.cells #[.bool true, .bool true, .bool false, .bool false] 86)).drew) ((Blk.new w2 86 #[.bool true, .bool true, .bool false, .bool false]).drew) ((HBX.out.alloc (.cells #[.bool true, .bool true, .bool false, .bool false] 86)).drew))
  have hne1 : w1.heap.size < w2.heap.size := HBX.out.lt
  have hne2 : ¬ w1.heap.size = w2.heap.size := by omega
  have hne3 : ¬ w2.heap.size = w1.heap.size := by omega
  have HWT : Hid (∀ W x2 x3, WI w w1 w2 (hdC true y.oo s.owners.length y.co (some ⟨g, 0, none⟩) s.conds.length y.cc y.oh s.chans.length y.ch) true true W x2 x3 → Calls Try.prog 51 #[.agg (hdC true y.oo s.owners.length y.co (some ⟨g, 0, none⟩) s.conds.length y.cc y.oh s.chans.length y.ch), .int .i64 t] W fun e w' => e = .returned (.bool r2) ∧ Below W.heap.size W w') := fun W x2 x3 h => waits_b _ _ _ _ _ _ _ _ _ _ t s.conds rfl (by omega) r2 HR2.out W (HLA.out.below h.below)
  obtain ⟨d0, d1, d2, d3, _, _, _, _⟩ := HI0.out.box.four
  go_cut [] from 21 to 28 (fun wc => Asks w w2 wc true true false (!r2))
  case first =>
    go_region_with (first
      | (go_at_call 39; refine (thread_b t _ HT.out _).mono ?_; rintro e w3 ⟨rfl, hb3⟩; have HI3 : Hid (WI w w1 w2 (hdC true y.oo s.owners.length y.co (some ⟨g, 0, none⟩) s.conds.length y.cc y.oh s.chans.length y.ch) true true w3 _ _) := (by first | with_reducible exact Lib.hid (HI0.out.under hb3) | with_reducible exact Lib.hid (HI4.out.under hb3) | with_reducible exact Lib.hid ((HI4.out.set3 hz2 hne2 _).under hb3)); obtain ⟨a0, a1, a2, a3, f0, f1, f2, f3⟩ := HI3.out.asked.four; obtain ⟨d0, d1, d2, d3, _, _, _, _⟩ := HI3.out.box.four; clear hb3)
      | (go_at_call 51; refine (HWT.out _ _ _ (by first | with_reducible exact HI0.out | with_reducible exact HI3.out | with_reducible exact HI3.out.set2 hz2 hne2 _)).mono ?_; rintro e w4 ⟨rfl, hb4⟩; have HI4 : Hid (WI w w1 w2 (hdC true y.oo s.owners.length y.co (some ⟨g, 0, none⟩) s.conds.length y.cc y.oh s.chans.length y.ch) true true w4 _ _) := (by first | with_reducible exact Lib.hid (HI0.out.under hb4) | with_reducible exact Lib.hid (HI3.out.under hb4) | with_reducible exact Lib.hid ((HI3.out.set2 hz2 hne2 _).under hb4)); obtain ⟨a0, a1, a2, a3, f0, f1, f2, f3⟩ := HI4.out.asked.four; clear hb4))
    all_goals
      go_wp2_with fail
      go_meet
      first
        | exact Asks.fin HI4.out.below HI4.out.asked hz2
        | exact Asks.fin' HI4.out.below HI4.out.asked hz2
        | exact Asks.fin3 HI4.out.below HI4.out.asked hz2
        | exact Asks.fin HI3.out.below HI3.out.asked hz2
        | exact Asks.fin' HI3.out.below HI3.out.asked hz2
        | exact Asks.fin2 HI3.out.below HI3.out.asked hz2
  case rest =>
  have hc := hcut
  obtain ⟨hbc, hac⟩ := hc
  have HBC := Lib.hid hbc
  obtain ⟨a0, a1, a2, a3, f0, f1, f2, f3⟩ := hac.four
  clear hcut hbc hac d0 d1 d2 d3 hne1 hne2 hne3
  go_wp2_with fail
  refine (refused_b 141 (by omega) true true _ _ 2 rfl _).mono ?_
  rintro e w5 ⟨rfl, hb5⟩
  have HB5 := Lib.hid (HBC.out.trans (hb5.mono HBC.out.size))
  clear hb5 a0 a1 a2 a3 f0 f1 f2 f3
  go_wp2_with fail
  go_ret
  exact ⟨rfl, HB5.out⟩

set_option maxRecDepth 100000 in
set_option maxHeartbeats 2000000 in
theorem wait_had (hs : SyncAt w base p s y) (hn : s.conds.length ≤ 1000) (m : Int) (l : List Int) (ho : at_ s.conds m = some l) (t : Int) (hl : l.length ≤ 1000000) (hlm : ∀ l ∈ s.conds, l.length ≤ 1000000) (ht : inB 0 7 t = true) (hm1 : t ∈ s.conds.flatten) :
    Calls Try.prog 25 #[.pointer (some ⟨p, 0, none⟩), .int .i64 m, .int .i64 t] w fun e w' => e = .returned (.int .i64 141) ∧ Below w.heap.size w w' := by
  obtain ⟨h1, h2, h3⟩ := at_some ho
  have HT := Lib.hid ht
  clear ht
  obtain ⟨r2, hr2, hr3⟩ : ∃ r, decide (t ∈ s.conds.flatten) = r ∧ r = true := ⟨_, rfl, decide_eq_true hm1⟩
  subst hr3
  clear hm1
  have HR2 := Lib.hid hr2
  clear hr2
  obtain ⟨g, v, hg, hv, _, _, _⟩ := hs.cond h3 hl
  have HS := Lib.hid hs; have HG := Lib.hid hg; have HVV := Lib.hid hv; have H3 := Lib.hid h3; have HLL := Lib.hid hl
  have e0 : y.oc = some ⟨g, 0, none⟩ := hg
  clear hs h3 ho hg hv hl
  have HLA : Hid (LsAt w (some ⟨g, 0, none⟩) s.conds) := by
    have h9 := HS.out.ls hlm
    rwa [HG.out] at h9
  clear hlm
  go_enter Try.func25, Try.ntmps25
  go_wp2_with fail
  refine (has_b HS.out).mono ?_
  rintro e w1 ⟨rfl, hb1⟩
  have HB1 := Lib.hid hb1
  clear hb1
  go_wp2_with fail
  refine (find_cond_in true _ _ _ g _ _ m h1 h2 (by omega) _).mono ?_
  rintro e w2 ⟨rfl, hb2⟩
  have HB2 := Lib.hid (below_step HB1.out hb2)
  have HBX : Hid (Blk w2 w1.heap.size 76 (hdC true y.oo s.owners.length y.co (some ⟨g, 0, none⟩) s.conds.length y.cc y.oh s.chans.length y.ch)) := (Blk.new w1 76 (hdC true y.oo s.owners.length y.co (some ⟨g, 0, none⟩) s.conds.length y.cc y.oh s.chans.length y.ch)).below hb2 (by simp)
  clear hb2 HB1
  go_wp2_with fail
  have hz2 : w.heap.size ≤ w2.heap.size := HB2.out.size
  have HI0 := Lib.hid (WI.mk (hd := (hdC true y.oo s.owners.length y.co (some ⟨g, 0, none⟩) s.conds.length y.cc y.oh s.chans.length y.ch)) (md := true) (th := true) ((HB2.out.alloc HB2.out.size (.cells #[.bool true, .bool true, .bool false, .bool false] 86)).drew) ((Blk.new w2 86 #[.bool true, .bool true, .bool false, .bool false]).drew) ((HBX.out.alloc (.cells #[.bool true, .bool true, .bool false, .bool false] 86)).drew))
  have hne1 : w1.heap.size < w2.heap.size := HBX.out.lt
  have hne2 : ¬ w1.heap.size = w2.heap.size := by omega
  have hne3 : ¬ w2.heap.size = w1.heap.size := by omega
  have HWT : Hid (∀ W x2 x3, WI w w1 w2 (hdC true y.oo s.owners.length y.co (some ⟨g, 0, none⟩) s.conds.length y.cc y.oh s.chans.length y.ch) true true W x2 x3 → Calls Try.prog 51 #[.agg (hdC true y.oo s.owners.length y.co (some ⟨g, 0, none⟩) s.conds.length y.cc y.oh s.chans.length y.ch), .int .i64 t] W fun e w' => e = .returned (.bool true) ∧ Below W.heap.size W w') := fun W x2 x3 h => waits_b _ _ _ _ _ _ _ _ _ _ t s.conds rfl (by omega) true HR2.out W (HLA.out.below h.below)
  obtain ⟨d0, d1, d2, d3, _, _, _, _⟩ := HI0.out.box.four
  go_cut [] from 21 to 28 (fun wc => Asks w w2 wc true true true (!true))
  case first =>
    go_region_with (first
      | (go_at_call 39; refine (thread_b t _ HT.out _).mono ?_; rintro e w3 ⟨rfl, hb3⟩; have HI3 : Hid (WI w w1 w2 (hdC true y.oo s.owners.length y.co (some ⟨g, 0, none⟩) s.conds.length y.cc y.oh s.chans.length y.ch) true true w3 _ _) := (by first | with_reducible exact Lib.hid (HI0.out.under hb3) | with_reducible exact Lib.hid (HI4.out.under hb3) | with_reducible exact Lib.hid ((HI4.out.set3 hz2 hne2 _).under hb3)); obtain ⟨a0, a1, a2, a3, f0, f1, f2, f3⟩ := HI3.out.asked.four; obtain ⟨d0, d1, d2, d3, _, _, _, _⟩ := HI3.out.box.four; clear hb3)
      | (go_at_call 51; refine (HWT.out _ _ _ (by first | with_reducible exact HI0.out | with_reducible exact HI3.out | with_reducible exact HI3.out.set2 hz2 hne2 _)).mono ?_; rintro e w4 ⟨rfl, hb4⟩; have HI4 : Hid (WI w w1 w2 (hdC true y.oo s.owners.length y.co (some ⟨g, 0, none⟩) s.conds.length y.cc y.oh s.chans.length y.ch) true true w4 _ _) := (by first | with_reducible exact Lib.hid (HI0.out.under hb4) | with_reducible exact Lib.hid (HI3.out.under hb4) | with_reducible exact Lib.hid ((HI3.out.set2 hz2 hne2 _).under hb4)); obtain ⟨a0, a1, a2, a3, f0, f1, f2, f3⟩ := HI4.out.asked.four; clear hb4))
    all_goals
      go_wp2_with fail
      go_meet
      first
        | exact Asks.fin HI4.out.below HI4.out.asked hz2
        | exact Asks.fin' HI4.out.below HI4.out.asked hz2
        | exact Asks.fin3 HI4.out.below HI4.out.asked hz2
        | exact Asks.fin HI3.out.below HI3.out.asked hz2
        | exact Asks.fin' HI3.out.below HI3.out.asked hz2
        | exact Asks.fin2 HI3.out.below HI3.out.asked hz2
  case rest =>
  have hc := hcut
  obtain ⟨hbc, hac⟩ := hc
  have HBC := Lib.hid hbc
  obtain ⟨a0, a1, a2, a3, f0, f1, f2, f3⟩ := hac.four
  clear hcut hbc hac d0 d1 d2 d3 hne1 hne2 hne3
  go_wp2_with fail
  refine (refused_b 141 (by omega) true true _ _ 141 rfl _).mono ?_
  rintro e w5 ⟨rfl, hb5⟩
  have HB5 := Lib.hid (HBC.out.trans (hb5.mono HBC.out.size))
  clear hb5 a0 a1 a2 a3 f0 f1 f2 f3
  go_wp2_with fail
  go_ret
  exact ⟨rfl, HB5.out⟩

set_option maxRecDepth 100000 in
set_option maxHeartbeats 2000000 in
theorem wait_yes (hs : SyncAt w base p s y) (hn : s.conds.length ≤ 1000) (m : Int) (l : List Int) (ho : at_ s.conds m = some l) (t : Int) (hl : l.length ≤ 1000000) (hlm : ∀ l ∈ s.conds, l.length ≤ 1000000) (ht : inB 0 7 t = true) (hm1 : t ∉ s.conds.flatten) :
    Calls Try.prog 25 #[.pointer (some ⟨p, 0, none⟩), .int .i64 m, .int .i64 t] w fun e w' => e = .returned (.int .i64 0) ∧ Aft w w' base p s y { s with conds := s.conds.set m.toNat (l ++ [t]) } := by
  obtain ⟨h1, h2, h3⟩ := at_some ho
  have HT := Lib.hid ht
  clear ht
  obtain ⟨r2, hr2, hr3⟩ : ∃ r, decide (t ∈ s.conds.flatten) = r ∧ r = false := ⟨_, rfl, decide_eq_false hm1⟩
  subst hr3
  clear hm1
  have HR2 := Lib.hid hr2
  clear hr2
  obtain ⟨g, v, hg, hv, _, _, _⟩ := hs.cond h3 hl
  have HS := Lib.hid hs; have HG := Lib.hid hg; have HVV := Lib.hid hv; have H3 := Lib.hid h3; have HLL := Lib.hid hl
  have e0 : y.oc = some ⟨g, 0, none⟩ := hg
  clear hs h3 ho hg hv hl
  have HLA : Hid (LsAt w (some ⟨g, 0, none⟩) s.conds) := by
    have h9 := HS.out.ls hlm
    rwa [HG.out] at h9
  clear hlm
  go_enter Try.func25, Try.ntmps25
  go_wp2_with fail
  refine (has_b HS.out).mono ?_
  rintro e w1 ⟨rfl, hb1⟩
  have HB1 := Lib.hid hb1
  clear hb1
  go_wp2_with fail
  refine (find_cond_in true _ _ _ g _ _ m h1 h2 (by omega) _).mono ?_
  rintro e w2 ⟨rfl, hb2⟩
  have HB2 := Lib.hid (below_step HB1.out hb2)
  have HBX : Hid (Blk w2 w1.heap.size 76 (hdC true y.oo s.owners.length y.co (some ⟨g, 0, none⟩) s.conds.length y.cc y.oh s.chans.length y.ch)) := (Blk.new w1 76 (hdC true y.oo s.owners.length y.co (some ⟨g, 0, none⟩) s.conds.length y.cc y.oh s.chans.length y.ch)).below hb2 (by simp)
  clear hb2 HB1
  go_wp2_with fail
  have hz2 : w.heap.size ≤ w2.heap.size := HB2.out.size
  have HI0 := Lib.hid (WI.mk (hd := (hdC true y.oo s.owners.length y.co (some ⟨g, 0, none⟩) s.conds.length y.cc y.oh s.chans.length y.ch)) (md := true) (th := true) ((HB2.out.alloc HB2.out.size (.cells #[.bool true, .bool true, .bool false, .bool false] 86)).drew) ((Blk.new w2 86 #[.bool true, .bool true, .bool false, .bool false]).drew) ((HBX.out.alloc (.cells #[.bool true, .bool true, .bool false, .bool false] 86)).drew))
  have hne1 : w1.heap.size < w2.heap.size := HBX.out.lt
  have hne2 : ¬ w1.heap.size = w2.heap.size := by omega
  have hne3 : ¬ w2.heap.size = w1.heap.size := by omega
  have HWT : Hid (∀ W x2 x3, WI w w1 w2 (hdC true y.oo s.owners.length y.co (some ⟨g, 0, none⟩) s.conds.length y.cc y.oh s.chans.length y.ch) true true W x2 x3 → Calls Try.prog 51 #[.agg (hdC true y.oo s.owners.length y.co (some ⟨g, 0, none⟩) s.conds.length y.cc y.oh s.chans.length y.ch), .int .i64 t] W fun e w' => e = .returned (.bool false) ∧ Below W.heap.size W w') := fun W x2 x3 h => waits_b _ _ _ _ _ _ _ _ _ _ t s.conds rfl (by omega) false HR2.out W (HLA.out.below h.below)
  obtain ⟨d0, d1, d2, d3, _, _, _, _⟩ := HI0.out.box.four
  go_cut [] from 21 to 28 (fun wc => Asks w w2 wc true true true (!false))
  case first =>
    go_region_with (first
      | (go_at_call 39; refine (thread_b t _ HT.out _).mono ?_; rintro e w3 ⟨rfl, hb3⟩; have HI3 : Hid (WI w w1 w2 (hdC true y.oo s.owners.length y.co (some ⟨g, 0, none⟩) s.conds.length y.cc y.oh s.chans.length y.ch) true true w3 _ _) := (by first | with_reducible exact Lib.hid (HI0.out.under hb3) | with_reducible exact Lib.hid (HI4.out.under hb3) | with_reducible exact Lib.hid ((HI4.out.set3 hz2 hne2 _).under hb3)); obtain ⟨a0, a1, a2, a3, f0, f1, f2, f3⟩ := HI3.out.asked.four; obtain ⟨d0, d1, d2, d3, _, _, _, _⟩ := HI3.out.box.four; clear hb3)
      | (go_at_call 51; refine (HWT.out _ _ _ (by first | with_reducible exact HI0.out | with_reducible exact HI3.out | with_reducible exact HI3.out.set2 hz2 hne2 _)).mono ?_; rintro e w4 ⟨rfl, hb4⟩; have HI4 : Hid (WI w w1 w2 (hdC true y.oo s.owners.length y.co (some ⟨g, 0, none⟩) s.conds.length y.cc y.oh s.chans.length y.ch) true true w4 _ _) := (by first | with_reducible exact Lib.hid (HI0.out.under hb4) | with_reducible exact Lib.hid (HI3.out.under hb4) | with_reducible exact Lib.hid ((HI3.out.set2 hz2 hne2 _).under hb4)); obtain ⟨a0, a1, a2, a3, f0, f1, f2, f3⟩ := HI4.out.asked.four; clear hb4))
    all_goals
      go_wp2_with fail
      go_meet
      first
        | exact Asks.fin HI4.out.below HI4.out.asked hz2
        | exact Asks.fin' HI4.out.below HI4.out.asked hz2
        | exact Asks.fin3 HI4.out.below HI4.out.asked hz2
        | exact Asks.fin HI3.out.below HI3.out.asked hz2
        | exact Asks.fin' HI3.out.below HI3.out.asked hz2
        | exact Asks.fin2 HI3.out.below HI3.out.asked hz2
  case rest =>
  have hc := hcut
  obtain ⟨hbc, hac⟩ := hc
  have HBC := Lib.hid hbc
  obtain ⟨a0, a1, a2, a3, f0, f1, f2, f3⟩ := hac.four
  clear hcut hbc hac d0 d1 d2 d3 hne1 hne2 hne3
  go_wp2_with fail
  refine (refused_b 141 (by omega) true true _ _ 0 rfl _).mono ?_
  rintro e w5 ⟨rfl, hb5⟩
  have HB5 := Lib.hid (HBC.out.trans (hb5.mono HBC.out.size))
  clear hb5 a0 a1 a2 a3 f0 f1 f2 f3
  have hs5 := HS.out.below HB5.out
  have hq5 := hs5.condAt HG.out HVV.out H3.out HLL.out
  have hb9 : base ≤ w5.heap.size := by have := hs5.head.lt; have := hs5.hbase; omega
  have HP := Lib.hid (put_int_step base g m.toNat v l t w5 hb9 hq5)
  have HS5 := Lib.hid hs5
  clear hq5 hs5 hb9
  go_wp2_with fail
  refine HP.out.mono ?_
  rintro e w6 ⟨rfl, v', hst⟩
  have HST := Lib.hid hst
  clear hst
  go_wp2_with fail
  go_ret
  exact ⟨rfl, Aft.wrap HB5.out (Aft.cond HS5.out HG.out HVV.out H3.out HST.out) (Below.refl _ _)⟩

end
end Go.Proofs.Ytdfjbgfdaokjgaa

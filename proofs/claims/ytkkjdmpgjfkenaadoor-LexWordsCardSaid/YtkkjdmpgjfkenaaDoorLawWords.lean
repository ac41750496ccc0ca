/-
  The statement 'LexWords': what one word is, between two others.
-/
import Derived.Test.YtkkjdmpgjfkenaaDoorSame
import Derived.Test.YtkkjdmpgjfkenaaDoorFrame
namespace Go.Proofs.YtkkjdmpgjfkenaaDoor
open Go.RowKit Go.Shelf

set_option maxRecDepth 100000 in
set_option maxHeartbeats 1000000 in
theorem lawWords (s : ByteArray) (_hs : s.size ≤ 281474976710656) (w : World) (hv : ErrVars w) : Calls Tryd.prog 4 #[.string s] w fun e w' => e = .returned (.bool true) ∧ Below w.heap.size w w' := by
  have HW := Lib.hid (fun W h => works_any W h)
  have HV := Lib.hid hv
  have h5 := hv.2.2
  clear hv
  by_cases h : 500 < s.size
  · go_enter Tryd.func4, Tryd.ntmps4
    go_wp2_with fail
    refine (HW.out _ HV.out).mono ?_
    rintro e w1 ⟨rfl, hb⟩
    go_wp2_with fail
    go_ret
    exact ⟨rfl, hb⟩
  · have h' : s.size ≤ 500 := by omega
    obtain ⟨t, ht⟩ : ∃ t : ByteArray, (⟨#[97, 10]⟩ ++ s) ++ ⟨#[32, 98]⟩ = t := ⟨_, rfl⟩
    have hts : t.size = s.size + 4 := by rw [← ht, ByteArray.size_append, ByteArray.size_append]; show 2 + s.size + 2 = _; omega
    have H1 := Lib.hid (fun W hv => (Lex_any t W (by omega) hv).mono fun _ _ h => LexP.out h)
    have H2 := Lib.hid (fun W => (rLex_any t W (by omega)).mono fun _ _ h => LexP.out h)
    have hlen := Nat.le_trans (outL_len (lexF (t.size + 1) t.data.toList (1, 1))) (lexF_len (t.size + 1) t.data.toList (1, 1))
    generalize lexF (t.size + 1) t.data.toList (1, 1) = x at *
    generalize outL x = L at *
    generalize outE x = er at *
    generalize outP x = p at *
    obtain ⟨p1, p2⟩ := p
    have q25 := posEq p1 p2 p1 p2
    have e25 := eqPos
    simp only [beq_self_eq_true, Bool.and_self] at q25
    go_enter Tryd.func4, Tryd.ntmps4
    go_wp2_with fail
    refine (H1.out _ HV.out).mono ?_
    rintro e w1 ⟨hb1, v1, rfl, r1⟩
    go_wp2_with fail
    refine (H2.out _).mono ?_
    rintro e w2 ⟨hb2, v2, rfl, r2⟩
    have hbw := (hb1.alloc hb1.size (.cells #[.int .i64 p1, .int .i64 p2] 25)).trans (hb2.mono (by rw [World.size_alloc]; have := hb1.size; omega))
    have bp := ((Blk.new w1 25 #[.int .i64 p1, .int .i64 p2]).below hb2 (by simp)).alloc (.cells #[.int .i64 p1, .int .i64 p2] 25)
    have bq := Blk.new w2 25 #[.int .i64 p1, .int .i64 p2]
    have hbw2 := hbw.alloc hbw.size (.cells #[.int .i64 p1, .int .i64 p2] 25)
    have HB := Lib.hid hbw2
    have HP := Lib.hid bp; have HQ := Lib.hid bq
    have HS := Lib.hid (same_any L (by omega) v1 v2 _ _ (w2.alloc (.cells #[.int .i64 p1, .int .i64 p2] 25)) ((ownsRow_below (r1.alloc _) hb2 (Nat.le_refl _)).alloc _) (r2.alloc _))
    clear hb1 hb2 hbw r1 r2 hbw2 bp bq
    go_wp2_with fail
    refine HS.out.mono ?_
    rintro e w3 ⟨rfl, hb3⟩
    have bp3 := HP.out.below hb3 HP.out.lt
    have bq3 := HQ.out.below hb3 HQ.out.lt
    have c0 := bp3.cell 0; have c1 := bp3.cell 1; have d0 := bq3.cell 0; have d1 := bq3.cell 1
    clear bp3 bq3
    have HB3 := Lib.hid (HB.out.trans (hb3.mono HB.out.size))
    clear HB hb3
    go_wp2_with (first | (go_at_call 14; refine (num_any _ _).mono ?_; rintro e w' ⟨rfl, rfl⟩))
    refine (HW.out _ (HV.out.below (HB3.out.mono h5))).mono ?_
    rintro e w4 ⟨rfl, hb4⟩
    go_wp2_with fail
    go_ret
    exact ⟨rfl, HB3.out.trans (hb4.mono HB3.out.size)⟩
end Go.Proofs.YtkkjdmpgjfkenaaDoor

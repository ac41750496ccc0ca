/-
  The statement 'LexNames': which texts are names, and which keywords.
-/
import Derived.Test.YtkkjdmpgjfkenaaDoorNames
import Derived.Test.YtkkjdmpgjfkenaaDoorFrame
namespace Go.Proofs.YtkkjdmpgjfkenaaDoor
open Go.RowKit Go.Shelf

set_option maxRecDepth 100000 in
set_option maxHeartbeats 1000000 in
theorem lawNames (s : ByteArray) (_hs : s.size ≤ 281474976710656) (w : World) (hv : ErrVars w) : Calls Tryd.prog 5 #[.string s] w fun e w' => e = .returned (.bool true) ∧ Below w.heap.size w w' := by
  have HW := Lib.hid (fun W h => works_any W h)
  have HV := Lib.hid hv
  have h5 := hv.2.2
  clear hv
  by_cases h : 500 < s.size
  · go_enter Tryd.func5, Tryd.ntmps5
    go_wp2_with fail
    refine (HW.out _ HV.out).mono ?_
    rintro e w1 ⟨rfl, hb⟩
    go_wp2_with fail
    go_ret
    exact ⟨rfl, hb⟩
  · have h' : s.size ≤ 500 := by omega
    have H1 := Lib.hid (fun W => Name_any s (by omega) W)
    have H2 := Lib.hid (fun W => rName_any s (by omega) W)
    have H3 := Lib.hid (fun W => Keyword_any s (by unfold maxLen; omega) W)
    have H4 := Lib.hid (fun W => rKeyword_any s W)
    generalize nameB s.data.toList = x at *
    generalize decide (s.data.toList ∈ kwL) = y at *
    cases x <;> cases y
    all_goals
      go_enter Tryd.func5, Tryd.ntmps5
      go_wp2_with fail
      refine (H1.out _).mono ?_
      rintro e w1 ⟨rfl, hb1⟩
      go_wp2_with fail
      refine (H2.out _).mono ?_
      rintro e w2 ⟨rfl, hb2⟩
      go_wp2_with fail
      refine (H3.out _).mono ?_
      rintro e w3 ⟨rfl, hb3⟩
      go_wp2_with fail
      refine (H4.out _).mono ?_
      rintro e w4 ⟨rfl, hb4⟩
      have b2 := hb1.trans (hb2.mono hb1.size)
      have b3 := b2.trans (hb3.mono b2.size)
      have b4 := b3.trans (hb4.mono b3.size)
      have HB := Lib.hid b4
      clear hb1 hb2 hb3 hb4 b2 b3 b4
      go_wp2_with fail
      refine (HW.out _ (HV.out.below (HB.out.mono h5))).mono ?_
      rintro e w5 ⟨rfl, hb5⟩
      go_wp2_with fail
      go_ret
      exact ⟨rfl, HB.out.trans (hb5.mono HB.out.size)⟩
end Go.Proofs.YtkkjdmpgjfkenaaDoor

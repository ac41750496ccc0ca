/-
  The statement 'LexEnds': where a text ends.
-/
import Derived.Test.YtkkjdmpgjfkenaaDoorFrame
import Derived.Test.YtkkjdmpgjfkenaaDoorCards
import Derived.Test.YtkkjdmpgjfkenaaDoorTie
namespace Go.Proofs.YtkkjdmpgjfkenaaDoor
open Go.RowKit Go.Shelf

set_option maxRecDepth 100000 in
set_option maxHeartbeats 1000000 in
theorem lawEnds (s : ByteArray) (hs : s.size ≤ 281474976710656) (w : World) (hv : ErrVars w) : Calls Tryd.prog 6 #[.string s] w fun e w' => e = .returned (.bool true) ∧ Below w.heap.size w w' := by
  have HW := Lib.hid (fun W h => works_any W h)
  have HV := Lib.hid hv
  have h5 := hv.2.2
  clear hv
  by_cases h : 4000 < s.size
  · go_enter Tryd.func6, Tryd.ntmps6
    go_wp2_with fail
    refine (HW.out _ HV.out).mono ?_
    rintro e w1 ⟨rfl, hb⟩
    go_wp2_with fail
    go_ret
    exact ⟨rfl, hb⟩
  · have h' : s.size ≤ 4000 := by omega
    have H1 := Lib.hid (fun W => End_any s (by omega) W)
    have H2 := Lib.hid (fun W => rEnd_any s (by omega) W)
    generalize advsI (1, 1) s.data.toList = q at *
    obtain ⟨q1, q2⟩ := q
    have hq := posEq q1 q2 q1 q2
    have e25 := eqPos
    simp only [beq_self_eq_true, Bool.and_self] at hq
    go_enter Tryd.func6, Tryd.ntmps6
    go_wp2_with fail
    refine (H1.out _).mono ?_
    rintro e w1 ⟨rfl, hb1⟩
    dsimp only [posV]
    go_wp2_with fail
    refine (H2.out _).mono ?_
    rintro e w2 ⟨rfl, hb2⟩
    have hbw := hb1.trans (hb2.mono hb1.size)
    have HB := Lib.hid hbw
    clear hb1 hb2 hbw
    dsimp only [posV]
    go_wp2_with fail
    refine (HW.out _ (HV.out.below (HB.out.mono h5))).mono ?_
    rintro e w3 ⟨rfl, hb3⟩
    go_wp2_with fail
    go_ret
    exact ⟨rfl, HB.out.trans (hb3.mono HB.out.size)⟩
end Go.Proofs.YtkkjdmpgjfkenaaDoor

/-
  Names and keywords, by definition.
-/
import Derived.Test.YtkkjdmpgjfkenaaDoorWorks
namespace Go.Proofs.YtkkjdmpgjfkenaaDoor
open Go.RowKit Go.Maps Go.WideMaps Go.Shelf

/-- The signs as the answer has them: longer ones ahead. -/
def sgR : List ByteArray := [⟨#[61, 61]⟩, ⟨#[33, 61]⟩, ⟨#[60, 61]⟩, ⟨#[38, 38]⟩, ⟨#[124, 124]⟩, ⟨#[59]⟩, ⟨#[40]⟩, ⟨#[41]⟩, ⟨#[123]⟩, ⟨#[125]⟩, ⟨#[91]⟩, ⟨#[93]⟩, ⟨#[61]⟩, ⟨#[60]⟩, ⟨#[43]⟩, ⟨#[45]⟩, ⟨#[42]⟩, ⟨#[47]⟩, ⟨#[37]⟩, ⟨#[33]⟩]
theorem cells_of_strs' (w : World) (ss : List ByteArray) (t : TypeId) (j : Nat) (x : ByteArray) (hj : ss[j]? = some x) :
    (w.alloc (.cells (ss.map Value.string).toArray t)).cell? ⟨w.heap.size, j, none⟩ = some (.string x) := by
  rw [cell_of_row _ w.heap.size j (ss.map Value.string).toArray t (0, 0) (heap_alloc_new w _)]
  simp [hj]
theorem rWords_any (w : World) : Calls Tryd.prog 21 #[] w fun e w' => e = .returned (.slice (some ⟨w.heap.size, 0, none⟩) 20 20) ∧ w.alloc (.cells (kwB.map Value.string).toArray 9) = w' := by
  go_enter Tryd.func21, Tryd.ntmps21
  go_wp2
  go_ret
  exact ⟨rfl, rfl⟩
theorem rsigns_any (w : World) : Calls Tryd.prog 44 #[] w fun e w' => e = .returned (.slice (some ⟨w.heap.size, 0, none⟩) 20 20) ∧ w.alloc (.cells (sgR.map Value.string).toArray 9) = w' := by
  go_enter Tryd.func44, Tryd.ntmps44
  go_wp2
  go_ret
  exact ⟨rfl, rfl⟩
theorem str_eq (u s : ByteArray) : (u.toList == s.toList) = decide (u.data.toList = s.data.toList) := by
  rw [Lib.toList_data, Lib.toList_data, Bool.eq_iff_iff]
  simp
theorem kwB_len : kwB.length = 20 := rfl

set_option maxHeartbeats 1000000 in
theorem rKeyword_any (s : ByteArray) (w : World) : Calls Tryd.prog 18 #[.string s] w fun e w' => e = .returned (.bool (decide (s.data.toList ∈ kwL))) ∧ Below w.heap.size w w' := by
  obtain ⟨x, hx⟩ : ∃ x, decide (s.data.toList ∈ kwL) = x := ⟨_, rfl⟩
  rw [hx]
  have HX := Lib.hid hx
  clear hx
  have HC := Lib.hid (fun j x h => cells_of_strs' w kwB 9 j x h)
  go_enter Tryd.func18, Tryd.ntmps18
  go_wp2_with fail
  refine (rWords_any _).mono ?_
  rintro e w1 ⟨rfl, hw1⟩
  have hb : Below w.heap.size w w1 := by rw [← hw1]; exact (Below.refl _ w).alloc (Nat.le_refl _) _
  have HC1 : Hid (∀ j x, kwB[j]? = some x → w1.cell? ⟨w.heap.size, j, none⟩ = some (.string x)) := by rw [← hw1]; exact HC.out
  clear hw1 HC
  go_wp2_with fail
  go_loop [4] (fun n => ∃ k : Nat, k ≤ 20 ∧ n = .int .i64 k ∧ Hid (∀ j y, j < k → kwB[j]? = some y → y.data.toList ≠ s.data.toList)) (fun n => 20 - (intOf n).toNat)
  case atStart => exact ⟨0, by omega, rfl, fun j y h => by omega⟩
  case round =>
    obtain ⟨k, hk, rfl, hno⟩ := hrel
    by_cases hlt : k < 20
    · have hg : kwB[k]? = some (kwB[k]'(by rw [kwB_len]; exact hlt)) := List.getElem?_eq_getElem _
      have hc := HC1.out k _ hg
      have HG := Lib.hid hg
      clear hg
      generalize kwB[k]'(by rw [kwB_len]; exact hlt) = u at *
      by_cases he : u.data.toList = s.data.toList
      · have h1 : (u.toList == s.toList) = true := by rw [str_eq]; simp [he]
        obtain rfl : x = true := by
          rw [← HX.out, decide_eq_true_eq, ← kw_list]
          exact List.mem_map.2 ⟨u, List.mem_of_getElem? HG.out, he⟩
        clear he
        go_wp2_with fail
        go_ret
        exact ⟨rfl, hb⟩
      · have h1 : (u.toList == s.toList) = false := by rw [str_eq]; simp [he]
        have HE := Lib.hid he
        clear he
        go_wp2_with fail
        go_round
        case rel =>
          refine ⟨k + 1, by omega, by go_num, fun j y hj hy => ?_⟩
          by_cases e : j = k
          · subst e
            have := HG.out
            rw [hy] at this
            injection this with this
            rw [this]
            exact HE.out
          · exact hno.out j y (by omega) hy
        case measure => simp [intOf]; omega
    · obtain rfl : k = 20 := by omega
      obtain rfl : x = false := by
        rw [← HX.out, decide_eq_false_iff_not, ← kw_list]
        intro h
        obtain ⟨y, hy, he⟩ := List.mem_map.1 h
        obtain ⟨j, hj⟩ := List.getElem?_of_mem hy
        exact hno.out j y (by have := (List.getElem?_eq_some_iff.1 hj).1; rw [kwB_len] at this; exact this) hj he
      go_wp2_with fail
      go_ret
      exact ⟨rfl, hb⟩

theorem Keyword_any (s : ByteArray) (hs : s.size ≤ maxLen) (w : World) : Calls Tryd.prog 17 #[.string s] w fun e w' => e = .returned (.bool (decide (s.data.toList ∈ kwL))) ∧ Below w.heap.size w w' := by
  obtain ⟨x, hx⟩ : ∃ x, decide (s.data.toList ∈ kwL) = x := ⟨_, rfl⟩
  rw [hx]
  have H2 := Lib.hid (fun b W h => kwHas_any s b x hx W hs h)
  clear hx
  go_enter Tryd.func17, Tryd.ntmps17
  go_wp2_with fail
  refine (keywords_any _).mono ?_
  rintro e w1 ⟨rfl, h1, h2⟩
  have HM := Lib.hid h1
  clear h1
  go_wp2_with fail
  refine (H2.out _ _ HM.out).mono ?_
  rintro e w2 ⟨rfl, h3⟩
  go_wp2_with fail
  go_ret
  exact ⟨rfl, h2.trans (h3.mono h2.size)⟩
end Go.Proofs.YtkkjdmpgjfkenaaDoor

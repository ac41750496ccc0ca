/-
  'at': where a place lies in a text.
-/
import Derived.Test.YtkkjdmpgjfkenaaDoorASpec
namespace Go.Proofs.YtkkjdmpgjfkenaaDoor
open Go.RowKit Go.Maps Go.WideMaps Go.Shelf

set_option maxHeartbeats 1000000 in
theorem at_any (s : ByteArray) (hs : s.size ≤ 1000000) (q : Nat) (hq : q < s.size) (p1 p2 : Int) (hp : (p1, p2) = advsI (1, 1) (s.data.toList.take q)) (w : World) :
    Calls Tryd.prog 22 #[.string s, .agg #[.int .i64 p1, .int .i64 p2]] w fun e w' => e = .returned (.int .i64 q) ∧ Below w.heap.size w w' := by
  have HN : Hid (∀ i, i < q → advsI (1, 1) (s.data.toList.take i) ≠ (p1, p2)) := Lib.hid (fun i hi => by rw [hp]; exact advs_ne _ q i hi (by rw [size_list]; omega))
  have HQ := Lib.hid hp
  clear hp
  go_enter Tryd.func22, Tryd.ntmps22
  go_wp2_with fail
  go_loop [5, 6, 7] (fun a b n => ∃ k : Nat, k ≤ q ∧ n = .int .i64 k ∧ a = .int .i64 (advsI (1, 1) (s.data.toList.take k)).1 ∧ b = .int .i64 (advsI (1, 1) (s.data.toList.take k)).2) (fun _ _ n => q - (intOf n).toNat)
  case atStart => exact ⟨0, Nat.zero_le _, rfl, rfl, rfl⟩
  case round =>
    obtain ⟨k, hk, rfl, rfl, rfl⟩ := hrel
    have hbd := advsI_bd (s.data.toList.take k) (1, 1) (by simp)
    have hlk : (s.data.toList.take k).length = k := by rw [List.length_take, size_list]; omega
    rw [hlk] at hbd
    clear hlk
    have hks : k < s.size := by omega
    by_cases hkq : k = q
    · subst hkq
      rw [← HQ.out] at *
      have e1 : (p1 == p1) = true := by simp
      have e2 : (p2 == p2) = true := by simp
      go_wp2_with fail
      go_ret
      exact ⟨rfl, (Below.refl _ w).alloc (Nat.le_refl _) _⟩
    · have hne := HN.out k (by omega)
      have HS : Hid (advsI (1, 1) (s.data.toList.take (k + 1)) = advI (advsI (1, 1) (s.data.toList.take k)) s[k]) := by rw [take_snoc' s k hks]; exact advsI_snoc _ _ _
      generalize advsI (1, 1) (s.data.toList.take k) = a at *
      obtain ⟨a1, a2⟩ := a
      simp only at hbd
      have hc : (a1 == p1) = false ∨ ((a1 == p1) = true ∧ (a2 == p2) = false) := by
        by_cases h1 : a1 = p1
        · right
          refine ⟨by simp [h1], ?_⟩
          rw [beq_eq_false_iff_ne]
          intro h2
          exact hne (by rw [h1, h2])
        · left
          rw [beq_eq_false_iff_ne]
          exact h1
      clear hne
      by_cases hn : s[k].toNat = 10
      · have hn1 : ((s[k].toNat : Int) == 10) = true := by rw [hn]; rfl
        have HN' := Lib.hid hn
        clear hn
        rcases hc with e1 | ⟨e1, e2⟩
        all_goals
          go_wp2_with fail
          go_round
          case rel =>
            refine ⟨k + 1, by omega, by go_num, ?_, ?_⟩
            · rw [HS.out, advI, if_pos HN'.out]
            · rw [HS.out, advI, if_pos HN'.out]
          case measure => simp [intOf]; omega
      · have hn1 : ((s[k].toNat : Int) == 10) = false := by rw [beq_eq_false_iff_ne]; omega
        have HN' := Lib.hid hn
        clear hn
        rcases hc with e1 | ⟨e1, e2⟩
        all_goals
          go_wp2_with fail
          go_round
          case rel =>
            refine ⟨k + 1, by omega, by go_num, ?_, ?_⟩
            · rw [HS.out, advI, if_neg HN'.out]
            · rw [HS.out, advI, if_neg HN'.out]
          case measure => simp [intOf]; omega
end Go.Proofs.YtkkjdmpgjfkenaaDoor

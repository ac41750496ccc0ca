/-
  The small functions of layer 4: bounds of numbers, what is refused, what an object has, how one of a number is found.
-/
import Derived.Test.YtdfjbgfdaokjgaaBase
import Derived.RegionTactic
import Derived.ChangeAlike
namespace Go.Proofs.Ytdfjbgfdaokjgaa
open Go.RowKit

def inB (lo hi z : Int) : Bool := decide (lo ≤ z) && decide (z ≤ hi)
theorem inB_of {lo hi z : Int} (h1 : lo ≤ z) (h2 : z ≤ hi) : inB lo hi z = true := by simp [inB, h1, h2]
theorem inB_lt {lo hi z : Int} (h : z < lo) : inB lo hi z = false := by simp [inB]; omega
theorem inB_gt {lo hi z : Int} (h : hi < z) : inB lo hi z = false := by simp [inB]; omega

theorem ret_bool {a b : Bool} (h : a = b) : Ending.returned (.bool a) = .returned (.bool b) := by rw [h]
theorem ret_int {a b : Int} (h : a = b) : Ending.returned (.int .i64 a) = .returned (.int .i64 b) := by rw [h]

theorem num_any (b : Int) (w : World) : Calls Try.prog 23 #[.int .i64 b] w fun e w' => e = .returned (.int .i64 b) ∧ w = w' := by
  go_enter Try.func23, Try.ntmps23
  go_wp2
  go_ret
  exact ⟨rfl, rfl⟩

theorem all_snoc (p : Int → Bool) (zs : List Int) (k : Nat) (z : Int) (h : zs[k]? = some z) : (zs.take (k + 1)).all p = ((zs.take k).all p && p z) := by
  rw [List.take_add_one, h]; simp
theorem all_false (p : Int → Bool) (zs : List Int) (k : Nat) (z : Int) (h : zs[k]? = some z) (hp : p z = false) : zs.all p = false := by
  rw [List.all_eq_false]
  exact ⟨z, List.mem_of_getElem? h, by simp [hp]⟩

set_option maxHeartbeats 1000000 in
theorem within_any (lo hi : Int) (o : Option Addr) (n c g off : Nat) (zs : List Int) (w : World) (hn : zs.length = n) (hm : n ≤ 1000000) (ho : 0 < n → o = some ⟨g, off, none⟩)
    (hc : ∀ j z, zs[j]? = some z → w.cell? ⟨g, off + j, none⟩ = some (.int .i64 z)) :
    Calls Try.prog 34 #[.int .i64 lo, .int .i64 hi, .slice o n c] w fun e w' => e = .returned (.bool (zs.all (inB lo hi))) ∧ w = w' := by
  have HO := Lib.hid ho
  have HC := Lib.hid hc
  have HN := Lib.hid hn
  clear ho hc hn
  go_enter Try.func34, Try.ntmps34
  go_wp2_with fail
  go_loop [8, 11] (fun _ i => ∃ k : Nat, k ≤ n ∧ i = .int .i64 k ∧ Hid ((zs.take k).all (inB lo hi) = true)) (fun _ i => n - (intOf i).toNat)
  case atStart => exact ⟨0, Nat.zero_le _, rfl, Lib.hid (by simp)⟩
  case round =>
    obtain ⟨k, hk, rfl, HA⟩ := hrel
    by_cases hlt : k < n
    · obtain ⟨z, hz⟩ : ∃ z, zs[k]? = some z := ⟨_, List.getElem?_eq_getElem (by rw [HN.out]; exact hlt)⟩
      have hcell := HC.out k z hz
      obtain rfl := HO.out (by omega)
      have HZ := Lib.hid hz
      clear hz
      by_cases h1 : z < lo
      · go_wp2_with fail
        go_ret
        exact ⟨ret_bool (all_false _ _ _ _ HZ.out (inB_lt h1)).symm, rfl⟩
      · by_cases h2 : hi < z
        · go_wp2_with fail
          go_ret
          exact ⟨ret_bool (all_false _ _ _ _ HZ.out (inB_gt h2)).symm, rfl⟩
        · go_wp2_with fail
          go_round
          case rel => exact ⟨k + 1, by omega, by go_num, Lib.hid (by rw [all_snoc _ _ _ _ HZ.out, HA.out, inB_of (by omega) (by omega)]; rfl)⟩
          case measure => simp [intOf]; omega
    · obtain rfl : k = n := by omega
      go_wp2_with fail
      go_ret
      exact ⟨ret_bool (by have := HA.out; rw [← HN.out, List.take_length] at this; exact this.symm), rfl⟩

set_option maxHeartbeats 1000000 in
theorem within64_any (lo hi : Int) (o : Option Addr) (n c g off : Nat) (zs : List Int) (w : World) (hn : zs.length = n) (hm : n ≤ 1000000) (ho : 0 < n → o = some ⟨g, off, none⟩)
    (hc : ∀ j z, zs[j]? = some z → w.cell? ⟨g, off + j, none⟩ = some (.int .i64 z)) :
    Calls Try.prog 69 #[.int .i64 lo, .int .i64 hi, .slice o n c] w fun e w' => e = .returned (.bool (zs.all (inB lo hi))) ∧ w = w' := by
  have HO := Lib.hid ho
  have HC := Lib.hid hc
  have HN := Lib.hid hn
  clear ho hc hn
  go_enter Try.func69, Try.ntmps69
  go_wp2_with fail
  go_loop [8, 11] (fun _ i => ∃ k : Nat, k ≤ n ∧ i = .int .i64 k ∧ Hid ((zs.take k).all (inB lo hi) = true)) (fun _ i => n - (intOf i).toNat)
  case atStart => exact ⟨0, Nat.zero_le _, rfl, Lib.hid (by simp)⟩
  case round =>
    obtain ⟨k, hk, rfl, HA⟩ := hrel
    by_cases hlt : k < n
    · obtain ⟨z, hz⟩ : ∃ z, zs[k]? = some z := ⟨_, List.getElem?_eq_getElem (by rw [HN.out]; exact hlt)⟩
      have hcell := HC.out k z hz
      obtain rfl := HO.out (by omega)
      have HZ := Lib.hid hz
      clear hz
      by_cases h1 : z < lo
      · go_wp2_with fail
        go_ret
        exact ⟨ret_bool (all_false _ _ _ _ HZ.out (inB_lt h1)).symm, rfl⟩
      · by_cases h2 : hi < z
        · go_wp2_with fail
          go_ret
          exact ⟨ret_bool (all_false _ _ _ _ HZ.out (inB_gt h2)).symm, rfl⟩
        · go_wp2_with fail
          go_round
          case rel => exact ⟨k + 1, by omega, by go_num, Lib.hid (by rw [all_snoc _ _ _ _ HZ.out, HA.out, inB_of (by omega) (by omega)]; rfl)⟩
          case measure => simp [intOf]; omega
    · obtain rfl : k = n := by omega
      go_wp2_with fail
      go_ret
      exact ⟨ret_bool (by have := HA.out; rw [← HN.out, List.take_length] at this; exact this.symm), rfl⟩

/-- One number, in a block. -/
theorem within_one (lo hi z : Int) (B : Nat) (W : World) (hb : Blk W B 3 #[.int .i64 z]) :
    Calls Try.prog 34 #[.int .i64 lo, .int .i64 hi, .slice (some ⟨B, 0, none⟩) 1 1] W fun e w' => e = .returned (.bool (inB lo hi z)) ∧ W = w' :=
  (within_any lo hi _ 1 1 B 0 [z] _ rfl (by omega) (fun _ => rfl) (fun j x hj => by
    cases j with
    | zero => simp at hj; subst hj; exact hb.cell 0
    | succ j => simp at hj)).mono fun _ _ ⟨h1, h2⟩ => ⟨by simpa using h1, h2⟩
theorem within64_one (lo hi z : Int) (B : Nat) (W : World) (hb : Blk W B 2 #[.int .i64 z]) :
    Calls Try.prog 69 #[.int .i64 lo, .int .i64 hi, .slice (some ⟨B, 0, none⟩) 1 1] W fun e w' => e = .returned (.bool (inB lo hi z)) ∧ W = w' :=
  (within64_any lo hi _ 1 1 B 0 [z] _ rfl (by omega) (fun _ => rfl) (fun j x hj => by
    cases j with
    | zero => simp at hj; subst hj; exact hb.cell 0
    | succ j => simp at hj)).mono fun _ _ ⟨h1, h2⟩ => ⟨by simpa using h1, h2⟩

theorem thread_any (t : Int) (w : World) : Calls Try.prog 39 #[.int .i64 t] w fun e w' => e = .returned (.bool (inB 0 7 t)) ∧ w.alloc (.cells #[.int .i64 t] 3) = w' := by
  have H := within_one 0 7 t _ _ (Blk.new w 3 #[.int .i64 t])
  go_enter Try.func39, Try.ntmps39
  go_wp2_with fail
  refine H.mono ?_
  rintro e w' ⟨rfl, rfl⟩
  go_wp2_with fail
  go_ret
  exact ⟨rfl, rfl⟩
theorem value_any (t : Int) (w : World) : Calls Try.prog 46 #[.int .i64 t] w fun e w' => e = .returned (.bool (inB (-2147483648) 2147483647 t)) ∧ w.alloc (.cells #[.int .i64 t] 2) = w' := by
  have H := within64_one (-2147483648) 2147483647 t _ _ (Blk.new w 2 #[.int .i64 t])
  go_enter Try.func46, Try.ntmps46
  go_wp2_with fail
  refine H.mono ?_
  rintro e w' ⟨rfl, rfl⟩
  go_wp2_with fail
  go_ret
  exact ⟨rfl, rfl⟩

/-- What is refused: the first error of those up to a last one. -/
def refS (made there fits may : Bool) (last : Int) : Int :=
  if made = false then 1 else if there = false then 4 else if last = 4 then 0 else if fits = false then 2 else if last = 2 then 0 else if may = false then last else 0
set_option maxHeartbeats 1000000 in
theorem refused4 (a b c d : Bool) (w : World) :
    Calls Try.prog 38 #[.agg #[.bool a, .bool b, .bool c, .bool d], .int .i64 4] w fun e w' => e = .returned (.int .i64 (refS a b c d 4)) ∧ w.alloc (.cells #[.bool a, .bool b, .bool c, .bool d] 86) = w' := by
  cases a <;> cases b
  all_goals
    go_enter Try.func38, Try.ntmps38
    go_wp2
    go_ret
    exact ⟨rfl, rfl⟩
set_option maxHeartbeats 1000000 in
theorem refused2 (a b c d : Bool) (w : World) :
    Calls Try.prog 38 #[.agg #[.bool a, .bool b, .bool c, .bool d], .int .i64 2] w fun e w' => e = .returned (.int .i64 (refS a b c d 2)) ∧ w.alloc (.cells #[.bool a, .bool b, .bool c, .bool d] 86) = w' := by
  cases a <;> cases b <;> cases c
  all_goals
    go_enter Try.func38, Try.ntmps38
    go_wp2
    go_ret
    exact ⟨rfl, rfl⟩
set_option maxHeartbeats 1000000 in
theorem refused140 (a b c d : Bool) (w : World) :
    Calls Try.prog 38 #[.agg #[.bool a, .bool b, .bool c, .bool d], .int .i64 140] w fun e w' => e = .returned (.int .i64 (refS a b c d 140)) ∧ w.alloc (.cells #[.bool a, .bool b, .bool c, .bool d] 86) = w' := by
  cases a <;> cases b <;> cases c <;> cases d
  all_goals
    go_enter Try.func38, Try.ntmps38
    go_wp2
    go_ret
    exact ⟨rfl, rfl⟩
set_option maxHeartbeats 1000000 in
theorem refused141 (a b c d : Bool) (w : World) :
    Calls Try.prog 38 #[.agg #[.bool a, .bool b, .bool c, .bool d], .int .i64 141] w fun e w' => e = .returned (.int .i64 (refS a b c d 141)) ∧ w.alloc (.cells #[.bool a, .bool b, .bool c, .bool d] 86) = w' := by
  cases a <;> cases b <;> cases c <;> cases d
  all_goals
    go_enter Try.func38, Try.ntmps38
    go_wp2
    go_ret
    exact ⟨rfl, rfl⟩
end Go.Proofs.Ytdfjbgfdaokjgaa

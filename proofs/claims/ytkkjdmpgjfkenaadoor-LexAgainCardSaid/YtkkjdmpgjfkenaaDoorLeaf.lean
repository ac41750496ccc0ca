/-
  The small functions of layer 1: what letters and digits are.
-/
import Derived.Test.YtkkjdmpgjfkenaaDoorProg
import Derived.WalkKit
import Derived.WalkSpells
import Derived.WalkLawsBesides
import Derived.Outline
import Derived.Lib.Hide
import Derived.Below
namespace Go.Proofs.YtkkjdmpgjfkenaaDoor
open Go.RowKit

def isLet (b : Int) : Bool := decide (97 ≤ b) && decide (b ≤ 122)
def isDig (b : Int) : Bool := decide (48 ≤ b) && decide (b ≤ 57)
def isWd (b : Int) : Bool := isLet b || isDig b

theorem isLetter_any (b : Int) (w : World) : Calls Tryd.prog 26 #[.int .u8 b] w fun e w' => e = .returned (.bool (isLet b)) ∧ w = w' := by
  by_cases h1 : 97 ≤ b <;> by_cases h2 : b ≤ 122
  all_goals
    go_enter Tryd.func26, Tryd.ntmps26
    go_wp2
    all_goals first | (exfalso; omega) | (go_ret; exact ⟨by simp [isLet, h1, h2], rfl⟩)
theorem isDigit_any (b : Int) (w : World) : Calls Tryd.prog 45 #[.int .u8 b] w fun e w' => e = .returned (.bool (isDig b)) ∧ w = w' := by
  by_cases h1 : 48 ≤ b <;> by_cases h2 : b ≤ 57
  all_goals
    go_enter Tryd.func45, Tryd.ntmps45
    go_wp2
    all_goals first | (exfalso; omega) | (go_ret; exact ⟨by simp [isDig, h1, h2], rfl⟩)
theorem letter_any (b : Int) (w : World) : Calls Tryd.prog 30 #[.int .u8 b] w fun e w' => e = .returned (.bool (isLet b)) ∧ w = w' := by
  by_cases h1 : 97 ≤ b <;> by_cases h2 : b ≤ 122
  all_goals
    go_enter Tryd.func30, Tryd.ntmps30
    go_wp2
    all_goals first | (exfalso; omega) | (go_ret; exact ⟨by simp [isLet, h1, h2], rfl⟩)
theorem digit_any (b : Int) (w : World) : Calls Tryd.prog 31 #[.int .u8 b] w fun e w' => e = .returned (.bool (isDig b)) ∧ w = w' := by
  by_cases h1 : 48 ≤ b <;> by_cases h2 : b ≤ 57
  all_goals
    go_enter Tryd.func31, Tryd.ntmps31
    go_wp2
    all_goals first | (exfalso; omega) | (go_ret; exact ⟨by simp [isDig, h1, h2], rfl⟩)

theorem isInWord_any (b : Int) (w : World) : Calls Tryd.prog 29 #[.int .u8 b] w fun e w' => e = .returned (.bool (isWd b)) ∧ w = w' := by
  have hl := isLetter_any b w
  have hd := isDigit_any b w
  have hfin : isWd b = (isLet b || isDig b) := rfl
  have HF := Lib.hid hfin
  clear hfin
  generalize isLet b = x at *
  generalize isDig b = y at *
  have HL := Lib.hid hl
  have HD := Lib.hid hd
  clear hl hd
  cases x
  · go_enter Tryd.func29, Tryd.ntmps29
    go_wp2_with fail
    refine HL.out.mono ?_
    rintro e w' ⟨rfl, rfl⟩
    go_wp2_with fail
    refine HD.out.mono ?_
    rintro e w' ⟨rfl, rfl⟩
    go_wp2_with fail
    go_ret
    exact ⟨by rw [HF.out]; simp, rfl⟩
  · go_enter Tryd.func29, Tryd.ntmps29
    go_wp2_with fail
    refine HL.out.mono ?_
    rintro e w' ⟨rfl, rfl⟩
    go_wp2_with fail
    go_ret
    exact ⟨by rw [HF.out]; simp, rfl⟩

theorem num_any (b : Int) (w : World) : Calls Tryd.prog 14 #[.int .i64 b] w fun e w' => e = .returned (.int .i64 b) ∧ w = w' := by
  go_enter Tryd.func14, Tryd.ntmps14
  go_wp2
  go_ret
  exact ⟨rfl, rfl⟩
theorem skip1_any (b : Int) (w : World) : Calls Tryd.prog 50 #[.int .u8 b] w fun e w' => e = .returned (.bool (b != 10)) ∧ w = w' := by
  go_enter Tryd.func50, Tryd.ntmps50
  go_wp2
  go_ret
  exact ⟨rfl, rfl⟩
theorem end1_any (b : Int) (w : World) : Calls Tryd.prog 34 #[.int .u8 b] w fun e w' => e = .returned (.bool true) ∧ w = w' := by
  go_enter Tryd.func34, Tryd.ntmps34
  go_wp2
  go_ret
  exact ⟨rfl, rfl⟩
/-- 'first(n)''s closure: the counter in its box goes down. -/
theorem first1_any (b n : Int) (B : Nat) (w : World) (hB : w.cell? ⟨B, 0, none⟩ = some (.int .i64 n)) (hf : w.frozen? ⟨B, 0, none⟩ = false) (h1 : -1000000000 ≤ n) (h2 : n ≤ 1000000000) :
    Calls Tryd.prog 59 #[.int .u8 b, .pointer (some ⟨B, 0, none⟩)] w fun e w' => e = .returned (.bool (decide (0 ≤ n - 1))) ∧ w.setCell ⟨B, 0, none⟩ (.int .i64 (n - 1)) = w' := by
  by_cases h : 0 ≤ n - 1
  · have h' : 1 ≤ n := by omega
    go_enter Tryd.func59, Tryd.ntmps59
    go_wp2
    go_ret
    exact ⟨by simp; omega, rfl⟩
  · have h' : ¬ 1 ≤ n := by omega
    have h'' : n ≤ 0 := by omega
    go_enter Tryd.func59, Tryd.ntmps59
    go_wp2
    go_ret
    exact ⟨by simp; omega, rfl⟩
theorem first_any (n : Int) (w : World) :
    Calls Tryd.prog 56 #[.int .i64 n] w fun e w' => e = .returned (.func (.func 59) #[] #[.pointer (some ⟨w.heap.size, 0, none⟩)]) ∧ w.alloc (.cells #[.int .i64 n] 3) = w' := by
  go_enter Tryd.func56, Tryd.ntmps56
  go_wp2
  go_ret
  exact ⟨rfl, rfl⟩
/-- 'begin': the reader at the text's begin. -/
theorem begin_any (s : ByteArray) (w : World) :
    Calls Tryd.prog 27 #[.string s] w fun e w' => e = .returned (.agg #[.int .i64 1, .int .i64 1, .string s, .map none, .map none, .map none]) ∧ w.alloc (.cells #[.int .i64 1, .int .i64 1, .string s, .map none, .map none, .map none] 55) = w' := by
  go_enter Tryd.func27, Tryd.ntmps27
  go_wp2
  exact bodyPost_ret (v := .agg #[.int .i64 1, .int .i64 1, .string s, .map none, .map none, .map none]) (by simp [results, Tryd.results27, go_sem]) rfl ⟨rfl, rfl⟩
end Go.Proofs.YtkkjdmpgjfkenaaDoor

/-
  What digits tell: the walk.
-/
import Derived.Test.YtkkjdmpgjfkenaaDoorRun
namespace Go.Proofs.YtkkjdmpgjfkenaaDoor
open Go.RowKit Go.Maps Go.WideMaps Go.Shelf

theorem okN_digits {u : ByteArray} {k : Nat} (hk : k < u.size) (h : dgB u[k] = false) : okN u.data.toList = false := by
  rw [okN, decide_eq_false_iff_not]
  rintro ⟨h1, _⟩
  have := h1 u[k] (by rw [show u[k] = u.data.toList[k]'(by rw [size_list]; exact hk) from rfl]; exact List.getElem_mem _)
  rw [h] at this
  cases this
theorem okN_long {u : ByteArray} (h : 10 < u.size) : okN u.data.toList = false := by
  rw [okN, decide_eq_false_iff_not]
  rintro ⟨_, h2, _⟩
  rw [size_list] at h2
  omega
theorem head_at (u : ByteArray) (h : 0 < u.size) : u.data.toList.head? = some u[0] := by
  obtain ⟨⟨l⟩⟩ := u
  cases l with
  | nil => exact absurd h (by show ¬ 0 < 0; omega)
  | cons b r => rfl

def NumP (r : Bool) (x : Int) (n : Nat) : Prop := r = true → x = (n : Int)
theorem numP_no (x : Int) (n : Nat) : NumP false x n := fun h => by cases h
theorem below_drewN' (m : Nat) (w : World) (n : Nat) : Below m w (w.drewN n) := ⟨rfl, rfl, rfl, Nat.le_refl _, fun _ _ => rfl⟩
theorem below_drewN (w : World) (n : Nat) : Below w.heap.size w (w.drewN n) := ⟨rfl, rfl, rfl, Nat.le_refl _, fun _ _ => rfl⟩
set_option maxHeartbeats 1000000 in
theorem rnumber_any (u : ByteArray) (h1 : 1 ≤ u.size) (hs : u.size ≤ 1000000) (w : World) :
    Calls Tryd.prog 43 #[.string u] w fun e w' => (∃ x : Int, e = .returned (.tuple #[.int .i64 x, .bool (okN u.data.toList)]) ∧ NumP (okN u.data.toList) x (dv 0 u.data.toList)) ∧ Below w.heap.size w w' := by
  obtain ⟨r, hr⟩ : ∃ r, okN u.data.toList = r := ⟨_, rfl⟩
  rw [hr]
  have HR := Lib.hid hr
  clear hr
  go_enter Tryd.func43, Tryd.ntmps43
  go_wp2_with fail
  go_loop [4, 5] (fun n i => ∃ (k : Nat) (a : Int), k ≤ u.size ∧ k ≤ 10 ∧ i = .int .i64 k ∧ n = .int .i64 a ∧ 0 ≤ a ∧ a ≤ 9999999999 ∧ Hid (a = (dv 0 (u.data.toList.take k) : Nat)) ∧ Hid (∀ j (hj : j < u.size), j < k → dgB u[j] = true)) (fun _ i => u.size - (intOf i).toNat)
  case atStart => exact ⟨0, 0, by omega, by omega, rfl, rfl, by omega, by omega, by rw [List.take_zero, dv_nil]; rfl, fun j _ h => by omega⟩
  case round =>
    obtain ⟨k, a, hk, hk10, rfl, rfl, ha0, ha1, HA, HF⟩ := hrel
    by_cases hlt : k < u.size
    · have HDk := Lib.hid (fun W => digit_any (u[k].toNat : Int) W)
      have hd : isDig (u[k].toNat : Int) = dgB u[k] := rfl
      rw [hd] at HDk
      clear hd
      cases hx : dgB u[k]
      · rw [hx] at HDk
        obtain rfl : r = false := by rw [← HR.out]; exact okN_digits hlt hx
        clear hx
        go_wp2_with fail
        refine (HDk.out _).mono ?_
        rintro e w' ⟨rfl, rfl⟩
        go_wp2_with fail
        exact bodyPost_ret (v := .tuple #[.int .i64 0, .bool false]) (by simp [results, Tryd.results43, go_sem]) rfl ⟨⟨0, rfl, numP_no _ _⟩, Below.refl _ _⟩
      · rw [hx] at HDk
        by_cases hk9 : 9 < k
        · obtain rfl : r = false := by rw [← HR.out]; exact okN_long (by omega)
          clear hx
          go_wp2_with fail
          refine (HDk.out _).mono ?_
          rintro e w' ⟨rfl, rfl⟩
          go_wp2_with fail
          exact bodyPost_ret (v := .tuple #[.int .i64 0, .bool false]) (by simp [results, Tryd.results43, go_sem]) rfl ⟨⟨0, rfl, numP_no _ _⟩, Below.refl _ _⟩
        · have hb : a ≤ 999999999 := by
            have h2 := dv_lt (u.data.toList.take k) 0 (fun c hc => by
              obtain ⟨j, hj, rfl⟩ := List.getElem_of_mem hc
              rw [List.length_take, size_list] at hj
              rw [List.getElem_take]
              exact HF.out j (by omega) (by omega))
            rw [List.length_take, size_list, Nat.min_eq_left (by omega)] at h2
            have h3 : 10 ^ k ≤ 10 ^ 9 := Nat.pow_le_pow_right (by omega) (by omega)
            rw [HA.out]
            omega
          have hdg := (dg_iff _).1 hx
          have HA' : Hid (a * 10 + ((u[k].toNat : Int) - 48) = (dv 0 (u.data.toList.take (k + 1)) : Nat)) := by
            rw [take_snoc' u k hlt, dv_snoc, HA.out]
            have := hdg.1
            have e : ((u[k].toNat - 48 : Nat) : Int) = (u[k].toNat : Int) - 48 := by omega
            rw [← e]
            exact Lib.hid (by push_cast; rfl)
          have HF' : Hid (∀ j (hj : j < u.size), j < k + 1 → dgB u[j] = true) := fun j hj hjk => by
            by_cases e : j = k
            · subst e; exact hx
            · exact HF.out j hj (by omega)
          have hz0 : 48 ≤ (u[k].toNat : Int) := by omega
          have hz1 : (u[k].toNat : Int) ≤ 57 := by omega
          clear hx hdg HA HF
          go_wp2_with fail
          refine (HDk.out _).mono ?_
          rintro e w' ⟨rfl, rfl⟩
          go_wp2_with fail
          go_round
          case rel => exact ⟨k + 1, a * 10 + ((u[k].toNat : Int) - 48), by omega, by omega, by go_num, by go_num, by omega, by omega, HA', HF'⟩
          case measure => simp [intOf]; omega
    · obtain rfl : k = u.size := by omega
      have HA2 : Hid (a = (dv 0 u.data.toList : Nat)) := by
        have := HA.out
        rw [List.take_of_length_le (by rw [size_list]; exact Nat.le_refl _)] at this
        exact this
      have hall : ∀ c ∈ u.data.toList, dgB c = true := fun c hc => by
        obtain ⟨j, hj, rfl⟩ := List.getElem_of_mem hc
        rw [size_list] at hj
        exact HF.out j hj hj
      have hhd := head_at u (by omega)
      have hi0 : 0 < u.size := by omega
      by_cases hm : a ≤ 2147483647
      · have hm' : dv 0 u.data.toList ≤ 2147483647 := by have := HA2.out; omega
        by_cases hone : u.size = 1
        · obtain rfl : r = true := by
            rw [← HR.out, okN, decide_eq_true_eq]
            exact ⟨hall, by rw [size_list]; omega, hm', .inl (by rw [size_list]; exact hone)⟩
          clear hall hhd HA HF hm'
          have g1 : decide (a ≤ 2147483647) = true := decide_eq_true hm
          have g2 : ((u.size : Int) == 1) = true := by rw [hone]; rfl
          go_wp2_with fail
          go_quiet (fail)
          go_wp2_with fail
          exact bodyPost_ret (v := .tuple #[.int .i64 a, .bool true]) (by simp [results, Tryd.results43, go_sem]) rfl ⟨⟨a, rfl, fun _ => HA2.out⟩, below_drewN _ _⟩
        · have g1 : decide (a ≤ 2147483647) = true := decide_eq_true hm
          have g2 : ((u.size : Int) == 1) = false := by rw [beq_eq_false_iff_ne]; omega
          have hlen : u.data.toList.length ≤ 10 := by rw [size_list]; omega
          by_cases h48 : u[0].toNat = 48
          · have g3 : ((u[0].toNat : Int) != 48) = false := by rw [h48]; rfl
            obtain rfl : r = false := by
              rw [← HR.out, okN, decide_eq_false_iff_not]
              rintro ⟨_, _, _, h | h⟩
              · rw [size_list] at h; exact hone h
              · exact h (by rw [hhd]; exact congrArg some (UInt8.toNat_inj.1 h48))
            clear hall hhd HA HF hm' h48
            go_wp2_with fail
            go_quiet (fail)
            go_wp2_with fail
            exact bodyPost_ret (v := .tuple #[.int .i64 a, .bool false]) (by simp [results, Tryd.results43, go_sem]) rfl ⟨⟨a, rfl, fun _ => HA2.out⟩, below_drewN _ _⟩
          · have g3 : ((u[0].toNat : Int) != 48) = true := by rw [bne_iff_ne]; omega
            obtain rfl : r = true := by
              rw [← HR.out, okN, decide_eq_true_eq]
              exact ⟨hall, hlen, hm', .inr (by rw [hhd]; intro e; injection e with e; exact h48 (by rw [e]; rfl))⟩
            clear hall hhd HA HF hm' h48
            go_wp2_with fail
            go_quiet (fail)
            go_wp2_with fail
            exact bodyPost_ret (v := .tuple #[.int .i64 a, .bool true]) (by simp [results, Tryd.results43, go_sem]) rfl ⟨⟨a, rfl, fun _ => HA2.out⟩, below_drewN _ _⟩
      · have g1 : decide (a ≤ 2147483647) = false := decide_eq_false hm
        obtain rfl : r = false := by
          rw [← HR.out, okN, decide_eq_false_iff_not]
          rintro ⟨_, _, h, _⟩
          have := HA2.out
          omega
        clear hall hhd HA HF
        go_wp2_with fail
        go_quiet (fail)
        go_wp2_with fail
        exact bodyPost_ret (v := .tuple #[.int .i64 a, .bool false]) (by simp [results, Tryd.results43, go_sem]) rfl ⟨⟨a, rfl, fun _ => HA2.out⟩, below_drewN _ _⟩
end Go.Proofs.YtkkjdmpgjfkenaaDoor

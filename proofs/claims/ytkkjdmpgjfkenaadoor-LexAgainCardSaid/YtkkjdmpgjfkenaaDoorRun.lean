/-
  How many letters and digits stand there; what digits tell: by definition.
-/
import Derived.Test.YtkkjdmpgjfkenaaDoorNames
import Derived.BigQuiet
namespace Go.Proofs.YtkkjdmpgjfkenaaDoor
open Go.RowKit Go.Maps Go.WideMaps Go.Shelf

theorem spn_at (f : UInt8 → Bool) (s : ByteArray) (p k : Nat) (hk : p + k ≤ s.size) (h : ∀ j (hj : p + j < s.size), j < k → f s[p + j] = true)
    (h2 : ∀ h : p + k < s.size, f s[p + k] = false) : spn f (s.data.toList.drop p) = k := by
  rw [← spanK_spn f _ 0]
  refine spanK_eq _ _ 0 k (fun j hj hjk => ?_) (by rw [List.length_drop, size_list]; omega) (fun hl => ?_)
  · rw [List.length_drop, size_list] at hj
    rw [List.getElem_drop]
    exact h j (by omega) hjk
  · rw [List.length_drop, size_list] at hl
    rw [List.getElem_drop]
    exact h2 (by omega)

set_option maxHeartbeats 1000000 in
theorem run_any (s : ByteArray) (hs : s.size ≤ 1000000) (p : Nat) (hp : p ≤ s.size) (w : World) :
    Calls Tryd.prog 42 #[.string s, .int .i64 p] w fun e w' => e = .returned (.int .i64 (spn wdB (s.data.toList.drop p) : Nat)) ∧ w = w' := by
  obtain ⟨m, hm⟩ : ∃ m, spn wdB (s.data.toList.drop p) = m := ⟨_, rfl⟩
  rw [hm]
  have HM := Lib.hid hm
  clear hm
  go_enter Tryd.func42, Tryd.ntmps42
  go_wp2_with fail
  go_loop [5] (fun n => ∃ k : Nat, p + k ≤ s.size ∧ n = .int .i64 k ∧ Hid (∀ j (hj : p + j < s.size), j < k → wdB s[p + j] = true)) (fun n => s.size - (intOf n).toNat)
  case atStart => exact ⟨0, by omega, rfl, fun j _ h => by omega⟩
  case round =>
    obtain ⟨k, hk, rfl, hfits⟩ := hrel
    obtain ⟨q, hq⟩ : ∃ q, p + k = q := ⟨_, rfl⟩
    have hqi : (p : Int) + (k : Int) = (q : Int) := by omega
    by_cases hlt : q < s.size
    · have HLk := Lib.hid (fun W => letter_any (s[q].toNat : Int) W)
      have HDk := Lib.hid (fun W => digit_any (s[q].toNat : Int) W)
      have hwd : wdB s[q] = (isLet (s[q].toNat : Int) || isDig (s[q].toNat : Int)) := rfl
      have HW := Lib.hid hwd
      clear hwd
      generalize isLet (s[q].toNat : Int) = x at *
      cases x
      · generalize isDig (s[q].toNat : Int) = y at *
        cases y
        · obtain rfl : k = m := by
            rw [← HM.out]
            refine (spn_at wdB s p k hk hfits.out (fun h => ?_)).symm
            subst hq
            exact HW.out
          go_wp2_with fail
          refine (HLk.out _).mono ?_
          rintro e w' ⟨rfl, rfl⟩
          go_wp2_with fail
          refine (HDk.out _).mono ?_
          rintro e w' ⟨rfl, rfl⟩
          go_wp2_with fail
          go_ret
          exact ⟨rfl, rfl⟩
        · have hf : Hid (∀ j (hj : p + j < s.size), j < k + 1 → wdB s[p + j] = true) := fun j hj hjk => by
            by_cases e : j = k
            · subst e; subst hq; exact HW.out
            · exact hfits.out j hj (by omega)
          go_wp2_with fail
          refine (HLk.out _).mono ?_
          rintro e w' ⟨rfl, rfl⟩
          go_wp2_with fail
          refine (HDk.out _).mono ?_
          rintro e w' ⟨rfl, rfl⟩
          go_wp2_with fail
          go_round
          case rel => exact ⟨k + 1, by omega, by go_num, hf⟩
          case measure => simp [intOf]; omega
      · have hf : Hid (∀ j (hj : p + j < s.size), j < k + 1 → wdB s[p + j] = true) := fun j hj hjk => by
          by_cases e : j = k
          · subst e; subst hq; exact HW.out
          · exact hfits.out j hj (by omega)
        go_wp2_with fail
        refine (HLk.out _).mono ?_
        rintro e w' ⟨rfl, rfl⟩
        go_wp2_with fail
        go_round
        case rel => exact ⟨k + 1, by omega, by go_num, hf⟩
        case measure => simp [intOf]; omega
    · obtain rfl : k = m := by
        rw [← HM.out]
        exact (spn_at wdB s p k hk hfits.out (fun h => by omega)).symm
      go_wp2_with fail
      go_ret
      exact ⟨rfl, rfl⟩

def dgB (b : UInt8) : Bool := isDig (b.toNat : Int)
/-- What digits are worth. -/
def dv (acc : Nat) (l : List UInt8) : Nat := l.foldl (fun a c => a * 10 + (c.toNat - 48)) acc
theorem dg_iff (c : UInt8) : dgB c = true ↔ 48 ≤ c.toNat ∧ c.toNat ≤ 57 := by
  simp [dgB, isDig]
  omega
theorem dv_cons (acc : Nat) (c : UInt8) (r : List UInt8) : dv acc (c :: r) = dv (acc * 10 + (c.toNat - 48)) r := by unfold dv; rw [List.foldl_cons]
theorem dv_nil (acc : Nat) : dv acc [] = acc := by unfold dv; rw [List.foldl_nil]
theorem dv_snoc (l : List UInt8) (acc : Nat) (c : UInt8) : dv acc (l ++ [c]) = dv acc l * 10 + (c.toNat - 48) := by
  unfold dv
  rw [List.foldl_append, List.foldl_cons, List.foldl_nil]
theorem dv_lt (l : List UInt8) : ∀ (acc : Nat), (∀ c ∈ l, dgB c = true) → dv acc l < (acc + 1) * 10 ^ l.length := by
  induction l with
  | nil => intro acc _; rw [dv_nil, List.length_nil, Nat.pow_zero]; omega
  | cons b l ih =>
    intro acc h
    have h1 := ih (acc * 10 + (b.toNat - 48)) (fun c hc => h c (List.mem_cons_of_mem _ hc))
    have h2 := (dg_iff b).1 (h b List.mem_cons_self)
    have h3 : (acc * 10 + (b.toNat - 48) + 1) * 10 ^ l.length ≤ ((acc + 1) * 10) * 10 ^ l.length := Nat.mul_le_mul_right _ (by omega)
    have h4 : ((acc + 1) * 10) * 10 ^ l.length = (acc + 1) * 10 ^ (l.length + 1) := by rw [Nat.pow_succ, Nat.mul_assoc, Nat.mul_comm 10]
    rw [dv_cons, List.length_cons]
    omega
theorem dv_ge (l : List UInt8) : ∀ (acc : Nat), acc * 10 ^ l.length ≤ dv acc l := by
  induction l with
  | nil => intro acc; rw [dv_nil, List.length_nil, Nat.pow_zero]; omega
  | cons b l ih =>
    intro acc
    have h1 := ih (acc * 10 + (b.toNat - 48))
    have h3 : (acc * 10) * 10 ^ l.length ≤ (acc * 10 + (b.toNat - 48)) * 10 ^ l.length := Nat.mul_le_mul_right _ (by omega)
    have h4 : (acc * 10) * 10 ^ l.length = acc * 10 ^ (l.length + 1) := by rw [Nat.pow_succ, Nat.mul_assoc, Nat.mul_comm 10]
    rw [dv_cons, List.length_cons]
    omega
theorem parse_of_dv' (M : Nat) (hM : M ≤ 1844674407370955161) (l : List UInt8) : ∀ (acc : Nat), (∀ c ∈ l, dgB c = true) → dv acc l ≤ M → Lib.parseUintM M acc l = .ok (dv acc l) := by
  induction l with
  | nil => intro acc _ _; rw [dv_nil, Lib.parseUintM]
  | cons b l ih =>
    intro acc h hle
    have h2 := (dg_iff b).1 (h b List.mem_cons_self)
    have h7 := dv_cons acc b l
    have h3 : acc * 10 + (b.toNat - 48) ≤ M := by
      have h5 := dv_ge l (acc * 10 + (b.toNat - 48))
      have h6 : (acc * 10 + (b.toNat - 48)) * 1 ≤ (acc * 10 + (b.toNat - 48)) * 10 ^ l.length := Nat.mul_le_mul_left _ (Nat.one_le_pow _ _ (by omega))
      omega
    rw [h7] at hle ⊢
    have ih := ih _ (fun c hc => h c (List.mem_cons_of_mem _ hc)) hle
    unfold Lib.parseUintM
    rw [if_pos h2, if_neg (by omega), if_neg (by omega)]
    exact ih
theorem parse_of_dv (l : List UInt8) (acc : Nat) (h : ∀ c ∈ l, dgB c = true) (hle : dv acc l ≤ 2147483647) : Lib.parseUintM 2147483647 acc l = .ok (dv acc l) :=
  parse_of_dv' _ (by omega) l acc h hle
theorem dv_of_parse (l : List UInt8) : ∀ (acc n : Nat), Lib.parseUintM 2147483647 acc l = .ok n → (∀ c ∈ l, dgB c = true) ∧ n = dv acc l := by
  induction l with
  | nil =>
    intro acc n h
    rw [Lib.parseUintM] at h
    injection h with h
    exact ⟨by simp, by rw [dv_nil, h]⟩
  | cons b l ih =>
    intro acc n h
    rw [Lib.parseUintM] at h
    split at h
    · rename_i hd
      split at h
      · cases h
      · split at h
        · cases h
        · obtain ⟨h1, h2⟩ := ih _ n h
          refine ⟨fun c hc => ?_, by rw [h2, dv_cons]⟩
          rcases List.mem_cons.1 hc with rfl | hc
          · exact (dg_iff c).2 hd
          · exact h1 c hc
    · cases h

/-- Digits that are a number. -/
def okN (l : List UInt8) : Bool := decide ((∀ c ∈ l, dgB c = true) ∧ l.length ≤ 10 ∧ dv 0 l ≤ 2147483647 ∧ (l.length = 1 ∨ l.head? ≠ some 48))

theorem numS_of (l : List UInt8) (h : l.take (spn wdB l) ≠ []) :
    numS l = bif okN (l.take (spn wdB l)) then ⟨2, dv 0 (l.take (spn wdB l)), 0, spn wdB l⟩ else ⟨2, 0, 112, spn wdB l⟩ := by
  obtain ⟨u, hu⟩ : ∃ u, l.take (spn wdB l) = u := ⟨_, rfl⟩
  have hhd : l.head? = u.head? := by
    rw [← hu]
    cases l with
    | nil => simp
    | cons b r =>
      cases hsp : spn wdB (b :: r) with
      | zero => rw [hsp] at h; exact absurd rfl h
      | succ k => rfl
  unfold numS
  rw [hu] at h ⊢
  rw [hhd]
  cases u with
  | nil => exact absurd rfl h
  | cons c r =>
    rcases hp : Lib.parseUintM 2147483647 0 (c :: r) with n | _ | _
    · obtain ⟨h1, h2⟩ := dv_of_parse _ _ _ hp
      have h3 := parse_le _ _ _ _ (by omega) hp
      have hc := (dg_iff c).1 (h1 c List.mem_cons_self)
      by_cases hz : (c :: r).head? = some 48 ∧ c :: r ≠ [48]
      · simp only [if_pos hz]
        have : okN (c :: r) = false := by
          rw [okN, decide_eq_false_iff_not]
          rintro ⟨_, _, _, h4 | h4⟩
          · obtain ⟨h5, h6⟩ := hz
            injection h5 with h5
            simp only [List.length_cons] at h4
            have h7 : r = [] := List.eq_nil_of_length_eq_zero (by omega)
            exact h6 (by rw [h5, h7])
          · exact h4 hz.1
        rw [this]; rfl
      · simp only [if_neg hz]
        have : okN (c :: r) = true := by
          rw [okN, decide_eq_true_eq]
          by_cases h48 : c = 48
          · have : r = [] := by
              by_cases hr : r = []
              · exact hr
              · exact absurd ⟨by rw [h48]; rfl, by rw [h48]; intro e; injection e with _ e; exact hr e⟩ hz
            subst this
            exact ⟨h1, by simp, by omega, .inl rfl⟩
          · refine ⟨h1, ?_, by omega, .inr (by simpa using h48)⟩
            have h5 := dv_ge r (0 * 10 + (c.toNat - 48))
            have h6 : 1 ≤ c.toNat - 48 := by
              have : c.toNat ≠ 48 := fun e => h48 (UInt8.toNat_inj.1 e)
              omega
            have h7 := dv_cons 0 c r
            have h8 : 1 * 10 ^ r.length ≤ (0 * 10 + (c.toNat - 48)) * 10 ^ r.length := Nat.mul_le_mul_right _ (by omega)
            by_cases h9 : r.length ≤ 9
            · simp only [List.length_cons]; omega
            · have h10 : 10 ^ 10 ≤ 10 ^ r.length := Nat.pow_le_pow_right (by omega) (by omega)
              omega
        rw [this, h2]; rfl
    all_goals
      have : okN (c :: r) = false := by
        rw [okN, decide_eq_false_iff_not]
        rintro ⟨h1, _, h3, _⟩
        rw [parse_of_dv _ _ h1 h3] at hp
        cases hp
      rw [this]; rfl
end Go.Proofs.YtkkjdmpgjfkenaaDoor

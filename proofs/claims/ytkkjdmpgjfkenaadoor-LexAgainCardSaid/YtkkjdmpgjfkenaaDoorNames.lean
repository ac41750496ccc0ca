/-
  Which texts are names.
-/
import Derived.Test.YtkkjdmpgjfkenaaDoorRefKw
namespace Go.Proofs.YtkkjdmpgjfkenaaDoor
open Go.RowKit Go.Maps Go.WideMaps Go.Shelf

def nameB (l : List UInt8) : Bool :=
  match l with
  | [] => false
  | b :: _ => decide (l.length ≤ 16) && (isLet (b.toNat : Int) && (!decide (l ∈ kwL) && decide (spn wdB l = l.length)))

theorem off_text (s u : ByteArray) (m : Nat) (hm : m ≤ s.size) (hu : u.data.toList = s.data.toList.take m) : (u.toList == s.toList) = decide (m = s.data.toList.length) := by
  rw [str_eq, hu, size_list]
  rw [Bool.eq_iff_iff, decide_eq_true_eq, decide_eq_true_eq]
  constructor
  · intro h
    have := congrArg List.length h
    rw [List.length_take, size_list] at this
    omega
  · rintro rfl
    rw [List.take_of_length_le (by rw [size_list]; exact Nat.le_refl _)]

set_option maxHeartbeats 1000000 in
theorem Name_any (s : ByteArray) (hs : s.size ≤ 1000000) (w : World) : Calls Tryd.prog 15 #[.string s] w fun e w' => e = .returned (.bool (nameB s.data.toList)) ∧ Below w.heap.size w w' := by
  obtain ⟨r, hr⟩ : ∃ r, nameB s.data.toList = r := ⟨_, rfl⟩
  rw [hr]
  cases hl : s.data.toList with
  | nil =>
    have h0 : s.size = 0 := by rw [← size_list, hl]; rfl
    have hem : s.toList.isEmpty = true := by rw [Lib.toList_data, hl]; rfl
    obtain rfl : r = false := by rw [← hr, hl]; rfl
    clear hr hl h0
    go_enter Tryd.func15, Tryd.ntmps15
    go_wp2_with fail
    go_ret
    exact ⟨rfl, Below.refl _ _⟩
  | cons b0 r0 =>
    have hpos : 0 < s.size := by rw [← size_list, hl]; simp
    have hem : s.toList.isEmpty = false := by rw [Lib.toList_data, hl]; rfl
    have h0b := head_byte s hpos b0 r0 hl
    have hlen := size_list s
    by_cases h16 : 16 < s.size
    · obtain rfl : r = false := by
        rw [← hr, hl]
        have : ¬ (b0 :: r0).length ≤ 16 := by rw [← hl, hlen]; omega
        simp only [nameB, decide_eq_false this, Bool.false_and]
      clear hr hl h0b hlen
      go_enter Tryd.func15, Tryd.ntmps15
      go_wp2_with fail
      go_ret
      exact ⟨rfl, Below.refl _ _⟩
    · have h16' : s.size ≤ 16 := by omega
      have hd16 : decide ((b0 :: r0).length ≤ 16) = true := by rw [decide_eq_true_eq, ← hl, hlen]; exact h16'
      cases hlet : isLet (b0.toNat : Int)
      · have HL : Hid (∀ W, Calls Tryd.prog 26 #[.int .u8 (s[0].toNat : Int)] W fun e w' => e = .returned (.bool false) ∧ W = w') := fun W => by
          have := isLetter_any (s[0].toNat : Int) W
          rw [h0b, hlet, ← h0b] at this
          exact this
        obtain rfl : r = false := by rw [← hr, hl]; simp only [nameB, hlet, Bool.false_and, Bool.and_false]
        clear hr hl h0b hlen hlet hd16
        go_enter Tryd.func15, Tryd.ntmps15
        go_wp2_with fail
        refine (HL.out _).mono ?_
        rintro e w' ⟨rfl, rfl⟩
        go_wp2_with fail
        go_ret
        exact ⟨rfl, Below.refl _ _⟩
      · have HL : Hid (∀ W, Calls Tryd.prog 26 #[.int .u8 (s[0].toNat : Int)] W fun e w' => e = .returned (.bool true) ∧ W = w') := fun W => by
          have := isLetter_any (s[0].toNat : Int) W
          rw [h0b, hlet, ← h0b] at this
          exact this
        have hK := fun W => Keyword_any s (by unfold maxLen; omega) W
        cases hkw : decide (s.data.toList ∈ kwL)
        · rw [hkw] at hK
          have HK := Lib.hid hK
          have hres : r = decide (spn wdB s.data.toList = s.data.toList.length) := by
            rw [← hr, hl]
            rw [hl] at hkw
            simp only [nameB, hd16, hlet, hkw, Bool.true_and, Bool.not_false]
          have hle := spn_le wdB s.data.toList
          rw [size_list] at hle
          have HR := Lib.hid hres
          clear hr hl h0b hlen hlet hd16 hkw hK hres
          go_enter Tryd.func15, Tryd.ntmps15
          go_wp2_with fail
          refine (HL.out _).mono ?_
          rintro e w' ⟨rfl, rfl⟩
          go_wp2_with fail
          refine (HK.out _).mono ?_
          rintro e w1 ⟨rfl, hb1⟩
          go_wp2_with fail
          refine (begin_any s _).mono ?_
          rintro e w2 ⟨rfl, rfl⟩
          go_wp2_with fail
          have hr2 : Rd ((w1.alloc (.cells #[.int .i64 1, .int .i64 1, .string s, .map none, .map none, .map none] 55)).alloc (.cells #[.int .i64 1, .int .i64 1, .string s, .map none, .map none, .map none] 55)) (w1.heap.size + 1) (1, 1) s (.map none) (.map none) (.map none) := by
            have := heap_alloc_new (w1.alloc (.cells #[.int .i64 1, .int .i64 1, .string s, .map none, .map none, .map none] 55)) (.cells #[.int .i64 1, .int .i64 1, .string s, .map none, .map none, .map none] 55)
            rw [World.size_alloc] at this
            exact this
          have hb2 : Below w.heap.size w ((w1.alloc (.cells #[.int .i64 1, .int .i64 1, .string s, .map none, .map none, .map none] 55)).alloc (.cells #[.int .i64 1, .int .i64 1, .string s, .map none, .map none, .map none] 55)) :=
            (hb1.alloc hb1.size _).alloc (by rw [World.size_alloc]; have := hb1.size; omega) _
          have C1 := off_word (w1.heap.size + 1) (1, 1) s _ _ _ _ hr2 (by simp) (by simp) (by simp; omega) (by simp; omega)
          simp only [show (fun (_ : Nat) (b : UInt8) => isWd (b.toNat : Int)) = fun _ => wdB from rfl, spanK_spn] at C1
          refine C1.mono ?_
          rintro e w3 ⟨u, t', rfl, hu, _, _, ho⟩
          have he := off_text s u _ hle hu
          rw [← HR.out] at he
          have z1 := hb1.size
          have hb3 := hb2.trans (ho.below (by rw [World.size_alloc, World.size_alloc]; omega) (fun k hk => by omega))
          clear hu ho C1 hb2 hr2
          go_wp2_with fail
          go_ret
          exact ⟨rfl, hb3⟩
        · rw [hkw] at hK
          have HK := Lib.hid hK
          obtain rfl : r = false := by
            rw [← hr, hl]
            rw [hl] at hkw
            simp only [nameB, hkw, Bool.not_true, Bool.false_and, Bool.and_false]
          clear hr hl h0b hlen hlet hd16 hkw hK
          go_enter Tryd.func15, Tryd.ntmps15
          go_wp2_with fail
          refine (HL.out _).mono ?_
          rintro e w' ⟨rfl, rfl⟩
          go_wp2_with fail
          refine (HK.out _).mono ?_
          rintro e w1 ⟨rfl, hb1⟩
          go_wp2_with fail
          go_ret
          exact ⟨rfl, hb1⟩
set_option maxHeartbeats 1000000 in
theorem rName_any (s : ByteArray) (hs : s.size ≤ 1000000) (w : World) : Calls Tryd.prog 16 #[.string s] w fun e w' => e = .returned (.bool (nameB s.data.toList)) ∧ Below w.heap.size w w' := by
  obtain ⟨r, hr⟩ : ∃ r, nameB s.data.toList = r := ⟨_, rfl⟩
  rw [hr]
  cases hl : s.data.toList with
  | nil =>
    have h0 : s.size = 0 := by rw [← size_list, hl]; rfl
    obtain rfl : r = false := by rw [← hr, hl]; rfl
    clear hr hl
    go_enter Tryd.func16, Tryd.ntmps16
    go_wp2_with fail
    go_ret
    exact ⟨rfl, Below.refl _ _⟩
  | cons b0 r0 =>
    have hpos : 0 < s.size := by rw [← size_list, hl]; simp
    have h0b := head_byte s hpos b0 r0 hl
    have hlen := size_list s
    by_cases h16 : 16 < s.size
    · obtain rfl : r = false := by
        rw [← hr, hl]
        have : ¬ (b0 :: r0).length ≤ 16 := by rw [← hl, hlen]; omega
        simp only [nameB, decide_eq_false this, Bool.false_and]
      clear hr hl h0b hlen
      go_enter Tryd.func16, Tryd.ntmps16
      go_wp2_with fail
      go_ret
      exact ⟨rfl, Below.refl _ _⟩
    · have h16' : s.size ≤ 16 := by omega
      have hd16 : decide ((b0 :: r0).length ≤ 16) = true := by rw [decide_eq_true_eq, ← hl, hlen]; exact h16'
      cases hlet : isLet (b0.toNat : Int)
      · have HL : Hid (∀ W, Calls Tryd.prog 30 #[.int .u8 (s[0].toNat : Int)] W fun e w' => e = .returned (.bool false) ∧ W = w') := fun W => by
          have := letter_any (s[0].toNat : Int) W
          rw [h0b, hlet, ← h0b] at this
          exact this
        obtain rfl : r = false := by rw [← hr, hl]; simp only [nameB, hlet, Bool.false_and, Bool.and_false]
        clear hr hl h0b hlen hlet hd16
        go_enter Tryd.func16, Tryd.ntmps16
        go_wp2_with fail
        refine (HL.out _).mono ?_
        rintro e w' ⟨rfl, rfl⟩
        go_wp2_with fail
        go_ret
        exact ⟨rfl, Below.refl _ _⟩
      · have HL : Hid (∀ W, Calls Tryd.prog 30 #[.int .u8 (s[0].toNat : Int)] W fun e w' => e = .returned (.bool true) ∧ W = w') := fun W => by
          have := letter_any (s[0].toNat : Int) W
          rw [h0b, hlet, ← h0b] at this
          exact this
        have hK := fun W => rKeyword_any s W
        cases hkw : decide (s.data.toList ∈ kwL)
        · rw [hkw] at hK
          have HK := Lib.hid hK
          have hres : r = decide (spn wdB s.data.toList = s.data.toList.length) := by
            rw [← hr, hl]
            rw [hl] at hkw
            simp only [nameB, hd16, hlet, hkw, Bool.true_and, Bool.not_false]
          have HR := Lib.hid hres
          clear hr hl h0b hlen hlet hd16 hkw hK hres
          go_enter Tryd.func16, Tryd.ntmps16
          go_wp2_with fail
          refine (HL.out _).mono ?_
          rintro e w' ⟨rfl, rfl⟩
          go_wp2_with fail
          refine (HK.out _).mono ?_
          rintro e w1 ⟨rfl, hb1⟩
          go_wp2_with fail
          go_loop [3] (fun n => ∃ k : Nat, k ≤ s.size ∧ n = .int .i64 k ∧ Hid (∀ j (h : j < s.data.toList.length), j < k → (fun _ => wdB) (0 + j) s.data.toList[j] = true)) (fun n => s.size - (intOf n).toNat)
          case atStart => exact ⟨0, Nat.zero_le _, rfl, fun j h hj => by omega⟩
          case round =>
            obtain ⟨k, hk, rfl, hfits⟩ := hrel
            by_cases hlt : k < s.size
            · have HLk := Lib.hid (fun W => letter_any (s[k].toNat : Int) W)
              have HDk := Lib.hid (fun W => digit_any (s[k].toNat : Int) W)
              have hwd : wdB s[k] = (isLet (s[k].toNat : Int) || isDig (s[k].toNat : Int)) := rfl
              have HW := Lib.hid hwd
              clear hwd
              generalize isLet (s[k].toNat : Int) = x at *
              cases x
              · generalize isDig (s[k].toNat : Int) = y at *
                cases y
                · obtain rfl : r = false := by
                    rw [HR.out, decide_eq_false_iff_not]
                    have h1 := spanK_at (fun _ => wdB) s k hk hfits.out (fun _ => HW.out)
                    rw [spanK_spn] at h1
                    rw [h1, size_list]
                    omega
                  go_wp2_with fail
                  refine (HLk.out _).mono ?_
                  rintro e w' ⟨rfl, rfl⟩
                  go_wp2_with fail
                  refine (HDk.out _).mono ?_
                  rintro e w' ⟨rfl, rfl⟩
                  go_wp2_with fail
                  go_ret
                  exact ⟨rfl, hb1⟩
                · have hf := fits_succ (fun _ => wdB) s k hlt hfits.out HW.out
                  have HF := Lib.hid hf
                  clear hf
                  go_wp2_with fail
                  refine (HLk.out _).mono ?_
                  rintro e w' ⟨rfl, rfl⟩
                  go_wp2_with fail
                  refine (HDk.out _).mono ?_
                  rintro e w' ⟨rfl, rfl⟩
                  go_wp2_with fail
                  go_round
                  case rel => exact ⟨k + 1, by omega, by go_num, HF⟩
                  case measure => simp [intOf]; omega
              · have hf := fits_succ (fun _ => wdB) s k hlt hfits.out HW.out
                have HF := Lib.hid hf
                clear hf
                go_wp2_with fail
                refine (HLk.out _).mono ?_
                rintro e w' ⟨rfl, rfl⟩
                go_wp2_with fail
                go_round
                case rel => exact ⟨k + 1, by omega, by go_num, HF⟩
                case measure => simp [intOf]; omega
            · obtain rfl : k = s.size := by omega
              obtain rfl : r = true := by
                rw [HR.out, decide_eq_true_eq]
                have h1 := spanK_at (fun _ => wdB) s s.size hk hfits.out (fun h => by omega)
                rw [spanK_spn] at h1
                rw [h1, size_list]
              go_wp2_with fail
              go_ret
              exact ⟨rfl, hb1⟩
        · rw [hkw] at hK
          have HK := Lib.hid hK
          obtain rfl : r = false := by
            rw [← hr, hl]
            rw [hl] at hkw
            simp only [nameB, hkw, Bool.not_true, Bool.false_and, Bool.and_false]
          clear hr hl h0b hlen hlet hd16 hkw hK
          go_enter Tryd.func16, Tryd.ntmps16
          go_wp2_with fail
          refine (HL.out _).mono ?_
          rintro e w' ⟨rfl, rfl⟩
          go_wp2_with fail
          refine (HK.out _).mono ?_
          rintro e w1 ⟨rfl, hb1⟩
          go_wp2_with fail
          go_ret
          exact ⟨rfl, hb1⟩
end Go.Proofs.YtkkjdmpgjfkenaaDoor

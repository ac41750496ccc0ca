/-
  The sign at a place in a text: by definition; and one word, of any text.
-/
import Derived.Test.YtkkjdmpgjfkenaaDoorOne
namespace Go.Proofs.YtkkjdmpgjfkenaaDoor
open Go.RowKit Go.Maps Go.WideMaps Go.Shelf

def sgRL : List (List UInt8) := [[61, 61], [33, 61], [60, 61], [38, 38], [124, 124], [59], [40], [41], [123], [125], [91], [93], [61], [60], [43], [45], [42], [47], [37], [33]]
theorem sgR_map : sgR.map (fun y => y.data.toList) = sgRL := rfl
theorem sgR_get {j : Nat} {y : ByteArray} (h : sgR[j]? = some y) : sgRL[j]? = some y.data.toList := by
  rw [← sgR_map, List.getElem?_map, h]; rfl
theorem sgR_get' {j : Nat} {x : List UInt8} (h : sgRL[j]? = some x) : ∃ y, sgR[j]? = some y ∧ y.data.toList = x := by
  rw [← sgR_map, List.getElem?_map] at h
  cases hy : sgR[j]? with
  | none => rw [hy] at h; cases h
  | some y => rw [hy] at h; injection h with h; exact ⟨y, rfl, h⟩
theorem sgR_in : ∀ x ∈ sgRL, x ∈ sgL := by decide
theorem sgL_in : ∀ x ∈ sgL, x ∈ sgRL := by decide
theorem sgL_two : ∀ x ∈ sgL, x.length = 2 → x ∈ sgRL.take 5 := by decide
theorem sgR_two : ∀ x ∈ sgRL.take 5, x.length = 2 := by decide
theorem sgR_one : ∀ x ∈ sgRL.drop 5, x.length = 1 := by decide
theorem sgR_lens : ∀ x ∈ sgRL, x.length = 1 ∨ x.length = 2 := by decide

theorem sgn_hit (l : List UInt8) (k : Nat) (x : List UInt8) (hx : sgRL[k]? = some x) (ht : l.take x.length = x) (hno : ∀ j y, j < k → sgRL[j]? = some y → l.take y.length ≠ y) :
    sgn (min 2 l.length) l = x.length := by
  have hin : x ∈ sgL := sgR_in _ (List.mem_of_getElem? hx)
  have hlen : x.length ≤ l.length := by
    have := congrArg List.length ht
    rw [List.length_take] at this
    omega
  by_cases hk : k < 5
  · have h2 : x.length = 2 := sgR_two x (List.mem_of_getElem? (i := k) (by rw [List.getElem?_take, if_pos hk]; exact hx))
    rw [show min 2 l.length = 2 by omega, sgn]
    rw [h2] at ht
    rw [ht, decide_eq_true hin, h2]; rfl
  · have h1 : x.length = 1 := sgR_one x (List.mem_of_getElem? (i := k - 5) (by rw [List.getElem?_drop, show 5 + (k - 5) = k by omega]; exact hx))
    have hs1 : sgn 1 l = 1 := by
      rw [sgn]
      rw [h1] at ht
      rw [show 0 + 1 = 1 from rfl, ht, decide_eq_true hin]; rfl
    by_cases hl : l.length = 1
    · rw [hl, h1]; exact hs1
    · rw [show min 2 l.length = 2 by omega, sgn]
      have : ¬ (l.take (1 + 1) ∈ sgL) := fun h => by
        have hl2 : (l.take (1 + 1)).length = 2 := by rw [List.length_take]; omega
        have h5 := sgL_two _ h hl2
        obtain ⟨j, hj⟩ := List.getElem?_of_mem h5
        rw [List.getElem?_take] at hj
        split at hj
        · rename_i hj5
          exact hno j _ (by omega) hj (by rw [hl2])
        · cases hj
      rw [decide_eq_false this, h1]
      exact hs1
theorem sgn_none (l : List UInt8) (hno : ∀ (j : Nat) (y : List UInt8), sgRL[j]? = some y → l.take y.length ≠ y) : ∀ m, m ≤ l.length → sgn m l = 0
  | 0, _ => rfl
  | m + 1, h => by
    rw [sgn]
    have : ¬ (l.take (m + 1) ∈ sgL) := fun hm => by
      obtain ⟨j, hj⟩ := List.getElem?_of_mem (sgL_in _ hm)
      exact hno j _ hj (by rw [List.length_take, Nat.min_eq_left h])
    rw [decide_eq_false this]
    exact sgn_none l hno m (by omega)
theorem sgR_len : sgR.length = 20 := rfl

set_option maxHeartbeats 1000000 in
theorem one_sign (s : ByteArray) (hs : s.size ≤ 1000000) (p : Nat) (hp : p < s.size) (hl0 : isLet (s[p].toNat : Int) = false) (hd0 : isDig (s[p].toNat : Int) = false) (w : World) :
    Calls Tryd.prog 25 #[.string s, .int .i64 p] w (OneP (s.data.toList.drop p) w) := by
  obtain ⟨r0, hr0⟩ := drop_at s p hp
  have hnum : wordS (s.data.toList.drop p) = signS (s.data.toList.drop p) := by
    rw [wordS, hr0]; simp [hd0, hl0]
  have h0 : spn wdB (s.data.toList.drop p) = 0 := by rw [hr0, spn]; simp [wdB, isWd, hd0, hl0]
  have HR := Lib.hid (fun W => run_any s hs p (by omega) W)
  rw [h0] at HR
  have HNUM := Lib.hid hnum
  clear hnum hr0 hl0 hd0 h0
  have hll : (s.data.toList.drop p).length = s.size - p := by rw [List.length_drop, size_list]
  have HX := Lib.hid (fun (q : Nat) (d : Nat) (h : p + d = q) => ext_mid s p d q h)
  generalize hl : s.data.toList.drop p = l at *
  clear hl
  have hz : (((0 : Nat) : Int)) = 0 := rfl
  rw [hz] at HR
  clear hz
  go_enter Tryd.func25, Tryd.ntmps25
  go_wp2_with fail
  refine (HR.out _).mono ?_
  rintro e w1 ⟨rfl, rfl⟩
  go_wp2_with fail
  refine (rsigns_any _).mono ?_
  rintro e w1 ⟨rfl, hw1⟩
  have b0 : Blk w1 w.heap.size 40 (tokC 0 ByteArray.empty 0 (0, 0)) := by rw [← hw1]; exact (Blk.new w _ _).alloc _
  have hb : Below w.heap.size w w1 := by rw [← hw1]; exact ((Below.refl _ w).alloc (Nat.le_refl _) _).alloc (by simp) _
  have HC1 : Hid (∀ j x, sgR[j]? = some x → w1.cell? ⟨w.heap.size + 1, j, none⟩ = some (.string x)) := Lib.hid (fun j x h => by
    have := cells_of_strs' (w.alloc (.cells (tokC 0 ByteArray.empty 0 (0, 0)) 40)) sgR 9 j x h
    rw [World.size_alloc] at this
    rw [← hw1]
    exact this)
  have HB := Lib.hid hb
  have HB0 := Lib.hid b0
  clear hw1 hb b0
  go_wp2_with fail
  go_loopw [12] (fun n wr => ∃ k m : Nat, wr = w1.drewN m ∧ k ≤ 20 ∧ n = .int .i64 k ∧ Hid (∀ j y, j < k → sgRL[j]? = some y → l.take y.length ≠ y)) (fun n _ => 20 - (intOf n).toNat)
  case atStart => exact ⟨0, 0, rfl, by omega, rfl, fun j y h => by omega⟩
  case round =>
    obtain ⟨k, md, rfl, hk, rfl, hno⟩ := hrel
    by_cases hlt : k < 20
    · have hg : sgR[k]? = some (sgR[k]'(by rw [sgR_len]; exact hlt)) := List.getElem?_eq_getElem _
      have hc := HC1.out k _ hg
      have HG := Lib.hid (sgR_get hg)
      clear hg
      generalize sgR[k]'(by rw [sgR_len]; exact hlt) = y at *
      have hys : y.size = y.data.toList.length := (size_list y).symm
      have hy12 := sgR_lens _ (List.mem_of_getElem? HG.out)
      rw [← hys] at hy12
      obtain ⟨d, hd⟩ : ∃ d, y.size = d := ⟨_, rfl⟩
      rw [hd] at hy12
      obtain ⟨q, hq⟩ : ∃ q, p + d = q := ⟨_, rfl⟩
      have hqi : (p : Int) + (d : Int) = (q : Int) := by omega
      by_cases hit : l.take d = y.data.toList
      · have hql : q ≤ s.size := by
          have := congrArg List.length hit
          rw [List.length_take, ← hys, hll, hd] at this
          omega
        have g1 : decide ((q : Int) ≤ (s.size : Int)) = true := decide_eq_true (by omega)
        have g2 : ((s.extract p q).toList == y.toList) = true := by
          rw [str_eq, decide_eq_true_eq, HX.out q d hq]; exact hit
        have HW : Hid (wordS l = ⟨4, 0, 0, d⟩) := by
          have := sgn_hit l k _ HG.out (by rw [← hys, hd]; exact hit) hno.out
          rw [← hys, hd] at this
          have hd0 : decide (d = 0) = false := decide_eq_false (by omega)
          rw [HNUM.out, signS, this, hd0]
          exact Lib.hid rfl
        have HIT := Lib.hid hit
        have hyl := hys
        clear hit hno HNUM hys
        obtain ⟨x0, x1, x2, x3, x4, y0, y1, y2, y3, y4⟩ := HB0.out.five
        go_wp2_with fail
        go_quiet (fail)
        go_wp2_with fail
        refine bodyPost_ret (v := .tuple #[tokV 4 y 0 (0, 0), .int .i64 d, .int .i64 0]) (by simp [tokV, results, Tryd.results25, go_sem, x0, x1, x2, x3, x4] <;> rfl) rfl (OneP.good HW.out y HIT.out.symm rfl ?_)
        repeat (refine Below.setCell ?_ (by simp) _)
        exact HB.out.trans (below_drewN' _ _ _)
      · have HIT : Hid (∀ j y, j < k + 1 → sgRL[j]? = some y → l.take y.length ≠ y) := Lib.hid (fun j y' hj hy => by
          by_cases e : j = k
          · subst e
            have := HG.out
            rw [hy] at this
            injection this with this
            rw [this, ← hys, hd]
            exact hit
          · exact hno.out j y' (by omega) hy)
        by_cases hql : q ≤ s.size
        · have g1 : decide ((q : Int) ≤ (s.size : Int)) = true := decide_eq_true (by omega)
          have g2 : ((s.extract p q).toList == y.toList) = false := by
            rw [str_eq, decide_eq_false_iff_not, HX.out q d hq]; exact hit
          clear hit hno HNUM hys
          go_wp2_with fail
          go_quiet (fail)
          go_wp2_with fail
          go_roundw
          case rel => exact ⟨k + 1, _, rfl, by omega, by go_num, HIT⟩
          case measure => simp [intOf]; omega
        · have g1 : decide ((q : Int) ≤ (s.size : Int)) = false := decide_eq_false (by omega)
          clear hit hno HNUM hys
          go_wp2_with fail
          go_quiet (fail)
          go_wp2_with fail
          go_roundw
          case rel => exact ⟨k + 1, _, rfl, by omega, by go_num, HIT⟩
          case measure => simp [intOf]; omega
    · obtain rfl : k = 20 := by omega
      have HW : Hid (wordS l = ⟨0, 0, 110, 0⟩) := by
        have := sgn_none l (fun j y hy => hno.out j y (by
          have := (List.getElem?_eq_some_iff.1 hy).1
          exact this) hy) (min 2 l.length) (by omega)
        rw [HNUM.out, signS, this]
        exact Lib.hid rfl
      clear hno HNUM
      obtain ⟨x0, x1, x2, x3, x4, y0, y1, y2, y3, y4⟩ := HB0.out.five
      go_wp2_with fail
      refine bodyPost_ret (v := .tuple #[tokV 0 ByteArray.empty 0 (0, 0), .int .i64 0, .int .i64 110]) (by simp [tokV, results, Tryd.results25, go_sem, x0, x1, x2, x3, x4] <;> rfl) rfl (OneP.bad HW.out (by omega) rfl ?_)
      repeat (refine Below.setCell ?_ (by simp) _)
      exact HB.out.trans (below_drewN' _ _ _)

theorem one_any (s : ByteArray) (hs : s.size ≤ 1000000) (p : Nat) (hp : p < s.size) (w : World) :
    Calls Tryd.prog 25 #[.string s, .int .i64 p] w (OneP (s.data.toList.drop p) w) := by
  cases hl : isLet (s[p].toNat : Int)
  · cases hd : isDig (s[p].toNat : Int)
    · exact one_sign s hs p hp hl hd w
    · exact one_num s hs p hp hd w
  · exact one_let s hs p hp hl w
end Go.Proofs.YtkkjdmpgjfkenaaDoor

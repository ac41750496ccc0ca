/-
  Where a text ends.
-/
import Derived.Test.YtkkjdmpgjfkenaaDoorWorks
namespace Go.Proofs.YtkkjdmpgjfkenaaDoor
open Go.RowKit Go.Maps Go.WideMaps Go.Shelf

def posV (p : Int × Int) : Value := .agg #[.int .i64 p.1, .int .i64 p.2]
set_option maxHeartbeats 1000000 in
theorem place_any (s : ByteArray) (at_ : Nat) (hat : at_ ≤ s.size) (hs : s.size ≤ 1000000) (w : World) :
    Calls Tryd.prog 35 #[.string s, .int .i64 at_] w fun e w' => e = .returned (posV (advsI (1, 1) (s.data.toList.take at_))) ∧ Below w.heap.size w w' := by
  go_enter Tryd.func35, Tryd.ntmps35
  go_wp2_with fail
  go_loopw [6] (fun n wr => ∃ k : Nat, k ≤ at_ ∧ n = .int .i64 k ∧ Blk wr (w.heap.size + 1) 25 #[.int .i64 (advsI (1, 1) (s.data.toList.take k)).1, .int .i64 (advsI (1, 1) (s.data.toList.take k)).2] ∧
      Blk wr w.heap.size 25 #[.int .i64 0, .int .i64 0] ∧ Below w.heap.size w wr)
    (fun n _ => at_ - (intOf n).toNat)
  case atStart =>
    refine ⟨0, Nat.zero_le _, rfl, ?_, (Blk.new w _ _).alloc _, ((Below.refl _ w).alloc (Nat.le_refl _) _).alloc (by simp) _⟩
    have := Blk.new (w.alloc (.cells #[.int .i64 0, .int .i64 0] 25)) 25 #[.int .i64 1, .int .i64 1]
    rw [World.size_alloc] at this
    exact this
  case round =>
    obtain ⟨k, hk, rfl, b1, b0, hb⟩ := hrel
    have hbd := advsI_bd (s.data.toList.take k) (1, 1) (by simp)
    have hlk : (s.data.toList.take k).length = k := by rw [List.length_take, size_list]; omega
    rw [hlk] at hbd
    clear hlk
    by_cases hlt : k < at_
    · have hks : k < s.size := by omega
      have HS : Hid (advsI (1, 1) (s.data.toList.take (k + 1)) = advI (advsI (1, 1) (s.data.toList.take k)) s[k]) := by rw [take_snoc' s k hks]; exact advsI_snoc _ _ _
      generalize advsI (1, 1) (s.data.toList.take k) = q at *
      obtain ⟨q1, q2⟩ := q
      have c0 := b1.cell 0; have c1 := b1.cell 1; have f0 := b1.frozen 0; have f1 := b1.frozen 1
      simp only at hbd
      by_cases hn : s[k].toNat = 10
      · have hn1 : ((s[k].toNat : Int) == 10) = true := by rw [hn]; rfl
        have HN := Lib.hid hn
        clear hn
        go_wp2_with fail
        go_roundw
        case rel =>
          refine ⟨k + 1, by omega, by go_num, ?_, ?_, ((hb.setCell (by simp) _).setCell (by simp) _).setCell (by simp) _⟩
          · rw [HS.out, advI, if_pos HN.out]
            exact ((b1.set_ 1 _).set_ 0 _).set_ 1 _
          · exact ((b0.far (by simp) _).far (by simp) _).far (by simp) _
        case measure => simp [intOf]; omega
      · have hn1 : ((s[k].toNat : Int) == 10) = false := by rw [beq_eq_false_iff_ne]; omega
        have HN := Lib.hid hn
        clear hn
        go_wp2_with fail
        go_roundw
        case rel =>
          refine ⟨k + 1, by omega, by go_num, ?_, b0.far (by simp) _, hb.setCell (by simp) _⟩
          rw [HS.out, advI, if_neg HN.out]
          exact b1.set_ 1 _
        case measure => simp [intOf]; omega
    · obtain rfl : k = at_ := by omega
      generalize hq : advsI (1, 1) (s.data.toList.take k) = q at *
      obtain ⟨q1, q2⟩ := q
      have HQ := Lib.hid hq
      clear hq
      have c0 := b1.cell 0; have c1 := b1.cell 1
      have g0 := b0.cell 0; have g1 := b0.cell 1; have h0 := b0.frozen 0; have h1 := b0.frozen 1
      go_wp2_with fail
      exact bodyPost_ret (v := posV (q1, q2)) (by simp [posV, results, Tryd.results35, go_sem, g0, g1]) rfl ⟨by rw [HQ.out], (hb.setCell (by simp) _).setCell (by simp) _⟩

theorem rEnd_any (s : ByteArray) (hs : s.size ≤ 1000000) (w : World) :
    Calls Tryd.prog 20 #[.string s] w fun e w' => e = .returned (posV (advsI (1, 1) s.data.toList)) ∧ Below w.heap.size w w' := by
  have hp := fun W => place_any s s.size (Nat.le_refl _) hs W
  rw [List.take_of_length_le (by rw [size_list]; exact Nat.le_refl _)] at hp
  generalize advsI (1, 1) s.data.toList = q at *
  obtain ⟨q1, q2⟩ := q
  unfold posV at hp
  have H := Lib.hid hp
  clear hp
  go_enter Tryd.func20, Tryd.ntmps20
  go_wp2_with fail
  refine (H.out _).mono ?_
  rintro e w1 ⟨rfl, hb⟩
  have b0 := (Blk.new w 25 #[.int .i64 0, .int .i64 0]).below hb (by simp)
  have g0 := b0.cell 0; have g1 := b0.cell 1; have h0 := b0.frozen 0; have h1 := b0.frozen 1
  dsimp only
  go_wp2_with fail
  exact bodyPost_ret (v := posV (q1, q2)) (by simp [posV, results, Tryd.results20, go_sem, g0, g1]) rfl ⟨rfl, ((((Below.refl _ w).alloc (Nat.le_refl _) _).trans (hb.mono (by simp))).setCell (by simp) _).setCell (by simp) _⟩

theorem End_any (s : ByteArray) (hs : s.size ≤ 1000000) (w : World) :
    Calls Tryd.prog 19 #[.string s] w fun e w' => e = .returned (posV (advsI (1, 1) s.data.toList)) ∧ Below w.heap.size w w' := by
  go_enter Tryd.func19, Tryd.ntmps19
  go_wp2_with fail
  refine (begin_any s _).mono ?_
  rintro e w1 ⟨rfl, rfl⟩
  go_wp2_with fail
  have hr : Rd (((w.alloc (.cells #[.int .i64 0, .int .i64 0] 25)).alloc (.cells #[.int .i64 1, .int .i64 1, .string s, .map none, .map none, .map none] 55)).alloc (.cells #[.int .i64 1, .int .i64 1, .string s, .map none, .map none, .map none] 55)) (w.heap.size + 1 + 1) (1, 1) s (.map none) (.map none) (.map none) := by
    have := heap_alloc_new ((w.alloc (.cells #[.int .i64 0, .int .i64 0] 25)).alloc (.cells #[.int .i64 1, .int .i64 1, .string s, .map none, .map none, .map none] 55)) (.cells #[.int .i64 1, .int .i64 1, .string s, .map none, .map none, .map none] 55)
    rw [World.size_alloc, World.size_alloc] at this
    exact this
  have b := ((Blk.new w 25 #[.int .i64 0, .int .i64 0]).alloc (.cells #[.int .i64 1, .int .i64 1, .string s, .map none, .map none, .map none] 55)).alloc (.cells #[.int .i64 1, .int .i64 1, .string s, .map none, .map none, .map none] 55)
  have hb0 : Below w.heap.size w (((w.alloc (.cells #[.int .i64 0, .int .i64 0] 25)).alloc (.cells #[.int .i64 1, .int .i64 1, .string s, .map none, .map none, .map none] 55)).alloc (.cells #[.int .i64 1, .int .i64 1, .string s, .map none, .map none, .map none] 55)) :=
    (((Below.refl _ w).alloc (Nat.le_refl _) _).alloc (by rw [World.size_alloc]; omega) _).alloc (by rw [World.size_alloc, World.size_alloc]; omega) _
  refine (off_all (w.heap.size + 1 + 1) (1, 1) s _ _ _ _ hr (by simp) (by simp) (by simp; omega) (by simp; omega)).mono ?_
  rintro e w1 ⟨u, t', rfl, _, _, hr1, ho1⟩
  rw [List.take_of_length_le (Nat.le_refl _)] at hr1
  have b0 := b.only ho1 (by omega)
  have hb1 := hb0.trans (ho1.below (by rw [World.size_alloc, World.size_alloc, World.size_alloc]; omega) (fun k hk => by omega))
  generalize hq : advsI (1, 1) s.data.toList = q at *
  obtain ⟨q1, q2⟩ := q
  have HQ := Lib.hid hq
  have r0 := hr1.cell0; have r1 := hr1.cell1
  have g0 := b0.cell 0; have g1 := b0.cell 1; have h0 := b0.frozen 0; have h1 := b0.frozen 1
  clear hq hr b hb0 ho1
  go_wp2_with fail
  exact bodyPost_ret (v := posV (q1, q2)) (by simp [posV, results, Tryd.results19, go_sem, g0, g1]) rfl ⟨by rw [HQ.out], (hb1.setCell (by simp) _).setCell (by simp) _⟩
end Go.Proofs.YtkkjdmpgjfkenaaDoor

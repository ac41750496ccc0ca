/-
  The statement 'LexBounds': the bounds of texts, names and numbers, and one past them, and each keyword.
-/
import Derived.Test.YtkkjdmpgjfkenaaDoorBounds
import Derived.Test.YtkkjdmpgjfkenaaDoorFrame
namespace Go.Proofs.YtkkjdmpgjfkenaaDoor
open Go.RowKit Go.Maps Go.WideMaps Go.Shelf

theorem num_q (b : Int) (w : World) (n : Nat) : Calls Tryd.prog 14 #[.int .i64 b] (w.drewN n) fun e w'' => e = .returned (.int .i64 b) ∧ ∃ m, w'' = w.drewN m :=
  (num_any b (w.drewN n)).mono fun _ _ ⟨h1, h2⟩ => ⟨h1, n, h2.symm⟩

set_option maxRecDepth 1000000 in
set_option maxHeartbeats 4000000 in
theorem lawBounds (w : World) (hv : ErrVars w) : Calls Tryd.prog 7 #[] w fun e w' => e = .returned (.bool true) ∧ Below w.heap.size w w' := by
  have HW := Lib.hid (fun W h => works_any W h)
  have HV := Lib.hid hv
  have h5 := hv.2.2
  clear hv
  obtain ⟨i0, hi, hz0, hz1, hz2⟩ := info_parts u8Info
  obtain ⟨N, hN⟩ : ∃ N : Nat, N = 65537 := ⟨_, rfl⟩
  have b2 : i0.bytes * N ≤ 281474976710656 := by rw [hz2, hN]; decide
  have b3 : N ≤ maxLen := by rw [hN]; unfold maxLen; decide
  have b1 : Hid ((65537 : Int) = (N : Int)) := by rw [hN]; exact Lib.hid rfl
  have HN := Lib.hid hN
  have hN1 : (65536 : Int) ≤ (N : Int) := by omega
  have hN2 : 65536 ≤ N := by omega
  have hN3 : N ≤ 1000000 := by omega
  clear hN
  go_enter Tryd.func7, Tryd.ntmps7
  go_wp2_with (first
    | (at_make; go_must (refine wpList_make_full _ rfl _ _ 35 rfl w.heap.size 5 i0 _ 1 Tryd.underlying35 hi hz0 hz1 _ _ _ _ N rfl rfl b1.out b1.out b2 b3 (Nat.le_refl _) ?_); intro w1 hrow hgrow; have HF0 := Lib.hid (fill_of_row hrow); have HB0 := Lib.hid (((Only.refl (X := fun k => w.heap.size ≤ k) w).grown hgrow (fun k hk => by cases hk)).below (Nat.le_refl _) (fun k hk => hk)); clear hrow hgrow))
  clear b1 b2 b3 hi hz0 hz1 hz2 i0
  go_loopw [2] (fun n wr => ∃ k : Nat, k ≤ N ∧ n = .int .i64 k ∧ Hid (Fill w.heap.size N k wr) ∧ Hid (Below w.heap.size w wr)) (fun n _ => N - (intOf n).toNat)
  case atStart => exact ⟨0, Nat.zero_le _, rfl, HF0, HB0⟩
  case round =>
    obtain ⟨k, hk, rfl, HF, HB⟩ := hrel
    clear HF0 HB0
    by_cases hlt : k < N
    · obtain ⟨v, hc⟩ := HF.out.cell k hlt
      have hf := HF.out.frozen k
      have HF' := Lib.hid (HF.out.step hlt)
      have HB' := Lib.hid (HB.out.setCell (p := ⟨w.heap.size, k, none⟩) (by simp) (.int .u8 32))
      go_wp2_with fail
      go_roundw
      case rel => exact ⟨k + 1, by omega, by go_num, HF', HB'⟩
      case measure => simp [intOf]; omega
    · obtain rfl : N = k := by omega
      obtain ⟨t1, ht1, hc1⟩ := HF.out.conv 65536 N (by omega)
      have HL1 := Lib.hid (fun W hv => lx_blank t1 65536 ht1 (by omega) W hv)
      have HL3 := Lib.hid (fun W hv => lx_three W hv)
      have HL4 := Lib.hid (fun W hv => lx_four W hv)
      have HL5 := Lib.hid (fun W hv => lx_five W hv)
      clear ht1
      go_wp2_with fail
      refine (HL1.out _ (HV.out.below (HB.out.mono h5))).mono ?_
      rintro e w1 ⟨o, c, rfl, hb1⟩
      have B1 := hb1.alloc hb1.size (.cells #[.int .i64 0, .int .i64 0] 25)
      obtain ⟨t2, ht2, hc2⟩ := (HF.out.below B1).conv N N (Nat.le_refl _)
      have h2s : 65536 < t2.size := by rw [← size_list, ht2, List.length_replicate, HN.out]; omega
      have HL2 := Lib.hid (fun W => Lex_long t2 W h2s)
      have HE1 := Lib.hid (HB.out.trans (B1.mono HB.out.size))
      clear B1 hb1 ht2 h2s hc1 HL1 HF
      go_wp2_with fail
      refine (HL2.out _).mono ?_
      rintro e w2 ⟨rfl, hb2⟩
      have HC2 := Lib.hid (hb2.alloc hb2.size (.cells #[.int .i64 0, .int .i64 0] 25))
      have HE2 := Lib.hid (HE1.out.trans (HC2.out.mono HE1.out.size))
      have HP := Lib.hid (Blk.new w2 25 #[.int .i64 0, .int .i64 0])
      clear hb2 hc2 HL2
      go_wp2_with fail
      refine (HL3.out _ (HV.out.below (HE2.out.mono h5))).mono ?_
      rintro e w3 ⟨g3, c3, rfl, hg3, hn3, hb3⟩
      have HC3 := Lib.hid (hb3.alloc hb3.size (.cells #[.int .i64 0, .int .i64 0] 25))
      have HE3 := Lib.hid (HE2.out.trans (HC3.out.mono HE2.out.size))
      have HN3 := Lib.hid ((World.cell?_alloc_lt w3 (.cells #[.int .i64 0, .int .i64 0] 25) ⟨g3, 7, none⟩ hg3).trans hn3)
      clear hb3 hn3 HL3
      go_wp2_with fail
      refine (HL4.out _ (HV.out.below (HE3.out.mono h5))).mono ?_
      rintro e w4 ⟨rfl, hb4⟩
      have HC4 := Lib.hid (hb4.alloc hb4.size (.cells #[.int .i64 1, .int .i64 2] 25))
      have HE4 := Lib.hid (HE3.out.trans (HC4.out.mono HE3.out.size))
      have HQ := Lib.hid (Blk.new w4 25 #[.int .i64 1, .int .i64 2])
      clear hb4 HL4
      go_wp2_with fail
      refine (HL5.out _ (HV.out.below (HE4.out.mono h5))).mono ?_
      rintro e w5 ⟨rfl, hb5⟩
      have HC5 := Lib.hid (hb5.alloc hb5.size (.cells #[.int .i64 1, .int .i64 1] 25))
      have HE5 := Lib.hid (HE4.out.trans (HC5.out.mono HE4.out.size))
      have HR := Lib.hid (Blk.new w5 25 #[.int .i64 1, .int .i64 1])
      clear hb5 HL5
      go_wp2_with fail
      refine (rWords_any _).mono ?_
      rintro e w6 ⟨rfl, hw6⟩
      have HC6 := Lib.hid (show Below (w5.alloc (.cells #[.int .i64 1, .int .i64 1] 25)).heap.size (w5.alloc (.cells #[.int .i64 1, .int .i64 1] 25)) w6 by rw [← hw6]; exact (Below.refl _ _).alloc (Nat.le_refl _) _)
      have HE6 := Lib.hid (HE5.out.trans (HC6.out.mono HE5.out.size))
      have HK : Hid (∀ j x, kwB[j]? = some x → w6.cell? ⟨w5.heap.size + 1, j, none⟩ = some (.string x)) := Lib.hid (fun j x h => by
        have := cells_of_strs' (w5.alloc (.cells #[.int .i64 1, .int .i64 1] 25)) kwB 9 j x h
        rw [World.size_alloc] at this
        rw [← hw6]
        exact this)
      have hz6 : w5.heap.size + 1 < w6.heap.size := by rw [← hw6, World.size_alloc, World.size_alloc]; omega
      clear hw6
      go_wp2_with fail
      go_loopw [19] (fun n wi => ∃ k : Nat, k ≤ 20 ∧ n = .int .i64 k ∧ Hid (Below w6.heap.size w6 wi)) (fun n _ => 20 - (intOf n).toNat)
      case atStart => exact ⟨0, by omega, rfl, Below.refl _ _⟩
      case round =>
        obtain ⟨k, hk, rfl, HI⟩ := hrel
        by_cases hlt : k < 20
        · have hg : kwB[k]? = some (kwB[k]'(by rw [kwB_len]; exact hlt)) := List.getElem?_eq_getElem _
          have hin : (kwB[k]'(by rw [kwB_len]; exact hlt)).data.toList ∈ kwL := by
            rw [← kw_list]
            exact List.mem_map.2 ⟨_, List.mem_of_getElem? hg, rfl⟩
          have hcu := (HI.out.cell (p := ⟨w5.heap.size + 1, k, none⟩) hz6).trans (HK.out k _ hg)
          clear hg
          generalize kwB[k]'(by rw [kwB_len]; exact hlt) = u at *
          have hus : u.size ≤ 16 := by rw [← size_list]; exact kw_short _ hin
          obtain ⟨t, ht⟩ : ∃ t : ByteArray, (⟨#[35, 10]⟩ : ByteArray) ++ u = t := ⟨_, rfl⟩
          have htl : t.data.toList = 35 :: 10 :: u.data.toList := by rw [← ht, ByteArray.data_append]; simp
          have HLk := Lib.hid (fun W hv => lx_kw u t hin htl W hv)
          clear hin htl
          go_wp2_with fail
          refine (HLk.out _ (HV.out.below ((HE6.out.trans (HI.out.mono HE6.out.size)).mono h5))).mono ?_
          rintro e w7 ⟨g, cap, rfl, x0, x1, hg, hb7⟩
          have x0' := (World.cell?_alloc_lt w7 (.cells #[.int .i64 0, .int .i64 0] 25) ⟨g, 0, none⟩ hg).trans x0
          have x1' := (World.cell?_alloc_lt w7 (.cells #[.int .i64 0, .int .i64 0] 25) ⟨g, 1, none⟩ hg).trans x1
          have hz7 : w5.heap.size + 1 < w7.heap.size := by have := hb7.size; have := HI.out.size; omega
          have hcu' := (World.cell?_alloc_lt w7 (.cells #[.int .i64 0, .int .i64 0] 25) ⟨w5.heap.size + 1, k, none⟩ hz7).trans ((hb7.cell (p := ⟨w5.heap.size + 1, k, none⟩) (by have := HI.out.size; simp; omega)).trans hcu)
          have HI' := Lib.hid (HI.out.trans ((hb7.alloc hb7.size (.cells #[.int .i64 0, .int .i64 0] 25)).mono HI.out.size))
          clear x0 x1 hb7 hcu HI HLk
          go_wp2_with fail
          go_quiet (exact num_q _ _ _)
          go_wp2_with fail
          go_roundw
          case rel => exact ⟨k + 1, by omega, by go_num, HI'.out.trans (below_drewN' _ _ _)⟩
          case measure => simp [intOf]; omega
        · obtain rfl : k = 20 := by omega
          have D5 := HC6.out.trans (HI.out.mono HC6.out.size)
          have D4 := HC5.out.trans (D5.mono HC5.out.size)
          have D3 := HC4.out.trans (D4.mono HC4.out.size)
          have D2 := HC3.out.trans (D3.mono HC3.out.size)
          have bp := HP.out.below D2 (by simp)
          have bq := HQ.out.below D4 (by simp)
          have br := HR.out.below D5 (by simp)
          have n3 := (D3.cell (p := ⟨g3, 7, none⟩) (by simp; omega)).trans HN3.out
          have p0 := bp.cell 0; have p1 := bp.cell 1
          have q0 := bq.cell 0; have q1 := bq.cell 1
          have r0 := br.cell 0; have r1 := br.cell 1
          have HEI := Lib.hid (HE6.out.trans (HI.out.mono HE6.out.size))
          have e25 := eqPos
          have q25 := posEq
          clear D2 D3 D4 D5 bp bq br HK HI
          go_wp2_with (first | (go_at_call 14; refine (num_any _ _).mono ?_; rintro e w' ⟨rfl, rfl⟩))
          refine (HW.out _ (HV.out.below (HEI.out.mono h5))).mono ?_
          rintro e w8 ⟨rfl, hb8⟩
          go_wp2_with fail
          go_ret
          exact ⟨rfl, HEI.out.trans (hb8.mono HEI.out.size)⟩
end Go.Proofs.YtkkjdmpgjfkenaaDoor

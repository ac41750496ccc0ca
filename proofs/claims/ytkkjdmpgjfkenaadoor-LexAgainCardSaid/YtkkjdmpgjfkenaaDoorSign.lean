/-
  Signs, off the text.
-/
import Derived.Test.YtkkjdmpgjfkenaaDoorName
namespace Go.Proofs.YtkkjdmpgjfkenaaDoor
open Go.RowKit Go.Maps Go.WideMaps Go.Shelf

/-- The longest of the first k bytes' beginnings that is a sign. -/
def sgn : Nat → List UInt8 → Nat
  | 0, _ => 0
  | k + 1, l => bif decide (l.take (k + 1) ∈ sgL) then k + 1 else sgn k l
theorem sgn_le : ∀ (k : Nat) (l : List UInt8), sgn k l ≤ k
  | 0, _ => Nat.le_refl _
  | k + 1, l => by
    have := sgn_le k l
    unfold sgn
    cases decide (l.take (k + 1) ∈ sgL) <;> simp <;> omega

set_option maxHeartbeats 1000000 in
theorem sign_any (B : Nat) (pos : Int × Int) (t : ByteArray) (kw bl : Value) (sb : Nat) (w : World) (hr : Rd w B pos t kw (.map (some sb)) bl) (hm : w.ownsMap Tryd.prog 9 unitElem sb 20 (SnS sgB 20))
    (k0 : Nat) (hk0 : k0 = min 2 t.size) (m : Nat) (hmm : m = sgn k0 t.data.toList) (kd er : Int) (hkd : kd = bif decide (m = 0) then 0 else 4) (her : er = bif decide (m = 0) then 110 else 0)
    (hp1 : 0 ≤ pos.1) (hp2 : 0 ≤ pos.2) (hp3 : pos.1 + t.size ≤ 100000000) (hp4 : pos.2 + t.size ≤ 100000000) :
    Calls Tryd.prog 53 #[.pointer (some ⟨B, 0, none⟩), tokV 0 ByteArray.empty 0 pos] w (WordP B pos t kw (.map (some sb)) bl w kd 0 er m) := by
  have hb := hr.lt
  have hne : sb ≠ B := ownsMap_ne hm hr
  have hsl := hm.lt
  have HM := Lib.hid hm
  have HMM := Lib.hid hmm; have HKD := Lib.hid hkd; have HER := Lib.hid her; have HK0 := Lib.hid hk0
  have c2 := hr.cell2
  have hk0' : k0 ≤ 2 := by omega
  have hk0'' : k0 ≤ t.size := by omega
  have hmin : (min 2 (t.size : Int)) = (k0 : Int) := by omega
  clear hm hmm hkd her hk0
  unfold tokV
  go_enter Tryd.func53, Tryd.ntmps53
  go_wp2_with fail
  clear hmin c2
  go_loopw [6] (fun n wr => ∃ k : Nat, k ≤ 2 ∧ k ≤ t.size ∧ n = .int .i64 k ∧ Rd wr B pos t kw (.map (some sb)) bl ∧ Blk wr w.heap.size 40 (tokC 0 ByteArray.empty 0 pos) ∧
      Blk wr (w.heap.size + 1) 40 (tokC 0 ByteArray.empty 0 (0, 0)) ∧ Only (fun b => b = B) w wr ∧ Hid (wr.ownsMap Tryd.prog 9 unitElem sb 20 (SnS sgB 20)) ∧ Hid (m = sgn k t.data.toList))
    (fun n _ => (intOf n).toNat)
  case atStart =>
    refine ⟨k0, hk0', hk0'', rfl, (hr.alloc _).alloc _, (Blk.new w _ _).alloc _, ?_, ((Only.refl w).alloc _).alloc _, (HM.out.alloc _).alloc _, HMM.out⟩
    have := Blk.new (w.alloc (.cells (tokC 0 ByteArray.empty 0 pos) 40)) 40 (tokC 0 ByteArray.empty 0 (0, 0))
    rw [World.size_alloc] at this
    exact this
  case round =>
    obtain ⟨k, hk2, hkt, rfl, hrd, b1, b2, ho, HMr, HS⟩ := hrel
    clear hk0' hk0'' HM HMM HK0
    cases k with
    | zero =>
      obtain ⟨x0, x1, x2, x3, x4, y0, y1, y2, y3, y4⟩ := b1.five
      obtain ⟨x0', x1', x2', x3', x4', y0', y1', y2', y3', y4'⟩ := b2.five
      obtain rfl : m = 0 := HS.out
      obtain rfl : kd = 0 := HKD.out
      obtain rfl : er = 110 := HER.out
      go_wp2_with fail
      refine bodyPost_ret (v := .tuple #[tokV 0 ByteArray.empty 0 pos, .int .i64 110]) (by simp [tokV, results, Tryd.results53, go_sem, x0', x1', x2', x3', x4']) rfl ⟨ByteArray.empty, t, rfl, rfl, rfl, ?_, ?_⟩
      · repeat (refine Rd.far ?_ (by simp; omega) _)
        exact hrd
      · repeat (refine Only.setCell ?_ (.inr (by simp)) _)
        exact ho
    | succ k =>
      have r2 := hrd.cell2; have r4 := hrd.cell4
      have hkk : k + 1 ≤ t.size := hkt
      have hlt : (t.extract 0 (k + 1)).data.toList = t.data.toList.take (k + 1) := ext_take t (k + 1)
      have hls : (t.extract 0 (k + 1)).size ≤ 2 := by rw [← size_list, hlt, List.length_take]; omega
      cases hx : decide (t.data.toList.take (k + 1) ∈ sgL)
      · have C2 := fun W (h : W.ownsMap Tryd.prog 9 unitElem sb 20 (SnS sgB 20)) => sgHas_any (t.extract 0 (k + 1)) sb false (by rw [hlt]; exact hx) W (by unfold maxLen; omega) h
        have H2 := Lib.hid C2
        have HS2 : Hid (m = sgn k t.data.toList) := by have := HS.out; simp only [sgn, hx] at this; exact this
        clear C2 hx hlt hls HS
        go_wp2_with fail
        go_region_with (go_at_call 33; refine (H2.out _ (by exact HMr.out)).mono ?_; rintro e w2 ⟨rfl, hb2⟩)
        all_goals
          have p1 := b1.fin hb2 ⟨rfl, rfl, rfl, rfl⟩
          have p2 := b2.fin hb2 ⟨rfl, rfl, rfl, rfl⟩
          have p3 := hrd.fin hb2 ⟨rfl, rfl, rfl, rfl⟩
          have p4 := ho.fin hb2 ⟨rfl, rfl, rfl, rfl⟩
          have p5 : Hid (w2.ownsMap Tryd.prog 9 unitElem sb 20 (SnS sgB 20)) := ownsMap_block HMr.out (hb2.block sb HMr.out.lt)
          clear hb2 b1 b2 hrd ho HMr H2 r2 r4
          go_wp2_with fail
          go_roundw
          case rel => exact ⟨k, by omega, by omega, by go_num, p3, p1, p2, p4, p5, HS2⟩
          case measure => simp [intOf]
      · have C2 := fun W (h : W.ownsMap Tryd.prog 9 unitElem sb 20 (SnS sgB 20)) => sgHas_any (t.extract 0 (k + 1)) sb true (by rw [hlt]; exact hx) W (by unfold maxLen; omega) h
        have H2 := Lib.hid C2
        have hm1 : m = k + 1 := by have := HS.out; simp only [sgn, hx] at this; exact this
        have hm0 : decide (m = 0) = false := by rw [decide_eq_false_iff_not]; omega
        obtain rfl : kd = 4 := by have := HKD.out; rw [hm0] at this; exact this
        obtain rfl : er = 0 := by have := HER.out; rw [hm0] at this; exact this
        have HM1 := Lib.hid hm1
        clear C2 hx hlt hls HS hm0 hm1 HKD HER
        go_wp2_with fail
        go_region_with (go_at_call 33; refine (H2.out _ (by exact HMr.out)).mono ?_; rintro e w2 ⟨rfl, hb2⟩)
        all_goals
          have p1 := b1.fin hb2 ⟨rfl, rfl, rfl, rfl⟩
          have p2 := b2.fin hb2 ⟨rfl, rfl, rfl, rfl⟩
          have p3 := hrd.fin hb2 ⟨rfl, rfl, rfl, rfl⟩
          have p4 := ho.fin hb2 ⟨rfl, rfl, rfl, rfl⟩
          clear hb2 b1 b2 hrd ho HMr H2 r2 r4
          have lB := p3.lt
          have C3 := off_first (k + 1) w2.heap.size B (by omega) pos t kw (.map (some sb)) bl (w2.alloc (.cells #[.int .i64 ((k + 1 : Nat) : Int)] 3)) (p3.alloc _) (by omega) (heap_alloc_new w2 _) hp1 hp2 hp3 hp4
          have H3 := Lib.hid C3
          have C4 := first_any ((k + 1 : Nat) : Int) w2
          have H4 := Lib.hid C4
          clear C3 C4
          go_wp2_with fail
          refine H4.out.mono ?_
          rintro e w3 ⟨rfl, rfl⟩
          go_wp2_with fail
          refine H3.out.mono ?_
          rintro e w4 ⟨u4, t4, rfl, hu4, ht4, hr4, ho4⟩
          have l1 := p1.lt; have l2 := p2.lt
          have a1 := (p1.alloc (.cells #[.int .i64 ((k + 1 : Nat) : Int)] 3)).only ho4 (by omega)
          have a2 := (p2.alloc (.cells #[.int .i64 ((k + 1 : Nat) : Int)] 3)).only ho4 (by omega)
          have hmn : min (k + 1) t.data.toList.length = m := by rw [HM1.out, size_list]; omega
          rw [hmn] at hu4 ht4 hr4
          have HU := Lib.hid hu4; have HT := Lib.hid ht4; have HR := Lib.hid hr4
          have h6 : Only (fun b => b = B) w w4 := by
            refine p4.trans ?_
            refine ⟨ho4.os, ho4.tape, ho4.output, Nat.le_trans (by simp) ho4.size, fun i hi hx => ?_⟩
            exact (ho4.block i (by simp; omega) (by rintro (h | h); exact hx h; omega)).trans (Below.heap_alloc _ _ _ hi)
          have HO := Lib.hid h6
          clear hmn hu4 ht4 hr4 ho4 p1 p2 p3 p4 h6
          obtain ⟨x0, x1, x2, x3, x4, y0, y1, y2, y3, y4⟩ := a1.five
          obtain ⟨x0', x1', x2', x3', x4', y0', y1', y2', y3', y4'⟩ := a2.five
          go_wp2_with fail
          refine bodyPost_ret (v := .tuple #[tokV 4 u4 0 pos, .int .i64 0]) (by simp [tokV, results, Tryd.results53, go_sem, x0', x1', x2', x3', x4']) rfl ⟨u4, t4, rfl, HU.out, HT.out, ?_, ?_⟩
          · repeat (refine Rd.far ?_ (by simp; omega) _)
            exact HR.out
          · repeat (refine Only.setCell ?_ (.inr (by simp)) _)
            exact HO.out
end Go.Proofs.YtkkjdmpgjfkenaaDoor

/-
  The statement 'SyncConds': who waits, and who is woken.
-/
import Derived.Test.YtdfjbgfdaokjgaaLoop
namespace Go.Proofs.Ytdfjbgfdaokjgaa
open Go.RowKit

set_option maxRecDepth 100000 in
set_option maxHeartbeats 8000000 in
theorem lawConds_main (o : Option Addr) (cp : Nat) (xs : List ActL) (hl : xs.length ≤ 100) (W : World) (ha : ActsAt W o xs) :
    Calls Try.prog 9 #[.slice o xs.length cp] W fun e w' => e = .returned (.bool true) ∧ Below W.heap.size W w' := by
  have HA := Lib.hid ha
  have HWK := Lib.hid (fun w => works_any w)
  have HNW := Lib.hid (st_new (W := W) (w := W) 0 2 none 0 [] (by omega) (by omega) (by simp) (IntsAt.nil _ _) rfl (Below.refl _ _))
  have HRN := Lib.hid (fun w => RNew_any 0 2 none 0 [] w (IntsAt.nil _ _))
  obtain ⟨n, hn⟩ : ∃ n, xs.length = n := ⟨_, rfl⟩
  have HN := Lib.hid hn
  rw [hn] at hl ⊢
  clear ha hn
  go_enter Try.func9, Try.ntmps9
  have h100 : ¬ (100 : Int) < n := by omega
  go_wp2_with fail
  refine HNW.out.mono ?_
  rintro e w1 ⟨p, F, rfl, hst, hb1, hF⟩
  have HST := Lib.hid hst; have HB1 := Lib.hid hb1
  have HF : Hid (∀ b, F b → b < w1.heap.size) := fun b hb => (hst.lt hb).2
  clear hst hb1 hF HNW
  go_wp2_with fail
  refine (HRN.out w1).mono ?_
  intro e w2 hq
  obtain ⟨hb2, z, rfl, hz⟩ := hq.get rfl
  have HI0 : Hid (LoopI W (w2.alloc (.cells #[.slice z.o1 0 z.c1, .slice z.o2 2 z.c2, .slice z.o3 0 z.c3, .slice z.o4 0 z.c4, .slice z.o5 0 z.c5] 33)) p 0 w2.heap.size F (newS 0 2 []) z) := Lib.hid (by
    have hs := HST.out.low.size; have hs2 := hb2.size
    refine ⟨(HST.out.below hb2).below ((Below.refl _ _).alloc (Nat.le_refl _) _), Blk.new _ _ _, ?_, fun hf => by have := HF.out _ hf; omega, by omega, th_new _ _ _⟩
    have h1 : RSt (fun b => F b ∨ b = w2.heap.size) w2 z (newS 0 2 []) := fun w'' ho => by
      have h2 : RSt F w2 z (newS 0 2 []) := fun w'' ho => hz w'' (ho.mono (fun b hb => HF.out b hb))
      exact h2.wide (Below.refl _ w2) _ (fun b hb => hb.imp id (fun h => by omega)) w'' ho
    exact h1.below ((Below.refl _ _).alloc (Nat.le_refl _) _))
  clear hq hb2 hz HRN
  simp only [hdR, newS, List.map, List.length, List.length_replicate, Int.reduceToNat] at ⊢
  go_wp2_with fail
  go_loopw [7] (fun v wr => ∃ (i : Nat) (F : Nat → Prop) (s : SM) (y : RLy), i ≤ n ∧ v = .int .i64 i ∧ Hid (LoopI W wr p i w2.heap.size F s y)) (fun i _ => n - (intOf i).toNat)
  case atStart => exact ⟨0, F, _, z, by omega, rfl, HI0⟩
  case round =>
    obtain ⟨i, F, s, y, hi, rfl, HI⟩ := hrel
    clear HI0 HST HB1 HF
    by_cases hlt : i < n
    · obtain ⟨x, hx⟩ : ∃ x, xs[i]? = some x := ⟨_, List.getElem?_eq_getElem (by rw [HN.out]; exact hlt)⟩
      obtain ⟨g, off, rfl⟩ := HA.out.1 (by rw [HN.out]; omega)
      obtain ⟨x0, x1, x2, x3⟩ := (HA.out.below HI.out.st.low).2 g off rfl i x hx
      obtain ⟨what, xn, t, v⟩ := x
      dsimp only at x0 x1 x2 x3
      obtain ⟨b0, b1, b2, b3, b4, -⟩ := Blk.five (show Blk wr w2.heap.size 33 #[.slice y.o1 s.owners.length y.c1, .slice y.o2 s.conds.length y.c2, .slice y.o3 s.chans.length y.c3, .slice y.o4 s.chans.length y.c4, .slice y.o5 s.chans.length y.c5] from HI.out.box)
      have hbl := HI.out.box.lt
      clear hx
      rcases Decidable.em (what < 2) with h0 | h0
      · have hlt2 : what < 2 := h0
        have hwx : Below wr.heap.size wr (wr.alloc (.cells #[.int .i64 2, .int .i64 xn, .int .i64 t, .int .i64 v] 62)) := (Below.refl _ _).alloc (Nat.le_refl _) _
        have HACT := Lib.hid (act_wait (HI.out.st.below hwx) (by omega) (X := fun b => F b ∨ b = w2.heap.size) (fun b hb => .inl hb) (fun b hb => by have := hwx.size; rcases hb with hb | hb; have := (HI.out.st.lt hb).2; omega; omega) (HI.out.rs.below hwx) xn t v)
        have HWX := Lib.hid hwx
        have HT := Lib.hid (HI.out.th.wait xn t)
        clear hwx
        go_wp2_with fail
        refine HACT.out.mono ?_
        rintro e w5 ⟨z1, rfl, F', hst, hr, ho, hF⟩
        generalize (waitS s xn t).1 = s1 at hst hr HT ⊢
        have hbb := (HI.out.box.below HWX.out hbl).only ho HI.out.free
        obtain ⟨y0, y1, y2, y3, y4, f0, f1, f2, f3, f4⟩ := Blk.five (show Blk w5 w2.heap.size 33 #[.slice y.o1 s.owners.length y.c1, .slice y.o2 s.conds.length y.c2, .slice y.o3 s.chans.length y.c3, .slice y.o4 s.chans.length y.c4, .slice y.o5 s.chans.length y.c5] from hbb)
        have hbl5 := hbb.lt
        have HI6 : Hid (LoopI W (fill5 w5 w2.heap.size (.slice z1.o1 s1.owners.length z1.c1) (.slice z1.o2 s1.conds.length z1.c2) (.slice z1.o3 s1.chans.length z1.c3) (.slice z1.o4 s1.chans.length z1.c4) (.slice z1.o5 s1.chans.length z1.c5)) p (i + 1) w2.heap.size F' s1 z1) := Lib.hid (HI.out.next HWX.out hst hr ho hF HT.out rfl)
        have HI7 := Lib.hid (HI6.out.below ((Below.refl _ _).alloc (Nat.le_refl _) (.cells #[.slice z1.o1 s1.owners.length z1.c1, .slice z1.o2 s1.conds.length z1.c2, .slice z1.o3 s1.chans.length z1.c3, .slice z1.o4 s1.chans.length z1.c4, .slice z1.o5 s1.chans.length z1.c5] 33)))
        have HIS := Lib.hid (is_any HI7.out.st (by omega) HI7.out.rs.reads)
        clear hst hr ho hF hbb HACT HT HI HI6 b0 b1 b2 b3 b4 x0 x1 x2 x3
        simp only [hdR]
        go_upto_region 13 with (fail)
        simp only [fill5] at HI7 HIS
        generalize World.alloc _ _ = wz at HI7 HIS ⊢
        clear y0 y1 y2 y3 y4 f0 f1 f2 f3 f4
        obtain ⟨b0, b1, b2, b3, b4, -⟩ := Blk.five (show Blk wz w2.heap.size 33 #[.slice z1.o1 s1.owners.length z1.c1, .slice z1.o2 s1.conds.length z1.c2, .slice z1.o3 s1.chans.length z1.c3, .slice z1.o4 s1.chans.length z1.c4, .slice z1.o5 s1.chans.length z1.c5] from HI7.out.box)
        go_wp2_with fail
        refine HIS.out.mono ?_
        rintro e w6 ⟨rfl, hb6⟩
        have HI8 := Lib.hid (HI7.out.below hb6)
        clear hb6 HIS HI7 b0 b1 b2 b3 b4
        go_wp2_with fail
        go_roundw
        case rel => exact ⟨i + 1, F', s1, z1, by omega, by go_num, HI8⟩
        case measure => simp [intOf]; omega
      rcases Decidable.em (4 < what) with h4 | h4
      · have hgt4 : 4 < what := h4
        have hwx : Below wr.heap.size wr (wr.alloc (.cells #[.int .i64 2, .int .i64 xn, .int .i64 t, .int .i64 v] 62)) := (Below.refl _ _).alloc (Nat.le_refl _) _
        have HACT := Lib.hid (act_wait (HI.out.st.below hwx) (by omega) (X := fun b => F b ∨ b = w2.heap.size) (fun b hb => .inl hb) (fun b hb => by have := hwx.size; rcases hb with hb | hb; have := (HI.out.st.lt hb).2; omega; omega) (HI.out.rs.below hwx) xn t v)
        have HWX := Lib.hid hwx
        have HT := Lib.hid (HI.out.th.wait xn t)
        clear hwx
        go_wp2_with fail
        refine HACT.out.mono ?_
        rintro e w5 ⟨z1, rfl, F', hst, hr, ho, hF⟩
        generalize (waitS s xn t).1 = s1 at hst hr HT ⊢
        have hbb := (HI.out.box.below HWX.out hbl).only ho HI.out.free
        obtain ⟨y0, y1, y2, y3, y4, f0, f1, f2, f3, f4⟩ := Blk.five (show Blk w5 w2.heap.size 33 #[.slice y.o1 s.owners.length y.c1, .slice y.o2 s.conds.length y.c2, .slice y.o3 s.chans.length y.c3, .slice y.o4 s.chans.length y.c4, .slice y.o5 s.chans.length y.c5] from hbb)
        have hbl5 := hbb.lt
        have HI6 : Hid (LoopI W (fill5 w5 w2.heap.size (.slice z1.o1 s1.owners.length z1.c1) (.slice z1.o2 s1.conds.length z1.c2) (.slice z1.o3 s1.chans.length z1.c3) (.slice z1.o4 s1.chans.length z1.c4) (.slice z1.o5 s1.chans.length z1.c5)) p (i + 1) w2.heap.size F' s1 z1) := Lib.hid (HI.out.next HWX.out hst hr ho hF HT.out rfl)
        have HI7 := Lib.hid (HI6.out.below ((Below.refl _ _).alloc (Nat.le_refl _) (.cells #[.slice z1.o1 s1.owners.length z1.c1, .slice z1.o2 s1.conds.length z1.c2, .slice z1.o3 s1.chans.length z1.c3, .slice z1.o4 s1.chans.length z1.c4, .slice z1.o5 s1.chans.length z1.c5] 33)))
        have HIS := Lib.hid (is_any HI7.out.st (by omega) HI7.out.rs.reads)
        clear hst hr ho hF hbb HACT HT HI HI6 b0 b1 b2 b3 b4 x0 x1 x2 x3
        simp only [hdR]
        go_upto_region 13 with (fail)
        simp only [fill5] at HI7 HIS
        generalize World.alloc _ _ = wz at HI7 HIS ⊢
        clear y0 y1 y2 y3 y4 f0 f1 f2 f3 f4
        obtain ⟨b0, b1, b2, b3, b4, -⟩ := Blk.five (show Blk wz w2.heap.size 33 #[.slice z1.o1 s1.owners.length z1.c1, .slice z1.o2 s1.conds.length z1.c2, .slice z1.o3 s1.chans.length z1.c3, .slice z1.o4 s1.chans.length z1.c4, .slice z1.o5 s1.chans.length z1.c5] from HI7.out.box)
        go_wp2_with fail
        refine HIS.out.mono ?_
        rintro e w6 ⟨rfl, hb6⟩
        have HI8 := Lib.hid (HI7.out.below hb6)
        clear hb6 HIS HI7 b0 b1 b2 b3 b4
        go_wp2_with fail
        go_roundw
        case rel => exact ⟨i + 1, F', s1, z1, by omega, by go_num, HI8⟩
        case measure => simp [intOf]; omega
      obtain rfl | rfl | rfl : what = 2 ∨ what = 3 ∨ what = 4 := by omega
      · clear h0 h4
        have hwx : Below wr.heap.size wr (wr.alloc (.cells #[.int .i64 2, .int .i64 xn, .int .i64 t, .int .i64 v] 62)) := (Below.refl _ _).alloc (Nat.le_refl _) _
        have HACT := Lib.hid (act_wait (HI.out.st.below hwx) (by omega) (X := fun b => F b ∨ b = w2.heap.size) (fun b hb => .inl hb) (fun b hb => by have := hwx.size; rcases hb with hb | hb; have := (HI.out.st.lt hb).2; omega; omega) (HI.out.rs.below hwx) xn t v)
        have HWX := Lib.hid hwx
        have HT := Lib.hid (HI.out.th.wait xn t)
        clear hwx
        go_wp2_with fail
        refine HACT.out.mono ?_
        rintro e w5 ⟨z1, rfl, F', hst, hr, ho, hF⟩
        generalize (waitS s xn t).1 = s1 at hst hr HT ⊢
        have hbb := (HI.out.box.below HWX.out hbl).only ho HI.out.free
        obtain ⟨y0, y1, y2, y3, y4, f0, f1, f2, f3, f4⟩ := Blk.five (show Blk w5 w2.heap.size 33 #[.slice y.o1 s.owners.length y.c1, .slice y.o2 s.conds.length y.c2, .slice y.o3 s.chans.length y.c3, .slice y.o4 s.chans.length y.c4, .slice y.o5 s.chans.length y.c5] from hbb)
        have hbl5 := hbb.lt
        have HI6 : Hid (LoopI W (fill5 w5 w2.heap.size (.slice z1.o1 s1.owners.length z1.c1) (.slice z1.o2 s1.conds.length z1.c2) (.slice z1.o3 s1.chans.length z1.c3) (.slice z1.o4 s1.chans.length z1.c4) (.slice z1.o5 s1.chans.length z1.c5)) p (i + 1) w2.heap.size F' s1 z1) := Lib.hid (HI.out.next HWX.out hst hr ho hF HT.out rfl)
        have HI7 := Lib.hid (HI6.out.below ((Below.refl _ _).alloc (Nat.le_refl _) (.cells #[.slice z1.o1 s1.owners.length z1.c1, .slice z1.o2 s1.conds.length z1.c2, .slice z1.o3 s1.chans.length z1.c3, .slice z1.o4 s1.chans.length z1.c4, .slice z1.o5 s1.chans.length z1.c5] 33)))
        have HIS := Lib.hid (is_any HI7.out.st (by omega) HI7.out.rs.reads)
        clear hst hr ho hF hbb HACT HT HI HI6 b0 b1 b2 b3 b4 x0 x1 x2 x3
        simp only [hdR]
        go_upto_region 13 with (fail)
        simp only [fill5] at HI7 HIS
        generalize World.alloc _ _ = wz at HI7 HIS ⊢
        clear y0 y1 y2 y3 y4 f0 f1 f2 f3 f4
        obtain ⟨b0, b1, b2, b3, b4, -⟩ := Blk.five (show Blk wz w2.heap.size 33 #[.slice z1.o1 s1.owners.length z1.c1, .slice z1.o2 s1.conds.length z1.c2, .slice z1.o3 s1.chans.length z1.c3, .slice z1.o4 s1.chans.length z1.c4, .slice z1.o5 s1.chans.length z1.c5] from HI7.out.box)
        go_wp2_with fail
        refine HIS.out.mono ?_
        rintro e w6 ⟨rfl, hb6⟩
        have HI8 := Lib.hid (HI7.out.below hb6)
        clear hb6 HIS HI7 b0 b1 b2 b3 b4
        go_wp2_with fail
        go_roundw
        case rel => exact ⟨i + 1, F', s1, z1, by omega, by go_num, HI8⟩
        case measure => simp [intOf]; omega
      · clear h0 h4
        have hwx : Below wr.heap.size wr (wr.alloc (.cells #[.int .i64 3, .int .i64 xn, .int .i64 t, .int .i64 v] 62)) := (Below.refl _ _).alloc (Nat.le_refl _) _
        have HACT := Lib.hid (act_signal (HI.out.st.below hwx) (by omega) (X := fun b => F b ∨ b = w2.heap.size) (fun b hb => .inl hb) (fun b hb => by have := hwx.size; rcases hb with hb | hb; have := (HI.out.st.lt hb).2; omega; omega) (HI.out.rs.below hwx) HI.out.th xn t v)
        have HWX := Lib.hid hwx
        have HT := Lib.hid (HI.out.th.signal xn)
        clear hwx
        go_wp2_with fail
        refine HACT.out.mono ?_
        rintro e w5 ⟨z1, rfl, F', hst, hr, ho, hF⟩
        generalize (signalS s xn).1 = s1 at hst hr HT ⊢
        have hbb := (HI.out.box.below HWX.out hbl).only ho HI.out.free
        obtain ⟨y0, y1, y2, y3, y4, f0, f1, f2, f3, f4⟩ := Blk.five (show Blk w5 w2.heap.size 33 #[.slice y.o1 s.owners.length y.c1, .slice y.o2 s.conds.length y.c2, .slice y.o3 s.chans.length y.c3, .slice y.o4 s.chans.length y.c4, .slice y.o5 s.chans.length y.c5] from hbb)
        have hbl5 := hbb.lt
        have HI6 : Hid (LoopI W (fill5 w5 w2.heap.size (.slice z1.o1 s1.owners.length z1.c1) (.slice z1.o2 s1.conds.length z1.c2) (.slice z1.o3 s1.chans.length z1.c3) (.slice z1.o4 s1.chans.length z1.c4) (.slice z1.o5 s1.chans.length z1.c5)) p (i + 1) w2.heap.size F' s1 z1) := Lib.hid (HI.out.next HWX.out hst hr ho hF HT.out rfl)
        have HI7 := Lib.hid (HI6.out.below ((Below.refl _ _).alloc (Nat.le_refl _) (.cells #[.slice z1.o1 s1.owners.length z1.c1, .slice z1.o2 s1.conds.length z1.c2, .slice z1.o3 s1.chans.length z1.c3, .slice z1.o4 s1.chans.length z1.c4, .slice z1.o5 s1.chans.length z1.c5] 33)))
        have HIS := Lib.hid (is_any HI7.out.st (by omega) HI7.out.rs.reads)
        clear hst hr ho hF hbb HACT HT HI HI6 b0 b1 b2 b3 b4 x0 x1 x2 x3
        simp only [hdR]
        go_upto_region 13 with (fail)
        simp only [fill5] at HI7 HIS
        generalize World.alloc _ _ = wz at HI7 HIS ⊢
        clear y0 y1 y2 y3 y4 f0 f1 f2 f3 f4
        obtain ⟨b0, b1, b2, b3, b4, -⟩ := Blk.five (show Blk wz w2.heap.size 33 #[.slice z1.o1 s1.owners.length z1.c1, .slice z1.o2 s1.conds.length z1.c2, .slice z1.o3 s1.chans.length z1.c3, .slice z1.o4 s1.chans.length z1.c4, .slice z1.o5 s1.chans.length z1.c5] from HI7.out.box)
        go_wp2_with fail
        refine HIS.out.mono ?_
        rintro e w6 ⟨rfl, hb6⟩
        have HI8 := Lib.hid (HI7.out.below hb6)
        clear hb6 HIS HI7 b0 b1 b2 b3 b4
        go_wp2_with fail
        go_roundw
        case rel => exact ⟨i + 1, F', s1, z1, by omega, by go_num, HI8⟩
        case measure => simp [intOf]; omega
      · clear h0 h4
        have hwx : Below wr.heap.size wr (wr.alloc (.cells #[.int .i64 4, .int .i64 xn, .int .i64 t, .int .i64 v] 62)) := (Below.refl _ _).alloc (Nat.le_refl _) _
        have HACT := Lib.hid (act_all (HI.out.st.below hwx) (by omega) (X := fun b => F b ∨ b = w2.heap.size) (fun b hb => .inl hb) (fun b hb => by have := hwx.size; rcases hb with hb | hb; have := (HI.out.st.lt hb).2; omega; omega) (HI.out.rs.below hwx) xn t v)
        have HWX := Lib.hid hwx
        have HT := Lib.hid (HI.out.th.all xn)
        clear hwx
        go_wp2_with fail
        refine HACT.out.mono ?_
        rintro e w5 ⟨z1, rfl, F', hst, hr, ho, hF⟩
        generalize (allS s xn).1 = s1 at hst hr HT ⊢
        have hbb := (HI.out.box.below HWX.out hbl).only ho HI.out.free
        obtain ⟨y0, y1, y2, y3, y4, f0, f1, f2, f3, f4⟩ := Blk.five (show Blk w5 w2.heap.size 33 #[.slice y.o1 s.owners.length y.c1, .slice y.o2 s.conds.length y.c2, .slice y.o3 s.chans.length y.c3, .slice y.o4 s.chans.length y.c4, .slice y.o5 s.chans.length y.c5] from hbb)
        have hbl5 := hbb.lt
        have HI6 : Hid (LoopI W (fill5 w5 w2.heap.size (.slice z1.o1 s1.owners.length z1.c1) (.slice z1.o2 s1.conds.length z1.c2) (.slice z1.o3 s1.chans.length z1.c3) (.slice z1.o4 s1.chans.length z1.c4) (.slice z1.o5 s1.chans.length z1.c5)) p (i + 1) w2.heap.size F' s1 z1) := Lib.hid (HI.out.next HWX.out hst hr ho hF HT.out rfl)
        have HI7 := Lib.hid (HI6.out.below ((Below.refl _ _).alloc (Nat.le_refl _) (.cells #[.slice z1.o1 s1.owners.length z1.c1, .slice z1.o2 s1.conds.length z1.c2, .slice z1.o3 s1.chans.length z1.c3, .slice z1.o4 s1.chans.length z1.c4, .slice z1.o5 s1.chans.length z1.c5] 33)))
        have HIS := Lib.hid (is_any HI7.out.st (by omega) HI7.out.rs.reads)
        clear hst hr ho hF hbb HACT HT HI HI6 b0 b1 b2 b3 b4 x0 x1 x2 x3
        simp only [hdR]
        go_upto_region 13 with (fail)
        simp only [fill5] at HI7 HIS
        generalize World.alloc _ _ = wz at HI7 HIS ⊢
        clear y0 y1 y2 y3 y4 f0 f1 f2 f3 f4
        obtain ⟨b0, b1, b2, b3, b4, -⟩ := Blk.five (show Blk wz w2.heap.size 33 #[.slice z1.o1 s1.owners.length z1.c1, .slice z1.o2 s1.conds.length z1.c2, .slice z1.o3 s1.chans.length z1.c3, .slice z1.o4 s1.chans.length z1.c4, .slice z1.o5 s1.chans.length z1.c5] from HI7.out.box)
        go_wp2_with fail
        refine HIS.out.mono ?_
        rintro e w6 ⟨rfl, hb6⟩
        have HI8 := Lib.hid (HI7.out.below hb6)
        clear hb6 HIS HI7 b0 b1 b2 b3 b4
        go_wp2_with fail
        go_roundw
        case rel => exact ⟨i + 1, F', s1, z1, by omega, by go_num, HI8⟩
        case measure => simp [intOf]; omega
    · obtain rfl : i = n := by omega
      have HL := Lib.hid HI.out.st.low
      go_wp2_with (first | (go_at_call 23; refine (num_any _ _).mono ?_; rintro e w' ⟨rfl, rfl⟩) | (go_at_call 11; refine (HWK.out _).mono ?_; rintro e w' ⟨rfl, hb⟩; have HL2 := Lib.hid (HL.out.trans (hb.mono HL.out.size)); clear hb))
      go_ret
      exact ⟨rfl, HL2.out⟩
end Go.Proofs.Ytdfjbgfdaokjgaa

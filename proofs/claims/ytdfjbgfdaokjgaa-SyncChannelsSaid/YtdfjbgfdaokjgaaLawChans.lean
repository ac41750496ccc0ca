/-
  The statement 'SyncChannels': which values a channel has.
-/
import Derived.Test.YtdfjbgfdaokjgaaForm
namespace Go.Proofs.Ytdfjbgfdaokjgaa
open Go.RowKit

theorem LoopI.mono {W wr : World} {p k k' bw : Nat} {F : Nat → Prop} {s : SM} {y : RLy} (h : LoopI W wr p k bw F s y) (hk : k ≤ k') : LoopI W wr p k' bw F s y :=
  ⟨h.st.mono hk, h.box, h.rs, h.free, h.hbw, h.th⟩
theorem ints_blk {w : World} {g : Nat} {T : TypeId} {room : Int} (hb : Blk w g T #[.int .i64 room]) : IntsAt w (some ⟨g, 0, none⟩) [room] :=
  ⟨fun _ => ⟨g, 0, rfl⟩, fun g' off he j z hj => by
    injection he with he; injection he with e1 e2; subst e1; subst e2
    match j, hj with
    | 0, hj => injection hj with hj; subst hj; exact hb.cell 0⟩

set_option maxRecDepth 100000 in
set_option maxHeartbeats 8000000 in
theorem lawChans_in (room : Int) (o1 o2 : Option Addr) (p1 p2 : Nat) (l ts : List Int) (h1 : 1 ≤ room) (h2 : room ≤ 16) (hl : l.length ≤ 100) (W : World) (ha : IntsAt W o1 l) (hb : IntsAt W o2 ts) :
    Calls Try.prog 6 #[.int .i64 room, .slice o1 l.length p1, .slice o2 ts.length p2] W fun e w' => e = .returned (.bool true) ∧ Below W.heap.size W w' := by
  have HA := Lib.hid ha
  have HB := Lib.hid hb
  have HWK := Lib.hid (fun w => works_any w)
  have hin : [room].all (inB 1 16) = true := by simp [inB]; omega
  have HNO : Hid (newNo 0 0 [room] = 0) := Lib.hid (by simp [newNo, inB]; omega)
  have hb1 := (Below.refl W.heap.size W).alloc (Nat.le_refl _) (.cells #[.int .i64 room] 3)
  have HNW := Lib.hid (st_new (W := W) (w := W.alloc (.cells #[.int .i64 room] 3)) 0 0 (some ⟨W.heap.size, 0, none⟩) 1 [room] (by omega) (by omega) (by simp) (ints_blk (Blk.new W 3 _)) hin hb1)
  have HRN := Lib.hid (fun wx => RNew_any 0 0 (some ⟨World.heap wx |>.size, 0, none⟩) 1 [room] (wx.alloc (.cells #[.int .i64 room] 3)) (ints_blk (Blk.new wx 3 _)))
  obtain ⟨n, hn⟩ : ∃ n, l.length = n := ⟨_, rfl⟩
  obtain ⟨q, hq⟩ : ∃ n, ts.length = n := ⟨_, rfl⟩
  have HN := Lib.hid hn; have HQ := Lib.hid hq
  rw [hn] at hl ⊢
  rw [hq]
  clear ha hb hn hq hb1 hin
  go_enter Try.func6, Try.ntmps6
  have e1 : ¬ room < 1 := by omega
  have e2 : ¬ (16 : Int) < room := by omega
  have e3 : ¬ (100 : Int) < n := by omega
  go_wp2_with fail
  refine HNW.out.mono ?_
  rintro e w1 ⟨p, F, rfl, hst, hb1, hF⟩
  have HST := Lib.hid hst; have HB1 := Lib.hid hb1
  have HF : Hid (∀ b, F b → b < w1.heap.size) := fun b hb => (hst.lt hb).2
  clear hst hb1 hF HNW
  go_wp2_with fail
  refine (HRN.out w1).mono ?_
  intro e w2 hq
  obtain ⟨hb2, z, rfl, hz⟩ := hq.get HNO.out
  have hb2' : Below w1.heap.size w1 w2 := ((Below.refl _ w1).alloc (Nat.le_refl _) _).trans (hb2.mono (by simp))
  have HI0 : Hid (LoopI W (w2.alloc (.cells (hdR z (newS 0 0 [room])) 33)) p 0 w2.heap.size F (newS 0 0 [room]) z) := Lib.hid (by
    have hs := HST.out.low.size; have hs2 := hb2'.size
    have ha := (Below.refl w2.heap.size w2).alloc (Nat.le_refl _) (.cells (hdR z (newS 0 0 [room])) 33)
    refine ⟨(HST.out.below hb2').below ha, Blk.new _ _ _, ?_, fun hf => by have := HF.out _ hf; omega, by omega, th_new _ _ _⟩
    have h1 : RSt (fun b => F b ∨ b = w2.heap.size) w2 z (newS 0 0 [room]) := fun w'' ho => by
      have h2 : RSt F w2 z (newS 0 0 [room]) := fun w'' ho => hz w'' (ho.mono (fun b hb => by have := HF.out b hb; simp; omega))
      exact h2.wide (Below.refl _ w2) _ (fun b hb => hb.imp id (fun h => by omega)) w'' ho
    exact h1.below ha)
  clear hq hb2 hb2' hz HRN HF HST HNO
  simp only [Int.toNat_zero] at HI0 ⊢
  generalize newS 0 0 [room] = s0 at HI0 ⊢
  simp only [hdR] at HI0 ⊢
  go_wp2_with (first | (go_at_call 23; refine (num_any _ _).mono ?_; rintro e w' ⟨rfl, rfl⟩))
  go_loopw [11, 12] (fun v11 v12 wr => ∃ (i : Nat) (F : Nat → Prop) (s : SM) (y : RLy), i ≤ n ∧ v11 = .bool true ∧ v12 = .int .i64 i ∧ Hid (LoopI W wr p (21 * i) w2.heap.size F s y)) (fun _ v12 _ => n - (intOf v12).toNat)
  case atStart => exact ⟨0, F, _, z, by omega, rfl, rfl, HI0⟩
  case round =>
    obtain ⟨i, F, s, y, hi, rfl, rfl, HI⟩ := hrel
    clear HI0
    by_cases hlt : i < n
    · obtain ⟨x, hx⟩ : ∃ x, l[i]? = some x := ⟨_, List.getElem?_eq_getElem (by rw [HN.out]; exact hlt)⟩
      obtain ⟨g, off, rfl⟩ := HA.out.1 (by rw [HN.out]; omega)
      have x0 := (HA.out.below (HI.out.st.low)).2 g off rfl i x hx
      have HACT := Lib.hid (act_any (HI.out.st.below ((Below.refl _ wr).drew)) (by omega) (X := fun b => F b ∨ b = w2.heap.size) (fun b hb => .inl hb) (fun b hb => by rcases hb with hb | hb; exact (HI.out.st.lt hb).2; have := HI.out.box.lt; subst hb; exact this) (HI.out.rs.below ((Below.refl _ wr).drew)) HI.out.th ⟨5, 0, 0, x⟩)
      have HTA := Lib.hid (HI.out.th.act ⟨5, 0, 0, x⟩)
      simp only [hdR, actC] at HACT
      obtain ⟨b0, b1, b2, b3, b4, -⟩ := Blk.five (show Blk wr w2.heap.size 33 #[.slice y.o1 s.owners.length y.c1, .slice y.o2 s.conds.length y.c2, .slice y.o3 s.chans.length y.c3, .slice y.o4 s.chans.length y.c4, .slice y.o5 s.chans.length y.c5] from HI.out.box)
      clear hx
      generalize actS s ⟨5, 0, 0, x⟩ = s1 at HACT HTA
      go_upto_region 9 with (fail)
      go_cut [11] from 50 to 61 (fun v11 wc => ∃ F' s' y', v11 = .bool true ∧ Hid (LoopI W wc p (21 * i + 1) w2.heap.size F' s' y'))
      case first =>
        go_region_with (go_at_call 32; refine HACT.out.mono ?_; rintro e w5 ⟨z1, rfl, F', hst, hr, ho, hF⟩; have hbb := HI.out.box.only ((Only.of_below ((Below.refl _ wr).drew)).trans ho) HI.out.free; obtain ⟨y0, y1, y2, y3, y4, f0, f1, f2, f3, f4⟩ := Blk.five (show Blk w5 w2.heap.size 33 #[.slice y.o1 s.owners.length y.c1, .slice y.o2 s.conds.length y.c2, .slice y.o3 s.chans.length y.c3, .slice y.o4 s.chans.length y.c4, .slice y.o5 s.chans.length y.c5] from hbb); have HST5 := Lib.hid hst; have HR5 := Lib.hid hr; have HO5 := Lib.hid ho; have HF5 := Lib.hid hF; clear hst hr ho hF hbb; simp only [hdR])
        all_goals
          go_wp2_with fail
          go_meet
          exact ⟨F', s1, z1, rfl, Lib.hid (HI.out.next ((Below.refl _ wr).drew) HST5.out HR5.out HO5.out HF5.out HTA.out rfl)⟩
      case rest =>
        obtain ⟨F1, s1, y1, rfl, HJ⟩ := hcut
        clear HACT HTA HI b0 b1 b2 b3 b4 x0
        go_wp2_with fail
        go_loopw [11, 13] (fun v11 v13 wx => ∃ (k : Nat) (F : Nat → Prop) (s : SM) (y : RLy), k ≤ 20 ∧ v11 = .bool true ∧ v13 = .int .i64 k ∧ Hid (LoopI W wx p (21 * i + 1 + k) w2.heap.size F s y)) (fun _ v13 _ => 20 - (intOf v13).toNat)
        case atStart => exact ⟨0, F1, s1, y1, by omega, rfl, rfl, HJ⟩
        case round =>
          obtain ⟨k, F2, s2, y2, hk, rfl, rfl, HK⟩ := hrel
          clear HJ
          obtain ⟨b0, b1, b2, b3, b4, -⟩ := Blk.five (show Blk wr w2.heap.size 33 #[.slice y2.o1 s2.owners.length y2.c1, .slice y2.o2 s2.conds.length y2.c2, .slice y2.o3 s2.chans.length y2.c3, .slice y2.o4 s2.chans.length y2.c4, .slice y2.o5 s2.chans.length y2.c5] from HK.out.box)
          have HIS := Lib.hid (is_any HK.out.st (by omega) HK.out.rs.reads)
          by_cases hiq : i < q
          · obtain ⟨t, ht⟩ : ∃ t, ts[i]? = some t := ⟨_, List.getElem?_eq_getElem (by rw [HQ.out]; exact hiq)⟩
            obtain ⟨g2, off2, rfl⟩ := HB.out.1 (by rw [HQ.out]; omega)
            have t0 := (HB.out.below (HK.out.st.low)).2 g2 off2 rfl i t ht
            clear ht
            by_cases hkt : (k : Int) < t
            · by_cases hk20 : k < 20
              · have HACT := Lib.hid (act_any HK.out.st (by omega) (X := fun b => F2 b ∨ b = w2.heap.size) (fun b hb => .inl hb) (fun b hb => by rcases hb with hb | hb; exact (HK.out.st.lt hb).2; have := HK.out.box.lt; subst hb; exact this) HK.out.rs HK.out.th ⟨6, 0, 0, 0⟩)
                have HTA := Lib.hid (HK.out.th.act ⟨6, 0, 0, 0⟩)
                simp only [hdR, actC] at HACT
                generalize actS s2 ⟨6, 0, 0, 0⟩ = s3 at HACT HTA
                clear HIS
                go_wp2_with (first | (go_at_call 32; refine HACT.out.mono ?_; rintro e w5 ⟨z1, rfl, F', hst, hr, ho, hF⟩; have hbb := HK.out.box.only ho HK.out.free; obtain ⟨y0, y1, y2', y3, y4, f0, f1, f2, f3, f4⟩ := Blk.five (show Blk w5 w2.heap.size 33 #[.slice y2.o1 s2.owners.length y2.c1, .slice y2.o2 s2.conds.length y2.c2, .slice y2.o3 s2.chans.length y2.c3, .slice y2.o4 s2.chans.length y2.c4, .slice y2.o5 s2.chans.length y2.c5] from hbb); have HJ3 := Lib.hid (HK.out.next (Below.refl _ _) hst hr ho hF HTA.out rfl); clear hst hr ho hF hbb; simp only [hdR]))
                go_roundw
                case rel => exact ⟨k + 1, F', s3, z1, by omega, rfl, by go_num, HJ3⟩
                case measure => simp [intOf]; omega
              · have hk20' : ¬ (k : Int) < 20 := by omega
                go_wp2_with (first | (go_at_call 29; refine HIS.out.mono ?_; rintro e w6 ⟨rfl, hb6⟩; have HK6 := Lib.hid (HK.out.below hb6); clear hb6))
                go_roundw
                case rel => exact ⟨i + 1, F2, s2, y2, by omega, rfl, by go_num, Lib.hid (HK6.out.mono (by omega))⟩
                case measure => simp [intOf]; omega
            · skip
              go_wp2_with (first | (go_at_call 29; refine HIS.out.mono ?_; rintro e w6 ⟨rfl, hb6⟩; have HK6 := Lib.hid (HK.out.below hb6); clear hb6))
              go_roundw
              case rel => exact ⟨i + 1, F2, s2, y2, by omega, rfl, by go_num, Lib.hid (HK6.out.mono (by omega))⟩
              case measure => simp [intOf]; omega
          · skip
            go_wp2_with (first | (go_at_call 29; refine HIS.out.mono ?_; rintro e w6 ⟨rfl, hb6⟩; have HK6 := Lib.hid (HK.out.below hb6); clear hb6))
            go_roundw
            case rel => exact ⟨i + 1, F2, s2, y2, by omega, rfl, by go_num, Lib.hid (HK6.out.mono (by omega))⟩
            case measure => simp [intOf]; omega
    · obtain rfl : i = n := by omega
      have HL := Lib.hid HI.out.st.low
      go_wp2_with (first | (go_at_call 11; refine (HWK.out _).mono ?_; rintro e w' ⟨rfl, hb⟩; have HL2 := Lib.hid (HL.out.trans (hb.mono HL.out.size)); clear hb))
      go_ret
      exact ⟨rfl, HL2.out⟩
end Go.Proofs.Ytdfjbgfdaokjgaa

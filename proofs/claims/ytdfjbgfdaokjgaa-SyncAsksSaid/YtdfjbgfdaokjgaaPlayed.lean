/-
  The law's 'small' and 'played'.
-/
import Derived.Test.YtdfjbgfdaokjgaaForm
namespace Go.Proofs.Ytdfjbgfdaokjgaa
open Go.RowKit

theorem newNo_cases (m c : Int) (rs : List Int) : newNo m c rs = 0 ∨ newNo m c rs = 2 := by
  unfold newNo
  split
  · exact .inr rfl
  · split
    · exact .inl rfl
    · exact .inr rfl
theorem newNo_ok {m c : Int} {rs : List Int} (h : newNo m c rs = 0) : 0 ≤ m ∧ m ≤ 64 ∧ 0 ≤ c ∧ c ≤ 64 ∧ rs.length ≤ 64 ∧ rs.all (inB 1 16) = true := by
  unfold newNo at h
  split at h
  · cases h
  · split at h
    · rename_i h1 h2
      exact ⟨by omega, by omega, by omega, by omega, by omega, h2⟩
    · cases h

set_option maxRecDepth 100000 in
set_option maxHeartbeats 2000000 in
theorem small_any (m c : Int) (o so : Option Addr) (cp sl sc : Nat) (rs : List Int) (w : World) (hr : IntsAt w o rs) :
    Calls Try.prog 30 #[.agg #[.int .i64 m, .int .i64 c, .slice o rs.length cp], .slice so sl sc] w fun e w' => e = .returned (.bool (decide (newNo m c rs = 0) && decide (sl ≤ 100))) ∧ Below w.heap.size w w' := by
  have HRN := Lib.hid (RNew_any m c o cp rs _ (hr.below ((Below.refl _ w).alloc (Nat.le_refl _) (.cells #[.int .i64 m, .int .i64 c, .slice o rs.length cp] 24))))
  have HB := Lib.hid ((Below.refl _ w).alloc (Nat.le_refl _) (.cells #[.int .i64 m, .int .i64 c, .slice o rs.length cp] 24))
  obtain ⟨n, hn⟩ : ∃ n, rs.length = n := ⟨_, rfl⟩
  rw [hn] at HRN HB ⊢
  clear hn hr
  go_enter Try.func30, Try.ntmps30
  go_wp2_with fail
  refine HRN.out.mono ?_
  rintro e w1 ⟨hb, ⟨h2, v, rfl, rfl⟩ | ⟨h0, z, rfl, hz⟩⟩
  · have HB1 := Lib.hid ((below_trans HB.out hb).alloc (below_trans HB.out hb).size (.cells #[nilV, nilV, nilV, nilV, nilV] 33))
    clear hb HRN
    go_wp2_with fail
    go_ret
    exact ⟨by rw [h2]; rfl, HB1.out⟩
  · obtain ⟨n1, hn1⟩ : ∃ n, (newS m.toNat c.toNat rs).owners.length = n := ⟨_, rfl⟩
    obtain ⟨n2, hn2⟩ : ∃ n, (newS m.toNat c.toNat rs).conds.length = n := ⟨_, rfl⟩
    obtain ⟨n3, hn3⟩ : ∃ n, (newS m.toNat c.toNat rs).chans.length = n := ⟨_, rfl⟩
    simp only [hdR, hn1, hn2, hn3]
    have HB1 := Lib.hid ((below_trans HB.out hb).alloc (below_trans HB.out hb).size (.cells #[.slice z.o1 n1 z.c1, .slice z.o2 n2 z.c2, .slice z.o3 n3 z.c3, .slice z.o4 n3 z.c4, .slice z.o5 n3 z.c5] 33))
    clear hb hz hn1 hn2 hn3 HRN
    go_wp2_with fail
    go_ret
    refine ⟨?_, HB1.out⟩
    rw [h0]
    simp
    omega

/-- Both states in a law that plays an act after another: with the box of what is answered. -/
structure PlayI (W w wr : World) (p k bw rb : Nat) (F : Nat → Prop) (s : SM) (y : RLy) : Prop where
  loop : LoopI W wr p k bw F s y
  low : Below w.heap.size w wr
  lt : ∀ b, F b → rb < b
  rbox : Blk wr rb 33 #[nilV, nilV, nilV, nilV, nilV]
  ne : rb < bw
  hrb : w.heap.size ≤ rb
  rs2 : RSt (fun b => (F b ∨ b = bw) ∨ b = rb) wr y s
section
variable {W w wr w5 : World} {p k bw rb : Nat} {F F' : Nat → Prop} {s s' : SM} {y z : RLy}
theorem PlayI.below {w' : World} (h : PlayI W w wr p k bw rb F s y) (hb : Below wr.heap.size wr w') : PlayI W w w' p k bw rb F s y :=
  ⟨h.loop.below hb, below_trans h.low hb, h.lt, h.rbox.below hb h.rbox.lt, h.ne, h.hrb, h.rs2.below hb⟩
theorem PlayI.next (h : PlayI W w wr p k bw rb F s y) (hst : St W w5 p (k + 1) s' F') (hr : RSt (fun b => ((F b ∨ b = bw) ∨ b = rb) ∨ F' b) w5 z s') (ho : Only F wr.drew w5) (hF : ∀ b, F' b → F b ∨ wr.drew.heap.size ≤ b) (ht : Th s')
    {u0 u1 u2 u3 u4 : Value} (hu : #[u0, u1, u2, u3, u4] = hdR z s') : PlayI W w (fill5 w5 bw u0 u1 u2 u3 u4) p (k + 1) bw rb F' s' z := by
  have hlt := h.rbox.lt
  have hw := h.low.size
  have hne := h.ne
  have hrb := h.hrb
  have hk := fill5_only w5 bw u0 u1 u2 u3 u4
  have hz : wr.heap.size ≤ w5.heap.size := ho.size
  have ho' : Only F wr w5 := (Only.of_below ((Below.refl _ wr).drew)).trans ho
  have hr1 : RSt (fun b => (F b ∨ b = bw) ∨ F' b) w5 z s' := hr.wide (Below.refl _ w5) _ (fun b hb => .inl (hb.imp .inl id))
  refine ⟨h.loop.next ((Below.refl _ wr).drew) hst hr1 ho hF ht hu, ?_, fun b hb => ?_, ?_, hne, hrb, ?_⟩
  · exact (h.low.trans (ho'.below hw (fun b hb => by have := h.lt b hb; omega))).trans (hk.below (by omega) (fun b hb => by omega))
  · rcases hF b hb with h1 | h1
    · exact h.lt b h1
    · have : wr.heap.size ≤ b := h1
      omega
  · exact (h.rbox.only ho' (fun hf => by have := h.lt _ hf; omega)).only hk (by omega)
  · refine hr.end_ (hk.mono (fun b hb => .inl (.inl (.inr hb)))) (fun b hb => .inl ?_)
    rcases hb with (hb | hb) | hb
    · exact .inr hb
    · exact .inl (.inl (.inr hb))
    · exact .inl (.inr hb)
end
section
variable {fn : Func} {tm : Array Value} {k x y g : Nat} {a b c d e : Value} {w : World}
theorem results_played (h : fn.results = #[.tmp x, .cell k 33, .tmp y]) (hc : tm.getD k undef = .pointer (some ⟨g, 0, none⟩)) (hb : Blk w g 33 #[a, b, c, d, e]) :
    (results fn tm).run Try.prog w = .ok (.tuple #[tm.getD x undef, .agg #[a, b, c, d, e], tm.getD y undef]) w := by
  simp only [results, h, Array.mapM_eq_mapM_toList, List.mapM_cons, List.mapM_nil]
  simp [hc, asAddr, load_sync hb]
end

set_option maxRecDepth 100000 in
set_option maxHeartbeats 8000000 in
theorem played_any (W : World) (m c : Int) (o so : Option Addr) (cp sc : Nat) (rs : List Int) (xs : List ActL) (w : World) (hl : Below W.heap.size W w) (hr : IntsAt w o rs) (ha : ActsAt w so xs) (hno : newNo m c rs = 0) (hxs : xs.length ≤ 100) :
    Calls Try.prog 31 #[.agg #[.int .i64 m, .int .i64 c, .slice o rs.length cp], .slice so xs.length sc] w fun e w' => ∃ p F s z, e = .returned (.tuple #[.pointer (some ⟨p, 0, none⟩), .agg (hdR z s), .bool true]) ∧ St W w' p 100 s F ∧ RSt F w' z s ∧ Th s ∧ (∀ b, F b → w.heap.size ≤ b) ∧ Below w.heap.size w w' := by
  obtain ⟨k1, k2, k3, k4, k5, k6⟩ := newNo_ok hno
  obtain ⟨nm, rfl⟩ : ∃ k : Nat, m = k := ⟨m.toNat, by omega⟩
  obtain ⟨nc, rfl⟩ : ∃ k : Nat, c = k := ⟨c.toNat, by omega⟩
  have HA := Lib.hid ha; have HR := Lib.hid hr; have HNO := Lib.hid hno
  have hfb := (Below.refl _ w).alloc (Nat.le_refl _) (.cells #[.int .i64 nm, .int .i64 nc, .slice o rs.length cp] 24)
  have HNW := Lib.hid (fun wx (hx : Below w.heap.size w wx) => st_new (W := W) (w := wx) nm nc o cp rs (by omega) (by omega) k5 (hr.below hx) k6 (hl.trans (hx.mono hl.size)))
  have HRN := Lib.hid (fun wx (hx : Below w.heap.size w wx) => RNew_any nm nc o cp rs wx (hr.below hx))
  have HLW := Lib.hid hl
  obtain ⟨n, hn⟩ : ∃ n, rs.length = n := ⟨_, rfl⟩
  rw [hn] at hfb HNW HRN ⊢
  obtain ⟨q, hq⟩ : ∃ n, xs.length = n := ⟨_, rfl⟩
  have HQ := Lib.hid hq
  rw [hq] at hxs ⊢
  have HFB := Lib.hid hfb
  have HBX := Lib.hid (Blk.new w 24 #[.int .i64 nm, .int .i64 nc, .slice o n cp])
  have HL1 := Lib.hid (hfb.alloc hfb.size (.cells #[nilV, nilV, nilV, nilV, nilV] 33))
  have HBX1 := Lib.hid (HBX.out.alloc (.cells #[nilV, nilV, nilV, nilV, nilV] 33))
  have HRS := Lib.hid (Blk.new' (w.alloc (.cells #[.int .i64 nm, .int .i64 nc, .slice o n cp] 24)) 33 #[nilV, nilV, nilV, nilV, nilV] (w.heap.size + 1) (by simp))
  clear ha hr hno hl hfb hn hq k1 k2 k3 k4 k5 k6 HBX HFB
  go_enter Try.func31, Try.ntmps31
  go_wp2_with fail
  refine (HNW.out _ HL1.out).mono ?_
  rintro e w1 ⟨p, F, rfl, hst, hb1, hF⟩
  have HST := Lib.hid hst
  have HL2 := Lib.hid (below_trans HL1.out hb1)
  have HBX2 := Lib.hid (HBX1.out.below hb1 HBX1.out.lt)
  have HRS2 := Lib.hid (HRS.out.below hb1 HRS.out.lt)
  have HF2 : Hid (∀ b, F b → w.heap.size + 1 < b ∧ b < w1.heap.size) := Lib.hid (fun b hb => ⟨by have := hF b hb; have := HRS.out.lt; omega, (hst.lt hb).2⟩)
  have c0 := HBX2.out.cell 0; have c1 := HBX2.out.cell 1; have c2 := HBX2.out.cell 2
  clear hst hb1 hF HNW HL1 HBX1 HRS
  go_wp2_with fail
  refine (HRN.out w1 HL2.out).mono ?_
  intro e w2 hq
  obtain ⟨hb2, z, rfl, hz⟩ := hq.get HNO.out
  simp only [Int.toNat_natCast] at hz ⊢
  have HI0 : Hid (PlayI W w (w2.alloc (.cells (hdR z (newS nm nc rs)) 33)) p 0 w2.heap.size (w.heap.size + 1) F (newS nm nc rs) z) := Lib.hid (by
    have hs := HLW.out.size; have hs1 := HL2.out.size; have hs2 := hb2.size; have hs3 := HRS2.out.lt
    have ha := (Below.refl w2.heap.size w2).alloc (Nat.le_refl _) (.cells (hdR z (newS nm nc rs)) 33)
    refine ⟨⟨(HST.out.below hb2).below ha, Blk.new _ _ _, ?_, fun hf => by have := HF2.out _ hf; omega, by omega, th_new _ _ _⟩, (below_trans HL2.out hb2).alloc (by omega) _, fun b hb => (HF2.out b hb).1, (HRS2.out.below hb2 HRS2.out.lt).alloc _, by omega, by omega, ?_⟩
    all_goals
      have h2 : RSt (fun b => F b ∨ b = w.heap.size + 1) w2 z (newS nm nc rs) := fun w'' ho => hz w'' (ho.mono (fun b hb => hb.elim (fun h => (HF2.out b h).2) (fun h => by omega)))
      refine RSt.below (h2.wide (Below.refl _ w2) _ (fun b hb => ?_)) ha
    · exact hb.elim (fun h => .inl (.inl h)) (fun h => .inr (by omega))
    · exact hb.elim (fun h => h.elim (fun h => .inl (.inl h)) (fun h => .inr (by omega))) (fun h => .inl (.inr h)))
  clear hq hb2 hz HRN c0 c1 c2 HST HF2 HRS2 HBX2 HL2 HNO
  generalize newS nm nc rs = s0 at HI0 ⊢
  simp only [hdR] at HI0 ⊢
  go_wp2_with (first | (go_at_call 23; refine (num_any _ _).mono ?_; rintro e w' ⟨rfl, rfl⟩))
  go_loopw [11, 12] (fun v11 v12 wr => ∃ (i : Nat) (F : Nat → Prop) (s : SM) (y : RLy), i ≤ q ∧ v11 = .bool true ∧ v12 = .int .i64 i ∧ Hid (PlayI W w wr p i w2.heap.size (w.heap.size + 1) F s y)) (fun _ v12 _ => q - (intOf v12).toNat)
  case atStart => exact ⟨0, F, _, z, by omega, rfl, rfl, HI0⟩
  case round =>
    obtain ⟨i, F, s, y, hi, rfl, rfl, HI⟩ := hrel
    clear HI0
    by_cases hlt : i < q
    · obtain ⟨x, hx⟩ : ∃ x, xs[i]? = some x := ⟨_, List.getElem?_eq_getElem (by rw [HQ.out]; exact hlt)⟩
      obtain ⟨g, off, rfl⟩ := HA.out.1 (by rw [HQ.out]; omega)
      obtain ⟨x0, x1, x2, x3⟩ := (HA.out.below (HI.out.low)).2 g off rfl i x hx
      have HACT := Lib.hid (act_any (HI.out.loop.st.below ((Below.refl _ wr).drew)) (by omega) (X := fun b => (F b ∨ b = w2.heap.size) ∨ b = w.heap.size + 1) (fun b hb => .inl (.inl hb)) (fun b hb => by rcases hb with (hb | hb) | hb; exact (HI.out.loop.st.lt hb).2; have := HI.out.loop.box.lt; subst hb; exact this; have := HI.out.rbox.lt; subst hb; exact this) (HI.out.rs2.below ((Below.refl _ wr).drew)) HI.out.loop.th x)
      have HTA := Lib.hid (HI.out.loop.th.act x)
      obtain ⟨what, xn, t, v⟩ := x
      simp only [hdR, actC] at HACT
      dsimp only at x0 x1 x2 x3
      obtain ⟨b0, b1, b2, b3, b4, -⟩ := Blk.five (show Blk wr w2.heap.size 33 #[.slice y.o1 s.owners.length y.c1, .slice y.o2 s.conds.length y.c2, .slice y.o3 s.chans.length y.c3, .slice y.o4 s.chans.length y.c4, .slice y.o5 s.chans.length y.c5] from HI.out.loop.box)
      clear hx
      generalize actS s ⟨what, xn, t, v⟩ = s1 at HACT HTA
      go_upto_region 7 with (fail)
      go_region_with (go_at_call 32; refine HACT.out.mono ?_; rintro e w5 ⟨z1, rfl, F', hst, hr, ho, hF⟩; have hbb := HI.out.loop.box.only ((Only.of_below ((Below.refl _ wr).drew)).trans ho) HI.out.loop.free; obtain ⟨y0, y1, y2, y3, y4, f0, f1, f2, f3, f4⟩ := Blk.five (show Blk w5 w2.heap.size 33 #[.slice y.o1 s.owners.length y.c1, .slice y.o2 s.conds.length y.c2, .slice y.o3 s.chans.length y.c3, .slice y.o4 s.chans.length y.c4, .slice y.o5 s.chans.length y.c5] from hbb); have HST5 := Lib.hid hst; have HR5 := Lib.hid hr; have HO5 := Lib.hid ho; have HF5 := Lib.hid hF; clear hst hr ho hF hbb; simp only [hdR])
      all_goals
        go_wp2_with fail
        have HJ := Lib.hid (HI.out.next HST5.out HR5.out HO5.out HF5.out HTA.out rfl)
        clear HACT HTA HI b0 b1 b2 b3 b4 x0 x1 x2 x3 y0 y1 y2 y3 y4 f0 f1 f2 f3 f4 HST5 HR5 HO5 HF5
        go_roundw
        case rel => exact ⟨i + 1, F', s1, z1, by omega, rfl, by go_num, HJ⟩
        case measure => simp [intOf]; omega
    · obtain rfl : i = q := by omega
      obtain ⟨b0, b1, b2, b3, b4, -⟩ := Blk.five (show Blk wr w2.heap.size 33 #[.slice y.o1 s.owners.length y.c1, .slice y.o2 s.conds.length y.c2, .slice y.o3 s.chans.length y.c3, .slice y.o4 s.chans.length y.c4, .slice y.o5 s.chans.length y.c5] from HI.out.loop.box)
      obtain ⟨r0, r1, r2, r3, r4, g0, g1, g2, g3, g4⟩ := Blk.five HI.out.rbox
      have HIS := Lib.hid (fun wx (hx : Below wr.heap.size wr wx) => is_any (HI.out.loop.st.below hx) (by omega) ((HI.out.loop.rs.below hx).reads))
      have HLT := Lib.hid HI.out.loop.box.lt
      have HRT := Lib.hid HI.out.rbox.lt
      go_upto_region 8 with (fail)
      go_region_with (go_at_call 29; refine (HIS.out _ ((Below.refl _ wr).drew)).mono ?_; rintro e w6 ⟨rfl, hb6⟩; have HB6 := Lib.hid (((Below.refl _ wr).drew).trans hb6); obtain ⟨y0, y1, y2, y3, y4, -⟩ := Blk.five (show Blk w6 w2.heap.size 33 #[.slice y.o1 s.owners.length y.c1, .slice y.o2 s.conds.length y.c2, .slice y.o3 s.chans.length y.c3, .slice y.o4 s.chans.length y.c4, .slice y.o5 s.chans.length y.c5] from HI.out.loop.box.below HB6.out HLT.out); obtain ⟨s0, s1, s2, s3, s4, h0, h1, h2, h3, h4⟩ := Blk.five (HI.out.rbox.below HB6.out HRT.out); clear hb6)
      all_goals
        go_wp2_with fail
        have hk := fill5_only w6 (w.heap.size + 1) (.slice y.o1 s.owners.length y.c1) (.slice y.o2 s.conds.length y.c2) (.slice y.o3 s.chans.length y.c3) (.slice y.o4 s.chans.length y.c4) (.slice y.o5 s.chans.length y.c5)
        have hsz := HLW.out.size
        exact bodyPost_ret (results_played rfl rfl (fill5_blk (HI.out.rbox.below HB6.out HRT.out))) rfl ⟨p, F, s, y, rfl,
          ((HI.out.loop.st.below HB6.out).only hk (fun b hb => by subst hb; exact ⟨by omega, fun hf => by have := HI.out.lt _ hf; omega⟩)).mono hxs,
          (HI.out.rs2.below HB6.out).end_ (hk.mono (fun b hb => .inr hb)) (fun b hb => .inl (.inl (.inl hb))), HI.out.loop.th, fun b hb => by have := HI.out.lt _ hb; omega,
          (below_trans HI.out.low HB6.out).trans (hk.below (Nat.le_trans HI.out.low.size HB6.out.size) (fun b hb => by omega))⟩
end Go.Proofs.Ytdfjbgfdaokjgaa

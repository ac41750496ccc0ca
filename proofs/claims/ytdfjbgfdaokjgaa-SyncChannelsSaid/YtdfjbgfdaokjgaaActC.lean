/-
  The law's 'act': each call by both. (Written by gen_act.py.)
-/
import Derived.Test.YtdfjbgfdaokjgaaAct0
import Derived.Test.YtdfjbgfdaokjgaaRL2
namespace Go.Proofs.Ytdfjbgfdaokjgaa
open Go.RowKit

set_option maxRecDepth 100000 in
set_option maxHeartbeats 4000000 in
theorem act_unlock {W w : World} {p N : Nat} {s : SM} {X F : Nat → Prop} {y : RLy} (hs : St W w p N s F) (hN : N ≤ 1000000) (hX : ∀ b, F b → X b) (hXw : ∀ b, X b → b < w.heap.size) (h : RSt X w y s) (n t v : Int) :
    Calls Try.prog 32 #[.pointer (some ⟨p, 0, none⟩), .agg (hdR y s), .agg #[.int .i64 1, .int .i64 n, .int .i64 t, .int .i64 v]] w (ActP W w p (N + 1) X F (unlockS s n t).1) := by
  obtain ⟨s', ee, hE⟩ : ∃ s' ee, unlockS s n t = (s', ee) := ⟨_, _, rfl⟩
  have HE := Lib.hid hE
  have hRL := fun W' hX' hr => RUnlock_any hN y s W' n t (F := fun b => X b ∨ b = w.heap.size + 1 + 1) hX' hr hs.sz
  rw [hE] at hRL ⊢
  have HS := Lib.hid hs; have HX := Lib.hid hX; have HXW := Lib.hid hXw; have HR := Lib.hid h
  have HF : Hid (∀ b, F b → b < w.heap.size) := fun b hb => (hs.lt hb).2
  have HWL := Lib.hid hs.low.size
  obtain ⟨n1, hn⟩ : ∃ n, s.owners.length = n := ⟨_, rfl⟩
  obtain ⟨nc, hnc⟩ : ∃ n, s.conds.length = n := ⟨_, rfl⟩
  obtain ⟨nh, hnh⟩ : ∃ n, s.chans.length = n := ⟨_, rfl⟩
  obtain ⟨m1, hm⟩ : ∃ n, s'.owners.length = n := ⟨_, rfl⟩
  obtain ⟨mc, hmc⟩ : ∃ n, s'.conds.length = n := ⟨_, rfl⟩
  obtain ⟨mh, hmh⟩ : ∃ n, s'.chans.length = n := ⟨_, rfl⟩
  have HM := Lib.hid hm; have HMC := Lib.hid hmc; have HMH := Lib.hid hmh
  simp only [hdR, hn, hnc, hnh, hm, hmc, hmh] at hRL ⊢
  have HRL := Lib.hid hRL
  clear hRL hn hnc hnh hm hmc hmh hs hX hXw h hE
  go_enter Try.func32, Try.ntmps32
  have hb5 := ((Blk.new' (w.alloc (.cells #[.slice y.o1 n1 y.c1, .slice y.o2 nc y.c2, .slice y.o3 nh y.c3, .slice y.o4 nh y.c4, .slice y.o5 nh y.c5] 33)) 62 #[.int .i64 1, .int .i64 n, .int .i64 t, .int .i64 v] (w.heap.size + 1) (by simp)).alloc (.cells #[nilV, nilV, nilV, nilV, nilV] 33))
  have hb6 := Blk.new' ((w.alloc (.cells #[.slice y.o1 n1 y.c1, .slice y.o2 nc y.c2, .slice y.o3 nh y.c3, .slice y.o4 nh y.c4, .slice y.o5 nh y.c5] 33)).alloc (.cells #[.int .i64 1, .int .i64 n, .int .i64 t, .int .i64 v] 62)) 33 #[nilV, nilV, nilV, nilV, nilV] (w.heap.size + 1 + 1) (by simp)
  have hl2 := below_three w (.cells #[.slice y.o1 n1 y.c1, .slice y.o2 nc y.c2, .slice y.o3 nh y.c3, .slice y.o4 nh y.c4, .slice y.o5 nh y.c5] 33) (.cells #[.int .i64 1, .int .i64 n, .int .i64 t, .int .i64 v] 62) (.cells #[nilV, nilV, nilV, nilV, nilV] 33)
  go_wp2_with fail
  generalize World.alloc (World.alloc (World.alloc _ _) _) _ = w2 at hb5 hb6 hl2 ⊢
  have hs6 := hb6.lt
  refine (HRL.out w2 (fun b hb => by rcases hb with hb | hb; have := HXW.out b hb; omega; omega) (HR.out.wide hl2 _ (fun b hb => by rcases hb with hb | hb; exact .inl hb; exact .inr (by omega)))).mono ?_
  rintro e w3 ⟨z, rfl, hst, hb3⟩
  have HB5 := Lib.hid (hb5.below hb3 hb5.lt); have HB6 := Lib.hid (hb6.below hb3 hb6.lt)
  have HL3 := Lib.hid (below_trans hl2 (hb3.mono (Nat.le_refl _)))
  have HST := Lib.hid hst
  have hs3 := hb3.size
  have HN4 := Lib.hid (Blk.new w3 33 #[.slice z.o1 m1 z.c1, .slice z.o2 mc z.c2, .slice z.o3 mh z.c3, .slice z.o4 mh z.c4, .slice z.o5 mh z.c5])
  have HB54 := Lib.hid (HB5.out.alloc (.cells #[.slice z.o1 m1 z.c1, .slice z.o2 mc z.c2, .slice z.o3 mh z.c3, .slice z.o4 mh z.c4, .slice z.o5 mh z.c5] 33))
  have HB64 := Lib.hid (HB6.out.alloc (.cells #[.slice z.o1 m1 z.c1, .slice z.o2 mc z.c2, .slice z.o3 mh z.c3, .slice z.o4 mh z.c4, .slice z.o5 mh z.c5] 33))
  have HL4 := Lib.hid (HL3.out.alloc HL3.out.size (.cells #[.slice z.o1 m1 z.c1, .slice z.o2 mc z.c2, .slice z.o3 mh z.c3, .slice z.o4 mh z.c4, .slice z.o5 mh z.c5] 33))
  have hc1 := HB54.out.cell 1; have hc2 := HB54.out.cell 2
  clear hb5 hb6 hl2 hb3 hst HRL
  go_wp2_with fail
  obtain ⟨w4, hw4⟩ : ∃ w4, w4 = w3.alloc (.cells #[.slice z.o1 m1 z.c1, .slice z.o2 mc z.c2, .slice z.o3 mh z.c3, .slice z.o4 mh z.c4, .slice z.o5 mh z.c5] 33) := ⟨_, rfl⟩
  have HW4 : Hid (Below w3.heap.size w3 w4) := Lib.hid (by rw [hw4]; exact (Below.refl _ _).alloc (Nat.le_refl _) _)
  rw [← hw4] at HN4 HB54 HB64 HL4 ⊢
  clear hw4 hc1 hc2
  have hnF : ¬ F w3.heap.size := fun hf => by have := HF.out _ hf; omega
  have hrF : ¬ F (w.heap.size + 1 + 1) := fun hf => by have := HF.out _ hf; omega
  obtain ⟨a0, a1, a2, a3, a4, -⟩ := Blk.five HN4.out
  have HPC := Lib.hid (st_unlock (HS.out.below HL4.out.drew) n t HE.out)
  have hs64 := HB64.out.lt
  have c1 := HB54.out.cell 1; have c2 := HB54.out.cell 2
  have c1' : w4.cell? ⟨w.heap.size + 1, 1, none⟩ = some (.int .i64 n) := c1
  have c2' : w4.cell? ⟨w.heap.size + 1, 2, none⟩ = some (.int .i64 t) := c2
  have hgF : ¬ F (w.heap.size + 1) := fun hf => by have := HF.out _ hf; omega
  clear c1 c2
  have hne : w.heap.size + 1 + 1 ≠ w3.heap.size := by omega
  have e2 : (ee == ee) = true := by simp
  go_wp2_with fail
  go_region_held3 (fun W' => W'.cell? ⟨w3.heap.size, 0, none⟩ = some (.slice z.o1 m1 z.c1) ∧ W'.cell? ⟨w3.heap.size, 1, none⟩ = some (.slice z.o2 mc z.c2) ∧ W'.cell? ⟨w3.heap.size, 2, none⟩ = some (.slice z.o3 mh z.c3) ∧ W'.cell? ⟨w3.heap.size, 3, none⟩ = some (.slice z.o4 mh z.c4) ∧ W'.cell? ⟨w3.heap.size, 4, none⟩ = some (.slice z.o5 mh z.c5) ∧ W'.cell? ⟨w.heap.size + 1, 1, none⟩ = some (.int .i64 n) ∧ W'.cell? ⟨w.heap.size + 1, 2, none⟩ = some (.int .i64 t))
    (first
      | go_keep
      | (go_split_ands
         exact ⟨cell_only ho5 hnF a0, cell_only ho5 hnF a1, cell_only ho5 hnF a2, cell_only ho5 hnF a3, cell_only ho5 hnF a4, cell_only ho5 hgF c1', cell_only ho5 hgF c2'⟩))
    (first
      | (go_simp; go_at_call 23; refine (num_any _ _).mono ?_; rintro e w' ⟨rfl, rfl⟩)
      | (go_simp; go_at_call 24; refine HPC.out.mono ?_; rintro e w5 ⟨rfl, F', hst5, ho5', hF5⟩; have ho5 : Only F w4 w5 := (Only.refl w4).drew.trans ho5'; have hbb := HB64.out.only ho5 hrF; obtain ⟨y0, y1, y2, y3, y4, f0, f1, f2, f3, f4⟩ := Blk.five hbb; have HB6' := Lib.hid hbb; have HST5 := Lib.hid hst5; have HO5 := Lib.hid ho5; have HF5 := Lib.hid hF5; have hs5 := ho5.size; clear hst5 ho5' hF5 hbb))
  rename_i hHeld
  clear hHeld
  go_wp2_with fail
  refine bodyPost_ret (results_c1 rfl rfl (fill5_blk HB6'.out)) rfl (act_endN HX.out HF.out HL4.out HWL.out (by omega) HW4.out (Nat.le_succ N) HST.out HST5.out HO5.out HF5.out (.slice z.o1 m1 z.c1) (.slice z.o2 mc z.c2) (.slice z.o3 mh z.c3) (.slice z.o4 mh z.c4) (.slice z.o5 mh z.c5) ?_)
  simp only [hdR, HM.out, HMC.out, HMH.out]
  rfl

set_option maxRecDepth 100000 in
set_option maxHeartbeats 4000000 in
theorem act_wait {W w : World} {p N : Nat} {s : SM} {X F : Nat → Prop} {y : RLy} (hs : St W w p N s F) (hN : N ≤ 1000000) (hX : ∀ b, F b → X b) (hXw : ∀ b, X b → b < w.heap.size) (h : RSt X w y s) (n t v : Int) :
    Calls Try.prog 32 #[.pointer (some ⟨p, 0, none⟩), .agg (hdR y s), .agg #[.int .i64 2, .int .i64 n, .int .i64 t, .int .i64 v]] w (ActP W w p (N + 1) X F (waitS s n t).1) := by
  obtain ⟨s', ee, hE⟩ : ∃ s' ee, waitS s n t = (s', ee) := ⟨_, _, rfl⟩
  have HE := Lib.hid hE
  have hRL := fun W' hX' hr => RWait_any hN y s W' n t (F := fun b => X b ∨ b = w.heap.size + 1 + 1) hX' hr hs.sz
  rw [hE] at hRL ⊢
  have HS := Lib.hid hs; have HX := Lib.hid hX; have HXW := Lib.hid hXw; have HR := Lib.hid h
  have HF : Hid (∀ b, F b → b < w.heap.size) := fun b hb => (hs.lt hb).2
  have HWL := Lib.hid hs.low.size
  obtain ⟨n1, hn⟩ : ∃ n, s.owners.length = n := ⟨_, rfl⟩
  obtain ⟨nc, hnc⟩ : ∃ n, s.conds.length = n := ⟨_, rfl⟩
  obtain ⟨nh, hnh⟩ : ∃ n, s.chans.length = n := ⟨_, rfl⟩
  obtain ⟨m1, hm⟩ : ∃ n, s'.owners.length = n := ⟨_, rfl⟩
  obtain ⟨mc, hmc⟩ : ∃ n, s'.conds.length = n := ⟨_, rfl⟩
  obtain ⟨mh, hmh⟩ : ∃ n, s'.chans.length = n := ⟨_, rfl⟩
  have HM := Lib.hid hm; have HMC := Lib.hid hmc; have HMH := Lib.hid hmh
  simp only [hdR, hn, hnc, hnh, hm, hmc, hmh] at hRL ⊢
  have HRL := Lib.hid hRL
  clear hRL hn hnc hnh hm hmc hmh hs hX hXw h hE
  go_enter Try.func32, Try.ntmps32
  have hb5 := ((Blk.new' (w.alloc (.cells #[.slice y.o1 n1 y.c1, .slice y.o2 nc y.c2, .slice y.o3 nh y.c3, .slice y.o4 nh y.c4, .slice y.o5 nh y.c5] 33)) 62 #[.int .i64 2, .int .i64 n, .int .i64 t, .int .i64 v] (w.heap.size + 1) (by simp)).alloc (.cells #[nilV, nilV, nilV, nilV, nilV] 33))
  have hb6 := Blk.new' ((w.alloc (.cells #[.slice y.o1 n1 y.c1, .slice y.o2 nc y.c2, .slice y.o3 nh y.c3, .slice y.o4 nh y.c4, .slice y.o5 nh y.c5] 33)).alloc (.cells #[.int .i64 2, .int .i64 n, .int .i64 t, .int .i64 v] 62)) 33 #[nilV, nilV, nilV, nilV, nilV] (w.heap.size + 1 + 1) (by simp)
  have hl2 := below_three w (.cells #[.slice y.o1 n1 y.c1, .slice y.o2 nc y.c2, .slice y.o3 nh y.c3, .slice y.o4 nh y.c4, .slice y.o5 nh y.c5] 33) (.cells #[.int .i64 2, .int .i64 n, .int .i64 t, .int .i64 v] 62) (.cells #[nilV, nilV, nilV, nilV, nilV] 33)
  go_wp2_with fail
  generalize World.alloc (World.alloc (World.alloc _ _) _) _ = w2 at hb5 hb6 hl2 ⊢
  have hs6 := hb6.lt
  refine (HRL.out w2 (fun b hb => by rcases hb with hb | hb; have := HXW.out b hb; omega; omega) (HR.out.wide hl2 _ (fun b hb => by rcases hb with hb | hb; exact .inl hb; exact .inr (by omega)))).mono ?_
  rintro e w3 ⟨z, rfl, hst, hb3⟩
  have HB5 := Lib.hid (hb5.below hb3 hb5.lt); have HB6 := Lib.hid (hb6.below hb3 hb6.lt)
  have HL3 := Lib.hid (below_trans hl2 (hb3.mono (Nat.le_refl _)))
  have HST := Lib.hid hst
  have hs3 := hb3.size
  have HN4 := Lib.hid (Blk.new w3 33 #[.slice z.o1 m1 z.c1, .slice z.o2 mc z.c2, .slice z.o3 mh z.c3, .slice z.o4 mh z.c4, .slice z.o5 mh z.c5])
  have HB54 := Lib.hid (HB5.out.alloc (.cells #[.slice z.o1 m1 z.c1, .slice z.o2 mc z.c2, .slice z.o3 mh z.c3, .slice z.o4 mh z.c4, .slice z.o5 mh z.c5] 33))
  have HB64 := Lib.hid (HB6.out.alloc (.cells #[.slice z.o1 m1 z.c1, .slice z.o2 mc z.c2, .slice z.o3 mh z.c3, .slice z.o4 mh z.c4, .slice z.o5 mh z.c5] 33))
  have HL4 := Lib.hid (HL3.out.alloc HL3.out.size (.cells #[.slice z.o1 m1 z.c1, .slice z.o2 mc z.c2, .slice z.o3 mh z.c3, .slice z.o4 mh z.c4, .slice z.o5 mh z.c5] 33))
  have hc1 := HB54.out.cell 1; have hc2 := HB54.out.cell 2
  clear hb5 hb6 hl2 hb3 hst HRL
  go_wp2_with fail
  obtain ⟨w4, hw4⟩ : ∃ w4, w4 = w3.alloc (.cells #[.slice z.o1 m1 z.c1, .slice z.o2 mc z.c2, .slice z.o3 mh z.c3, .slice z.o4 mh z.c4, .slice z.o5 mh z.c5] 33) := ⟨_, rfl⟩
  have HW4 : Hid (Below w3.heap.size w3 w4) := Lib.hid (by rw [hw4]; exact (Below.refl _ _).alloc (Nat.le_refl _) _)
  rw [← hw4] at HN4 HB54 HB64 HL4 ⊢
  clear hw4 hc1 hc2
  have hnF : ¬ F w3.heap.size := fun hf => by have := HF.out _ hf; omega
  have hrF : ¬ F (w.heap.size + 1 + 1) := fun hf => by have := HF.out _ hf; omega
  obtain ⟨a0, a1, a2, a3, a4, -⟩ := Blk.five HN4.out
  have HPC := Lib.hid (st_wait (HS.out.below HL4.out.drew) hN n t HE.out)
  have hs64 := HB64.out.lt
  have c1 := HB54.out.cell 1; have c2 := HB54.out.cell 2
  have c1' : w4.cell? ⟨w.heap.size + 1, 1, none⟩ = some (.int .i64 n) := c1
  have c2' : w4.cell? ⟨w.heap.size + 1, 2, none⟩ = some (.int .i64 t) := c2
  have hgF : ¬ F (w.heap.size + 1) := fun hf => by have := HF.out _ hf; omega
  clear c1 c2
  have hne : w.heap.size + 1 + 1 ≠ w3.heap.size := by omega
  have e2 : (ee == ee) = true := by simp
  go_wp2_with fail
  go_region_held3 (fun W' => W'.cell? ⟨w3.heap.size, 0, none⟩ = some (.slice z.o1 m1 z.c1) ∧ W'.cell? ⟨w3.heap.size, 1, none⟩ = some (.slice z.o2 mc z.c2) ∧ W'.cell? ⟨w3.heap.size, 2, none⟩ = some (.slice z.o3 mh z.c3) ∧ W'.cell? ⟨w3.heap.size, 3, none⟩ = some (.slice z.o4 mh z.c4) ∧ W'.cell? ⟨w3.heap.size, 4, none⟩ = some (.slice z.o5 mh z.c5) ∧ W'.cell? ⟨w.heap.size + 1, 1, none⟩ = some (.int .i64 n) ∧ W'.cell? ⟨w.heap.size + 1, 2, none⟩ = some (.int .i64 t))
    (first
      | go_keep
      | (go_split_ands
         exact ⟨cell_only ho5 hnF a0, cell_only ho5 hnF a1, cell_only ho5 hnF a2, cell_only ho5 hnF a3, cell_only ho5 hnF a4, cell_only ho5 hgF c1', cell_only ho5 hgF c2'⟩))
    (first
      | (go_simp; go_at_call 23; refine (num_any _ _).mono ?_; rintro e w' ⟨rfl, rfl⟩)
      | (go_simp; go_at_call 25; refine HPC.out.mono ?_; rintro e w5 ⟨rfl, F', hst5, ho5', hF5⟩; have ho5 : Only F w4 w5 := (Only.refl w4).drew.trans ho5'; have hbb := HB64.out.only ho5 hrF; obtain ⟨y0, y1, y2, y3, y4, f0, f1, f2, f3, f4⟩ := Blk.five hbb; have HB6' := Lib.hid hbb; have HST5 := Lib.hid hst5; have HO5 := Lib.hid ho5; have HF5 := Lib.hid hF5; have hs5 := ho5.size; clear hst5 ho5' hF5 hbb))
  rename_i hHeld
  clear hHeld
  go_wp2_with fail
  refine bodyPost_ret (results_c1 rfl rfl (fill5_blk HB6'.out)) rfl (act_endN HX.out HF.out HL4.out HWL.out (by omega) HW4.out (Nat.le_refl _) HST.out HST5.out HO5.out HF5.out (.slice z.o1 m1 z.c1) (.slice z.o2 mc z.c2) (.slice z.o3 mh z.c3) (.slice z.o4 mh z.c4) (.slice z.o5 mh z.c5) ?_)
  simp only [hdR, HM.out, HMC.out, HMH.out]
  rfl

set_option maxRecDepth 100000 in
set_option maxHeartbeats 4000000 in
theorem act_signal {W w : World} {p N : Nat} {s : SM} {X F : Nat → Prop} {y : RLy} (hs : St W w p N s F) (hN : N ≤ 1000000) (hX : ∀ b, F b → X b) (hXw : ∀ b, X b → b < w.heap.size) (h : RSt X w y s) (hTh : Th s) (n t v : Int) :
    Calls Try.prog 32 #[.pointer (some ⟨p, 0, none⟩), .agg (hdR y s), .agg #[.int .i64 3, .int .i64 n, .int .i64 t, .int .i64 v]] w (ActP W w p (N + 1) X F (signalS s n).1) := by
  obtain ⟨s', x, b, ee, hE⟩ : ∃ s' x b ee, signalS s n = (s', x, b, ee) := ⟨_, _, _, _, rfl⟩
  have HE := Lib.hid hE
  have hRL := fun W' hX' hr => RSignal_any hN y s W' n (F := fun b => X b ∨ b = w.heap.size + 1 + 1) hX' hr hs.sz
  rw [hE] at hRL ⊢
  have HS := Lib.hid hs; have HX := Lib.hid hX; have HXW := Lib.hid hXw; have HR := Lib.hid h
  have HF : Hid (∀ b, F b → b < w.heap.size) := fun b hb => (hs.lt hb).2
  have HWL := Lib.hid hs.low.size
  obtain ⟨n1, hn⟩ : ∃ n, s.owners.length = n := ⟨_, rfl⟩
  obtain ⟨nc, hnc⟩ : ∃ n, s.conds.length = n := ⟨_, rfl⟩
  obtain ⟨nh, hnh⟩ : ∃ n, s.chans.length = n := ⟨_, rfl⟩
  obtain ⟨m1, hm⟩ : ∃ n, s'.owners.length = n := ⟨_, rfl⟩
  obtain ⟨mc, hmc⟩ : ∃ n, s'.conds.length = n := ⟨_, rfl⟩
  obtain ⟨mh, hmh⟩ : ∃ n, s'.chans.length = n := ⟨_, rfl⟩
  have HM := Lib.hid hm; have HMC := Lib.hid hmc; have HMH := Lib.hid hmh
  simp only [hdR, hn, hnc, hnh, hm, hmc, hmh] at hRL ⊢
  obtain ⟨no, hno⟩ : ∃ no, orNo b x = no := ⟨_, rfl⟩
  have hq := num_signal hTh hE
  rw [hno] at hq
  simp only [hno] at hRL
  obtain ⟨hq1, hq2⟩ := hq
  have HRL := Lib.hid hRL
  clear hRL hn hnc hnh hm hmc hmh hs hX hXw h hE
  go_enter Try.func32, Try.ntmps32
  have hb5 := ((Blk.new' (w.alloc (.cells #[.slice y.o1 n1 y.c1, .slice y.o2 nc y.c2, .slice y.o3 nh y.c3, .slice y.o4 nh y.c4, .slice y.o5 nh y.c5] 33)) 62 #[.int .i64 3, .int .i64 n, .int .i64 t, .int .i64 v] (w.heap.size + 1) (by simp)).alloc (.cells #[nilV, nilV, nilV, nilV, nilV] 33))
  have hb6 := Blk.new' ((w.alloc (.cells #[.slice y.o1 n1 y.c1, .slice y.o2 nc y.c2, .slice y.o3 nh y.c3, .slice y.o4 nh y.c4, .slice y.o5 nh y.c5] 33)).alloc (.cells #[.int .i64 3, .int .i64 n, .int .i64 t, .int .i64 v] 62)) 33 #[nilV, nilV, nilV, nilV, nilV] (w.heap.size + 1 + 1) (by simp)
  have hl2 := below_three w (.cells #[.slice y.o1 n1 y.c1, .slice y.o2 nc y.c2, .slice y.o3 nh y.c3, .slice y.o4 nh y.c4, .slice y.o5 nh y.c5] 33) (.cells #[.int .i64 3, .int .i64 n, .int .i64 t, .int .i64 v] 62) (.cells #[nilV, nilV, nilV, nilV, nilV] 33)
  go_wp2_with fail
  generalize World.alloc (World.alloc (World.alloc _ _) _) _ = w2 at hb5 hb6 hl2 ⊢
  have hs6 := hb6.lt
  refine (HRL.out w2 (fun b hb => by rcases hb with hb | hb; have := HXW.out b hb; omega; omega) (HR.out.wide hl2 _ (fun b hb => by rcases hb with hb | hb; exact .inl hb; exact .inr (by omega)))).mono ?_
  rintro e w3 ⟨z, rfl, hst, hb3⟩
  have HB5 := Lib.hid (hb5.below hb3 hb5.lt); have HB6 := Lib.hid (hb6.below hb3 hb6.lt)
  have HL3 := Lib.hid (below_trans hl2 (hb3.mono (Nat.le_refl _)))
  have HST := Lib.hid hst
  have hs3 := hb3.size
  have HN4 := Lib.hid (Blk.new w3 33 #[.slice z.o1 m1 z.c1, .slice z.o2 mc z.c2, .slice z.o3 mh z.c3, .slice z.o4 mh z.c4, .slice z.o5 mh z.c5])
  have HB54 := Lib.hid (HB5.out.alloc (.cells #[.slice z.o1 m1 z.c1, .slice z.o2 mc z.c2, .slice z.o3 mh z.c3, .slice z.o4 mh z.c4, .slice z.o5 mh z.c5] 33))
  have HB64 := Lib.hid (HB6.out.alloc (.cells #[.slice z.o1 m1 z.c1, .slice z.o2 mc z.c2, .slice z.o3 mh z.c3, .slice z.o4 mh z.c4, .slice z.o5 mh z.c5] 33))
  have HL4 := Lib.hid (HL3.out.alloc HL3.out.size (.cells #[.slice z.o1 m1 z.c1, .slice z.o2 mc z.c2, .slice z.o3 mh z.c3, .slice z.o4 mh z.c4, .slice z.o5 mh z.c5] 33))
  have hc1 := HB54.out.cell 1
  clear hb5 hb6 hl2 hb3 hst HRL
  go_wp2_with fail
  obtain ⟨w4, hw4⟩ : ∃ w4, w4 = w3.alloc (.cells #[.slice z.o1 m1 z.c1, .slice z.o2 mc z.c2, .slice z.o3 mh z.c3, .slice z.o4 mh z.c4, .slice z.o5 mh z.c5] 33) := ⟨_, rfl⟩
  have HW4 : Hid (Below w3.heap.size w3 w4) := Lib.hid (by rw [hw4]; exact (Below.refl _ _).alloc (Nat.le_refl _) _)
  rw [← hw4] at HN4 HB54 HB64 HL4 ⊢
  clear hw4 hc1
  refine (st_signal (HS.out.below HL4.out) hN n HE.out).mono ?_
  rintro e w5 ⟨rfl, F', hst5, ho5, hF5⟩
  have hnF : ¬ F w3.heap.size := fun hf => by have := HF.out _ hf; omega
  have hrF : ¬ F (w.heap.size + 1 + 1) := fun hf => by have := HF.out _ hf; omega
  obtain ⟨a0, a1, a2, a3, a4, -⟩ := Blk.five (HN4.out.only ho5 hnF)
  have HB6' := Lib.hid (HB64.out.only ho5 hrF)
  obtain ⟨y0, y1, y2, y3, y4, f0, f1, f2, f3, f4⟩ := Blk.five HB6'.out
  have HST5 := Lib.hid hst5; have HO5 := Lib.hid ho5; have HF5 := Lib.hid hF5
  have hne : w.heap.size + 1 + 1 ≠ w3.heap.size := by omega
  have e1 : (b == decide (0 ≤ no)) = true := by rw [hq1]; simp
  have e3 : (x == max no 0) = true := by rw [hq2]; simp
  have e2 : (ee == ee) = true := by simp
  clear hst5 ho5 hF5
  go_wp2_with fail
  go_region_held3 (fun W' => W'.cell? ⟨w3.heap.size, 0, none⟩ = some (.slice z.o1 m1 z.c1) ∧ W'.cell? ⟨w3.heap.size, 1, none⟩ = some (.slice z.o2 mc z.c2) ∧ W'.cell? ⟨w3.heap.size, 2, none⟩ = some (.slice z.o3 mh z.c3) ∧ W'.cell? ⟨w3.heap.size, 3, none⟩ = some (.slice z.o4 mh z.c4) ∧ W'.cell? ⟨w3.heap.size, 4, none⟩ = some (.slice z.o5 mh z.c5))
    (go_keep)
    (first | (go_simp; go_at_call 23; refine (num_any _ _).mono ?_; rintro e w' ⟨rfl, rfl⟩))
  rename_i hHeld
  clear hHeld
  go_wp2_with fail
  refine bodyPost_ret (results_c1 rfl rfl (fill5_blk HB6'.out).drew) rfl (act_end' HX.out HF.out HL4.out HWL.out (by omega) HW4.out (Nat.le_succ N) HST.out HST5.out HO5.out HF5.out (.slice z.o1 m1 z.c1) (.slice z.o2 mc z.c2) (.slice z.o3 mh z.c3) (.slice z.o4 mh z.c4) (.slice z.o5 mh z.c5) ?_)
  simp only [hdR, HM.out, HMC.out, HMH.out]
  rfl

theorem all_len {N : Nat} {s : SM} (hz : Sz N s) (hN : N ≤ 1000000) {n : Int} {s' : SM} {l : List Int} {e : Int} (hE : allS s n = (s', l, e)) : l.length ≤ 1000000 := by
  unfold allS at hE
  split at hE
  · injection hE with _ hE; injection hE with hE _; subst hE; simp
  · rename_i l' hl
    injection hE with _ hE; injection hE with hE _; subst hE
    exact Nat.le_trans (hz.lc _ (List.mem_of_getElem? (at_some hl).2.2)) hN
set_option maxRecDepth 100000 in
set_option maxHeartbeats 4000000 in
theorem act_all {W w : World} {p N : Nat} {s : SM} {X F : Nat → Prop} {y : RLy} (hs : St W w p N s F) (hN : N ≤ 1000000) (hX : ∀ b, F b → X b) (hXw : ∀ b, X b → b < w.heap.size) (h : RSt X w y s) (n t v : Int) :
    Calls Try.prog 32 #[.pointer (some ⟨p, 0, none⟩), .agg (hdR y s), .agg #[.int .i64 4, .int .i64 n, .int .i64 t, .int .i64 v]] w (ActP W w p (N + 1) X F (allS s n).1) := by
  obtain ⟨s', l, ee, hE⟩ : ∃ s' l ee, allS s n = (s', l, ee) := ⟨_, _, _, rfl⟩
  have HE := Lib.hid hE
  have hRL := fun W' hX' hr => RAll_any hN y s W' n (F := fun b => X b ∨ b = w.heap.size + 1 + 1) hX' hr hs.sz
  rw [hE] at hRL ⊢
  have HS := Lib.hid hs; have HX := Lib.hid hX; have HXW := Lib.hid hXw; have HR := Lib.hid h
  have HF : Hid (∀ b, F b → b < w.heap.size) := fun b hb => (hs.lt hb).2
  have HWL := Lib.hid hs.low.size
  obtain ⟨n1, hn⟩ : ∃ n, s.owners.length = n := ⟨_, rfl⟩
  obtain ⟨nc, hnc⟩ : ∃ n, s.conds.length = n := ⟨_, rfl⟩
  obtain ⟨nh, hnh⟩ : ∃ n, s.chans.length = n := ⟨_, rfl⟩
  obtain ⟨m1, hm⟩ : ∃ n, s'.owners.length = n := ⟨_, rfl⟩
  obtain ⟨mc, hmc⟩ : ∃ n, s'.conds.length = n := ⟨_, rfl⟩
  obtain ⟨mh, hmh⟩ : ∃ n, s'.chans.length = n := ⟨_, rfl⟩
  have HM := Lib.hid hm; have HMC := Lib.hid hmc; have HMH := Lib.hid hmh
  simp only [hdR, hn, hnc, hnh, hm, hmc, hmh] at hRL ⊢
  obtain ⟨r, hr⟩ : ∃ r, l.length = r := ⟨_, rfl⟩
  have HRR := Lib.hid hr
  have hlN : l.length ≤ 1000000 := all_len hs.sz hN hE
  rw [hr] at hRL hlN
  have HRL := Lib.hid hRL
  clear hRL hn hnc hnh hm hmc hmh hs hX hXw h hE
  go_enter Try.func32, Try.ntmps32
  have hb5 := ((Blk.new' (w.alloc (.cells #[.slice y.o1 n1 y.c1, .slice y.o2 nc y.c2, .slice y.o3 nh y.c3, .slice y.o4 nh y.c4, .slice y.o5 nh y.c5] 33)) 62 #[.int .i64 4, .int .i64 n, .int .i64 t, .int .i64 v] (w.heap.size + 1) (by simp)).alloc (.cells #[nilV, nilV, nilV, nilV, nilV] 33))
  have hb6 := Blk.new' ((w.alloc (.cells #[.slice y.o1 n1 y.c1, .slice y.o2 nc y.c2, .slice y.o3 nh y.c3, .slice y.o4 nh y.c4, .slice y.o5 nh y.c5] 33)).alloc (.cells #[.int .i64 4, .int .i64 n, .int .i64 t, .int .i64 v] 62)) 33 #[nilV, nilV, nilV, nilV, nilV] (w.heap.size + 1 + 1) (by simp)
  have hl2 := below_three w (.cells #[.slice y.o1 n1 y.c1, .slice y.o2 nc y.c2, .slice y.o3 nh y.c3, .slice y.o4 nh y.c4, .slice y.o5 nh y.c5] 33) (.cells #[.int .i64 4, .int .i64 n, .int .i64 t, .int .i64 v] 62) (.cells #[nilV, nilV, nilV, nilV, nilV] 33)
  go_wp2_with fail
  generalize World.alloc (World.alloc (World.alloc _ _) _) _ = w2 at hb5 hb6 hl2 ⊢
  have hs6 := hb6.lt
  refine (HRL.out w2 (fun b hb => by rcases hb with hb | hb; have := HXW.out b hb; omega; omega) (HR.out.wide hl2 _ (fun b hb => by rcases hb with hb | hb; exact .inl hb; exact .inr (by omega)))).mono ?_
  rintro e w3 ⟨z, q, cq, rfl, hst, hb3, hqi⟩
  have HQI := Lib.hid hqi
  have HB5 := Lib.hid (hb5.below hb3 hb5.lt); have HB6 := Lib.hid (hb6.below hb3 hb6.lt)
  have HL3 := Lib.hid (below_trans hl2 (hb3.mono (Nat.le_refl _)))
  have HST := Lib.hid hst
  have hs3 := hb3.size
  have HN4 := Lib.hid (Blk.new w3 33 #[.slice z.o1 m1 z.c1, .slice z.o2 mc z.c2, .slice z.o3 mh z.c3, .slice z.o4 mh z.c4, .slice z.o5 mh z.c5])
  have HB54 := Lib.hid (HB5.out.alloc (.cells #[.slice z.o1 m1 z.c1, .slice z.o2 mc z.c2, .slice z.o3 mh z.c3, .slice z.o4 mh z.c4, .slice z.o5 mh z.c5] 33))
  have HB64 := Lib.hid (HB6.out.alloc (.cells #[.slice z.o1 m1 z.c1, .slice z.o2 mc z.c2, .slice z.o3 mh z.c3, .slice z.o4 mh z.c4, .slice z.o5 mh z.c5] 33))
  have HL4 := Lib.hid (HL3.out.alloc HL3.out.size (.cells #[.slice z.o1 m1 z.c1, .slice z.o2 mc z.c2, .slice z.o3 mh z.c3, .slice z.o4 mh z.c4, .slice z.o5 mh z.c5] 33))
  have hc1 := HB54.out.cell 1
  clear hb5 hb6 hl2 hb3 hst HRL hqi
  go_wp2_with fail
  obtain ⟨w4, hw4⟩ : ∃ w4, w4 = w3.alloc (.cells #[.slice z.o1 m1 z.c1, .slice z.o2 mc z.c2, .slice z.o3 mh z.c3, .slice z.o4 mh z.c4, .slice z.o5 mh z.c5] 33) := ⟨_, rfl⟩
  have HW4 : Hid (Below w3.heap.size w3 w4) := Lib.hid (by rw [hw4]; exact (Below.refl _ _).alloc (Nat.le_refl _) _)
  rw [← hw4] at HN4 HB54 HB64 HL4 ⊢
  clear hw4 hc1
  refine (st_all (HS.out.below HL4.out) hN n HE.out).mono ?_
  rintro e w5 ⟨u, rfl, hu, F', hst5, ho5, hF5⟩
  have hnF : ¬ F w3.heap.size := fun hf => by have := HF.out _ hf; omega
  have hrF : ¬ F (w.heap.size + 1 + 1) := fun hf => by have := HF.out _ hf; omega
  obtain ⟨a0, a1, a2, a3, a4, -⟩ := Blk.five (HN4.out.only ho5 hnF)
  have HB6' := Lib.hid (HB64.out.only ho5 hrF)
  obtain ⟨ou, cu, rfl, -⟩ := row_shape hu
  have HIU := Lib.hid (ints_of_row hu).2
  have HIQ := Lib.hid (HQI.out w5 ((Only.of_below HW4.out).trans (ho5.mono (fun b hb => .inl (HX.out b hb)))))
  have HINT := Lib.hid (ints_any ou q cu cq l l (by rw [HRR.out]; exact hlN) (by rw [HRR.out]; exact hlN) w5.drew (HIU.out.below (Below.refl _ _).drew) (HIQ.out.below (Below.refl _ _).drew))
  rw [HRR.out] at HINT
  rw [HRR.out]
  have hs5 := ho5.size
  have hs64 := HB64.out.lt
  have hs54 := HN4.out.lt
  have HST5 := Lib.hid hst5; have HO5 := Lib.hid ho5; have HF5 := Lib.hid hF5
  have hne : w.heap.size + 1 + 1 ≠ w3.heap.size := by omega
  have e2 : (ee == ee) = true := by simp
  clear hst5 ho5 hF5 hu
  go_wp2_with fail
  go_region_held3 (fun W' => W'.cell? ⟨w3.heap.size, 0, none⟩ = some (.slice z.o1 m1 z.c1) ∧ W'.cell? ⟨w3.heap.size, 1, none⟩ = some (.slice z.o2 mc z.c2) ∧ W'.cell? ⟨w3.heap.size, 2, none⟩ = some (.slice z.o3 mh z.c3) ∧ W'.cell? ⟨w3.heap.size, 3, none⟩ = some (.slice z.o4 mh z.c4) ∧ W'.cell? ⟨w3.heap.size, 4, none⟩ = some (.slice z.o5 mh z.c5))
    (first
      | go_keep
      | (go_split_ands
         exact ⟨cell_keep hb6' a0, cell_keep hb6' a1, cell_keep hb6' a2, cell_keep hb6' a3, cell_keep hb6' a4⟩))
    (first
      | (go_simp; go_at_call 23; refine (num_any _ _).mono ?_; rintro e w' ⟨rfl, rfl⟩)
      | (go_simp; go_at_call 28; refine HINT.out.mono ?_; rintro e w6 ⟨rfl, hb6⟩; have hb6' : Below w5.heap.size w5 w6 := (Below.refl _ w5).drew.trans hb6; have hbb := HB6'.out.below hb6' HB6'.out.lt; obtain ⟨y0, y1, y2, y3, y4, f0, f1, f2, f3, f4⟩ := Blk.five hbb; have HB7 := Lib.hid hbb; have hs6 := hb6'.size; clear hb6 hbb))
  rename_i hHeld
  clear hHeld
  go_wp2_with fail
  refine bodyPost_ret (results_c1 rfl rfl (fill5_blk HB7.out)) rfl (act_endN HX.out HF.out HL4.out HWL.out (by omega) HW4.out (Nat.le_succ N) HST.out (HST5.out.below hb6') (HO5.out.trans (Only.of_below hb6')) HF5.out (.slice z.o1 m1 z.c1) (.slice z.o2 mc z.c2) (.slice z.o3 mh z.c3) (.slice z.o4 mh z.c4) (.slice z.o5 mh z.c5) ?_)
  simp only [hdR, HM.out, HMC.out, HMH.out]
  rfl

set_option maxRecDepth 100000 in
set_option maxHeartbeats 4000000 in
theorem act_send {W w : World} {p N : Nat} {s : SM} {X F : Nat → Prop} {y : RLy} (hs : St W w p N s F) (hN : N ≤ 1000000) (hX : ∀ b, F b → X b) (hXw : ∀ b, X b → b < w.heap.size) (h : RSt X w y s) (n t v : Int) :
    Calls Try.prog 32 #[.pointer (some ⟨p, 0, none⟩), .agg (hdR y s), .agg #[.int .i64 5, .int .i64 n, .int .i64 t, .int .i64 v]] w (ActP W w p (N + 1) X F (sendS s n v).1) := by
  obtain ⟨s', x, b, ee, hE⟩ : ∃ s' x b ee, sendS s n v = (s', x, b, ee) := ⟨_, _, _, _, rfl⟩
  have HE := Lib.hid hE
  have hRL := fun W' hX' hr => RSend_any hN y s W' n v (F := fun b => X b ∨ b = w.heap.size + 1 + 1) hX' hr hs.sz
  rw [hE] at hRL ⊢
  have HS := Lib.hid hs; have HX := Lib.hid hX; have HXW := Lib.hid hXw; have HR := Lib.hid h
  have HF : Hid (∀ b, F b → b < w.heap.size) := fun b hb => (hs.lt hb).2
  have HWL := Lib.hid hs.low.size
  obtain ⟨n1, hn⟩ : ∃ n, s.owners.length = n := ⟨_, rfl⟩
  obtain ⟨nc, hnc⟩ : ∃ n, s.conds.length = n := ⟨_, rfl⟩
  obtain ⟨nh, hnh⟩ : ∃ n, s.chans.length = n := ⟨_, rfl⟩
  obtain ⟨m1, hm⟩ : ∃ n, s'.owners.length = n := ⟨_, rfl⟩
  obtain ⟨mc, hmc⟩ : ∃ n, s'.conds.length = n := ⟨_, rfl⟩
  obtain ⟨mh, hmh⟩ : ∃ n, s'.chans.length = n := ⟨_, rfl⟩
  have HM := Lib.hid hm; have HMC := Lib.hid hmc; have HMH := Lib.hid hmh
  simp only [hdR, hn, hnc, hnh, hm, hmc, hmh] at hRL ⊢
  obtain ⟨no, hno⟩ : ∃ no, orNo b x = no := ⟨_, rfl⟩
  have hq := num_send hE
  rw [hno] at hq
  simp only [hno] at hRL
  obtain ⟨hq1, hq2⟩ := hq
  have HRL := Lib.hid hRL
  clear hRL hn hnc hnh hm hmc hmh hs hX hXw h hE
  go_enter Try.func32, Try.ntmps32
  have hb5 := ((Blk.new' (w.alloc (.cells #[.slice y.o1 n1 y.c1, .slice y.o2 nc y.c2, .slice y.o3 nh y.c3, .slice y.o4 nh y.c4, .slice y.o5 nh y.c5] 33)) 62 #[.int .i64 5, .int .i64 n, .int .i64 t, .int .i64 v] (w.heap.size + 1) (by simp)).alloc (.cells #[nilV, nilV, nilV, nilV, nilV] 33))
  have hb6 := Blk.new' ((w.alloc (.cells #[.slice y.o1 n1 y.c1, .slice y.o2 nc y.c2, .slice y.o3 nh y.c3, .slice y.o4 nh y.c4, .slice y.o5 nh y.c5] 33)).alloc (.cells #[.int .i64 5, .int .i64 n, .int .i64 t, .int .i64 v] 62)) 33 #[nilV, nilV, nilV, nilV, nilV] (w.heap.size + 1 + 1) (by simp)
  have hl2 := below_three w (.cells #[.slice y.o1 n1 y.c1, .slice y.o2 nc y.c2, .slice y.o3 nh y.c3, .slice y.o4 nh y.c4, .slice y.o5 nh y.c5] 33) (.cells #[.int .i64 5, .int .i64 n, .int .i64 t, .int .i64 v] 62) (.cells #[nilV, nilV, nilV, nilV, nilV] 33)
  go_wp2_with fail
  generalize World.alloc (World.alloc (World.alloc _ _) _) _ = w2 at hb5 hb6 hl2 ⊢
  have hs6 := hb6.lt
  refine (HRL.out w2 (fun b hb => by rcases hb with hb | hb; have := HXW.out b hb; omega; omega) (HR.out.wide hl2 _ (fun b hb => by rcases hb with hb | hb; exact .inl hb; exact .inr (by omega)))).mono ?_
  rintro e w3 ⟨z, rfl, hst, hb3⟩
  have HB5 := Lib.hid (hb5.below hb3 hb5.lt); have HB6 := Lib.hid (hb6.below hb3 hb6.lt)
  have HL3 := Lib.hid (below_trans hl2 (hb3.mono (Nat.le_refl _)))
  have HST := Lib.hid hst
  have hs3 := hb3.size
  have HN4 := Lib.hid (Blk.new w3 33 #[.slice z.o1 m1 z.c1, .slice z.o2 mc z.c2, .slice z.o3 mh z.c3, .slice z.o4 mh z.c4, .slice z.o5 mh z.c5])
  have HB54 := Lib.hid (HB5.out.alloc (.cells #[.slice z.o1 m1 z.c1, .slice z.o2 mc z.c2, .slice z.o3 mh z.c3, .slice z.o4 mh z.c4, .slice z.o5 mh z.c5] 33))
  have HB64 := Lib.hid (HB6.out.alloc (.cells #[.slice z.o1 m1 z.c1, .slice z.o2 mc z.c2, .slice z.o3 mh z.c3, .slice z.o4 mh z.c4, .slice z.o5 mh z.c5] 33))
  have HL4 := Lib.hid (HL3.out.alloc HL3.out.size (.cells #[.slice z.o1 m1 z.c1, .slice z.o2 mc z.c2, .slice z.o3 mh z.c3, .slice z.o4 mh z.c4, .slice z.o5 mh z.c5] 33))
  have hc1 := HB54.out.cell 1; have hc3 := HB54.out.cell 3
  clear hb5 hb6 hl2 hb3 hst HRL
  go_wp2_with fail
  obtain ⟨w4, hw4⟩ : ∃ w4, w4 = w3.alloc (.cells #[.slice z.o1 m1 z.c1, .slice z.o2 mc z.c2, .slice z.o3 mh z.c3, .slice z.o4 mh z.c4, .slice z.o5 mh z.c5] 33) := ⟨_, rfl⟩
  have HW4 : Hid (Below w3.heap.size w3 w4) := Lib.hid (by rw [hw4]; exact (Below.refl _ _).alloc (Nat.le_refl _) _)
  rw [← hw4] at HN4 HB54 HB64 HL4 ⊢
  clear hw4 hc1 hc3
  refine (st_send (HS.out.below HL4.out) hN n v HE.out).mono ?_
  rintro e w5 ⟨rfl, F', hst5, ho5, hF5⟩
  have hnF : ¬ F w3.heap.size := fun hf => by have := HF.out _ hf; omega
  have hrF : ¬ F (w.heap.size + 1 + 1) := fun hf => by have := HF.out _ hf; omega
  obtain ⟨a0, a1, a2, a3, a4, -⟩ := Blk.five (HN4.out.only ho5 hnF)
  have HB6' := Lib.hid (HB64.out.only ho5 hrF)
  obtain ⟨y0, y1, y2, y3, y4, f0, f1, f2, f3, f4⟩ := Blk.five HB6'.out
  have HST5 := Lib.hid hst5; have HO5 := Lib.hid ho5; have HF5 := Lib.hid hF5
  have hne : w.heap.size + 1 + 1 ≠ w3.heap.size := by omega
  have e1 : (b == decide (0 ≤ no)) = true := by rw [hq1]; simp
  have e3 : (x == max no 0) = true := by rw [hq2]; simp
  have e2 : (ee == ee) = true := by simp
  clear hst5 ho5 hF5
  go_wp2_with fail
  go_region_held3 (fun W' => W'.cell? ⟨w3.heap.size, 0, none⟩ = some (.slice z.o1 m1 z.c1) ∧ W'.cell? ⟨w3.heap.size, 1, none⟩ = some (.slice z.o2 mc z.c2) ∧ W'.cell? ⟨w3.heap.size, 2, none⟩ = some (.slice z.o3 mh z.c3) ∧ W'.cell? ⟨w3.heap.size, 3, none⟩ = some (.slice z.o4 mh z.c4) ∧ W'.cell? ⟨w3.heap.size, 4, none⟩ = some (.slice z.o5 mh z.c5))
    (go_keep)
    (first | (go_simp; go_at_call 23; refine (num_any _ _).mono ?_; rintro e w' ⟨rfl, rfl⟩))
  rename_i hHeld
  clear hHeld
  go_wp2_with fail
  refine bodyPost_ret (results_c1 rfl rfl (fill5_blk HB6'.out).drew) rfl (act_end' HX.out HF.out HL4.out HWL.out (by omega) HW4.out (Nat.le_refl _) HST.out HST5.out HO5.out HF5.out (.slice z.o1 m1 z.c1) (.slice z.o2 mc z.c2) (.slice z.o3 mh z.c3) (.slice z.o4 mh z.c4) (.slice z.o5 mh z.c5) ?_)
  simp only [hdR, HM.out, HMC.out, HMH.out]
  rfl

set_option maxRecDepth 100000 in
set_option maxHeartbeats 4000000 in
theorem act_recv {W w : World} {p N : Nat} {s : SM} {X F : Nat → Prop} {y : RLy} (hs : St W w p N s F) (hN : N ≤ 1000000) (hX : ∀ b, F b → X b) (hXw : ∀ b, X b → b < w.heap.size) (h : RSt X w y s) (what n t v : Int) (hw0 : (what == 0) = false) (hw1 : (what == 1) = false) (hw2 : (what == 2) = false) (hw3 : (what == 3) = false) (hw4 : (what == 4) = false) (hw5 : (what == 5) = false) :
    Calls Try.prog 32 #[.pointer (some ⟨p, 0, none⟩), .agg (hdR y s), .agg #[.int .i64 what, .int .i64 n, .int .i64 t, .int .i64 v]] w (ActP W w p (N + 1) X F (recvS s n).1) := by
  obtain ⟨s', u, x, b, ee, hE⟩ : ∃ s' u x b ee, recvS s n = (s', u, x, b, ee) := ⟨_, _, _, _, _, rfl⟩
  have HE := Lib.hid hE
  have hRL := fun W' hX' hr => RRecv_any hN y s W' n (F := fun b => X b ∨ b = w.heap.size + 1 + 1) hX' hr hs.sz
  rw [hE] at hRL ⊢
  have HS := Lib.hid hs; have HX := Lib.hid hX; have HXW := Lib.hid hXw; have HR := Lib.hid h
  have HF : Hid (∀ b, F b → b < w.heap.size) := fun b hb => (hs.lt hb).2
  have HWL := Lib.hid hs.low.size
  obtain ⟨n1, hn⟩ : ∃ n, s.owners.length = n := ⟨_, rfl⟩
  obtain ⟨nc, hnc⟩ : ∃ n, s.conds.length = n := ⟨_, rfl⟩
  obtain ⟨nh, hnh⟩ : ∃ n, s.chans.length = n := ⟨_, rfl⟩
  obtain ⟨m1, hm⟩ : ∃ n, s'.owners.length = n := ⟨_, rfl⟩
  obtain ⟨mc, hmc⟩ : ∃ n, s'.conds.length = n := ⟨_, rfl⟩
  obtain ⟨mh, hmh⟩ : ∃ n, s'.chans.length = n := ⟨_, rfl⟩
  have HM := Lib.hid hm; have HMC := Lib.hid hmc; have HMH := Lib.hid hmh
  simp only [hdR, hn, hnc, hnh, hm, hmc, hmh] at hRL ⊢
  obtain ⟨no, hno⟩ : ∃ no, orNo b x = no := ⟨_, rfl⟩
  have hq := num_recv hE
  rw [hno] at hq
  simp only [hno] at hRL
  obtain ⟨hq1, hq2⟩ := hq
  have HRL := Lib.hid hRL
  clear hRL hn hnc hnh hm hmc hmh hs hX hXw h hE
  go_enter Try.func32, Try.ntmps32
  have hb5 := ((Blk.new' (w.alloc (.cells #[.slice y.o1 n1 y.c1, .slice y.o2 nc y.c2, .slice y.o3 nh y.c3, .slice y.o4 nh y.c4, .slice y.o5 nh y.c5] 33)) 62 #[.int .i64 what, .int .i64 n, .int .i64 t, .int .i64 v] (w.heap.size + 1) (by simp)).alloc (.cells #[nilV, nilV, nilV, nilV, nilV] 33))
  have hb6 := Blk.new' ((w.alloc (.cells #[.slice y.o1 n1 y.c1, .slice y.o2 nc y.c2, .slice y.o3 nh y.c3, .slice y.o4 nh y.c4, .slice y.o5 nh y.c5] 33)).alloc (.cells #[.int .i64 what, .int .i64 n, .int .i64 t, .int .i64 v] 62)) 33 #[nilV, nilV, nilV, nilV, nilV] (w.heap.size + 1 + 1) (by simp)
  have hl2 := below_three w (.cells #[.slice y.o1 n1 y.c1, .slice y.o2 nc y.c2, .slice y.o3 nh y.c3, .slice y.o4 nh y.c4, .slice y.o5 nh y.c5] 33) (.cells #[.int .i64 what, .int .i64 n, .int .i64 t, .int .i64 v] 62) (.cells #[nilV, nilV, nilV, nilV, nilV] 33)
  go_wp2_with fail
  generalize World.alloc (World.alloc (World.alloc _ _) _) _ = w2 at hb5 hb6 hl2 ⊢
  have hs6 := hb6.lt
  refine (HRL.out w2 (fun b hb => by rcases hb with hb | hb; have := HXW.out b hb; omega; omega) (HR.out.wide hl2 _ (fun b hb => by rcases hb with hb | hb; exact .inl hb; exact .inr (by omega)))).mono ?_
  rintro e w3 ⟨z, rfl, hst, hb3⟩
  have HB5 := Lib.hid (hb5.below hb3 hb5.lt); have HB6 := Lib.hid (hb6.below hb3 hb6.lt)
  have HL3 := Lib.hid (below_trans hl2 (hb3.mono (Nat.le_refl _)))
  have HST := Lib.hid hst
  have hs3 := hb3.size
  have HN4 := Lib.hid (Blk.new w3 33 #[.slice z.o1 m1 z.c1, .slice z.o2 mc z.c2, .slice z.o3 mh z.c3, .slice z.o4 mh z.c4, .slice z.o5 mh z.c5])
  have HB54 := Lib.hid (HB5.out.alloc (.cells #[.slice z.o1 m1 z.c1, .slice z.o2 mc z.c2, .slice z.o3 mh z.c3, .slice z.o4 mh z.c4, .slice z.o5 mh z.c5] 33))
  have HB64 := Lib.hid (HB6.out.alloc (.cells #[.slice z.o1 m1 z.c1, .slice z.o2 mc z.c2, .slice z.o3 mh z.c3, .slice z.o4 mh z.c4, .slice z.o5 mh z.c5] 33))
  have HL4 := Lib.hid (HL3.out.alloc HL3.out.size (.cells #[.slice z.o1 m1 z.c1, .slice z.o2 mc z.c2, .slice z.o3 mh z.c3, .slice z.o4 mh z.c4, .slice z.o5 mh z.c5] 33))
  have hc1 := HB54.out.cell 1
  clear hb5 hb6 hl2 hb3 hst HRL
  go_wp2_with fail
  obtain ⟨w4, hw4⟩ : ∃ w4, w4 = w3.alloc (.cells #[.slice z.o1 m1 z.c1, .slice z.o2 mc z.c2, .slice z.o3 mh z.c3, .slice z.o4 mh z.c4, .slice z.o5 mh z.c5] 33) := ⟨_, rfl⟩
  have HW4 : Hid (Below w3.heap.size w3 w4) := Lib.hid (by rw [hw4]; exact (Below.refl _ _).alloc (Nat.le_refl _) _)
  rw [← hw4] at HN4 HB54 HB64 HL4 ⊢
  clear hw4 hc1
  refine (st_recv (HS.out.below HL4.out) hN n HE.out).mono ?_
  rintro e w5 ⟨rfl, F', hst5, ho5, hF5⟩
  have hnF : ¬ F w3.heap.size := fun hf => by have := HF.out _ hf; omega
  have hrF : ¬ F (w.heap.size + 1 + 1) := fun hf => by have := HF.out _ hf; omega
  obtain ⟨a0, a1, a2, a3, a4, -⟩ := Blk.five (HN4.out.only ho5 hnF)
  have HB6' := Lib.hid (HB64.out.only ho5 hrF)
  obtain ⟨y0, y1, y2, y3, y4, f0, f1, f2, f3, f4⟩ := Blk.five HB6'.out
  have HST5 := Lib.hid hst5; have HO5 := Lib.hid ho5; have HF5 := Lib.hid hF5
  have hne : w.heap.size + 1 + 1 ≠ w3.heap.size := by omega
  have e1 : (b == decide (0 ≤ no)) = true := by rw [hq1]; simp
  have e3 : (x == max no 0) = true := by rw [hq2]; simp
  have e2 : (ee == ee) = true := by simp
  have e4 : (u == u) = true := by simp
  clear hst5 ho5 hF5
  go_wp2_with fail
  go_region_held3 (fun W' => W'.cell? ⟨w3.heap.size, 0, none⟩ = some (.slice z.o1 m1 z.c1) ∧ W'.cell? ⟨w3.heap.size, 1, none⟩ = some (.slice z.o2 mc z.c2) ∧ W'.cell? ⟨w3.heap.size, 2, none⟩ = some (.slice z.o3 mh z.c3) ∧ W'.cell? ⟨w3.heap.size, 3, none⟩ = some (.slice z.o4 mh z.c4) ∧ W'.cell? ⟨w3.heap.size, 4, none⟩ = some (.slice z.o5 mh z.c5))
    (go_keep)
    (first | (go_simp; go_at_call 23; refine (num_any _ _).mono ?_; rintro e w' ⟨rfl, rfl⟩))
  rename_i hHeld
  clear hHeld
  go_wp2_with fail
  refine bodyPost_ret (results_c1 rfl rfl (fill5_blk HB6'.out).drew) rfl (act_end' HX.out HF.out HL4.out HWL.out (by omega) HW4.out (Nat.le_succ N) HST.out HST5.out HO5.out HF5.out (.slice z.o1 m1 z.c1) (.slice z.o2 mc z.c2) (.slice z.o3 mh z.c3) (.slice z.o4 mh z.c4) (.slice z.o5 mh z.c5) ?_)
  simp only [hdR, HM.out, HMC.out, HMH.out]
  rfl
end Go.Proofs.Ytdfjbgfdaokjgaa

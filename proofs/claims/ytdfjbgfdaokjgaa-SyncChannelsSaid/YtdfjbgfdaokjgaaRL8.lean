/-
  The reference's Send.
-/
import Derived.Test.YtdfjbgfdaokjgaaRL6
namespace Go.Proofs.Ytdfjbgfdaokjgaa
open Go.RowKit

set_option maxRecDepth 100000 in
set_option maxHeartbeats 1000000 in
theorem rsend_out (y : RLy) (s : SM) (w : World) (m t : Int) (ho : m < 0 ∨ (s.chans.length : Int) ≤ m) :
    Calls Try.prog 61 #[.agg (hdR y s), .int .i64 m, .int .i64 t] w fun e w' => e = .returned (.tuple #[.agg (hdR y s), .int .i64 (-1), .int .i64 4]) ∧ Below w.heap.size w w' := by
  obtain ⟨n, hn⟩ : ∃ n, s.owners.length = n := ⟨_, rfl⟩
  obtain ⟨nc, hnc⟩ : ∃ n, s.conds.length = n := ⟨_, rfl⟩
  obtain ⟨nh, hnh⟩ : ∃ n, s.chans.length = n := ⟨_, rfl⟩
  simp only [hdR, hn, hnc, hnh]
  rw [hnh] at ho
  clear hn hnc hnh
  go_enter Try.func61, Try.ntmps61
  rcases Decidable.em (m < 0) with h1 | h1
  · go_wp2_with fail
    exact bodyPost_ret (results_c2 rfl rfl (Blk.new' _ _ _ _ (by simp))) rfl ⟨rfl, below_two _ _ _⟩
  · have h2 : (nh : Int) ≤ m := by omega
    go_wp2_with fail
    exact bodyPost_ret (results_c2 rfl rfl (Blk.new' _ _ _ _ (by simp))) rfl ⟨rfl, below_two _ _ _⟩


theorem cell_keep {w w' : World} {g j : Nat} {u : Value} (hb : Below w.heap.size w w') (h : w.cell? ⟨g, j, none⟩ = some u) : w'.cell? ⟨g, j, none⟩ = some u :=
  (hb.cell (p := ⟨g, j, none⟩) (World.block_lt_of_cell? w _ h)).trans h
set_option maxRecDepth 100000 in
set_option maxHeartbeats 1000000 in
theorem rsend_bad (y : RLy) (s : SM) (w : World) (m t : Int) (h1 : 0 ≤ m) (h2 : m < s.chans.length) (ht : inB (-2147483648) 2147483647 t = false) :
    Calls Try.prog 61 #[.agg (hdR y s), .int .i64 m, .int .i64 t] w fun e w' => e = .returned (.tuple #[.agg (hdR y s), .int .i64 (-1), .int .i64 2]) ∧ Below w.heap.size w w' := by
  obtain ⟨n, hn⟩ : ∃ n, s.owners.length = n := ⟨_, rfl⟩
  obtain ⟨nc, hnc⟩ : ∃ n, s.conds.length = n := ⟨_, rfl⟩
  obtain ⟨nh, hnh⟩ : ∃ n, s.chans.length = n := ⟨_, rfl⟩
  simp only [hdR, hn, hnc, hnh]
  rw [hnh] at h2
  clear hn hnc hnh
  go_enter Try.func61, Try.ntmps61
  have h3 : ¬ m < 0 := by omega
  have h4 : ¬ (nh : Int) ≤ m := by omega
  rcases Decidable.em (t < -2147483648) with h5 | h5
  · clear ht
    go_wp2_with fail
    exact bodyPost_ret (results_c2 rfl rfl (Blk.new' _ _ _ _ (by simp))) rfl ⟨rfl, below_two _ _ _⟩
  · have h6 : 2147483647 < t := by simp [inB] at ht; omega
    clear ht
    go_wp2_with fail
    exact bodyPost_ret (results_c2 rfl rfl (Blk.new' _ _ _ _ (by simp))) rfl ⟨rfl, below_two _ _ _⟩

set_option maxRecDepth 100000 in
set_option maxHeartbeats 2000000 in
theorem rsend_full (y : RLy) (s : SM) (w : World) (m t : Int) (h : RAt w y s) (h1 : 0 ≤ m) (h2 : m < s.chans.length) (ht : inB (-2147483648) 2147483647 t = true) {c : Cn} (ho : s.chans[m.toNat]? = some c) (htk : c.taken ≤ c.sent.length) (hm : c.sent.length ≤ 1000000) (hf : c.room ≤ (c.rest.length : Int)) :
    Calls Try.prog 61 #[.agg (hdR y s), .int .i64 m, .int .i64 t] w fun e w' => e = .returned (.tuple #[.agg (hdR y s), .int .i64 (-1), .int .i64 0]) ∧ Below w.heap.size w w' := by
  have HVL := Lib.hid (fun W (hb : Below w.heap.size w W) => RValues_any y s W m (h.below hb) h1 h2 ho htk hm)
  obtain ⟨k, rfl⟩ : ∃ k : Nat, m = k := ⟨m.toNat, by omega⟩
  have hck : s.chans[k]? = some c := by simpa using ho
  obtain ⟨g, off, hy⟩ := h.rooms.1 (by rw [List.length_map]; omega)
  have hr := h.rooms.2 g off hy k c.room (by rw [List.getElem?_map, hck]; rfl)
  have HRM := Lib.hid (fun W (hb : Below w.heap.size w W) => (hb.cell (p := ⟨g, off + k, none⟩) (World.block_lt_of_cell? w _ hr)).trans hr)
  have hgl : g < w.heap.size := World.block_lt_of_cell? w _ hr
  obtain ⟨room, hroom⟩ : ∃ r, c.room = r := ⟨_, rfl⟩
  obtain ⟨rl, hrl⟩ : ∃ r, c.rest.length = r := ⟨_, rfl⟩
  rw [hroom] at HRM hf
  rw [hrl] at HVL hf
  obtain ⟨n, hn⟩ : ∃ n, s.owners.length = n := ⟨_, rfl⟩
  obtain ⟨nc, hnc⟩ : ∃ n, s.conds.length = n := ⟨_, rfl⟩
  obtain ⟨nh, hnh⟩ : ∃ n, s.chans.length = n := ⟨_, rfl⟩
  simp only [hdR, hn, hnc, hnh, hy] at HVL ⊢
  rw [hnh] at h2
  clear hn hnc hnh h ho hy hr hck htk hm
  go_enter Try.func61, Try.ntmps61
  have h3 : ¬ (k : Int) < 0 := by omega
  have h4 : ¬ (nh : Int) ≤ k := by omega
  have h5 : ¬ nh ≤ k := by omega
  have h6 : ¬ t < -2147483648 := by simp [inB] at ht; omega
  have h7 : ¬ 2147483647 < t := by simp [inB] at ht; omega
  clear ht
  have ha := (Blk.new w 33 #[.slice y.o1 n y.c1, .slice y.o2 nc y.c2, .slice (some ⟨g, off, none⟩) nh y.c3, .slice y.o4 nh y.c4, .slice y.o5 nh y.c5]).alloc (.cells #[nilV, nilV, nilV, nilV, nilV] 33)
  have hb := Blk.new' (w.alloc (.cells #[.slice y.o1 n y.c1, .slice y.o2 nc y.c2, .slice (some ⟨g, off, none⟩) nh y.c3, .slice y.o4 nh y.c4, .slice y.o5 nh y.c5] 33)) 33 #[nilV, nilV, nilV, nilV, nilV] (w.heap.size + 1) (by simp)
  have hl := below_two w (.cells #[.slice y.o1 n y.c1, .slice y.o2 nc y.c2, .slice (some ⟨g, off, none⟩) nh y.c3, .slice y.o4 nh y.c4, .slice y.o5 nh y.c5] 33) (.cells #[nilV, nilV, nilV, nilV, nilV] 33)
  go_wp2_with fail
  generalize World.alloc (World.alloc _ _) _ = w2 at ha hb hl ⊢
  obtain ⟨a0, a1, a2, a3, a4, -⟩ := Blk.five ha
  have r0 := HRM.out _ hl
  have HA := Lib.hid ha; have HB := Lib.hid hb; have HL := Lib.hid hl
  have hs2 := hb.lt
  have HVW := Lib.hid (HVL.out w2.drew hl.drew)
  clear ha hb hl
  go_region_held3 (fun W' => W'.cell? ⟨w.heap.size, 0, none⟩ = some (.slice y.o1 n y.c1) ∧ W'.cell? ⟨w.heap.size, 1, none⟩ = some (.slice y.o2 nc y.c2) ∧ W'.cell? ⟨w.heap.size, 2, none⟩ = some (.slice (some ⟨g, off, none⟩) nh y.c3) ∧ W'.cell? ⟨w.heap.size, 3, none⟩ = some (.slice y.o4 nh y.c4) ∧ W'.cell? ⟨w.heap.size, 4, none⟩ = some (.slice y.o5 nh y.c5) ∧ W'.cell? ⟨g, off + k, none⟩ = some (.int .i64 room))
    (first
      | go_keep
      | (go_split_ands
         exact ⟨cell_keep hbx a0, cell_keep hbx a1, cell_keep hbx a2, cell_keep hbx a3, cell_keep hbx a4, cell_keep hbx r0⟩))
    (first | (go_simp; go_at_call 55; refine HVW.out.mono ?_; rintro e w1 ⟨q, cap, rfl, hq, hbx'⟩; have hbx : Below w2.heap.size w2 w1 := (Below.refl _ w2).drew.trans hbx'; clear hbx'))
  rename_i hHeld
  obtain ⟨a0, a1, a2, a3, a4, r0⟩ := hHeld
  have HB1 := Lib.hid (HB.out.below hbx hs2); have HL1 := Lib.hid (HL.out.trans (hbx.mono (by omega)))
  obtain ⟨y0, y1, y2, y3, y4, f0, f1, f2, f3, f4⟩ := Blk.five HB1.out
  go_wp2_with fail
  exact bodyPost_ret (results_c2 rfl rfl (fill5_blk HB1.out)) rfl ⟨rfl, HL1.out.trans ((fill5_only w1 (w.heap.size + 1) (.slice y.o1 n y.c1) (.slice y.o2 nc y.c2) (.slice (some ⟨g, off, none⟩) nh y.c3) (.slice y.o4 nh y.c4) (.slice y.o5 nh y.c5)).below HL1.out.size (fun k hk => by omega))⟩

theorem copied_at {N : Nat} (hN : N ≤ 1000000) (y : RLy) (s : SM) (w W : World) (h : RAt w y s) (hz : RSz N s) (hl : Below w.heap.size w W) (hbox : Blk W (w.heap.size + 1) 33 #[nilV, nilV, nilV, nilV, nilV]) (harg : Blk W w.heap.size 33 (hdR y s)) :
    Calls Try.prog 86 #[.agg (hdR y s)] W fun e wc => ∃ z cv cw, e = .returned (.agg (hdR z s)) ∧ Cpd w wc y z cv cw s :=
  (RCopy_sz hN y s _ (h.below hl) hz).mono fun e wc ⟨z, cv, cw, h1, h2, h3⟩ => ⟨z, cv, cw, h1, ⟨h3.rows.mono (by have := hbox.lt; omega), h3.lv, h3.lw⟩, hl.trans (h2.mono hl.size), hbox.below h2 hbox.lt, harg.below h2 harg.lt, (h.below hl).below h2⟩
end Go.Proofs.Ytdfjbgfdaokjgaa

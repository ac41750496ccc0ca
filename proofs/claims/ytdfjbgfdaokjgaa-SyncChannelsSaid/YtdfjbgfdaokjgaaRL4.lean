/-
  The reference's All.
-/
import Derived.Test.YtdfjbgfdaokjgaaRL3
namespace Go.Proofs.Ytdfjbgfdaokjgaa
open Go.RowKit

set_option maxRecDepth 100000 in
set_option maxHeartbeats 1000000 in
theorem rall_out (y : RLy) (s : SM) (w : World) (m : Int) (ho : m < 0 ∨ (s.conds.length : Int) ≤ m) :
    Calls Try.prog 60 #[.agg (hdR y s), .int .i64 m] w fun e w' => e = .returned (.tuple #[.agg (hdR y s), nilV, .int .i64 4]) ∧ Below w.heap.size w w' := by
  obtain ⟨n, hn⟩ : ∃ n, s.owners.length = n := ⟨_, rfl⟩
  obtain ⟨nc, hnc⟩ : ∃ n, s.conds.length = n := ⟨_, rfl⟩
  obtain ⟨nh, hnh⟩ : ∃ n, s.chans.length = n := ⟨_, rfl⟩
  simp only [hdR, hn, hnc, hnh]
  rw [hnc] at ho
  clear hn hnc hnh
  go_enter Try.func60, Try.ntmps60
  rcases Decidable.em (m < 0) with h1 | h1
  · go_wp2_with fail
    exact bodyPost_ret (results_c2 rfl rfl (Blk.new' _ _ _ _ (by simp))) rfl ⟨rfl, below_two _ _ _⟩
  · have h2 : (nc : Int) ≤ m := by omega
    go_wp2_with fail
    exact bodyPost_ret (results_c2 rfl rfl (Blk.new' _ _ _ _ (by simp))) rfl ⟨rfl, below_two _ _ _⟩

/-- The copy is turned, its box laid. -/
theorem Cpd.turn0 {w wc : World} {y z : RLy} {cv cw : List Value} {s : SM} (hC : Cpd w wc y z cv cw s) {g1 k : Nat} (hg : w.heap.size + 2 ≤ g1) (u : Value) (bx : Array Value) (T : TypeId) :
    Below w.heap.size w ((wc.setCell ⟨g1, k, none⟩ u).alloc (.cells bx T)) ∧ Blk ((wc.setCell ⟨g1, k, none⟩ u).alloc (.cells bx T)) (w.heap.size + 1) 33 #[nilV, nilV, nilV, nilV, nilV] ∧
    Blk ((wc.setCell ⟨g1, k, none⟩ u).alloc (.cells bx T)) w.heap.size 33 (hdR y s) ∧ Blk ((wc.setCell ⟨g1, k, none⟩ u).alloc (.cells bx T)) wc.heap.size T bx :=
  ⟨((hC.low.setCell (p := ⟨g1, k, none⟩) (by show w.heap.size ≤ g1; omega) u).alloc (by have := hC.low.size; simpa [World.setCell] using this) _),
   ((hC.box.far (p := ⟨g1, k, none⟩) (by show w.heap.size + 1 ≠ g1; omega) u).alloc _), ((hC.arg.far (p := ⟨g1, k, none⟩) (by show w.heap.size ≠ g1; omega) u).alloc _), (Blk.new' _ _ _ _ (by simp [World.setCell]))⟩

set_option maxRecDepth 100000 in
set_option maxHeartbeats 2000000 in
theorem rall_yes {N : Nat} (hN : N ≤ 1000000) (y : RLy) (s : SM) (w : World) (m : Int) (h : RAt w y s) (hz : RSz N s) (h1 : 0 ≤ m) (h2 : m < s.conds.length) {l : List Int} (ho : s.conds[m.toNat]? = some l) :
    Calls Try.prog 60 #[.agg (hdR y s), .int .i64 m] w fun e w' => ∃ z q c, e = .returned (.tuple #[.agg (hdR z { s with conds := s.conds.set m.toNat [] }), .slice q l.length c, .int .i64 0]) ∧ RNx w w' z { s with conds := s.conds.set m.toNat [] } ∧ ∃ g off, y.o2 = some ⟨g, off, none⟩ ∧ w.cell? ⟨g, off + m.toNat, none⟩ = some (.slice q l.length c) := by
  obtain ⟨k, rfl⟩ : ∃ k : Nat, m = k := ⟨m.toNat, by omega⟩
  obtain ⟨g, off, q, c, hy, -, hq, hC⟩ := h.conds.at_ (k := k) (by simpa using ho)
  have HY := Lib.hid hy
  have HC0 := Lib.hid (hC w (Below.refl _ _))
  have HC := Lib.hid hC
  have hgl : g < w.heap.size := World.block_lt_of_cell? w _ (hC w (Below.refl _ _))
  have HQ := Lib.hid (fun W (hb : Below w.heap.size w W) => hq.below hb)
  have HCP := Lib.hid (copied hN y s w h hz)
  have HOO := Lib.hid (show s.conds[k]? = some l by simpa using ho)
  obtain ⟨n, hn⟩ : ∃ n, s.owners.length = n := ⟨_, rfl⟩
  obtain ⟨nc, hnc⟩ : ∃ n, s.conds.length = n := ⟨_, rfl⟩
  obtain ⟨nh, hnh⟩ : ∃ n, s.chans.length = n := ⟨_, rfl⟩
  obtain ⟨r, hr⟩ : ∃ n, l.length = n := ⟨_, rfl⟩
  have HNC := Lib.hid hnc; have HR := Lib.hid hr
  simp only [hr] at HC
  simp only [hdR, hn, hnc, hnh, hy] at HCP
  simp only [hr] at HC0 ⊢
  simp only [hdR, List.length_set, hn, hnc, hnh] at ⊢
  rw [show (Value.slice y.o2 nc y.c2) = .slice (some ⟨g, off, none⟩) nc y.c2 by rw [hy]]
  rw [hnc] at h2
  clear hn hnc hnh h ho hz hC hq hr
  go_enter Try.func60, Try.ntmps60
  have h3 : ¬ (k : Int) < 0 := by omega
  have h4 : ¬ (nc : Int) ≤ k := by omega
  have h5 : ¬ nc ≤ k := by omega
  go_wp2_with fail
  refine HCP.out.mono ?_
  rintro e wc ⟨z, cv, cw, rfl, hC⟩
  obtain ⟨g1, v, hz1, hlt1, hlt2, hv, d0, d1, hown⟩ := hC.own.cond_cells HOO.out
  have HC2 := Lib.hid hC
  have hsz := hC.box.lt
  clear hC hown hv
  rw [hz1]
  go_wp2_with fail
  have HRO := Lib.hid (HC2.out.own.cond_read hz1 (k := k) (l' := []) (q := none) (c := 0) HOO.out (by simp) (fun W _ => IntsAt.nil _ _))
  obtain ⟨hbl, hbb, hba, hbx⟩ := HC2.out.turn0 (k := k) hlt1 nilV #[.slice z.o1 n z.c1, .slice (some ⟨g1, 0, none⟩) nc z.c2, .slice z.o3 nh z.c3, .slice z.o4 nh z.c4, .slice z.o5 nh z.c5] 33
  have HRB := Lib.hid (HRO.out.below ((Below.refl _ _).alloc (Nat.le_refl _) (.cells #[.slice z.o1 n z.c1, .slice (some ⟨g1, 0, none⟩) nc z.c2, .slice z.o3 nh z.c3, .slice z.o4 nh z.c4, .slice z.o5 nh z.c5] 33)))
  rw [List.length_nil] at HRB
  generalize World.alloc _ _ = wB at hbl hbb hba hbx HRB ⊢
  clear d0 d1 HRO
  have a1 : wB.cell? ⟨w.heap.size, 1, none⟩ = some (.slice (some ⟨g, off, none⟩) nc y.c2) := by
    have := hba.cell 1
    simpa [hdR, hy, HNC.out] using this
  have a2 := HC.out _ hbl
  obtain ⟨b0, b1, b2, b3, b4, -⟩ := Blk.five hbx
  obtain ⟨y0, y1, y2, y3, y4, f0, f1, f2, f3, f4⟩ := Blk.five hbb
  have HBL := Lib.hid hbl; have HBB := Lib.hid hbb
  have hsz2 := hbx.lt
  have hgl2 : w.heap.size + 1 ≠ g := by omega
  have hgl4 : w.heap.size + 1 ≠ wc.heap.size := by omega
  clear hbl hba hbx hbb
  go_region_held3 (fun W' => W'.cell? ⟨wc.heap.size, 0, none⟩ = some (.slice z.o1 n z.c1) ∧ W'.cell? ⟨wc.heap.size, 1, none⟩ = some (.slice (some ⟨g1, 0, none⟩) nc z.c2) ∧ W'.cell? ⟨wc.heap.size, 2, none⟩ = some (.slice z.o3 nh z.c3) ∧ W'.cell? ⟨wc.heap.size, 3, none⟩ = some (.slice z.o4 nh z.c4) ∧ W'.cell? ⟨wc.heap.size, 4, none⟩ = some (.slice z.o5 nh z.c5) ∧
      W'.cell? ⟨w.heap.size, 1, none⟩ = some (.slice (some ⟨g, off, none⟩) nc y.c2) ∧ W'.cell? ⟨g, off + k, none⟩ = some (.slice q r c))
    (go_keep)
    (fail)
  rename_i hHeld
  clear hHeld
  go_wp2_with fail
  have hfin := (RNx.fin HRB.out HBL.out (.slice z.o1 n z.c1) (.slice (some ⟨g1, 0, none⟩) nc z.c2) (.slice z.o3 nh z.c3) (.slice z.o4 nh z.c4) (.slice z.o5 nh z.c5)).drew
  exact bodyPost_ret (results_c2 rfl rfl (fill5_blk HBB.out).drew) rfl ⟨z, q, c, by rw [hz1]; rfl, hfin, g, off, HY.out, HC0.out⟩

theorem RSt.cell_free {F : Nat → Prop} {w : World} {y : RLy} {s : SM} (h : RSt F w y s) {g off k : Nat} {l : List Int} {v : Value} (hy : y.o2 = some ⟨g, off, none⟩) (hl : s.conds[k]? = some l) (hc : w.cell? ⟨g, off + k, none⟩ = some v) : ¬ F g := fun hF => by
  have h1 := h (w.setCell ⟨g, off + k, none⟩ (.bool true)) ((Only.refl w).setCell (.inl hF) _)
  obtain ⟨q, c, h2, -⟩ := h1.conds.2 g off hy k l hl
  have h3 : (w.setCell ⟨g, off + k, none⟩ (.bool true)).cell? ⟨g, off + k, none⟩ = some (.bool true) := World.cell?_setCell_same _ _ _ (by rw [hc])
  rw [h3] at h2
  cases h2
/-- A condition's list reads so all the while. -/
theorem RSt.ints {F : Nat → Prop} {w : World} {y : RLy} {s : SM} (h : RSt F w y s) {g off k : Nat} {l : List Int} {q : Option Addr} {c : Nat} (hy : y.o2 = some ⟨g, off, none⟩) (hl : s.conds[k]? = some l) (hc : w.cell? ⟨g, off + k, none⟩ = some (.slice q l.length c)) :
    ∀ W, Only F w W → IntsAt W q l := fun W ho => by
  obtain ⟨q', c', h2, -, h3⟩ := (h W ho).conds.2 g off hy k l hl
  have hb := ho.block g (World.block_lt_of_cell? w _ hc) (h.cell_free hy hl hc)
  rw [World.cell?_of_block hb, hc] at h2
  injection h2 with h2
  injection h2 with h2
  rw [h2]
  exact h3
theorem RAll_any {N : Nat} (hN : N ≤ 1000000) (y : RLy) (s : SM) (w : World) (m : Int) {F : Nat → Prop} (hF : ∀ b, F b → b < w.heap.size) (h : RSt F w y s) (hz : Sz N s) :
    Calls Try.prog 60 #[.agg (hdR y s), .int .i64 m] w fun e w' => ∃ z q c, e = .returned (.tuple #[.agg (hdR z (allS s m).1), .slice q (allS s m).2.1.length c, .int .i64 (allS s m).2.2]) ∧ RSt F w' z (allS s m).1 ∧ Below w.heap.size w w' ∧ ∀ W, Only F w' W → IntsAt W q (allS s m).2.1 := by
  cases ho : at_ s.conds m with
  | none => simp only [allS, ho]; exact (rall_out y s w m (at_none ho)).mono fun e w' ⟨h1, h2⟩ => ⟨y, none, 0, h1, h.below h2, h2, fun _ _ => IntsAt.nil _ _⟩
  | some l =>
    obtain ⟨h1, h2, h3⟩ := at_some ho
    simp only [allS, ho]
    refine (rall_yes hN y s w m h.reads hz.ref h1 h2 h3).mono fun e w' ⟨z, q, c, k1, k2, g, off, k3, k4⟩ => ⟨z, q, c, k1, k2.st hF, k2.low, fun W hO => h.ints k3 h3 k4 W ((Only.of_below k2.low).trans hO)⟩
end Go.Proofs.Ytdfjbgfdaokjgaa

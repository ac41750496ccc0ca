/-
  The reference's Unlock.
-/
import Derived.Test.YtdfjbgfdaokjgaaRL1
namespace Go.Proofs.Ytdfjbgfdaokjgaa
open Go.RowKit

set_option maxRecDepth 100000 in
set_option maxHeartbeats 1000000 in
theorem runlock_out (y : RLy) (s : SM) (w : World) (m t : Int) (ho : m < 0 ∨ (s.owners.length : Int) ≤ m) :
    Calls Try.prog 57 #[.agg (hdR y s), .int .i64 m, .int .i64 t] w fun e w' => e = .returned (.tuple #[.agg (hdR y s), .int .i64 4]) ∧ Below w.heap.size w w' := by
  obtain ⟨n, hn⟩ : ∃ n, s.owners.length = n := ⟨_, rfl⟩
  obtain ⟨nc, hnc⟩ : ∃ n, s.conds.length = n := ⟨_, rfl⟩
  obtain ⟨nh, hnh⟩ : ∃ n, s.chans.length = n := ⟨_, rfl⟩
  simp only [hdR, hn, hnc, hnh]
  rw [hn] at ho
  clear hn hnc hnh
  go_enter Try.func57, Try.ntmps57
  rcases Decidable.em (m < 0) with h1 | h1
  · go_wp2_with fail
    exact bodyPost_ret (results_c1 rfl rfl (Blk.new' _ _ _ _ (by simp))) rfl ⟨rfl, below_two _ _ _⟩
  · have h2 : (n : Int) ≤ m := by omega
    go_wp2_with fail
    exact bodyPost_ret (results_c1 rfl rfl (Blk.new' _ _ _ _ (by simp))) rfl ⟨rfl, below_two _ _ _⟩

set_option maxRecDepth 100000 in
set_option maxHeartbeats 1000000 in
theorem runlock_bad (y : RLy) (s : SM) (w : World) (m t : Int) (h1 : 0 ≤ m) (h2 : m < s.owners.length) (ht : inB 0 7 t = false) :
    Calls Try.prog 57 #[.agg (hdR y s), .int .i64 m, .int .i64 t] w fun e w' => e = .returned (.tuple #[.agg (hdR y s), .int .i64 2]) ∧ Below w.heap.size w w' := by
  obtain ⟨n, hn⟩ : ∃ n, s.owners.length = n := ⟨_, rfl⟩
  obtain ⟨nc, hnc⟩ : ∃ n, s.conds.length = n := ⟨_, rfl⟩
  obtain ⟨nh, hnh⟩ : ∃ n, s.chans.length = n := ⟨_, rfl⟩
  simp only [hdR, hn, hnc, hnh]
  rw [hn] at h2
  clear hn hnc hnh
  go_enter Try.func57, Try.ntmps57
  have h3 : ¬ m < 0 := by omega
  have h4 : ¬ (n : Int) ≤ m := by omega
  go_wp2_with fail
  refine (rthread_any t _).mono ?_
  rintro e w1 ⟨rfl, rfl⟩
  rw [ht]
  go_wp2_with fail
  exact bodyPost_ret (results_c1 rfl rfl (Blk.new' _ _ _ _ (by simp))) rfl ⟨rfl, below_two _ _ _⟩

set_option maxRecDepth 100000 in
set_option maxHeartbeats 1000000 in
theorem runlock_no (y : RLy) (s : SM) (w : World) (m t : Int) (h : RAt w y s) (h1 : 0 ≤ m) (h2 : m < s.owners.length) (ht : inB 0 7 t = true) {o : Int} (ho : s.owners[m.toNat]? = some o) (h0 : o ≠ t) :
    Calls Try.prog 57 #[.agg (hdR y s), .int .i64 m, .int .i64 t] w fun e w' => e = .returned (.tuple #[.agg (hdR y s), .int .i64 140]) ∧ Below w.heap.size w w' := by
  obtain ⟨k, rfl⟩ : ∃ k : Nat, m = k := ⟨m.toNat, by omega⟩
  obtain ⟨g, off, hy⟩ := h.owners.1 (by omega)
  have HC := Lib.hid (fun W (hb : Below w.heap.size w W) => (hb.cell (p := ⟨g, off + k, none⟩) (World.block_lt_of_cell? w _ (h.owners.2 g off hy k o (by simpa using ho)))).trans (h.owners.2 g off hy k o (by simpa using ho)))
  obtain ⟨n, hn⟩ : ∃ n, s.owners.length = n := ⟨_, rfl⟩
  obtain ⟨nc, hnc⟩ : ∃ n, s.conds.length = n := ⟨_, rfl⟩
  obtain ⟨nh, hnh⟩ : ∃ n, s.chans.length = n := ⟨_, rfl⟩
  simp only [hdR, hn, hnc, hnh, hy]
  rw [hn] at h2
  clear hn hnc hnh h ho hy
  go_enter Try.func57, Try.ntmps57
  have h3 : ¬ (k : Int) < 0 := by omega
  have h4 : ¬ (n : Int) ≤ k := by omega
  have h5 : ¬ n ≤ k := by omega
  have h6 : (o != t) = true := bne_iff_ne.2 h0
  clear h0
  go_wp2_with fail
  refine (rthread_any t _).mono ?_
  rintro e w1 ⟨rfl, rfl⟩
  rw [ht]
  have c0 := HC.out _ (below_two w (.cells #[.slice (some ⟨g, off, none⟩) n y.c1, .slice y.o2 nc y.c2, .slice y.o3 nh y.c3, .slice y.o4 nh y.c4, .slice y.o5 nh y.c5] 33) (.cells #[nilV, nilV, nilV, nilV, nilV] 33))
  go_wp2_with fail
  exact bodyPost_ret (results_c1 rfl rfl (Blk.new' _ _ _ _ (by simp))) rfl ⟨rfl, below_two _ _ _⟩

set_option maxRecDepth 100000 in
set_option maxHeartbeats 2000000 in
theorem runlock_yes {N : Nat} (hN : N ≤ 1000000) (y : RLy) (s : SM) (w : World) (m t : Int) (h : RAt w y s) (hz : RSz N s) (h1 : 0 ≤ m) (h2 : m < s.owners.length) (ht : inB 0 7 t = true) {o : Int} (ho : s.owners[m.toNat]? = some o) (h0 : o = t) :
    Calls Try.prog 57 #[.agg (hdR y s), .int .i64 m, .int .i64 t] w fun e w' => ∃ z, e = .returned (.tuple #[.agg (hdR z { s with owners := s.owners.set m.toNat (-1) }), .int .i64 0]) ∧ RNx w w' z { s with owners := s.owners.set m.toNat (-1) } := by
  obtain ⟨k, rfl⟩ : ∃ k : Nat, m = k := ⟨m.toNat, by omega⟩
  obtain ⟨g, off, hy⟩ := h.owners.1 (by omega)
  have HC := Lib.hid (fun W (hb : Below w.heap.size w W) => (hb.cell (p := ⟨g, off + k, none⟩) (World.block_lt_of_cell? w _ (h.owners.2 g off hy k o (by simpa using ho)))).trans (h.owners.2 g off hy k o (by simpa using ho)))
  have HCP := Lib.hid (copied hN y s w h hz)
  have HS := Lib.hid h2
  have HOO := Lib.hid (show s.owners[k]? = some o by simpa using ho)
  obtain ⟨n, hn⟩ : ∃ n, s.owners.length = n := ⟨_, rfl⟩
  obtain ⟨nc, hnc⟩ : ∃ n, s.conds.length = n := ⟨_, rfl⟩
  obtain ⟨nh, hnh⟩ : ∃ n, s.chans.length = n := ⟨_, rfl⟩
  have HN := Lib.hid hn; have HNC := Lib.hid hnc; have HNH := Lib.hid hnh
  simp only [hdR, List.length_set, hn, hnc, hnh, hy] at HCP ⊢
  rw [hn] at h2
  clear hn hnc hnh h ho hy hz
  go_enter Try.func57, Try.ntmps57
  have h3 : ¬ (k : Int) < 0 := by omega
  have h4 : ¬ (n : Int) ≤ k := by omega
  have h5 : ¬ n ≤ k := by omega
  have h6 : (o != t) = false := by rw [bne_eq_false_iff_eq]; exact h0
  clear h0
  go_wp2_with fail
  refine (rthread_any t _).mono ?_
  rintro e w1 ⟨rfl, rfl⟩
  rw [ht]
  have c0 := HC.out _ (below_two w (.cells #[.slice (some ⟨g, off, none⟩) n y.c1, .slice y.o2 nc y.c2, .slice y.o3 nh y.c3, .slice y.o4 nh y.c4, .slice y.o5 nh y.c5] 33) (.cells #[nilV, nilV, nilV, nilV, nilV] 33))
  go_wp2_with fail
  refine HCP.out.mono ?_
  rintro e wc ⟨z, cv, cw, rfl, hC⟩
  have hr := hC.own.abc (r := ⟨3, 1, .slice z.o1 s.owners.length z.c1, s.owners.length, s.owners.map (Value.int .i64)⟩) (by simp [abcR])
  dsimp only at hr
  obtain ⟨g1, c1', hz1, -⟩ := hr.form (by have := HS.out; omega)
  injection hz1 with hz1 _ hcc
  have hg1 := hC.own.owner hz1 k (-1)
  have hl1 : w.heap.size + 2 ≤ g1 ∧ g1 < wc.heap.size := hr.lt g1 (by simp [hz1, Value.ownBlock])
  rw [hz1] at hr
  have d0 := hr.cellAt k (by have := HS.out; omega)
  rw [List.getElem?_map, HOO.out] at d0
  have d1 := hr.frozenAt k
  have HO := Lib.hid hg1
  have HC2 := Lib.hid hC
  obtain ⟨hlt1, hlt2⟩ := hl1
  simp only [Option.map_some] at d0
  obtain ⟨y0, y1, y2, y3, y4, f0, f1, f2, f3, f4⟩ := Blk.five hC.box
  have hsz := hC.box.lt
  clear hC hg1 hr
  rw [hz1]
  go_wp2_with fail
  obtain ⟨hR, hB⟩ := HC2.out.done HO.out ((Only.refl wc).setCell (p := ⟨g1, k, none⟩) (.inl hlt1) _) (.cells #[.slice (some ⟨g1, 0, none⟩) n c1', .slice z.o2 nc z.c2, .slice z.o3 nh z.c3, .slice z.o4 nh z.c4, .slice z.o5 nh z.c5] 33) (.slice (some ⟨g1, 0, none⟩) n c1') (.slice z.o2 nc z.c2) (.slice z.o3 nh z.c3) (.slice z.o4 nh z.c4) (.slice z.o5 nh z.c5)
  exact bodyPost_ret (results_c1 rfl rfl hB) rfl ⟨z, by rw [hz1, hcc]; rfl, hR⟩
theorem RUnlock_any {N : Nat} (hN : N ≤ 1000000) (y : RLy) (s : SM) (w : World) (m t : Int) {F : Nat → Prop} (hF : ∀ b, F b → b < w.heap.size) (h : RSt F w y s) (hz : Sz N s) :
    Calls Try.prog 57 #[.agg (hdR y s), .int .i64 m, .int .i64 t] w fun e w' => ∃ z, e = .returned (.tuple #[.agg (hdR z (unlockS s m t).1), .int .i64 (unlockS s m t).2]) ∧ RSt F w' z (unlockS s m t).1 ∧ Below w.heap.size w w' := by
  cases ho : at_ s.owners m with
  | none => simp only [unlockS, ho]; exact (runlock_out y s w m t (at_none ho)).mono fun e w' ⟨h1, h2⟩ => ⟨y, h1, h.below h2, h2⟩
  | some o =>
    obtain ⟨h1, h2, h3⟩ := at_some ho
    cases ht : inB 0 7 t with
    | false => simp only [unlockS, ho, ht, if_true]; exact (runlock_bad y s w m t h1 h2 ht).mono fun e w' ⟨h1, h2⟩ => ⟨y, h1, h.below h2, h2⟩
    | true =>
      by_cases hm : o = t
      · simp only [unlockS, ho, ht, hm, if_true, Bool.true_eq_false, if_false]; exact (runlock_yes hN y s w m t h.reads hz.ref h1 h2 ht h3 hm).mono fun e w' ⟨z, h1, h2⟩ => ⟨z, h1, h2.st hF, h2.low⟩
      · simp only [unlockS, ho, ht, hm, Bool.true_eq_false, if_false]; exact (runlock_no y s w m t h.reads h1 h2 ht h3 hm).mono fun e w' ⟨h1, h2⟩ => ⟨y, h1, h.below h2, h2⟩
end Go.Proofs.Ytdfjbgfdaokjgaa

/-
  What a reference's call answers: its state out of a box, and what stands beside it. The reference's Lock.
-/
import Derived.Test.YtdfjbgfdaokjgaaROwn
namespace Go.Proofs.Ytdfjbgfdaokjgaa
open Go.RowKit

set_option maxRecDepth 100000 in
theorem rthread_any (t : Int) (w : World) : Calls Try.prog 85 #[.int .i64 t] w fun e w' => e = .returned (.bool (inB 0 7 t)) ∧ w' = w := by
  rcases Decidable.em (0 ≤ t) with h1 | h1
  · rcases Decidable.em (t < 8) with h2 | h2
    all_goals
      go_enter Try.func85, Try.ntmps85
      go_wp2_with fail
      go_ret
      refine ⟨?_, rfl⟩
      simp [inB]; try omega
  · go_enter Try.func85, Try.ntmps85
    go_wp2_with fail
    go_ret
    refine ⟨?_, rfl⟩
    simp [inB]; try omega

theorem below_fill {B g : Nat} {a w : World} (h : Below B a w) (hg : B ≤ g) (u0 u1 u2 u3 u4 : Value) : Below B a (((((w.setCell ⟨g, 0, none⟩ u0).setCell ⟨g, 1, none⟩ u1).setCell ⟨g, 2, none⟩ u2).setCell ⟨g, 3, none⟩ u3).setCell ⟨g, 4, none⟩ u4) :=
  ((((h.setCell hg u0).setCell hg u1).setCell hg u2).setCell hg u3).setCell hg u4
theorem below_two (w : World) (o1 o2 : Obj) : Below w.heap.size w ((w.alloc o1).alloc o2) := ((Below.refl _ w).alloc (Nat.le_refl _) _).alloc (by simp) _

section
variable {w : World} {g : Nat} {a b c d e : Value} {fn : Func} {tm : Array Value} {k x y z : Tmp}
set_option maxRecDepth 100000 in
theorem load_sync (h : Blk w g 33 #[a, b, c, d, e]) : (loadVar 33 ⟨g, 0, none⟩).run Try.prog w = .ok (.agg #[a, b, c, d, e]) w := by
  obtain ⟨y0, y1, y2, y3, y4, _⟩ := h.five
  simp [go_sem, y0, y1, y2, y3, y4]
theorem results_c1 (h : fn.results = #[.cell k 33, .tmp x]) (hc : tm.getD k undef = .pointer (some ⟨g, 0, none⟩)) (hb : Blk w g 33 #[a, b, c, d, e]) :
    (results fn tm).run Try.prog w = .ok (.tuple #[.agg #[a, b, c, d, e], tm.getD x undef]) w := by
  simp only [results, h, Array.mapM_eq_mapM_toList, List.mapM_cons, List.mapM_nil]
  simp [hc, asAddr, load_sync hb]
theorem results_c2 (h : fn.results = #[.cell k 33, .tmp x, .tmp y]) (hc : tm.getD k undef = .pointer (some ⟨g, 0, none⟩)) (hb : Blk w g 33 #[a, b, c, d, e]) :
    (results fn tm).run Try.prog w = .ok (.tuple #[.agg #[a, b, c, d, e], tm.getD x undef, tm.getD y undef]) w := by
  simp only [results, h, Array.mapM_eq_mapM_toList, List.mapM_cons, List.mapM_nil]
  simp [hc, asAddr, load_sync hb]
theorem results_c3 (h : fn.results = #[.cell k 33, .tmp x, .tmp y, .tmp z]) (hc : tm.getD k undef = .pointer (some ⟨g, 0, none⟩)) (hb : Blk w g 33 #[a, b, c, d, e]) :
    (results fn tm).run Try.prog w = .ok (.tuple #[.agg #[a, b, c, d, e], tm.getD x undef, tm.getD y undef, tm.getD z undef]) w := by
  simp only [results, h, Array.mapM_eq_mapM_toList, List.mapM_cons, List.mapM_nil]
  simp [hc, asAddr, load_sync hb]
end

theorem ROwn.only {X : Nat → Prop} {w w' : World} {base : Nat} {z : RLy} {cv cw : List Value} {s : SM} (h : ROwn w base z cv cw s) (ho : Only X w w') (hx : ∀ b, X b → b < base) : ROwn w' base z cv cw s :=
  ⟨h.rows.only ho (fun b hb hX => by have := (h.rows.lt hb).1; have := hx b hX; omega), h.lv, h.lw⟩
theorem ROwn.below {w w' : World} {base : Nat} {z : RLy} {cv cw : List Value} {s : SM} (h : ROwn w base z cv cw s) (hb : Below w.heap.size w w') : ROwn w' base z cv cw s :=
  h.only (Only.of_below (X := fun _ => False) hb) (fun _ h => h.elim)
/-- A box is filled. -/
def fill5 (w : World) (g : Nat) (u0 u1 u2 u3 u4 : Value) : World := ((((w.setCell ⟨g, 0, none⟩ u0).setCell ⟨g, 1, none⟩ u1).setCell ⟨g, 2, none⟩ u2).setCell ⟨g, 3, none⟩ u3).setCell ⟨g, 4, none⟩ u4
theorem fill5_blk {w : World} {g : Nat} {T : TypeId} {a b c d e u0 u1 u2 u3 u4 : Value} (h : Blk w g T #[a, b, c, d, e]) : Blk (fill5 w g u0 u1 u2 u3 u4) g T #[u0, u1, u2, u3, u4] := by
  have := ((((h.set_ 0 u0).set_ 1 u1).set_ 2 u2).set_ 3 u3).set_ 4 u4
  simpa [fill5] using this
theorem fill5_only (w : World) (g : Nat) (u0 u1 u2 u3 u4 : Value) : Only (fun b => b = g) w (fill5 w g u0 u1 u2 u3 u4) :=
  (((((Only.refl w).setCell (X := fun b => b = g) (p := ⟨g, 0, none⟩) (.inl rfl) u0).setCell (p := ⟨g, 1, none⟩) (.inl rfl) u1).setCell (p := ⟨g, 2, none⟩) (.inl rfl) u2).setCell (p := ⟨g, 3, none⟩) (.inl rfl) u3).setCell (p := ⟨g, 4, none⟩) (.inl rfl) u4
section
variable {w w' W : World} {base g : Nat} {z : RLy} {cv cw : List Value} {s : SM}
/-- It reads so, whatever is turned below. -/
def ROut (w : World) (base : Nat) (z : RLy) (s : SM) : Prop := ∀ W, Only (fun b => b < base) w W → RAt W z s
theorem ROwn.out_ (h : ROwn w base z cv cw s) : ROut w base z s := fun _ ho => (h.only ho (fun _ h => h)).reads
theorem ROut.only {X : Nat → Prop} (h : ROut w base z s) (ho : Only X w w') (hx : ∀ b, X b → b < base) : ROut w' base z s := fun W k => h W ((ho.mono hx).trans k)
theorem ROut.below (h : ROut w base z s) (hb : Below w.heap.size w w') : ROut w' base z s := h.only (Only.of_below (X := fun _ => False) hb) (fun _ h => h.elim)
theorem ROut.reads (h : ROut w base z s) : RAt w z s := h w (Only.refl w)
theorem ROut.mono {base' : Nat} (h : ROut w base z s) (hb : base' ≤ base) : ROut w base' z s := fun W ho => h W (ho.mono (fun _ hb' => Nat.lt_of_lt_of_le hb' hb))
/-- It reads so, whatever is turned of some blocks. -/
def RSt (F : Nat → Prop) (w : World) (y : RLy) (s : SM) : Prop := ∀ w', Only F w w' → RAt w' y s
theorem RSt.reads {F : Nat → Prop} (h : RSt F w z s) : RAt w z s := h w (Only.refl w)
theorem RSt.below {F : Nat → Prop} (h : RSt F w z s) (hb : Below w.heap.size w w') : RSt F w' z s := fun w'' ho => h w'' ((Only.of_below hb).trans ho)
end
/-- What a reference's call leaves: a state that reads so, out of rows that are new. -/
structure RNx (w w' : World) (y : RLy) (s : SM) : Prop where
  new : ROut w' w.heap.size y s
  low : Below w.heap.size w w'
/-- How large a reference's state may be. -/
structure RSz (N : Nat) (s : SM) : Prop where
  no : s.owners.length ≤ 64
  nc : s.conds.length ≤ 64
  nh : s.chans.length ≤ 64
  lc : ∀ z ∈ s.conds, z.length ≤ N
  ls : ∀ z ∈ s.chans.map (·.sent), z.length ≤ N
theorem Sz.ref {N : Nat} {s : SM} (h : Sz N s) : RSz N s := ⟨h.no, h.nc, h.nh, h.lc, fun z hz => by
  obtain ⟨c, hc, rfl⟩ := List.mem_map.1 hz
  exact (h.lh c hc).1⟩
theorem RCopy_sz {N : Nat} (hN : N ≤ 1000000) (y : RLy) (s : SM) (w : World) (h : RAt w y s) (hz : RSz N s) : Calls Try.prog 86 #[.agg (hdR y s)] w fun e w' => ∃ z cv cw, e = .returned (.agg (hdR z s)) ∧ Below w.heap.size w w' ∧ ROwn w' w.heap.size z cv cw s :=
  (RCopy_any y s w h hz.no hz.nc (fun z hl => Nat.le_trans (hz.lc z hl) hN) hz.nh (fun z hl => Nat.le_trans (hz.ls z hl) hN)).mono fun _ _ h => h.own
/-- Behind the copy: the argument's box, the answer's, the copy's rows. -/
structure Cpd (w wc : World) (y z : RLy) (cv cw : List Value) (s : SM) : Prop where
  own : ROwn wc (w.heap.size + 2) z cv cw s
  low : Below w.heap.size w wc
  box : Blk wc (w.heap.size + 1) 33 #[nilV, nilV, nilV, nilV, nilV]
  arg : Blk wc w.heap.size 33 (hdR y s)
  reads : RAt wc y s
theorem copied {N : Nat} (hN : N ≤ 1000000) (y : RLy) (s : SM) (w : World) (h : RAt w y s) (hz : RSz N s) :
    Calls Try.prog 86 #[.agg (hdR y s)] ((w.alloc (.cells (hdR y s) 33)).alloc (.cells #[nilV, nilV, nilV, nilV, nilV] 33)) fun e wc => ∃ z cv cw, e = .returned (.agg (hdR z s)) ∧ Cpd w wc y z cv cw s :=
  (RCopy_sz hN y s _ (h.below (below_two w _ _)) hz).mono fun e wc ⟨z, cv, cw, h1, h2, h3⟩ => ⟨z, cv, cw, h1, by simpa using h3, (below_two w _ _).trans (h2.mono (by simp; omega)), (Blk.new' _ _ _ _ (by simp)).below h2 (by simp),
    ((Blk.new w _ _).alloc _).below h2 (by simp; omega), (h.below (below_two w _ _)).below h2⟩
/-- The end: the copy, turned, as it lies in the answer's box. -/
theorem RNx.filled {w wx : World} {z : RLy} {cv cw : List Value} {s' : SM} {base : Nat} (h : ROwn wx base z cv cw s') (hb : w.heap.size + 1 < base) (hl : Below w.heap.size w wx) (u0 u1 u2 u3 u4 : Value) : RNx w (fill5 wx (w.heap.size + 1) u0 u1 u2 u3 u4) z s' :=
  ⟨(h.out_.only (fill5_only _ _ _ _ _ _ _) (fun b hb' => by omega)).mono (by omega), hl.trans ((fill5_only wx (w.heap.size + 1) u0 u1 u2 u3 u4).below hl.size (fun k hk => by omega))⟩
theorem RNx.alloc {w w' : World} {y : RLy} {s : SM} (h : RNx w w' y s) (o : Obj) : RNx w (w'.alloc o) y s := ⟨h.new.below ((Below.refl _ w').alloc (Nat.le_refl _) o), h.low.alloc h.low.size o⟩
theorem RNx.st {w w' : World} {y : RLy} {s : SM} {F : Nat → Prop} (h : RNx w w' y s) (hF : ∀ b, F b → b < w.heap.size) : RSt F w' y s := fun w'' ho => h.new w'' (ho.mono hF)
theorem Cpd.done {w wc wx : World} {y z : RLy} {cv cw : List Value} {s s' : SM} (hC : Cpd w wc y z cv cw s) (h : ROwn wx (w.heap.size + 2) z cv cw s') (hx : Only (fun b => w.heap.size + 2 ≤ b) wc wx) (o : Obj) (u0 u1 u2 u3 u4 : Value) :
    RNx w ((fill5 wx (w.heap.size + 1) u0 u1 u2 u3 u4).alloc o) z s' ∧ Blk ((fill5 wx (w.heap.size + 1) u0 u1 u2 u3 u4).alloc o) (w.heap.size + 1) 33 #[u0, u1, u2, u3, u4] :=
  ⟨(RNx.filled h (by omega) (hC.low.trans (hx.below hC.low.size (fun k hk => by omega))) _ _ _ _ _).alloc o, (fill5_blk (hC.box.only hx (by omega))).alloc o⟩

set_option maxRecDepth 100000 in
set_option maxHeartbeats 1000000 in
theorem rlock_out (y : RLy) (s : SM) (w : World) (m t : Int) (ho : m < 0 ∨ (s.owners.length : Int) ≤ m) :
    Calls Try.prog 56 #[.agg (hdR y s), .int .i64 m, .int .i64 t] w fun e w' => e = .returned (.tuple #[.agg (hdR y s), .bool false, .int .i64 4]) ∧ Below w.heap.size w w' := by
  obtain ⟨n, hn⟩ : ∃ n, s.owners.length = n := ⟨_, rfl⟩
  obtain ⟨nc, hnc⟩ : ∃ n, s.conds.length = n := ⟨_, rfl⟩
  obtain ⟨nh, hnh⟩ : ∃ n, s.chans.length = n := ⟨_, rfl⟩
  simp only [hdR, hn, hnc, hnh]
  rw [hn] at ho
  clear hn hnc hnh
  go_enter Try.func56, Try.ntmps56
  rcases Decidable.em (m < 0) with h1 | h1
  · go_wp2_with fail
    exact bodyPost_ret (results_c2 rfl rfl (Blk.new' _ _ _ _ (by simp))) rfl ⟨rfl, below_two _ _ _⟩
  · have h2 : (n : Int) ≤ m := by omega
    go_wp2_with fail
    exact bodyPost_ret (results_c2 rfl rfl (Blk.new' _ _ _ _ (by simp))) rfl ⟨rfl, below_two _ _ _⟩

set_option maxRecDepth 100000 in
set_option maxHeartbeats 1000000 in
theorem rlock_bad (y : RLy) (s : SM) (w : World) (m t : Int) (h1 : 0 ≤ m) (h2 : m < s.owners.length) (ht : inB 0 7 t = false) :
    Calls Try.prog 56 #[.agg (hdR y s), .int .i64 m, .int .i64 t] w fun e w' => e = .returned (.tuple #[.agg (hdR y s), .bool false, .int .i64 2]) ∧ Below w.heap.size w w' := by
  obtain ⟨n, hn⟩ : ∃ n, s.owners.length = n := ⟨_, rfl⟩
  obtain ⟨nc, hnc⟩ : ∃ n, s.conds.length = n := ⟨_, rfl⟩
  obtain ⟨nh, hnh⟩ : ∃ n, s.chans.length = n := ⟨_, rfl⟩
  simp only [hdR, hn, hnc, hnh]
  rw [hn] at h2
  clear hn hnc hnh
  go_enter Try.func56, Try.ntmps56
  have h3 : ¬ m < 0 := by omega
  have h4 : ¬ (n : Int) ≤ m := by omega
  go_wp2_with fail
  refine (rthread_any t _).mono ?_
  rintro e w1 ⟨rfl, rfl⟩
  rw [ht]
  go_wp2_with fail
  exact bodyPost_ret (results_c2 rfl rfl (Blk.new' _ _ _ _ (by simp))) rfl ⟨rfl, below_two _ _ _⟩

set_option maxRecDepth 100000 in
set_option maxHeartbeats 1000000 in
theorem rlock_no (y : RLy) (s : SM) (w : World) (m t : Int) (h : RAt w y s) (h1 : 0 ≤ m) (h2 : m < s.owners.length) (ht : inB 0 7 t = true) {o : Int} (ho : s.owners[m.toNat]? = some o) (h0 : 0 ≤ o) :
    Calls Try.prog 56 #[.agg (hdR y s), .int .i64 m, .int .i64 t] w fun e w' => e = .returned (.tuple #[.agg (hdR y s), .bool false, .int .i64 0]) ∧ Below w.heap.size w w' := by
  obtain ⟨k, rfl⟩ : ∃ k : Nat, m = k := ⟨m.toNat, by omega⟩
  obtain ⟨g, off, hy⟩ := h.owners.1 (by omega)
  have HC := Lib.hid (fun W (hb : Below w.heap.size w W) => (hb.cell (p := ⟨g, off + k, none⟩) (World.block_lt_of_cell? w _ (h.owners.2 g off hy k o (by simpa using ho)))).trans (h.owners.2 g off hy k o (by simpa using ho)))
  obtain ⟨n, hn⟩ : ∃ n, s.owners.length = n := ⟨_, rfl⟩
  obtain ⟨nc, hnc⟩ : ∃ n, s.conds.length = n := ⟨_, rfl⟩
  obtain ⟨nh, hnh⟩ : ∃ n, s.chans.length = n := ⟨_, rfl⟩
  simp only [hdR, hn, hnc, hnh, hy]
  rw [hn] at h2
  clear hn hnc hnh h ho hy
  go_enter Try.func56, Try.ntmps56
  have h3 : ¬ (k : Int) < 0 := by omega
  have h4 : ¬ (n : Int) ≤ k := by omega
  have h5 : ¬ n ≤ k := by omega
  go_wp2_with fail
  refine (rthread_any t _).mono ?_
  rintro e w1 ⟨rfl, rfl⟩
  rw [ht]
  have c0 := HC.out _ (below_two w (.cells #[.slice (some ⟨g, off, none⟩) n y.c1, .slice y.o2 nc y.c2, .slice y.o3 nh y.c3, .slice y.o4 nh y.c4, .slice y.o5 nh y.c5] 33) (.cells #[nilV, nilV, nilV, nilV, nilV] 33))
  go_wp2_with fail
  exact bodyPost_ret (results_c2 rfl rfl (Blk.new' _ _ _ _ (by simp))) rfl ⟨rfl, below_two _ _ _⟩

set_option maxRecDepth 100000 in
set_option maxHeartbeats 2000000 in
theorem rlock_yes {N : Nat} (hN : N ≤ 1000000) (y : RLy) (s : SM) (w : World) (m t : Int) (h : RAt w y s) (hz : RSz N s) (h1 : 0 ≤ m) (h2 : m < s.owners.length) (ht : inB 0 7 t = true) {o : Int} (ho : s.owners[m.toNat]? = some o) (h0 : o < 0) :
    Calls Try.prog 56 #[.agg (hdR y s), .int .i64 m, .int .i64 t] w fun e w' => ∃ z, e = .returned (.tuple #[.agg (hdR z { s with owners := s.owners.set m.toNat t }), .bool true, .int .i64 0]) ∧ RNx w w' z { s with owners := s.owners.set m.toNat t } := by
  obtain ⟨k, rfl⟩ : ∃ k : Nat, m = k := ⟨m.toNat, by omega⟩
  obtain ⟨g, off, hy⟩ := h.owners.1 (by omega)
  have HC := Lib.hid (fun W (hb : Below w.heap.size w W) => (hb.cell (p := ⟨g, off + k, none⟩) (World.block_lt_of_cell? w _ (h.owners.2 g off hy k o (by simpa using ho)))).trans (h.owners.2 g off hy k o (by simpa using ho)))
  have HCP := Lib.hid (copied hN y s w h hz)
  have HS := Lib.hid h2
  have HOO := Lib.hid (show s.owners[k]? = some o by simpa using ho)
  obtain ⟨n, hn⟩ : ∃ n, s.owners.length = n := ⟨_, rfl⟩
  obtain ⟨nc, hnc⟩ : ∃ n, s.conds.length = n := ⟨_, rfl⟩
  obtain ⟨nh, hnh⟩ : ∃ n, s.chans.length = n := ⟨_, rfl⟩
  have HN := Lib.hid hn; have HNC := Lib.hid hnc; have HNH := Lib.hid hnh
  simp only [hdR, List.length_set, hn, hnc, hnh, hy] at HCP ⊢
  rw [hn] at h2
  clear hn hnc hnh h ho hy hz
  go_enter Try.func56, Try.ntmps56
  have h3 : ¬ (k : Int) < 0 := by omega
  have h4 : ¬ (n : Int) ≤ k := by omega
  have h5 : ¬ n ≤ k := by omega
  have h6 : ¬ 0 ≤ o := by omega
  go_wp2_with fail
  refine (rthread_any t _).mono ?_
  rintro e w1 ⟨rfl, rfl⟩
  rw [ht]
  have c0 := HC.out _ (below_two w (.cells #[.slice (some ⟨g, off, none⟩) n y.c1, .slice y.o2 nc y.c2, .slice y.o3 nh y.c3, .slice y.o4 nh y.c4, .slice y.o5 nh y.c5] 33) (.cells #[nilV, nilV, nilV, nilV, nilV] 33))
  go_wp2_with fail
  refine HCP.out.mono ?_
  rintro e wc ⟨z, cv, cw, rfl, hC⟩
  have hr := hC.own.abc (r := ⟨3, 1, .slice z.o1 s.owners.length z.c1, s.owners.length, s.owners.map (Value.int .i64)⟩) (by simp [abcR])
  dsimp only at hr
  obtain ⟨g1, c1', hz1, -⟩ := hr.form (by have := HS.out; omega)
  injection hz1 with hz1 _ hcc
  have hg1 := hC.own.owner hz1 k t
  have hl1 : w.heap.size + 2 ≤ g1 ∧ g1 < wc.heap.size := hr.lt g1 (by simp [hz1, Value.ownBlock])
  rw [hz1] at hr
  have d0 := hr.cellAt k (by have := HS.out; omega)
  rw [List.getElem?_map, HOO.out] at d0
  have d1 := hr.frozenAt k
  have HO := Lib.hid hg1
  have HC2 := Lib.hid hC
  obtain ⟨hlt1, hlt2⟩ := hl1
  simp only [Option.map_some] at d0
  obtain ⟨y0, y1, y2, y3, y4, f0, f1, f2, f3, f4⟩ := Blk.five hC.box
  have hsz := hC.box.lt
  clear hC hg1 hr
  rw [hz1]
  go_wp2_with fail
  obtain ⟨hR, hB⟩ := HC2.out.done HO.out ((Only.refl wc).setCell (p := ⟨g1, k, none⟩) (.inl hlt1) _) (.cells #[.slice (some ⟨g1, 0, none⟩) n c1', .slice z.o2 nc z.c2, .slice z.o3 nh z.c3, .slice z.o4 nh z.c4, .slice z.o5 nh z.c5] 33) (.slice (some ⟨g1, 0, none⟩) n c1') (.slice z.o2 nc z.c2) (.slice z.o3 nh z.c3) (.slice z.o4 nh z.c4) (.slice z.o5 nh z.c5)
  exact bodyPost_ret (results_c2 rfl rfl hB) rfl ⟨z, by rw [hz1, hcc]; rfl, hR⟩
theorem RLock_any {N : Nat} (hN : N ≤ 1000000) (y : RLy) (s : SM) (w : World) (m t : Int) {F : Nat → Prop} (hF : ∀ b, F b → b < w.heap.size) (h : RSt F w y s) (hz : Sz N s) :
    Calls Try.prog 56 #[.agg (hdR y s), .int .i64 m, .int .i64 t] w fun e w' => ∃ z, e = .returned (.tuple #[.agg (hdR z (lockS s m t).1), .bool (lockS s m t).2.1, .int .i64 (lockS s m t).2.2]) ∧ RSt F w' z (lockS s m t).1 ∧ Below w.heap.size w w' := by
  cases ho : at_ s.owners m with
  | none => simp only [lockS, ho]; exact (rlock_out y s w m t (at_none ho)).mono fun e w' ⟨h1, h2⟩ => ⟨y, h1, h.below h2, h2⟩
  | some o =>
    obtain ⟨h1, h2, h3⟩ := at_some ho
    have hown := hz.own o (List.mem_of_getElem? h3)
    cases ht : inB 0 7 t with
    | false => simp only [lockS, ho, ht, if_true]; exact (rlock_bad y s w m t h1 h2 ht).mono fun e w' ⟨h1, h2⟩ => ⟨y, h1, h.below h2, h2⟩
    | true =>
      by_cases hm : o = -1
      · simp only [lockS, ho, ht, hm, if_true, Bool.true_eq_false, if_false]; exact (rlock_yes hN y s w m t h.reads hz.ref h1 h2 ht h3 (by omega)).mono fun e w' ⟨z, h1, h2⟩ => ⟨z, h1, h2.st hF, h2.low⟩
      · simp only [lockS, ho, ht, hm, Bool.true_eq_false, if_false]; exact (rlock_no y s w m t h.reads h1 h2 ht h3 (by omega)).mono fun e w' ⟨h1, h2⟩ => ⟨y, h1, h.below h2, h2⟩
end Go.Proofs.Ytdfjbgfdaokjgaa

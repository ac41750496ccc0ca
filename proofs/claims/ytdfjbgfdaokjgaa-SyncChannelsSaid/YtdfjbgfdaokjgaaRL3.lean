/-
  The reference's Signal.
-/
import Derived.Test.YtdfjbgfdaokjgaaRL1
import Derived.StillTailTactics
import Derived.Deep.RegionHeld3
namespace Go.Proofs.Ytdfjbgfdaokjgaa
open Go.RowKit

theorem ListsAt.at_ {w : World} {o : Option Addr} {ls : List (List Int)} (h : ListsAt w o ls) {k : Nat} {l : List Int} (hl : ls[k]? = some l) : ∃ g off q c, o = some ⟨g, off, none⟩ ∧ (l.length ≤ c ∧ c ≤ 9223372036854775807) ∧ IntsAt w q l ∧ ∀ W, Below w.heap.size w W → W.cell? ⟨g, off + k, none⟩ = some (.slice q l.length c) := by
  obtain ⟨g, off, hy⟩ := h.1 (by have := (List.getElem?_eq_some_iff.1 hl).1; omega)
  obtain ⟨q, c, h1, hc, h2⟩ := h.2 g off hy k l hl
  exact ⟨g, off, q, c, hy, hc, h2, fun W hb => (hb.cell (p := ⟨g, off + k, none⟩) (World.block_lt_of_cell? w _ h1)).trans h1⟩

theorem ints_drop' {w : World} {base n c : Nat} {T : TypeId} {g : Nat} {zs : List Int} (h : w.ownsRow base T 1 (.slice (some ⟨g, 0, none⟩) n c) n (zs.map (Value.int .i64))) (k : Nat) : IntsAt w (some ⟨g, k, none⟩) (zs.drop k) :=
  ⟨fun _ => ⟨g, k, rfl⟩, fun g' off he j z hz => by
    injection he with he
    injection he with e1 e2
    subst e1; subst e2
    obtain ⟨hn, _⟩ := ints_of_row h
    rw [List.getElem?_drop] at hz
    have hlt := (List.getElem?_eq_some_iff.1 hz).1
    rw [h.cellAt (k + j) (by omega), List.getElem?_map, hz]; rfl⟩
/-- A region whose first operations read, in any order, and whose last ones come one behind the other. -/
theorem still_tail {P : Program} {id : Nat} {Q : Exit → Act → World → Prop} {a : Act} {w : World} {l : List Oper} (n : Nat) (hm : P.follows .mixedOrders = true) (hB : Region.lexTailB .any l.toArray n = true)
    (h : wpStill P l.toArray w.drew (fun a' => wpList P l.toArray Q (l.drop n) a' w.drew) (l.take n) a) : (Code.region id l.toArray true).wp P Q a w :=
  wp_region_still_tail n hm hB h

set_option maxRecDepth 100000 in
set_option maxHeartbeats 1000000 in
theorem rsignal_out (y : RLy) (s : SM) (w : World) (m : Int) (ho : m < 0 ∨ (s.conds.length : Int) ≤ m) :
    Calls Try.prog 59 #[.agg (hdR y s), .int .i64 m] w fun e w' => e = .returned (.tuple #[.agg (hdR y s), .int .i64 (-1), .int .i64 4]) ∧ Below w.heap.size w w' := by
  obtain ⟨n, hn⟩ : ∃ n, s.owners.length = n := ⟨_, rfl⟩
  obtain ⟨nc, hnc⟩ : ∃ n, s.conds.length = n := ⟨_, rfl⟩
  obtain ⟨nh, hnh⟩ : ∃ n, s.chans.length = n := ⟨_, rfl⟩
  simp only [hdR, hn, hnc, hnh]
  rw [hnc] at ho
  clear hn hnc hnh
  go_enter Try.func59, Try.ntmps59
  rcases Decidable.em (m < 0) with h1 | h1
  · go_wp2_with fail
    exact bodyPost_ret (results_c2 rfl rfl (Blk.new' _ _ _ _ (by simp))) rfl ⟨rfl, below_two _ _ _⟩
  · have h2 : (nc : Int) ≤ m := by omega
    go_wp2_with fail
    exact bodyPost_ret (results_c2 rfl rfl (Blk.new' _ _ _ _ (by simp))) rfl ⟨rfl, below_two _ _ _⟩

set_option maxRecDepth 100000 in
set_option maxHeartbeats 1000000 in
theorem rsignal_nil (y : RLy) (s : SM) (w : World) (m : Int) (h : RAt w y s) (h1 : 0 ≤ m) (h2 : m < s.conds.length) (ho : s.conds[m.toNat]? = some []) :
    Calls Try.prog 59 #[.agg (hdR y s), .int .i64 m] w fun e w' => e = .returned (.tuple #[.agg (hdR y s), .int .i64 (-1), .int .i64 0]) ∧ Below w.heap.size w w' := by
  obtain ⟨k, rfl⟩ : ∃ k : Nat, m = k := ⟨m.toNat, by omega⟩
  obtain ⟨g, off, q, c, hy, -, -, hC⟩ := h.conds.at_ (k := k) (by simpa using ho)
  have HC := Lib.hid hC
  obtain ⟨n, hn⟩ : ∃ n, s.owners.length = n := ⟨_, rfl⟩
  obtain ⟨nc, hnc⟩ : ∃ n, s.conds.length = n := ⟨_, rfl⟩
  obtain ⟨nh, hnh⟩ : ∃ n, s.chans.length = n := ⟨_, rfl⟩
  simp only [hdR, hn, hnc, hnh, hy]
  rw [hnc] at h2
  clear hn hnc hnh h ho hy hC
  go_enter Try.func59, Try.ntmps59
  have h3 : ¬ (k : Int) < 0 := by omega
  have h4 : ¬ (nc : Int) ≤ k := by omega
  have h5 : ¬ nc ≤ k := by omega
  have c0 := HC.out _ (below_two w (.cells #[.slice y.o1 n y.c1, .slice (some ⟨g, off, none⟩) nc y.c2, .slice y.o3 nh y.c3, .slice y.o4 nh y.c4, .slice y.o5 nh y.c5] 33) (.cells #[nilV, nilV, nilV, nilV, nilV] 33))
  go_wp2_with fail
  exact bodyPost_ret (results_c2 rfl rfl (Blk.new' _ _ _ _ (by simp))) rfl ⟨rfl, below_two _ _ _⟩

/-- One condition is turned, where the list lies in the row that it lay in, or is told apart by being none. -/
theorem ROwn.cond_cells {w : World} {base : Nat} {z : RLy} {cv cw : List Value} {s : SM} (h : ROwn w base z cv cw s) {k : Nat} {l : List Int} (hl : s.conds[k]? = some l) :
    ∃ g v, z.o2 = some ⟨g, 0, none⟩ ∧ base ≤ g ∧ g < w.heap.size ∧ cv[k]? = some v ∧ w.cell? ⟨g, k, none⟩ = some v ∧ w.frozen? ⟨g, k, none⟩ = false ∧ w.ownsRow base 3 1 v l.length (l.map (Value.int .i64)) := by
  have hr : w.ownsRow base 22 1 (.slice z.o2 s.conds.length z.c2) s.conds.length cv := h.rows.of_mem (r := ⟨22, 1, .slice z.o2 s.conds.length z.c2, s.conds.length, cv⟩) (List.mem_cons_of_mem _ (List.mem_append_right _ (List.mem_cons_self)))
  have hk : k < s.conds.length := (List.getElem?_eq_some_iff.1 hl).1
  obtain ⟨v, hv⟩ : ∃ v, cv[k]? = some v := ⟨_, List.getElem?_eq_getElem (by rw [h.lv]; exact hk)⟩
  obtain ⟨g, c', e, -⟩ := hr.form (by omega)
  injection e with e1
  have hlt := hr.lt g (by simp [e1, Value.ownBlock])
  rw [e1] at hr
  exact ⟨g, v, e1, hlt.1, hlt.2, hv, by rw [hr.cellAt k (by omega), hv], hr.frozenAt k, h.rows.of_mem (r := ⟨3, 1, v, l.length, l.map (Value.int .i64)⟩) (List.mem_cons_of_mem _ (List.mem_append_right _ (List.mem_cons_of_mem _ (mem_crows_of hv hl))))⟩
theorem ownsRow_kind {w : World} {b1 b2 : Nat} {T1 T2 : TypeId} {k1 k2 n1 n2 : Nat} {v1 v2 : Value} {xs1 xs2 : List Value} (h1 : w.ownsRow b1 T1 k1 v1 n1 xs1) (h2 : w.ownsRow b2 T2 k2 v2 n2 xs2) (hT : T1 ≠ T2) {g : Nat} (hg : v1.ownBlock = some g) : v2.ownBlock ≠ some g := by
  intro hg2
  rcases h1.2 with ⟨rfl, _⟩ | ⟨g1, _, _, rfl, _, hh1, _⟩
  · cases hg
  rcases h2.2 with ⟨rfl, _⟩ | ⟨g2, _, _, rfl, _, hh2, _⟩
  · cases hg2
  obtain rfl : g1 = g := by simpa [Value.ownBlock] using hg
  obtain rfl : g2 = g1 := by simpa [Value.ownBlock] using hg2
  rw [hh1] at hh2
  injection hh2 with hh2
  injection hh2 with _ hh2 _
  exact hT hh2
section
variable {w w' : World} {base g : Nat} {z : RLy} {cv cw : List Value} {s : SM}
theorem ROwn.headC (h : ROwn w base z cv cw s) : w.ownsRow base 22 1 (.slice z.o2 s.conds.length z.c2) s.conds.length cv := h.rows.of_mem (r := ⟨22, 1, .slice z.o2 s.conds.length z.c2, s.conds.length, cv⟩) (List.mem_cons_of_mem _ (List.mem_append_right _ (List.mem_cons_self)))
/-- All rows but those of one kind lie as they lay. -/
theorem ROwn.keep (h : ROwn w base z cv cw s) (hz : z.o2 = some ⟨g, 0, none⟩) (k : Nat) (u : Value) {W : World} (ho : Only (fun b => b < base) (w.setCell ⟨g, k, none⟩ u) W) : ∀ r, r ∈ rlist z cv cw s → r.e ≠ 22 → W.ownsRow base r.e r.k r.v r.n r.xs := fun r hr hT =>
  ownsRow_block (h.rows.of_mem hr) (fun b hb => by
    have hH := h.headC
    have hne : b ≠ g := fun e => ownsRow_kind hH (h.rows.of_mem hr) (Ne.symm hT) (g := g) (by simp [hz, Value.ownBlock]) (by rw [← e]; exact hb)
    have hl := (h.rows.of_mem hr).lt b hb
    rw [ho.block b (by have := hl.2; simpa [World.setCell] using this) (by omega)]
    exact Below.heap_setCell _ _ _ _ (fun e => hne e))
/-- One condition is turned to whatever reads so, elsewhere: all the rest reads as it did. -/
theorem ROwn.cond_read (h : ROwn w base z cv cw s) (hz : z.o2 = some ⟨g, 0, none⟩) {k : Nat} {l l' : List Int} {q : Option Addr} {c : Nat} (hl : s.conds[k]? = some l) (hcap : l'.length ≤ c ∧ c ≤ 9223372036854775807)
    (hi : ∀ W, Only (fun b => b < base) (w.setCell ⟨g, k, none⟩ (.slice q l'.length c)) W → IntsAt W q l') :
    ROut (w.setCell ⟨g, k, none⟩ (.slice q l'.length c)) base z { s with conds := s.conds.set k l' } := by
  intro W hO
  have hH := h.headC
  have hk : k < s.conds.length := (List.getElem?_eq_some_iff.1 hl).1
  have own' := h.keep hz k (.slice q l'.length c) hO
  have abc' : ∀ r, r ∈ abcR z s → W.ownsRow base r.e r.k r.v r.n r.xs := fun r hr => own' r (by rw [rlist_eq]; exact List.mem_append_right _ hr) (by
    simp only [abcR, List.mem_cons, List.not_mem_nil, or_false] at hr
    rcases hr with rfl | rfl | rfl <;> (show 3 ≠ 22; decide))
  rw [hz] at hH
  have hst0 := (hH.stored k (.slice q l'.length c)).1
  have hst := ownsRow_block (w' := W) hst0 (fun b hb => by
    have hl := hst0.lt b hb
    exact hO.block b hl.2 (by omega))
  refine ⟨?_, ?_, ?_, ?_, ?_⟩
  · exact (ints_of_row (abc' ⟨3, 1, .slice z.o1 s.owners.length z.c1, s.owners.length, s.owners.map (Value.int .i64)⟩ (by simp [abcR]))).2
  · refine ⟨fun _ => ⟨g, 0, hz⟩, fun g' off he j lj hj => ?_⟩
    rw [hz] at he
    injection he with he
    injection he with e1 e2
    subst e1; subst e2
    rw [Nat.zero_add]
    have hjl : j < s.conds.length := by have := (List.getElem?_eq_some_iff.1 hj).1; simpa using this
    have hc := hst.cellAt j (by omega)
    rw [hc]
    by_cases e : k = j
    · subst e
      rw [List.getElem?_set_self hk] at hj
      injection hj with hj
      subst hj
      exact ⟨q, c, by rw [List.getElem?_set_self (by rw [h.lv]; exact hk)], hcap, hi W hO⟩
    · rw [List.getElem?_set_ne e] at hj
      obtain ⟨v, hv⟩ : ∃ v, cv[j]? = some v := ⟨_, List.getElem?_eq_getElem (by rw [h.lv]; exact hjl)⟩
      have hr := own' ⟨3, 1, v, lj.length, lj.map (Value.int .i64)⟩ (List.mem_cons_of_mem _ (List.mem_append_right _ (List.mem_cons_of_mem _ (mem_crows_of hv hj)))) (by show 3 ≠ 22; decide)
      dsimp only at hr
      obtain ⟨qv, cq, rfl, -⟩ := row_shape hr
      exact ⟨qv, cq, by rw [List.getElem?_set_ne e, hv], row_cap' hr, (ints_of_row hr).2⟩
  · exact (ints_of_row (abc' ⟨3, 1, .slice z.o3 s.chans.length z.c3, s.chans.length, (s.chans.map (·.room)).map (Value.int .i64)⟩ (by simp [abcR]))).2
  · exact lists_of (n := s.chans.length) (T := 2) (own' _ (List.mem_cons_self) (by show 47 ≠ 22; decide)) (by rw [List.length_map]; exact h.lw) (fun j v l hv hl => own' ⟨2, 1, v, l.length, l.map (Value.int .i64)⟩ (List.mem_cons_of_mem _ (mem_crows_of hv hl)) (by show 2 ≠ 22; decide))
  · exact (ints_of_row (abc' ⟨3, 1, .slice z.o5 s.chans.length z.c5, s.chans.length, (s.chans.map (fun c => (c.taken : Int))).map (Value.int .i64)⟩ (by simp [abcR]))).2
theorem RNx.drew {y : RLy} (h : RNx w w' y s) : RNx w w'.drew y s := ⟨h.new.below (Below.refl _ _).drew, h.low.drew⟩
/-- The copy is turned, its box laid. -/
theorem Cpd.turn {w wc : World} {y : RLy} (hC : Cpd w wc y z cv cw s) {g1 k : Nat} (hg : w.heap.size + 2 ≤ g1) (u : Value) (bx : Array Value) (T : TypeId) :
    Below w.heap.size w (((wc.setCell ⟨g1, k, none⟩ u).alloc (.cells bx T)).drew) ∧ Blk (((wc.setCell ⟨g1, k, none⟩ u).alloc (.cells bx T)).drew) (w.heap.size + 1) 33 #[nilV, nilV, nilV, nilV, nilV] ∧
    Blk (((wc.setCell ⟨g1, k, none⟩ u).alloc (.cells bx T)).drew) w.heap.size 33 (hdR y s) ∧ Blk (((wc.setCell ⟨g1, k, none⟩ u).alloc (.cells bx T)).drew) wc.heap.size T bx :=
  ⟨(((hC.low.setCell (p := ⟨g1, k, none⟩) (by show w.heap.size ≤ g1; omega) u).alloc (by have := hC.low.size; simpa [World.setCell] using this) _)).trans (Below.refl _ _).drew,
   ((hC.box.far (p := ⟨g1, k, none⟩) (by show w.heap.size + 1 ≠ g1; omega) u).alloc _).drew, ((hC.arg.far (p := ⟨g1, k, none⟩) (by show w.heap.size ≠ g1; omega) u).alloc _).drew, (Blk.new' _ _ _ _ (by simp [World.setCell])).drew⟩
theorem RNx.fin {w W : World} (h : ROut W (w.heap.size + 2) z s) (hl : Below w.heap.size w W) (u0 u1 u2 u3 u4 : Value) : RNx w (fill5 W (w.heap.size + 1) u0 u1 u2 u3 u4) z s :=
  ⟨(h.only (fill5_only _ _ _ _ _ _ _) (fun b hb => by omega)).mono (by omega), hl.trans ((fill5_only W (w.heap.size + 1) u0 u1 u2 u3 u4).below hl.size (fun k hk => by omega))⟩

end

set_option maxRecDepth 100000 in
set_option maxHeartbeats 2000000 in
theorem rsignal_yes {N : Nat} (hN : N ≤ 1000000) (y : RLy) (s : SM) (w : World) (m : Int) (h : RAt w y s) (hz : RSz N s) (h1 : 0 ≤ m) (h2 : m < s.conds.length) {x : Int} {l : List Int} (ho : s.conds[m.toNat]? = some (x :: l)) :
    Calls Try.prog 59 #[.agg (hdR y s), .int .i64 m] w fun e w' => ∃ z, e = .returned (.tuple #[.agg (hdR z { s with conds := s.conds.set m.toNat l }), .int .i64 x, .int .i64 0]) ∧ RNx w w' z { s with conds := s.conds.set m.toNat l } := by
  obtain ⟨k, rfl⟩ : ∃ k : Nat, m = k := ⟨m.toNat, by omega⟩
  obtain ⟨g, off, q, c, hy, -, hq, hC⟩ := h.conds.at_ (k := k) (by simpa using ho)
  obtain ⟨gq, oq, rfl⟩ := hq.1 (by simp)
  have hqx : w.cell? ⟨gq, oq, none⟩ = some (.int .i64 x) := by have := hq.2 gq oq rfl 0 x rfl; rwa [Nat.add_zero] at this
  rw [List.length_cons] at hC
  obtain ⟨r, hr⟩ : ∃ r, l.length = r := ⟨_, rfl⟩
  have hrN : r + 1 ≤ 1000000 := by have := hz.lc _ (List.mem_of_getElem? ho); simp at this; omega
  rw [hr] at hC
  have HC := Lib.hid hC
  have hgl : g < w.heap.size := World.block_lt_of_cell? w _ (hC w (Below.refl _ _))
  have hql : gq < w.heap.size := World.block_lt_of_cell? w _ hqx
  have HQ := Lib.hid (fun W (hb : Below w.heap.size w W) => (hb.cell (p := ⟨gq, oq, none⟩) (World.block_lt_of_cell? w _ hqx)).trans hqx)
  have HCP := Lib.hid (copied hN y s w h hz)
  have HS := Lib.hid h2
  have HR := Lib.hid hr
  have HOO := Lib.hid (show s.conds[k]? = some (x :: l) by simpa using ho)
  obtain ⟨n, hn⟩ : ∃ n, s.owners.length = n := ⟨_, rfl⟩
  obtain ⟨nc, hnc⟩ : ∃ n, s.conds.length = n := ⟨_, rfl⟩
  obtain ⟨nh, hnh⟩ : ∃ n, s.chans.length = n := ⟨_, rfl⟩
  have HN := Lib.hid hn; have HNC := Lib.hid hnc; have HNH := Lib.hid hnh
  simp only [hdR, List.length_set, hn, hnc, hnh, hy] at HCP ⊢
  rw [hnc] at h2
  clear hn hnc hnh h ho hz hC hq hqx hr
  go_enter Try.func59, Try.ntmps59
  have h3 : ¬ (k : Int) < 0 := by omega
  have h4 : ¬ (nc : Int) ≤ k := by omega
  have h5 : ¬ nc ≤ k := by omega
  have h6 : (((r + 1 : Nat) : Int) == 0) = false := by rw [beq_eq_false_iff_ne]; omega
  have c0 := HC.out _ (below_two w (.cells #[.slice y.o1 n y.c1, .slice (some ⟨g, off, none⟩) nc y.c2, .slice y.o3 nh y.c3, .slice y.o4 nh y.c4, .slice y.o5 nh y.c5] 33) (.cells #[nilV, nilV, nilV, nilV, nilV] 33))
  go_wp2_with fail
  refine HCP.out.mono ?_
  rintro e wc ⟨z, cv, cw, rfl, hC⟩
  obtain ⟨g1, v, hz1, hlt1, hlt2, hv, d0, d1, hown⟩ := hC.own.cond_cells HOO.out
  obtain ⟨ov, cvv, rfl, hvb⟩ := row_shape hown
  obtain ⟨gv, rfl, hgv1, hgv2⟩ := hvb (by simp)
  rw [List.length_cons, HR.out] at d0
  have hcap : r + 1 ≤ cvv ∧ cvv ≤ 9223372036854775807 := by
    have := row_cap' hown
    rwa [List.length_cons, HR.out] at this
  obtain ⟨hcap1, hcap2⟩ := hcap
  have hcap3 : (1 : Int) ≤ cvv := by omega
  have hcap4 : (1 : Int) ≤ (r : Int) + 1 := by omega
  have HVV := Lib.hid hv
  have HC2 := Lib.hid hC
  have hsz := hC.box.lt
  obtain ⟨y0, y1, y2, y3, y4, f0, f1, f2, f3, f4⟩ := Blk.five hC.box
  have a1 : wc.cell? ⟨w.heap.size, 1, none⟩ = some (.slice (some ⟨g, off, none⟩) nc y.c2) := by
    have := hC.arg.cell 1
    simpa [hdR, hy, HNC.out] using this
  have a2 := HC.out _ hC.low
  have a3 := HQ.out _ hC.low
  clear hC hown c0 hv hvb
  rw [hz1]
  go_wp2_with fail
  refine still_tail 10 (by kernel_rfl) (by kernel_rfl) ?_
  simp only [List.take_succ_cons, List.take_zero, List.drop_succ_cons, List.drop_zero]
  repeat still_step
  try refine wpStill_nil ?_
  obtain ⟨qa, hqa⟩ : ∃ qa, (if cvv = 1 then some (⟨gv, 0, none⟩ : Addr) else some ⟨gv, 1, none⟩) = qa := ⟨_, rfl⟩
  have HQA := Lib.hid hqa
  rw [hqa]
  have HRO := Lib.hid (HC2.out.own.cond_read hz1 (k := k) (l' := l) (q := qa) (c := cvv - 1) HOO.out (by rw [HR.out]; omega) (fun W hO => by
    have hr := HC2.out.own.keep hz1 k _ hO ⟨3, 1, .slice (some ⟨gv, 0, none⟩) (x :: l).length cvv, (x :: l).length, (x :: l).map (Value.int .i64)⟩ (List.mem_cons_of_mem _ (List.mem_append_right _ (List.mem_cons_of_mem _ (mem_crows_of HVV.out HOO.out)))) (by show 3 ≠ 22; decide)
    dsimp only at hr
    by_cases h1 : cvv = 1
    · have : l = [] := by
        have h2 := HR.out
        have : r = 0 := by omega
        rw [this] at h2
        exact List.length_eq_zero_iff.1 h2
      subst this
      exact IntsAt.nil _ _
    · rw [if_neg h1] at hqa
      subst hqa
      exact ints_drop' hr 1))
  rw [HR.out] at HRO
  clear hqa
  go_wp2_with fail
  obtain ⟨hbl, hbb, hba, hbx⟩ := HC2.out.turn (k := k) hlt1 (.slice qa r (cvv - 1)) #[.slice z.o1 n z.c1, .slice (some ⟨g1, 0, none⟩) nc z.c2, .slice z.o3 nh z.c3, .slice z.o4 nh z.c4, .slice z.o5 nh z.c5] 33
  have HRB := Lib.hid ((HRO.out.below (((Below.refl _ _).alloc (Nat.le_refl _) (.cells #[.slice z.o1 n z.c1, .slice (some ⟨g1, 0, none⟩) nc z.c2, .slice z.o3 nh z.c3, .slice z.o4 nh z.c4, .slice z.o5 nh z.c5] 33)).trans (Below.refl _ _).drew)))
  generalize World.drew _ = wB at hbl hbb hba hbx HRB ⊢
  clear y0 y1 y2 y3 y4 f0 f1 f2 f3 f4 d0 d1 a1 a2 a3 HRO
  have a1 : wB.cell? ⟨w.heap.size, 1, none⟩ = some (.slice (some ⟨g, off, none⟩) nc y.c2) := by
    have := hba.cell 1
    simpa [hdR, hy, HNC.out] using this
  have a2 := HC.out _ hbl
  have a3 := HQ.out _ hbl
  obtain ⟨b0, b1, b2, b3, b4, -⟩ := Blk.five hbx
  obtain ⟨y0, y1, y2, y3, y4, f0, f1, f2, f3, f4⟩ := Blk.five hbb
  have HBL := Lib.hid hbl; have HBB := Lib.hid hbb
  have hsz2 := hbx.lt
  have hgl2 : w.heap.size + 1 ≠ g := by omega
  have hgl3 : w.heap.size + 1 ≠ gq := by omega
  have hgl4 : w.heap.size + 1 ≠ wc.heap.size := by omega
  clear hbl hba hbx hbb
  go_region_held3 (fun W' => W'.cell? ⟨wc.heap.size, 0, none⟩ = some (.slice z.o1 n z.c1) ∧ W'.cell? ⟨wc.heap.size, 1, none⟩ = some (.slice (some ⟨g1, 0, none⟩) nc z.c2) ∧ W'.cell? ⟨wc.heap.size, 2, none⟩ = some (.slice z.o3 nh z.c3) ∧ W'.cell? ⟨wc.heap.size, 3, none⟩ = some (.slice z.o4 nh z.c4) ∧ W'.cell? ⟨wc.heap.size, 4, none⟩ = some (.slice z.o5 nh z.c5) ∧
      W'.cell? ⟨w.heap.size, 1, none⟩ = some (.slice (some ⟨g, off, none⟩) nc y.c2) ∧ W'.cell? ⟨g, off + k, none⟩ = some (.slice (some ⟨gq, oq, none⟩) (r + 1) c) ∧ W'.cell? ⟨gq, oq, none⟩ = some (.int .i64 x))
    (go_keep)
    (fail)
  rename_i hHeld
  clear hHeld
  go_wp2_with fail
  exact bodyPost_ret (results_c2 rfl rfl (fill5_blk HBB.out).drew) rfl ⟨z, by rw [hz1]; rfl, (RNx.fin HRB.out HBL.out (.slice z.o1 n z.c1) (.slice (some ⟨g1, 0, none⟩) nc z.c2) (.slice z.o3 nh z.c3) (.slice z.o4 nh z.c4) (.slice z.o5 nh z.c5)).drew⟩

def orNo (b : Bool) (x : Int) : Int := if b = true then x else -1
theorem RSignal_any {N : Nat} (hN : N ≤ 1000000) (y : RLy) (s : SM) (w : World) (m : Int) {F : Nat → Prop} (hF : ∀ b, F b → b < w.heap.size) (h : RSt F w y s) (hz : Sz N s) :
    Calls Try.prog 59 #[.agg (hdR y s), .int .i64 m] w fun e w' => ∃ z, e = .returned (.tuple #[.agg (hdR z (signalS s m).1), .int .i64 (orNo (signalS s m).2.2.1 (signalS s m).2.1), .int .i64 (signalS s m).2.2.2]) ∧ RSt F w' z (signalS s m).1 ∧ Below w.heap.size w w' := by
  cases ho : at_ s.conds m with
  | none => simp only [signalS, ho]; exact (rsignal_out y s w m (at_none ho)).mono fun e w' ⟨h1, h2⟩ => ⟨y, h1, h.below h2, h2⟩
  | some l =>
    obtain ⟨h1, h2, h3⟩ := at_some ho
    cases l with
    | nil => simp only [signalS, ho]; exact (rsignal_nil y s w m h.reads h1 h2 h3).mono fun e w' ⟨h1, h2⟩ => ⟨y, h1, h.below h2, h2⟩
    | cons x l => simp only [signalS, ho]; exact (rsignal_yes hN y s w m h.reads hz.ref h1 h2 h3).mono fun e w' ⟨z, h1, h2⟩ => ⟨z, h1, h2.st hF, h2.low⟩
end Go.Proofs.Ytdfjbgfdaokjgaa

/-
  The reference's state in rows of its own: how it reads; one number of it turned.
-/
import Derived.Test.YtdfjbgfdaokjgaaRCopy1
namespace Go.Proofs.Ytdfjbgfdaokjgaa
open Go.RowKit

def abcR (z : RLy) (s : SM) : List Rw := [⟨3, 1, .slice z.o1 s.owners.length z.c1, s.owners.length, s.owners.map (Value.int .i64)⟩, ⟨3, 1, .slice z.o3 s.chans.length z.c3, s.chans.length, (s.chans.map (·.room)).map (Value.int .i64)⟩,
  ⟨3, 1, .slice z.o5 s.chans.length z.c5, s.chans.length, (s.chans.map (fun c => (c.taken : Int))).map (Value.int .i64)⟩]
def headR (z : RLy) (cv cw : List Value) (s : SM) : List Rw := ⟨47, 1, .slice z.o4 s.chans.length z.c4, s.chans.length, cw⟩ :: crows 2 cw (s.chans.map (·.sent)) (⟨22, 1, .slice z.o2 s.conds.length z.c2, s.conds.length, cv⟩ :: crows 3 cv s.conds [])
def rlist (z : RLy) (cv cw : List Value) (s : SM) : List Rw := ⟨47, 1, .slice z.o4 s.chans.length z.c4, s.chans.length, cw⟩ :: crows 2 cw (s.chans.map (·.sent)) (⟨22, 1, .slice z.o2 s.conds.length z.c2, s.conds.length, cv⟩ :: crows 3 cv s.conds (abcR z s))
theorem rlist_eq (z : RLy) (cv cw : List Value) (s : SM) : rlist z cv cw s = headR z cv cw s ++ abcR z s := by simp [rlist, headR, crows]
structure ROwn (w : World) (base : Nat) (z : RLy) (cv cw : List Value) (s : SM) : Prop where
  rows : Rows w base (rlist z cv cw s)
  lv : cv.length = s.conds.length
  lw : cw.length = s.chans.length
theorem CopyP.own {w w' : World} {s : SM} {e : Ending} (h : CopyP w s e w') : ∃ z cv cw, e = .returned (.agg (hdR z s)) ∧ Below w.heap.size w w' ∧ ROwn w' w.heap.size z cv cw s := by
  obtain ⟨z, cv, cw, h1, h2, h3, h4, h5⟩ := h
  exact ⟨z, cv, cw, h1, h2, ⟨h5, h3, h4⟩⟩
theorem row_cap' {w : World} {base n c : Nat} {T : TypeId} {o : Option Addr} {xs : List Value} (h : w.ownsRow base T 1 (.slice o n c) n xs) : n ≤ c ∧ c ≤ 9223372036854775807 := by
  rcases h.2 with ⟨e, h0⟩ | ⟨g, cap, cur, e, _, _, hn, hm, _⟩
  · injection e with e1 e2 e3
    subst e3
    exact ⟨by omega, by omega⟩
  · injection e with e1 e2 e3
    subst e3
    unfold maxLen at hm
    exact ⟨hn, by omega⟩
theorem lists_of {w : World} {base n c : Nat} {T TS : TypeId} {o : Option Addr} {cv : List Value} {ls : List (List Int)} (h : w.ownsRow base TS 1 (.slice o n c) n cv) (hl : cv.length = ls.length)
    (hm : ∀ (j : Nat) v z, cv[j]? = some v → ls[j]? = some z → w.ownsRow base T 1 v z.length (z.map (Value.int .i64))) : ListsAt w o ls := by
  have hn : n = cv.length := by have := h.1; omega
  refine ⟨fun h0 => ?_, fun g off he j l hj => ?_⟩
  · obtain ⟨g, c', e, _⟩ := h.form (by omega)
    injection e with e1
    exact ⟨g, 0, e1⟩
  · have hlt : j < ls.length := (List.getElem?_eq_some_iff.1 hj).1
    obtain ⟨v, hv⟩ : ∃ v, cv[j]? = some v := ⟨_, List.getElem?_eq_getElem (by omega)⟩
    obtain ⟨g', c', e, _⟩ := h.form (by omega)
    injection e with e1
    rw [he] at e1
    injection e1 with e1
    injection e1 with e1 e2
    subst e1; subst e2
    rw [he] at h
    have hr := hm j v l hv hj
    obtain ⟨q, cq, rfl, -⟩ := row_shape hr
    exact ⟨q, cq, by rw [Nat.zero_add, h.cellAt j (by omega), hv], row_cap' hr, (ints_of_row hr).2⟩
theorem mem_crows_of {T : TypeId} {cv : List Value} {ls : List (List Int)} {l : List Rw} {j : Nat} {v : Value} {z : List Int} (hv : cv[j]? = some v) (hz : ls[j]? = some z) : (⟨T, 1, v, z.length, z.map (Value.int .i64)⟩ : Rw) ∈ crows T cv ls l := by
  unfold crows
  refine List.mem_append_left _ (List.mem_reverse.2 (List.mem_of_getElem? (i := j) ?_))
  rw [List.getElem?_zipWith, hv, hz]
section
variable {w : World} {base : Nat} {z : RLy} {cv cw : List Value} {s : SM}
theorem ROwn.abc (h : ROwn w base z cv cw s) {r : Rw} (hr : r ∈ abcR z s) : w.ownsRow base r.e r.k r.v r.n r.xs := h.rows.of_mem (by rw [rlist_eq]; exact List.mem_append_right _ hr)
theorem ROwn.reads (h : ROwn w base z cv cw s) : RAt w z s where
  owners := (ints_of_row (h.abc (r := ⟨3, 1, .slice z.o1 s.owners.length z.c1, s.owners.length, s.owners.map (Value.int .i64)⟩) (by simp [abcR]))).2
  rooms := (ints_of_row (h.abc (r := ⟨3, 1, .slice z.o3 s.chans.length z.c3, s.chans.length, (s.chans.map (·.room)).map (Value.int .i64)⟩) (by simp [abcR]))).2
  taken := (ints_of_row (h.abc (r := ⟨3, 1, .slice z.o5 s.chans.length z.c5, s.chans.length, (s.chans.map (fun c => (c.taken : Int))).map (Value.int .i64)⟩) (by simp [abcR]))).2
  conds := lists_of (T := 3) (h.rows.of_mem (r := ⟨22, 1, .slice z.o2 s.conds.length z.c2, s.conds.length, cv⟩) (List.mem_cons_of_mem _ (List.mem_append_right _ (List.mem_cons_self)))) h.lv (fun j v l hv hl => h.rows.of_mem (r := ⟨3, 1, v, l.length, l.map (Value.int .i64)⟩) (List.mem_cons_of_mem _ (List.mem_append_right _ (List.mem_cons_of_mem _ (mem_crows_of hv hl)))))
  sent := lists_of (n := s.chans.length) (T := 2) (h.rows.own 0 _ rfl) (by rw [List.length_map]; exact h.lw) (fun j v l hv hl => h.rows.of_mem (r := ⟨2, 1, v, l.length, l.map (Value.int .i64)⟩) (List.mem_cons_of_mem _ (mem_crows_of hv hl)))
/-- An owner is turned. -/
theorem ROwn.owner (h : ROwn w base z cv cw s) {g : Nat} (hg : z.o1 = some ⟨g, 0, none⟩) (k : Nat) (t : Int) : ROwn (w.setCell ⟨g, k, none⟩ (.int .i64 t)) base z cv cw { s with owners := s.owners.set k t } := by
  have hr := h.abc (r := ⟨3, 1, .slice z.o1 s.owners.length z.c1, s.owners.length, s.owners.map (Value.int .i64)⟩) (by simp [abcR])
  dsimp only at hr
  rw [hg] at hr
  have hst := (hr.stored k (.int .i64 t)).1
  have hi : (rlist z cv cw s)[(headR z cv cw s).length]? = some ⟨3, 1, .slice z.o1 s.owners.length z.c1, s.owners.length, s.owners.map (Value.int .i64)⟩ := by
    rw [rlist_eq, List.getElem?_append_right (Nat.le_refl _), Nat.sub_self]; rfl
  have hset : rlist z cv cw { s with owners := s.owners.set k t } = (rlist z cv cw s).set (headR z cv cw s).length ⟨3, 1, .slice z.o1 s.owners.length z.c1, s.owners.length, (s.owners.map (Value.int .i64)).set k (.int .i64 t)⟩ := by
    rw [rlist_eq, rlist_eq]
    have := set_append_right' (headR z cv cw s) (abcR z s) 0 ⟨3, 1, .slice z.o1 s.owners.length z.c1, s.owners.length, (s.owners.map (Value.int .i64)).set k (.int .i64 t)⟩
    rw [Nat.add_zero] at this
    rw [this]
    simp [abcR, headR, List.map_set]
  refine ⟨?_, h.lv, h.lw⟩
  rw [hset]
  refine h.rows.upd hi (by rw [hg]; exact hst) (fun b hb hne => Below.heap_setCell _ _ _ _ (fun e => hne (by simp [hg, Value.ownBlock, e]))) (fun b hb => .inl hb)
end
end Go.Proofs.Ytdfjbgfdaokjgaa

/-
  The reference's Values.
-/
import Derived.Test.YtdfjbgfdaokjgaaRL5
namespace Go.Proofs.Ytdfjbgfdaokjgaa
open Go.RowKit

theorem IntsAt.drop {w : World} {g off : Nat} {zs : List Int} (h : IntsAt w (some ⟨g, off, none⟩) zs) (k : Nat) : IntsAt w (some ⟨g, off + k, none⟩) (zs.drop k) :=
  ⟨fun _ => ⟨g, off + k, rfl⟩, fun g' off' he j z hz => by
    injection he with he
    injection he with e1 e2
    subst e1; subst e2
    rw [List.getElem?_drop] at hz
    rw [Nat.add_assoc]
    exact h.2 g off rfl (k + j) z hz⟩

set_option maxRecDepth 100000 in
set_option maxHeartbeats 2000000 in
theorem RValues_any (y : RLy) (s : SM) (w : World) (m : Int) (h : RAt w y s) (h1 : 0 ≤ m) (h2 : m < s.chans.length) {c : Cn} (ho : s.chans[m.toNat]? = some c) (ht : c.taken ≤ c.sent.length) (hm : c.sent.length ≤ 1000000) :
    Calls Try.prog 55 #[.agg (hdR y s), .int .i64 m] w fun e w' => ∃ q cap, e = .returned (.slice q c.rest.length cap) ∧ IntsAt w' q c.rest ∧ Below w.heap.size w w' := by
  obtain ⟨k, rfl⟩ : ∃ k : Nat, m = k := ⟨m.toNat, by omega⟩
  have hck : s.chans[k]? = some c := by simpa using ho
  obtain ⟨g, off, q, cp, hy, hcap, hq, hC⟩ := h.sent.at_ (k := k) (l := c.sent) (by rw [List.getElem?_map, hck]; rfl)
  obtain ⟨g5, o5, hy5⟩ := h.taken.1 (by rw [List.length_map]; omega)
  have h5 := h.taken.2 g5 o5 hy5 k c.taken (by rw [List.getElem?_map, hck]; rfl)
  obtain ⟨r, hr⟩ : ∃ r, c.sent.length = r := ⟨_, rfl⟩
  obtain ⟨tk, htk⟩ : ∃ r, c.taken = r := ⟨_, rfl⟩
  rw [hr] at ht hm hcap hC
  rw [htk] at ht h5
  obtain ⟨hcap1, hcap2⟩ := hcap
  have HQ := Lib.hid hq
  have hlen : c.rest.length = r - tk := by rw [c.rest_len, hr, htk]
  have HT := Lib.hid htk
  have HR := Lib.hid hr
  rw [hlen]
  obtain ⟨n, hn⟩ : ∃ n, s.owners.length = n := ⟨_, rfl⟩
  obtain ⟨nc, hnc⟩ : ∃ n, s.conds.length = n := ⟨_, rfl⟩
  obtain ⟨nh, hnh⟩ : ∃ n, s.chans.length = n := ⟨_, rfl⟩
  simp only [hdR, hn, hnc, hnh, hy, hy5]
  rw [hnh] at h2
  have c1 := hC _ ((Below.refl _ w).alloc (Nat.le_refl _) (.cells #[.slice y.o1 n y.c1, .slice y.o2 nc y.c2, .slice y.o3 nh y.c3, .slice (some ⟨g, off, none⟩) nh y.c4, .slice (some ⟨g5, o5, none⟩) nh y.c5] 33))
  have c2 := (((Below.refl _ w).alloc (Nat.le_refl _) (.cells #[.slice y.o1 n y.c1, .slice y.o2 nc y.c2, .slice y.o3 nh y.c3, .slice (some ⟨g, off, none⟩) nh y.c4, .slice (some ⟨g5, o5, none⟩) nh y.c5] 33)).cell (p := ⟨g5, o5 + k, none⟩) (World.block_lt_of_cell? w _ h5)).trans h5
  clear hn hnc hnh h ho hC hq h5 hck hlen htk hr hy hy5
  go_enter Try.func55, Try.ntmps55
  have h3 : ¬ nh ≤ k := by omega
  have h4 : (tk : Int) ≤ r := by omega
  have h6 : (0 : Int) ≤ tk := by omega
  go_wp2_with fail
  refine still_tail 11 (by kernel_rfl) (by kernel_rfl) ?_
  simp only [List.take_succ_cons, List.take_zero, List.drop_succ_cons, List.drop_zero]
  repeat still_step
  try refine wpStill_nil ?_
  have hqa : IntsAt w (if cp = tk then q else Option.map (fun x => x.add tk) q) c.rest := by
    by_cases h0 : tk < r
    · obtain ⟨gq, oq, rfl⟩ := HQ.out.1 (by rw [HR.out]; omega)
      rw [if_neg (by omega), Option.map_some]
      have := HQ.out.drop tk
      unfold Cn.rest
      rw [HT.out]
      rw [show (⟨gq, oq, none⟩ : Addr).add tk = ⟨gq, oq + tk, none⟩ by unfold Addr.add; split <;> simp_all]
      exact this
    · have : c.rest = [] := by
        apply List.length_eq_zero_iff.1
        rw [c.rest_len, HT.out, HR.out]; omega
      rw [this]
      exact IntsAt.nil _ _
  generalize (if cp = tk then q else Option.map (fun x => x.add tk) q) = qa at hqa ⊢
  have hb := ((Below.refl _ w).alloc (Nat.le_refl _) (.cells #[.slice y.o1 n y.c1, .slice y.o2 nc y.c2, .slice y.o3 nh y.c3, .slice (some ⟨g, off, none⟩) nh y.c4, .slice (some ⟨g5, o5, none⟩) nh y.c5] 33)).drew
  have HQA := Lib.hid (hqa.below hb)
  clear hqa
  go_wp2_with fail
  go_ret
  exact ⟨qa, _, rfl, HQA.out, hb⟩

section
variable {w W : World} {base g : Nat} {z : RLy} {cv cw : List Value} {s : SM}
theorem map_set_at {α β : Type} (f : α → β) {l : List α} {k : Nat} {x y : α} (hx : l[k]? = some x) (h : f y = f x) : (l.set k y).map f = l.map f := by
  apply List.ext_getElem?
  intro j
  rw [List.getElem?_map, List.getElem?_map, List.getElem?_set]
  by_cases e : k = j
  · subst e
    rw [if_pos rfl, if_pos (List.getElem?_eq_some_iff.1 hx).1, hx]
    simp [h]
  · rw [if_neg e]
theorem ROwn.headS (h : ROwn w base z cv cw s) : w.ownsRow base 47 1 (.slice z.o4 s.chans.length z.c4) s.chans.length cw := h.rows.own 0 _ rfl
/-- A channel's values as the copy has them. -/
theorem ROwn.sent_cells (h : ROwn w base z cv cw s) {k : Nat} {c : Cn} (hc : s.chans[k]? = some c) :
    ∃ g v, z.o4 = some ⟨g, 0, none⟩ ∧ base ≤ g ∧ g < w.heap.size ∧ cw[k]? = some v ∧ w.cell? ⟨g, k, none⟩ = some v ∧ w.frozen? ⟨g, k, none⟩ = false ∧ w.ownsRow base 2 1 v c.sent.length (c.sent.map (Value.int .i64)) := by
  have hr := h.headS
  have hk : k < s.chans.length := (List.getElem?_eq_some_iff.1 hc).1
  obtain ⟨v, hv⟩ : ∃ v, cw[k]? = some v := ⟨_, List.getElem?_eq_getElem (by rw [h.lw]; exact hk)⟩
  obtain ⟨g, c', e, -⟩ := hr.form (by omega)
  injection e with e1
  have hlt := hr.lt g (by simp [e1, Value.ownBlock])
  rw [e1] at hr
  exact ⟨g, v, e1, hlt.1, hlt.2, hv, by rw [hr.cellAt k (by omega), hv], hr.frozenAt k, h.rows.own _ _ (h.iSent hv (by rw [List.getElem?_map, hc]; rfl))⟩
/-- One channel's list is grown, and laid where it was. -/
theorem ROwn.sent_grow (h : ROwn w base z cv cw s) (hz : z.o4 = some ⟨g, 0, none⟩) {k : Nat} {cn : Cn} {l' : List Int} {v : Value} {q : Option Addr} {c : Nat} (hl : s.chans[k]? = some cn) (hv : cw[k]? = some v) {w1 : World}
    (ho : ∀ b, b < w.heap.size → v.ownBlock ≠ some b → w1.heap[b]? = w.heap[b]?) (hown : w1.ownsRow base 2 1 (.slice q l'.length c) l'.length (l'.map (Value.int .i64)))
    (hf : ∀ b, (Value.slice q l'.length c).ownBlock = some b → v.ownBlock = some b ∨ w.heap.size ≤ b) (hs : w.heap.size ≤ w1.heap.size) : ROut (w1.setCell ⟨g, k, none⟩ (.slice q l'.length c)) base z { s with chans := s.chans.set k { cn with sent := l' } } := by
  intro W hO
  have hH := h.headS
  have hk : k < s.chans.length := (List.getElem?_eq_some_iff.1 hl).1
  have hls : (s.chans.map (·.sent))[k]? = some cn.sent := by rw [List.getElem?_map, hl]; rfl
  have hvg : (Value.slice z.o4 s.chans.length z.c4).ownBlock = some g := by simp [hz, Value.ownBlock]
  have hi0 := h.iSent hv hls
  have hvne : v.ownBlock ≠ some g := fun e => ownsRow_kind hH (h.rows.own _ _ hi0) (by show 47 ≠ 2; decide) hvg e
  have hgl := hH.lt g hvg
  have hWb : ∀ b, base ≤ b → b < w1.heap.size → b ≠ g → W.heap[b]? = w1.heap[b]? := fun b h1 h2 h3 => by
    rw [hO.block b (by simpa [World.setCell] using h2) (by omega)]
    exact Below.heap_setCell _ _ _ _ h3
  have hlw := h.lw
  have hlv := h.lv
  have hkw : k < cw.length := by omega
  have own' : ∀ {i : Nat} {r : Rw}, (rlist z cv cw s)[i]? = some r → i ≠ cw.length - 1 - k + 1 → r.e ≠ 47 → W.ownsRow base r.e r.k r.v r.n r.xs := fun hi hne hT =>
    h.keep2 hi0 hH (fun b h1 h2 h3 h4 => (hWb b h1 (by omega) (fun e => h4 (by rw [e]; exact hvg))).trans (ho b h2 h3)) hi hne hT
  have abc' : ∀ {i : Nat} {r : Rw}, (abcR z s)[i]? = some r → r.e ≠ 47 → W.ownsRow base r.e r.k r.v r.n r.xs := fun {i} {r} hi hT => own' (i := cw.length + (cv.length + i + 1) + 1) (by rw [h.iAbc]; exact hi) (by omega) hT
  have hv' : W.ownsRow base 2 1 (.slice q l'.length c) l'.length (l'.map (Value.int .i64)) := ownsRow_block hown (fun b hb => by
    have hl := hown.lt b hb
    refine hWb b hl.1 hl.2 (fun e => ?_)
    subst e
    rcases hf b hb with h1 | h1
    · exact hvne h1
    · have := hgl.2; omega)
  rw [hz] at hH
  have hH1 := ownsRow_block (w' := w1) hH (fun b hb => by
    obtain rfl : g = b := by simpa [Value.ownBlock] using hb
    exact ho g hgl.2 hvne)
  have hst0 := (hH1.stored k (.slice q l'.length c)).1
  have hst := ownsRow_block (w' := W) hst0 (fun b hb => by
    have hl := hst0.lt b hb
    exact hO.block b hl.2 (by omega))
  refine ⟨?_, ?_, ?_, ?_, ?_⟩
  · exact (ints_of_row (abc' (i := 0) (r := ⟨3, 1, .slice z.o1 s.owners.length z.c1, s.owners.length, s.owners.map (Value.int .i64)⟩) rfl (by show 3 ≠ 47; decide))).2
  · exact lists_of (n := s.conds.length) (T := 3) (own' (i := cw.length + 0 + 1) (r := ⟨22, 1, .slice z.o2 s.conds.length z.c2, s.conds.length, cv⟩) ((h.iRest 0).trans rfl) (by omega) (by show 22 ≠ 47; decide)) h.lv (fun j v l hv hl => own' (h.iCond hv hl) (by omega) (by show 3 ≠ 47; decide))
  · show IntsAt W z.o3 ((s.chans.set k { cn with sent := l' }).map (·.room))
    rw [map_set_at (y := { cn with sent := l' }) (·.room) hl rfl]
    exact (ints_of_row (abc' (i := 1) (r := ⟨3, 1, .slice z.o3 s.chans.length z.c3, s.chans.length, (s.chans.map (·.room)).map (Value.int .i64)⟩) rfl (by show 3 ≠ 47; decide))).2
  · refine ⟨fun _ => ⟨g, 0, hz⟩, fun g' off he j lj hj => ?_⟩
    rw [hz] at he
    injection he with he
    injection he with e1 e2
    subst e1; subst e2
    rw [Nat.zero_add]
    have hjl : j < s.chans.length := by have := (List.getElem?_eq_some_iff.1 hj).1; simpa using this
    have hc := hst.cellAt j (by omega)
    rw [hc]
    rw [List.getElem?_map] at hj
    by_cases e : k = j
    · subst e
      have hj : some l' = some lj := by rw [← hj]; simp [hk]
      injection hj with hj
      subst hj
      exact ⟨q, c, by rw [List.getElem?_set_self hkw], row_cap' hv', (ints_of_row hv').2⟩
    · have hj : (s.chans.map (·.sent))[j]? = some lj := by
        rw [← hj]
        show _ = Option.map _ ((s.chans.set k { cn with sent := l' })[j]?)
        rw [List.getElem?_set_ne e, List.getElem?_map]
      obtain ⟨vj, hvj⟩ : ∃ v, cw[j]? = some v := ⟨_, List.getElem?_eq_getElem (by omega)⟩
      have hr := own' (h.iSent hvj hj) (by omega) (by show 2 ≠ 47; decide)
      dsimp only at hr
      obtain ⟨qv, cq, rfl, -⟩ := row_shape hr
      exact ⟨qv, cq, by rw [List.getElem?_set_ne e, hvj], row_cap' hr, (ints_of_row hr).2⟩
  · show IntsAt W z.o5 ((s.chans.set k { cn with sent := l' }).map (fun c => (c.taken : Int)))
    rw [map_set_at (y := { cn with sent := l' }) (fun c : Cn => (c.taken : Int)) hl rfl]
    exact (ints_of_row (abc' (i := 2) (r := ⟨3, 1, .slice z.o5 s.chans.length z.c5, s.chans.length, (s.chans.map (fun c => (c.taken : Int))).map (Value.int .i64)⟩) rfl (by show 3 ≠ 47; decide))).2
/-- One channel's count is turned. -/
theorem ROwn.taken_turn (h : ROwn w base z cv cw s) (hz : z.o5 = some ⟨g, 0, none⟩) {k : Nat} {cn : Cn} (hl : s.chans[k]? = some cn) (tk : Nat) : ROwn (w.setCell ⟨g, k, none⟩ (.int .i64 tk)) base z cv cw { s with chans := s.chans.set k { cn with taken := tk } } := by
  have hr := h.abc (r := ⟨3, 1, .slice z.o5 s.chans.length z.c5, s.chans.length, (s.chans.map (fun c => (c.taken : Int))).map (Value.int .i64)⟩) (by simp [abcR])
  dsimp only at hr
  rw [hz] at hr
  have hst := (hr.stored k (.int .i64 tk)).1
  have hi : (rlist z cv cw s)[cw.length + (cv.length + 2 + 1) + 1]? = some ⟨3, 1, .slice z.o5 s.chans.length z.c5, s.chans.length, (s.chans.map (fun c => (c.taken : Int))).map (Value.int .i64)⟩ := by rw [h.iAbc]; rfl
  have hset : rlist z cv cw { s with chans := s.chans.set k { cn with taken := tk } } = (rlist z cv cw s).set (cw.length + (cv.length + 2 + 1) + 1) ⟨3, 1, .slice z.o5 s.chans.length z.c5, s.chans.length, ((s.chans.map (fun c => (c.taken : Int))).map (Value.int .i64)).set k (.int .i64 tk)⟩ := by
    have e1 : ((s.chans.set k { cn with taken := tk }).map (fun c : Cn => (c.taken : Int))) = (s.chans.map (fun c => (c.taken : Int))).set k tk := by rw [List.map_set]
    have e2 := map_set_at (y := { cn with taken := tk }) (·.sent) hl rfl
    have e3 := map_set_at (y := { cn with taken := tk }) (·.room) hl rfl
    unfold rlist
    simp only [e1, e2, e3, List.length_set, List.set_cons_succ, abcR, List.map_set]
    have hA : ∀ (T : TypeId) (vs : List Value) (ls : List (List Int)) (l : List Rw) (i : Nat) (a : Rw), vs.length = ls.length → (crows T vs ls l).set (vs.length + i) a = crows T vs ls (l.set i a) := fun T vs ls l i a hlen => by
      unfold crows
      have hl' : (List.zipWith (fun v (z : List Int) => (⟨T, 1, v, z.length, z.map (Value.int .i64)⟩ : Rw)) vs ls).reverse.length = vs.length := by simp [hlen]
      rw [← hl', set_append_right']
    rw [hA _ _ _ _ _ _ h.lw', List.set_cons_succ, hA _ _ _ _ _ _ h.lv]
    rfl
  refine ⟨?_, h.lv, by simpa using h.lw⟩
  rw [hset]
  refine h.rows.upd hi (by rw [hz]; exact hst) (fun b hb hne => Below.heap_setCell _ _ _ _ (fun e => hne (by simp [hz, Value.ownBlock, e]))) (fun b hb => .inl hb)
end
end Go.Proofs.Ytdfjbgfdaokjgaa

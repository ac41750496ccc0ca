/-
  The reference's state in rows of its own: one list of it grown.
-/
import Derived.Test.YtdfjbgfdaokjgaaRL4
namespace Go.Proofs.Ytdfjbgfdaokjgaa
open Go.RowKit

section
variable {w W : World} {base g : Nat} {z : RLy} {cv cw : List Value} {s : SM}
theorem crows_idx {T : TypeId} {cv : List Value} {ls : List (List Int)} {l : List Rw} (hlen : cv.length = ls.length) {j : Nat} {v : Value} {x : List Int} (hv : cv[j]? = some v) (hx : ls[j]? = some x) : (crows T cv ls l)[cv.length - 1 - j]? = some ⟨T, 1, v, x.length, x.map (Value.int .i64)⟩ := by
  have hj : j < cv.length := (List.getElem?_eq_some_iff.1 hv).1
  unfold crows
  have hl : (List.zipWith (fun v (z : List Int) => (⟨T, 1, v, z.length, z.map (Value.int .i64)⟩ : Rw)) cv ls).length = cv.length := by simp [hlen]
  rw [List.getElem?_append_left (by rw [List.length_reverse, hl]; omega), List.getElem?_reverse (by rw [hl]; omega), hl, show cv.length - 1 - (cv.length - 1 - j) = j by omega, List.getElem?_zipWith, hv, hx]
theorem crows_after {T : TypeId} {cv : List Value} {ls : List (List Int)} {l : List Rw} (hlen : cv.length = ls.length) (i : Nat) : (crows T cv ls l)[cv.length + i]? = l[i]? := by
  unfold crows
  have hl : (List.zipWith (fun v (z : List Int) => (⟨T, 1, v, z.length, z.map (Value.int .i64)⟩ : Rw)) cv ls).reverse.length = cv.length := by simp [hlen]
  rw [List.getElem?_append_right (by rw [hl]; omega), hl, Nat.add_sub_cancel_left]
theorem ROwn.lw' (h : ROwn w base z cv cw s) : cw.length = (s.chans.map (·.sent)).length := by rw [List.length_map]; exact h.lw
/-- Where each row stands. -/
theorem ROwn.iSent (h : ROwn w base z cv cw s) {j : Nat} {v : Value} {x : List Int} (hv : cw[j]? = some v) (hx : (s.chans.map (·.sent))[j]? = some x) : (rlist z cv cw s)[cw.length - 1 - j + 1]? = some ⟨2, 1, v, x.length, x.map (Value.int .i64)⟩ := by
  unfold rlist
  rw [List.getElem?_cons_succ]
  exact crows_idx h.lw' hv hx
theorem ROwn.iRest (h : ROwn w base z cv cw s) (i : Nat) : (rlist z cv cw s)[cw.length + i + 1]? = (⟨22, 1, .slice z.o2 s.conds.length z.c2, s.conds.length, cv⟩ :: crows 3 cv s.conds (abcR z s))[i]? := by
  unfold rlist
  rw [List.getElem?_cons_succ]
  exact crows_after h.lw' i
theorem ROwn.iCond (h : ROwn w base z cv cw s) {j : Nat} {v : Value} {x : List Int} (hv : cv[j]? = some v) (hx : s.conds[j]? = some x) : (rlist z cv cw s)[cw.length + (cv.length - 1 - j + 1) + 1]? = some ⟨3, 1, v, x.length, x.map (Value.int .i64)⟩ := by
  rw [h.iRest, List.getElem?_cons_succ]
  exact crows_idx h.lv hv hx
theorem ROwn.iAbc (h : ROwn w base z cv cw s) (i : Nat) : (rlist z cv cw s)[cw.length + (cv.length + i + 1) + 1]? = (abcR z s)[i]? := by
  rw [h.iRest, List.getElem?_cons_succ]
  exact crows_after h.lv i
/-- All rows but one, and but those of one kind, lie as they lay. -/
theorem ROwn.keep2 (h : ROwn w base z cv cw s) {TH : TypeId} {i0 : Nat} {r0 : Rw} (h0 : (rlist z cv cw s)[i0]? = some r0) {vH : Value} {nH : Nat} {xsH : List Value} (hH : w.ownsRow base TH 1 vH nH xsH)
    (ho : ∀ b, base ≤ b → b < w.heap.size → r0.v.ownBlock ≠ some b → vH.ownBlock ≠ some b → W.heap[b]? = w.heap[b]?) {i : Nat} {r : Rw} (hi : (rlist z cv cw s)[i]? = some r) (hne : i ≠ i0) (hT : r.e ≠ TH) : W.ownsRow base r.e r.k r.v r.n r.xs :=
  ownsRow_block (h.rows.own i r hi) (fun b hb => by
    have hl := (h.rows.own i r hi).lt b hb
    exact ho b hl.1 hl.2 (h.rows.apart i i0 r r0 hi h0 hne b hb) (fun e => ownsRow_kind hH (h.rows.own i r hi) (Ne.symm hT) e hb))

/-- One condition's list is grown, and laid where it was. -/
theorem ROwn.cond_grow (h : ROwn w base z cv cw s) (hz : z.o2 = some ⟨g, 0, none⟩) {k : Nat} {l l' : List Int} {v : Value} {q : Option Addr} {c : Nat} (hl : s.conds[k]? = some l) (hv : cv[k]? = some v) {w1 : World}
    (ho : ∀ b, b < w.heap.size → v.ownBlock ≠ some b → w1.heap[b]? = w.heap[b]?) (hs : w.heap.size ≤ w1.heap.size) (hown : w1.ownsRow base 3 1 (.slice q l'.length c) l'.length (l'.map (Value.int .i64)))
    (hf : ∀ b, (Value.slice q l'.length c).ownBlock = some b → v.ownBlock = some b ∨ w.heap.size ≤ b) : ROut (w1.setCell ⟨g, k, none⟩ (.slice q l'.length c)) base z { s with conds := s.conds.set k l' } := by
  intro W hO
  have hH := h.headC
  have hk : k < s.conds.length := (List.getElem?_eq_some_iff.1 hl).1
  have hvg : (Value.slice z.o2 s.conds.length z.c2).ownBlock = some g := by simp [hz, Value.ownBlock]
  have hi0 := h.iCond hv hl
  have hvne : v.ownBlock ≠ some g := fun e => ownsRow_kind hH (h.rows.own _ _ hi0) (by show 22 ≠ 3; decide) hvg e
  have hgl := hH.lt g hvg
  have hWb : ∀ b, base ≤ b → b < w1.heap.size → b ≠ g → W.heap[b]? = w1.heap[b]? := fun b h1 h2 h3 => by
    rw [hO.block b (by simpa [World.setCell] using h2) (by omega)]
    exact Below.heap_setCell _ _ _ _ h3
  have own' : ∀ {i : Nat} {r : Rw}, (rlist z cv cw s)[i]? = some r → i ≠ cw.length + (cv.length - 1 - k + 1) + 1 → r.e ≠ 22 → W.ownsRow base r.e r.k r.v r.n r.xs := fun hi hne hT =>
    h.keep2 hi0 hH (fun b h1 h2 h3 h4 => (hWb b h1 (by omega) (fun e => h4 (by rw [e]; exact hvg))).trans (ho b h2 h3)) hi hne hT
  have hlv := h.lv
  have abc' : ∀ {i : Nat} {r : Rw}, (abcR z s)[i]? = some r → r.e ≠ 22 → W.ownsRow base r.e r.k r.v r.n r.xs := fun {i} {r} hi hT => own' (i := cw.length + (cv.length + i + 1) + 1) (by rw [h.iAbc]; exact hi) (by omega) hT
  have hv' : W.ownsRow base 3 1 (.slice q l'.length c) l'.length (l'.map (Value.int .i64)) := ownsRow_block hown (fun b hb => by
    have hl := hown.lt b hb
    refine hWb b hl.1 hl.2 (fun e => ?_)
    subst e
    rcases hf b hb with h1 | h1
    · exact hvne h1
    · have := hgl.2; omega)
  rw [hz] at hH
  have hH1 := ownsRow_block (w' := w1) hH (fun b hb => by
    obtain rfl : g = b := by simpa [Value.ownBlock] using hb
    exact ho g hgl.2 hvne)
  have hst0 := (hH1.stored k (.slice q l'.length c)).1
  have hst := ownsRow_block (w' := W) hst0 (fun b hb => by
    have hl := hst0.lt b hb
    exact hO.block b hl.2 (by omega))
  refine ⟨?_, ?_, ?_, ?_, ?_⟩
  · exact (ints_of_row (abc' (i := 0) (r := ⟨3, 1, .slice z.o1 s.owners.length z.c1, s.owners.length, s.owners.map (Value.int .i64)⟩) rfl (by show 3 ≠ 22; decide))).2
  · refine ⟨fun _ => ⟨g, 0, hz⟩, fun g' off he j lj hj => ?_⟩
    rw [hz] at he
    injection he with he
    injection he with e1 e2
    subst e1; subst e2
    rw [Nat.zero_add]
    have hjl : j < s.conds.length := by have := (List.getElem?_eq_some_iff.1 hj).1; simpa using this
    have hc := hst.cellAt j (by omega)
    rw [hc]
    by_cases e : k = j
    · subst e
      rw [List.getElem?_set_self hk] at hj
      injection hj with hj
      subst hj
      exact ⟨q, c, by rw [List.getElem?_set_self (by rw [h.lv]; exact hk)], row_cap' hv', (ints_of_row hv').2⟩
    · rw [List.getElem?_set_ne e] at hj
      obtain ⟨vj, hvj⟩ : ∃ v, cv[j]? = some v := ⟨_, List.getElem?_eq_getElem (by rw [h.lv]; exact hjl)⟩
      have hr := own' (h.iCond hvj hj) (by omega) (by show 3 ≠ 22; decide)
      dsimp only at hr
      obtain ⟨qv, cq, rfl, -⟩ := row_shape hr
      exact ⟨qv, cq, by rw [List.getElem?_set_ne e, hvj], row_cap' hr, (ints_of_row hr).2⟩
  · exact (ints_of_row (abc' (i := 1) (r := ⟨3, 1, .slice z.o3 s.chans.length z.c3, s.chans.length, (s.chans.map (·.room)).map (Value.int .i64)⟩) rfl (by show 3 ≠ 22; decide))).2
  · exact lists_of (n := s.chans.length) (T := 2) (own' (i := 0) rfl (by omega) (by show 47 ≠ 22; decide)) h.lw' (fun j v l hv hl => own' (h.iSent hv hl) (by have := (List.getElem?_eq_some_iff.1 hv).1; omega) (by show 2 ≠ 22; decide))
  · exact (ints_of_row (abc' (i := 2) (r := ⟨3, 1, .slice z.o5 s.chans.length z.c5, s.chans.length, (s.chans.map (fun c => (c.taken : Int))).map (Value.int .i64)⟩) rfl (by show 3 ≠ 22; decide))).2
end

/-- What such a region goes by: the world in which it begins; the box; the row of lists; the list; the number. -/
structure Gp where
  T : TypeId
  W : World
  base : Nat
  B : Nat
  fld : Nat
  g : Nat
  n : Nat
  c : Nat
  k : Nat
  v : Value
  r : Nat
  l : List Value
  t : Int
/-- The list is grown. -/
structure GR (P : Gp) (w : World) (v' : Value) : Prop where
  only : Only (fun b => P.v.ownBlock = some b) P.W w
  own : ∃ gg cap, v' = .slice (some ⟨gg, 0, none⟩) (P.r + 1) cap ∧ w.ownsRow P.base P.T 1 v' (P.r + 1) (P.l ++ [.int .i64 P.t]) ∧ (P.v.ownBlock = some gg ∨ P.W.heap.size ≤ gg)
/-- What is known from the beginning. -/
structure Gb (P : Gp) : Prop where
  box : P.W.cell? ⟨P.B, P.fld, none⟩ = some (.slice (some ⟨P.g, 0, none⟩) P.n P.c)
  at_ : P.W.cell? ⟨P.g, P.k, none⟩ = some P.v
  free : P.W.frozen? ⟨P.g, P.k, none⟩ = false
  row : P.W.ownsRow P.base P.T 1 P.v P.r P.l
  neB : P.v.ownBlock ≠ some P.B
  neG : P.v.ownBlock ≠ some P.g
structure GI (P : Gp) (f : Nat → Bool) (E : Nat → Value) (w : World) : Prop where
  low : f 10 = false → Below P.W.heap.size P.W w
  t0 : f 0 = true → E 0 = .pointer (some ⟨P.B, P.fld, none⟩)
  t1 : f 1 = true → E 1 = .slice (some ⟨P.g, 0, none⟩) P.n P.c
  t2 : f 2 = true → E 2 = .int .i64 P.k
  t3 : f 3 = true → E 3 = .pointer (some ⟨P.B, P.fld, none⟩)
  t4 : f 4 = true → E 4 = .slice (some ⟨P.g, 0, none⟩) P.n P.c
  t5 : f 5 = true → E 5 = .int .i64 P.k
  t6 : f 6 = true → E 6 = .pointer (some ⟨P.g, P.k, none⟩)
  t7 : f 7 = true → E 7 = P.v
  t8 : f 8 = true → E 8 = .int .i64 P.t
  t9 : f 9 = true → f 10 = false → ∃ bs, E 9 = .slice (some ⟨bs, 0, none⟩) 1 1 ∧ Blk w bs P.T #[.int .i64 P.t]
  t10 : f 10 = true → f 12 = false → GR P w (E 10)
  t11 : f 11 = true → E 11 = .pointer (some ⟨P.g, P.k, none⟩)
  p10 : f 10 = true → f 9 = true
  p11 : f 11 = true → f 10 = true
  p12 : f 12 = true → f 11 = true
  p7 : f 10 = true → f 7 = true
  p1 : f 12 = true → f 1 = true
  p4 : f 12 = true → f 4 = true
  fin : f 12 = true → ∃ w1, GR P w1 (E 10) ∧ w = w1.setCell ⟨P.g, P.k, none⟩ (E 10)
section
variable {P : Gp} {f : Nat → Bool} {E : Nat → Value} {w w' : World}
theorem GI.start (hf : ∀ j, f j = false) : GI P f E P.W.drew :=
  { low := fun _ => (Below.refl _ _).drew, t0 := fun h => no_flag (hf _) h, t1 := fun h => no_flag (hf _) h, t2 := fun h => no_flag (hf _) h, t3 := fun h => no_flag (hf _) h, t4 := fun h => no_flag (hf _) h, t5 := fun h => no_flag (hf _) h, t6 := fun h => no_flag (hf _) h, t7 := fun h => no_flag (hf _) h, t8 := fun h => no_flag (hf _) h, t9 := fun h => no_flag (hf _) h, t10 := fun h => no_flag (hf _) h, t11 := fun h => no_flag (hf _) h, p10 := fun h => no_flag (hf _) h, p11 := fun h => no_flag (hf _) h, p12 := fun h => no_flag (hf _) h, p7 := fun h => no_flag (hf _) h, p1 := fun h => no_flag (hf _) h, p4 := fun h => no_flag (hf _) h, fin := fun h => no_flag (hf _) h }
theorem GI.s0 (h : GI P f E w) : GI P (up f 0 true) (up E 0 (.pointer (some ⟨P.B, P.fld, none⟩))) w := { h with t0 := fun _ => rfl }
theorem GI.s1 (h : GI P f E w) : GI P (up f 1 true) (up E 1 (.slice (some ⟨P.g, 0, none⟩) P.n P.c)) w := { h with t1 := fun _ => rfl, p1 := fun _ => rfl }
theorem GI.s2 (h : GI P f E w) : GI P (up f 2 true) (up E 2 (.int .i64 P.k)) w := { h with t2 := fun _ => rfl }
theorem GI.s3 (h : GI P f E w) : GI P (up f 3 true) (up E 3 (.pointer (some ⟨P.B, P.fld, none⟩))) w := { h with t3 := fun _ => rfl }
theorem GI.s4 (h : GI P f E w) : GI P (up f 4 true) (up E 4 (.slice (some ⟨P.g, 0, none⟩) P.n P.c)) w := { h with t4 := fun _ => rfl, p4 := fun _ => rfl }
theorem GI.s5 (h : GI P f E w) : GI P (up f 5 true) (up E 5 (.int .i64 P.k)) w := { h with t5 := fun _ => rfl }
theorem GI.s6 (h : GI P f E w) : GI P (up f 6 true) (up E 6 (.pointer (some ⟨P.g, P.k, none⟩))) w := { h with t6 := fun _ => rfl }
theorem GI.s7 (h : GI P f E w) : GI P (up f 7 true) (up E 7 P.v) w := { h with t7 := fun _ => rfl, p7 := fun _ => rfl }
theorem GI.s8 (h : GI P f E w) : GI P (up f 8 true) (up E 8 (.int .i64 P.t)) w := { h with t8 := fun _ => rfl }
theorem GI.s11 (h : GI P f E w) (h10 : f 10 = true) : GI P (up f 11 true) (up E 11 (.pointer (some ⟨P.g, P.k, none⟩))) w := { h with t11 := fun _ => rfl, p11 := fun _ => h10, p12 := fun _ => rfl }
theorem GI.s9 (h : GI P f E w) (h9 : f 9 = false) : GI P (up f 9 true) (up E 9 (.slice (some ⟨w.heap.size, 0, none⟩) 1 1)) (w.alloc (.cells #[.int .i64 P.t] P.T)) := by
  have h10 : f 10 = false := by
    cases hc : f 10 with
    | false => rfl
    | true => rw [h.p10 hc] at h9; cases h9
  have h12 : f 12 = false := by
    cases hc : f 12 with
    | false => rfl
    | true => rw [h.p11 (h.p12 hc)] at h10; cases h10
  exact { h with low := fun _ => (h.low h10).alloc (h.low h10).size _, t9 := fun _ _ => ⟨_, rfl, Blk.new _ _ _⟩, t10 := fun hx => no_flag h10 hx, p10 := fun _ => rfl, fin := fun hx => no_flag h12 hx }
theorem GI.s10 (h : GI P f E w) (h9 : f 9 = true) (h7 : f 7 = true) (h10 : f 10 = false) {v' : Value} (hr : GR P w' v') : GI P (up f 10 true) (up E 10 v') w' := by
  have h12 : f 12 = false := by
    cases hc : f 12 with
    | false => rfl
    | true => rw [h.p11 (h.p12 hc)] at h10; cases h10
  have h11 : f 11 = false := by
    cases hc : f 11 with
    | false => rfl
    | true => rw [h.p11 hc] at h10; cases h10
  exact { h with low := fun hx => by simp [up] at hx, t9 := fun _ hx => by simp [up] at hx, t10 := fun _ _ => hr, p10 := fun _ => h9, p11 := fun _ => rfl, p7 := fun _ => h7, fin := fun hx => no_flag h12 hx }
theorem GI.s12 (h : GI P f E w) (h10 : f 10 = true) (h11 : f 11 = true) (h1 : f 1 = true) (h4 : f 4 = true) (h12 : f 12 = false) {u : Value} (hu : E 10 = u) : GI P (up f 12 true) E (w.setCell ⟨P.g, P.k, none⟩ u) := by
  subst hu
  exact { h with low := fun hx => no_flag hx h10, t9 := fun _ hx => no_flag hx h10, t10 := fun _ hx => by simp [up] at hx, p12 := fun _ => h11, p1 := fun _ => h1, p4 := fun _ => h4, fin := fun _ => ⟨w, h.t10 h10 h12, rfl⟩ }
/-- What is read of the beginning's cells. -/
theorem GI.cell (h : GI P f E w) (h12 : f 12 = false) {p : Addr} {u : Value} (hp : P.W.cell? p = some u) (hne : P.v.ownBlock ≠ some p.block) : w.cell? p = some u := by
  have hlt := World.block_lt_of_cell? P.W p hp
  cases h10 : f 10 with
  | false => exact ((h.low h10).cell hlt).trans hp
  | true => exact (World.cell?_of_block ((h.t10 h10 h12).only.block p.block hlt hne)).trans hp
end
/-- A number is appended to a list of one's own. -/
theorem append_one {T TS : TypeId} (hTS : Try.prog.underlying TS = some (.slice T)) (hT : (Try.prog.info? T).map (fun i => (i.zero, i.size, i.bytes)) = some (some (.int .i64 0), 1, 8))
    {ops : Array Oper} {Q : Exit → Act → World → Prop} {i : Nat} {o : Oper} {K : Act → World → Prop} {a : Act} {w : World} {s x : Operand} {P : Gp} (hPT : P.T = T) (hi : ops[i]? = some o) (hgd : o.guard = none)
    (ho : o.op = .call { callee := .builtin .append, args := #[s, x], argTypes := #[TS, TS] }) (hs : a.eval s = P.v) (hb : Gb P) (hl : Below P.W.heap.size P.W w) {bs : Nat}
    (hx : a.eval x = .slice (some ⟨bs, 0, none⟩) 1 1) (hbs : Blk w bs P.T #[.int .i64 P.t]) (hm : P.r ≤ 1000000) (hbase : P.base ≤ P.W.heap.size)
    (hK : ∀ v' w', GR P w' v' → K (a.put o.dst v') w') : wpOp Try.prog ops Q i K a w := by
  obtain ⟨i0, hif, hz0, hz1, hz2⟩ := info_parts hT
  subst hPT
  unfold wpOp
  rw [hi]
  simp only [Region.wanted, hgd, if_true]
  refine .inl ?_
  have hrow : w.ownsRow P.base P.T 1 P.v P.r P.l := ownsRow_block hb.row (fun b h => hl.block b (hb.row.lt b h).2)
  refine wp_append_lies w s x TS ho P.base P.T i0 _ 1 8 hTS hif hz0 hz1 hz2 rfl (by decide) P.v P.r P.l hs hrow ⟨bs, 0, none⟩ 1 1 [.int .i64 P.t] hx (by simp) (one_cell w bs _ _ hbs) (by simp [Value.oneCell']) (by decide) (by unfold maxLen; omega) (by omega) (by have := hl.size; omega) w.heap.size rfl ?_
  intro gg cap w1 k1 k2 k3 k4
  refine hK _ w1 ⟨((Only.of_below hl).grown k2 (fun j hj => .inl hj)), gg, cap, rfl, k1, ?_⟩
  rcases k3 with k3 | k3
  · exact .inl k3
  · exact .inr (by have := hl.size; omega)
/-- The same, of a list that is known alone. -/
theorem append_one' {T TS : TypeId} (hTS : Try.prog.underlying TS = some (.slice T)) (hT : (Try.prog.info? T).map (fun i => (i.zero, i.size, i.bytes)) = some (some (.int .i64 0), 1, 8))
    {ops : Array Oper} {Q : Exit → Act → World → Prop} {i : Nat} {o : Oper} {K : Act → World → Prop} {a : Act} {w : World} {s x : Operand} {P : Gp} (hPT : P.T = T) (hi : ops[i]? = some o) (hgd : o.guard = none)
    (ho : o.op = .call { callee := .builtin .append, args := #[s, x], argTypes := #[TS, TS] }) (hs : a.eval s = P.v) (hb : P.W.ownsRow P.base P.T 1 P.v P.r P.l) (hl : Below P.W.heap.size P.W w) {bs : Nat}
    (hx : a.eval x = .slice (some ⟨bs, 0, none⟩) 1 1) (hbs : Blk w bs P.T #[.int .i64 P.t]) (hm : P.r ≤ 1000000) (hbase : P.base ≤ P.W.heap.size)
    (hK : ∀ v' w', GR P w' v' → K (a.put o.dst v') w') : wpOp Try.prog ops Q i K a w := by
  obtain ⟨i0, hif, hz0, hz1, hz2⟩ := info_parts hT
  subst hPT
  unfold wpOp
  rw [hi]
  simp only [Region.wanted, hgd, if_true]
  refine .inl ?_
  have hrow : w.ownsRow P.base P.T 1 P.v P.r P.l := ownsRow_block hb (fun b h => hl.block b (hb.lt b h).2)
  refine wp_append_lies w s x TS ho P.base P.T i0 _ 1 8 hTS hif hz0 hz1 hz2 rfl (by decide) P.v P.r P.l hs hrow ⟨bs, 0, none⟩ 1 1 [.int .i64 P.t] hx (by simp) (one_cell w bs _ _ hbs) (by simp [Value.oneCell']) (by decide) (by unfold maxLen; omega) (by omega) (by have := hl.size; omega) w.heap.size rfl ?_
  intro gg cap w1 k1 k2 k3 k4
  refine hK _ w1 ⟨((Only.of_below hl).grown k2 (fun j hj => .inl hj)), gg, cap, rfl, k1, ?_⟩
  rcases k3 with k3 | k3
  · exact .inl k3
  · exact .inr (by have := hl.size; omega)
def GInv (P : Gp) (b : Nat) (a0 : Act) (l : Array Bool) (a : Act) (w : World) : Prop := Fr (Lw b) a0 a ∧ GI P (flags l) (sh b (evals a)) w
theorem GInv.step {P : Gp} {b : Nat} {a0 a : Act} {l : Array Bool} {w w' : World} (h : GInv P b a0 l a w) (hl : l.size = 13) (hb : b + 12 ≤ a0.tmps.size) {i : Nat} (hi : i < 13) (j : Nat) (hj : j < 12) {v : Value} (hn : GI P (up (flags l) i true) (up (sh b (evals a)) j v) w') :
    GInv P b a0 (l.setIfInBounds i true) (a.put (some (b + j)) v) w' := by
  refine ⟨h.1.put (by unfold Lw; simp; omega) v, ?_⟩
  rw [flags_set (by omega), evals_put (by rw [h.1.size]; omega), sh_up]
  exact hn
end Go.Proofs.Ytdfjbgfdaokjgaa

/-
  The reference's Copy: one round of its first loop, as what its operations keep.
-/
import Derived.Test.YtdfjbgfdaokjgaaRCopy
import Derived.Deep.Upon
namespace Go.Proofs.Ytdfjbgfdaokjgaa
open Go.RowKit

def rowT (T : TypeId) (b1 b0 : Bool) (v1 v0 : Value) (xs : List Int) : Rw := ⟨T, 1, bif b1 then v1 else bif b0 then v0 else nilV, bif b1 then xs.length else 0, bif b1 then xs.map (Value.int .i64) else []⟩
theorem ownsRow_emptyT (T : TypeId) (w : World) (base : Nat) (h : base ≤ w.heap.size) : (w.alloc (.cells #[] T)).ownsRow base T 1 (.slice (some ⟨w.heap.size, 0, none⟩) 0 0) 0 [] :=
  ⟨rfl, .inr ⟨w.heap.size, 0, #[], rfl, h, heap_alloc_new w _, by simp, by unfold maxLen; omega, rfl, rfl⟩⟩
def GrewT (T : TypeId) (w w' : World) (base : Nat) (v v' : Value) (xs : List Int) : Prop :=
  w'.ownsRow base T 1 v' xs.length (xs.map (Value.int .i64)) ∧ (∀ b, b < w.heap.size → v.ownBlock ≠ some b → w'.heap[b]? = w.heap[b]?) ∧ (∀ b, v'.ownBlock = some b → v.ownBlock = some b ∨ w.heap.size ≤ b) ∧ Below base w w'
/-- What a round goes by: the call's world, where the copy lies, its rows, the list that is copied. -/
structure Rnd where
  T : TypeId
  TS : TypeId
  W : World
  base : Nat
  g : Nat
  fld : Nat
  B1 : Nat
  G : Nat
  off : Nat
  n : Nat
  cc : Nat
  vC : Value
  k : Nat
  cv : List Value
  l : List Int
  q : Option Addr
  c : Nat
  others : List Rw
  hd : Value → Array Value
def rowB (r : Rnd) (b : Bool) (v8 v10 : Value) : Rw := ⟨r.TS, 1, bif b then v10 else r.vC, bif b then r.k + 1 else r.k, bif b then r.cv ++ [v8] else r.cv⟩
def RL (r : Rnd) (f : Nat → Bool) (E : Nat → Value) : List Rw := rowB r (f 10) (E 8) (E 10) :: rowT r.T (f 8) (f 2) (E 8) (E 2) r.l :: r.others
structure LI (r : Rnd) (f : Nat → Bool) (E : Nat → Value) (w : World) : Prop where
  low : Below r.W.heap.size r.W w
  hb : r.W.heap.size ≤ r.base ∧ r.base ≤ w.heap.size
  t0 : f 0 = true → E 0 = .pointer (some ⟨r.g, r.fld, none⟩)
  t1 : f 1 = true → E 1 = r.vC
  t2 : f 2 = true → ∃ b, E 2 = .slice (some ⟨b, 0, none⟩) 0 0
  t3 : f 3 = true → E 3 = .pointer (some ⟨r.B1, r.fld, none⟩)
  t4 : f 4 = true → E 4 = .slice (some ⟨r.G, r.off, none⟩) r.n r.cc
  t5 : f 5 = true → E 5 = .int .i64 r.k
  t6 : f 6 = true → E 6 = .pointer (some ⟨r.G, r.off + r.k, none⟩)
  t7 : f 7 = true → E 7 = .slice r.q r.l.length r.c
  p8 : f 8 = true → f 2 = true
  p9 : f 9 = true → f 8 = true
  p10 : f 10 = true → f 9 = true
  p10b : f 10 = true → f 1 = true
  p12 : f 12 = true → f 10 = true
  t9 : f 9 = true → f 10 = false → ∃ b, E 9 = .slice (some ⟨b, 0, none⟩) 1 1 ∧ Blk w b r.TS #[E 8]
  t11 : f 11 = true → E 11 = .pointer (some ⟨r.g, r.fld, none⟩)
  rows : Rows w r.base (RL r f E)
  box : Blk w r.g 33 (r.hd (bif f 12 then E 10 else r.vC))
  gout : ¬ Fp (RL r f E) r.g
  gbase : r.base ≤ r.g
section
variable {r : Rnd} {f : Nat → Bool} {E : Nat → Value} {w w' : World}
theorem LI.s0 (h : LI r f E w) : LI r (up f 0 true) (up E 0 (.pointer (some ⟨r.g, r.fld, none⟩))) w := { h with t0 := fun _ => rfl }
theorem LI.s1 (h : LI r f E w) : LI r (up f 1 true) (up E 1 r.vC) w := { h with t1 := fun _ => rfl, p10b := fun _ => rfl }
theorem LI.s3 (h : LI r f E w) : LI r (up f 3 true) (up E 3 (.pointer (some ⟨r.B1, r.fld, none⟩))) w := { h with t3 := fun _ => rfl }
theorem LI.s4 (h : LI r f E w) : LI r (up f 4 true) (up E 4 (.slice (some ⟨r.G, r.off, none⟩) r.n r.cc)) w := { h with t4 := fun _ => rfl }
theorem LI.s5 (h : LI r f E w) : LI r (up f 5 true) (up E 5 (.int .i64 r.k)) w := { h with t5 := fun _ => rfl }
theorem LI.s6 (h : LI r f E w) : LI r (up f 6 true) (up E 6 (.pointer (some ⟨r.G, r.off + r.k, none⟩))) w := { h with t6 := fun _ => rfl }
theorem LI.s7 (h : LI r f E w) : LI r (up f 7 true) (up E 7 (.slice r.q r.l.length r.c)) w := { h with t7 := fun _ => rfl }
theorem LI.s11 (h : LI r f E w) : LI r (up f 11 true) (up E 11 (.pointer (some ⟨r.g, r.fld, none⟩))) w := { h with t11 := fun _ => rfl }
theorem LI.off (h : LI r f E w) {j : Nat} (hj : f j = false) : (j = 2 → f 8 = false) ∧ ((j = 2 ∨ j = 8) → f 9 = false) ∧ ((j = 2 ∨ j = 8 ∨ j = 9) → f 10 = false) ∧ ((j = 2 ∨ j = 8 ∨ j = 9 ∨ j = 10) → f 12 = false) := by
  have a1 : f 2 = false → f 8 = false := fun h2 => by cases hc : f 8 with
    | false => rfl
    | true => rw [h.p8 hc] at h2; cases h2
  have a2 : f 8 = false → f 9 = false := fun h2 => by cases hc : f 9 with
    | false => rfl
    | true => rw [h.p9 hc] at h2; cases h2
  have a3 : f 9 = false → f 10 = false := fun h2 => by cases hc : f 10 with
    | false => rfl
    | true => rw [h.p10 hc] at h2; cases h2
  have a4 : f 10 = false → f 12 = false := fun h2 => by cases hc : f 12 with
    | false => rfl
    | true => rw [h.p12 hc] at h2; cases h2
  refine ⟨fun e => a1 (e ▸ hj), fun e => ?_, fun e => ?_, fun e => ?_⟩
  · rcases e with rfl | rfl
    · exact a2 (a1 hj)
    · exact a2 hj
  · rcases e with rfl | rfl | rfl
    · exact a3 (a2 (a1 hj))
    · exact a3 (a2 hj)
    · exact a3 hj
  · rcases e with rfl | rfl | rfl | rfl
    · exact a4 (a3 (a2 (a1 hj)))
    · exact a4 (a3 (a2 hj))
    · exact a4 (a3 hj)
    · exact a4 hj
/-- One row is laid anew, or grows: the box stays as it is. -/
theorem LI.row (h : LI r f E w) {i : Nat} {x x' : Rw} {l' : List Rw} (hi : (RL r f E)[i]? = some x) (hset : l' = (RL r f E).set i x')
    (hr : w'.ownsRow r.base x'.e x'.k x'.v x'.n x'.xs) (hk : ∀ b, b < w.heap.size → x.v.ownBlock ≠ some b → w'.heap[b]? = w.heap[b]?) (hf : ∀ b, x'.v.ownBlock = some b → x.v.ownBlock = some b ∨ w.heap.size ≤ b) :
    Rows w' r.base l' ∧ ¬ Fp l' r.g ∧ ∀ cs, Blk w r.g 33 cs → Blk w' r.g 33 cs := by
  subst hset
  have hne : x.v.ownBlock ≠ some r.g := fun e => h.gout ⟨i, x, hi, e⟩
  refine ⟨h.rows.upd hi hr hk hf, fun hf' => ?_, fun cs hb => (hk r.g hb.lt hne).trans hb⟩
  rcases hf'.set with hf' | hf'
  · exact h.gout hf'
  · rcases hf _ hf' with hh | hh
    · exact hne hh
    · have := h.box.lt; omega
theorem LI.s2 (h : LI r f E w) (h0 : f 2 = false) : LI r (up f 2 true) (up E 2 (.slice (some ⟨w.heap.size, 0, none⟩) 0 0)) (w.alloc (.cells #[] r.T)) := by
  obtain ⟨o1, o2, o3, o4⟩ := h.off h0
  have h8 := o1 rfl; have h9 := o2 (.inl rfl); have h10 := o3 (.inl rfl); have h12 := o4 (.inl rfl)
  obtain ⟨q1, q2, q3⟩ := h.row (w' := w.alloc (.cells #[] r.T)) (i := 1) (x' := ⟨r.T, 1, .slice (some ⟨w.heap.size, 0, none⟩) 0 0, 0, []⟩) (l' := RL r (up f 2 true) (up E 2 (.slice (some ⟨w.heap.size, 0, none⟩) 0 0))) rfl
    (by simp [RL, rowT, rowB, up, h8, h10]) (ownsRow_emptyT r.T w _ h.hb.2) (fun b hb _ => Below.heap_alloc _ _ _ hb) (fun b hb => .inr (by simp [Value.ownBlock] at hb; omega))
  exact { h with low := h.low.alloc h.low.size _, hb := ⟨h.hb.1, by simp; have := h.hb.2; omega⟩, t2 := fun _ => ⟨_, rfl⟩, p8 := fun hx => no_flag h8 hx, t9 := fun hx => no_flag h9 hx, rows := q1, gout := q2, box := q3 _ h.box }
theorem LI.s8 (h : LI r f E w) (h2 : f 2 = true) (h8 : f 8 = false) {v' : Value} (hg : GrewT r.T w w' r.base (E 2) v' r.l) : LI r (up f 8 true) (up E 8 v') w' := by
  obtain ⟨g1, g2, g3, g4⟩ := hg
  obtain ⟨-, o2, o3, o4⟩ := h.off h8
  have h9 := o2 (.inr rfl); have h10 := o3 (.inr (.inl rfl)); have h12 := o4 (.inr (.inl rfl))
  obtain ⟨q1, q2, q3⟩ := h.row (w' := w') (i := 1) (x' := ⟨r.T, 1, v', r.l.length, r.l.map (Value.int .i64)⟩) (l' := RL r (up f 8 true) (up E 8 v')) rfl (by simp [RL, rowT, rowB, up, h10]) g1
    (fun b hb hne => g2 b hb (by simpa [rowT, h2, h8] using hne)) (fun b hb => by simpa [rowT, h2, h8] using g3 b hb)
  exact { h with low := h.low.trans (g4.mono h.hb.1), hb := ⟨h.hb.1, Nat.le_trans h.hb.2 g4.size⟩, p8 := fun _ => h2, p9 := fun hx => no_flag h9 hx, t9 := fun hx => no_flag h9 hx, rows := q1, gout := q2, box := q3 _ h.box }
theorem LI.s9 (h : LI r f E w) (h8 : f 8 = true) (h9 : f 9 = false) : LI r (up f 9 true) (up E 9 (.slice (some ⟨w.heap.size, 0, none⟩) 1 1)) (w.alloc (.cells #[E 8] r.TS)) := by
  obtain ⟨-, -, o3, o4⟩ := h.off h9
  have h10 := o3 (.inr (.inr rfl)); have h12 := o4 (.inr (.inr (.inl rfl)))
  exact { h with
    low := h.low.alloc h.low.size _
    hb := ⟨h.hb.1, by simp; have := h.hb.2; omega⟩
    p9 := fun _ => h8
    p10 := fun hx => no_flag h10 hx
    t9 := fun _ _ => ⟨_, rfl, Blk.new _ _ _⟩
    rows := h.rows.below (n := w.heap.size) ⟨rfl, rfl, rfl, by simp, fun b hb => Below.heap_alloc _ _ _ hb⟩ (fun b hb => (h.rows.lt hb).2)
    box := h.box.alloc _ }
theorem LI.s10 (h : LI r f E w) (h1 : f 1 = true) (h9 : f 9 = true) (h10 : f 10 = false) {v' : Value} (g1 : w'.ownsRow r.base r.TS 1 v' (r.k + 1) (r.cv ++ [E 8])) (g2 : ∀ b, b < w.heap.size → r.vC.ownBlock ≠ some b → w'.heap[b]? = w.heap[b]?)
    (g3 : ∀ b, v'.ownBlock = some b → r.vC.ownBlock = some b ∨ w.heap.size ≤ b) (g4 : Below r.base w w') : LI r (up f 10 true) (up E 10 v') w' := by
  obtain ⟨-, -, -, o4⟩ := h.off h10
  have h12 := o4 (.inr (.inr (.inr rfl)))
  obtain ⟨q1, q2, q3⟩ := h.row (w' := w') (i := 0) (x' := ⟨r.TS, 1, v', r.k + 1, r.cv ++ [E 8]⟩) (l' := RL r (up f 10 true) (up E 10 v')) rfl (by simp [RL, rowT, rowB, up]) g1
    (fun b hb hne => g2 b hb (by simpa [rowB, h10] using hne)) (fun b hb => by simpa [rowB, h10] using g3 b hb)
  have hbx := q3 _ h.box
  rw [h12] at hbx
  exact { h with
    low := h.low.trans (g4.mono h.hb.1)
    hb := ⟨h.hb.1, Nat.le_trans h.hb.2 g4.size⟩
    p10 := fun _ => h9
    p10b := fun _ => h1
    p12 := fun hx => no_flag h12 hx
    t9 := fun _ hx => no_flag hx rfl
    rows := q1
    gout := q2
    box := (congrArg (fun b => Blk w' r.g 33 (r.hd (bif b then v' else r.vC))) h12).mpr hbx }
theorem LI.s12 (h : LI r f E w) (h10 : f 10 = true) (hb : Blk w' r.g 33 (r.hd (E 10))) (ho : Only (fun b => b = r.g) w w') : LI r (up f 12 true) E w' :=
  { h with
    low := h.low.trans (ho.below h.low.size (fun k hk => by rw [hk]; exact Nat.le_trans h.hb.1 h.gbase))
    hb := ⟨h.hb.1, Nat.le_trans h.hb.2 ho.size⟩
    p12 := fun _ => h10
    t9 := fun _ hx => no_flag hx h10
    rows := h.rows.only ho (fun b hb hbg => h.gout (hbg ▸ hb))
    box := hb }
end
theorem append_grewT {T TS : TypeId} (hTS : Try.prog.underlying TS = some (.slice T)) (hT : (Try.prog.info? T).map (fun i => (i.zero, i.size, i.bytes)) = some (some (.int .i64 0), 1, 8))
    {ops : Array Oper} {Q : Exit → Act → World → Prop} {i : Nat} {o : Oper} {K : Act → World → Prop} {a : Act} {s x : Operand} {w : World} {base g c : Nat} {oa : Option Addr} {xs : List Int} (hi : ops[i]? = some o) (hgd : o.guard = none)
    (ho : o.op = .call { callee := .builtin .append, args := #[s, x], argTypes := #[TS, TS] }) (hs : a.eval s = .slice (some ⟨g, 0, none⟩) 0 0) (hrow : w.ownsRow base T 1 (.slice (some ⟨g, 0, none⟩) 0 0) 0 [])
    (hx : a.eval x = .slice oa xs.length c) (hxs : IntsAt w oa xs) (hm : xs.length ≤ 1000000) (hbase : base ≤ w.heap.size)
    (hK : ∀ v' w', GrewT T w w' base (.slice (some ⟨g, 0, none⟩) 0 0) v' xs → K (a.put o.dst v') w') : wpOp Try.prog ops Q i K a w := by
  obtain ⟨i0, hif, hz0, hz1, hz2⟩ := info_parts hT
  unfold wpOp
  rw [hi]
  simp only [Region.wanted, hgd, if_true]
  refine .inl ?_
  by_cases h0 : xs = []
  · subst h0
    have hsrc : Src Try.prog i0.size TS (.slice oa 0 c) 0 [] w := by
      cases oa with
      | none => exact Src.ofNil w hTS c
      | some ad => exact Src.ofSlice w hTS ad 0 c [] (by simp) (by simp) (by simp)
    have hr := run_append_nothing (P := Try.prog) w TS TS o.type T i0 hTS hif (some ⟨g, 0, none⟩) 0 0 (Nat.le_refl _) (.slice oa 0 c) hsrc
    have hx' : a.eval x = .slice oa 0 c := hx
    unfold Oper.wp execOp
    simp only [ho, resolve, invoke, builtin, Sem.run_bind, Sem.run_pure, Result.andThen_ok, List.map_toArray, List.map_cons, List.map_nil, hs, hx', hr]
    exact hK _ w ⟨hrow, fun b _ _ => rfl, fun b hb => .inl hb, Below.refl _ _⟩
  · have hpos : 0 < xs.length := List.length_pos_iff.2 h0
    obtain ⟨g2, off, rfl⟩ := hxs.1 hpos
    refine wp_append_lies w s x TS ho base T i0 _ 1 8 hTS hif hz0 hz1 hz2 rfl (by decide) _ 0 [] hs hrow ⟨g2, off, none⟩ xs.length c (xs.map (Value.int .i64)) hx (by simp) ?_ ?_ hpos (by unfold maxLen; omega) (by omega) hbase w.heap.size rfl ?_
    · intro j u hu
      rw [List.getElem?_map] at hu
      cases hz : xs[j]? with
      | none => rw [hz] at hu; cases hu
      | some z =>
        rw [hz] at hu
        obtain rfl : Value.int .i64 z = u := by simpa using hu
        have := hxs.2 g2 off rfl j z hz
        rw [Go.WideShapes.add_plain]; exact this
    · intro u hu
      obtain ⟨z, -, rfl⟩ := List.mem_map.1 hu
      rfl
    · intro g3 cap w1 k1 k2 k3 k4
      refine hK _ w1 ⟨?_, fun b hb hne => k2.block b hb (fun e => hne e.symm), fun b hb => ?_, ?_⟩
      · simpa using k1
      · obtain rfl : g3 = b := by simpa [Value.ownBlock] using hb
        rcases k3 with k3 | k3
        · exact .inl k3
        · exact .inr (by omega)
      · exact (Below.refl _ _).grown k2 hbase (fun k hk => by
          obtain rfl : g = k := by simpa [Value.ownBlock] using hk
          exact (hrow.lt g rfl).1)
end Go.Proofs.Ytdfjbgfdaokjgaa

/-
  The reference's Copy.
-/
import Derived.Test.YtdfjbgfdaokjgaaRState
import Derived.Test.YtdfjbgfdaokjgaaRegion
import Derived.Deep.CutRange
import Derived.Deep.Upon
namespace Go.Proofs.Ytdfjbgfdaokjgaa
open Go.RowKit

def up {α : Type} (f : Nat → α) (i : Nat) (v : α) : Nat → α := fun j => if j = i then v else f j
def flags (l : Array Bool) : Nat → Bool := fun j => l.getD j false
def evals (a : Act) : Nat → Value := fun t => a.eval (.tmp t)
theorem flags_set {l : Array Bool} {i : Nat} (h : i < l.size) : flags (l.setIfInBounds i true) = up (flags l) i true := by
  funext j
  unfold flags up
  by_cases e : j = i
  · subst e; simp [Array.getD, h]
  · rw [getD_set_ne false (fun h => e h.symm), if_neg e]
theorem evals_put {a : Act} {d : Nat} (h : d < a.tmps.size) (v : Value) : evals (a.put (some d) v) = up (evals a) d v := by
  funext t
  unfold evals up
  by_cases e : t = d
  · subst e; rw [put_same h, if_pos rfl]
  · rw [put_other (fun h => e h.symm), if_neg e]
theorem evals_none (a : Act) (v : Value) : evals (a.put none v) = evals a := rfl

theorem no_flag {b : Bool} {p : Prop} (h : b = false) (hx : b = true) : p := by rw [h] at hx; cases hx
abbrev nilV : Value := .slice none 0 0
def rowK (b1 b0 : Bool) (v1 v0 : Value) (xs : List Int) : Rw := ⟨3, 1, bif b1 then v1 else bif b0 then v0 else nilV, bif b1 then xs.length else 0, bif b1 then xs.map (Value.int .i64) else []⟩
/-- The three rows that come to be. -/
def RW (s : SM) (f : Nat → Bool) (e : Nat → Value) : List Rw :=
  [rowK (f 3) (f 0) (e 9) (e 6) s.owners, rowK (f 7) (f 4) (e 13) (e 10) (s.chans.map (·.room)), rowK (f 11) (f 8) (e 17) (e 14) (s.chans.map (fun c => (c.taken : Int)))]
abbrev aggK (v1 v2 v3 : Value) : Array Value := #[v1, nilV, v2, nilV, v3]
/-- What holds between two operations. -/
structure CI (w0 : World) (B1 : Nat) (y : RLy) (s : SM) (f : Nat → Bool) (e : Nat → Value) (w : World) : Prop where
  low : Below w0.heap.size w0 w
  t1 : e 1 = .pointer (some ⟨B1, 0, none⟩)
  t6 : f 0 = true → ∃ g, e 6 = .slice (some ⟨g, 0, none⟩) 0 0
  t7 : f 1 = true → e 7 = .pointer (some ⟨B1, 0, none⟩)
  t8 : f 2 = true → e 8 = .slice y.o1 s.owners.length y.c1
  p3 : f 3 = true → f 0 = true
  t10 : f 4 = true → ∃ g, e 10 = .slice (some ⟨g, 0, none⟩) 0 0
  t11 : f 5 = true → e 11 = .pointer (some ⟨B1, 2, none⟩)
  t12 : f 6 = true → e 12 = .slice y.o3 s.chans.length y.c3
  p7 : f 7 = true → f 4 = true
  t14 : f 8 = true → ∃ g, e 14 = .slice (some ⟨g, 0, none⟩) 0 0
  t15 : f 9 = true → e 15 = .pointer (some ⟨B1, 4, none⟩)
  t16 : f 10 = true → e 16 = .slice y.o5 s.chans.length y.c5
  p11 : f 11 = true → f 8 = true
  p12 : f 12 = true → f 3 = true ∧ f 7 = true ∧ f 11 = true
  t18 : f 12 = true → e 18 = .agg (aggK (e 9) (e 13) (e 17))
  p14 : f 14 = true → f 13 = true ∧ f 12 = true
  rows : Rows w w0.heap.size (RW s f e)
  t3 : f 13 = true → ∃ g, e 3 = .pointer (some ⟨g, 0, none⟩) ∧ w0.heap.size ≤ g ∧ ¬ Fp (RW s f e) g ∧ Blk w g 33 (bif f 14 then aggK (e 9) (e 13) (e 17) else aggK nilV nilV nilV)

section
variable {w0 w w' : World} {B1 : Nat} {y : RLy} {s : SM} {f : Nat → Bool} {e : Nat → Value}
/-- A row is laid anew, or has grown. -/
theorem CI.row (h : CI w0 B1 y s f e w) {f' : Nat → Bool} {e' : Nat → Value} {i : Nat} {r r' : Rw} (hi : (RW s f e)[i]? = some r) (hset : RW s f' e' = (RW s f e).set i r')
    (hr : w'.ownsRow w0.heap.size r'.e r'.k r'.v r'.n r'.xs) (hk : ∀ b, b < w.heap.size → r.v.ownBlock ≠ some b → w'.heap[b]? = w.heap[b]?) (hf : ∀ b, r'.v.ownBlock = some b → r.v.ownBlock = some b ∨ w.heap.size ≤ b)
    (h13 : f' 13 = f 13) (h14 : f' 14 = f 14) (e3 : e' 3 = e 3) (hag : f 14 = true → e' 9 = e 9 ∧ e' 13 = e 13 ∧ e' 17 = e 17) :
    Rows w' w0.heap.size (RW s f' e') ∧ (f' 13 = true → ∃ g, e' 3 = .pointer (some ⟨g, 0, none⟩) ∧ w0.heap.size ≤ g ∧ ¬ Fp (RW s f' e') g ∧ Blk w' g 33 (bif f' 14 then aggK (e' 9) (e' 13) (e' 17) else aggK nilV nilV nilV)) := by
  rw [hset]
  refine ⟨h.rows.upd hi hr hk hf, fun hx => ?_⟩
  rw [h13] at hx
  obtain ⟨g, h1, h2, h3, h4⟩ := h.t3 hx
  have hne : r.v.ownBlock ≠ some g := fun e => h3 ⟨i, r, hi, e⟩
  refine ⟨g, e3.trans h1, h2, fun hf' => ?_, ?_⟩
  · rcases hf'.set with hf' | hf'
    · exact h3 hf'
    · rcases hf g hf' with hh | hh
      · exact hne hh
      · have := h4.lt; omega
  · have h5 : Blk w' g 33 (bif f 14 then aggK (e 9) (e 13) (e 17) else aggK nilV nilV nilV) := (hk g h4.lt hne).trans h4
    rw [h14]
    cases hb : f 14 with
    | false => rw [hb] at h5; exact h5
    | true =>
      rw [hb] at h5
      obtain ⟨q1, q2, q3⟩ := hag hb
      rw [q1, q2, q3]; exact h5
theorem ownsRow_empty (w : World) (base : Nat) (h : base ≤ w.heap.size) : (w.alloc (.cells #[] 3)).ownsRow base 3 1 (.slice (some ⟨w.heap.size, 0, none⟩) 0 0) 0 [] :=
  ⟨rfl, .inr ⟨w.heap.size, 0, #[], rfl, h, heap_alloc_new w _, by simp, by unfold maxLen; omega, rfl, rfl⟩⟩
section
theorem CI.s1 (h : CI w0 B1 y s f e w) : CI w0 B1 y s (up f 1 true) (up e 7 (.pointer (some ⟨B1, 0, none⟩))) w := { h with t7 := fun _ => rfl }
theorem CI.s5 (h : CI w0 B1 y s f e w) : CI w0 B1 y s (up f 5 true) (up e 11 (.pointer (some ⟨B1, 2, none⟩))) w := { h with t11 := fun _ => rfl }
theorem CI.s9 (h : CI w0 B1 y s f e w) : CI w0 B1 y s (up f 9 true) (up e 15 (.pointer (some ⟨B1, 4, none⟩))) w := { h with t15 := fun _ => rfl }
theorem CI.s2 (h : CI w0 B1 y s f e w) : CI w0 B1 y s (up f 2 true) (up e 8 (.slice y.o1 s.owners.length y.c1)) w := { h with t8 := fun _ => rfl }
theorem CI.s6 (h : CI w0 B1 y s f e w) : CI w0 B1 y s (up f 6 true) (up e 12 (.slice y.o3 s.chans.length y.c3)) w := { h with t12 := fun _ => rfl }
theorem CI.s10 (h : CI w0 B1 y s f e w) : CI w0 B1 y s (up f 10 true) (up e 16 (.slice y.o5 s.chans.length y.c5)) w := { h with t16 := fun _ => rfl }
theorem CI.s12 (h : CI w0 B1 y s f e w) (h3 : f 3 = true) (h7 : f 7 = true) (h11 : f 11 = true) (h14 : f 14 = false) : CI w0 B1 y s (up f 12 true) (up e 18 (.agg (aggK (e 9) (e 13) (e 17)))) w :=
  { h with t18 := fun _ => rfl, p12 := fun _ => ⟨h3, h7, h11⟩, p14 := fun hx => no_flag h14 hx }
/-- The three empty rows. -/
theorem CI.s0 (h : CI w0 B1 y s f e w) (h0 : f 0 = false) : CI w0 B1 y s (up f 0 true) (up e 6 (.slice (some ⟨w.heap.size, 0, none⟩) 0 0)) (w.alloc (.cells #[] 3)) := by
  have h3 : f 3 = false := by cases hc : f 3 with
    | false => rfl
    | true => rw [h.p3 hc] at h0; cases h0
  obtain ⟨q1, q2⟩ := h.row (w' := w.alloc (.cells #[] 3)) (f' := up f 0 true) (e' := up e 6 (.slice (some ⟨w.heap.size, 0, none⟩) 0 0)) (i := 0) (r' := ⟨3, 1, .slice (some ⟨w.heap.size, 0, none⟩) 0 0, 0, []⟩) rfl
    (by simp [RW, rowK, up, h3]) (ownsRow_empty w _ h.low.size) (fun b hb _ => Below.heap_alloc _ _ _ hb) (fun b hb => .inr (by simp [Value.ownBlock] at hb; omega)) rfl rfl rfl (fun _ => ⟨rfl, rfl, rfl⟩)
  exact { h with low := h.low.alloc h.low.size _, t6 := fun _ => ⟨_, rfl⟩, p3 := fun hx => no_flag h3 hx, rows := q1, t3 := q2 }
theorem CI.s4 (h : CI w0 B1 y s f e w) (h0 : f 4 = false) : CI w0 B1 y s (up f 4 true) (up e 10 (.slice (some ⟨w.heap.size, 0, none⟩) 0 0)) (w.alloc (.cells #[] 3)) := by
  have h3 : f 7 = false := by cases hc : f 7 with
    | false => rfl
    | true => rw [h.p7 hc] at h0; cases h0
  obtain ⟨q1, q2⟩ := h.row (w' := w.alloc (.cells #[] 3)) (f' := up f 4 true) (e' := up e 10 (.slice (some ⟨w.heap.size, 0, none⟩) 0 0)) (i := 1) (r' := ⟨3, 1, .slice (some ⟨w.heap.size, 0, none⟩) 0 0, 0, []⟩) rfl
    (by simp [RW, rowK, up, h3]) (ownsRow_empty w _ h.low.size) (fun b hb _ => Below.heap_alloc _ _ _ hb) (fun b hb => .inr (by simp [Value.ownBlock] at hb; omega)) rfl rfl rfl (fun _ => ⟨rfl, rfl, rfl⟩)
  exact { h with low := h.low.alloc h.low.size _, t10 := fun _ => ⟨_, rfl⟩, p7 := fun hx => no_flag h3 hx, rows := q1, t3 := q2 }
theorem CI.s8 (h : CI w0 B1 y s f e w) (h0 : f 8 = false) : CI w0 B1 y s (up f 8 true) (up e 14 (.slice (some ⟨w.heap.size, 0, none⟩) 0 0)) (w.alloc (.cells #[] 3)) := by
  have h3 : f 11 = false := by cases hc : f 11 with
    | false => rfl
    | true => rw [h.p11 hc] at h0; cases h0
  obtain ⟨q1, q2⟩ := h.row (w' := w.alloc (.cells #[] 3)) (f' := up f 8 true) (e' := up e 14 (.slice (some ⟨w.heap.size, 0, none⟩) 0 0)) (i := 2) (r' := ⟨3, 1, .slice (some ⟨w.heap.size, 0, none⟩) 0 0, 0, []⟩) rfl
    (by simp [RW, rowK, up, h3]) (ownsRow_empty w _ h.low.size) (fun b hb _ => Below.heap_alloc _ _ _ hb) (fun b hb => .inr (by simp [Value.ownBlock] at hb; omega)) rfl rfl rfl (fun _ => ⟨rfl, rfl, rfl⟩)
  exact { h with low := h.low.alloc h.low.size _, t14 := fun _ => ⟨_, rfl⟩, p11 := fun hx => no_flag h3 hx, rows := q1, t3 := q2 }
/-- A row has its numbers: what was appended. -/
def Grew (w w' : World) (base : Nat) (v v' : Value) (xs : List Int) : Prop :=
  w'.ownsRow base 3 1 v' xs.length (xs.map (Value.int .i64)) ∧ (∀ b, b < w.heap.size → v.ownBlock ≠ some b → w'.heap[b]? = w.heap[b]?) ∧ (∀ b, v'.ownBlock = some b → v.ownBlock = some b ∨ w.heap.size ≤ b) ∧ Below base w w'
theorem CI.s3 (h : CI w0 B1 y s f e w) (h0 : f 0 = true) (h3 : f 3 = false) (h14 : f 14 = false) {v' : Value} (hg : Grew w w' w0.heap.size (e 6) v' s.owners) : CI w0 B1 y s (up f 3 true) (up e 9 v') w' := by
  obtain ⟨g1, g2, g3, g4⟩ := hg
  have h12 : f 12 = false := by cases hc : f 12 with
    | false => rfl
    | true => rw [(h.p12 hc).1] at h3; cases h3
  obtain ⟨q1, q2⟩ := h.row (w' := w') (f' := up f 3 true) (e' := up e 9 v') (i := 0) (r' := ⟨3, 1, v', s.owners.length, s.owners.map (Value.int .i64)⟩) rfl (by simp [RW, rowK, up]) g1
    (fun b hb hne => g2 b hb (by simpa [rowK, h0, h3] using hne)) (fun b hb => by simpa [rowK, h0, h3] using g3 b hb) rfl rfl rfl (fun hx => by rw [h14] at hx; cases hx)
  exact { h with low := h.low.trans g4, p3 := fun _ => h0, p12 := fun hx => no_flag h12 hx, t18 := fun hx => no_flag h12 hx, rows := q1, t3 := q2 }
theorem CI.s7 (h : CI w0 B1 y s f e w) (h0 : f 4 = true) (h3 : f 7 = false) (h14 : f 14 = false) {v' : Value} (hg : Grew w w' w0.heap.size (e 10) v' (s.chans.map (·.room))) : CI w0 B1 y s (up f 7 true) (up e 13 v') w' := by
  obtain ⟨g1, g2, g3, g4⟩ := hg
  have h12 : f 12 = false := by cases hc : f 12 with
    | false => rfl
    | true => rw [(h.p12 hc).2.1] at h3; cases h3
  obtain ⟨q1, q2⟩ := h.row (w' := w') (f' := up f 7 true) (e' := up e 13 v') (i := 1) (r' := ⟨3, 1, v', (s.chans.map (·.room)).length, (s.chans.map (·.room)).map (Value.int .i64)⟩) rfl (by simp [RW, rowK, up]) g1
    (fun b hb hne => g2 b hb (by simpa [rowK, h0, h3] using hne)) (fun b hb => by simpa [rowK, h0, h3] using g3 b hb) rfl rfl rfl (fun hx => by rw [h14] at hx; cases hx)
  exact { h with low := h.low.trans g4, p7 := fun _ => h0, p12 := fun hx => no_flag h12 hx, t18 := fun hx => no_flag h12 hx, rows := q1, t3 := q2 }
theorem CI.s11 (h : CI w0 B1 y s f e w) (h0 : f 8 = true) (h3 : f 11 = false) (h14 : f 14 = false) {v' : Value} (hg : Grew w w' w0.heap.size (e 14) v' (s.chans.map (fun c => (c.taken : Int)))) : CI w0 B1 y s (up f 11 true) (up e 17 v') w' := by
  obtain ⟨g1, g2, g3, g4⟩ := hg
  have h12 : f 12 = false := by cases hc : f 12 with
    | false => rfl
    | true => rw [(h.p12 hc).2.2] at h3; cases h3
  obtain ⟨q1, q2⟩ := h.row (w' := w') (f' := up f 11 true) (e' := up e 17 v') (i := 2) (r' := ⟨3, 1, v', (s.chans.map (fun c => (c.taken : Int))).length, (s.chans.map (fun c => (c.taken : Int))).map (Value.int .i64)⟩) rfl (by simp [RW, rowK, up]) g1
    (fun b hb hne => g2 b hb (by simpa [rowK, h0, h3] using hne)) (fun b hb => by simpa [rowK, h0, h3] using g3 b hb) rfl rfl rfl (fun hx => by rw [h14] at hx; cases hx)
  exact { h with low := h.low.trans g4, p11 := fun _ => h0, p12 := fun hx => no_flag h12 hx, t18 := fun hx => no_flag h12 hx, rows := q1, t3 := q2 }
/-- The box is laid. -/
theorem CI.s13 (h : CI w0 B1 y s f e w) (h14 : f 14 = false) : CI w0 B1 y s (up f 13 true) (up e 3 (.pointer (some ⟨w.heap.size, 0, none⟩))) (w.alloc (.cells (aggK nilV nilV nilV) 33)) :=
  { h with
    low := h.low.alloc h.low.size _
    p14 := fun hx => no_flag h14 hx
    rows := h.rows.below (n := w.heap.size) ⟨rfl, rfl, rfl, by simp, fun b hb => Below.heap_alloc _ _ _ hb⟩ (fun b hb => (h.rows.lt hb).2)
    t3 := fun _ => ⟨w.heap.size, rfl, h.low.size, fun hf => by have := (h.rows.lt hf).2; omega, by rw [show up f 13 true 14 = f 14 from rfl, h14]; exact Blk.new _ _ _⟩ }
/-- The box is filled. -/
theorem CI.s14 (h : CI w0 B1 y s f e w) (h12 : f 12 = true) (h13 : f 13 = true) {g : Nat} (hg : e 3 = .pointer (some ⟨g, 0, none⟩)) (hb : Blk w' g 33 (aggK (e 9) (e 13) (e 17))) (ho : Only (fun b => b = g) w w') :
    CI w0 B1 y s (up f 14 true) e w' := by
  obtain ⟨g', h1, h2, h3, h4⟩ := h.t3 h13
  rw [hg] at h1
  obtain rfl : g = g' := by simpa using h1
  exact { h with
    low := h.low.trans (ho.below h.low.size (fun k hk => by rw [hk]; exact h2))
    p14 := fun _ => ⟨h13, h12⟩
    rows := h.rows.only ho (fun b hb hbg => h3 (hbg ▸ hb))
    t3 := fun _ => ⟨g, hg, h2, h3, hb⟩ }
theorem append_grew {ops : Array Oper} {Q : Exit → Act → World → Prop} {i : Nat} {o : Oper} {K : Act → World → Prop} {a : Act} {s x : Operand} {base g c : Nat} {oa : Option Addr} {xs : List Int} (hi : ops[i]? = some o) (hgd : o.guard = none)
    (ho : o.op = .call { callee := .builtin .append, args := #[s, x], argTypes := #[22, 22] }) (hs : a.eval s = .slice (some ⟨g, 0, none⟩) 0 0) (hrow : w.ownsRow base 3 1 (.slice (some ⟨g, 0, none⟩) 0 0) 0 [])
    (hx : a.eval x = .slice oa xs.length c) (hxs : IntsAt w oa xs) (hm : xs.length ≤ 1000000) (hbase : base ≤ w.heap.size)
    (hK : ∀ v' w', Grew w w' base (.slice (some ⟨g, 0, none⟩) 0 0) v' xs → K (a.put o.dst v') w') : wpOp Try.prog ops Q i K a w := by
  obtain ⟨i0, hif, hz0, hz1, hz2⟩ := info_parts infoint
  unfold wpOp
  rw [hi]
  simp only [Region.wanted, hgd, if_true]
  refine .inl ?_
  by_cases h0 : xs = []
  · subst h0
    have hsrc : Src Try.prog i0.size 22 (.slice oa 0 c) 0 [] w := by
      cases oa with
      | none => exact Src.ofNil w Try.underlying22 c
      | some ad => exact Src.ofSlice w Try.underlying22 ad 0 c [] (by simp) (by simp) (by simp)
    have hr := run_append_nothing (P := Try.prog) w 22 22 o.type 3 i0 Try.underlying22 hif (some ⟨g, 0, none⟩) 0 0 (Nat.le_refl _) (.slice oa 0 c) hsrc
    have hx' : a.eval x = .slice oa 0 c := hx
    unfold Oper.wp execOp
    simp only [ho, resolve, invoke, builtin, Sem.run_bind, Sem.run_pure, Result.andThen_ok, List.map_toArray, List.map_cons, List.map_nil, hs, hx', hr]
    exact hK _ w ⟨hrow, fun b _ _ => rfl, fun b hb => .inl hb, Below.refl _ _⟩
  · have hpos : 0 < xs.length := List.length_pos_iff.2 h0
    obtain ⟨g2, off, rfl⟩ := hxs.1 hpos
    refine wp_append_lies w s x 22 ho base 3 i0 _ 1 8 Try.underlying22 hif hz0 hz1 hz2 rfl (by decide) _ 0 [] hs hrow ⟨g2, off, none⟩ xs.length c (xs.map (Value.int .i64)) hx (by simp) ?_ ?_ hpos (by unfold maxLen; omega) (by omega) hbase w.heap.size rfl ?_
    · intro j u hu
      rw [List.getElem?_map] at hu
      cases hz : xs[j]? with
      | none => rw [hz] at hu; cases hu
      | some z =>
        rw [hz] at hu
        obtain rfl : Value.int .i64 z = u := by simpa using hu
        have := hxs.2 g2 off rfl j z hz
        rw [Go.WideShapes.add_plain]; exact this
    · intro u hu
      obtain ⟨z, -, rfl⟩ := List.mem_map.1 hu
      rfl
    · intro g3 cap w1 k1 k2 k3 k4
      refine hK _ w1 ⟨?_, fun b hb hne => k2.block b hb (fun e => hne e.symm), fun b hb => ?_, ?_⟩
      · simpa using k1
      · obtain rfl : g3 = b := by simpa [Value.ownBlock] using hb
        rcases k3 with k3 | k3
        · exact .inl k3
        · exact .inr (by omega)
      · exact (Below.refl _ _).grown k2 hbase (fun k hk => by
          obtain rfl : g = k := by simpa [Value.ownBlock] using hk
          exact (hrow.lt g rfl).1)
end
end
end Go.Proofs.Ytdfjbgfdaokjgaa

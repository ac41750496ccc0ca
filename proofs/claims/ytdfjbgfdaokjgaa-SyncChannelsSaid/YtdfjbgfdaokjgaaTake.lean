/-
  The first of a queue is taken.
-/
import Derived.Test.YtdfjbgfdaokjgaaOff
import Derived.RangeFuncBound
namespace Go.Proofs.Ytdfjbgfdaokjgaa
open Go.RowKit Go.Shelf
attribute [local go_sem] Oper.semAt_some

theorem wpIn_scope_wide {n : Nat} {P : Program} {c : Code} {Q : Exit → Act → World → Prop} {a : Act} {w : World} (h : c.wpIn Fence.wide n P (Exit.noGoto Q) a w) : (Code.scope c).wpIn Fence.wide n P Q a w :=
  wpIn_wide.2 (wp_scope_straight (wpIn_wide.1 h))
theorem wpIn_label_wide {n l : Nat} {P : Program} {Q : Exit → Act → World → Prop} {a : Act} {w : World} (h : Q .normal a w) : (Code.label l).wpIn Fence.wide n P Q a w :=
  wpIn_wide.2 (wp_label h)

theorem QStep.frame {w W1 Wd Wf : World} {base B i : Nat} {T : TypeId} {v v' : Value} {xs' : List Int} (h : QStep W1 Wd base B i T v v' xs') (h1 : Only (fun _ => False) w W1)
    (h2 : Only (fun b => w.heap.size ≤ b ∧ b < W1.heap.size) Wd Wf) (hv : ∀ b, v.ownBlock = some b → b < w.heap.size) (hB : B < w.heap.size) : QStep w Wf base B i T v v' xs' := by
  have s1 := h1.size; have s2 := h.only.size
  refine ⟨?_, ?_, ?_, fun b hb => ?_⟩
  · exact ownsRow_block h.own (fun g hg => h2.block g (h.own.lt g hg).2 (fun ⟨ha, hb⟩ => by
      rcases h.lies g hg with hx | hx
      · have := hv g hx; omega
      · omega))
  · exact (h2.block B (by omega) (fun ⟨ha, _⟩ => by omega)).trans (h.blk.trans (heap_setCell_alike (h1.block B hB id) _))
  · exact ((h1.mono (fun _ hk => hk.elim)).trans h.only).then h2 (fun b ⟨hb, _⟩ => .inr hb)
  · rcases h.lies b hb with hx | hx
    · exact .inl hx
    · exact .inr (by omega)
theorem QAt.only {w w' : World} {base B i : Nat} {T : TypeId} {v : Value} {xs : List Int} {X : Nat → Prop} (h : QAt w base B i T v xs) (ho : Only X w w') (hB : ¬ X B) (hv : ∀ b, v.ownBlock = some b → ¬ X b) : QAt w' base B i T v xs := by
  have hlt := World.block_lt_of_cell? w _ h.cell
  exact ⟨(World.cell?_of_block (ho.block B hlt hB)).trans h.cell, (World.frozen?_of_block (ho.block B hlt hB)).trans h.frozen, ownsRow_block h.own (fun g hg => ho.block g (h.own.lt g hg).2 (hv g hg)), h.ne, h.len⟩

/-- What lies at a loop's begin: two results, a box, the loop's own blocks. -/
structure Start (w W1 : World) (T T2 T3 : TypeId) (x y z : Value) (rr : Obj) : Prop where
  size : W1.heap.size = w.heap.size + 5
  r0 : Blk W1 w.heap.size T #[x]
  r1 : Blk W1 (w.heap.size + 1) T2 #[y]
  bx : Blk W1 (w.heap.size + 2) T3 #[z]
  df : W1.heap[w.heap.size + 3]? = some (.deferred (some []))
  lp : W1.heap[w.heap.size + 4]? = some rr
  only : Only (fun _ => False) w W1
theorem start_of (w : World) (T T2 T3 : TypeId) (x y z : Value) (rr : Obj) (W1 : World) (h : W1 = ((((w.alloc (.cells #[x] T)).alloc (.cells #[y] T2)).alloc (.cells #[z] T3)).alloc (.deferred (some []))).alloc rr) : Start w W1 T T2 T3 x y z rr := by
  subst h
  have b1 := Blk.new w T #[x]
  have b2 := Blk.new' (w.alloc (.cells #[x] T)) T2 #[y] (w.heap.size + 1) (by simp)
  have b3 := Blk.new' ((w.alloc (.cells #[x] T)).alloc (.cells #[y] T2)) T3 #[z] (w.heap.size + 2) (by simp)
  refine ⟨by simp, (((b1.alloc _).alloc _).alloc _).alloc _, ((b2.alloc _).alloc _).alloc _, (b3.alloc _).alloc _, ?_, ?_, ((((((Only.refl w).alloc _).alloc _).alloc _).alloc _).alloc _)⟩
  · refine (Below.heap_alloc _ _ _ (by simp)).trans ?_
    have := World.alloc_heap_new (((w.alloc (.cells #[x] T)).alloc (.cells #[y] T2)).alloc (.cells #[z] T3)) (.deferred (some []))
    simpa using this
  · have := World.alloc_heap_new ((((w.alloc (.cells #[x] T)).alloc (.cells #[y] T2)).alloc (.cells #[z] T3)).alloc (.deferred (some []))) rr
    simpa using this

set_option maxRecDepth 100000 in
set_option maxHeartbeats 2000000 in
theorem take_int_nil (base B i : Nat) (v : Value) (w : World) (hq : QAt w base B i 3 v []) :
    Calls Try.prog 42 #[.pointer (some ⟨B, i, none⟩)] w fun e w' => e = .returned (.tuple #[.int .i64 0, .bool false]) ∧ Below w.heap.size w w' := by
  refine (callsIn_wide (n := 9)).1 ?_
  refine callsIn_of_wp_marks Try.func42 rfl trivial ?_ rfl
  simp only [Try.ntmps42, List.size_toArray, List.length_cons, List.length_nil, Nat.reduceAdd, Nat.reduceSub, Array.replicate_succ, Array.replicate_zero, List.push_toArray, List.append_toArray, List.nil_append, List.cons_append]
  have HQ := Lib.hid hq
  have hltB := World.block_lt_of_cell? w _ hq.cell
  have HV := Lib.hid (fun b hb => (hq.own.lt b hb).2)
  clear hq
  gi_wp2_with fail
  refine ⟨trivial, callsIn_wide.2 ((off_int B i _).mono ?_)⟩
  rintro e w1 ⟨rfl, rfl⟩
  gi_wp2_with fail
  refine range_of_call rfl (fun h => by cases h) (gf := 67) (lb := #[.pointer (some ⟨w.heap.size + 1 + 1, 0, none⟩)]) rfl trivial (enters_of Try.func67 (by kernel_rfl) rfl) ?_
  intro fn hfn rec hrec W1 hW1
  have ST := start_of w _ _ _ _ _ _ _ W1 hW1
  have hq1 := HQ.out.only ST.only id (fun _ _ => id)
  have zz : ∀ (o1 o2 o3 : Obj), ((((w.alloc o1).alloc o2).alloc o3).heap.size) = w.heap.size + 3 := fun _ _ _ => by simp
  rw [zz]
  clear hW1 zz
  refine (off1_int 8 (w.heap.size + 4) (w.heap.size + 2) B i base (fun ys W => ys = [] ∧ W = W1) (fun _ _ _ => False) (fun _ => False) ?_ ?_ ?_ [] W1 ⟨rfl, rfl⟩).mono ?_
  · rintro ys W ⟨rfl, rfl⟩
    exact ⟨⟨v, hq1, fun e => by have := HV.out _ e; omega⟩, ST.bx.cell 0, by omega⟩
  · rintro x ys W W' v v' ⟨h, _⟩
    cases h
  · intro m x ys W h
    exact h.elim
  · rintro e W2 ⟨⟨u, rfl⟩, ⟨_, rfl⟩ | h⟩
    · refine ⟨⟨_, rfl⟩, .inl ⟨ST.lp, ?_⟩⟩
      have ob := (Only.refl (X := fun b => b = w.heap.size + 4) W2).putObj (l := w.heap.size + 4) (.inl rfl) (.loop (rec .exhausted none))
      have r0 := ST.r0.only ob (by omega)
      have r1 := ST.r1.only ob (by omega)
      have hdz := (ob.block (w.heap.size + 3) (by have := ST.size; omega) (by omega)).trans ST.df
      have hbl : Below w.heap.size w (W2.putObj (w.heap.size + 4) (.loop (rec .exhausted none))) := (ST.only.below (Nat.le_refl _) (fun _ h => h.elim)).trans (ob.below (by have := ST.size; omega) (fun _ h => by omega))
      generalize hWb : W2.putObj (w.heap.size + 4) (.loop (rec .exhausted none)) = Wb at *
      have q0 := r0.cell 0; have q1 := r1.cell 0; have g0 := r0.frozen 0; have g1 := r1.frozen 0
      have R0 := Lib.hid r0; have R1 := Lib.hid r1; have HD := Lib.hid hdz; have HBL := Lib.hid hbl
      clear r0 r1 hdz hbl hWb ob hrec ST hq1
      gi_wp2_with fail
      have z0 := ((R0.out.set_ 0 (.int .i64 0)).far (p := ⟨w.heap.size + 1, 0, none⟩) (by simp) (.bool false))
      have z1 := ((R1.out.far (p := ⟨w.heap.size, 0, none⟩) (by simp) (.int .i64 0)).set_ 0 (.bool false))
      have hO := ((Only.refl (X := fun j => w.heap.size ≤ j) Wb).setCell (p := ⟨w.heap.size, 0, none⟩) (.inl (by simp)) (.int .i64 0)).setCell (p := ⟨w.heap.size + 1, 0, none⟩) (.inl (by simp)) (.bool false)
      have hdz : ((Wb.setCell ⟨w.heap.size, 0, none⟩ (.int .i64 0)).setCell ⟨w.heap.size + 1, 0, none⟩ (.bool false)).heap[w.heap.size + 3]? = some (.deferred (some [])) := (Below.heap_setCell _ _ _ _ (by simp)).trans ((Below.heap_setCell _ _ _ _ (by simp)).trans HD.out)
      have hO2 := hO.putObj (l := w.heap.size + 3) (.inl (by omega)) (.deferred none)
      have zc0 := (z0.putObj (l := w.heap.size + 3) (by omega) (.deferred none)).cell 0
      have zc1 := (z1.putObj (l := w.heap.size + 3) (by omega) (.deferred none)).cell 0
      refine ⟨by simp, .inl ⟨_, _, rfl, run_takeDeferred hdz, ?_⟩⟩
      exact ⟨.tuple #[.int .i64 0, .bool false], by simp [results, Try.results42, go_sem, zc0, zc1], rfl, HBL.out.trans (hO2.below (by have := R0.out.lt; omega) (fun j hj => hj))⟩
    · exact h.elim

set_option maxRecDepth 100000 in
set_option maxHeartbeats 2000000 in
theorem take_int_cons (base B i : Nat) (v : Value) (x : Int) (xs : List Int) (w : World) (hq : QAt w base B i 3 v (x :: xs)) :
    Calls Try.prog 42 #[.pointer (some ⟨B, i, none⟩)] w fun e w' => e = .returned (.tuple #[.int .i64 x, .bool true]) ∧ ∃ v', QStep w w' base B i 3 v v' xs := by
  refine (callsIn_wide (n := 9)).1 ?_
  refine callsIn_of_wp_marks Try.func42 rfl trivial ?_ rfl
  simp only [Try.ntmps42, List.size_toArray, List.length_cons, List.length_nil, Nat.reduceAdd, Nat.reduceSub, Array.replicate_succ, Array.replicate_zero, List.push_toArray, List.append_toArray, List.nil_append, List.cons_append]
  have HQ := Lib.hid hq
  have hltB := World.block_lt_of_cell? w _ hq.cell
  have HV := Lib.hid (fun b hb => (hq.own.lt b hb).2)
  clear hq
  gi_wp2_with fail
  refine ⟨trivial, callsIn_wide.2 ((off_int B i _).mono ?_)⟩
  rintro e w1 ⟨rfl, rfl⟩
  gi_wp2_with fail
  refine range_of_call rfl (fun h => by cases h) (gf := 67) (lb := #[.pointer (some ⟨w.heap.size + 1 + 1, 0, none⟩)]) rfl trivial (enters_of Try.func67 (by kernel_rfl) rfl) ?_
  intro fn hfn rec hrec W1 hW1
  have ST := start_of w _ _ _ _ _ _ _ W1 hW1
  have hq1 := HQ.out.only ST.only id (fun _ _ => id)
  have zz : ∀ (o1 o2 o3 : Obj), ((((w.alloc o1).alloc o2).alloc o3).heap.size) = w.heap.size + 3 := fun _ _ _ => by simp
  rw [zz]
  clear hW1 zz
  refine (off1_int 8 (w.heap.size + 4) (w.heap.size + 2) B i base (fun ys W => ys = x :: xs ∧ W = W1) (fun y ys W => y = x ∧ ys = xs ∧ ∃ v', QStep W1 W base B i 3 v v' xs)
    (fun W => ∃ v' Wd, QStep W1 Wd base B i 3 v v' xs ∧ Only (fun b => w.heap.size ≤ b ∧ b < W1.heap.size) Wd W ∧ Blk W w.heap.size 3 #[.int .i64 x] ∧ Blk W (w.heap.size + 1) 4 #[.bool true] ∧
      W.heap[w.heap.size + 3]? = some (.deferred (some [])) ∧ W.heap[w.heap.size + 4]? = some (.loop (rec .done (some .ret)))) ?_ ?_ ?_ (x :: xs) W1 ⟨rfl, rfl⟩).mono ?_
  · rintro ys W ⟨rfl, rfl⟩
    exact ⟨⟨v, hq1, fun e => by have := HV.out _ e; omega⟩, ST.bx.cell 0, by omega⟩
  · rintro y ys W W' u v' ⟨h, rfl⟩ hu hs _
    obtain ⟨rfl, rfl⟩ := List.cons.inj h
    obtain rfl : u = v := by
      have h1 := hu.cell; have h2 := hq1.cell
      rw [h1] at h2
      simpa using h2
    exact ⟨rfl, rfl, v', hs⟩
  · rintro m y ys W ⟨rfl, rfl, v', hs⟩
    have hX : ∀ b, b = B ∨ v.ownBlock = some b → b < w.heap.size := fun b hb => by
      rcases hb with rfl | hb
      · exact hltB
      · exact HV.out _ hb
    have hn : ∀ k, w.heap.size ≤ k → ¬ (k = B ∨ v.ownBlock = some k) := fun k hk h => by have := hX k h; omega
    have hl : W.heap[w.heap.size + 4]? = some (.loop (rec .ready none)) := (hs.only.block _ (by have := ST.size; omega) (hn _ (by omega))).trans ST.lp
    have hd : W.heap[w.heap.size + 3]? = some (.deferred (some [])) := (hs.only.block _ (by have := ST.size; omega) (hn _ (by omega))).trans ST.df
    have r0 := ST.r0.only hs.only (hn _ (by omega))
    have r1 := ST.r1.only hs.only (hn _ (by omega))
    have z1 := ST.size
    have z2 := hs.only.size
    refine YieldAt.mono (R := fun e W' => e = .returned (.bool false) ∧ ∃ v' Wd, QStep W1 Wd base B i 3 v v' ys ∧ Only (fun b => w.heap.size ≤ b ∧ b < W1.heap.size) Wd W' ∧ Blk W' w.heap.size 3 #[.int .i64 y] ∧ Blk W' (w.heap.size + 1) 4 #[.bool true] ∧
      W'.heap[w.heap.size + 3]? = some (.deferred (some [])) ∧ W'.heap[w.heap.size + 4]? = some (.loop (rec .done (some .ret)))) (yield_of_body hrec hfn hl rfl ?_) ?_
    · have ll := (Array.getElem?_eq_some_iff.1 hl).1
      have ob := (Only.refl (X := fun b => w.heap.size ≤ b ∧ b < W1.heap.size) W).putObj (l := w.heap.size + 4) (.inl ⟨by omega, by omega⟩) (.loop (rec .busy none))
      have r0 := r0.putObj (l := w.heap.size + 4) (by omega) (.loop (rec .busy none))
      have r1 := r1.putObj (l := w.heap.size + 4) (by omega) (.loop (rec .busy none))
      have hd := (World.putObj_heap_other (show w.heap.size + 3 ≠ w.heap.size + 4 by omega) (o := .loop (rec .busy none))).trans hd
      have hb : (W.putObj (w.heap.size + 4) (.loop (rec .busy none))).heap[w.heap.size + 4]? = some (.loop (rec .busy none)) := World.putObj_heap_same ll
      have HL := Lib.hid hl
      clear hrec hq1 hl
      gi_wp2_with fail
      refine ⟨HL.out, ?_⟩
      generalize hWb : W.putObj (w.heap.size + 4) (.loop (rec .busy none)) = Wb at *
      have q0 := r0.cell 0; have q1 := r1.cell 0; have g0 := r0.frozen 0; have g1 := r1.frozen 0
      have R0 := Lib.hid r0; have R1 := Lib.hid r1; have HD := Lib.hid hd; have HB := Lib.hid hb
      clear r0 r1 hd hb hWb
      gi_wp2_with fail
      have y0 := ((R0.out.set_ 0 (.int .i64 y)).far (p := ⟨w.heap.size + 1, 0, none⟩) (by simp) (.bool true))
      have y1 := ((R1.out.far (p := ⟨w.heap.size, 0, none⟩) (by simp) (.int .i64 y)).set_ 0 (.bool true))
      have hO := (ob.setCell (p := ⟨w.heap.size, 0, none⟩) (.inl ⟨by simp, by simp; omega⟩) (.int .i64 y)).setCell (p := ⟨w.heap.size + 1, 0, none⟩) (.inl ⟨by simp, by simp; omega⟩) (.bool true)
      have hbz : ((Wb.setCell ⟨w.heap.size, 0, none⟩ (.int .i64 y)).setCell ⟨w.heap.size + 1, 0, none⟩ (.bool true)).heap[w.heap.size + 4]? = some (.loop (rec .busy none)) := (Below.heap_setCell _ _ _ _ (by simp)).trans ((Below.heap_setCell _ _ _ _ (by simp)).trans HB.out)
      have hdz : ((Wb.setCell ⟨w.heap.size, 0, none⟩ (.int .i64 y)).setCell ⟨w.heap.size + 1, 0, none⟩ (.bool true)).heap[w.heap.size + 3]? = some (.deferred (some [])) := (Below.heap_setCell _ _ _ _ (by simp)).trans ((Below.heap_setCell _ _ _ _ (by simp)).trans HD.out)
      refine ⟨hbz, rfl, v', W, hs, hO.putObj (.inl ⟨by omega, by omega⟩) _, y0.putObj (by omega) _, y1.putObj (by omega) _, (World.putObj_heap_other (by omega)).trans hdz, World.putObj_heap_same (Array.getElem?_eq_some_iff.1 hbz).1⟩
    · rintro e W' ⟨rfl, h⟩
      exact .inr ⟨rfl, h⟩
  · rintro e W2 ⟨⟨u, rfl⟩, ⟨h, _⟩ | ⟨v', Wd, hs, ho, r0, r1, hd, hl⟩⟩
    · cases h
    · refine ⟨⟨_, rfl⟩, .inr ⟨.ret, hl, ?_⟩⟩
      have z1 := ST.size
      have ob := ho.putObj (l := w.heap.size + 4) (.inl ⟨by omega, by omega⟩) (.loop (rec .exhausted (some .ret)))
      have r0 := r0.putObj (l := w.heap.size + 4) (by omega) (.loop (rec .exhausted (some .ret)))
      have r1 := r1.putObj (l := w.heap.size + 4) (by omega) (.loop (rec .exhausted (some .ret)))
      have hdz := (World.putObj_heap_other (show w.heap.size + 3 ≠ w.heap.size + 4 by omega) (o := .loop (rec .exhausted (some .ret)))).trans hd
      generalize hWb : W2.putObj (w.heap.size + 4) (.loop (rec .exhausted (some .ret))) = Wb at *
      have R0 := Lib.hid r0; have R1 := Lib.hid r1; have HD := Lib.hid hdz
      have q0 := r0.cell 0; have q1 := r1.cell 0
      clear r0 r1 hdz hd hl hrec
      gi_wp2_with fail
      have zc0 := (R0.out.putObj (l := w.heap.size + 3) (by omega) (.deferred none)).cell 0
      have zc1 := (R1.out.putObj (l := w.heap.size + 3) (by omega) (.deferred none)).cell 0
      have hO2 := ob.putObj (l := w.heap.size + 3) (.inl ⟨by omega, by omega⟩) (.deferred none)
      refine ⟨by simp, .inl ⟨_, _, rfl, run_takeDeferred HD.out, ?_⟩⟩
      exact ⟨.tuple #[.int .i64 x, .bool true], by simp [results, Try.results42, go_sem, zc0, zc1], rfl, v', hs.frame ST.only hO2 (fun b hb => HV.out b hb) hltB⟩

set_option maxRecDepth 100000 in
set_option maxHeartbeats 2000000 in
theorem take_int64_nil (base B i : Nat) (v : Value) (w : World) (hq : QAt w base B i 2 v []) :
    Calls Try.prog 71 #[.pointer (some ⟨B, i, none⟩)] w fun e w' => e = .returned (.tuple #[.int .i64 0, .bool false]) ∧ Below w.heap.size w w' := by
  refine (callsIn_wide (n := 9)).1 ?_
  refine callsIn_of_wp_marks Try.func71 rfl trivial ?_ rfl
  simp only [Try.ntmps71, List.size_toArray, List.length_cons, List.length_nil, Nat.reduceAdd, Nat.reduceSub, Array.replicate_succ, Array.replicate_zero, List.push_toArray, List.append_toArray, List.nil_append, List.cons_append]
  have HQ := Lib.hid hq
  have hltB := World.block_lt_of_cell? w _ hq.cell
  have HV := Lib.hid (fun b hb => (hq.own.lt b hb).2)
  clear hq
  gi_wp2_with fail
  refine ⟨trivial, callsIn_wide.2 ((off_int64 B i _).mono ?_)⟩
  rintro e w1 ⟨rfl, rfl⟩
  gi_wp2_with fail
  refine range_of_call rfl (fun h => by cases h) (gf := 92) (lb := #[.pointer (some ⟨w.heap.size + 1 + 1, 0, none⟩)]) rfl trivial (enters_of Try.func92 (by kernel_rfl) rfl) ?_
  intro fn hfn rec hrec W1 hW1
  have ST := start_of w _ _ _ _ _ _ _ W1 hW1
  have hq1 := HQ.out.only ST.only id (fun _ _ => id)
  have zz : ∀ (o1 o2 o3 : Obj), ((((w.alloc o1).alloc o2).alloc o3).heap.size) = w.heap.size + 3 := fun _ _ _ => by simp
  rw [zz]
  clear hW1 zz
  refine (off1_int64 8 (w.heap.size + 4) (w.heap.size + 2) B i base (fun ys W => ys = [] ∧ W = W1) (fun _ _ _ => False) (fun _ => False) ?_ ?_ ?_ [] W1 ⟨rfl, rfl⟩).mono ?_
  · rintro ys W ⟨rfl, rfl⟩
    exact ⟨⟨v, hq1, fun e => by have := HV.out _ e; omega⟩, ST.bx.cell 0, by omega⟩
  · rintro x ys W W' v v' ⟨h, _⟩
    cases h
  · intro m x ys W h
    exact h.elim
  · rintro e W2 ⟨⟨u, rfl⟩, ⟨_, rfl⟩ | h⟩
    · refine ⟨⟨_, rfl⟩, .inl ⟨ST.lp, ?_⟩⟩
      have ob := (Only.refl (X := fun b => b = w.heap.size + 4) W2).putObj (l := w.heap.size + 4) (.inl rfl) (.loop (rec .exhausted none))
      have r0 := ST.r0.only ob (by omega)
      have r1 := ST.r1.only ob (by omega)
      have hdz := (ob.block (w.heap.size + 3) (by have := ST.size; omega) (by omega)).trans ST.df
      have hbl : Below w.heap.size w (W2.putObj (w.heap.size + 4) (.loop (rec .exhausted none))) := (ST.only.below (Nat.le_refl _) (fun _ h => h.elim)).trans (ob.below (by have := ST.size; omega) (fun _ h => by omega))
      generalize hWb : W2.putObj (w.heap.size + 4) (.loop (rec .exhausted none)) = Wb at *
      have q0 := r0.cell 0; have q1 := r1.cell 0; have g0 := r0.frozen 0; have g1 := r1.frozen 0
      have R0 := Lib.hid r0; have R1 := Lib.hid r1; have HD := Lib.hid hdz; have HBL := Lib.hid hbl
      clear r0 r1 hdz hbl hWb ob hrec ST hq1
      gi_wp2_with fail
      have z0 := ((R0.out.set_ 0 (.int .i64 0)).far (p := ⟨w.heap.size + 1, 0, none⟩) (by simp) (.bool false))
      have z1 := ((R1.out.far (p := ⟨w.heap.size, 0, none⟩) (by simp) (.int .i64 0)).set_ 0 (.bool false))
      have hO := ((Only.refl (X := fun j => w.heap.size ≤ j) Wb).setCell (p := ⟨w.heap.size, 0, none⟩) (.inl (by simp)) (.int .i64 0)).setCell (p := ⟨w.heap.size + 1, 0, none⟩) (.inl (by simp)) (.bool false)
      have hdz : ((Wb.setCell ⟨w.heap.size, 0, none⟩ (.int .i64 0)).setCell ⟨w.heap.size + 1, 0, none⟩ (.bool false)).heap[w.heap.size + 3]? = some (.deferred (some [])) := (Below.heap_setCell _ _ _ _ (by simp)).trans ((Below.heap_setCell _ _ _ _ (by simp)).trans HD.out)
      have hO2 := hO.putObj (l := w.heap.size + 3) (.inl (by omega)) (.deferred none)
      have zc0 := (z0.putObj (l := w.heap.size + 3) (by omega) (.deferred none)).cell 0
      have zc1 := (z1.putObj (l := w.heap.size + 3) (by omega) (.deferred none)).cell 0
      refine ⟨by simp, .inl ⟨_, _, rfl, run_takeDeferred hdz, ?_⟩⟩
      exact ⟨.tuple #[.int .i64 0, .bool false], by simp [results, Try.results71, go_sem, zc0, zc1], rfl, HBL.out.trans (hO2.below (by have := R0.out.lt; omega) (fun j hj => hj))⟩
    · exact h.elim

set_option maxRecDepth 100000 in
set_option maxHeartbeats 2000000 in
theorem take_int64_cons (base B i : Nat) (v : Value) (x : Int) (xs : List Int) (w : World) (hq : QAt w base B i 2 v (x :: xs)) :
    Calls Try.prog 71 #[.pointer (some ⟨B, i, none⟩)] w fun e w' => e = .returned (.tuple #[.int .i64 x, .bool true]) ∧ ∃ v', QStep w w' base B i 2 v v' xs := by
  refine (callsIn_wide (n := 9)).1 ?_
  refine callsIn_of_wp_marks Try.func71 rfl trivial ?_ rfl
  simp only [Try.ntmps71, List.size_toArray, List.length_cons, List.length_nil, Nat.reduceAdd, Nat.reduceSub, Array.replicate_succ, Array.replicate_zero, List.push_toArray, List.append_toArray, List.nil_append, List.cons_append]
  have HQ := Lib.hid hq
  have hltB := World.block_lt_of_cell? w _ hq.cell
  have HV := Lib.hid (fun b hb => (hq.own.lt b hb).2)
  clear hq
  gi_wp2_with fail
  refine ⟨trivial, callsIn_wide.2 ((off_int64 B i _).mono ?_)⟩
  rintro e w1 ⟨rfl, rfl⟩
  gi_wp2_with fail
  refine range_of_call rfl (fun h => by cases h) (gf := 92) (lb := #[.pointer (some ⟨w.heap.size + 1 + 1, 0, none⟩)]) rfl trivial (enters_of Try.func92 (by kernel_rfl) rfl) ?_
  intro fn hfn rec hrec W1 hW1
  have ST := start_of w _ _ _ _ _ _ _ W1 hW1
  have hq1 := HQ.out.only ST.only id (fun _ _ => id)
  have zz : ∀ (o1 o2 o3 : Obj), ((((w.alloc o1).alloc o2).alloc o3).heap.size) = w.heap.size + 3 := fun _ _ _ => by simp
  rw [zz]
  clear hW1 zz
  refine (off1_int64 8 (w.heap.size + 4) (w.heap.size + 2) B i base (fun ys W => ys = x :: xs ∧ W = W1) (fun y ys W => y = x ∧ ys = xs ∧ ∃ v', QStep W1 W base B i 2 v v' xs)
    (fun W => ∃ v' Wd, QStep W1 Wd base B i 2 v v' xs ∧ Only (fun b => w.heap.size ≤ b ∧ b < W1.heap.size) Wd W ∧ Blk W w.heap.size 2 #[.int .i64 x] ∧ Blk W (w.heap.size + 1) 4 #[.bool true] ∧
      W.heap[w.heap.size + 3]? = some (.deferred (some [])) ∧ W.heap[w.heap.size + 4]? = some (.loop (rec .done (some .ret)))) ?_ ?_ ?_ (x :: xs) W1 ⟨rfl, rfl⟩).mono ?_
  · rintro ys W ⟨rfl, rfl⟩
    exact ⟨⟨v, hq1, fun e => by have := HV.out _ e; omega⟩, ST.bx.cell 0, by omega⟩
  · rintro y ys W W' u v' ⟨h, rfl⟩ hu hs _
    obtain ⟨rfl, rfl⟩ := List.cons.inj h
    obtain rfl : u = v := by
      have h1 := hu.cell; have h2 := hq1.cell
      rw [h1] at h2
      simpa using h2
    exact ⟨rfl, rfl, v', hs⟩
  · rintro m y ys W ⟨rfl, rfl, v', hs⟩
    have hX : ∀ b, b = B ∨ v.ownBlock = some b → b < w.heap.size := fun b hb => by
      rcases hb with rfl | hb
      · exact hltB
      · exact HV.out _ hb
    have hn : ∀ k, w.heap.size ≤ k → ¬ (k = B ∨ v.ownBlock = some k) := fun k hk h => by have := hX k h; omega
    have hl : W.heap[w.heap.size + 4]? = some (.loop (rec .ready none)) := (hs.only.block _ (by have := ST.size; omega) (hn _ (by omega))).trans ST.lp
    have hd : W.heap[w.heap.size + 3]? = some (.deferred (some [])) := (hs.only.block _ (by have := ST.size; omega) (hn _ (by omega))).trans ST.df
    have r0 := ST.r0.only hs.only (hn _ (by omega))
    have r1 := ST.r1.only hs.only (hn _ (by omega))
    have z1 := ST.size
    have z2 := hs.only.size
    refine YieldAt.mono (R := fun e W' => e = .returned (.bool false) ∧ ∃ v' Wd, QStep W1 Wd base B i 2 v v' ys ∧ Only (fun b => w.heap.size ≤ b ∧ b < W1.heap.size) Wd W' ∧ Blk W' w.heap.size 2 #[.int .i64 y] ∧ Blk W' (w.heap.size + 1) 4 #[.bool true] ∧
      W'.heap[w.heap.size + 3]? = some (.deferred (some [])) ∧ W'.heap[w.heap.size + 4]? = some (.loop (rec .done (some .ret)))) (yield_of_body hrec hfn hl rfl ?_) ?_
    · have ll := (Array.getElem?_eq_some_iff.1 hl).1
      have ob := (Only.refl (X := fun b => w.heap.size ≤ b ∧ b < W1.heap.size) W).putObj (l := w.heap.size + 4) (.inl ⟨by omega, by omega⟩) (.loop (rec .busy none))
      have r0 := r0.putObj (l := w.heap.size + 4) (by omega) (.loop (rec .busy none))
      have r1 := r1.putObj (l := w.heap.size + 4) (by omega) (.loop (rec .busy none))
      have hd := (World.putObj_heap_other (show w.heap.size + 3 ≠ w.heap.size + 4 by omega) (o := .loop (rec .busy none))).trans hd
      have hb : (W.putObj (w.heap.size + 4) (.loop (rec .busy none))).heap[w.heap.size + 4]? = some (.loop (rec .busy none)) := World.putObj_heap_same ll
      have HL := Lib.hid hl
      clear hrec hq1 hl
      gi_wp2_with fail
      refine ⟨HL.out, ?_⟩
      generalize hWb : W.putObj (w.heap.size + 4) (.loop (rec .busy none)) = Wb at *
      have q0 := r0.cell 0; have q1 := r1.cell 0; have g0 := r0.frozen 0; have g1 := r1.frozen 0
      have R0 := Lib.hid r0; have R1 := Lib.hid r1; have HD := Lib.hid hd; have HB := Lib.hid hb
      clear r0 r1 hd hb hWb
      gi_wp2_with fail
      have y0 := ((R0.out.set_ 0 (.int .i64 y)).far (p := ⟨w.heap.size + 1, 0, none⟩) (by simp) (.bool true))
      have y1 := ((R1.out.far (p := ⟨w.heap.size, 0, none⟩) (by simp) (.int .i64 y)).set_ 0 (.bool true))
      have hO := (ob.setCell (p := ⟨w.heap.size, 0, none⟩) (.inl ⟨by simp, by simp; omega⟩) (.int .i64 y)).setCell (p := ⟨w.heap.size + 1, 0, none⟩) (.inl ⟨by simp, by simp; omega⟩) (.bool true)
      have hbz : ((Wb.setCell ⟨w.heap.size, 0, none⟩ (.int .i64 y)).setCell ⟨w.heap.size + 1, 0, none⟩ (.bool true)).heap[w.heap.size + 4]? = some (.loop (rec .busy none)) := (Below.heap_setCell _ _ _ _ (by simp)).trans ((Below.heap_setCell _ _ _ _ (by simp)).trans HB.out)
      have hdz : ((Wb.setCell ⟨w.heap.size, 0, none⟩ (.int .i64 y)).setCell ⟨w.heap.size + 1, 0, none⟩ (.bool true)).heap[w.heap.size + 3]? = some (.deferred (some [])) := (Below.heap_setCell _ _ _ _ (by simp)).trans ((Below.heap_setCell _ _ _ _ (by simp)).trans HD.out)
      refine ⟨hbz, rfl, v', W, hs, hO.putObj (.inl ⟨by omega, by omega⟩) _, y0.putObj (by omega) _, y1.putObj (by omega) _, (World.putObj_heap_other (by omega)).trans hdz, World.putObj_heap_same (Array.getElem?_eq_some_iff.1 hbz).1⟩
    · rintro e W' ⟨rfl, h⟩
      exact .inr ⟨rfl, h⟩
  · rintro e W2 ⟨⟨u, rfl⟩, ⟨h, _⟩ | ⟨v', Wd, hs, ho, r0, r1, hd, hl⟩⟩
    · cases h
    · refine ⟨⟨_, rfl⟩, .inr ⟨.ret, hl, ?_⟩⟩
      have z1 := ST.size
      have ob := ho.putObj (l := w.heap.size + 4) (.inl ⟨by omega, by omega⟩) (.loop (rec .exhausted (some .ret)))
      have r0 := r0.putObj (l := w.heap.size + 4) (by omega) (.loop (rec .exhausted (some .ret)))
      have r1 := r1.putObj (l := w.heap.size + 4) (by omega) (.loop (rec .exhausted (some .ret)))
      have hdz := (World.putObj_heap_other (show w.heap.size + 3 ≠ w.heap.size + 4 by omega) (o := .loop (rec .exhausted (some .ret)))).trans hd
      generalize hWb : W2.putObj (w.heap.size + 4) (.loop (rec .exhausted (some .ret))) = Wb at *
      have R0 := Lib.hid r0; have R1 := Lib.hid r1; have HD := Lib.hid hdz
      have q0 := r0.cell 0; have q1 := r1.cell 0
      clear r0 r1 hdz hd hl hrec
      gi_wp2_with fail
      have zc0 := (R0.out.putObj (l := w.heap.size + 3) (by omega) (.deferred none)).cell 0
      have zc1 := (R1.out.putObj (l := w.heap.size + 3) (by omega) (.deferred none)).cell 0
      have hO2 := ob.putObj (l := w.heap.size + 3) (.inl ⟨by omega, by omega⟩) (.deferred none)
      refine ⟨by simp, .inl ⟨_, _, rfl, run_takeDeferred HD.out, ?_⟩⟩
      exact ⟨.tuple #[.int .i64 x, .bool true], by simp [results, Try.results71, go_sem, zc0, zc1], rfl, v', hs.frame ST.only hO2 (fun b hb => HV.out b hb) hltB⟩
end Go.Proofs.Ytdfjbgfdaokjgaa

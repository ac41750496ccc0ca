/-
  All of a queue are taken off and collected.
-/
import Derived.Test.YtdfjbgfdaokjgaaTake
import Derived.RangeFuncBox
import Derived.Maps.AppendAt
namespace Go.Proofs.Ytdfjbgfdaokjgaa
open Go.RowKit Go.Shelf Go.Maps
attribute [local go_sem] Oper.semAt_some

/-- What lies between two rounds: so many have come, the rest is in the queue. -/
structure Coll (w W1 W : World) (base B i Bx : Nat) (v : Value) (rr : Obj) (done ys : List Int) : Prop where
  q : ∃ v2, QAt W base B i 3 v2 ys ∧ v2.ownBlock = v.ownBlock ∧ W.heap[B]? = (W1.setCell ⟨B, i, none⟩ v2).heap[B]?
  only : Only (fun b => b = B ∨ v.ownBlock = some b ∨ w.heap.size ≤ b) W1 W
  box : ∃ u, Blk W w.heap.size 22 #[u] ∧ W.ownsRow W1.heap.size 3 1 u done.length (done.map (Value.int .i64))
  df : W.heap[w.heap.size + 1]? = some (.deferred (some []))
  lp : W.heap[w.heap.size + 2]? = some rr

theorem cell_of_blk {w W : World} {B i : Nat} {u v : Value} (h : W.heap[B]? = (w.setCell ⟨B, i, none⟩ v).heap[B]?) (hc : w.cell? ⟨B, i, none⟩ = some u) (hf : w.frozen? ⟨B, i, none⟩ = false) : W.cell? ⟨B, i, none⟩ = some v ∧ W.frozen? ⟨B, i, none⟩ = false := by
  refine ⟨?_, ?_⟩
  · rw [World.cell?_of_block (w := w.setCell ⟨B, i, none⟩ v) (w' := W) (a := ⟨B, i, none⟩) h]
    exact World.cell?_setCell_same' _ _ _ (by rw [hc]; rfl)
  · rw [World.frozen?_of_block (w := w.setCell ⟨B, i, none⟩ v) (w' := W) (a := ⟨B, i, none⟩) h, World.frozen?_setCell]
    exact hf
theorem Coll.step {w W1 W W' : World} {base B i Bx : Nat} {v u v' : Value} {rr : Obj} {done ys : List Int} {x : Int} (h : Coll w W1 W base B i Bx v rr done (x :: ys)) (hs : QStep W W' base B i 3 u v' ys) (hu : QAt W base B i 3 u (x :: ys)) (he : v'.ownBlock = u.ownBlock)
    (hB : B < w.heap.size) (hv : ∀ b, v.ownBlock = some b → b < w.heap.size) (hz : w.heap.size + 3 ≤ W1.heap.size) : Coll w W1 W' base B i Bx v rr done ys := by
  obtain ⟨⟨v2, hq, hq2, hq3⟩, ho, ⟨u0, hb, hr⟩, hd, hl⟩ := h
  obtain rfl : u = v2 := by
    have h1 := hu.cell; have h2 := hq.cell
    rw [h1] at h2
    simpa using h2
  have hX : ∀ b, b = B ∨ u.ownBlock = some b → b < w.heap.size := fun b hb => by
    rcases hb with rfl | hb
    · exact hB
    · exact hv b (by rw [← hq2]; exact hb)
  have hn : ∀ k, w.heap.size ≤ k → ¬ (k = B ∨ u.ownBlock = some k) := fun k hk h => by have := hX k h; omega
  obtain ⟨c1, f1⟩ := cell_of_blk hs.blk hq.cell hq.frozen
  have hlen := hq.len
  refine ⟨⟨v', ⟨c1, f1, hs.own, by rw [he]; exact hq.ne, by simp at hlen; omega⟩, he.trans hq2, ?_⟩, ?_, ⟨u0, hb.only hs.only (hn _ (Nat.le_refl _)), ownsRow_block hr (fun g hg => hs.only.block g (hr.lt g hg).2 (hn g (by have := (hr.lt g hg).1; omega)))⟩, ?_, ?_⟩
  · rw [hs.blk]
    have : ∀ (a b : World), a.heap[B]? = b.heap[B]? → (a.setCell ⟨B, i, none⟩ v').heap[B]? = (b.setCell ⟨B, i, none⟩ v').heap[B]? := fun a b h => heap_setCell_alike h v'
    rw [this W _ hq3]
    simp only [World.setCell]
    simp only [Array.getElem?_modify, if_true]
    cases W1.heap[B]? with
    | none => rfl
    | some o => cases o <;> simp
  · exact ho.trans (hs.only.mono (fun b hb => hb.elim .inl (fun e => .inr (.inl (by rw [← hq2]; exact e)))))
  · exact (hs.only.block _ (Array.getElem?_eq_some_iff.1 hd).1 (hn _ (by omega))).trans hd
  · exact (hs.only.block _ (Array.getElem?_eq_some_iff.1 hl).1 (hn _ (by omega))).trans hl

set_option maxRecDepth 100000 in
set_option maxHeartbeats 4000000 in
theorem appendSeq_off (base B i Bx : Nat) (v : Value) (xs : List Int) (w : World) (hq : QAt w base B i 3 v xs) (hbx : w.cell? ⟨Bx, 0, none⟩ = some (.pointer (some ⟨B, i, none⟩))) (hxB : Bx ≠ B) (hxv : v.ownBlock ≠ some Bx) :
    Calls Try.prog 66 #[.slice none 0 0, .func (.func 67) #[] #[.pointer (some ⟨Bx, 0, none⟩)]] w fun e w' =>
      ∃ u, e = .returned u ∧ w'.ownsRow w.heap.size 3 1 u xs.length (xs.map (Value.int .i64)) ∧ ∃ v', QStep w w' base B i 3 v v' [] := by
  refine (callsIn_wide (n := 9)).1 ?_
  refine callsIn_of_wp_marks Try.func66 rfl trivial ?_ rfl
  simp only [Try.ntmps66, List.size_toArray, List.length_cons, List.length_nil, Nat.reduceAdd, Nat.reduceSub, Array.replicate_succ, Array.replicate_zero, List.push_toArray, List.append_toArray, List.nil_append, List.cons_append]
  have HQ := Lib.hid hq
  have hltB := World.block_lt_of_cell? w _ hq.cell
  have hltx := World.block_lt_of_cell? w _ hbx
  have HV := Lib.hid (fun b hb => (hq.own.lt b hb).2)
  have hlen := hq.len
  have HBX := Lib.hid hbx
  clear hq hbx
  gi_wp2_with fail
  generalize hW0 : w.alloc (.cells #[.slice none 0 0] 22) = W0
  have z0 : W0.heap.size = w.heap.size + 1 := by rw [← hW0]; simp
  have b0 : Blk W0 w.heap.size 22 #[.slice none 0 0] := by rw [← hW0]; exact Blk.new _ _ _
  have o0 : Only (fun _ => False) w W0 := by rw [← hW0]; exact (Only.refl w).alloc _
  clear hW0
  refine range_of_call rfl (fun h => by cases h) (gf := 67) (lb := #[.pointer (some ⟨Bx, 0, none⟩)]) rfl trivial (enters_of Try.func67 (by kernel_rfl) rfl) ?_
  intro fn hfn rec hrec W1 hW1
  obtain ⟨z1, hdf, hlp, o1⟩ : W1.heap.size = w.heap.size + 3 ∧ W1.heap[w.heap.size + 1]? = some (.deferred (some [])) ∧ W1.heap[w.heap.size + 2]? = some (.loop (rec .ready none)) ∧ Only (fun _ => False) W0 W1 := by
    subst hW1
    refine ⟨by simp [z0], ?_, ?_, ((Only.refl W0).alloc _).alloc _⟩
    · rw [← z0]; exact (Below.heap_alloc _ _ _ (by simp)).trans (World.alloc_heap_new W0 _)
    · have := World.alloc_heap_new (W0.alloc (.deferred (some []))) (.loop (rec .ready none))
      simpa [z0] using this
  rw [show W0.heap.size + 1 = w.heap.size + 2 by omega, show W0.heap.size = w.heap.size + 1 from z0]
  clear hW1
  have o01 := o0.trans o1
  have hq1 := HQ.out.only o01 id (fun _ _ => id)
  have hself : W1.heap[B]? = (W1.setCell ⟨B, i, none⟩ v).heap[B]? := by
    have hc := hq1.cell
    simp only [World.setCell, Array.getElem?_modify, if_true]
    simp only [World.cell?] at hc
    cases hb : W1.heap[B]? with
    | none => rfl
    | some o =>
      rw [hb] at hc
      cases o with
      | cells cs t fz =>
        simp at hc
        simp
        apply Array.ext_getElem?
        intro j
        rw [Array.getElem?_setIfInBounds]
        by_cases hj : i = j
        · subst hj; simp [hc]; exact (Array.getElem?_eq_some_iff.1 hc).1
        · simp [hj]
      | _ => simp
  have C0 : Coll w W1 W1 base B i Bx v (.loop (rec .ready none)) [] xs := ⟨⟨v, hq1, rfl, hself⟩, Only.refl _, ⟨_, b0.only o1 id, World.ownsRow_nil _ _ _ _⟩, hdf, hlp⟩
  clear hself hq1 b0 hdf hlp o0 o1
  obtain ⟨i0, hi, hz0, hz1, hz2⟩ := info_parts infoint
  refine (off1_int 8 (w.heap.size + 2) Bx B i base (fun ys W => ∃ done, xs = done ++ ys ∧ Coll w W1 W base B i Bx v (.loop (rec .ready none)) done ys) (fun x ys W => ∃ done, xs = done ++ x :: ys ∧ Coll w W1 W base B i Bx v (.loop (rec .ready none)) done ys) (fun _ => False) ?_ ?_ ?_ xs W1 ⟨[], rfl, C0⟩).mono ?_
  · rintro ys W ⟨done, _, hc⟩
    obtain ⟨⟨v2, hq, hq2, _⟩, ho, _⟩ := hc
    refine ⟨⟨v2, hq, by rw [hq2]; exact hxv⟩, ?_, hxB⟩
    rw [World.cell?_of_block (w := w) (w' := W) (a := ⟨Bx, 0, none⟩)]
    · exact HBX.out
    · exact (ho.block Bx (by omega) (fun h => by rcases h with h | h | h; exact hxB h; exact hxv h; omega)).trans (o01.block Bx hltx id)
  · rintro x ys W W' u v' ⟨done, hx, hc⟩ hu hs he
    exact ⟨done, hx, hc.step hs hu he hltB (fun b hb => HV.out b hb) (by omega)⟩
  · rintro m x ys W ⟨done, hx, hc⟩
    obtain ⟨⟨v2, hq, hq2, hq3⟩, ho, ⟨u, hb, hr⟩, hd, hl⟩ := hc
    have hdl : done.length ≤ 1000000 := by rw [hx] at hlen; simp at hlen; omega
    have zW := ho.size
    refine YieldAt.mono (R := fun e W' => e = .returned (.bool true) ∧ Coll w W1 W' base B i Bx v (.loop (rec .ready none)) (done ++ [x]) ys) (yield_of_body hrec hfn hl rfl ?_) ?_
    · obtain ⟨o, c, rfl, _⟩ := row_shape hr
      have hbusy : (W.putObj (w.heap.size + 2) (.loop (rec .busy none))).heap[w.heap.size + 2]? = some (.loop (rec .busy none)) := World.putObj_heap_same (Array.getElem?_eq_some_iff.1 hl).1
      have ob := (Only.refl (X := fun b => b = w.heap.size + 2) W).putObj (l := w.heap.size + 2) (.inl rfl) (.loop (rec .busy none))
      have hbb := hb.putObj (l := w.heap.size + 2) (by omega) (.loop (rec .busy none))
      have hrb : (W.putObj (w.heap.size + 2) (.loop (rec .busy none))).ownsRow W1.heap.size 3 1 (.slice o done.length c) done.length (done.map (Value.int .i64)) := ownsRow_block hr (fun g hg => ob.block g (hr.lt g hg).2 (by have := (hr.lt g hg).1; omega))
      have zb : (W.putObj (w.heap.size + 2) (.loop (rec .busy none))).heap.size = W.heap.size := World.putObj_size ..
      have HL := Lib.hid hl
      have hzz : w.heap.size + 3 ≤ W.heap.size := by omega
      clear hrec hl
      gi_wp2_with fail
      refine ⟨HL.out, ?_⟩
      have zb1 := Nat.le_of_eq zb
      have zb2 := Nat.le_of_eq zb.symm
      clear zb
      generalize hWb : W.putObj (w.heap.size + 2) (.loop (rec .busy none)) = Wb at *
      have c0 := hbb.cell 0; have f0 := hbb.frozen 0
      have c0' := cell_alloc' c0 (.cells #[.int .i64 x] 3)
      have H1 := Lib.hid (hrb.alloc (.cells #[.int .i64 x] 3))
      have H2 := Lib.hid (one_cell _ _ _ _ (Blk.new Wb 3 #[.int .i64 x]))
      have H4 : Hid (∀ g, (Value.slice o done.length c).ownBlock = some g → W1.heap.size ≤ g ∧ g < Wb.heap.size) := fun g hg => hrb.lt g hg
      have hH : W1.heap.size ≤ (Wb.alloc (.cells #[.int .i64 x] 3)).heap.size := by simp; omega
      have hmx : done.length + 1 ≤ maxLen := by unfold maxLen; omega
      have HBB := Lib.hid hbb; have HOB := Lib.hid ob; have HBU := Lib.hid hbusy
      have HKK : Hid (∀ w1, (Wb.alloc (.cells #[.int .i64 x] 3)).grownBy w1 (Value.slice o done.length c).ownBlock → Blk w1 w.heap.size 22 #[.slice o done.length c]) := fun w1 hg =>
        (hbb.alloc _).grown hg (fun e => by have := (H4.out _ e.symm).1; omega)
      clear hWb hbb hrb ob hbusy hr hb
      gi_wp2_with (first
        | (gi_at_builtin; go_must (refine wpListIn_append_own _ rfl _ _ 22 rfl W1.heap.size 3 i0 _ 1 8 Try.underlying22 hi hz0 hz1 hz2 rfl (by decide) _ _ _ rfl H1.out ⟨Wb.heap.size, 0, none⟩ 1 1 [.int .i64 x] rfl rfl H2.out (by simp [Value.oneCell']) hmx (by omega) hH ?_); intro v' w1 hown1 hgrow1 _; obtain ⟨g', cap', rfl⟩ := ownsRow_succ hown1; have hk := HKK.out w1 hgrow1; have k0 := hk.cell 0; have k1 := hk.frozen 0; have HK1 := Lib.hid hk; have HO1 := Lib.hid hown1; have HG1 := Lib.hid hgrow1; clear hk hown1 hgrow1))
      have a1 : Only (fun b => b = w.heap.size + 2 ∨ b = w.heap.size ∨ W1.heap.size ≤ b) W w1 := ((HOB.out.mono (fun b hb => .inl hb)).alloc (.cells #[.int .i64 x] 3)).grown HG1.out (fun j hj => .inl (.inr (.inr (H4.out j hj).1)))
      have a2 := a1.setCell (p := ⟨w.heap.size, 0, none⟩) (.inl (.inr (.inl rfl))) (.slice (some ⟨g', 0, none⟩) (done.length + 1) cap')
      have hg1 := (HO1.out.lt g' rfl).1
      have hbz : (w1.setCell ⟨w.heap.size, 0, none⟩ (.slice (some ⟨g', 0, none⟩) (done.length + 1) cap')).heap[w.heap.size + 2]? = some (.loop (rec .busy none)) := by
        refine (Below.heap_setCell _ _ _ _ (by simp)).trans ?_
        refine (HG1.out.block _ (by simp; omega) (fun e => by have := (H4.out _ e.symm).1; omega)).trans ?_
        exact (Below.heap_alloc _ _ _ (by omega)).trans HBU.out
      have a3 := a2.putObj (l := w.heap.size + 2) (.inl (.inl rfl)) (.loop (rec .ready none))
      have hltB1 : B < W.heap.size := by omega
      have hn : ∀ b, b < w.heap.size → ¬ (b = w.heap.size + 2 ∨ b = w.heap.size ∨ W1.heap.size ≤ b) := fun b hb h => by omega
      have hvb : ∀ b, v2.ownBlock = some b → b < w.heap.size := fun b hb => HV.out b (by rw [← hq2]; exact hb)
      refine ⟨hbz, rfl, ⟨v2, hq.only a3 (hn B hltB) (fun b hb => hn b (hvb b hb)), hq2, (a3.block B hltB1 (hn B hltB)).trans hq3⟩, ho.trans (a3.mono (fun b hb => .inr (.inr (by omega)))), ⟨_, (HK1.out.set_ 0 _).putObj (by omega) _, ?_⟩, ?_, World.putObj_heap_same (Array.getElem?_eq_some_iff.1 hbz).1⟩
      · rw [List.length_append, List.map_append]
        exact ownsRow_block HO1.out (fun g hg => by
          obtain rfl : g' = g := by simpa [Value.ownBlock] using hg
          exact (World.putObj_heap_other (by omega)).trans (Below.heap_setCell _ _ _ _ (by simp; omega)))
      · exact (a3.block _ (by omega) (by omega)).trans hd
    · rintro e W' ⟨rfl, hc⟩
      exact .inl ⟨rfl, done ++ [x], by rw [hx]; simp, hc⟩
  · rintro e W2 ⟨⟨u0, rfl⟩, ⟨done, hx, hc⟩ | h⟩
    · obtain rfl : done = xs := by simpa using hx.symm
      obtain ⟨⟨v2, hq, hq2, hq3⟩, ho, ⟨u, hb, hr⟩, hd, hl⟩ := hc
      refine ⟨⟨_, rfl⟩, .inl ⟨hl, ?_⟩⟩
      have zW := ho.size
      have ob := (Only.refl (X := fun b => b = w.heap.size + 2) W2).putObj (l := w.heap.size + 2) (.inl rfl) (.loop (rec .exhausted none))
      have hbb := hb.putObj (l := w.heap.size + 2) (by omega) (.loop (rec .exhausted none))
      have hdz := (ob.block _ (by omega) (by omega)).trans hd
      have hrb := ownsRow_block (w' := W2.putObj (w.heap.size + 2) (.loop (rec .exhausted none))) hr (fun g hg => ob.block g (hr.lt g hg).2 (by have := (hr.lt g hg).1; omega))
      have oall := ho.trans (ob.mono (fun b hb => .inr (.inr (by omega))))
      have hqb := hq.only ob (by omega) (fun b hb => by have := HV.out b (by rw [← hq2]; exact hb); omega)
      have hq3b := (ob.block B (by omega) (by omega)).trans hq3
      generalize hWb : W2.putObj (w.heap.size + 2) (.loop (rec .exhausted none)) = Wb at *
      have c0 := hbb.cell 0
      have HDZ := Lib.hid hdz; have HRB := Lib.hid hrb; have HOA := Lib.hid oall; have HQB := Lib.hid hqb; have HQ3 := Lib.hid hq3b; have HQ2 := Lib.hid hq2; have HO1 := Lib.hid o01
      have z2 := oall.size
      clear hdz hrb oall hqb hq3b hq2 hq3 hWb hbb hr hb ob hq hd hl hrec o01
      gi_wp2_with fail
      refine ⟨by simp, .inl ⟨_, _, rfl, run_takeDeferred HDZ.out, ?_⟩⟩
      have of := (Only.refl (X := fun b => b = w.heap.size + 1) Wb).putObj (l := w.heap.size + 1) (.inl rfl) (.deferred none)
      have hvb : ∀ b, v2.ownBlock = some b → b < w.heap.size := fun b hb => HV.out b (by rw [← HQ2.out]; exact hb)
      have hqf := HQB.out.only of (by omega) (fun b hb => by have := hvb b hb; omega)
      refine ⟨u, by simp [results, Try.results66, go_sem], u, rfl, ?_, v2, hqf.own, ?_, ?_, fun b hb => .inl (by rw [← HQ2.out]; exact hb)⟩
      · exact ownsRow_block (ownsRow_base HRB.out (by omega)) (fun g hg => of.block g (HRB.out.lt g hg).2 (by have := (HRB.out.lt g hg).1; omega))
      · rw [(of.block B (by omega) (by omega)).trans HQ3.out]
        exact heap_setCell_alike (HO1.out.block B hltB id) v2
      · have h5 := (HO1.out.mono (Y := fun b => b = B ∨ v.ownBlock = some b ∨ w.heap.size ≤ b) (fun _ h => h.elim)).trans (HOA.out.trans (of.mono (fun b hb => .inr (.inr (by omega)))))
        exact ⟨h5.os, h5.tape, h5.output, h5.size, fun k hk hn => h5.block k hk (fun h => by rcases h with h | h | h; exact hn (.inl h); exact hn (.inr h); omega)⟩
    · exact h.elim
end Go.Proofs.Ytdfjbgfdaokjgaa

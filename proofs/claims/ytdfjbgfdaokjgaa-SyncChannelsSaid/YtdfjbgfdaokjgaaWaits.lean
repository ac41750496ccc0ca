/-
  Who waits, at whichever condition: the iterator, and who asks it.
-/
import Derived.Test.YtdfjbgfdaokjgaaTake
import Derived.Test.YtdfjbgfdaokjgaaFind
namespace Go.Proofs.Ytdfjbgfdaokjgaa
open Go.RowKit Go.Shelf
attribute [local go_sem] Oper.semAt_some

/-- Lists, as a row of slices has them. -/
def LsAt (w : World) (oc : Option Addr) (ls : List (List Int)) : Prop :=
  ∀ (k : Nat) (l : List Int), ls[k]? = some l → ∃ gc o c, oc = some ⟨gc, 0, none⟩ ∧ w.cell? ⟨gc, k, none⟩ = some (.slice o l.length c) ∧ l.length ≤ 1000000 ∧ ∀ (j : Nat) (x : Int), l[j]? = some x → ∃ g, o = some ⟨g, 0, none⟩ ∧ w.cell? ⟨g, j, none⟩ = some (.int .i64 x)
theorem LsAt.below {w w' : World} {oc : Option Addr} {ls : List (List Int)} (h : LsAt w oc ls) (hb : Below w.heap.size w w') : LsAt w' oc ls := by
  intro k l hl
  obtain ⟨gc, o, c, h1, h2, h3, h4⟩ := h k l hl
  refine ⟨gc, o, c, h1, (hb.cell (p := ⟨gc, k, none⟩) (World.block_lt_of_cell? w _ h2)).trans h2, h3, fun j x hx => ?_⟩
  obtain ⟨g, h5, h6⟩ := h4 j x hx
  exact ⟨g, h5, (hb.cell (p := ⟨g, j, none⟩) (World.block_lt_of_cell? w _ h6)).trans h6⟩
theorem waiting_any (md : Bool) (oo : Option Addr) (no co : Nat) (oc : Option Addr) (nc cc : Nat) (oh : Option Addr) (nh ch : Nat) (w : World) :
    Calls Try.prog 72 #[.agg (hdC md oo no co oc nc cc oh nh ch)] w fun e w' => e = .returned (.func (.func 90) #[] #[.pointer (some ⟨w.heap.size, 0, none⟩)]) ∧
    w.alloc (.cells (hdC md oo no co oc nc cc oh nh ch) 76) = w' := by
  go_enter Try.func72, Try.ntmps72
  go_wp2
  go_ret
  exact ⟨rfl, rfl⟩

theorem flat_succ {ls : List (List Int)} {k : Nat} {l : List Int} (h : ls[k]? = some l) : (ls.take (k + 1)).flatten = (ls.take k).flatten ++ l := by
  rw [List.take_add_one, h]; simp

set_option maxRecDepth 100000 in
set_option maxHeartbeats 2000000 in
theorem waiting1_in (d lp Bs : Nat) (md : Bool) (oo : Option Addr) (no co : Nat) (oc : Option Addr) (nc cc : Nat) (oh : Option Addr) (nh ch : Nat) (ls : List (List Int)) (hls : ls.length = nc) (hnc : nc ≤ 1000000)
    (J : List Int → World → Prop) (Jx : World → Prop)
    (W0 : World) (hla : LsAt W0 oc ls) (hbs : Blk W0 Bs 76 (hdC md oo no co oc nc cc oh nh ch)) (hR : ∀ pre W, J pre W → Below W0.heap.size W0 W)
    (hA : ∀ pre W o, J pre W → J pre (W.alloc o))
    (hY : ∀ m pre x W, J pre W → x ∈ ls.flatten → YieldAt Fence.wide m Try.prog lp #[.int .i64 x] W (fun e W' => (e = .returned (.bool true) ∧ J (pre ++ [x]) W') ∨ (e = .returned (.bool false) ∧ Jx W')))
    (W : World) (h0 : J [] W) :
    CallsIn Fence.wide d Try.prog 90 #[.func (.yield lp) #[] #[], .pointer (some ⟨Bs, 0, none⟩)] W fun e W' => (∃ v, e = .returned v) ∧ (J ls.flatten W' ∨ Jx W') := by
  refine callsIn_of_wp Try.func90 rfl trivial ?_ rfl
  simp only [Try.ntmps90, List.size_toArray, List.length_cons, List.length_nil, Nat.reduceAdd, Nat.reduceSub, Array.replicate_succ, Array.replicate_zero, List.push_toArray, List.append_toArray, List.nil_append, List.cons_append]
  have HR := Lib.hid hR; have HA := Lib.hid hA; have HY := Lib.hid hY; have HLS := Lib.hid hls; have HLA := Lib.hid hla; have HBS := Lib.hid hbs
  obtain ⟨c0, c1, c2, c3, _, _, _, _⟩ := (hbs.below (hR _ _ h0) hbs.lt).four
  have HJ0 := Lib.hid h0
  clear hR hA hY hls hbs hla h0
  gi_wp2_with fail
  gi_loopw [10] (fun i wr => ∃ k : Nat, k ≤ nc ∧ i = .int .i64 k ∧ J (ls.take k).flatten wr) (fun i _ => nc - (intOf i).toNat)
  case atStart => exact ⟨0, Nat.zero_le _, rfl, HJ0.out⟩
  case round =>
    obtain ⟨k, hk, rfl, hj⟩ := hrel
    clear c0 c1 c2 c3
    by_cases hlt : k < nc
    · obtain ⟨l, hl⟩ : ∃ l, ls[k]? = some l := ⟨_, List.getElem?_eq_getElem (by rw [HLS.out]; exact hlt)⟩
      obtain ⟨gc, o, c, rfl, hcell, hlm, hcs⟩ := HLA.out k l hl
      have hcr := ((HR.out _ _ hj).cell (p := ⟨gc, k, none⟩) (World.block_lt_of_cell? W0 _ hcell)).trans hcell
      have hj2 := HA.out _ _ (.cells #[.slice o l.length c] 97) hj
      have HL := Lib.hid hl
      have HCS := Lib.hid hcs
      have HJ2 := Lib.hid hj2
      clear hj hj2 hl hcell hcs
      gi_wp2_with fail
      obtain ⟨wo, hwo⟩ : ∃ wo : World, wo = wr.alloc (.cells #[.slice o l.length c] 97) := ⟨_, rfl⟩
      rw [← hwo] at HJ2 ⊢
      clear hwo hcr
      generalize wr = wq at *
      gi_loopw [18] (fun i wi => ∃ j : Nat, j ≤ l.length ∧ i = .int .i64 j ∧ J ((ls.take k).flatten ++ l.take j) wi) (fun i _ => l.length - (intOf i).toNat)
      case atStart => exact ⟨0, Nat.zero_le _, rfl, by rw [List.take_zero, List.append_nil]; exact HJ2.out⟩
      case round =>
        obtain ⟨j, hjl, rfl, hj⟩ := hrel
        by_cases hlt2 : j < l.length
        · obtain ⟨x, hx⟩ : ∃ x, l[j]? = some x := ⟨_, List.getElem?_eq_getElem hlt2⟩
          obtain ⟨g, rfl, hcx⟩ := HCS.out j x hx
          have hcy := ((HR.out _ _ hj).cell (p := ⟨g, j, none⟩) (World.block_lt_of_cell? W0 _ hcx)).trans hcx
          obtain ⟨fn, tmps, assign, body, hy, hR⟩ := HY.out (d - 1) _ x wr hj (List.mem_flatten.2 ⟨l, List.mem_of_getElem? HL.out, List.mem_of_getElem? hx⟩)
          have HX := Lib.hid hx
          have HRR := Lib.hid hR
          clear hx hcx hR hj
          gi_wp2_with fail
          refine ⟨fun h => (by cases h), HRR.out.mono ?_⟩
          rintro e W' (⟨rfl, hJ'⟩ | ⟨rfl, hx'⟩)
          · have HJ' := Lib.hid hJ'
            clear hJ'
            gi_wp2_with fail
            go_roundw
            case rel => exact ⟨j + 1, by omega, by go_num, by rw [List.take_add_one, HX.out, ← List.append_assoc]; exact HJ'.out⟩
            case measure => simp [intOf]; omega
          · have HX' := Lib.hid hx'
            clear hx'
            gi_wp2_with fail
            refine bodyPost_ret (results_none rfl _ _ _) rfl ?_
            exact ⟨⟨_, rfl⟩, .inr HX'.out⟩
        · obtain rfl : j = l.length := by omega
          have HJ3 := Lib.hid hj
          clear hj HJ2
          gi_wp2_with fail
          go_roundw
          case rel => exact ⟨k + 1, by omega, by go_num, by rw [flat_succ HL.out]; have := HJ3.out; rwa [List.take_length] at this⟩
          case measure => simp [intOf]; omega
    · obtain rfl : k = nc := by omega
      have HJ3 := Lib.hid hj
      clear hj
      gi_wp2_with fail
      go_end0
      exact ⟨⟨_, rfl⟩, .inl (by have := HJ3.out; rwa [← HLS.out, List.take_length] at this)⟩

/-- What lies at a loop's begin: four blocks; then the loop's own. -/
structure Four (w W0 : World) (t0 t1 t2 t3 : TypeId) (x0 x1 x2 x3 : Array Value) : Prop where
  size : W0.heap.size = w.heap.size + 4
  b0 : Blk W0 w.heap.size t0 x0
  b1 : Blk W0 (w.heap.size + 1) t1 x1
  b2 : Blk W0 (w.heap.size + 2) t2 x2
  b3 : Blk W0 (w.heap.size + 3) t3 x3
  only : Only (fun _ => False) w W0
theorem four_of (w W0 : World) (t0 t1 t2 t3 : TypeId) (x0 x1 x2 x3 : Array Value) (h : (((w.alloc (.cells x0 t0)).alloc (.cells x1 t1)).alloc (.cells x2 t2)).alloc (.cells x3 t3) = W0) : Four w W0 t0 t1 t2 t3 x0 x1 x2 x3 := by
  subst h
  have b0 := Blk.new w t0 x0
  have b1 := Blk.new' (w.alloc (.cells x0 t0)) t1 x1 (w.heap.size + 1) (by simp)
  have b2 := Blk.new' ((w.alloc (.cells x0 t0)).alloc (.cells x1 t1)) t2 x2 (w.heap.size + 2) (by simp)
  have b3 := Blk.new' (((w.alloc (.cells x0 t0)).alloc (.cells x1 t1)).alloc (.cells x2 t2)) t3 x3 (w.heap.size + 3) (by simp)
  exact ⟨by simp, ((b0.alloc _).alloc _).alloc _, (b1.alloc _).alloc _, b2.alloc _, b3, ((((Only.refl w).alloc _).alloc _).alloc _).alloc _⟩
/-- A loop begins. -/
structure Loops (W0 W1 : World) (D L : Nat) (rr : Obj) : Prop where
  size : W1.heap.size = W0.heap.size + 2
  df : W1.heap[D]? = some (.deferred (some []))
  lp : W1.heap[L]? = some rr
  only : Only (fun _ => False) W0 W1
theorem loops_of (W0 W1 : World) (rr : Obj) (h : W1 = (W0.alloc (.deferred (some []))).alloc rr) (D L : Nat) (hD : D = W0.heap.size) (hL : L = W0.heap.size + 1) : Loops W0 W1 D L rr := by
  subst h; subst hD; subst hL
  refine ⟨by simp, (Below.heap_alloc _ _ _ (by simp)).trans (World.alloc_heap_new W0 _), ?_, ((Only.refl W0).alloc _).alloc _⟩
  have := World.alloc_heap_new (W0.alloc (.deferred (some []))) rr
  simpa using this

set_option maxRecDepth 100000 in
set_option maxHeartbeats 2000000 in
theorem waits_any (md : Bool) (oo : Option Addr) (no co : Nat) (oc : Option Addr) (nc cc : Nat) (oh : Option Addr) (nh ch : Nat) (t : Int) (ls : List (List Int)) (hls : ls.length = nc) (hnc : nc ≤ 1000000) (w : World) (hla : LsAt w oc ls) :
    Calls Try.prog 51 #[.agg (hdC md oo no co oc nc cc oh nh ch), .int .i64 t] w fun e w' => (∃ r, e = .returned (.bool r) ∧ (r = true ↔ t ∈ ls.flatten)) ∧ Below w.heap.size w w' := by
  refine (callsIn_wide (n := 9)).1 ?_
  refine callsIn_of_wp_marks Try.func51 rfl trivial ?_ rfl
  simp only [Try.ntmps51, List.size_toArray, List.length_cons, List.length_nil, Nat.reduceAdd, Nat.reduceSub, Array.replicate_succ, Array.replicate_zero, List.push_toArray, List.append_toArray, List.nil_append, List.cons_append]
  have HLA := Lib.hid hla; have HLS := Lib.hid hls
  clear hla hls
  gi_wp2_with fail
  refine ⟨trivial, callsIn_wide.2 ((waiting_any md oo no co oc nc cc oh nh ch _).mono ?_)⟩
  rintro e w1 ⟨rfl, rfl⟩
  gi_wp2_with fail
  generalize hW0 : (((w.alloc _).alloc _).alloc _).alloc _ = W0
  have FR := four_of w W0 _ _ _ _ _ _ _ _ hW0
  clear hW0
  have z0 := FR.size
  refine range_of_call rfl (fun h => by cases h) (gf := 90) (lb := #[.pointer (some ⟨w.heap.size + 1 + 1 + 1, 0, none⟩)]) rfl trivial (enters_of Try.func90 (by kernel_rfl) rfl) ?_
  intro fn hfn rec hrec W1 hW1
  have LP := loops_of W0 W1 _ hW1 (w.heap.size + 4) (w.heap.size + 5) (by omega) (by omega)
  rw [show W0.heap.size + 1 = w.heap.size + 5 by omega, show W0.heap.size = w.heap.size + 4 from z0]
  clear hW1
  have z1 := LP.size
  have hla0 : LsAt W0 oc ls := HLA.out.below (FR.only.below (Nat.le_refl _) (fun _ h => h.elim))
  refine (waiting1_in 8 (w.heap.size + 5) (w.heap.size + 3) md oo no co oc nc cc oh nh ch ls HLS.out hnc
    (fun pre W => t ∉ pre ∧ W.heap[w.heap.size + 5]? = some (.loop (rec .ready none)) ∧ Only (fun b => b = w.heap.size + 5) W1 W)
    (fun W => t ∈ ls.flatten ∧ Only (fun b => b = w.heap.size + 5 ∨ b = w.heap.size + 2) W1 W ∧ Blk W (w.heap.size + 2) 4 #[.bool true] ∧ W.heap[w.heap.size + 5]? = some (.loop (rec .done (some .ret))))
    W0 hla0 FR.b3 ?_ ?_ ?_ W1 ⟨by simp, LP.lp, Only.refl _⟩).mono ?_
  · rintro pre W ⟨_, _, ho⟩
    exact (LP.only.below (Nat.le_refl _) (fun _ h => h.elim)).trans (ho.below (by omega) (fun k hk => by omega))
  · rintro pre W o ⟨h1, h2, h3⟩
    exact ⟨h1, (Below.heap_alloc _ _ _ (Array.getElem?_eq_some_iff.1 h2).1).trans h2, h3.alloc o⟩
  · rintro m pre x W ⟨hn, hl, ho⟩ hx
    have r2 : Blk W (w.heap.size + 2) 4 #[.bool false] := (FR.b2.only LP.only id).only ho (by omega)
    have r1 : Blk W (w.heap.size + 1) 3 #[.int .i64 t] := (FR.b1.only LP.only id).only ho (by omega)
    have ll := (Array.getElem?_eq_some_iff.1 hl).1
    have ob := (Only.refl (X := fun b => b = w.heap.size + 5) W).putObj (l := w.heap.size + 5) (.inl rfl) (.loop (rec .busy none))
    have p1 := r1.putObj (l := w.heap.size + 5) (by omega) (.loop (rec .busy none))
    have p2 := r2.putObj (l := w.heap.size + 5) (by omega) (.loop (rec .busy none))
    have hb : (W.putObj (w.heap.size + 5) (.loop (rec .busy none))).heap[w.heap.size + 5]? = some (.loop (rec .busy none)) := World.putObj_heap_same ll
    have zb : (W.putObj (w.heap.size + 5) (.loop (rec .busy none))).heap.size = W.heap.size := World.putObj_size ..
    by_cases hxt : x = t
    · subst hxt
      refine YieldAt.mono (R := fun e W' => e = .returned (.bool false) ∧ Only (fun b => b = w.heap.size + 5 ∨ b = w.heap.size + 2) W1 W' ∧ Blk W' (w.heap.size + 2) 4 #[.bool true] ∧ W'.heap[w.heap.size + 5]? = some (.loop (rec .done (some .ret)))) (yield_of_body hrec hfn hl rfl ?_) ?_
      · have HL := Lib.hid hl
        clear hrec hl FR LP
        gi_wp2_with fail
        refine ⟨HL.out, ?_⟩
        have c1 := p1.cell 0; have c2 := p2.cell 0; have f2 := p2.frozen 0
        have HO := Lib.hid (ho.trans ob)
        generalize hWb : W.putObj (w.heap.size + 5) (.loop (rec .busy none)) = Wb at *
        have P2 := Lib.hid p2; have HB := Lib.hid hb
        clear hWb p1 p2 hb ob r1 r2 ho
        gi_wp2_with fail
        have hbz : (Wb.setCell ⟨w.heap.size + 2, 0, none⟩ (.bool true)).heap[w.heap.size + 5]? = some (.loop (rec .busy none)) := (Below.heap_setCell _ _ _ _ (by simp)).trans HB.out
        refine ⟨hbz, rfl, ?_, (P2.out.set_ 0 _).putObj (by omega) _, World.putObj_heap_same (Array.getElem?_eq_some_iff.1 hbz).1⟩
        exact ((HO.out.mono (fun b hb => .inl hb)).setCell (p := ⟨w.heap.size + 2, 0, none⟩) (.inl (.inr rfl)) _).putObj (.inl (.inl rfl)) _
      · rintro e W' ⟨rfl, h⟩
        exact .inr ⟨rfl, hx, h⟩
    · refine YieldAt.mono (R := fun e W' => e = .returned (.bool true) ∧ W'.heap[w.heap.size + 5]? = some (.loop (rec .ready none)) ∧ Only (fun b => b = w.heap.size + 5) W1 W') (yield_of_body hrec hfn hl rfl ?_) ?_
      · have HL := Lib.hid hl
        have hxt' : (x == t) = false := by rw [beq_eq_false_iff_ne]; exact hxt
        have HX := Lib.hid hxt
        clear hrec hl FR LP hxt
        gi_wp2_with fail
        refine ⟨HL.out, ?_⟩
        have c1 := p1.cell 0
        have HO := Lib.hid (ho.trans ob)
        generalize hWb : W.putObj (w.heap.size + 5) (.loop (rec .busy none)) = Wb at *
        have HB := Lib.hid hb
        clear hWb p1 p2 hb ob r1 r2 ho
        gi_wp2_with fail
        exact ⟨HB.out, rfl, World.putObj_heap_same (Array.getElem?_eq_some_iff.1 HB.out).1, HO.out.putObj (.inl rfl) _⟩
      · rintro e W' ⟨rfl, h1, h2⟩
        exact .inl ⟨rfl, by simp [hn]; exact fun e => hxt e.symm, h1, h2⟩
  · rintro e W2 ⟨⟨u, rfl⟩, ⟨hn, hl, ho⟩ | ⟨hx, ho, hb2, hl⟩⟩
    · refine ⟨⟨_, rfl⟩, .inl ⟨hl, ?_⟩⟩
      have oo := (ho.mono (Y := fun b => w.heap.size ≤ b) (fun _ h => by omega)).putObj (l := w.heap.size + 5) (.inl (by omega)) (.loop (rec .exhausted none))
      have r2 : Blk (W2.putObj (w.heap.size + 5) (.loop (rec .exhausted none))) (w.heap.size + 2) 4 #[.bool false] := ((FR.b2.only LP.only id).only ho (by omega)).putObj (by omega) _
      have hdz : (W2.putObj (w.heap.size + 5) (.loop (rec .exhausted none))).heap[w.heap.size + 4]? = some (.deferred (some [])) := (World.putObj_heap_other (by omega)).trans ((ho.block _ (by omega) (by omega)).trans LP.df)
      have hbl := ((FR.only.trans LP.only).below (n := w.heap.size) (Nat.le_refl _) (fun _ h => h.elim)).trans (oo.below (by omega) (fun _ h => h))
      generalize hWb : W2.putObj (w.heap.size + 5) (.loop (rec .exhausted none)) = Wb at *
      have c2 := r2.cell 0; have f2 := r2.frozen 0
      have R2 := Lib.hid r2; have HD := Lib.hid hdz; have HBL := Lib.hid hbl
      clear r2 hdz hbl hWb oo hrec FR LP hl ho
      gi_wp2_with fail
      have zc := ((R2.out.set_ 0 (.bool false)).putObj (l := w.heap.size + 4) (by omega) (.deferred none)).cell 0
      have hdz : (Wb.setCell ⟨w.heap.size + 2, 0, none⟩ (.bool false)).heap[w.heap.size + 4]? = some (.deferred (some [])) := (Below.heap_setCell _ _ _ _ (by simp)).trans HD.out
      refine ⟨by simp, .inl ⟨_, _, rfl, run_takeDeferred hdz, ?_⟩⟩
      refine ⟨.bool false, by simp [results, Try.results51, go_sem, zc], ⟨false, rfl, by simpa using hn⟩, HBL.out.trans (((Only.refl (X := fun b => w.heap.size ≤ b) Wb).setCell (p := ⟨w.heap.size + 2, 0, none⟩) (.inl (by simp)) _).putObj (.inl (by omega)) _ |>.below (by have := HBL.out.size; omega) (fun _ h => h))⟩
    · refine ⟨⟨_, rfl⟩, .inr ⟨.ret, hl, ?_⟩⟩
      have oo := (ho.mono (Y := fun b => w.heap.size ≤ b) (fun _ h => by omega)).putObj (l := w.heap.size + 5) (.inl (by omega)) (.loop (rec .exhausted (some .ret)))
      have r2 : Blk (W2.putObj (w.heap.size + 5) (.loop (rec .exhausted (some .ret)))) (w.heap.size + 2) 4 #[.bool true] := hb2.putObj (by omega) _
      have hdz : (W2.putObj (w.heap.size + 5) (.loop (rec .exhausted (some .ret)))).heap[w.heap.size + 4]? = some (.deferred (some [])) := (World.putObj_heap_other (by omega)).trans ((ho.block _ (by omega) (by omega)).trans LP.df)
      have hbl := ((FR.only.trans LP.only).below (n := w.heap.size) (Nat.le_refl _) (fun _ h => h.elim)).trans (oo.below (by omega) (fun _ h => h))
      generalize hWb : W2.putObj (w.heap.size + 5) (.loop (rec .exhausted (some .ret))) = Wb at *
      have c2 := r2.cell 0
      have R2 := Lib.hid r2; have HD := Lib.hid hdz; have HBL := Lib.hid hbl; have HX := Lib.hid hx
      clear r2 hdz hbl hWb oo hrec FR LP hl ho hb2 hx
      gi_wp2_with fail
      have zc := (R2.out.putObj (l := w.heap.size + 4) (by omega) (.deferred none)).cell 0
      refine ⟨by simp, .inl ⟨_, _, rfl, run_takeDeferred HD.out, ?_⟩⟩
      refine ⟨.bool true, by simp [results, Try.results51, go_sem, zc], ⟨true, rfl, by simpa using HX.out⟩, HBL.out.trans ((Only.refl (X := fun b => w.heap.size ≤ b) Wb).putObj (.inl (by omega)) _ |>.below (by have := HBL.out.size; omega) (fun _ h => h))⟩
end Go.Proofs.Ytdfjbgfdaokjgaa

/-
  'Lex': the words of a text, or where its first fault is.
-/
import Derived.Test.YtkkjdmpgjfkenaaDoorIter
import Derived.Test.YtkkjdmpgjfkenaaDoorRange
import Derived.WalkMore
import Derived.Deep.DeepMust
import Derived.RangeFuncBox
import Derived.Maps.AppendAt
namespace Go.Proofs.YtkkjdmpgjfkenaaDoor
open Go.RowKit Go.Maps Go.WideMaps Go.Shelf
attribute [local go_sem] Oper.semAt_some

theorem wpIn_scope_wide {n : Nat} {P : Program} {c : Code} {Q : Exit → Act → World → Prop} {a : Act} {w : World} (h : c.wpIn Fence.wide n P (Exit.noGoto Q) a w) : (Code.scope c).wpIn Fence.wide n P Q a w :=
  wpIn_wide.2 (wp_scope_straight (wpIn_wide.1 h))
theorem wpIn_label_wide {n l : Nat} {P : Program} {Q : Exit → Act → World → Prop} {a : Act} {w : World} (h : Q .normal a w) : (Code.label l).wpIn Fence.wide n P Q a w :=
  wpIn_wide.2 (wp_label h)

theorem words_any (t : ByteArray) (w : World) :
    Calls Tryd.prog 23 #[.string t] w fun e w' => e = .returned (.func (.func 36) #[] #[.pointer (some ⟨w.heap.size, 0, none⟩)]) ∧ w.alloc (.cells #[.string t] 9) = w' := by
  go_enter Tryd.func23, Tryd.ntmps23
  go_wp2
  go_ret
  exact ⟨rfl, rfl⟩
theorem sClone_any (s : ByteArray) (w : World) (hs : s.size ≤ 1000000000) : Calls Tryd.prog 24 #[.string s] w fun e w' => e = .returned (.string s) ∧ Below w.heap.size w w' := by
  have H := Lib.hid (Tryd.stringslite_Clone s w (by omega))
  go_enter Tryd.func24, Tryd.ntmps24
  go_wp2_with fail
  refine H.out.mono ?_
  rintro e w' ⟨rfl, hb⟩
  go_wp2_with fail
  go_ret
  exact ⟨rfl, hb⟩

theorem Lex_long (t : ByteArray) (w : World) (h : 65536 < t.size) :
    Calls Tryd.prog 11 #[.string t] w fun e w' => e = .returned (.tuple #[.slice none 0 0, .agg #[.int .i64 0, .int .i64 0], .int .i64 3]) ∧ Below w.heap.size w w' := by
  go_enter Tryd.func11, Tryd.ntmps11
  go_wp2
  go_step3
  go_wp2
  try rw [Exit.noGoto_ret]
  refine bodyPost_ret (v := .tuple #[.slice none 0 0, .agg #[.int .i64 0, .int .i64 0], .int .i64 3]) (by simp [results, Tryd.results11, go_sem]) rfl ⟨rfl, ?_⟩
  exact (Below.refl _ _).alloc (Nat.le_refl _) _

/-- Blocks of rows under 'Only'. -/
theorem ownsRow_only {X : Nat → Prop} {w w' : World} {base : Nat} {e : TypeId} {size : Nat} {v : Value} {n : Nat} {xs : List Value} (h : w.ownsRow base e size v n xs) (ho : Only X w w') (hx : ∀ k, X k → k < base) : w'.ownsRow base e size v n xs := by
  rcases h with ⟨h1, h2 | ⟨g, cap, cur, hv, hb, hh, hr⟩⟩
  · exact ⟨h1, .inl h2⟩
  · exact ⟨h1, .inr ⟨g, cap, cur, hv, hb, (ho.block g (Array.getElem?_eq_some_iff.1 hh).1 (fun hk => by have := hx g hk; omega)).trans hh, hr⟩⟩
theorem Only.putObj {X : Nat → Prop} {a w : World} (h : Only X a w) {l : Nat} (hl : X l ∨ a.heap.size ≤ l) (o : Obj) : Only X a (w.putObj l o) :=
  ⟨h.os, h.tape, h.output, by have := h.size; simpa using this, fun k hk hx => (World.putObj_heap_other (by
    rintro rfl
    rcases hl with hl | hl
    · exact hx hl
    · omega)).trans (h.block k hk hx)⟩
theorem Only.grown {X : Nat → Prop} {a w w' : World} {row : Option Nat} (h : Only X a w) (hg : w.grownBy w' row) (hr : ∀ k, row = some k → X k ∨ a.heap.size ≤ k) : Only X a w' :=
  ⟨hg.os.trans h.os, hg.tape.trans h.tape, hg.output.trans h.output, Nat.le_trans h.size hg.size, fun k hk hx => (hg.block k (Nat.lt_of_lt_of_le hk h.size) (fun e => by
    rcases hr k e.symm with h1 | h1
    · exact hx h1
    · omega)).trans (h.block k hk hx)⟩
theorem ownsRow_block {w w' : World} {base : Nat} {e : TypeId} {size : Nat} {v : Value} {n : Nat} {xs : List Value} (h : w.ownsRow base e size v n xs) (hb : ∀ g, v.ownBlock = some g → w'.heap[g]? = w.heap[g]?) : w'.ownsRow base e size v n xs := by
  rcases h with ⟨h1, h2 | ⟨g, cap, cur, hv, hb', hh, hr⟩⟩
  · exact ⟨h1, .inl h2⟩
  · exact ⟨h1, .inr ⟨g, cap, cur, hv, hb', (hb g (by rw [hv]; rfl)).trans hh, hr⟩⟩
theorem Blk.grown {w w' : World} {g : Nat} {t : TypeId} {cs : Array Value} {row : Option Nat} (h : Blk w g t cs) (hg : w.grownBy w' row) (hne : some g ≠ row) : Blk w' g t cs := (hg.block g h.lt hne).trans h
theorem ownsRow_base {w : World} {base base' : Nat} {e : TypeId} {size : Nat} {v : Value} {n : Nat} {xs : List Value} (h : w.ownsRow base e size v n xs) (hb : base' ≤ base) : w.ownsRow base' e size v n xs := by
  rcases h with ⟨h1, h2 | ⟨g, cap, cur, hv, hb', hr⟩⟩
  · exact ⟨h1, .inl h2⟩
  · exact ⟨h1, .inr ⟨g, cap, cur, hv, Nat.le_trans hb hb', hr⟩⟩
theorem ba_eta (u : ByteArray) : (⟨u.data.toList.toArray⟩ : ByteArray) = u := by
  obtain ⟨⟨l⟩⟩ := u
  rfl
theorem cells_five (w : World) (a b c d e : Value) (t : TypeId) : ∀ j u, [a, b, c, d, e][j]? = some u → (w.alloc (.cells #[a, b, c, d, e] t)).cell? ((⟨w.heap.size, 0, none⟩ : Addr).add j) = some u := by
  intro j u hj
  have hb := Blk.new w t #[a, b, c, d, e]
  have h : (⟨w.heap.size, 0, none⟩ : Addr).add j = ⟨w.heap.size, j, none⟩ := by
    unfold Addr.add
    split
    · rename_i h0
      subst h0
      rfl
    · simp
  rw [h, hb.cell j, ← hj]
  simp
theorem Blk.putObj {w : World} {g : Nat} {t : TypeId} {cs : Array Value} (h : Blk w g t cs) {l : Nat} (hne : g ≠ l) (o : Obj) : Blk (w.putObj l o) g t cs := (World.putObj_heap_other hne).trans h

def tokCells (x : TokL) : List Value := [.int .i64 x.k, .string ⟨x.txt.toArray⟩, .int .i64 x.n, .int .i64 x.pos.1, .int .i64 x.pos.2]
/-- What 'Lex' answers. -/
def LexP (t : ByteArray) (w : World) (e : Ending) (w' : World) : Prop :=
  Below w.heap.size w w' ∧
  (((lexF (t.size + 1) t.data.toList (1, 1)).2 = none ∧ ∃ v, e = .returned (.tuple #[v, .agg #[.int .i64 0, .int .i64 0], .int .i64 0]) ∧
      w'.ownsRow w.heap.size 40 5 v (lexF (t.size + 1) t.data.toList (1, 1)).1.length ((lexF (t.size + 1) t.data.toList (1, 1)).1.flatMap tokCells)) ∨
   (∃ p er, (lexF (t.size + 1) t.data.toList (1, 1)).2 = some (p, er) ∧ e = .returned (.tuple #[.slice none 0 0, .agg #[.int .i64 p.1, .int .i64 p.2], .int .i64 er])))


/-- What lies between two rounds: the list, as far as it has come. -/
structure Mid (s0 E : Nat) (done : List TokL) (w W : World) : Prop where
  res : Blk W s0 25 #[.int .i64 0, .int .i64 0]
  list : ∃ v, Blk W (s0 + 1) 23 #[v] ∧ ((done = [] ∧ v = .slice none 0 0) ∨ (s0 + 9 ≤ E ∧ W.ownsRow E 40 5 v done.length (done.flatMap tokCells)))
  place : Blk W (s0 + 2) 25 #[.int .i64 0, .int .i64 0]
  fault : Blk W (s0 + 3) 26 #[.int .i64 0]
  below : Below s0 w W
theorem Mid.only {s0 E : Nat} {done : List TokL} {w W W' : World} {X : Nat → Prop} (h : Mid s0 E done w W) (ho : Only X W W') (hx : ∀ k, X k → s0 + 4 ≤ k ∧ k < s0 + 9) : Mid s0 E done w W' := by
  obtain ⟨h1, ⟨v, h2, h3⟩, h4, h5, h6⟩ := h
  have hs : s0 ≤ W.heap.size := by have := h1.lt; omega
  refine ⟨h1.only ho (fun hk => by have := hx _ hk; omega), ⟨v, h2.only ho (fun hk => by have := hx _ hk; omega), ?_⟩, h4.only ho (fun hk => by have := hx _ hk; omega), h5.only ho (fun hk => by have := hx _ hk; omega),
    h6.trans (ho.below hs (fun k hk => by have := hx _ hk; omega))⟩
  rcases h3 with h3 | ⟨h3, h7⟩
  · exact .inl h3
  · exact .inr ⟨h3, ownsRow_only h7 ho (fun k hk => by have := hx _ hk; omega)⟩
/-- What lies behind a fault. -/
structure Out (s0 : Nat) (p : Int × Int) (er : Int) (w W : World) : Prop where
  res : Blk W s0 25 #[.int .i64 0, .int .i64 0]
  list : Blk W (s0 + 1) 23 #[.slice none 0 0]
  place : Blk W (s0 + 2) 25 #[.int .i64 p.1, .int .i64 p.2]
  fault : Blk W (s0 + 3) 26 #[.int .i64 er]
  below : Below s0 w W

theorem mid0 (t : ByteArray) (w w5 : World) (h : ((((w.alloc (Obj.cells #[Value.int IntKind.i64 0, Value.int IntKind.i64 0] 25)).alloc (Obj.cells #[Value.slice none 0 0] 23)).alloc (Obj.cells #[Value.int IntKind.i64 0, Value.int IntKind.i64 0] 25)).alloc (Obj.cells #[Value.int IntKind.i64 0] 26)).alloc (Obj.cells #[Value.string t] 9) = w5) (E : Nat) :
    Mid w.heap.size E [] w w5 := by
  subst h
  have b1 := Blk.new w 25 #[.int .i64 0, .int .i64 0]
  have b2 := Blk.new (w.alloc (Obj.cells #[Value.int IntKind.i64 0, Value.int IntKind.i64 0] 25)) 23 #[.slice none 0 0]
  have b3 := Blk.new ((w.alloc (Obj.cells #[Value.int IntKind.i64 0, Value.int IntKind.i64 0] 25)).alloc (Obj.cells #[Value.slice none 0 0] 23)) 25 #[.int .i64 0, .int .i64 0]
  have b4 := Blk.new (((w.alloc (Obj.cells #[Value.int IntKind.i64 0, Value.int IntKind.i64 0] 25)).alloc (Obj.cells #[Value.slice none 0 0] 23)).alloc (Obj.cells #[Value.int IntKind.i64 0, Value.int IntKind.i64 0] 25)) 26 #[.int .i64 0]
  rw [World.size_alloc] at b2
  rw [World.size_alloc, World.size_alloc] at b3
  rw [World.size_alloc, World.size_alloc, World.size_alloc] at b4
  exact ⟨(((b1.alloc _).alloc _).alloc _).alloc _, ⟨_, ((b2.alloc _).alloc _).alloc _, .inl ⟨rfl, rfl⟩⟩, (b3.alloc _).alloc _, b4.alloc _,
    (((((Below.refl _ w).alloc (Nat.le_refl _) _).alloc (by rw [World.size_alloc]; omega) _).alloc (by rw [World.size_alloc, World.size_alloc]; omega) _).alloc (by rw [World.size_alloc, World.size_alloc, World.size_alloc]; omega) _).alloc (by rw [World.size_alloc, World.size_alloc, World.size_alloc, World.size_alloc]; omega) _⟩
theorem text0 (t : ByteArray) (w w5 : World) (h : ((((w.alloc (Obj.cells #[Value.int IntKind.i64 0, Value.int IntKind.i64 0] 25)).alloc (Obj.cells #[Value.slice none 0 0] 23)).alloc (Obj.cells #[Value.int IntKind.i64 0, Value.int IntKind.i64 0] 25)).alloc (Obj.cells #[Value.int IntKind.i64 0] 26)).alloc (Obj.cells #[Value.string t] 9) = w5) :
    w5.cell? ⟨w.heap.size + 1 + 1 + 1 + 1, 0, none⟩ = some (.string t) := by
  subst h
  have b1 := Blk.new ((((w.alloc (Obj.cells #[Value.int IntKind.i64 0, Value.int IntKind.i64 0] 25)).alloc (Obj.cells #[Value.slice none 0 0] 23)).alloc (Obj.cells #[Value.int IntKind.i64 0, Value.int IntKind.i64 0] 25)).alloc (Obj.cells #[Value.int IntKind.i64 0] 26)) 9 #[.string t]
  rw [World.size_alloc, World.size_alloc, World.size_alloc, World.size_alloc] at b1
  exact b1.cell 0
theorem tokInfo : (Tryd.prog.info? 40).map (fun i => (i.zero, i.size, i.bytes)) = some (some (.agg #[.int .i64 0, .string ByteArray.empty, .int .i64 0, .int .i64 0, .int .i64 0]), 5, 48) := by kernel_rfl

theorem not_block {id id' : Nat} {Q : Exit → Act → World → Prop} {a : Act} {w : World} (hne : id' ≠ id) (h : Q (.exit id') a w) : Exit.inBlock id Q (.exit id') a w := by
  simp only [Exit.inBlock]
  rw [if_neg hne]
  exact h
theorem bad_end {s0 : Nat} {p : Int × Int} {er : Int} {w W : World} {a : Act} {rec : LoopState → Option Code → Loop} (h0 : Blk W s0 25 #[.int .i64 0, .int .i64 0]) (h1 : Blk W (s0 + 1) 23 #[.slice none 0 0])
    (h2 : Blk W (s0 + 2) 25 #[.int .i64 p.1, .int .i64 p.2]) (h3 : Blk W (s0 + 3) 26 #[.int .i64 er]) (hb : Below s0 w W) (hz : W.heap[s0 + 6]? = some (.loop (rec .busy none))) (hd : W.heap[s0 + 5]? = some (.deferred (some []))) :
    rowPost (s0 + 6) rec (fun e W' => e = .returned (.bool false) ∧ Out s0 p er w W' ∧ W'.heap[s0 + 6]? = some (.loop (rec .done (some (.exit 0)))) ∧ W'.heap[s0 + 5]? = some (.deferred (some []))) (.exit 0) a W := by
  have hl := (Array.getElem?_eq_some_iff.1 hz).1
  refine ⟨hz, rfl, ⟨h0.putObj (by omega) _, h1.putObj (by omega) _, h2.putObj (by omega) _, h3.putObj (by omega) _, ?_⟩, World.putObj_heap_same hl, (World.putObj_heap_other (by omega)).trans hd⟩
  exact hb.trans (((Only.refl (X := fun j => j = s0 + 6) W).putObj (l := s0 + 6) (.inl rfl) _).below (by omega) (fun j hj => by omega))

set_option maxRecDepth 100000 in
set_option maxHeartbeats 8000000 in
theorem Lex_any (t : ByteArray) (w : World) (h : t.size ≤ 65536) (hv : ErrVars w) : Calls Tryd.prog 11 #[.string t] w (LexP t w) := by
  refine (callsIn_wide (n := 9)).1 ?_
  refine callsIn_of_wp_marks Tryd.func11 rfl trivial ?_ rfl
  simp only [Tryd.ntmps11, List.size_toArray, List.length_cons, List.length_nil, Nat.reduceAdd, Nat.reduceSub, Array.replicate_succ, Array.replicate_zero, List.push_toArray, List.append_toArray, List.nil_append, List.cons_append]
  gi_wp2_with fail
  refine wpIn_scope_wide ?_
  gi_wp2_with fail
  refine wpIn_label_wide ?_
  gi_wp2_with fail
  refine ⟨trivial, callsIn_wide.2 ((words_any t _).mono ?_)⟩
  rintro e w1 ⟨rfl, rfl⟩
  gi_wp2_with fail
  generalize hW5 : ((((w.alloc (Obj.cells #[Value.int IntKind.i64 0, Value.int IntKind.i64 0] 25)).alloc (Obj.cells #[Value.slice none 0 0] 23)).alloc (Obj.cells #[Value.int IntKind.i64 0, Value.int IntKind.i64 0] 25)).alloc (Obj.cells #[Value.int IntKind.i64 0] 26)).alloc (Obj.cells #[Value.string t] 9) = w5
  have z5 : w5.heap.size = w.heap.size + 5 := by rw [← hW5]; simp
  have m5 : ∀ E, Mid w.heap.size E [] w w5 := mid0 t w w5 hW5
  have t5 : w5.cell? ⟨w.heap.size + 1 + 1 + 1 + 1, 0, none⟩ = some (.string t) := text0 t w w5 hW5
  have v5 : ErrVars w5 := hv.below ((m5 0).below.mono hv.2.2)
  clear hW5
  refine range_of_call rfl (fun h => by cases h) (gf := 36) (lb := #[.pointer (some ⟨w.heap.size + 1 + 1 + 1 + 1, 0, none⟩)]) rfl trivial (enters_of Tryd.func36 (by kernel_rfl) rfl) ?_
  intro fn hfn rec hrec W1 hW1
  have z1 : W1.heap.size = w.heap.size + 7 := by rw [hW1]; simp [z5]
  have hL1 : W1.heap[w.heap.size + 6]? = some (.loop (rec .ready none)) := by
    have := World.alloc_heap_new (w5.alloc (.deferred (some []))) (.loop (rec .ready none))
    rw [World.size_alloc, z5, ← hW1] at this
    exact this
  have hD1 : W1.heap[w.heap.size + 5]? = some (.deferred (some [])) := by
    rw [hW1, ← z5]
    exact (Below.heap_alloc _ _ _ (by simp)).trans (World.alloc_heap_new w5 _)
  have o1 : Only (fun _ => False) w5 W1 := by rw [hW1]; exact ((Only.refl w5).alloc _).alloc _
  have m1 : ∀ E, Mid w.heap.size E [] w W1 := fun E => (m5 E).only o1 (fun _ hk => hk.elim)
  have t1 : W1.cell? ⟨w.heap.size + 1 + 1 + 1 + 1, 0, none⟩ = some (.string t) := by
    rw [World.cell?_of_block (w := w5) (o1.block _ (by rw [z5]; show w.heap.size + 1 + 1 + 1 + 1 < _; omega) id)]
    exact t5
  have v1 : ErrVars W1 := v5.below (o1.below v5.2.2 (fun _ hk => hk.elim))
  rw [show w5.heap.size + 1 = w.heap.size + 6 by omega, show w5.heap.size = w.heap.size + 5 from z5]
  refine (words1_in 8 (w.heap.size + 6) (w.heap.size + 7) t (w.heap.size + 1 + 1 + 1 + 1) W1 z1.symm t1 v1 (by omega)
    (fun E done W => Mid w.heap.size E done w W ∧ W.heap[w.heap.size + 6]? = some (.loop (rec .ready none)) ∧ W.heap[w.heap.size + 5]? = some (.deferred (some [])))
    (fun done p er W => Out w.heap.size p er w W ∧ W.heap[w.heap.size + 6]? = some (.loop (rec .done (some (.exit 0)))) ∧ W.heap[w.heap.size + 5]? = some (.deferred (some [])))
    ?stable ?good ?bad (fun E => ⟨m1 E, hL1, hD1⟩)).mono ?after
  case stable =>
    rintro E done A A' ⟨hm, hl, hd⟩ ho
    exact ⟨hm.only ho (fun k hk => by omega), (ho.block _ (Array.getElem?_eq_some_iff.1 hl).1 (by omega)).trans hl, (ho.block _ (Array.getElem?_eq_some_iff.1 hd).1 (by omega)).trans hd⟩
  case good =>
    rintro m E done k u n pos Wr hE1 hE2 ⟨hm, hl, hd⟩ hlen hus
    refine yield_of_body hrec hfn hl rfl ?_
    dsimp only [tokV]
    clear hrec hW1 hL1 hD1 o1 m1 t1 v1 m5 t5 v5
    gi_wp2_with fail
    have ll := (Array.getElem?_eq_some_iff.1 hl).1
    refine ⟨(Below.heap_alloc _ _ _ ll).trans hl, ?_⟩
    have tb := (Blk.new Wr 40 (tokC k u n pos)).putObj (l := w.heap.size + 6) (by omega) (.loop (rec .busy none))
    have ob : Only (fun b => b = w.heap.size + 6) Wr ((Wr.alloc (.cells (tokC k u n pos) 40)).putObj (w.heap.size + 6) (.loop (rec .busy none))) := ((Only.refl (X := fun b => b = w.heap.size + 6) Wr).alloc _).putObj (l := w.heap.size + 6) (.inl rfl) _
    have mb := hm.only ob (fun k hk => by omega)
    have bb : ((Wr.alloc (.cells (tokC k u n pos) 40)).putObj (w.heap.size + 6) (.loop (rec .busy none))).heap[w.heap.size + 6]? = some (.loop (rec .busy none)) := World.putObj_heap_same (by rw [World.size_alloc]; omega)
    have db := (ob.block (w.heap.size + 5) (Array.getElem?_eq_some_iff.1 hd).1 (by omega)).trans hd
    have zb : ((Wr.alloc (.cells (tokC k u n pos) 40)).putObj (w.heap.size + 6) (.loop (rec .busy none))).heap.size = Wr.heap.size + 1 := by rw [World.putObj_size, World.size_alloc]
    generalize hWb : (Wr.alloc (.cells (tokC k u n pos) 40)).putObj (w.heap.size + 6) (.loop (rec .busy none)) = Wb at *
    obtain ⟨r0, ⟨v, lb, row⟩, p0, f0, bl⟩ := mb
    have hrow : Wb.ownsRow E 40 5 v done.length (done.flatMap tokCells) := by
      rcases row with ⟨rfl, rfl⟩ | ⟨_, h⟩
      · exact World.ownsRow_nil _ _ _ _
      · exact h
    obtain ⟨x0, x1, x2, x3, x4, y0, y1, y2, y3, y4⟩ := tb.five
    have CL := Lib.hid (sClone_any u Wb (by omega))
    have HRow := Lib.hid hrow
    have hrl : ∀ g, v.ownBlock = some g → E ≤ g ∧ g < Wr.heap.size := by
      intro g hg
      obtain ⟨_, ⟨v2, l2, row2⟩, _, _, _⟩ := hm
      have l3 := l2.only ob (by omega)
      have e2 : v2 = v := by
        have h1 := l3.cell 0; have h2 := lb.cell 0
        rw [h1] at h2
        simpa using h2
      subst e2
      rcases row2 with ⟨_, rfl⟩ | ⟨_, h⟩
      · simp [Value.ownBlock] at hg
      · exact h.lt g hg
    have HRL := Lib.hid hrl
    have HL := Lib.hid lb
    have l0 := lb.cell 0; have l0' := lb.frozen 0
    have h5w := hv.2.2
    clear row hWb hrow hrl r0 p0 f0 bl
    gi_wp2_with fail
    refine ⟨trivial, fun h => (by cases h), CallsIn.inRound _ (callsIn_wide.2 (CL.out.mono ?_))⟩
    rintro e Wc ⟨rfl, hbc⟩
    have tc := tb.below hbc tb.lt
    have lc := lb.below hbc lb.lt
    obtain ⟨x0, x1, x2, x3, x4, y0, y1, y2, y3, y4⟩ := tc.five
    have l0 := lc.cell 0; have l0' := lc.frozen 0
    have zc := hbc.size
    have hrX : ∀ o, ((Wc.setCell ⟨Wr.heap.size, 1, none⟩ (.string u)).alloc o).ownsRow E 40 5 v done.length (done.flatMap tokCells) := fun o => by
      refine World.ownsRow.alloc (ownsRow_block HRow.out (fun g hg => ?_)) o
      have := HRL.out g hg
      exact (Below.heap_setCell _ _ _ _ (by simp; omega)).trans (hbc.block g (by omega))
    have HX := Lib.hid hrX
    obtain ⟨i0, hi, hz0, hz1, hz2⟩ := info_parts tokInfo
    have hq1 : done.length + 1 ≤ maxLen := by unfold maxLen; omega
    have hlx : ∀ o, Blk ((Wc.setCell ⟨Wr.heap.size, 1, none⟩ (.string u)).alloc o) (w.heap.size + 1) 23 #[v] := fun o => (lc.far (p := ⟨Wr.heap.size, 1, none⟩) (by simp; omega) _).alloc o
    have hne1 : some (w.heap.size + 1) ≠ v.ownBlock := fun e => by have := HRL.out _ e.symm; omega
    have HLX := Lib.hid hlx; have HNE := Lib.hid hne1
    clear hlx hne1
    have hcl := cells_five (Wc.setCell ⟨Wr.heap.size, 1, none⟩ (.string u)) (.int .i64 k) (.string u) (.int .i64 n) (.int .i64 pos.1) (.int .i64 pos.2) 40
    rw [show (Wc.setCell ⟨Wr.heap.size, 1, none⟩ (.string u)).heap.size = Wc.heap.size by simp [World.setCell]] at hcl
    have HCL := Lib.hid hcl
    clear hcl
    have hq5 : ∀ o, E ≤ ((Wc.setCell ⟨Wr.heap.size, 1, none⟩ (.string u)).alloc o).heap.size := fun o => by simp [World.setCell]; omega
    have Hbc := Lib.hid hbc; have HTc := Lib.hid tc; have HLc := Lib.hid lc
    clear hrX hbc tb lb tc lc
    gi_wp2_with (first
      | (gi_at_builtin; go_must (refine wpListIn_append_own _ rfl _ _ 23 rfl E 40 i0 _ 5 48 Tryd.underlying23 hi hz0 hz1 hz2 rfl (by decide) _ _ _ rfl (HX.out _) ⟨Wc.heap.size, 0, none⟩ 1 1 [.int .i64 k, .string u, .int .i64 n, .int .i64 pos.1, .int .i64 pos.2] rfl rfl HCL.out (by simp [Value.oneCell']) hq1 (by omega) (hq5 _) ?_); intro v' w1 hown1 hgrow1 _; obtain ⟨g', cap', rfl⟩ := ownsRow_succ hown1; have lw := (HLX.out _).grown hgrow1 HNE.out; have lw0 := lw.cell 0; have lw1 := lw.frozen 0; have G1 := Lib.hid hgrow1; have O1 := Lib.hid hown1; have LW := Lib.hid lw; clear hgrow1 hown1 lw))
    have hO : Only (fun k => k = w.heap.size + 1 ∨ k = w.heap.size + 6 ∨ E ≤ k) Wr (w1.setCell ⟨w.heap.size + 1, 0, none⟩ (.slice (some ⟨g', 0, none⟩) (done.length + 1) cap')) := by
      have a1 : Only (fun k => k = w.heap.size + 1 ∨ k = w.heap.size + 6 ∨ E ≤ k) Wr Wc := (ob.mono (fun k hk => .inr (.inl hk))).trans (Only.of_below Hbc.out)
      have a2 := (a1.setCell (p := ⟨Wr.heap.size, 1, none⟩) (.inr (Nat.le_refl _)) (.string u)).alloc (.cells #[.int .i64 k, .string u, .int .i64 n, .int .i64 pos.1, .int .i64 pos.2] 40)
      have a3 := a2.grown G1.out (fun j hj => .inl (.inr (.inr (HRL.out j hj).1)))
      exact a3.setCell (p := ⟨w.heap.size + 1, 0, none⟩) (.inl (.inl rfl)) _
    have hbusy2 : (w1.setCell ⟨w.heap.size + 1, 0, none⟩ (.slice (some ⟨g', 0, none⟩) (done.length + 1) cap')).heap[w.heap.size + 6]? = some (.loop (rec .busy none)) := by
      refine (Below.heap_setCell _ _ _ _ (by simp)).trans ?_
      refine (G1.out.block _ (by simp [World.setCell]; omega) (fun e => by have := HRL.out _ e.symm; omega)).trans ?_
      refine (Below.heap_alloc _ _ _ (by simp [World.setCell]; omega)).trans ?_
      refine (Below.heap_setCell _ _ _ _ (by simp; omega)).trans ?_
      exact (Hbc.out.block _ (by omega)).trans bb
    refine ⟨hbusy2, rfl, ⟨?_, World.putObj_heap_same (Array.getElem?_eq_some_iff.1 hbusy2).1, ?_⟩, ?_⟩
    · have hO2 := hO.putObj (l := w.heap.size + 6) (.inl (.inr (.inl rfl))) (.loop (rec .ready none))
      obtain ⟨q1, q2, q3, q4, q5⟩ := hm
      have hs0 : w.heap.size ≤ Wr.heap.size := by omega
      refine ⟨q1.only hO2 (by omega), ⟨_, (LW.out.set_ 0 _).putObj (by omega) _, .inr ⟨by omega, ?_⟩⟩, q3.only hO2 (by omega), q4.only hO2 (by omega), q5.trans (hO2.below hs0 (fun j hj => by omega))⟩
      have hr1 := ownsRow_block (w' := (w1.setCell ⟨w.heap.size + 1, 0, none⟩ (.slice (some ⟨g', 0, none⟩) (done.length + 1) cap')).putObj (w.heap.size + 6) (.loop (rec .ready none))) O1.out (fun g hg => by
        have hge := (O1.out.lt g hg).1
        exact (World.putObj_heap_other (by omega)).trans (Below.heap_setCell _ _ _ _ (by simp; omega)))
      rw [List.flatMap_append, List.length_append]
      simp only [List.flatMap_cons, List.flatMap_nil, List.append_nil, List.length_cons, List.length_nil, tokCells, ba_eta]
      exact hr1
    · refine (World.putObj_heap_other (by omega)).trans ((hO.block _ (by omega) (by omega)).trans hd)
    · have hO2 := hO.putObj (l := w.heap.size + 6) (.inl (.inr (.inl rfl))) (.loop (rec .ready none))
      exact ⟨hO2.size, hO2.below (by omega) (fun j hj => by omega), fun j hj1 hj2 => hO2.block j (by omega) (by omega)⟩
  case bad =>
    rintro m E done k u n pos er Wr her hE1 hE2 ⟨hm, hl, hd⟩
    refine yield_of_body hrec hfn hl rfl ?_
    dsimp only [tokV]
    clear hrec hW1 hL1 hD1 o1 m1 t1 v1 m5 t5 v5
    have her1 : (er == 0) = false := by rw [beq_eq_false_iff_ne]; exact her
    clear her
    have mixed : Tryd.prog.follows .mixedOrders = true := by kernel_rfl
    gi_wp2_with fail
    have ll := (Array.getElem?_eq_some_iff.1 hl).1
    refine ⟨(Below.heap_alloc _ _ _ ll).trans hl, ?_⟩
    have tb := (Blk.new Wr 40 (tokC k u n pos)).putObj (l := w.heap.size + 6) (by omega) (.loop (rec .busy none))
    have ob : Only (fun b => b = w.heap.size + 6) Wr ((Wr.alloc (.cells (tokC k u n pos) 40)).putObj (w.heap.size + 6) (.loop (rec .busy none))) := ((Only.refl (X := fun b => b = w.heap.size + 6) Wr).alloc _).putObj (l := w.heap.size + 6) (.inl rfl) _
    have mb := hm.only ob (fun k hk => by omega)
    have bb : ((Wr.alloc (.cells (tokC k u n pos) 40)).putObj (w.heap.size + 6) (.loop (rec .busy none))).heap[w.heap.size + 6]? = some (.loop (rec .busy none)) := World.putObj_heap_same (by rw [World.size_alloc]; omega)
    have db := (ob.block (w.heap.size + 5) (Array.getElem?_eq_some_iff.1 hd).1 (by omega)).trans hd
    generalize hWb : (Wr.alloc (.cells (tokC k u n pos) 40)).putObj (w.heap.size + 6) (.loop (rec .busy none)) = Wb at *
    obtain ⟨r0, ⟨v, lb, row⟩, p0, f0, bl⟩ := mb
    obtain ⟨x0, x1, x2, x3, x4, y0, y1, y2, y3, y4⟩ := tb.five
    have l0 := lb.cell 0; have l0' := lb.frozen 0
    have g0 := p0.cell 0; have g1 := p0.cell 1; have g0' := p0.frozen 0; have g1' := p0.frozen 1
    have j0 := f0.cell 0; have j0' := f0.frozen 0
    have h5w := hv.2.2
    have R0 := Lib.hid r0; have LB := Lib.hid lb; have P0 := Lib.hid p0; have F0 := Lib.hid f0; have BL := Lib.hid bl; have DB := Lib.hid db; have BB := Lib.hid bb
    clear row hWb r0 lb p0 f0 bl tb db bb
    gi_wp2_with fail
    gi_region_with_o (fail)
    all_goals
      gi_step
      gi_step
      gi_step
      have b1 := (((LB.out.set_ 0 (.slice none 0 0)).far (p := ⟨w.heap.size + 1 + 1, 0, none⟩) (by simp) (.int .i64 pos.1)).far (p := ⟨w.heap.size + 1 + 1, 1, none⟩) (by simp) (.int .i64 pos.2)).far (p := ⟨w.heap.size + 1 + 1 + 1, 0, none⟩) (by simp) (.int .i64 er)
      have b2 := (((P0.out.far (p := ⟨w.heap.size + 1, 0, none⟩) (by simp) (.slice none 0 0)).set_ 0 (.int .i64 pos.1)).set_ 1 (.int .i64 pos.2)).far (p := ⟨w.heap.size + 1 + 1 + 1, 0, none⟩) (by simp) (.int .i64 er)
      have b3 := (((F0.out.far (p := ⟨w.heap.size + 1, 0, none⟩) (by simp) (.slice none 0 0)).far (p := ⟨w.heap.size + 1 + 1, 0, none⟩) (by simp) (.int .i64 pos.1)).far (p := ⟨w.heap.size + 1 + 1, 1, none⟩) (by simp) (.int .i64 pos.2)).set_ 0 (.int .i64 er)
      have b0 := (((R0.out.far (p := ⟨w.heap.size + 1, 0, none⟩) (by simp) (.slice none 0 0)).far (p := ⟨w.heap.size + 1 + 1, 0, none⟩) (by simp; omega) (.int .i64 pos.1)).far (p := ⟨w.heap.size + 1 + 1, 1, none⟩) (by simp; omega) (.int .i64 pos.2)).far (p := ⟨w.heap.size + 1 + 1 + 1, 0, none⟩) (by simp; omega) (.int .i64 er)
      have hO := ((((Only.refl (X := fun j => w.heap.size < j ∧ j < w.heap.size + 4) Wb).setCell (p := ⟨w.heap.size + 1, 0, none⟩) (.inl (by simp)) (.slice none 0 0)).setCell (p := ⟨w.heap.size + 1 + 1, 0, none⟩) (.inl (by simp; omega)) (.int .i64 pos.1)).setCell
        (p := ⟨w.heap.size + 1 + 1, 1, none⟩) (.inl (by simp; omega)) (.int .i64 pos.2)).setCell (p := ⟨w.heap.size + 1 + 1 + 1, 0, none⟩) (.inl (by simp; omega)) (.int .i64 er)
      have hbz := (hO.block (w.heap.size + 6) (Array.getElem?_eq_some_iff.1 BB.out).1 (by omega)).trans BB.out
      have hdz := (hO.block (w.heap.size + 5) (Array.getElem?_eq_some_iff.1 DB.out).1 (by omega)).trans DB.out
      have hbl := BL.out.trans (hO.below (n := w.heap.size) (by have := R0.out.lt; omega) (fun j hj => by omega))
      refine not_block (by decide) (not_block (by decide) ?_)
      exact bad_end b0.drew b1.drew b2.drew b3.drew hbl.drew hbz hdz
  case after =>
    rintro e W2 ⟨⟨v0, rfl⟩, h⟩
    refine ⟨⟨v0, rfl⟩, ?_⟩
    have mixed : Tryd.prog.follows .mixedOrders = true := by kernel_rfl
    clear hrec hW1 hL1 hD1 o1 m1 t1 v1 m5 t5 v5
    rcases h with ⟨E, hnone, hm, hl, hd⟩ | ⟨p, er, hsome, ho, hl, hd⟩
    · refine .inl ⟨hl, ?_⟩
      have ll := (Array.getElem?_eq_some_iff.1 hl).1
      have ob := (Only.refl (X := fun b => b = w.heap.size + 6) W2).putObj (l := w.heap.size + 6) (.inl rfl) (.loop (rec .exhausted none))
      have mb := hm.only ob (fun k hk => by omega)
      have db := (ob.block (w.heap.size + 5) (Array.getElem?_eq_some_iff.1 hd).1 (by omega)).trans hd
      generalize hWb : W2.putObj (w.heap.size + 6) (.loop (rec .exhausted none)) = Wb at *
      obtain ⟨r0, ⟨v, lb, row⟩, p0, f0, bl⟩ := mb
      have l0 := lb.cell 0; have l0' := lb.frozen 0
      have g0 := p0.cell 0; have g1 := p0.cell 1; have g0' := p0.frozen 0; have g1' := p0.frozen 1
      have j0 := f0.cell 0; have j0' := f0.frozen 0
      have k0 := r0.cell 0; have k1 := r0.cell 1; have k0' := r0.frozen 0; have k1' := r0.frozen 1
      have R0 := Lib.hid r0; have LB := Lib.hid lb; have P0 := Lib.hid p0; have F0 := Lib.hid f0; have BL := Lib.hid bl; have DB := Lib.hid db; have ROW := Lib.hid row; have HN := Lib.hid hnone
      clear row hWb r0 lb p0 f0 bl db hm hnone ob hl hd
      gi_wp2_with fail
      refine wpIn_wide.2 ?_
      go_region
      gi_wp2_with fail
      have z0 := (R0.out.set_ 0 (.int .i64 0)).set_ 1 (.int .i64 0)
      have hO := ((Only.refl (X := fun j => w.heap.size ≤ j ∧ j < w.heap.size + 9) Wb).setCell (p := ⟨w.heap.size, 0, none⟩) (.inl (by simp)) (.int .i64 0)).setCell (p := ⟨w.heap.size, 1, none⟩) (.inl (by simp)) (.int .i64 0)
      have hdz : ((Wb.setCell ⟨w.heap.size, 0, none⟩ (.int .i64 0)).setCell ⟨w.heap.size, 1, none⟩ (.int .i64 0)).heap[w.heap.size + 5]? = some (.deferred (some [])) := (Below.heap_setCell _ _ _ _ (by simp)).trans ((Below.heap_setCell _ _ _ _ (by simp)).trans DB.out)
      have hO2 := hO.drew.putObj (l := w.heap.size + 5) (.inl (by omega)) (.deferred none)
      have z1 := z0.drew.putObj (l := w.heap.size + 5) (by omega) (.deferred none)
      have zc0 := z1.cell 0; have zc1 := z1.cell 1
      refine ⟨by simp, .inl ⟨_, _, rfl, run_takeDeferred hdz, ?_⟩⟩
      refine ⟨.tuple #[v, .agg #[.int .i64 0, .int .i64 0], .int .i64 0], by simp [results, Tryd.results11, go_sem, zc0, zc1], BL.out.trans (hO2.below (by have := R0.out.lt; omega) (fun j hj => hj.1)), .inl ⟨HN.out, v, rfl, ?_⟩⟩
      rcases ROW.out with ⟨h1, rfl⟩ | ⟨h1, h2⟩
      · rw [h1]; exact World.ownsRow_nil _ _ _ _
      · exact ownsRow_base (ownsRow_only h2 hO2 (fun j hj => by omega)) (by omega)
    · refine .inr ⟨.exit 0, hl, ?_⟩
      have ll := (Array.getElem?_eq_some_iff.1 hl).1
      have ob := (Only.refl (X := fun b => b = w.heap.size + 6) W2).putObj (l := w.heap.size + 6) (.inl rfl) (.loop (rec .exhausted (some (.exit 0))))
      have db := (ob.block (w.heap.size + 5) (Array.getElem?_eq_some_iff.1 hd).1 (by omega)).trans hd
      generalize hWb : W2.putObj (w.heap.size + 6) (.loop (rec .exhausted (some (.exit 0)))) = Wb at *
      obtain ⟨r0, lb, p0, f0, bl⟩ : Out w.heap.size p er w Wb := by
        obtain ⟨q0, q1, q2, q3, q4⟩ := ho
        exact ⟨q0.only ob (by omega), q1.only ob (by omega), q2.only ob (by omega), q3.only ob (by omega), q4.trans (ob.below (by have := q0.lt; omega) (fun j hj => by omega))⟩
      have l0 := lb.cell 0; have l0' := lb.frozen 0
      have g0 := p0.cell 0; have g1 := p0.cell 1; have g0' := p0.frozen 0; have g1' := p0.frozen 1
      have j0 := f0.cell 0; have j0' := f0.frozen 0
      have k0 := r0.cell 0; have k1 := r0.cell 1; have k0' := r0.frozen 0; have k1' := r0.frozen 1
      have R0 := Lib.hid r0; have LB := Lib.hid lb; have P0 := Lib.hid p0; have F0 := Lib.hid f0; have BL := Lib.hid bl; have DB := Lib.hid db; have HN := Lib.hid hsome
      clear hWb r0 lb p0 f0 bl db ho hsome ob hl hd
      gi_wp2_with fail
      refine wpIn_wide.2 ?_
      go_region
      gi_wp2_with fail
      have z0 := (R0.out.set_ 0 (.int .i64 p.1)).set_ 1 (.int .i64 p.2)
      have hO := ((Only.refl (X := fun j => w.heap.size ≤ j ∧ j < w.heap.size + 9) Wb).setCell (p := ⟨w.heap.size, 0, none⟩) (.inl (by simp)) (.int .i64 p.1)).setCell (p := ⟨w.heap.size, 1, none⟩) (.inl (by simp)) (.int .i64 p.2)
      have hdz : ((Wb.setCell ⟨w.heap.size, 0, none⟩ (.int .i64 p.1)).setCell ⟨w.heap.size, 1, none⟩ (.int .i64 p.2)).heap[w.heap.size + 5]? = some (.deferred (some [])) := (Below.heap_setCell _ _ _ _ (by simp)).trans ((Below.heap_setCell _ _ _ _ (by simp)).trans DB.out)
      have hO2 := hO.drew.putObj (l := w.heap.size + 5) (.inl (by omega)) (.deferred none)
      have z1 := z0.drew.putObj (l := w.heap.size + 5) (by omega) (.deferred none)
      have zc0 := z1.cell 0; have zc1 := z1.cell 1
      refine ⟨by simp, .inl ⟨_, _, rfl, run_takeDeferred hdz, ?_⟩⟩
      refine ⟨.tuple #[.slice none 0 0, .agg #[.int .i64 p.1, .int .i64 p.2], .int .i64 er], by simp [results, Tryd.results11, go_sem, zc0, zc1], BL.out.trans (hO2.below (by have := R0.out.lt; omega) (fun j hj => hj.1)), .inr ⟨p, er, HN.out, rfl⟩⟩
end Go.Proofs.YtkkjdmpgjfkenaaDoor

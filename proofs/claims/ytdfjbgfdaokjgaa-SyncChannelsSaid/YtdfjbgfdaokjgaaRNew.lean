/-
  The reference's New.
-/
import Derived.Test.YtdfjbgfdaokjgaaRL10
import Derived.Test.YtdfjbgfdaokjgaaRGrow
namespace Go.Proofs.Ytdfjbgfdaokjgaa
open Go.RowKit

/-- What New tells of numbers: OK, or ErrArg. -/
def newNo (m c : Int) (rs : List Int) : Int := if m < 0 ∨ 64 < m ∨ c < 0 ∨ 64 < c ∨ 64 < rs.length then 2 else if rs.all (inB 1 16) = true then 0 else 2
/-- What New answers. -/
def RNewP (m c : Int) (rs : List Int) (w : World) (e : Ending) (w' : World) : Prop := Below w.heap.size w w' ∧ ((newNo m c rs = 2 ∧ ∃ v, e = .returned (.tuple #[.agg v, .int .i64 2]) ∧ v = #[nilV, nilV, nilV, nilV, nilV]) ∨
  (newNo m c rs = 0 ∧ ∃ z, e = .returned (.tuple #[.agg (hdR z (newS m.toNat c.toNat rs)), .int .i64 0]) ∧ ROut w' w.heap.size z (newS m.toNat c.toNat rs)))
theorem RNewP.bad {m c : Int} {rs : List Int} {w w' : World} (h : newNo m c rs = 2) (hb : Below w.heap.size w w') : RNewP m c rs w (.returned (.tuple #[.agg #[nilV, nilV, nilV, nilV, nilV], .int .i64 2])) w' := ⟨hb, .inl ⟨h, _, rfl, rfl⟩⟩

set_option maxRecDepth 100000 in
set_option maxHeartbeats 1000000 in
theorem rnew_bad (m c : Int) (o : Option Addr) (cc : Nat) (rs : List Int) (w : World) (hbad : m < 0 ∨ 64 < m ∨ c < 0 ∨ 64 < c ∨ 64 < rs.length) :
    Calls Try.prog 13 #[.int .i64 m, .int .i64 c, .slice o rs.length cc] w (RNewP m c rs w) := by
  have HN := Lib.hid (show newNo m c rs = 2 by unfold newNo; rw [if_pos hbad])
  obtain ⟨n, hn⟩ : ∃ n, rs.length = n := ⟨_, rfl⟩
  rw [hn] at hbad ⊢
  clear hn
  rcases Decidable.em (m < 0) with h1 | h1
  · go_enter Try.func13, Try.ntmps13
    go_wp2_with fail
    exact bodyPost_ret (results_c1 rfl rfl ((Blk.new _ _ _).alloc _)) rfl (RNewP.bad HN.out (below_two _ _ _))
  · rcases Decidable.em (64 < m) with h2 | h2
    · go_enter Try.func13, Try.ntmps13
      go_wp2_with fail
      exact bodyPost_ret (results_c1 rfl rfl ((Blk.new _ _ _).alloc _)) rfl (RNewP.bad HN.out (below_two _ _ _))
    · rcases Decidable.em (c < 0) with h3 | h3
      · go_enter Try.func13, Try.ntmps13
        go_wp2_with fail
        exact bodyPost_ret (results_c1 rfl rfl ((Blk.new _ _ _).alloc _)) rfl (RNewP.bad HN.out (below_two _ _ _))
      · rcases Decidable.em (64 < c) with h4 | h4
        · go_enter Try.func13, Try.ntmps13
          go_wp2_with fail
          exact bodyPost_ret (results_c1 rfl rfl ((Blk.new _ _ _).alloc _)) rfl (RNewP.bad HN.out (below_two _ _ _))
        · have h5 : (64 : Int) < (n : Int) := by omega
          go_enter Try.func13, Try.ntmps13
          go_wp2_with fail
          exact bodyPost_ret (results_c1 rfl rfl ((Blk.new _ _ _).alloc _)) rfl (RNewP.bad HN.out (below_two _ _ _))

theorem make_nils {E TS : TypeId} (hTS : Try.prog.underlying TS = some (.slice E)) (hE : (Try.prog.info? E).map (fun i => (i.zero, i.size, i.bytes)) = some (some (.slice none 0 0), 1, 24)) (n : Nat) (hn : n ≤ 1000) (W : World) :
    (Instr.makeSlice TS (.int .i64 (n : Int)) (.int .i64 (n : Int))).run Try.prog W = .ok (.slice (some ⟨W.heap.size, 0, none⟩) n n) (W.alloc (.cells (Array.replicate n nilV) E)) := by
  obtain ⟨i, hi, hz, hs, hb⟩ := info_parts hE
  have hr := run_make (P := Try.prog) W _ _ i _ hTS hi hz .i64 .i64 (n : Int) (n : Int) (by omega) (Int.le_refl _) (by rw [hb]; omega) (by omega)
  have hmade : madeCells (nilV).cells ((n : Int).toNat * i.size) = Array.replicate n nilV := by
    rw [hs]
    apply Array.ext_getElem?
    intro j
    by_cases hj : j < n <;> simp [madeCells, Value.cells, hj, Nat.mod_one]
  rw [hmade] at hr
  simpa using hr
theorem make_zeros (n : Nat) (hn : n ≤ 1000) (W : World) :
    (Instr.makeSlice 22 (.int .i64 (n : Int)) (.int .i64 (n : Int))).run Try.prog W = .ok (.slice (some ⟨W.heap.size, 0, none⟩) n n) (W.alloc (.cells (Array.replicate n (.int .i64 0)) 3)) := by
  obtain ⟨i, hi, hz, hs, hb⟩ := info_parts infoint
  have hr := run_make (P := Try.prog) W _ _ i _ Try.underlying22 hi hz .i64 .i64 (n : Int) (n : Int) (by omega) (Int.le_refl _) (by rw [hb]; omega) (by omega)
  have hmade : madeCells (Value.int .i64 0).cells ((n : Int).toNat * i.size) = Array.replicate n (.int .i64 0) := by
    rw [hs]
    apply Array.ext_getElem?
    intro j
    by_cases hj : j < n <;> simp [madeCells, Value.cells, hj, Nat.mod_one]
  rw [hmade] at hr
  simpa using hr

/-- The first loop: so many owners. -/
structure NR1 (w wr : World) (k : Nat) (o1 : Option Addr) (c1 : Nat) : Prop where
  low : Below w.heap.size w wr
  hb : w.heap.size + 2 ≤ wr.heap.size
  res : Blk wr w.heap.size 33 #[nilV, nilV, nilV, nilV, nilV]
  box : Blk wr (w.heap.size + 1) 33 #[.slice o1 k c1, nilV, nilV, nilV, nilV]
  own : wr.ownsRow (w.heap.size + 2) 3 1 (.slice o1 k c1) k ((List.replicate k (-1)).map (Value.int .i64))

/-- The second loop: so many rooms. -/
structure NR2 (w wr : World) (nm nc : Nat) (o1 : Option Addr) (c1 gc k : Nat) (ks : List Int) (o3 : Option Addr) (c3 : Nat) : Prop where
  low : Below w.heap.size w wr
  res : Blk wr w.heap.size 33 #[nilV, nilV, nilV, nilV, nilV]
  box : Blk wr (w.heap.size + 1) 33 #[.slice o1 nm c1, .slice (some ⟨gc, 0, none⟩) nc nc, .slice o3 k c3, nilV, nilV]
  own1 : wr.ownsRow (w.heap.size + 2) 3 1 (.slice o1 nm c1) nm ((List.replicate nm (-1)).map (Value.int .i64))
  cond : Blk wr gc 22 (Array.replicate nc nilV)
  hgc : w.heap.size + 2 ≤ gc
  own3 : wr.ownsRow (w.heap.size + 2) 3 1 (.slice o3 k c3) k (ks.map (Value.int .i64))
  apart : ∀ b, (Value.slice o1 nm c1).ownBlock = some b → (Value.slice o3 k c3).ownBlock ≠ some b

/-- The region that appends a room: what holds between its operations. -/
structure NI (P : Gp) (rm : Value) (j : Nat) (pa : Addr) (f : Nat → Bool) (E : Nat → Value) (w : World) : Prop where
  low : f 7 = false → Below P.W.heap.size P.W w
  t0 : f 0 = true → E 0 = .pointer (some ⟨P.B, P.fld, none⟩)
  t1 : f 1 = true → E 1 = P.v
  t2 : f 2 = true → E 2 = rm
  t3 : f 3 = true → E 3 = .int .i64 j
  t4 : f 4 = true → E 4 = .pointer (some pa)
  t5 : f 5 = true → E 5 = .int .i64 P.t
  t6 : f 6 = true → f 7 = false → ∃ bs, E 6 = .slice (some ⟨bs, 0, none⟩) 1 1 ∧ Blk w bs P.T #[.int .i64 P.t]
  t7 : f 7 = true → f 9 = false → GR P w (E 7)
  t8 : f 8 = true → E 8 = .pointer (some ⟨P.B, P.fld, none⟩)
  p7 : f 7 = true → f 6 = true
  p1 : f 7 = true → f 1 = true
  p5 : f 9 = true → f 5 = true
  p8 : f 8 = true → f 7 = true
  p9 : f 9 = true → f 8 = true
  fin : f 9 = true → ∃ w1, GR P w1 (E 7) ∧ w = w1.setCell ⟨P.B, P.fld, none⟩ (E 7)
section
variable {P : Gp} {rm : Value} {j : Nat} {pa : Addr} {f : Nat → Bool} {E : Nat → Value} {w w' : World}
theorem NI.start (hf : ∀ j, f j = false) : NI P rm j pa f E P.W.drew :=
  { low := fun _ => (Below.refl _ _).drew, t0 := fun h => no_flag (hf _) h, t1 := fun h => no_flag (hf _) h, t2 := fun h => no_flag (hf _) h, t3 := fun h => no_flag (hf _) h, t4 := fun h => no_flag (hf _) h, t5 := fun h => no_flag (hf _) h, t6 := fun h => no_flag (hf _) h, t7 := fun h => no_flag (hf _) h, t8 := fun h => no_flag (hf _) h, p7 := fun h => no_flag (hf _) h, p1 := fun h => no_flag (hf _) h, p5 := fun h => no_flag (hf _) h, p8 := fun h => no_flag (hf _) h, p9 := fun h => no_flag (hf _) h, fin := fun h => no_flag (hf _) h }
theorem NI.s0 (h : NI P rm j pa f E w) : NI P rm j pa (up f 0 true) (up E 0 (.pointer (some ⟨P.B, P.fld, none⟩))) w := { h with t0 := fun _ => rfl }
theorem NI.s1 (h : NI P rm j pa f E w) : NI P rm j pa (up f 1 true) (up E 1 P.v) w := { h with t1 := fun _ => rfl, p1 := fun _ => rfl }
theorem NI.s2 (h : NI P rm j pa f E w) : NI P rm j pa (up f 2 true) (up E 2 rm) w := { h with t2 := fun _ => rfl }
theorem NI.s3 (h : NI P rm j pa f E w) : NI P rm j pa (up f 3 true) (up E 3 (.int .i64 j)) w := { h with t3 := fun _ => rfl }
theorem NI.s4 (h : NI P rm j pa f E w) : NI P rm j pa (up f 4 true) (up E 4 (.pointer (some pa))) w := { h with t4 := fun _ => rfl }
theorem NI.s5 (h : NI P rm j pa f E w) : NI P rm j pa (up f 5 true) (up E 5 (.int .i64 P.t)) w := { h with t5 := fun _ => rfl, p5 := fun _ => rfl }
theorem NI.s8 (h : NI P rm j pa f E w) (h7 : f 7 = true) : NI P rm j pa (up f 8 true) (up E 8 (.pointer (some ⟨P.B, P.fld, none⟩))) w := { h with t8 := fun _ => rfl, p8 := fun _ => h7, p9 := fun _ => rfl }
theorem NI.n9 (h : NI P rm j pa f E w) (h7 : f 7 = false) : f 9 = false := by
  cases hc : f 9 with
  | false => rfl
  | true => rw [h.p8 (h.p9 hc)] at h7; cases h7
theorem NI.s6 (h : NI P rm j pa f E w) (h6 : f 6 = false) : NI P rm j pa (up f 6 true) (up E 6 (.slice (some ⟨w.heap.size, 0, none⟩) 1 1)) (w.alloc (.cells #[.int .i64 P.t] P.T)) := by
  have h7 : f 7 = false := by
    cases hc : f 7 with
    | false => rfl
    | true => rw [h.p7 hc] at h6; cases h6
  exact { h with low := fun _ => (h.low h7).alloc (h.low h7).size _, t6 := fun _ _ => ⟨_, rfl, Blk.new _ _ _⟩, t7 := fun hx => no_flag h7 hx, p7 := fun _ => rfl, fin := fun hx => no_flag (h.n9 h7) hx }
theorem NI.s7 (h : NI P rm j pa f E w) (h6 : f 6 = true) (h1 : f 1 = true) (h7 : f 7 = false) {v' : Value} (hr : GR P w' v') : NI P rm j pa (up f 7 true) (up E 7 v') w' := by
  have h8 : f 8 = false := by
    cases hc : f 8 with
    | false => rfl
    | true => rw [h.p8 hc] at h7; cases h7
  exact { h with low := fun hx => by simp [up] at hx, t6 := fun _ hx => by simp [up] at hx, t7 := fun _ _ => hr, p7 := fun _ => h6, p1 := fun _ => h1, p8 := fun _ => rfl, fin := fun hx => no_flag (h.n9 h7) hx }
theorem NI.s9 (h : NI P rm j pa f E w) (h7 : f 7 = true) (h8 : f 8 = true) (h5 : f 5 = true) (h9 : f 9 = false) {u : Value} (hu : E 7 = u) : NI P rm j pa (up f 9 true) E (w.setCell ⟨P.B, P.fld, none⟩ u) := by
  subst hu
  exact { h with low := fun hx => no_flag hx h7, t6 := fun _ hx => no_flag hx h7, t7 := fun _ hx => by simp [up] at hx, p5 := fun _ => h5, p9 := fun _ => h8, fin := fun _ => ⟨w, h.t7 h7 h9, rfl⟩ }
end
def Lw9 (b : Nat) : List Nat := [b, b + 1, b + 2, b + 3, b + 4, b + 5, b + 6, b + 7, b + 8]
def NInv (P : Gp) (rm : Value) (j : Nat) (pa : Addr) (b : Nat) (a0 : Act) (l : Array Bool) (a : Act) (w : World) : Prop := Fr (Lw9 b) a0 a ∧ NI P rm j pa (flags l) (sh b (evals a)) w
theorem NInv.step {P : Gp} {rm : Value} {jj : Nat} {pa : Addr} {b : Nat} {a0 a : Act} {l : Array Bool} {w w' : World} (h : NInv P rm jj pa b a0 l a w) (hl : l.size = 10) (hb : b + 9 ≤ a0.tmps.size) {i : Nat} (hi : i < 10) (j : Nat) (hj : j < 9) {v : Value} (hn : NI P rm jj pa (up (flags l) i true) (up (sh b (evals a)) j v) w') :
    NInv P rm jj pa b a0 (l.setIfInBounds i true) (a.put (some (b + j)) v) w' := by
  refine ⟨h.1.put (by unfold Lw9; simp; omega) v, ?_⟩
  rw [flags_set (by omega), evals_put (by rw [h.1.size]; omega), sh_up]
  exact hn

/-- All is made. -/
structure NRX (w wx : World) (nm nc : Nat) (rs : List Int) (z : RLy) : Prop where
  low : Below w.heap.size w wx
  res : Blk wx w.heap.size 33 #[nilV, nilV, nilV, nilV, nilV]
  box : Blk wx (w.heap.size + 1) 33 (hdR z (newS nm nc rs))
  out : ROut wx (w.heap.size + 1) z (newS nm nc rs)
theorem nils_at {w : World} {g n : Nat} {T : TypeId} (h : Blk w g T (Array.replicate n nilV)) : ListsAt w (some ⟨g, 0, none⟩) (List.replicate n []) :=
  ⟨fun _ => ⟨g, 0, rfl⟩, fun g' off he j l hl => by
    injection he with he
    injection he with e1 e2
    subst e1; subst e2
    have hj : j < n := by have := (List.getElem?_eq_some_iff.1 hl).1; simpa using this
    rw [List.getElem?_replicate, if_pos hj] at hl
    injection hl with hl
    subst hl
    refine ⟨none, 0, ?_, by simp, IntsAt.nil _ _⟩
    rw [Nat.zero_add, h.cell j]
    simp [hj]⟩
theorem zeros_at {w : World} {g n : Nat} (h : Blk w g 3 (Array.replicate n (.int .i64 0))) : IntsAt w (some ⟨g, 0, none⟩) (List.replicate n 0) :=
  ⟨fun _ => ⟨g, 0, rfl⟩, fun g' off he j x hx => by
    injection he with he
    injection he with e1 e2
    subst e1; subst e2
    have hj : j < n := by have := (List.getElem?_eq_some_iff.1 hx).1; simpa using this
    rw [List.getElem?_replicate, if_pos hj] at hx
    injection hx with hx
    subst hx
    rw [Nat.zero_add, h.cell j]
    simp [hj]⟩
theorem NR2.done {w wr wx : World} {nm nc : Nat} {o1 : Option Addr} {c1 gc : Nat} {rs : List Int} {o3 : Option Addr} {c3 gs gt n : Nat} (hJ : NR2 w wr nm nc o1 c1 gc n rs o3 c3) (hn : rs.length = n) (ho : Only (fun b => b = w.heap.size + 1) wr wx)
    (hb : Blk wx (w.heap.size + 1) 33 #[.slice o1 nm c1, .slice (some ⟨gc, 0, none⟩) nc nc, .slice o3 n c3, .slice (some ⟨gs, 0, none⟩) n n, .slice (some ⟨gt, 0, none⟩) n n])
    (hs : Blk wx gs 47 (Array.replicate n nilV)) (ht : Blk wx gt 3 (Array.replicate n (.int .i64 0))) (h1 : wr.heap.size ≤ gs) (h2 : wr.heap.size ≤ gt) :
    NRX w wx nm nc rs ⟨o1, c1, some ⟨gc, 0, none⟩, nc, o3, c3, some ⟨gs, 0, none⟩, n, some ⟨gt, 0, none⟩, n⟩ := by
  subst hn
  have hsz := hJ.box.lt
  refine ⟨hJ.low.trans (ho.below (n := w.heap.size) hJ.low.size (fun b hb => by omega)), hJ.res.only ho (by omega), ?_, fun W hO => ?_⟩
  · simpa [hdR, newS] using hb
  · have k : ∀ b, w.heap.size + 2 ≤ b → b < wr.heap.size → W.heap[b]? = wr.heap[b]? := fun b q1 q2 =>
      (hO.block b (by have := ho.size; omega) (by omega)).trans (ho.block b q2 (by omega))
    refine ⟨?_, ?_, ?_, ?_, ?_⟩
    · exact (ints_of_row (ownsRow_block (w' := W) hJ.own1 (fun b hb => k b (hJ.own1.lt b hb).1 (hJ.own1.lt b hb).2))).2
    · have hc : Blk W gc 22 (Array.replicate nc nilV) := (k gc hJ.hgc hJ.cond.lt).trans hJ.cond
      exact nils_at hc
    · have := (ints_of_row (ownsRow_block (w' := W) hJ.own3 (fun b hb => k b (hJ.own3.lt b hb).1 (hJ.own3.lt b hb).2))).2
      have e : (newS nm nc rs).chans.map (·.room) = rs := by simp [newS, Function.comp_def]
      rw [e]
      exact this
    · have e : (newS nm nc rs).chans.map (·.sent) = List.replicate rs.length [] := by simp [newS, Function.comp_def, List.map_const']
      rw [e]
      exact nils_at (hs.only hO (by omega))
    · have e : (newS nm nc rs).chans.map (fun c => (c.taken : Int)) = List.replicate rs.length 0 := by simp [newS, Function.comp_def, List.map_const']
      rw [e]
      exact zeros_at (ht.only hO (by omega))

theorem NR2.doneA {w wr : World} {nm nc : Nat} {o1 : Option Addr} {c1 gc : Nat} {rs : List Int} {o3 : Option Addr} {c3 n : Nat} (hJ : NR2 w wr nm nc o1 c1 gc n rs o3 c3) (hn : rs.length = n) :
    ∃ z, NRX w ((((wr.setCell ⟨w.heap.size + 1, 3, none⟩ (.slice (some ⟨wr.heap.size, 0, none⟩) n n)).setCell ⟨w.heap.size + 1, 4, none⟩ (.slice (some ⟨wr.heap.size + 1, 0, none⟩) n n)).alloc (.cells (Array.replicate n nilV) 47)).alloc (.cells (Array.replicate n (.int .i64 0)) 3)).drew nm nc rs z :=
  ⟨_, hJ.done hn ((((Only.refl wr).setCell (X := fun b => b = w.heap.size + 1) (p := ⟨w.heap.size + 1, 3, none⟩) (.inl rfl) _).setCell (p := ⟨w.heap.size + 1, 4, none⟩) (.inl rfl) _).alloc _ |>.alloc _).drew
    ((((hJ.box.set_ 3 _).set_ 4 _).alloc _).alloc _).drew ((Blk.new' _ _ _ _ (by simp [World.setCell])).alloc _).drew (Blk.new' _ _ _ _ (by simp [World.setCell])).drew (Nat.le_refl _) (by omega)⟩
theorem NR2.doneB {w wr : World} {nm nc : Nat} {o1 : Option Addr} {c1 gc : Nat} {rs : List Int} {o3 : Option Addr} {c3 n : Nat} (hJ : NR2 w wr nm nc o1 c1 gc n rs o3 c3) (hn : rs.length = n) :
    ∃ z, NRX w ((((wr.setCell ⟨w.heap.size + 1, 3, none⟩ (.slice (some ⟨wr.heap.size + 1, 0, none⟩) n n)).setCell ⟨w.heap.size + 1, 4, none⟩ (.slice (some ⟨wr.heap.size, 0, none⟩) n n)).alloc (.cells (Array.replicate n (.int .i64 0)) 3)).alloc (.cells (Array.replicate n nilV) 47)).drew nm nc rs z :=
  ⟨_, hJ.done hn ((((Only.refl wr).setCell (X := fun b => b = w.heap.size + 1) (p := ⟨w.heap.size + 1, 3, none⟩) (.inl rfl) _).setCell (p := ⟨w.heap.size + 1, 4, none⟩) (.inl rfl) _).alloc _ |>.alloc _).drew
    ((((hJ.box.set_ 3 _).set_ 4 _).alloc _).alloc _).drew (Blk.new' _ _ _ _ (by simp [World.setCell])).drew ((Blk.new' _ _ _ _ (by simp [World.setCell])).alloc _).drew (by omega) (Nat.le_refl _)⟩

set_option maxRecDepth 100000 in
set_option maxHeartbeats 4000000 in
theorem rnew_in (nm nc : Nat) (o : Option Addr) (cc : Nat) (rs : List Int) (hnm : nm ≤ 64) (hnc : nc ≤ 64) (hm : rs.length ≤ 64) (w : World) (hr : IntsAt w o rs) :
    Calls Try.prog 13 #[.int .i64 nm, .int .i64 nc, .slice o rs.length cc] w (RNewP nm nc rs w) := by
  have HI := Lib.hid hr
  obtain ⟨n, hn⟩ : ∃ n, rs.length = n := ⟨_, rfl⟩
  have HN := Lib.hid hn
  rw [hn] at hm ⊢
  clear hn hr
  obtain ⟨i0, hi0, hz0, hz1, hz2⟩ := info_parts infoint
  go_enter Try.func13, Try.ntmps13
  have h1 : ¬ (nm : Int) < 0 := by omega
  have h2 : ¬ (64 : Int) < nm := by omega
  have h3 : ¬ (nc : Int) < 0 := by omega
  have h4 : ¬ (64 : Int) < nc := by omega
  have h5 : ¬ (64 : Int) < n := by omega
  have HS : Hid (NR1 w ((w.alloc (.cells #[nilV, nilV, nilV, nilV, nilV] 33)).alloc (.cells #[nilV, nilV, nilV, nilV, nilV] 33)) 0 none 0) := Lib.hid ⟨below_two _ _ _, by simp, (Blk.new _ _ _).alloc _, Blk.new' _ _ _ _ (by simp), World.ownsRow_nil _ _ _ _⟩
  go_wp2_with fail
  go_loopw [9] (fun v wr => ∃ (k : Nat) (o1 : Option Addr) (c1 : Nat), k ≤ nm ∧ v = .int .i64 k ∧ Hid (NR1 w wr k o1 c1)) (fun i _ => nm - (intOf i).toNat)
  case atStart => exact ⟨0, none, 0, by omega, rfl, HS⟩
  case round =>
    obtain ⟨k, o1, c1, hk, rfl, HK⟩ := hrel
    by_cases hlt : k < nm
    · have b0 := HK.out.box.cell 0
      have f0 := HK.out.box.frozen 0
      have H1 := Lib.hid (HK.out.own.alloc (.cells #[.int .i64 (-1)] 3))
      have H2 := Lib.hid (one_cell (wr.alloc (.cells #[.int .i64 (-1)] 3)) wr.heap.size 3 _ (Blk.new wr 3 #[.int .i64 (-1)]))
      have hmx : k + 1 ≤ maxLen := by unfold maxLen; omega
      have hsz := HK.out.hb
      have hH : (wr.alloc (.cells #[.int .i64 (-1)] 3)).heap.size = wr.heap.size + 1 := by simp
      have hne1 : (Value.slice o1 k c1).ownBlock ≠ some (w.heap.size + 1) := fun e => by have := (HK.out.own.lt _ e).1; omega
      have HKK : Hid (∀ w1, (wr.alloc (.cells #[.int .i64 (-1)] 3)).grownBy w1 (Value.slice o1 k c1).ownBlock → Blk w1 (w.heap.size + 1) 33 #[.slice o1 k c1, nilV, nilV, nilV, nilV]) := fun w1 hg => (HK.out.box.alloc _).grown hg (fun e => hne1 e.symm)
      have hbs : w.heap.size + 2 ≤ (wr.alloc (.cells #[.int .i64 (-1)] 3)).heap.size := by simp; omega
      go_wp2_with (at_builtin; go_must (refine wpList_append_lies _ rfl _ _ 22 rfl (w.heap.size + 2) 3 i0 _ 1 8 Try.underlying22 hi0 hz0 hz1 hz2 rfl (by decide) _ _ _ rfl H1.out ⟨wr.heap.size, 0, none⟩ 1 1 [.int .i64 (-1)] rfl rfl H2.out (by simp [Value.oneCell']) (by decide) hmx (by omega) hbs (wr.heap.size + 1) hH ?_); intro g1 cap1 w1 k1 k2 k3 k4; have hkk := HKK.out w1 k2; have q0 := hkk.cell 0; have q1 := hkk.frozen 0; have K1 := Lib.hid k1; have K2 := Lib.hid k2; have K3 := Lib.hid k3; have K5 := Lib.hid hkk; clear hkk k1 k2 k3)
      go_roundw
      case rel =>
        refine ⟨k + 1, some ⟨g1, 0, none⟩, cap1, by omega, by go_num, Lib.hid ?_⟩
        have hg : g1 ≠ w.heap.size + 1 ∧ g1 ≠ w.heap.size := by
          rcases K3.out with h | h
          · have h : (Value.slice o1 k c1).ownBlock = some g1 := h
            have := (HK.out.own.lt _ h).1; omega
          · omega
        have K2' : (wr.alloc (.cells #[.int .i64 (-1)] 3)).grownBy w1 (Value.slice o1 k c1).ownBlock := K2.out
        have hres := (HK.out.res.alloc (.cells #[.int .i64 (-1)] 3)).grown K2' (fun e => by have := (HK.out.own.lt _ e.symm).1; omega)
        have hbx := K5.out.set_ 0 (.slice (some ⟨g1, 0, none⟩) (k + 1) cap1)
        refine ⟨((HK.out.low.alloc HK.out.low.size _).grown K2' (by have := HK.out.low.size; simp; omega) (fun j hj => by have := (HK.out.own.lt _ hj).1; omega)).setCell (p := ⟨w.heap.size + 1, 0, none⟩) (by show w.heap.size ≤ w.heap.size + 1; omega) _, by have := K2'.size; simp [World.setCell] at this ⊢; omega, hres.far (by show w.heap.size ≠ w.heap.size + 1; omega) _, hbx, ?_⟩
        rw [show List.replicate (k + 1) (-1 : Int) = List.replicate k (-1) ++ [-1] from List.replicate_succ', List.map_append]
        exact ownsRow_block K1.out (fun b hb => by
          obtain rfl : g1 = b := by simpa [Value.ownBlock] using hb
          exact Below.heap_setCell _ _ _ _ hg.1)
      case measure => simp [intOf]; omega
    · obtain rfl : k = nm := by omega
      have hmk := make_nils Try.underlying30 infoS nc (by omega)
      have b1 := HK.out.box.cell 1
      have f1 := HK.out.box.frozen 1
      have hsz := HK.out.hb
      have hs9 : w.heap.size + 1 < wr.heap.size := by omega
      have HS2 : Hid (NR2 w ((wr.setCell ⟨w.heap.size + 1, 1, none⟩ (.slice (some ⟨wr.heap.size, 0, none⟩) nc nc)).alloc (.cells (Array.replicate nc nilV) 22)) k nc o1 c1 wr.heap.size 0 [] none 0) := Lib.hid (by
        have hK := HK.out
        refine ⟨(hK.low.setCell (by show w.heap.size ≤ w.heap.size + 1; omega) _).alloc (by have := hK.low.size; simpa [World.setCell] using this) _, (hK.res.far (by show w.heap.size ≠ w.heap.size + 1; omega) _).alloc _, (hK.box.set_ 1 _).alloc _, ?_, Blk.new' _ _ _ _ (by simp [World.setCell]), hsz, World.ownsRow_nil _ _ _ _, fun b _ e => by cases e⟩
        refine ownsRow_block hK.own (fun b hb => ?_)
        have := hK.own.lt b hb
        rw [Below.heap_alloc _ _ _ (by simpa [World.setCell] using this.2)]
        exact Below.heap_setCell _ _ _ _ (by show b ≠ w.heap.size + 1; omega))
      clear HS
      go_wp2_with fail
      clear b1 f1 hmk HK
      go_loopw [10] (fun v wr => ∃ (j gc : Nat) (o3 : Option Addr) (c3 : Nat), j ≤ n ∧ v = .int .i64 j ∧ Hid (NR2 w wr k nc o1 c1 gc j (rs.take j) o3 c3) ∧ Hid ((rs.take j).all (inB 1 16) = true)) (fun i _ => n - (intOf i).toNat)
      case atStart => exact ⟨0, _, none, 0, by omega, rfl, HS2, Lib.hid rfl⟩
      case round =>
        obtain ⟨j, gc, o3, c3, hj, rfl, HJ, HA⟩ := hrel
        by_cases hlj : j < n
        · obtain ⟨x, hx⟩ : ∃ x, rs[j]? = some x := ⟨_, List.getElem?_eq_getElem (by rw [HN.out]; exact hlj)⟩
          obtain ⟨gr, off, rfl⟩ := HI.out.1 (by rw [HN.out]; omega)
          have hcx := cell_keep HJ.out.low (HI.out.2 gr off rfl j x hx)
          have HX := Lib.hid hx
          clear hx
          rcases Decidable.em (x < 1 ∨ 16 < x) with hbad | hgood
          · have HBD : Hid (newNo k nc rs = 2) := Lib.hid (by
              unfold newNo
              rw [if_neg (by rw [HN.out]; omega), if_neg]
              intro hall
              have := List.all_eq_true.1 hall x (List.mem_of_getElem? HX.out)
              simp [inB] at this; omega)
            obtain ⟨y0, y1, y2, y3, y4, f0, f1, f2, f3, f4⟩ := Blk.five HJ.out.res
            rcases Decidable.em (x < 1) with g1 | g1
            · clear hbad
              go_wp2_with fail
              exact bodyPost_ret (results_c1 rfl rfl (fill5_blk HJ.out.res)) rfl (RNewP.bad HBD.out (HJ.out.low.trans ((fill5_only wr w.heap.size nilV nilV nilV nilV nilV).below HJ.out.low.size (fun k hk => by omega))))
            · have g2 : 16 < x := by omega
              clear hbad
              go_wp2_with fail
              exact bodyPost_ret (results_c1 rfl rfl (fill5_blk HJ.out.res)) rfl (RNewP.bad HBD.out (HJ.out.low.trans ((fill5_only wr w.heap.size nilV nilV nilV nilV nilV).below HJ.out.low.size (fun k hk => by omega))))
          · have g1 : ¬ x < 1 := by omega
            have g2 : ¬ 16 < x := by omega
            go_upto_region 14 with (fail)
            have hGb1 : wr.cell? ⟨w.heap.size + 1, 2, none⟩ = some (.slice o3 j c3) := HJ.out.box.cell 2
            have hGf1 : wr.frozen? ⟨w.heap.size + 1, 2, none⟩ = false := HJ.out.box.frozen 2
            have hne1 : (Value.slice o3 j c3).ownBlock ≠ some (w.heap.size + 1) := fun e => by have := (HJ.out.own3.lt _ e).1; omega
            have hne0 : (Value.slice o3 j c3).ownBlock ≠ some w.heap.size := fun e => by have := (HJ.out.own3.lt _ e).1; omega
            have hneC : (Value.slice o3 j c3).ownBlock ≠ some gc := fun e => by
              have := row_type HJ.out.own3 e HJ.out.cond
              exact absurd this (by decide)
            obtain ⟨ls, hls⟩ : ∃ ls, (rs.take j).map (Value.int .i64) = ls := ⟨_, rfl⟩
            have ho3 := HJ.out.own3
            rw [hls] at ho3
            have HO3 := Lib.hid ho3; have HLS := Lib.hid hls
            clear ho3 hls
            have HG1 := Lib.hid hGb1; have HF1 := Lib.hid hGf1; have HCX := Lib.hid hcx
            have hbase : w.heap.size + 2 ≤ wr.heap.size := by have := HJ.out.box.lt; omega
            clear hcx hGb1 hGf1
            generalize hA : Act.mk _ _ = a0
            have hsz0 : 64 + 9 ≤ a0.tmps.size := by subst hA; exact (by decide : 64 + 9 ≤ 82)
            have eB : a0.eval (.tmp 8) = .pointer (some ⟨w.heap.size + 1, 0, none⟩) := by subst hA; rfl
            have eR : a0.eval (.tmp 2) = .slice (some ⟨gr, off, none⟩) n cc := by subst hA; rfl
            have eJ : a0.eval (.tmp 10) = .int .i64 j := by subst hA; rfl
            have hk2 : ¬ n ≤ j := by omega
            refine region_inv (by kernel_rfl) (NInv ⟨3, wr, w.heap.size + 2, w.heap.size + 1, 2, 0, 0, 0, 0, .slice o3 j c3, j, ls, x⟩ (.slice (some ⟨gr, off, none⟩) n cc) j ⟨gr, off + j, none⟩ 64 a0) ?_ ?_ ?_
            · exact ⟨Fr.refl _ _, NI.start (fun j => flags_none _ j)⟩
            · intro l' a w1 i hl hi hI
              have hlt10 : i < 10 := by
                obtain ⟨_, o, hoi, _⟩ := mem_ready.1 hi
                exact (Array.getElem?_eq_some_iff.1 hoi).1
              match i, hlt10, hi with
              | 0, _, hi =>
                have ht := get_of ((hI.1.eval (t := 8) (by decide)).trans eB)
                exact op_value (v := .pointer (some ⟨w.heap.size + 1, 2, none⟩)) rfl rfl (by simp [go_sem, ht, Addr.add]) (hI.step hl hsz0 (by decide) 0 (by decide) hI.2.s0)
              | 1, _, hi =>
                obtain ⟨h0, ha⟩ := ready_of hi rfl hl
                have ht := get_of (show a.eval (.tmp 64) = .pointer (some ⟨w.heap.size + 1, 2, none⟩) from hI.2.t0 (ha { on := 0, ground := .data } (by simp) rfl))
                have h7 : flags l' 7 = false := by
                  cases hc : flags l' 7 with
                  | false => rfl
                  | true => rw [hI.2.p1 hc] at h0; cases h0
                have hc := cell_keep (hI.2.low h7) HG1.out
                exact op_value (v := .slice o3 j c3) rfl rfl (by simp [go_sem, ht, hc]) (hI.step hl hsz0 (by decide) 1 (by decide) hI.2.s1)
              | 2, _, hi =>
                have ht := get_of ((hI.1.eval (t := 2) (by decide)).trans eR)
                exact op_value (v := .slice (some ⟨gr, off, none⟩) n cc) rfl rfl (by simp [go_sem, ht]) (hI.step hl hsz0 (by decide) 2 (by decide) hI.2.s2)
              | 3, _, hi =>
                have ht := get_of ((hI.1.eval (t := 10) (by decide)).trans eJ)
                exact op_value (v := .int .i64 j) rfl rfl (by simp [go_sem, ht]) (hI.step hl hsz0 (by decide) 3 (by decide) hI.2.s3)
              | 4, _, hi =>
                obtain ⟨h0, ha⟩ := ready_of hi rfl hl
                have ht := get_of (show a.eval (.tmp 66) = .slice (some ⟨gr, off, none⟩) n cc from hI.2.t2 (ha { on := 2, ground := .data } (by simp) rfl))
                have hu := get_of (show a.eval (.tmp 67) = .int .i64 j from hI.2.t3 (ha { on := 3, ground := .data } (by simp) rfl))
                exact op_value (v := .pointer (some ⟨gr, off + j, none⟩)) rfl rfl (by simp [go_sem, ht, hu, hk2]) (hI.step hl hsz0 (by decide) 4 (by decide) hI.2.s4)
              | 5, _, hi =>
                obtain ⟨h0, ha⟩ := ready_of hi rfl hl
                have ht := get_of (show a.eval (.tmp 68) = .pointer (some ⟨gr, off + j, none⟩) from hI.2.t4 (ha { on := 4, ground := .data } (by simp) rfl))
                have hc : w1.cell? ⟨gr, off + j, none⟩ = some (.int .i64 x) := by
                  cases h7 : flags l' 7 with
                  | false => exact cell_keep (hI.2.low h7) HCX.out
                  | true =>
                    have h9 : flags l' 9 = false := by
                      cases hc : flags l' 9 with
                      | false => rfl
                      | true => rw [hI.2.p5 hc] at h0; cases h0
                    refine (World.cell?_of_block ((hI.2.t7 h7 h9).only.block gr (World.block_lt_of_cell? _ _ HCX.out) (fun e => ?_))).trans HCX.out
                    have h8 := (HJ.out.own3.lt _ e).1
                    have h9 := World.block_lt_of_cell? w ⟨gr, off + j, none⟩ (HI.out.2 gr off rfl j x HX.out)
                    dsimp only at h9
                    omega
                exact op_value (v := .int .i64 x) rfl rfl (by simp [go_sem, ht, hc]) (hI.step hl hsz0 (by decide) 5 (by decide) hI.2.s5)
              | 6, _, hi =>
                obtain ⟨h0, ha⟩ := ready_of hi rfl hl
                have ht := get_of (show a.eval (.tmp 69) = .int .i64 x from hI.2.t5 (ha { on := 5, ground := .data } (by simp) rfl))
                exact op_value rfl rfl (by simp [go_sem, ht]) (hI.step hl hsz0 (by decide) 6 (by decide) (hI.2.s6 h0))
              | 7, _, hi =>
                obtain ⟨h0, ha⟩ := ready_of hi rfl hl
                have h1' := ha { on := 1, ground := .data } (by simp) rfl
                have h6' := ha { on := 6, ground := .data } (by simp) rfl
                obtain ⟨bs, e6, hbs⟩ := hI.2.t6 h6' h0
                exact append_one' Try.underlying22 infoint rfl rfl rfl rfl (hI.2.t1 h1') HO3.out (hI.2.low h0) e6 hbs (by show j ≤ 1000000; omega) hbase (fun v' w' hr => hI.step hl hsz0 (by decide) 7 (by decide) (hI.2.s7 h6' h1' h0 hr))
              | 8, _, hi =>
                obtain ⟨h0, ha⟩ := ready_of hi rfl hl
                have ht := get_of ((hI.1.eval (t := 8) (by decide)).trans eB)
                exact op_value (v := .pointer (some ⟨w.heap.size + 1, 2, none⟩)) rfl rfl (by simp [go_sem, ht, Addr.add]) (hI.step hl hsz0 (by decide) 8 (by decide) (hI.2.s8 (ha { on := 7, ground := .phase } (by simp) rfl)))
              | 9, _, hi =>
                obtain ⟨h0, ha⟩ := ready_of hi rfl hl
                have q7 := ha { on := 7, ground := .data } (by simp) rfl
                have q8 := ha { on := 8, ground := .data } (by simp) rfl
                have ht := get_of (show a.eval (.tmp 72) = .pointer (some ⟨w.heap.size + 1, 2, none⟩) from hI.2.t8 q8)
                have hgr := hI.2.t7 q7 h0
                obtain ⟨gg, cap, x7, hro, hat⟩ := hgr.own
                have hv := get_of (show a.eval (.tmp 71) = _ from x7)
                have hbk := hgr.only.block (w.heap.size + 1) (World.block_lt_of_cell? _ _ HG1.out) hne1
                have hc : w1.cell? ⟨w.heap.size + 1, 2, none⟩ = some (.slice o3 j c3) := (World.cell?_of_block hbk).trans HG1.out
                have hfr : w1.frozen? ⟨w.heap.size + 1, 2, none⟩ = false := (World.frozen?_of_block hbk).trans HF1.out
                unfold wpOp
                simp [go_sem, ht, hv, Region.wanted, hc, hfr]
                refine .inl ⟨hI.1, ?_⟩
                rw [flags_set (by rw [hl]; decide)]
                exact hI.2.s9 q7 q8 (ha { on := 5, ground := .phase } (by simp) rfl) h0 x7
              | n + 10, hlt4, _ => omega
            · intro l' a w1 hl hr hI
              have hall := ready_all (topo_of (by kernel_rfl)) hr
              have hf : ∀ j, j < 10 → flags l' j = true := fun j hj => by
                have h1 := hall j hj
                have h2 : j < l'.size := by rw [hl]; exact hj
                simpa [flags, Array.getD, h2] using h1
              obtain ⟨w2, hgr, hw1⟩ := hI.2.fin (hf 9 (by omega))
              have hform := hI.1.form (fun t ht => by unfold Lw9 at ht; simp at ht; omega)
              obtain ⟨gg, cap, x7, hro, hat⟩ := hgr.own
              have HGR := Lib.hid hgr; have HRO := Lib.hid hro; have HAT := Lib.hid hat
              have hx7 : a.eval (.tmp 71) = .slice (some ⟨gg, 0, none⟩) (j + 1) cap := x7
              simp only [Lw9, List.foldl_cons, List.foldl_nil] at hform
              rw [show sh 64 (evals a) 7 = .slice (some ⟨gg, 0, none⟩) (j + 1) cap from x7] at hw1 HRO HGR
              generalize a.eval (.tmp 64) = u0 at hform
              generalize a.eval (.tmp (64 + 1)) = u1 at hform
              generalize a.eval (.tmp (64 + 2)) = u2 at hform
              generalize a.eval (.tmp (64 + 3)) = u3 at hform
              generalize a.eval (.tmp (64 + 4)) = u4 at hform
              generalize a.eval (.tmp (64 + 5)) = u5 at hform
              generalize a.eval (.tmp (64 + 6)) = u6 at hform
              generalize a.eval (.tmp (64 + 7)) = u7' at hform
              generalize a.eval (.tmp (64 + 8)) = u8 at hform
              clear hI hx7 x7 hro hat hgr hf hall hr eB eR eJ hsz0
              subst hA
              simp only [Nat.reduceAdd, List.setIfInBounds_toArray, List.set_cons_succ, List.set_cons_zero] at hform
              subst hform
              subst hw1
              clear hl
              go_wp2_with fail
              go_roundw
              case rel =>
                refine ⟨j + 1, gc, some ⟨gg, 0, none⟩, cap, by omega, by go_num, Lib.hid ?_, Lib.hid ?_⟩
                · have hJ := HJ.out
                  have ho := HGR.out.only
                  dsimp only at ho
                  have hsn : rs.take (j + 1) = rs.take j ++ [x] := by rw [List.take_add_one, HX.out]; rfl
                  have hro : w2.ownsRow (w.heap.size + 2) 3 1 (.slice (some ⟨gg, 0, none⟩) (j + 1) cap) (j + 1) (ls ++ [.int .i64 x]) := HRO.out
                  have hat : (Value.slice o3 j c3).ownBlock = some gg ∨ wr.heap.size ≤ gg := HAT.out
                  have hgg : w.heap.size + 2 ≤ gg := by
                    rcases hat with h | h
                    · exact (hJ.own3.lt _ h).1
                    · omega
                  have k1 : ∀ b, (Value.slice o1 k c1).ownBlock = some b → b < wr.heap.size ∧ w.heap.size + 2 ≤ b ∧ (Value.slice o3 j c3).ownBlock ≠ some b := fun b hb => ⟨(hJ.own1.lt b hb).2, (hJ.own1.lt b hb).1, hJ.apart b hb⟩
                  refine ⟨(hJ.low.trans (ho.below (n := w.heap.size) hJ.low.size (fun b hb => by have := (hJ.own3.lt b hb).1; omega))).setCell (p := ⟨w.heap.size + 1, 2, none⟩) (by show w.heap.size ≤ w.heap.size + 1; omega) _,
                    (hJ.res.only ho hne0).far (by show w.heap.size ≠ w.heap.size + 1; omega) _, (hJ.box.only ho hne1).set_ 2 _, ?_, (hJ.cond.only ho hneC).far (by have := hJ.hgc; show gc ≠ w.heap.size + 1; omega) _, hJ.hgc, ?_, ?_⟩
                  · refine ownsRow_block hJ.own1 (fun b hb => ?_)
                    obtain ⟨q1, q2, q3⟩ := k1 b hb
                    rw [Below.heap_setCell _ _ _ _ (by show b ≠ w.heap.size + 1; omega)]
                    exact ho.block b q1 q3
                  · rw [hsn, List.map_append, HLS.out]
                    exact ownsRow_block hro (fun b hb => by
                      obtain rfl : gg = b := by simpa [Value.ownBlock] using hb
                      exact Below.heap_setCell _ _ _ _ (by show gg ≠ w.heap.size + 1; omega))
                  · intro b hb hb2
                    obtain rfl : gg = b := by simpa [Value.ownBlock] using hb2
                    obtain ⟨q1, q2, q3⟩ := k1 gg hb
                    rcases hat with h | h
                    · exact q3 h
                    · omega
                · rw [show rs.take (j + 1) = rs.take j ++ [x] by rw [List.take_add_one, HX.out]; rfl, List.all_append, HA.out]
                  simp [inB]; omega
              case measure => simp [intOf]; omega
        · obtain rfl : j = n := by omega
          have hmk1 := make_nils Try.underlying31 infoS64 j (by omega)
          have hmk2 := make_zeros j (by omega)
          obtain ⟨b0, b1, b2, b3, b4, q0, q1, q2, q3, q4⟩ := Blk.five HJ.out.box
          have hsJ := HJ.out.box.lt
          have hsJ1 : w.heap.size < wr.heap.size := by omega
          have hsJ2 : w.heap.size + 1 < wr.heap.size + 1 := by omega
          have HOK : Hid (newNo k nc rs = 0) := Lib.hid (by
            have hA := HA.out
            rw [show rs.take j = rs by rw [← HN.out]; exact List.take_length] at hA
            unfold newNo
            rw [if_neg (by rw [HN.out]; omega), if_pos hA])
          have HJ2 : Hid (NR2 w wr k nc o1 c1 gc j rs o3 c3) := Lib.hid (by
            have := HJ.out
            rwa [show rs.take j = rs by rw [← HN.out]; exact List.take_length] at this)
          clear HJ HA
          go_wp2_with fail
          go_cut [] from 73 to 81 (fun wx => ∃ z, Hid (NRX w wx k nc rs z))
          case first =>
            go_region
            all_goals
              go_wp2_with fail
              go_meet
              first
                | exact HJ2.out.doneA HN.out
                | exact HJ2.out.doneB HN.out
          case rest =>
            obtain ⟨z, HX⟩ := hcut
            have HX2 : Hid (Blk wc (w.heap.size + 1) 33 #[.slice z.o1 (newS k nc rs).owners.length z.c1, .slice z.o2 (newS k nc rs).conds.length z.c2, .slice z.o3 (newS k nc rs).chans.length z.c3, .slice z.o4 (newS k nc rs).chans.length z.c4, .slice z.o5 (newS k nc rs).chans.length z.c5]) := HX.out.box
            clear b0 b1 b2 b3 b4 q0 q1 q2 q3 q4
            obtain ⟨n1, hn1⟩ : ∃ n, (newS k nc rs).owners.length = n := ⟨_, rfl⟩
            obtain ⟨n2, hn2⟩ : ∃ n, (newS k nc rs).conds.length = n := ⟨_, rfl⟩
            obtain ⟨n3, hn3⟩ : ∃ n, (newS k nc rs).chans.length = n := ⟨_, rfl⟩
            rw [hn1, hn2, hn3] at HX2
            have E1 := Lib.hid hn1; have E2 := Lib.hid hn2; have E3 := Lib.hid hn3
            clear hn1 hn2 hn3
            obtain ⟨b0, b1, b2, b3, b4, -⟩ := Blk.five HX2.out
            obtain ⟨y0, y1, y2, y3, y4, f0, f1, f2, f3, f4⟩ := Blk.five HX.out.res
            have hXl := HX.out.low
            go_wp2_with fail
            refine bodyPost_ret (results_c1 rfl rfl (fill5_blk HX.out.res)) rfl ⟨HX.out.low.trans ((fill5_only wc w.heap.size (.slice z.o1 n1 z.c1) (.slice z.o2 n2 z.c2) (.slice z.o3 n3 z.c3) (.slice z.o4 n3 z.c4) (.slice z.o5 n3 z.c5)).below HX.out.low.size (fun k hk => by omega)), .inr ⟨HOK.out, z, ?_, ?_⟩⟩
            · show _ = Ending.returned (.tuple #[.agg (hdR z (newS k nc rs)), .int .i64 0])
              simp only [hdR, E1.out, E2.out, E3.out]
              rfl
            · exact (HX.out.out.only (fill5_only wc w.heap.size (.slice z.o1 n1 z.c1) (.slice z.o2 n2 z.c2) (.slice z.o3 n3 z.c3) (.slice z.o4 n3 z.c4) (.slice z.o5 n3 z.c5)) (fun b hb => by omega)).mono (by omega)

theorem RNew_any (m c : Int) (o : Option Addr) (cc : Nat) (rs : List Int) (w : World) (hr : IntsAt w o rs) :
    Calls Try.prog 13 #[.int .i64 m, .int .i64 c, .slice o rs.length cc] w (RNewP m c rs w) := by
  by_cases h : m < 0 ∨ 64 < m ∨ c < 0 ∨ 64 < c ∨ 64 < rs.length
  · exact rnew_bad m c o cc rs w h
  · obtain ⟨nm, rfl⟩ : ∃ k : Nat, m = k := ⟨m.toNat, by omega⟩
    obtain ⟨nc, rfl⟩ : ∃ k : Nat, c = k := ⟨c.toNat, by omega⟩
    exact rnew_in nm nc o cc rs (by omega) (by omega) (by omega) w hr
end Go.Proofs.Ytdfjbgfdaokjgaa

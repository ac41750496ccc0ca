/-
  New.
-/
import Derived.Test.YtdfjbgfdaokjgaaWait
import Derived.Test.YtdfjbgfdaokjgaaRepeat
namespace Go.Proofs.Ytdfjbgfdaokjgaa
open Go.RowKit

/-- A new state. -/
def newS (nm nc : Nat) (rs : List Int) : SM := ⟨List.replicate nm (-1), List.replicate nc [], rs.map (fun r => ⟨r, [], 0⟩)⟩
/-- Numbers as a slice has them. -/
def IntsAt (w : World) (o : Option Addr) (zs : List Int) : Prop := (0 < zs.length → ∃ g off, o = some ⟨g, off, none⟩) ∧ ∀ g off, o = some ⟨g, off, none⟩ → ∀ (j : Nat) (z : Int), zs[j]? = some z → w.cell? ⟨g, off + j, none⟩ = some (.int .i64 z)
theorem IntsAt.below {w w' : World} {o : Option Addr} {zs : List Int} (h : IntsAt w o zs) (hb : Below w.heap.size w w') : IntsAt w' o zs :=
  ⟨h.1, fun g off he j z hz => (hb.cell (p := ⟨g, off + j, none⟩) (World.block_lt_of_cell? w _ (h.2 g off he j z hz))).trans (h.2 g off he j z hz)⟩
theorem within_ints (lo hi : Int) (o : Option Addr) (c : Nat) (zs : List Int) (hm : zs.length ≤ 1000000) (w : World) (h : IntsAt w o zs) :
    Calls Try.prog 34 #[.int .i64 lo, .int .i64 hi, .slice o zs.length c] w fun e w' => e = .returned (.bool (zs.all (inB lo hi))) ∧ w = w' := by
  by_cases h0 : 0 < zs.length
  · obtain ⟨g, off, he⟩ := h.1 h0
    exact within_any lo hi o zs.length c g off zs w rfl hm (fun _ => he) (h.2 g off he)
  · exact within_any lo hi o zs.length c 0 0 zs w rfl hm (fun h => absurd h h0) (fun j z hz => by
      have := (List.getElem?_eq_some_iff.1 hz).1; omega)

theorem within_three (lo hi x y z : Int) (B : Nat) (W : World) (hb : Blk W B 3 #[.int .i64 x, .int .i64 y, .int .i64 z]) :
    Calls Try.prog 34 #[.int .i64 lo, .int .i64 hi, .slice (some ⟨B, 0, none⟩) 3 3] W fun e w' => e = .returned (.bool ([x, y, z].all (inB lo hi))) ∧ W = w' :=
  within_any lo hi (some ⟨B, 0, none⟩) 3 3 B 0 [x, y, z] W rfl (by omega) (fun _ => rfl) (fun j u hu => by
    rw [Nat.zero_add, hb.cell j]
    match j, hu with
    | 0, hu => simp at hu; subst hu; rfl
    | 1, hu => simp at hu; subst hu; rfl
    | 2, hu => simp at hu; subst hu; rfl)
theorem infoCond : (Try.prog.info? 97).map (fun i => (i.zero, i.size, i.bytes)) = some (some (.agg #[.slice none 0 0]), 1, 24) := by kernel_rfl
theorem infoChan : (Try.prog.info? 82).map (fun i => (i.zero, i.size, i.bytes)) = some (some (.agg #[.slice none 0 0, .int .i64 0, .int .i64 0]), 3, 40) := by kernel_rfl
theorem make_cond (n : Nat) (hn : n ≤ 1000) (W : World) : (Instr.makeSlice 73 (.int .i64 (n : Int)) (.int .i64 (n : Int))).run Try.prog W = .ok (.slice (some ⟨W.heap.size, 0, none⟩) n n) (W.alloc (.cells (Array.replicate n (.slice none 0 0)) 97)) := by
  obtain ⟨i, hi, hz, hs, hb⟩ := info_parts infoCond
  have hr := run_make (P := Try.prog) W _ _ i _ Try.underlying73 hi hz .i64 .i64 (n : Int) (n : Int) (by omega) (Int.le_refl _) (by rw [hb]; omega) (by omega)
  have hmade : madeCells (Value.agg #[.slice none 0 0]).cells ((n : Int).toNat * i.size) = Array.replicate n (.slice none 0 0) := by
    rw [hs]
    apply Array.ext_getElem?
    intro j
    by_cases hj : j < n <;> simp [madeCells, Value.cells, hj, Nat.mod_one]
  rw [hmade] at hr
  simpa using hr

/-- The object is made; its channels are still to come. -/
structure Made (w wc : World) (p go gc nm nc : Nat) : Prop where
  below : Below w.heap.size w wc
  head : Blk wc p 78 #[.bool true, .slice (some ⟨go, 0, none⟩) nm nm, .slice (some ⟨gc, 0, none⟩) nc nc, .slice none 0 0]
  own : wc.heap[go]? = some (.cells (rep nm 0 (-1)).toArray 3 (0, 0))
  cond : Blk wc gc 97 (Array.replicate nc (.slice none 0 0))
  h1 : w.heap.size ≤ p
  h2 : w.heap.size ≤ go
  h3 : w.heap.size ≤ gc
  h4 : p ≠ go
  h5 : p ≠ gc
  h6 : go ≠ gc

section
variable {w w0 w3 : World} {nm nc : Nat} {A : Obj}
theorem Made.one (hb : Below w.heap.size w w0) (hg : w3.heap[(w0.alloc A).drew.heap.size]? = some (.cells (rep nm 0 (-1)).toArray 3 (0, 0))) (h3 : Below (w0.alloc A).drew.heap.size (w0.alloc A).drew w3) :
    Made w ((w3.alloc (.cells (Array.replicate nc (.slice none 0 0)) 97)).alloc (.cells #[.bool true, .slice (some ⟨w0.heap.size + 1, 0, none⟩) nm nm, .slice (some ⟨w3.heap.size, 0, none⟩) nc nc, .slice none 0 0] 78)) (w3.heap.size + 1) (w0.heap.size + 1) w3.heap.size nm nc := by
  have hg' : Blk w3 (w0.heap.size + 1) 3 (rep nm 0 (-1)).toArray := by
    have : (w0.alloc A).drew.heap.size = w0.heap.size + 1 := by simp [World.drew]
    rwa [this] at hg
  have z := hg'.lt; have z0 := hb.size
  refine ⟨?_, Blk.new' _ _ _ _ (by simp), (hg'.alloc _).alloc _, (Blk.new w3 _ _).alloc _, by omega, by omega, by omega, by omega, by omega, by omega⟩
  exact ((below_step_drew hb h3).alloc (by omega) _).alloc (by simp; omega) _
theorem Made.two (hb : Below w.heap.size w w0) (hg : w3.heap[((w0.alloc A).alloc (.cells (Array.replicate nc (.slice none 0 0)) 97)).drew.heap.size]? = some (.cells (rep nm 0 (-1)).toArray 3 (0, 0)))
    (h3 : Below ((w0.alloc A).alloc (.cells (Array.replicate nc (.slice none 0 0)) 97)).drew.heap.size ((w0.alloc A).alloc (.cells (Array.replicate nc (.slice none 0 0)) 97)).drew w3) :
    Made w (w3.alloc (.cells #[.bool true, .slice (some ⟨w0.heap.size + 1 + 1, 0, none⟩) nm nm, .slice (some ⟨w0.heap.size + 1, 0, none⟩) nc nc, .slice none 0 0] 78)) w3.heap.size (w0.heap.size + 1 + 1) (w0.heap.size + 1) nm nc := by
  have hg' : Blk w3 (w0.heap.size + 1 + 1) 3 (rep nm 0 (-1)).toArray := by
    have : ((w0.alloc A).alloc (.cells (Array.replicate nc (.slice none 0 0)) 97)).drew.heap.size = w0.heap.size + 1 + 1 := by simp [World.drew]
    rwa [this] at hg
  have hc := (Blk.drew (Blk.new' (w0.alloc A) 97 (Array.replicate nc (.slice none 0 0)) (w0.heap.size + 1) (by simp))).below h3 (by simp [World.drew])
  have z := hg'.lt; have z0 := hb.size
  exact ⟨(below_step_drew (hb.alloc z0 _) h3).alloc (by omega) _, Blk.new w3 _ _, hg'.alloc _, hc.alloc _, by omega, by omega, by omega, by omega, by omega, by omega⟩
theorem Made.three (hb : Below w.heap.size w w0) (hg : w3.heap[((w0.alloc (.cells (Array.replicate nc (.slice none 0 0)) 97)).alloc A).drew.heap.size]? = some (.cells (rep nm 0 (-1)).toArray 3 (0, 0)))
    (h3 : Below ((w0.alloc (.cells (Array.replicate nc (.slice none 0 0)) 97)).alloc A).drew.heap.size ((w0.alloc (.cells (Array.replicate nc (.slice none 0 0)) 97)).alloc A).drew w3) :
    Made w (w3.alloc (.cells #[.bool true, .slice (some ⟨w0.heap.size + 1 + 1, 0, none⟩) nm nm, .slice (some ⟨w0.heap.size, 0, none⟩) nc nc, .slice none 0 0] 78)) w3.heap.size (w0.heap.size + 1 + 1) w0.heap.size nm nc := by
  have hg' : Blk w3 (w0.heap.size + 1 + 1) 3 (rep nm 0 (-1)).toArray := by
    have : ((w0.alloc (.cells (Array.replicate nc (.slice none 0 0)) 97)).alloc A).drew.heap.size = w0.heap.size + 1 + 1 := by simp [World.drew]
    rwa [this] at hg
  have hc := (Blk.drew ((Blk.new w0 97 (Array.replicate nc (.slice none 0 0))).alloc A)).below h3 (by simp [World.drew]; omega)
  have z := hg'.lt; have z0 := hb.size
  exact ⟨(below_step_drew (hb.alloc z0 _) h3).alloc (by omega) _, Blk.new w3 _ _, hg'.alloc _, hc.alloc _, by omega, by omega, by omega, by omega, by omega, by omega⟩
end

set_option maxRecDepth 100000 in
set_option maxHeartbeats 2000000 in
theorem new_bad (m c : Int) (o : Option Addr) (cc : Nat) (rs : List Int) (hm : rs.length ≤ 1000000) (w : World) (hr : IntsAt w o rs) (hbad : ([m, c, (rs.length : Int)].all (inB 0 64) && rs.all (inB 1 16)) = false) :
    Calls Try.prog 12 #[.int .i64 m, .int .i64 c, .slice o rs.length cc] w fun e w' => e = .returned (.tuple #[.pointer none, .int .i64 2]) ∧ Below w.heap.size w w' := by
  have HI := Lib.hid (hr.below ((Below.refl w.heap.size w).alloc (Nat.le_refl _) (.cells #[.int .i64 m, .int .i64 c, .int .i64 (rs.length : Nat)] 3)))
  have HW := Lib.hid (fun W hb => within_three 0 64 m c (rs.length : Nat) w.heap.size W hb)
  have HB := Lib.hid (Blk.new w 3 #[.int .i64 m, .int .i64 c, .int .i64 (rs.length : Nat)])
  have HIn := Lib.hid (fun W h => within_ints 1 16 o cc rs hm W h)
  obtain ⟨r1, hr1⟩ : ∃ r, [m, c, (rs.length : Int)].all (inB 0 64) = r := ⟨_, rfl⟩
  obtain ⟨r2, hr2⟩ : ∃ r, rs.all (inB 1 16) = r := ⟨_, rfl⟩
  rw [hr1, hr2] at hbad
  rw [hr1] at HW
  rw [hr2] at HIn
  clear hr hr1 hr2
  cases r1
  · go_enter Try.func12, Try.ntmps12
    go_wp2_with fail
    refine (HW.out _ HB.out).mono ?_
    rintro e w1 ⟨rfl, rfl⟩
    go_wp2_with fail
    go_ret2
    exact ⟨rfl, (Below.refl _ _).alloc (Nat.le_refl _) _⟩
  · obtain rfl : r2 = false := by simpa using hbad
    clear hbad
    go_enter Try.func12, Try.ntmps12
    go_wp2_with fail
    refine (HW.out _ HB.out).mono ?_
    rintro e w1 ⟨rfl, rfl⟩
    go_wp2_with fail
    refine (HIn.out _ HI.out).mono ?_
    rintro e w1 ⟨rfl, rfl⟩
    go_wp2_with fail
    go_ret2
    exact ⟨rfl, (Below.refl _ _).alloc (Nat.le_refl _) _⟩

def chNew (rs : List Int) : List Value := rs.flatMap fun r => [.slice none 0 0, .int .i64 r, .int .i64 0]
theorem chNew_len (rs : List Int) : (chNew rs).length = rs.length * 3 := by
  induction rs with
  | nil => rfl
  | cons r rs ih => simp [chNew] at ih ⊢; omega
theorem chNew_snoc (rs : List Int) (r : Int) : chNew (rs ++ [r]) = chNew rs ++ [.slice none 0 0, .int .i64 r, .int .i64 0] := by simp [chNew]
theorem chanCells_new : ∀ (rs : List Int), chanCells (List.replicate rs.length (.slice none 0 0)) (rs.map (fun r => ⟨r, [], 0⟩)) = chNew rs
  | [] => rfl
  | r :: rs => by
    have := chanCells_new rs
    simp [List.replicate_succ, chanCells, chNew] at this ⊢
    exact this

/-- The object, so many of its channels made. -/
structure NewK (w wc : World) (p go gc nm nc : Nat) (ks : List Int) : Prop where
  below : Below w.heap.size w wc
  own : wc.heap[go]? = some (.cells (rep nm 0 (-1)).toArray 3 (0, 0))
  cond : Blk wc gc 97 (Array.replicate nc (.slice none 0 0))
  chan : ∃ o c, Blk wc p 78 #[.bool true, .slice (some ⟨go, 0, none⟩) nm nm, .slice (some ⟨gc, 0, none⟩) nc nc, .slice o ks.length c] ∧
    wc.ownsRow w.heap.size 82 3 (.slice o ks.length c) ks.length (chNew ks) ∧ (Value.slice o ks.length c).ownBlock ≠ some p ∧ (Value.slice o ks.length c).ownBlock ≠ some go ∧ (Value.slice o ks.length c).ownBlock ≠ some gc
  h1 : w.heap.size ≤ p
  h2 : w.heap.size ≤ go
  h3 : w.heap.size ≤ gc
  h4 : p ≠ go
  h5 : p ≠ gc
  h6 : go ≠ gc
theorem Made.newK {w wc : World} {p go gc nm nc : Nat} (h : Made w wc p go gc nm nc) : NewK w wc p go gc nm nc [] :=
  ⟨h.below, h.own, h.cond, ⟨none, 0, h.head, World.ownsRow_nil _ _ _ _, by simp [Value.ownBlock], by simp [Value.ownBlock], by simp [Value.ownBlock]⟩, h.h1, h.h2, h.h3, h.h4, h.h5, h.h6⟩
theorem three_cells (w : World) (B : Nat) (t : TypeId) (a b c : Value) (h : Blk w B t #[a, b, c]) : ∀ j v, [a, b, c][j]? = some v → w.cell? ((⟨B, 0, none⟩ : Addr).add j) = some v := by
  intro j v hj
  rw [Addr.add_lit, Nat.zero_add, h.cell j]
  match j, hj with
  | 0, hj => simp at hj; subst hj; rfl
  | 1, hj => simp at hj; subst hj; rfl
  | 2, hj => simp at hj; subst hj; rfl
theorem rows_nils {y : Ly} {nm nc : Nat} {rs : List Int} (hcv : y.cv = List.replicate nc (.slice none 0 0)) (hhv : y.hv = List.replicate rs.length (.slice none 0 0)) (i : Nat) (r : Rw)
    (h : (rowsOf y (newS nm nc rs))[i + 1 + 1 + 1]? = some r) : r.v = .slice none 0 0 ∧ r.n = 0 ∧ r.xs = [] := by
  unfold rowsOf at h
  rw [List.getElem?_cons_succ, List.getElem?_cons_succ, List.getElem?_cons_succ] at h
  have hm := List.mem_of_getElem? h
  rcases List.mem_append.1 hm with hm | hm
  · obtain ⟨j, hj⟩ := List.mem_iff_getElem?.1 hm
    rw [condRws, List.getElem?_zipWith, hcv] at hj
    simp only [newS, List.getElem?_replicate] at hj
    by_cases hjl : j < nc <;> simp [hjl] at hj
    subst hj; exact ⟨rfl, rfl, rfl⟩
  · obtain ⟨j, hj⟩ := List.mem_iff_getElem?.1 hm
    rw [chanRws, List.getElem?_zipWith, hhv] at hj
    simp only [newS, List.getElem?_replicate, List.getElem?_map] at hj
    by_cases hjl : j < rs.length
    · simp [hjl, Cn.rest] at hj
      subst hj; exact ⟨rfl, rfl, rfl⟩
    · simp [hjl] at hj
theorem NewK.sync {w wc : World} {p go gc nm nc : Nat} {rs : List Int} (h : NewK w wc p go gc nm nc rs) (hnm : nm ≤ 64) (hnc : nc ≤ 64) : ∃ y, SyncAt wc w.heap.size p (newS nm nc rs) y := by
  obtain ⟨o, c, hh, hr, n1, n2, n3⟩ := h.chan
  have e1 : (newS nm nc rs).owners.length = nm := by simp [newS]
  have e2 : (newS nm nc rs).conds.length = nc := by simp [newS]
  have e3 : (newS nm nc rs).chans.length = rs.length := by simp [newS]
  let y : Ly := ⟨some ⟨go, 0, none⟩, nm, some ⟨gc, 0, none⟩, nc, o, c, List.replicate nc (.slice none 0 0), List.replicate rs.length (.slice none 0 0)⟩
  have r0 : wc.ownsRow w.heap.size 3 1 (.slice (some ⟨go, 0, none⟩) nm nm) nm (List.map (Value.int .i64) (List.replicate nm (-1))) := by
    have := blk_row (base := w.heap.size) h.own h.h2 (n := nm) (by simp [rep]) (by omega)
    simpa [rep] using this
  have r1 : wc.ownsRow w.heap.size 97 1 (.slice (some ⟨gc, 0, none⟩) nc nc) nc (List.replicate nc (.slice none 0 0)) := by
    refine blk_row ?_ h.h3 (by simp) (by omega)
    have := h.cond
    unfold Blk at this
    simpa using this
  have rr : ∀ (i : Nat) (r : Rw), (rowsOf y (newS nm nc rs))[i]? = some r → wc.ownsRow w.heap.size r.e r.k r.v r.n r.xs := fun i r hi => by
    match i, hi with
    | 0, hi => simp [rowsOf, rowO] at hi; subst hi; simp only [e1]; exact r0
    | 1, hi => simp [rowsOf, rowC] at hi; subst hi; simp only [e2]; exact r1
    | 2, hi =>
      simp [rowsOf, rowH] at hi; subst hi; simp only [e3]
      have : chanCells y.hv (newS nm nc rs).chans = chNew rs := chanCells_new rs
      rw [this]; exact hr
    | i + 3, hi =>
      obtain ⟨q1, q2, q3⟩ := rows_nils rfl rfl i r hi
      rw [q1, q2, q3]; exact World.ownsRow_nil _ _ _ _
  have rb : ∀ (i : Nat) (r : Rw) (b : Nat), (rowsOf y (newS nm nc rs))[i]? = some r → r.v.ownBlock = some b → (i = 0 ∧ b = go) ∨ (i = 1 ∧ b = gc) ∨ (i = 2 ∧ (Value.slice o rs.length c).ownBlock = some b) := fun i r b hi hb => by
    match i, hi with
    | 0, hi => simp [rowsOf, rowO] at hi; subst hi; simp [y, Value.ownBlock] at hb; exact .inl ⟨rfl, hb.symm⟩
    | 1, hi => simp [rowsOf, rowC] at hi; subst hi; simp [y, Value.ownBlock] at hb; exact .inr (.inl ⟨rfl, hb.symm⟩)
    | 2, hi => simp [rowsOf, rowH] at hi; subst hi; simp only [e3] at hb; exact .inr (.inr ⟨rfl, hb⟩)
    | i + 3, hi =>
      obtain ⟨q1, _, _⟩ := rows_nils rfl rfl i r hi
      rw [q1] at hb; cases hb
  refine ⟨y, ?_, ⟨rr, fun i j r s hi hj hij b hb hsb => ?_⟩, by simp [y, e2], by simp [y, e3], h.h1, ?_⟩
  · simp only [headC, hdC, e1, e2, e3]; exact hh
  · rcases rb i r b hi hb with ⟨rfl, rfl⟩ | ⟨rfl, rfl⟩ | ⟨rfl, h1⟩ <;> rcases rb j s _ hj hsb with ⟨rfl, h2⟩ | ⟨rfl, h2⟩ | ⟨rfl, h2⟩
    · exact hij rfl
    · exact h.h6 h2
    · exact n2 h2
    · exact h.h6 h2.symm
    · exact hij rfl
    · exact n3 h2
    · subst h2; exact n2 h1
    · subst h2; exact n3 h1
    · exact hij rfl
  · rintro ⟨i, r, hi, hb⟩
    rcases rb i r p hi hb with ⟨_, h1⟩ | ⟨_, h1⟩ | ⟨_, h1⟩
    · exact h.h4 h1
    · exact h.h5 h1
    · exact n1 h1

set_option maxRecDepth 100000 in
set_option maxHeartbeats 4000000 in
theorem new_ok (nm nc : Nat) (o : Option Addr) (cc : Nat) (rs : List Int) (hnm : nm ≤ 64) (hnc : nc ≤ 64) (hm : rs.length ≤ 64) (w : World) (hr : IntsAt w o rs) (hrs : rs.all (inB 1 16) = true) :
    Calls Try.prog 12 #[.int .i64 nm, .int .i64 nc, .slice o rs.length cc] w fun e w' => ∃ p y, e = .returned (.tuple #[.pointer (some ⟨p, 0, none⟩), .int .i64 0]) ∧ SyncAt w' w.heap.size p (newS nm nc rs) y ∧ Below w.heap.size w w' := by
  have HI := Lib.hid (hr.below ((Below.refl w.heap.size w).alloc (Nat.le_refl _) (.cells #[.int .i64 nm, .int .i64 nc, .int .i64 (rs.length : Nat)] 3)))
  have HW := Lib.hid (fun W hb => within_three 0 64 nm nc (rs.length : Nat) w.heap.size W hb)
  have HB := Lib.hid (Blk.new w 3 #[.int .i64 nm, .int .i64 nc, .int .i64 (rs.length : Nat)])
  have HIn := Lib.hid (fun W h => within_ints 1 16 o cc rs (by omega) W h)
  have h64 : [(nm : Int), nc, (rs.length : Int)].all (inB 0 64) = true := by
    simp [inB]; omega
  rw [h64] at HW
  rw [hrs] at HIn
  clear h64
  have hmk := make_cond nc (by omega)
  have HRP := Lib.hid (fun B W hb => repeat_any (-1) B nm (by omega) W hb)
  go_enter Try.func12, Try.ntmps12
  go_wp2_with fail
  refine (HW.out _ HB.out).mono ?_
  rintro e w1 ⟨rfl, rfl⟩
  go_wp2_with fail
  refine (HIn.out _ HI.out).mono ?_
  rintro e w1 ⟨rfl, rfl⟩
  go_wp2_with fail
  generalize hw0 : w.alloc (.cells #[.int .i64 nm, .int .i64 nc, .int .i64 (rs.length : Nat)] 3) = w0 at *
  have hb0 : Below w.heap.size w w0 := by rw [← hw0]; exact (Below.refl _ _).alloc (Nat.le_refl _) _
  have HB0 := Lib.hid hb0
  clear hw0 hb0 HB HI HW HIn
  go_cut [8] from 23 to 30 (fun v wc => ∃ p go gc, v = .pointer (some ⟨p, 0, none⟩) ∧ Hid (Made w wc p go gc nm nc))
  case first =>
    go_region_with (go_at_call 35; refine (HRP.out _ _ (by first | exact Blk.drew (Blk.new' _ _ _ _ (by simp)) | exact Blk.drew ((Blk.new' _ _ _ _ (by simp)).alloc _))).mono ?_; rintro e w3 ⟨rfl, hg3, hb3⟩)
    all_goals
      go_simp
      go_wp2_with fail
      go_meet
      first
        | exact ⟨_, _, _, rfl, Lib.hid (Made.one HB0.out hg3 hb3)⟩
        | exact ⟨_, _, _, rfl, Lib.hid (Made.two HB0.out hg3 hb3)⟩
        | exact ⟨_, _, _, rfl, Lib.hid (Made.three HB0.out hg3 hb3)⟩
  case rest =>
    obtain ⟨p, go, gc, rfl, HMD⟩ := hcut
    have HIW := Lib.hid hr
    obtain ⟨i0, hi, hz0, hz1, hz2⟩ := info_parts infoChan
    clear hmk HRP hrs hr
    go_wp2_with fail
    go_loopw [33] (fun i wr => ∃ k : Nat, k ≤ rs.length ∧ i = .int .i64 k ∧ Hid (NewK w wr p go gc nm nc (rs.take k))) (fun i _ => rs.length - (intOf i).toNat)
    case atStart => exact ⟨0, Nat.zero_le _, rfl, Lib.hid (by rw [List.take_zero]; exact HMD.out.newK)⟩
    case round =>
      obtain ⟨k, hk, rfl, HN⟩ := hrel
      by_cases hlt : k < rs.length
      · obtain ⟨r, hr⟩ : ∃ r, rs[k]? = some r := ⟨_, List.getElem?_eq_getElem hlt⟩
        obtain ⟨g, off, rfl⟩ := HIW.out.1 (by omega)
        have hcell := ((HN.out.below).cell (p := ⟨g, off + k, none⟩) (World.block_lt_of_cell? w _ (HIW.out.2 g off rfl k r hr))).trans (HIW.out.2 g off rfl k r hr)
        have hkl : (rs.take k).length = k := by rw [List.length_take]; omega
        obtain ⟨oh, ch, hbp, hrow, n1, n2, n3⟩ := HN.out.chan
        rw [hkl] at hbp hrow n1 n2 n3
        have hsn : rs.take (k + 1) = rs.take k ++ [r] := by rw [List.take_add_one, hr]; rfl
        have HSN := Lib.hid hsn
        have p3 := hbp.cell 3
        have p3f := hbp.frozen 3
        have H1 := Lib.hid (hrow.alloc (.cells #[.slice none 0 0, .int .i64 r, .int .i64 0] 82))
        have H2 := Lib.hid (three_cells _ _ _ _ _ _ (Blk.new wr 82 #[.slice none 0 0, .int .i64 r, .int .i64 0]))
        have H3 : Hid (∀ u ∈ [Value.slice none 0 0, .int .i64 r, .int .i64 0], u.oneCell' = true) := by
          intro u hu
          simp at hu
          rcases hu with rfl | rfl | rfl <;> rfl
        have hmax : k + 1 ≤ maxLen := by unfold maxLen; omega
        have HM := Lib.hid hmax
        have hz9 := HN.out.below.size
        have hbase : w.heap.size ≤ (wr.alloc (.cells #[.slice none 0 0, .int .i64 r, .int .i64 0] 82)).heap.size := by simp; omega
        have HH : Hid ((wr.alloc (.cells #[.slice none 0 0, .int .i64 r, .int .i64 0] 82)).heap.size = wr.heap.size + 1) := Lib.hid (by simp)
        have hpl := hbp.lt
        have HK : Hid (∀ w1, (wr.alloc (.cells #[.slice none 0 0, .int .i64 r, .int .i64 0] 82)).grownBy w1 (Value.slice oh k ch).ownBlock → w1.cell? ⟨p, 3, none⟩ = some (.slice oh k ch) ∧ w1.frozen? ⟨p, 3, none⟩ = false) := fun w1 hg => by
          have hb := (hbp.alloc (.cells #[.slice none 0 0, .int .i64 r, .int .i64 0] 82)).grown hg (fun e => n1 e.symm)
          exact ⟨hb.cell 3, hb.frozen 3⟩
        have HBP := Lib.hid hbp; have N1 := Lib.hid n1; have N2 := Lib.hid n2; have N3 := Lib.hid n3; have HROW := Lib.hid hrow; have HKL := Lib.hid hkl
        clear hr hsn hbp hrow n1 n2 n3 hmax hkl
        go_wp2_with (at_builtin; go_must (refine wpList_append_lies _ rfl _ _ 74 rfl w.heap.size 82 i0 _ 3 40 Try.underlying74 hi hz0 hz1 hz2 rfl (by decide) _ _ _ rfl H1.out ⟨wr.heap.size, 0, none⟩ 1 1 [.slice none 0 0, .int .i64 r, .int .i64 0] rfl rfl H2.out H3.out (by decide) HM.out (by omega) hbase (wr.heap.size + 1) HH.out ?_); intro g1 cap1 w1 hown1 hgrow hor hlt1; obtain ⟨q1, q2⟩ := HK.out w1 hgrow; have O1 := Lib.hid hown1; have O2 := Lib.hid hgrow; have O3 := Lib.hid hor; clear hown1 hgrow hor)
        go_roundw
        case rel =>
          refine ⟨k + 1, by omega, by go_num, Lib.hid ?_⟩
          rw [HSN.out]
          have hN := HN.out
          have hlen : (rs.take k ++ [r]).length = k + 1 := by rw [List.length_append, HKL.out]; rfl
          have ob : Only (fun b => (Value.slice oh k ch).ownBlock = some b ∨ b = p) wr (w1.setCell ⟨p, 3, none⟩ (.slice (some ⟨g1, 0, none⟩) (k + 1) cap1)) :=
            (((Only.refl wr).alloc _).grown O2.out (fun j hj => .inl (.inl hj))).setCell (p := ⟨p, 3, none⟩) (.inl (.inr rfl)) _
          have hge : ∀ b, (Value.slice oh k ch).ownBlock = some b → w.heap.size ≤ b := fun b hb => (HROW.out.lt b hb).1
          have hg1p : g1 ≠ p := by
            rintro rfl
            rcases O3.out with h | h
            · exact N1.out h
            · omega
          have hgol : go < wr.heap.size := (Array.getElem?_eq_some_iff.1 hN.own).1
          have hgcl := hN.cond.lt
          have hg1go : g1 ≠ go := by
            rintro rfl
            rcases O3.out with h | h
            · exact N2.out h
            · omega
          have hg1gc : g1 ≠ gc := by
            rintro rfl
            rcases O3.out with h | h
            · exact N3.out h
            · omega
          refine ⟨hN.below.trans (ob.below hz9 (fun b hb => hb.elim (hge b) (fun e => by have := hN.h1; omega))), (ob.block go hgol (fun h => h.elim N2.out (fun e => hN.h4 e.symm))).trans hN.own,
            hN.cond.only ob (fun h => h.elim N3.out (fun e => hN.h5 e.symm)), ⟨some ⟨g1, 0, none⟩, cap1, ?_, ?_, ?_, ?_, ?_⟩, hN.h1, hN.h2, hN.h3, hN.h4, hN.h5, hN.h6⟩
          · rw [hlen]
            have hb := ((HBP.out.alloc (.cells #[.slice none 0 0, .int .i64 r, .int .i64 0] 82)).grown O2.out (fun e => N1.out e.symm)).set_ 3 (.slice (some ⟨g1, 0, none⟩) (k + 1) cap1)
            exact hb
          · rw [hlen, chNew_snoc]
            exact ownsRow_block O1.out (fun b hb => by
              obtain rfl : g1 = b := by simpa [Value.ownBlock] using hb
              exact Below.heap_setCell _ _ _ _ (by simpa using hg1p))
          · simpa [Value.ownBlock] using hg1p
          · simpa [Value.ownBlock] using hg1go
          · simpa [Value.ownBlock] using hg1gc
        case measure => simp [intOf]; omega
      · obtain rfl : k = rs.length := by omega
        have hN := HN.out
        rw [List.take_length] at hN
        obtain ⟨y, hy⟩ := hN.sync hnm hnc
        have HY := Lib.hid hy
        have HBL := Lib.hid hN.below
        clear hN hy
        go_wp2_with fail
        go_ret2
        exact ⟨p, y, rfl, HY.out, HBL.out⟩
end Go.Proofs.Ytdfjbgfdaokjgaa

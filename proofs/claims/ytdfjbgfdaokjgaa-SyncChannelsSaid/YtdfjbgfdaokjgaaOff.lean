/-
  A queue, gone over and taken off: the iterator.
-/
import Derived.Test.YtdfjbgfdaokjgaaQueue
import Derived.Test.YtdfjbgfdaokjgaaRange
import Derived.RangeFuncNested
import Derived.RangeFuncLeaves
import Derived.Shelf.RegionOpen
import Derived.OwnWalkIn
import Derived.LoopNIn
import Derived.LoopIn
namespace Go.Proofs.Ytdfjbgfdaokjgaa
open Go.RowKit Go.Shelf
attribute [local go_sem] Oper.semAt_some

/-- A queue as it lies: its cell, its row. -/
structure QAt (w : World) (base B i : Nat) (T : TypeId) (v : Value) (xs : List Int) : Prop where
  cell : w.cell? ⟨B, i, none⟩ = some v
  frozen : w.frozen? ⟨B, i, none⟩ = false
  own : w.ownsRow base T 1 v xs.length (xs.map (Value.int .i64))
  ne : v.ownBlock ≠ some B
  len : xs.length ≤ 1000000
/-- A queue is turned: its row, and its cell. -/
structure QStep (w w' : World) (base B i : Nat) (T : TypeId) (v v' : Value) (xs' : List Int) : Prop where
  own : w'.ownsRow base T 1 v' xs'.length (xs'.map (Value.int .i64))
  blk : w'.heap[B]? = (w.setCell ⟨B, i, none⟩ v').heap[B]?
  only : Only (fun b => b = B ∨ v.ownBlock = some b) w w'
  lies : ∀ b, v'.ownBlock = some b → v.ownBlock = some b ∨ w.heap.size ≤ b

/-- How many are in a queue. -/
def qlen (w : World) (B i : Nat) : Nat := match w.cell? ⟨B, i, none⟩ with
  | some (.slice _ n _) => n
  | _ => 0
theorem QAt.qlen {w : World} {base B i : Nat} {T : TypeId} {v : Value} {xs : List Int} (h : QAt w base B i T v xs) : qlen w B i = xs.length := by
  obtain ⟨o, c, rfl, _⟩ := row_shape h.own
  unfold Go.Proofs.Ytdfjbgfdaokjgaa.qlen
  rw [h.cell]

theorem heap_setCell_alike {w w1 : World} {B i : Nat} (h : w1.heap[B]? = w.heap[B]?) (u : Value) : (w1.setCell ⟨B, i, none⟩ u).heap[B]? = (w.setCell ⟨B, i, none⟩ u).heap[B]? := by
  simp [World.setCell, Array.getElem?_modify, h]
theorem qstep_del {wr w1 : World} {base B i g n n0 c : Nat} {T : TypeId} {ys : List Int} (hown1 : w1.ownsRow base T 1 (.slice (some ⟨g, 0, none⟩) n c) n (ys.map (Value.int .i64)))
    (ho : Only (fun b => b = g) wr.drew w1) (hgB : g ≠ B) (hltB : B < wr.heap.size) (hn : ys.length = n) :
    QStep wr (w1.setCell ⟨B, i, none⟩ (.slice (some ⟨g, 0, none⟩) n c)) base B i T (.slice (some ⟨g, 0, none⟩) n0 c) (.slice (some ⟨g, 0, none⟩) n c) ys := by
  have ho' : Only (fun b => b = g) wr w1 := (Only.drew (Only.refl wr)).trans ho
  refine ⟨?_, ?_, ?_, fun b hb => .inl hb⟩
  · rw [hn]
    exact ownsRow_block hown1 (fun g' hg' => by
      obtain rfl : g = g' := by simpa [Value.ownBlock] using hg'
      exact Below.heap_setCell _ _ _ _ hgB)
  · exact heap_setCell_alike (ho'.block B hltB (fun e => hgB e.symm)) _
  · exact (ho'.mono (fun b hb => .inr (by rw [hb]; rfl))).setCell (.inl (.inl rfl)) _

theorem off_int (B i : Nat) (w : World) : Calls Try.prog 44 #[.pointer (some ⟨B, i, none⟩)] w fun e w' => e = .returned (.func (.func 67) #[] #[.pointer (some ⟨w.heap.size, 0, none⟩)]) ∧
    w.alloc (.cells #[.pointer (some ⟨B, i, none⟩)] 130) = w' := by
  go_enter Try.func44, Try.ntmps44
  go_wp2
  go_ret
  exact ⟨rfl, rfl⟩

set_option maxRecDepth 100000 in
set_option maxHeartbeats 2000000 in
theorem off1_int (d l Bx B i base : Nat) (J : List Int → World → Prop) (J1 : Int → List Int → World → Prop) (Jx : World → Prop)
    (hQ : ∀ xs W, J xs W → (∃ v, QAt W base B i 3 v xs ∧ v.ownBlock ≠ some Bx) ∧ W.cell? ⟨Bx, 0, none⟩ = some (.pointer (some ⟨B, i, none⟩)) ∧ Bx ≠ B)
    (hD : ∀ x xs W W' v v', J (x :: xs) W → QAt W base B i 3 v (x :: xs) → QStep W W' base B i 3 v v' xs → v'.ownBlock = v.ownBlock → J1 x xs W')
    (hY : ∀ m x xs W, J1 x xs W → YieldAt Fence.wide m Try.prog l #[.int .i64 x] W (fun e W' => (e = .returned (.bool true) ∧ J xs W') ∨ (e = .returned (.bool false) ∧ Jx W')))
    (xs : List Int) (W : World) (h0 : J xs W) :
    CallsIn Fence.wide d Try.prog 67 #[.func (.yield l) #[] #[], .pointer (some ⟨Bx, 0, none⟩)] W fun e W' => (∃ v, e = .returned v) ∧ (J [] W' ∨ Jx W') := by
  refine callsIn_of_wp Try.func67 rfl trivial ?_ rfl
  simp only [Try.ntmps67, List.size_toArray, List.length_cons, List.length_nil, Nat.reduceAdd, Nat.reduceSub, Array.replicate_succ, Array.replicate_zero, List.push_toArray, List.append_toArray, List.nil_append, List.cons_append]
  have HQ := Lib.hid hQ; have HD := Lib.hid hD; have HY := Lib.hid hY
  clear hQ hD hY
  gi_wp2_with fail
  gi_loopw [] (fun wr => ∃ ys, J ys wr) (fun wr => qlen wr B i)
  case atStart => exact ⟨xs, h0⟩
  case round =>
    obtain ⟨ys, hj⟩ := hrel
    obtain ⟨⟨v, hq, hnx⟩, hbx, hne⟩ := HQ.out ys wr hj
    have hql := hq.qlen
    obtain ⟨o, c, rfl, hform⟩ := row_shape hq.own
    have c1 := hq.cell
    have f1 := hq.frozen
    cases ys with
    | nil =>
      have HJ := Lib.hid hj
      clear hj hform hql
      dsimp only [List.length_nil] at *
      gi_wp2_with fail
      go_end0
      exact ⟨⟨_, rfl⟩, .inl HJ.out⟩
    | cons x ys =>
      dsimp only [List.length_cons] at *
      obtain ⟨g, rfl, hg1, hg2⟩ := hform (by omega)
      have hlen := hq.len
      dsimp only [List.length_cons] at hlen
      have hd0 : wr.cell? ⟨g, 0, none⟩ = some (.int .i64 x) := by
        have := hq.own.cellAt 0 (by simp)
        simpa using this
      have HQ1 := Lib.hid hq
      have HJ := Lib.hid hj
      have HL := Lib.hid hql
      have HO : Hid (wr.drew.ownsRow base 3 1 (.slice (some ⟨g, 0, none⟩) (ys.length + 1) c) (ys.length + 1) ((x :: ys).map (Value.int .i64))) := hq.own
      have hgB : g ≠ B := fun e => hq.ne (by rw [e]; rfl)
      have hgx : g ≠ Bx := fun e => hnx (by rw [e]; rfl)
      have hltB : B < wr.heap.size := World.block_lt_of_cell? wr _ c1
      have hltx : Bx < wr.heap.size := World.block_lt_of_cell? wr _ hbx
      have HK : Hid (∀ w1, Only (fun b => b = g) wr.drew w1 → w1.cell? ⟨B, i, none⟩ = some (.slice (some ⟨g, 0, none⟩) (ys.length + 1) c) ∧ w1.frozen? ⟨B, i, none⟩ = false ∧ w1.cell? ⟨Bx, 0, none⟩ = some (.pointer (some ⟨B, i, none⟩))) := fun w1 ho =>
        ⟨(World.cell?_of_block (ho.block B hltB (fun e => hgB e.symm))).trans c1, (World.frozen?_of_block (ho.block B hltB (fun e => hgB e.symm))).trans f1, (World.cell?_of_block (ho.block Bx hltx (fun e => hgx e.symm))).trans hbx⟩
      have HB := Lib.hid hbx
      clear hq hj hform hql
      gi_wp2_with fail
      refine wpIn_wide.2 ?_
      go_region_with (go_at_call 68; refine (del_int base g ys.length c x ys _ rfl (by omega) HO.out).mono ?_; rintro e w1 ⟨rfl, hown1, honly1⟩; obtain ⟨k1, k2, k3⟩ := HK.out w1 honly1)
      all_goals
        have hJ1 := HD.out x ys wr _ _ _ HJ.out HQ1.out (qstep_del (i := i) hown1 honly1 hgB hltB rfl) rfl
        obtain ⟨fn, tmps, assign, body, hy, hR⟩ := HY.out (d - 1) x ys _ hJ1
        have HR := Lib.hid hR
        clear hR hown1 honly1 k1 k2 k3 hJ1
        gi_wp2_with fail
        refine ⟨fun h => (by cases h), HR.out.mono ?_⟩
        rintro e W' (⟨rfl, hJ'⟩ | ⟨rfl, hx'⟩)
        · obtain ⟨⟨v', hq', _⟩, _, _⟩ := HQ.out ys W' hJ'
          have hql' := Lib.hid hq'.qlen
          clear hq'
          gi_wp2_with fail
          go_roundw
          case rel => exact ⟨ys, hJ'⟩
          case measure => rw [hql'.out, HL.out]; omega
        · have HX := Lib.hid hx'
          clear hx'
          gi_wp2_with fail
          refine bodyPost_ret (results_none rfl _ _ _) rfl ?_
          exact ⟨⟨_, rfl⟩, .inr HX.out⟩

theorem off_int64 (B i : Nat) (w : World) : Calls Try.prog 89 #[.pointer (some ⟨B, i, none⟩)] w fun e w' => e = .returned (.func (.func 92) #[] #[.pointer (some ⟨w.heap.size, 0, none⟩)]) ∧
    w.alloc (.cells #[.pointer (some ⟨B, i, none⟩)] 137) = w' := by
  go_enter Try.func89, Try.ntmps89
  go_wp2
  go_ret
  exact ⟨rfl, rfl⟩

set_option maxRecDepth 100000 in
set_option maxHeartbeats 2000000 in
theorem off1_int64 (d l Bx B i base : Nat) (J : List Int → World → Prop) (J1 : Int → List Int → World → Prop) (Jx : World → Prop)
    (hQ : ∀ xs W, J xs W → (∃ v, QAt W base B i 2 v xs ∧ v.ownBlock ≠ some Bx) ∧ W.cell? ⟨Bx, 0, none⟩ = some (.pointer (some ⟨B, i, none⟩)) ∧ Bx ≠ B)
    (hD : ∀ x xs W W' v v', J (x :: xs) W → QAt W base B i 2 v (x :: xs) → QStep W W' base B i 2 v v' xs → v'.ownBlock = v.ownBlock → J1 x xs W')
    (hY : ∀ m x xs W, J1 x xs W → YieldAt Fence.wide m Try.prog l #[.int .i64 x] W (fun e W' => (e = .returned (.bool true) ∧ J xs W') ∨ (e = .returned (.bool false) ∧ Jx W')))
    (xs : List Int) (W : World) (h0 : J xs W) :
    CallsIn Fence.wide d Try.prog 92 #[.func (.yield l) #[] #[], .pointer (some ⟨Bx, 0, none⟩)] W fun e W' => (∃ v, e = .returned v) ∧ (J [] W' ∨ Jx W') := by
  refine callsIn_of_wp Try.func92 rfl trivial ?_ rfl
  simp only [Try.ntmps92, List.size_toArray, List.length_cons, List.length_nil, Nat.reduceAdd, Nat.reduceSub, Array.replicate_succ, Array.replicate_zero, List.push_toArray, List.append_toArray, List.nil_append, List.cons_append]
  have HQ := Lib.hid hQ; have HD := Lib.hid hD; have HY := Lib.hid hY
  clear hQ hD hY
  gi_wp2_with fail
  gi_loopw [] (fun wr => ∃ ys, J ys wr) (fun wr => qlen wr B i)
  case atStart => exact ⟨xs, h0⟩
  case round =>
    obtain ⟨ys, hj⟩ := hrel
    obtain ⟨⟨v, hq, hnx⟩, hbx, hne⟩ := HQ.out ys wr hj
    have hql := hq.qlen
    obtain ⟨o, c, rfl, hform⟩ := row_shape hq.own
    have c1 := hq.cell
    have f1 := hq.frozen
    cases ys with
    | nil =>
      have HJ := Lib.hid hj
      clear hj hform hql
      dsimp only [List.length_nil] at *
      gi_wp2_with fail
      go_end0
      exact ⟨⟨_, rfl⟩, .inl HJ.out⟩
    | cons x ys =>
      dsimp only [List.length_cons] at *
      obtain ⟨g, rfl, hg1, hg2⟩ := hform (by omega)
      have hlen := hq.len
      dsimp only [List.length_cons] at hlen
      have hd0 : wr.cell? ⟨g, 0, none⟩ = some (.int .i64 x) := by
        have := hq.own.cellAt 0 (by simp)
        simpa using this
      have HQ1 := Lib.hid hq
      have HJ := Lib.hid hj
      have HL := Lib.hid hql
      have HO : Hid (wr.drew.ownsRow base 2 1 (.slice (some ⟨g, 0, none⟩) (ys.length + 1) c) (ys.length + 1) ((x :: ys).map (Value.int .i64))) := hq.own
      have hgB : g ≠ B := fun e => hq.ne (by rw [e]; rfl)
      have hgx : g ≠ Bx := fun e => hnx (by rw [e]; rfl)
      have hltB : B < wr.heap.size := World.block_lt_of_cell? wr _ c1
      have hltx : Bx < wr.heap.size := World.block_lt_of_cell? wr _ hbx
      have HK : Hid (∀ w1, Only (fun b => b = g) wr.drew w1 → w1.cell? ⟨B, i, none⟩ = some (.slice (some ⟨g, 0, none⟩) (ys.length + 1) c) ∧ w1.frozen? ⟨B, i, none⟩ = false ∧ w1.cell? ⟨Bx, 0, none⟩ = some (.pointer (some ⟨B, i, none⟩))) := fun w1 ho =>
        ⟨(World.cell?_of_block (ho.block B hltB (fun e => hgB e.symm))).trans c1, (World.frozen?_of_block (ho.block B hltB (fun e => hgB e.symm))).trans f1, (World.cell?_of_block (ho.block Bx hltx (fun e => hgx e.symm))).trans hbx⟩
      have HB := Lib.hid hbx
      clear hq hj hform hql
      gi_wp2_with fail
      refine wpIn_wide.2 ?_
      go_region_with (go_at_call 93; refine (del_int64 base g ys.length c x ys _ rfl (by omega) HO.out).mono ?_; rintro e w1 ⟨rfl, hown1, honly1⟩; obtain ⟨k1, k2, k3⟩ := HK.out w1 honly1)
      all_goals
        have hJ1 := HD.out x ys wr _ _ _ HJ.out HQ1.out (qstep_del (i := i) hown1 honly1 hgB hltB rfl) rfl
        obtain ⟨fn, tmps, assign, body, hy, hR⟩ := HY.out (d - 1) x ys _ hJ1
        have HR := Lib.hid hR
        clear hR hown1 honly1 k1 k2 k3 hJ1
        gi_wp2_with fail
        refine ⟨fun h => (by cases h), HR.out.mono ?_⟩
        rintro e W' (⟨rfl, hJ'⟩ | ⟨rfl, hx'⟩)
        · obtain ⟨⟨v', hq', _⟩, _, _⟩ := HQ.out ys W' hJ'
          have hql' := Lib.hid hq'.qlen
          clear hq'
          gi_wp2_with fail
          go_roundw
          case rel => exact ⟨ys, hJ'⟩
          case measure => rw [hql'.out, HL.out]; omega
        · have HX := Lib.hid hx'
          clear hx'
          gi_wp2_with fail
          refine bodyPost_ret (results_none rfl _ _ _) rfl ?_
          exact ⟨⟨_, rfl⟩, .inr HX.out⟩
end Go.Proofs.Ytdfjbgfdaokjgaa

/-
  A channel: is it full, send, recv.
-/
import Derived.Test.YtdfjbgfdaokjgaaTake
import Derived.BigQuiet
import Derived.Deep.QuietTactic
namespace Go.Proofs.Ytdfjbgfdaokjgaa
open Go.RowKit

theorem put_step {w : World} {T : TypeId} {base B i : Nat} {v : Value} {xs : List Int} {x : Int} {e : Ending} {w' : World} (hB : B < w.heap.size) (hne : v.ownBlock ≠ some B)
    (h : PutP T base B i v xs x w e w') : e = .returned (.tuple #[]) ∧ ∃ v', QStep w w' base B i T v v' (xs ++ [x]) := by
  obtain ⟨he, g, cap, w1, hown, ho, hl, rfl⟩ := h
  have hgB : g ≠ B := by
    rintro rfl
    rcases hl with h | h
    · exact hne h
    · omega
  refine ⟨he, _, ?_, heap_setCell_alike (ho.block B hB hne) _, ?_, ?_⟩
  · rw [List.length_append]
    exact ownsRow_block hown (fun g' hg' => by
      obtain rfl : g = g' := by simpa [Value.ownBlock] using hg'
      exact Below.heap_setCell _ _ _ _ hgB)
  · exact (ho.mono (fun b hb => .inr hb)).setCell (.inl (.inl rfl)) _
  · intro b hb
    obtain rfl : g = b := by simpa [Value.ownBlock] using hb
    exact hl
theorem put_int_step (base B i : Nat) (v : Value) (xs : List Int) (x : Int) (w : World) (hbase : base ≤ w.heap.size) (hq : QAt w base B i 3 v xs) :
    Calls Try.prog 52 #[.pointer (some ⟨B, i, none⟩), .int .i64 x] w fun e w' => e = .returned (.tuple #[]) ∧ ∃ v', QStep w w' base B i 3 v v' (xs ++ [x]) := by
  obtain ⟨o, c, rfl, _⟩ := row_shape hq.own
  exact (put_int base B i xs.length o c xs x w hbase rfl hq.len hq.cell hq.frozen hq.own hq.ne).mono fun e w' h => put_step (World.block_lt_of_cell? w _ hq.cell) hq.ne h
theorem put_int64_step (base B i : Nat) (v : Value) (xs : List Int) (x : Int) (w : World) (hbase : base ≤ w.heap.size) (hq : QAt w base B i 2 v xs) :
    Calls Try.prog 70 #[.pointer (some ⟨B, i, none⟩), .int .i64 x] w fun e w' => e = .returned (.tuple #[]) ∧ ∃ v', QStep w w' base B i 2 v v' (xs ++ [x]) := by
  obtain ⟨o, c, rfl, _⟩ := row_shape hq.own
  exact (put_int64 base B i xs.length o c xs x w hbase rfl hq.len hq.cell hq.frozen hq.own hq.ne).mono fun e w' h => put_step (World.block_lt_of_cell? w _ hq.cell) hq.ne h

/-- A cell of a queue's block, but the queue's own, behind a step. -/
theorem QStep.cell {w w' : World} {base B i j : Nat} {T : TypeId} {v v' u : Value} {xs' : List Int} (h : QStep w w' base B i T v v' xs') (hj : j ≠ i) (hc : w.cell? ⟨B, j, none⟩ = some u) : w'.cell? ⟨B, j, none⟩ = some u := by
  rw [World.cell?_of_block (w := w.setCell ⟨B, i, none⟩ v') (w' := w') (a := ⟨B, j, none⟩) h.blk]
  rw [World.cell?_setCell_other _ _ _ _ (by simp)]
  exact hc
theorem QStep.frozen {w w' : World} {base B i j : Nat} {T : TypeId} {v v' : Value} {xs' : List Int} (h : QStep w w' base B i T v v' xs') (hf : w.frozen? ⟨B, j, none⟩ = false) : w'.frozen? ⟨B, j, none⟩ = false := by
  rw [World.frozen?_of_block (w := w.setCell ⟨B, i, none⟩ v') (w' := w') (a := ⟨B, j, none⟩) h.blk, World.frozen?_setCell]
  exact hf

theorem full_any (H q n : Nat) (room : Int) (o : Option Addr) (c : Nat) (w : World) (h0 : w.cell? ⟨H, q, none⟩ = some (.slice o n c)) (h1 : w.cell? ⟨H, q + 1, none⟩ = some (.int .i64 room)) :
    Calls Try.prog 47 #[.pointer (some ⟨H, q, none⟩)] w fun e w' => e = .returned (.bool (decide (room ≤ (n : Int)))) ∧ Below w.heap.size w w' := by
  by_cases h : room ≤ (n : Int)
  all_goals
    go_enter Try.func47, Try.ntmps47
    go_wp2_with fail
    go_quiet (fail)
    go_wp2_with fail
    go_ret
    exact ⟨ret_bool (by simp [h]), below_drewN' _ _ _⟩

set_option maxRecDepth 100000 in
set_option maxHeartbeats 1000000 in
theorem send_any (base H q : Nat) (v : Value) (xs : List Int) (x : Int) (sent : Nat) (hs : sent ≤ 1000000) (w : World) (hbase : base ≤ w.heap.size) (hq : QAt w base H q 2 v xs)
    (h2 : w.cell? ⟨H, q + 2, none⟩ = some (.int .i64 sent)) (hf : w.frozen? ⟨H, q + 2, none⟩ = false) :
    Calls Try.prog 48 #[.pointer (some ⟨H, q, none⟩), .int .i64 x] w fun e w' => e = .returned (.int .i64 sent) ∧ ∃ v' w1, QStep w w1 base H q 2 v v' (xs ++ [x]) ∧ w1.setCell ⟨H, q + 2, none⟩ (.int .i64 ((sent : Int) + 1)) = w' := by
  have HP := Lib.hid (put_int64_step base H q v xs x w hbase hq)
  have HK : Hid (∀ v' w1, QStep w w1 base H q 2 v v' (xs ++ [x]) → w1.cell? ⟨H, q + 2, none⟩ = some (.int .i64 sent) ∧ w1.frozen? ⟨H, q + 2, none⟩ = false) := fun v' w1 h => ⟨h.cell (by omega) h2, h.frozen hf⟩
  clear hq h2 hf
  go_enter Try.func48, Try.ntmps48
  go_wp2_with fail
  refine HP.out.mono ?_
  rintro e w1 ⟨rfl, v', hst⟩
  obtain ⟨k1, k2⟩ := HK.out v' w1 hst
  have HS := Lib.hid hst
  clear hst
  go_wp2_with fail
  go_ret
  exact ⟨rfl, v', w1, HS.out, rfl⟩

set_option maxRecDepth 100000 in
set_option maxHeartbeats 1000000 in
theorem recv_nil (base H q : Nat) (v : Value) (sent : Nat) (hs : sent ≤ 1000000) (w : World) (hq : QAt w base H q 2 v []) (h2 : w.cell? ⟨H, q + 2, none⟩ = some (.int .i64 sent)) :
    Calls Try.prog 49 #[.pointer (some ⟨H, q, none⟩)] w fun e w' => e = .returned (.tuple #[.int .i64 0, .int .i64 0, .bool false]) ∧ Below w.heap.size w w' := by
  obtain ⟨o, c, rfl, _⟩ := row_shape hq.own
  have HP := Lib.hid (fun n => take_int64_nil base H q _ (w.drewN n) ⟨hq.cell, hq.frozen, hq.own, hq.ne, hq.len⟩)
  have c0 := hq.cell
  dsimp only [List.length_nil] at *
  clear hq
  go_enter Try.func49, Try.ntmps49
  go_wp2_with fail
  go_quiet (fail)
  go_wp2_with fail
  refine (HP.out _).mono ?_
  rintro e w1 ⟨rfl, hb⟩
  have HB := Lib.hid hb
  clear hb
  go_wp2_with fail
  go_ret3
  exact ⟨rfl, (below_drewN' _ _ _).trans HB.out⟩
set_option maxRecDepth 100000 in
set_option maxHeartbeats 1000000 in
theorem recv_cons (base H q : Nat) (v : Value) (x : Int) (xs : List Int) (sent : Nat) (hs : sent ≤ 1000000) (w : World) (hq : QAt w base H q 2 v (x :: xs)) (h2 : w.cell? ⟨H, q + 2, none⟩ = some (.int .i64 sent)) :
    Calls Try.prog 49 #[.pointer (some ⟨H, q, none⟩)] w fun e w' => e = .returned (.tuple #[.int .i64 x, .int .i64 ((sent : Int) - (xs.length + 1 : Nat)), .bool true]) ∧ ∃ v', QStep w w' base H q 2 v v' xs := by
  obtain ⟨o, c, rfl, _⟩ := row_shape hq.own
  have HP := Lib.hid (fun n => take_int64_cons base H q _ x xs (w.drewN n) ⟨hq.cell, hq.frozen, hq.own, hq.ne, hq.len⟩)
  have c0 := hq.cell
  have hm := hq.len
  dsimp only [List.length_cons] at *
  clear hq
  go_enter Try.func49, Try.ntmps49
  go_wp2_with fail
  go_quiet (fail)
  go_wp2_with fail
  refine (HP.out _).mono ?_
  rintro e w1 ⟨rfl, v', hst⟩
  have HS := Lib.hid hst
  clear hst
  go_wp2_with fail
  go_ret3
  exact ⟨rfl, v', HS.out.own, HS.out.blk, ((below_drewN' w.heap.size w _) |> fun h => (Only.of_below h).trans HS.out.only), HS.out.lies⟩
end Go.Proofs.Ytdfjbgfdaokjgaa

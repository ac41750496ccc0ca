/-
  A queue: what comes is put behind, and all that there is.
-/
import Derived.Test.YtdfjbgfdaokjgaaDel
import Derived.Deep.DeepMust
namespace Go.Proofs.Ytdfjbgfdaokjgaa
open Go.RowKit

/-- What 'put' has done: the row is longer by one, and the queue's cell has it. -/
def PutP (T : TypeId) (base B i : Nat) (v : Value) (xs : List Int) (x : Int) (w : World) (e : Ending) (w' : World) : Prop :=
  e = .returned (.tuple #[]) ∧ ∃ g cap w1, w1.ownsRow base T 1 (.slice (some ⟨g, 0, none⟩) (xs.length + 1) cap) (xs.length + 1) ((xs ++ [x]).map (Value.int .i64)) ∧ Only (fun b => v.ownBlock = some b) w w1 ∧
    (v.ownBlock = some g ∨ w.heap.size ≤ g) ∧ w' = w1.setCell ⟨B, i, none⟩ (.slice (some ⟨g, 0, none⟩) (xs.length + 1) cap)
theorem one_cell (w : World) (B : Nat) (t : TypeId) (u : Value) (h : Blk w B t #[u]) : ∀ j v, [u][j]? = some v → w.cell? ((⟨B, 0, none⟩ : Addr).add j) = some v := by
  intro j v hj
  cases j with
  | zero => simp at hj; subst hj; exact h.cell 0
  | succ j => simp at hj
theorem cell_alloc' {w : World} {a : Addr} {v : Value} (h : w.cell? a = some v) (o : Obj) : (w.alloc o).cell? a = some v := Lib.cell?_alloc_some o h
theorem frozen_far {w w' : World} {a : Addr} {row : Option Nat} (hg : w.grownBy w' row) (hlt : a.block < w.heap.size) (hne : some a.block ≠ row) : w'.frozen? a = w.frozen? a :=
  World.frozen?_of_block (hg.block a.block hlt hne)

set_option maxRecDepth 100000 in
set_option maxHeartbeats 1000000 in
theorem put_int (base B i n : Nat) (o : Option Addr) (c : Nat) (xs : List Int) (x : Int) (w : World) (hbase : base ≤ w.heap.size) (hn : xs.length = n) (hm : n ≤ 1000000) (hcell : w.cell? ⟨B, i, none⟩ = some (.slice o n c))
    (hf : w.frozen? ⟨B, i, none⟩ = false) (hown : w.ownsRow base 3 1 (.slice o n c) n (xs.map (Value.int .i64))) (hne : (Value.slice o n c).ownBlock ≠ some B) :
    Calls Try.prog 52 #[.pointer (some ⟨B, i, none⟩), .int .i64 x] w (PutP 3 base B i (.slice o n c) xs x w) := by
  obtain ⟨i0, hi, hz0, hz1, hz2⟩ := info_parts infoint
  have hlt : B < w.heap.size := World.block_lt_of_cell? w _ hcell
  have h1 : Hid ((w.alloc (.cells #[.int .i64 x] 3)).ownsRow base 3 1 (.slice o n c) n (xs.map (Value.int .i64))) := hown.alloc _
  have h2 := Lib.hid (one_cell _ _ _ _ (Blk.new w 3 #[.int .i64 x]))
  have h3 : Hid (∀ u ∈ [Value.int .i64 x], u.oneCell' = true) := by intro u hu; simp at hu; subst hu; rfl
  have hcap : base ≤ (w.alloc (.cells #[.int .i64 x] 3)).heap.size := by simp; omega
  have hH : (w.alloc (.cells #[.int .i64 x] 3)).heap.size = w.heap.size + 1 := by simp
  have HH := Lib.hid hH
  have HN := Lib.hid hn
  have HE := Lib.hid hne
  have HO := Lib.hid hown
  have hmax : n + 1 ≤ maxLen := by unfold maxLen; omega
  have HM := Lib.hid hmax
  clear hH hn hne hown hmax
  have hc1 := cell_alloc' hcell (.cells #[.int .i64 x] 3)
  have HK : Hid (∀ w1, (w.alloc (.cells #[.int .i64 x] 3)).grownBy w1 (Value.slice o n c).ownBlock → w1.cell? ⟨B, i, none⟩ = some (.slice o n c) ∧ w1.frozen? ⟨B, i, none⟩ = false) := by
    intro w1 hgrow
    refine ⟨hgrow.cell hc1 (by intro e; exact HE.out e.symm), ?_⟩
    rw [frozen_far hgrow (by simp; omega) (by intro e; exact HE.out e.symm), ← hf]
    exact World.frozen?_of_block (Below.heap_alloc w _ B hlt)
  clear hf hc1
  go_enter Try.func52, Try.ntmps52
  go_wp2_with (at_builtin; go_must (refine wpList_append_lies _ rfl _ _ 22 rfl base 3 i0 _ 1 8 Try.underlying22 hi hz0 hz1 hz2 rfl (by decide) _ _ _ rfl h1.out ⟨w.heap.size, 0, none⟩ 1 1 [.int .i64 x] rfl rfl h2.out h3.out (by decide) HM.out (by omega) hcap (w.heap.size + 1) HH.out ?_); intro g cap w1 hown1 hgrow hor hlt1; obtain ⟨hc2, hf2⟩ := HK.out w1 hgrow; have H1 := Lib.hid hown1; have H2 := Lib.hid hgrow; have H3 := Lib.hid hor; clear hown1 hgrow hor)
  go_end0
  refine ⟨rfl, g, cap, w1, ?_, ((Only.refl w).alloc _).grown H2.out (fun k hk => .inl hk), ?_, ?_⟩
  · rw [HN.out, List.map_append]; exact H1.out
  · rcases H3.out with h | h
    · exact .inl h
    · exact .inr (by omega)
  · rw [HN.out]

set_option maxRecDepth 100000 in
set_option maxHeartbeats 1000000 in
theorem all_int (base B i n : Nat) (o : Option Addr) (c : Nat) (xs : List Int) (w : World) (hn : xs.length = n) (hm : n ≤ 1000000) (hcell : w.cell? ⟨B, i, none⟩ = some (.slice o n c))
    (hown : w.ownsRow base 3 1 (.slice o n c) n (xs.map (Value.int .i64))) :
    Calls Try.prog 41 #[.pointer (some ⟨B, i, none⟩)] w fun e w' => ∃ v, e = .returned v ∧ w'.ownsRow w.heap.size 3 1 v n (xs.map (Value.int .i64)) ∧ Below w.heap.size w w' := by
  obtain ⟨i0, hi, hz0, hz1, hz2⟩ := info_parts infoint
  by_cases h0 : n = 0
  · subst h0
    obtain rfl : xs = [] := List.eq_nil_of_length_eq_zero hn
    clear hn hown
    rcases o with _ | a
    all_goals
      go_enter Try.func41, Try.ntmps41
      go_wp2
      go_ret
      exact ⟨_, rfl, World.ownsRow_nil _ _ _ _, Below.refl _ _⟩
  · obtain ⟨g, cap, e0, hb, hlt⟩ := hown.form (by omega)
    injection e0 with e1 _ e3
    subst e1; subst e3
    have hmax : 0 + n ≤ maxLen := by unfold maxLen; omega
    have HM := Lib.hid hmax
    have h2 := Lib.hid (hown.cells (g := g) rfl)
    have h1 := Lib.hid (World.ownsRow_nil w w.heap.size 3 1)
    have h3 : Hid (∀ u ∈ xs.map (Value.int .i64), u.oneCell' = true) := by
      intro u hu
      obtain ⟨x, _, rfl⟩ := List.mem_map.1 hu
      rfl
    have hl : Hid ((xs.map (Value.int .i64)).length = n * 1) := Lib.hid (by simpa using hn)
    have hH := Lib.hid (rfl : w.heap.size = w.heap.size)
    have hpos : 0 < n := by omega
    clear hmax hown hn
    go_enter Try.func41, Try.ntmps41
    go_wp2_with (at_builtin; go_must (refine wpList_append_lies _ rfl _ _ 22 rfl w.heap.size 3 i0 _ 1 8 Try.underlying22 hi hz0 hz1 hz2 rfl (by decide) _ _ _ rfl h1.out ⟨g, 0, none⟩ n c (xs.map (Value.int .i64)) rfl hl.out h2.out h3.out hpos HM.out (by omega) (Nat.le_refl _) w.heap.size hH.out ?_); intro g1 cap1 w1 hown1 hgrow hor hlt1)
    have H1 := Lib.hid hown1
    have H2 := Lib.hid hgrow
    clear hown1 hgrow hor
    go_wp2_with fail
    go_ret
    refine ⟨_, rfl, ?_, ((Only.refl (X := fun _ => False) w).grown H2.out (fun k hk => by cases hk)).below (Nat.le_refl _) (fun k hk => hk.elim)⟩
    have e := H1.out
    simpa using e

set_option maxRecDepth 100000 in
set_option maxHeartbeats 1000000 in
theorem put_int64 (base B i n : Nat) (o : Option Addr) (c : Nat) (xs : List Int) (x : Int) (w : World) (hbase : base ≤ w.heap.size) (hn : xs.length = n) (hm : n ≤ 1000000) (hcell : w.cell? ⟨B, i, none⟩ = some (.slice o n c))
    (hf : w.frozen? ⟨B, i, none⟩ = false) (hown : w.ownsRow base 2 1 (.slice o n c) n (xs.map (Value.int .i64))) (hne : (Value.slice o n c).ownBlock ≠ some B) :
    Calls Try.prog 70 #[.pointer (some ⟨B, i, none⟩), .int .i64 x] w (PutP 2 base B i (.slice o n c) xs x w) := by
  obtain ⟨i0, hi, hz0, hz1, hz2⟩ := info_parts infoint64
  have hlt : B < w.heap.size := World.block_lt_of_cell? w _ hcell
  have h1 : Hid ((w.alloc (.cells #[.int .i64 x] 2)).ownsRow base 2 1 (.slice o n c) n (xs.map (Value.int .i64))) := hown.alloc _
  have h2 := Lib.hid (one_cell _ _ _ _ (Blk.new w 2 #[.int .i64 x]))
  have h3 : Hid (∀ u ∈ [Value.int .i64 x], u.oneCell' = true) := by intro u hu; simp at hu; subst hu; rfl
  have hcap : base ≤ (w.alloc (.cells #[.int .i64 x] 2)).heap.size := by simp; omega
  have hH : (w.alloc (.cells #[.int .i64 x] 2)).heap.size = w.heap.size + 1 := by simp
  have HH := Lib.hid hH
  have HN := Lib.hid hn
  have HE := Lib.hid hne
  have HO := Lib.hid hown
  have hmax : n + 1 ≤ maxLen := by unfold maxLen; omega
  have HM := Lib.hid hmax
  clear hH hn hne hown hmax
  have hc1 := cell_alloc' hcell (.cells #[.int .i64 x] 2)
  have HK : Hid (∀ w1, (w.alloc (.cells #[.int .i64 x] 2)).grownBy w1 (Value.slice o n c).ownBlock → w1.cell? ⟨B, i, none⟩ = some (.slice o n c) ∧ w1.frozen? ⟨B, i, none⟩ = false) := by
    intro w1 hgrow
    refine ⟨hgrow.cell hc1 (by intro e; exact HE.out e.symm), ?_⟩
    rw [frozen_far hgrow (by simp; omega) (by intro e; exact HE.out e.symm), ← hf]
    exact World.frozen?_of_block (Below.heap_alloc w _ B hlt)
  clear hf hc1
  go_enter Try.func70, Try.ntmps70
  go_wp2_with (at_builtin; go_must (refine wpList_append_lies _ rfl _ _ 47 rfl base 2 i0 _ 1 8 Try.underlying47 hi hz0 hz1 hz2 rfl (by decide) _ _ _ rfl h1.out ⟨w.heap.size, 0, none⟩ 1 1 [.int .i64 x] rfl rfl h2.out h3.out (by decide) HM.out (by omega) hcap (w.heap.size + 1) HH.out ?_); intro g cap w1 hown1 hgrow hor hlt1; obtain ⟨hc2, hf2⟩ := HK.out w1 hgrow; have H1 := Lib.hid hown1; have H2 := Lib.hid hgrow; have H3 := Lib.hid hor; clear hown1 hgrow hor)
  go_end0
  refine ⟨rfl, g, cap, w1, ?_, ((Only.refl w).alloc _).grown H2.out (fun k hk => .inl hk), ?_, ?_⟩
  · rw [HN.out, List.map_append]; exact H1.out
  · rcases H3.out with h | h
    · exact .inl h
    · exact .inr (by omega)
  · rw [HN.out]

set_option maxRecDepth 100000 in
set_option maxHeartbeats 1000000 in
theorem all_int64 (base B i n : Nat) (o : Option Addr) (c : Nat) (xs : List Int) (w : World) (hn : xs.length = n) (hm : n ≤ 1000000) (hcell : w.cell? ⟨B, i, none⟩ = some (.slice o n c))
    (hown : w.ownsRow base 2 1 (.slice o n c) n (xs.map (Value.int .i64))) :
    Calls Try.prog 50 #[.pointer (some ⟨B, i, none⟩)] w fun e w' => ∃ v, e = .returned v ∧ w'.ownsRow w.heap.size 2 1 v n (xs.map (Value.int .i64)) ∧ Below w.heap.size w w' := by
  obtain ⟨i0, hi, hz0, hz1, hz2⟩ := info_parts infoint64
  by_cases h0 : n = 0
  · subst h0
    obtain rfl : xs = [] := List.eq_nil_of_length_eq_zero hn
    clear hn hown
    rcases o with _ | a
    all_goals
      go_enter Try.func50, Try.ntmps50
      go_wp2
      go_ret
      exact ⟨_, rfl, World.ownsRow_nil _ _ _ _, Below.refl _ _⟩
  · obtain ⟨g, cap, e0, hb, hlt⟩ := hown.form (by omega)
    injection e0 with e1 _ e3
    subst e1; subst e3
    have hmax : 0 + n ≤ maxLen := by unfold maxLen; omega
    have HM := Lib.hid hmax
    have h2 := Lib.hid (hown.cells (g := g) rfl)
    have h1 := Lib.hid (World.ownsRow_nil w w.heap.size 2 1)
    have h3 : Hid (∀ u ∈ xs.map (Value.int .i64), u.oneCell' = true) := by
      intro u hu
      obtain ⟨x, _, rfl⟩ := List.mem_map.1 hu
      rfl
    have hl : Hid ((xs.map (Value.int .i64)).length = n * 1) := Lib.hid (by simpa using hn)
    have hH := Lib.hid (rfl : w.heap.size = w.heap.size)
    have hpos : 0 < n := by omega
    clear hmax hown hn
    go_enter Try.func50, Try.ntmps50
    go_wp2_with (at_builtin; go_must (refine wpList_append_lies _ rfl _ _ 47 rfl w.heap.size 2 i0 _ 1 8 Try.underlying47 hi hz0 hz1 hz2 rfl (by decide) _ _ _ rfl h1.out ⟨g, 0, none⟩ n c (xs.map (Value.int .i64)) rfl hl.out h2.out h3.out hpos HM.out (by omega) (Nat.le_refl _) w.heap.size hH.out ?_); intro g1 cap1 w1 hown1 hgrow hor hlt1)
    have H1 := Lib.hid hown1
    have H2 := Lib.hid hgrow
    clear hown1 hgrow hor
    go_wp2_with fail
    go_ret
    refine ⟨_, rfl, ?_, ((Only.refl (X := fun _ => False) w).grown H2.out (fun k hk => by cases hk)).below (Nat.le_refl _) (fun k hk => hk.elim)⟩
    have e := H1.out
    simpa using e
end Go.Proofs.Ytdfjbgfdaokjgaa

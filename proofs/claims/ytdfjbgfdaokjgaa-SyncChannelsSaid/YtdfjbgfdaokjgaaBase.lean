/-
  What a call may turn of memory; blocks; rows of memory that are told apart.
-/
import Derived.Test.YtdfjbgfdaokjgaaProg
import Derived.WalkKit
import Derived.WalkSpells
import Derived.WalkLawsBesides
import Derived.Outline
import Derived.Lib.Hide
import Derived.Below
import Derived.OwnWalk
import Derived.LoopTactic
import Derived.Laws.OwnMore
import Derived.Deep.AppendLies
import Derived.RangeFuncNested
import Derived.RangeFuncLeaves
namespace Go.Proofs.Ytdfjbgfdaokjgaa
open Go.RowKit

/-- What a call may turn: blocks of X, and what is new. -/
structure Only (X : Nat → Prop) (w w' : World) : Prop where
  os : w'.os = w.os
  tape : w'.tape = w.tape
  output : w'.output = w.output
  size : w.heap.size ≤ w'.heap.size
  block : ∀ k, k < w.heap.size → ¬ X k → w'.heap[k]? = w.heap[k]?

theorem Only.refl {X} (w : World) : Only X w w := ⟨rfl, rfl, rfl, Nat.le_refl _, fun _ _ _ => rfl⟩
theorem Only.trans {X} {a b c : World} (h : Only X a b) (k : Only X b c) : Only X a c :=
  ⟨k.os.trans h.os, k.tape.trans h.tape, k.output.trans h.output, Nat.le_trans h.size k.size,
   fun i hi hx => (k.block i (Nat.lt_of_lt_of_le hi h.size) hx).trans (h.block i hi hx)⟩
/-- Behind a first call a second one may turn what the first one made, too. -/
theorem Only.then {X Y : Nat → Prop} {a b c : World} (h : Only X a b) (k : Only Y b c) (hy : ∀ i, Y i → X i ∨ a.heap.size ≤ i) : Only X a c :=
  ⟨k.os.trans h.os, k.tape.trans h.tape, k.output.trans h.output, Nat.le_trans h.size k.size,
   fun i hi hx => (k.block i (Nat.lt_of_lt_of_le hi h.size) (fun e => by rcases hy i e with e | e; exact hx e; omega)).trans (h.block i hi hx)⟩
theorem Only.mono {X Y : Nat → Prop} {a b : World} (h : Only X a b) (hx : ∀ k, X k → Y k) : Only Y a b :=
  ⟨h.os, h.tape, h.output, h.size, fun i hi hn => h.block i hi (fun hk => hn (hx _ hk))⟩
theorem Only.drew {X} {a w : World} (h : Only X a w) : Only X a w.drew := ⟨h.os, h.tape, h.output, h.size, h.block⟩
theorem Only.drewN {X} {a w : World} (h : Only X a w) (n : Nat) : Only X a (w.drewN n) := ⟨h.os, h.tape, h.output, h.size, h.block⟩
theorem Only.alloc {X} {a w : World} (h : Only X a w) (o : Obj) : Only X a (w.alloc o) :=
  h.trans ⟨rfl, rfl, rfl, by simp, fun k hk _ => Below.heap_alloc _ _ _ hk⟩
theorem Only.setCell {X} {a w : World} (h : Only X a w) {p : Addr} (hp : X p.block ∨ a.heap.size ≤ p.block) (u : Value) : Only X a (w.setCell p u) :=
  ⟨h.os, h.tape, h.output, by have := h.size; simpa [World.setCell] using this, fun k hk hx => (Below.heap_setCell _ _ _ _ (by
    rintro rfl
    rcases hp with hp | hp
    · exact hx hp
    · omega)).trans (h.block k hk hx)⟩
theorem Only.putObj {X : Nat → Prop} {a w : World} (h : Only X a w) {l : Nat} (hl : X l ∨ a.heap.size ≤ l) (o : Obj) : Only X a (w.putObj l o) :=
  ⟨h.os, h.tape, h.output, by have := h.size; simpa using this, fun k hk hx => (World.putObj_heap_other (by
    rintro rfl
    rcases hl with hl | hl
    · exact hx hl
    · omega)).trans (h.block k hk hx)⟩
theorem Only.grown {X : Nat → Prop} {a w w' : World} {row : Option Nat} (h : Only X a w) (hg : w.grownBy w' row) (hr : ∀ k, row = some k → X k ∨ a.heap.size ≤ k) : Only X a w' :=
  ⟨hg.os.trans h.os, hg.tape.trans h.tape, hg.output.trans h.output, Nat.le_trans h.size hg.size, fun k hk hx => (hg.block k (Nat.lt_of_lt_of_le hk h.size) (fun e => by
    rcases hr k e.symm with h1 | h1
    · exact hx h1
    · omega)).trans (h.block k hk hx)⟩
theorem Only.below {X} {a w : World} (h : Only X a w) {n : Nat} (hn : n ≤ a.heap.size) (hx : ∀ k, X k → n ≤ k) : Below n a w :=
  ⟨h.os, h.tape, h.output, h.size, fun k hk => h.block k (by omega) (fun hk' => by have := hx k hk'; omega)⟩
theorem Only.of_below {X} {a w : World} (h : Below a.heap.size a w) : Only X a w := ⟨h.os, h.tape, h.output, h.size, fun k hk _ => h.block k hk⟩
theorem below_drewN' (m : Nat) (w : World) (n : Nat) : Below m w (w.drewN n) := ⟨rfl, rfl, rfl, Nat.le_refl _, fun _ _ => rfl⟩

/-! A block, known whole. -/
def Blk (w : World) (g : Nat) (t : TypeId) (cs : Array Value) : Prop := w.heap[g]? = some (.cells cs t (0, 0))
section
variable {w w' : World} {g : Nat} {t : TypeId} {cs : Array Value}
theorem Blk.lt (h : Blk w g t cs) : g < w.heap.size := (Array.getElem?_eq_some_iff.1 h).1
theorem Blk.cell (h : Blk w g t cs) (i : Nat) : w.cell? ⟨g, i, none⟩ = cs[i]? := cell_of_row w g i cs t (0, 0) h
theorem Blk.frozen (h : Blk w g t cs) (i : Nat) : w.frozen? ⟨g, i, none⟩ = false := by
  unfold Blk at h
  simp [World.frozen?, h]
theorem Blk.new (w : World) (t : TypeId) (cs : Array Value) : Blk (w.alloc (.cells cs t)) w.heap.size t cs := heap_alloc_new w _
theorem Blk.new' (W : World) (t : TypeId) (cs : Array Value) (B : Nat) (hB : B = W.heap.size) : Blk (W.alloc (.cells cs t)) B t cs := by rw [hB]; exact heap_alloc_new W _
theorem Blk.alloc (h : Blk w g t cs) (o : Obj) : Blk (w.alloc o) g t cs := (Below.heap_alloc w o g h.lt).trans h
theorem Blk.drew (h : Blk w g t cs) : Blk w.drew g t cs := h
theorem Blk.only {X} (h : Blk w g t cs) (ho : Only X w w') (hx : ¬ X g) : Blk w' g t cs := (ho.block g h.lt hx).trans h
theorem Blk.below {n : Nat} (h : Blk w g t cs) (hb : Below n w w') (hg : g < n) : Blk w' g t cs := (hb.block g hg).trans h
theorem Blk.set_ (h : Blk w g t cs) (i : Nat) (u : Value) : Blk (w.setCell ⟨g, i, none⟩ u) g t (cs.setIfInBounds i u) := by
  unfold Blk at h ⊢
  simp [World.setCell, Array.getElem?_modify, h]
theorem Blk.far (h : Blk w g t cs) {p : Addr} (hp : g ≠ p.block) (u : Value) : Blk (w.setCell p u) g t cs := (Below.heap_setCell w p u g hp).trans h
theorem Blk.grown {row : Option Nat} (h : Blk w g t cs) (hg : w.grownBy w' row) (hne : some g ≠ row) : Blk w' g t cs := (hg.block g h.lt hne).trans h
theorem Blk.putObj (h : Blk w g t cs) {l : Nat} (hne : g ≠ l) (o : Obj) : Blk (w.putObj l o) g t cs := (World.putObj_heap_other hne).trans h
theorem Blk.two {a b : Value} (h : Blk w g t #[a, b]) : w.cell? ⟨g, 0, none⟩ = some a ∧ w.cell? ⟨g, 1, none⟩ = some b ∧ w.frozen? ⟨g, 0, none⟩ = false ∧ w.frozen? ⟨g, 1, none⟩ = false :=
  ⟨h.cell 0, h.cell 1, h.frozen 0, h.frozen 1⟩
theorem Blk.four {a b c d : Value} (h : Blk w g t #[a, b, c, d]) : w.cell? ⟨g, 0, none⟩ = some a ∧ w.cell? ⟨g, 1, none⟩ = some b ∧ w.cell? ⟨g, 2, none⟩ = some c ∧ w.cell? ⟨g, 3, none⟩ = some d ∧
    w.frozen? ⟨g, 0, none⟩ = false ∧ w.frozen? ⟨g, 1, none⟩ = false ∧ w.frozen? ⟨g, 2, none⟩ = false ∧ w.frozen? ⟨g, 3, none⟩ = false :=
  ⟨h.cell 0, h.cell 1, h.cell 2, h.cell 3, h.frozen 0, h.frozen 1, h.frozen 2, h.frozen 3⟩
theorem Blk.five {a b c d e : Value} (h : Blk w g t #[a, b, c, d, e]) : w.cell? ⟨g, 0, none⟩ = some a ∧ w.cell? ⟨g, 1, none⟩ = some b ∧ w.cell? ⟨g, 2, none⟩ = some c ∧ w.cell? ⟨g, 3, none⟩ = some d ∧ w.cell? ⟨g, 4, none⟩ = some e ∧
    w.frozen? ⟨g, 0, none⟩ = false ∧ w.frozen? ⟨g, 1, none⟩ = false ∧ w.frozen? ⟨g, 2, none⟩ = false ∧ w.frozen? ⟨g, 3, none⟩ = false ∧ w.frozen? ⟨g, 4, none⟩ = false :=
  ⟨h.cell 0, h.cell 1, h.cell 2, h.cell 3, h.cell 4, h.frozen 0, h.frozen 1, h.frozen 2, h.frozen 3, h.frozen 4⟩
end

theorem ownsRow_block {w w' : World} {base : Nat} {e : TypeId} {size : Nat} {v : Value} {n : Nat} {xs : List Value} (h : w.ownsRow base e size v n xs) (hb : ∀ g, v.ownBlock = some g → w'.heap[g]? = w.heap[g]?) : w'.ownsRow base e size v n xs := by
  rcases h with ⟨h1, h2 | ⟨g, cap, cur, hv, hb', hh, hr⟩⟩
  · exact ⟨h1, .inl h2⟩
  · exact ⟨h1, .inr ⟨g, cap, cur, hv, hb', (hb g (by rw [hv]; rfl)).trans hh, hr⟩⟩
theorem ownsRow_base {w : World} {base base' : Nat} {e : TypeId} {size : Nat} {v : Value} {n : Nat} {xs : List Value} (h : w.ownsRow base e size v n xs) (hb : base' ≤ base) : w.ownsRow base' e size v n xs := by
  rcases h with ⟨h1, h2 | ⟨g, cap, cur, hv, hb', hr⟩⟩
  · exact ⟨h1, .inl h2⟩
  · exact ⟨h1, .inr ⟨g, cap, cur, hv, Nat.le_trans hb hb', hr⟩⟩
/-- A row that is owned is one of a new block on, if its block is new. -/
theorem ownsRow_from {w : World} {base base' : Nat} {e : TypeId} {size : Nat} {v : Value} {n : Nat} {xs : List Value} (h : w.ownsRow base e size v n xs) (hb : ∀ g, v.ownBlock = some g → base' ≤ g) : w.ownsRow base' e size v n xs := by
  rcases h with ⟨h1, h2 | ⟨g, cap, cur, hv, hb', hr⟩⟩
  · exact ⟨h1, .inl h2⟩
  · exact ⟨h1, .inr ⟨g, cap, cur, hv, hb g (by rw [hv]; rfl), hr⟩⟩
/-- What a slice of a row looks like. -/
theorem row_shape {w : World} {b : Nat} {t : TypeId} {k n : Nat} {v : Value} {xs : List Value} (h : w.ownsRow b t k v n xs) : ∃ o c, v = .slice o n c ∧ (0 < n → ∃ g, o = some ⟨g, 0, none⟩ ∧ b ≤ g ∧ g < w.heap.size) := by
  rcases h.2 with ⟨rfl, h0⟩ | ⟨g, c, _, rfl, hb, hh, _⟩
  · exact ⟨none, 0, by rw [h0], fun h => by omega⟩
  · exact ⟨_, c, rfl, fun _ => ⟨g, rfl, hb, (Array.getElem?_eq_some_iff.1 hh).1⟩⟩
theorem row_type {w : World} {b : Nat} {t : TypeId} {k n : Nat} {v : Value} {xs : List Value} (h : w.ownsRow b t k v n xs) {g : Nat} (hg : v.ownBlock = some g) {t' : TypeId} {cs : Array Value} (hb : Blk w g t' cs) : t' = t := by
  rcases h.2 with ⟨rfl, h0⟩ | ⟨g', c, cur, rfl, hb', hh, _⟩
  · cases hg
  · obtain rfl : g' = g := by simpa [Value.ownBlock] using hg
    have h2 := hh.symm.trans hb
    simp at h2
    exact h2.2.symm

/-! Rows of memory, told apart. -/
/-- A row: of which type, how many cells a piece has, its slice, how many pieces, its cells. -/
structure Rw where
  e : TypeId
  k : Nat
  v : Value
  n : Nat
  xs : List Value

structure Rows (w : World) (base : Nat) (l : List Rw) : Prop where
  own : ∀ (i : Nat) (r : Rw), l[i]? = some r → w.ownsRow base r.e r.k r.v r.n r.xs
  apart : ∀ (i j : Nat) (r s : Rw), l[i]? = some r → l[j]? = some s → i ≠ j → ∀ b, r.v.ownBlock = some b → s.v.ownBlock ≠ some b

/-- The blocks of rows. -/
def Fp (l : List Rw) (b : Nat) : Prop := ∃ (i : Nat) (r : Rw), l[i]? = some r ∧ r.v.ownBlock = some b

theorem Rows.lt {w : World} {base : Nat} {l : List Rw} (h : Rows w base l) {b : Nat} (hb : Fp l b) : base ≤ b ∧ b < w.heap.size := by
  obtain ⟨i, r, hr, hv⟩ := hb
  exact (h.own i r hr).lt b hv
theorem Rows.only {X} {w w' : World} {base : Nat} {l : List Rw} (h : Rows w base l) (ho : Only X w w') (hx : ∀ b, Fp l b → ¬ X b) : Rows w' base l :=
  ⟨fun i r hr => ownsRow_block (h.own i r hr) (fun g hg => ho.block g ((h.own i r hr).lt g hg).2 (hx g ⟨i, r, hr, hg⟩)), h.apart⟩
theorem Rows.below {w w' : World} {base n : Nat} {l : List Rw} (h : Rows w base l) (hb : Below n w w') (hx : ∀ b, Fp l b → b < n) : Rows w' base l :=
  ⟨fun i r hr => ownsRow_block (h.own i r hr) (fun g hg => hb.block g (hx g ⟨i, r, hr, hg⟩)), h.apart⟩
theorem Rows.nil (w : World) (base : Nat) : Rows w base [] := ⟨fun i r h => by simp at h, fun i j r s h => by simp at h⟩
theorem Rows.mono {w : World} {base base' : Nat} {l : List Rw} (h : Rows w base l) (hb : base' ≤ base) : Rows w base' l := ⟨fun i r hr => ownsRow_base (h.own i r hr) hb, h.apart⟩

/-- One row is turned: it stays where it lay, or lies in what is new. -/
theorem Rows.upd {w w' : World} {base : Nat} {l : List Rw} (h : Rows w base l) {i : Nat} {r r' : Rw} (hi : l[i]? = some r)
    (hr : w'.ownsRow base r'.e r'.k r'.v r'.n r'.xs) (hk : ∀ b, b < w.heap.size → r.v.ownBlock ≠ some b → w'.heap[b]? = w.heap[b]?)
    (hf : ∀ b, r'.v.ownBlock = some b → r.v.ownBlock = some b ∨ w.heap.size ≤ b) : Rows w' base (l.set i r') := by
  have hlt : i < l.length := (List.getElem?_eq_some_iff.1 hi).1
  have hown : ∀ (j : Nat) (s : Rw), j ≠ i → l[j]? = some s → w'.ownsRow base s.e s.k s.v s.n s.xs := fun j s hj hs =>
    ownsRow_block (h.own j s hs) (fun g hg => hk g ((h.own j s hs).lt g hg).2 (fun e => h.apart i j r s hi hs (fun e => hj e.symm) g e hg))
  have hap : ∀ (j : Nat) (s : Rw), j ≠ i → l[j]? = some s → ∀ b, r'.v.ownBlock = some b → s.v.ownBlock ≠ some b := fun j s hj hs b hb hsb => by
    rcases hf b hb with h1 | h1
    · exact h.apart i j r s hi hs (fun e => hj e.symm) b h1 hsb
    · have := ((h.own j s hs).lt b hsb).2; omega
  refine ⟨fun j s hs => ?_, fun j m s t hs ht hjm b hb hsb => ?_⟩
  · rw [List.getElem?_set] at hs
    by_cases h1 : i = j
    · subst h1
      rw [if_pos rfl, if_pos hlt] at hs
      obtain rfl : r' = s := by simpa using hs
      exact hr
    · rw [if_neg h1] at hs
      exact hown j s (fun e => h1 e.symm) hs
  · rw [List.getElem?_set] at hs ht
    by_cases h1 : i = j
    · subst h1
      rw [if_pos rfl, if_pos hlt] at hs
      obtain rfl : r' = s := by simpa using hs
      rw [if_neg hjm] at ht
      exact hap m t (fun e => hjm e.symm) ht b hb hsb
    · rw [if_neg h1] at hs
      by_cases h2 : i = m
      · subst h2
        rw [if_pos rfl, if_pos hlt] at ht
        obtain rfl : r' = t := by simpa using ht
        exact hap j s (fun e => h1 e.symm) hs b hsb hb
      · rw [if_neg h2] at ht
        exact h.apart j m s t hs ht hjm b hb hsb
theorem Fp.set {l : List Rw} {i : Nat} {r' : Rw} {b : Nat} (h : Fp (l.set i r') b) : Fp l b ∨ r'.v.ownBlock = some b := by
  obtain ⟨j, s, hs, hb⟩ := h
  rw [List.getElem?_set] at hs
  split at hs
  · split at hs
    · simp at hs; subst hs; exact .inr hb
    · cases hs
  · exact .inl ⟨j, s, hs, hb⟩
/-- A row that is new beside others. -/
theorem Rows.cons {w : World} {base : Nat} {l : List Rw} (h : Rows w base l) {r : Rw} (hr : w.ownsRow base r.e r.k r.v r.n r.xs) (hn : ∀ b, r.v.ownBlock = some b → ¬ Fp l b) : Rows w base (r :: l) := by
  refine ⟨fun i s hs => ?_, fun i j s t hs ht hij b hb htb => ?_⟩
  · cases i with
    | zero => simp at hs; subst hs; exact hr
    | succ i => exact h.own i s (by simpa using hs)
  · cases i with
    | zero =>
      simp at hs; subst hs
      cases j with
      | zero => exact hij rfl
      | succ j => exact hn b hb ⟨j, t, by simpa using ht, htb⟩
    | succ i =>
      cases j with
      | zero => simp at ht; subst ht; exact hn b htb ⟨i, s, by simpa using hs, hb⟩
      | succ j => exact h.apart i j s t (by simpa using hs) (by simpa using ht) (by omega) b hb htb
theorem Fp.cons {r : Rw} {l : List Rw} {b : Nat} (h : Fp (r :: l) b) : r.v.ownBlock = some b ∨ Fp l b := by
  obtain ⟨i, s, hs, hb⟩ := h
  cases i with
  | zero => simp at hs; subst hs; exact .inl hb
  | succ i => exact .inr ⟨i, s, by simpa using hs, hb⟩
theorem Rows.snoc {w : World} {base : Nat} {l : List Rw} (h : Rows w base l) {r : Rw} (hr : w.ownsRow base r.e r.k r.v r.n r.xs) (hn : ∀ b, r.v.ownBlock = some b → ¬ Fp l b) : Rows w base (l ++ [r]) := by
  have hx : ∀ (i : Nat) (s : Rw), (l ++ [r])[i]? = some s → l[i]? = some s ∨ (i = l.length ∧ s = r) := fun i s hs => by
    rw [List.getElem?_append] at hs
    split at hs
    · exact .inl hs
    · rename_i hge
      by_cases e : i - l.length = 0
      · rw [e] at hs; simp at hs; exact .inr ⟨by omega, hs.symm⟩
      · rw [List.getElem?_eq_none (by simp; omega)] at hs; cases hs
  refine ⟨fun i s hs => ?_, fun i j s t hs ht hij b hb htb => ?_⟩
  · rcases hx i s hs with h1 | ⟨_, rfl⟩
    · exact h.own i s h1
    · exact hr
  · rcases hx i s hs with h1 | ⟨e1, rfl⟩
    · rcases hx j t ht with h2 | ⟨_, rfl⟩
      · exact h.apart i j s t h1 h2 hij b hb htb
      · exact hn b htb ⟨i, s, h1, hb⟩
    · rcases hx j t ht with h2 | ⟨e2, rfl⟩
      · exact hn b hb ⟨j, t, h2, htb⟩
      · exact hij (e1.trans e2.symm)
end Go.Proofs.Ytdfjbgfdaokjgaa

/-
  One mutex, one condition, one channel, and what has come of them: what lies between two calls.
-/
import Derived.Test.YtdfjbgfdaokjgaaSt
namespace Go.Proofs.Ytdfjbgfdaokjgaa
open Go.RowKit

/-- A call, as data. -/
structure ActL where
  what : Int
  n : Int
  thread : Int
  value : Int
def actC (x : ActL) : Array Value := #[.int .i64 x.what, .int .i64 x.n, .int .i64 x.thread, .int .i64 x.value]
/-- Calls as a slice has them. -/
def ActsAt (w : World) (o : Option Addr) (xs : List ActL) : Prop := (0 < xs.length → ∃ g off, o = some ⟨g, off, none⟩) ∧ ∀ g off, o = some ⟨g, off, none⟩ → ∀ (j : Nat) (x : ActL), xs[j]? = some x →
  w.cell? ⟨g, off + j * 4, none⟩ = some (.int .i64 x.what) ∧ w.cell? ⟨g, off + j * 4 + 1, none⟩ = some (.int .i64 x.n) ∧ w.cell? ⟨g, off + j * 4 + 2, none⟩ = some (.int .i64 x.thread) ∧ w.cell? ⟨g, off + j * 4 + 3, none⟩ = some (.int .i64 x.value)
theorem cell_below {w w' : World} {g j : Nat} {u : Value} (hb : Below w.heap.size w w') (h : w.cell? ⟨g, j, none⟩ = some u) : w'.cell? ⟨g, j, none⟩ = some u :=
  (hb.cell (p := ⟨g, j, none⟩) (World.block_lt_of_cell? w _ h)).trans h
theorem ActsAt.below {w w' : World} {o : Option Addr} {xs : List ActL} (h : ActsAt w o xs) (hb : Below w.heap.size w w') : ActsAt w' o xs :=
  ⟨h.1, fun g off he j x hx => by
    obtain ⟨h1, h2, h3, h4⟩ := h.2 g off he j x hx
    exact ⟨cell_below hb h1, cell_below hb h2, cell_below hb h3, cell_below hb h4⟩⟩

def ordS (owner : Int) (came : List Int) (woken : Nat) (room : Int) (ins : List Int) (out : Nat) : SM := ⟨[owner], [came.drop woken], [⟨room, ins, out⟩]⟩
section
variable {owner room t v : Int} {came ins : List Int} {woken out : Nat}
theorem ord_lock_bad (ht : inB 0 7 t = false) : lockS (ordS owner came woken room ins out) 0 t = (ordS owner came woken room ins out, false, 2) := by simp [lockS, ordS, at_, ht]
theorem ord_lock_yes (ht : inB 0 7 t = true) : lockS (ordS (-1) came woken room ins out) 0 t = (ordS t came woken room ins out, true, 0) := by simp [lockS, ordS, at_, ht]
theorem ord_lock_no (ht : inB 0 7 t = true) (ho : owner ≠ -1) : lockS (ordS owner came woken room ins out) 0 t = (ordS owner came woken room ins out, false, 0) := by simp [lockS, ordS, at_, ht, ho]
theorem ord_unlock_bad (ht : inB 0 7 t = false) : unlockS (ordS owner came woken room ins out) 0 t = (ordS owner came woken room ins out, 2) := by simp [unlockS, ordS, at_, ht]
theorem ord_unlock_yes (ht : inB 0 7 t = true) : unlockS (ordS t came woken room ins out) 0 t = (ordS (-1) came woken room ins out, 0) := by simp [unlockS, ordS, at_, ht]
theorem ord_unlock_no (ht : inB 0 7 t = true) (ho : owner ≠ t) : unlockS (ordS owner came woken room ins out) 0 t = (ordS owner came woken room ins out, 140) := by simp [unlockS, ordS, at_, ht, ho]
theorem ord_wait (hw : woken ≤ came.length) : (∃ e, e ≠ 0 ∧ waitS (ordS owner came woken room ins out) 0 t = (ordS owner came woken room ins out, e)) ∨ waitS (ordS owner came woken room ins out) 0 t = (ordS owner (came ++ [t]) woken room ins out, 0) := by
  cases ht : inB 0 7 t with
  | false => exact .inl ⟨2, by omega, by simp [waitS, ordS, at_, ht]⟩
  | true =>
    by_cases h : t ∈ came.drop woken
    · exact .inl ⟨141, by omega, by simp [waitS, ordS, at_, ht, h]⟩
    · exact .inr (by simp [waitS, ordS, at_, ht, h, List.drop_append_of_le_length hw])
theorem ord_signal_no (hw : woken = came.length) : signalS (ordS owner came woken room ins out) 0 = (ordS owner came woken room ins out, 0, false, 0) := by
  subst hw; simp [signalS, ordS, at_]
theorem ord_signal_yes {x : Int} (hx : came[woken]? = some x) : signalS (ordS owner came woken room ins out) 0 = (ordS owner came (woken + 1) room ins out, x, true, 0) := by
  have hd : came.drop woken = x :: came.drop (woken + 1) := by
    rw [List.drop_eq_getElem_cons (List.getElem?_eq_some_iff.1 hx).1, (List.getElem?_eq_some_iff.1 hx).2]
  simp [signalS, ordS, at_, hd]
theorem ord_send_bad (ht : inB (-2147483648) 2147483647 v = false) : sendS (ordS owner came woken room ins out) 0 v = (ordS owner came woken room ins out, 0, false, 2) := by simp [sendS, ordS, at_, ht]
theorem ord_send_no (ht : inB (-2147483648) 2147483647 v = true) (hr : room ≤ ((ins.length - out : Nat) : Int)) : sendS (ordS owner came woken room ins out) 0 v = (ordS owner came woken room ins out, 0, false, 0) := by
  simp [sendS, ordS, at_, ht, Cn.rest, hr]
theorem ord_send_yes (ht : inB (-2147483648) 2147483647 v = true) (hr : ¬ room ≤ ((ins.length - out : Nat) : Int)) : sendS (ordS owner came woken room ins out) 0 v = (ordS owner came woken room (ins ++ [v]) out, (ins.length : Int), true, 0) := by
  simp [sendS, ordS, at_, ht, Cn.rest, hr]
theorem ord_recv_no (ho : out = ins.length) : recvS (ordS owner came woken room ins out) 0 = (ordS owner came woken room ins out, 0, 0, false, 0) := by
  subst ho; simp [recvS, ordS, at_, Cn.rest]
theorem ord_recv_yes {x : Int} (hx : ins[out]? = some x) : recvS (ordS owner came woken room ins out) 0 = (ordS owner came woken room ins (out + 1), x, (out : Int), true, 0) := by
  have hd : ins.drop out = x :: ins.drop (out + 1) := by
    rw [List.drop_eq_getElem_cons (List.getElem?_eq_some_iff.1 hx).1, (List.getElem?_eq_some_iff.1 hx).2]
  simp [recvS, ordS, at_, Cn.rest, hd]
end

/-- What lies between two calls. -/
structure OrdI (W wr : World) (p k : Nat) (F : Nat → Prop) (room owner : Int) (ins came : List Int) (out woken : Nat) (o7 : Option Addr) (c7 : Nat) (o8 : Option Addr) (c8 : Nat) : Prop where
  st : St W wr p k (ordS owner came woken room ins out) F
  r7 : wr.ownsRow W.heap.size 2 1 (.slice o7 ins.length c7) ins.length (ins.map (Value.int .i64))
  r8 : wr.ownsRow W.heap.size 3 1 (.slice o8 came.length c8) came.length (came.map (Value.int .i64))
  a7 : ∀ b, (Value.slice o7 ins.length c7).ownBlock = some b → ¬ F b
  a8 : ∀ b, (Value.slice o8 came.length c8).ownBlock = some b → ¬ F b
  l7 : ins.length ≤ k
  l8 : came.length ≤ k
  lo : out ≤ ins.length
  lw : woken ≤ came.length
  own : -1 ≤ owner ∧ owner ≤ 7
section
variable {W wr w' : World} {p k : Nat} {F : Nat → Prop} {room owner : Int} {ins came : List Int} {out woken : Nat} {o7 : Option Addr} {c7 : Nat} {o8 : Option Addr} {c8 : Nat}
theorem OrdI.below (h : OrdI W wr p k F room owner ins came out woken o7 c7 o8 c8) (hb : Below wr.heap.size wr w') : OrdI W w' p k F room owner ins came out woken o7 c7 o8 c8 :=
  ⟨h.st.below hb, ownsRow_block h.r7 (fun g hg => hb.block g (h.r7.lt g hg).2), ownsRow_block h.r8 (fun g hg => hb.block g (h.r8.lt g hg).2), h.a7, h.a8, h.l7, h.l8, h.lo, h.lw, h.own⟩
/-- Behind a call of the state's. -/
theorem OrdI.next {N : Nat} {s' : SM} {owner' : Int} {out' woken' : Nat} (h : OrdI W wr p k F room owner ins came out woken o7 c7 o8 c8) (hn : Nx W wr w' p N s' F) (hN : N ≤ k + 1) (hs : s' = ordS owner' came woken' room ins out') (ho : out' ≤ ins.length) (hw : woken' ≤ came.length) (hown : -1 ≤ owner' ∧ owner' ≤ 7) :
    ∃ F', OrdI W w' p (k + 1) F' room owner' ins came out' woken' o7 c7 o8 c8 := by
  obtain ⟨F', hst, ho', hF⟩ := hn
  subst hs
  refine ⟨F', hst.mono hN, ownsRow_block h.r7 (fun g hg => ho'.block g (h.r7.lt g hg).2 (h.a7 g hg)), ownsRow_block h.r8 (fun g hg => ho'.block g (h.r8.lt g hg).2 (h.a8 g hg)), fun b hb hf => ?_, fun b hb hf => ?_, by have := h.l7; omega, by have := h.l8; omega, ho, hw, hown⟩
  · rcases hF b hf with h1 | h1
    · exact h.a7 b hb h1
    · have := (h.r7.lt b hb).2; omega
  · rcases hF b hf with h1 | h1
    · exact h.a8 b hb h1
    · have := (h.r8.lt b hb).2; omega
/-- A list of one's own, and the state that has turned. -/
theorem OrdI.apart78 (h7 : wr.ownsRow W.heap.size 2 1 (.slice o7 ins.length c7) ins.length (ins.map (Value.int .i64))) (h8 : wr.ownsRow W.heap.size 3 1 (.slice o8 came.length c8) came.length (came.map (Value.int .i64))) :
    ∀ b, (Value.slice o7 ins.length c7).ownBlock = some b → (Value.slice o8 came.length c8).ownBlock ≠ some b := fun b h1 h2 => by
  rcases h7.2 with ⟨e, _⟩ | ⟨g, cap, cur, e, _, hg, _⟩
  · rw [e] at h1; cases h1
  · rw [e] at h1
    obtain rfl : g = b := by simpa [Value.ownBlock] using h1
    have := row_type h8 h2 hg
    exact absurd this (by decide)
/-- One more has come. -/
theorem OrdI.came1 {wx w1 : World} {t : Int} {g cap : Nat} (hst : St W wx p (k + 1) (ordS owner (came ++ [t]) woken room ins out) F) (h7 : wx.ownsRow W.heap.size 2 1 (.slice o7 ins.length c7) ins.length (ins.map (Value.int .i64)))
    (h8 : wx.ownsRow W.heap.size 3 1 (.slice o8 came.length c8) came.length (came.map (Value.int .i64))) (a7 : ∀ b, (Value.slice o7 ins.length c7).ownBlock = some b → ¬ F b) (a8 : ∀ b, (Value.slice o8 came.length c8).ownBlock = some b → ¬ F b)
    (hown : w1.ownsRow W.heap.size 3 1 (.slice (some ⟨g, 0, none⟩) (came.length + 1) cap) (came.length + 1) (came.map (Value.int .i64) ++ [.int .i64 t])) (hg : (wx.alloc (.cells #[.int .i64 t] 3)).grownBy w1 (Value.slice o8 came.length c8).ownBlock)
    (hor : (Value.slice o8 came.length c8).ownBlock = some g ∨ g = wx.heap.size + 1) (l7 : ins.length ≤ k) (l8 : came.length ≤ k) (lo : out ≤ ins.length) (lw : woken ≤ came.length) (ho : -1 ≤ owner ∧ owner ≤ 7) :
    OrdI W w1 p (k + 1) F room owner ins (came ++ [t]) out woken o7 c7 (some ⟨g, 0, none⟩) cap := by
  have hO : Only (fun b => (Value.slice o8 came.length c8).ownBlock = some b) wx w1 := ((Only.refl wx).alloc _).grown hg (fun k hk => .inl hk)
  refine ⟨hst.only hO (fun b hb => ⟨(h8.lt b hb).1, a8 b hb⟩), ownsRow_block h7 (fun b hb => hO.block b (h7.lt b hb).2 (OrdI.apart78 h7 h8 b hb)), ?_, a7, fun b hb hf => ?_, by omega, by simp; omega, lo, by simp; omega, ho⟩
  · rw [List.length_append, List.map_append]; exact hown
  · obtain rfl : g = b := by simpa [Value.ownBlock] using hb
    rcases hor with h | h
    · exact a8 g h hf
    · have := (hst.lt hf).2; omega
/-- One more was sent. -/
theorem OrdI.sent1 {wx w1 : World} {t : Int} {g cap : Nat} (hst : St W wx p (k + 1) (ordS owner came woken room (ins ++ [t]) out) F) (h7 : wx.ownsRow W.heap.size 2 1 (.slice o7 ins.length c7) ins.length (ins.map (Value.int .i64)))
    (h8 : wx.ownsRow W.heap.size 3 1 (.slice o8 came.length c8) came.length (came.map (Value.int .i64))) (a7 : ∀ b, (Value.slice o7 ins.length c7).ownBlock = some b → ¬ F b) (a8 : ∀ b, (Value.slice o8 came.length c8).ownBlock = some b → ¬ F b)
    (hown : w1.ownsRow W.heap.size 2 1 (.slice (some ⟨g, 0, none⟩) (ins.length + 1) cap) (ins.length + 1) (ins.map (Value.int .i64) ++ [.int .i64 t])) (hg : (wx.alloc (.cells #[.int .i64 t] 2)).grownBy w1 (Value.slice o7 ins.length c7).ownBlock)
    (hor : (Value.slice o7 ins.length c7).ownBlock = some g ∨ g = wx.heap.size + 1) (l7 : ins.length ≤ k) (l8 : came.length ≤ k) (lo : out ≤ ins.length) (lw : woken ≤ came.length) (ho : -1 ≤ owner ∧ owner ≤ 7) :
    OrdI W w1 p (k + 1) F room owner (ins ++ [t]) came out woken (some ⟨g, 0, none⟩) cap o8 c8 := by
  have hO : Only (fun b => (Value.slice o7 ins.length c7).ownBlock = some b) wx w1 := ((Only.refl wx).alloc _).grown hg (fun k hk => .inl hk)
  refine ⟨hst.only hO (fun b hb => ⟨(h7.lt b hb).1, a7 b hb⟩), ?_, ownsRow_block h8 (fun b hb => hO.block b (h8.lt b hb).2 (fun e => OrdI.apart78 h7 h8 b e hb)), fun b hb hf => ?_, a8, by simp; omega, by omega, by simp; omega, lw, ho⟩
  · rw [List.length_append, List.map_append]; exact hown
  · obtain rfl : g = b := by simpa [Value.ownBlock] using hb
    rcases hor with h | h
    · exact a7 g h hf
    · have := (hst.lt hf).2; omega
end
end Go.Proofs.Ytdfjbgfdaokjgaa

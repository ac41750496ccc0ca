/-
  What lies between two acts of a law.
-/
import Derived.Test.YtdfjbgfdaokjgaaActC
import Derived.Test.YtdfjbgfdaokjgaaActs
namespace Go.Proofs.Ytdfjbgfdaokjgaa
open Go.RowKit

/-- Both states alike; the reference's lies in a box of the law's. -/
structure LoopI (W wr : World) (p k bw : Nat) (F : Nat → Prop) (s : SM) (y : RLy) : Prop where
  st : St W wr p k s F
  box : Blk wr bw 33 (hdR y s)
  rs : RSt (fun b => F b ∨ b = bw) wr y s
  free : ¬ F bw
  hbw : W.heap.size ≤ bw
  th : Th s
section
variable {W wr w' : World} {p k bw : Nat} {F : Nat → Prop} {s s' : SM} {y : RLy}
theorem LoopI.below (h : LoopI W wr p k bw F s y) (hb : Below wr.heap.size wr w') : LoopI W w' p k bw F s y :=
  ⟨h.st.below hb, h.box.below hb h.box.lt, h.rs.below hb, h.free, h.hbw, h.th⟩
/-- Behind an act, what it told laid into the box. -/
theorem LoopI.next (h : LoopI W wr p k bw F s y) {wx : World} (hx : Below wr.heap.size wr wx) {F' : Nat → Prop} {z : RLy} (hst : St W w' p (k + 1) s' F') (hr : RSt (fun b => (F b ∨ b = bw) ∨ F' b) w' z s') (ho : Only F wx w') (hF : ∀ b, F' b → F b ∨ wx.heap.size ≤ b) (ht : Th s')
    {u0 u1 u2 u3 u4 : Value} (hu : #[u0, u1, u2, u3, u4] = hdR z s') : LoopI W (fill5 w' bw u0 u1 u2 u3 u4) p (k + 1) bw F' s' z := by
  have hf : ¬ F' bw := fun hb => (hF bw hb).elim h.free (fun h1 => by have := h.box.lt; have := hx.size; omega)
  have hk := fill5_only w' bw u0 u1 u2 u3 u4
  have hbox : Blk w' bw 33 (hdR y s) := (h.box.below hx h.box.lt).only ho h.free
  refine ⟨hst.only hk (fun b hb => by subst hb; exact ⟨h.hbw, hf⟩), by rw [← hu]; exact fill5_blk hbox, hr.end_ (hk.mono (fun b hb => .inl (.inr hb))) (fun b hb => ?_), hf, h.hbw, ht⟩
  rcases hb with hb | hb
  · exact .inl (.inr hb)
  · exact .inl (.inl (.inr hb))
theorem RNewP.get {m c : Int} {rs : List Int} {w : World} {e : Ending} {w' : World} (h : RNewP m c rs w e w') (hn : newNo m c rs = 0) : Below w.heap.size w w' ∧ ∃ z, e = .returned (.tuple #[.agg (hdR z (newS m.toNat c.toNat rs)), .int .i64 0]) ∧ ROut w' w.heap.size z (newS m.toNat c.toNat rs) := by
  obtain ⟨h1, ⟨h2, _⟩ | ⟨_, h3⟩⟩ := h
  · rw [hn] at h2; cases h2
  · exact ⟨h1, h3⟩
theorem th_new (nm nc : Nat) (rs : List Int) : Th (newS nm nc rs) := by
  intro l hl x hx
  simp [newS] at hl
  rw [hl.2] at hx
  cases hx
end
end Go.Proofs.Ytdfjbgfdaokjgaa

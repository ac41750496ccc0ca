/-
  A form, read out of an argument; lists of numbers as arguments; any act.
-/
import Derived.Test.YtdfjbgfdaokjgaaLoop
import Derived.ChangeSlices
namespace Go.Proofs.Ytdfjbgfdaokjgaa
open Go.RowKit Go.ChangeShapes Go.WideShapes Go.Deep

section
variable {H : Type} {enc : TypeId × Value → H} {w : World} {base : Nat} {spare : Nat → Bool} {held : Bool} {fuel : Nat}
set_option maxRecDepth 100000 in
theorem ints_arg {t e : TypeId} {cs : List Value} {x : DataW H × List MemPlace} (ht : Try.prog.underlying t = some (.slice e)) (he : Try.prog.underlying e = some (.int .i64)) (hc : Try.prog.cellsOf e = 1)
    (h : DataW.trod enc Try.prog w base (fun _ => true) held fuel t cs = some x) : ∃ (o : Option Addr) (zs : List Int) (cp : Nat), cs = [.slice o zs.length cp] ∧ IntsAt w o zs := by
  rcases open_ints ht he hc h with ⟨rfl, -⟩ | ⟨a, len, cap, zs, rfl, -, hl, -, hz, -, hx, -⟩
  · exact ⟨none, [], 0, rfl, IntsAt.nil _ _⟩
  · have hz' : zs.length = cap := by simpa using hz
    obtain ⟨g, off, spot⟩ := a
    refine ⟨some ⟨g, off, spot⟩, zs.take len, cap, by rw [List.length_take, Nat.min_eq_left (by omega)], fun h0 => ?_, fun g' off' he j z hj => ?_⟩
    · have h1 := hx 0 (by rw [List.length_take] at h0; omega)
      refine ⟨g, off, ?_⟩
      cases spot with
      | none => rfl
      | some s => simp [Addr.add, World.cell?] at h1; split at h1 <;> cases h1
    · injection he with he
      injection he with e1 e2 e3
      subst e1; subst e2; subst e3
      have hj2 := (List.getElem?_eq_some_iff.1 hj).1
      have hj3 : j < zs.length := by rw [List.length_take] at hj2; omega
      have h1 := hx j hj3
      rw [add_plain] at h1
      refine Eq.trans h1 ?_
      have hj4 : zs[j]? = some z := by
        rw [List.getElem?_take] at hj
        by_cases hq : j < len
        · rw [if_pos hq] at hj; exact hj
        · rw [if_neg hq] at hj; cases hj
      have e : zs.getD j 0 = z := by rw [List.getD_eq_getElem?_getD, hj4]; rfl
      exact congrArg some (congrArg (Value.int .i64) e)
end
theorem form_cells : Try.prog.cellsOf 24 = 3 := by kernel_rfl
theorem ints_cells : Try.prog.cellsOf 22 = 1 := by kernel_rfl
section
variable {H : Type} {enc : TypeId × Value → H} {W : World}
set_option maxRecDepth 100000 in
/-- The argument is a form. -/
theorem open_form {b0 : Nat} {v : Value} {d : DataW H} {ps : List MemPlace} (hval : Value.okWide Try.prog W .any b0 24 v) (h : DataW.Trod enc Try.prog W 0 (fun _ => true) true 24 v d ps) :
    ∃ (m c : Int) (o : Option Addr) (rs : List Int) (cp : Nat), v = .agg #[.int .i64 m, .int .i64 c, .slice o rs.length cp] ∧ IntsAt W o rs := by
  obtain ⟨cs, rfl, hsz⟩ := okWide_struct Try.underlying24 hval
  obtain ⟨fuel, hf⟩ := h
  obtain ⟨xs, n, -, -, hl, hn, hx⟩ := DataW.trod_struct Try.underlying24 hf
  rw [form_cells] at hsz hl
  obtain ⟨cl⟩ := cs
  match xs, hn, cl, hsz, hx with
  | [y0, y1, y2], _, [v0, v1, v2], _, hx =>
    have g0 : DataW.trod enc Try.prog W 0 (fun _ => true) true n 3 (([v0, v1, v2].drop 0).take (Try.prog.cellsOf 3)) = some y0 := hx 0 _ rfl
    rw [int_cells] at g0
    have g1 : DataW.trod enc Try.prog W 0 (fun _ => true) true n 3 (([v0, v1, v2].drop 1).take (Try.prog.cellsOf 3)) = some y1 := hx 1 _ rfl
    rw [int_cells] at g1
    have g2 : DataW.trod enc Try.prog W 0 (fun _ => true) true n 22 (([v0, v1, v2].drop 2).take (Try.prog.cellsOf 22)) = some y2 := hx 2 _ rfl
    rw [ints_cells] at g2
    obtain ⟨a, ha, -, -⟩ := DataW.trod_int Try.underlying3 g0
    obtain ⟨b, hb, -, -⟩ := DataW.trod_int Try.underlying3 g1
    obtain ⟨o, zs, cp, hc, hi⟩ := ints_arg Try.underlying22 Try.underlying3 int_cells g2
    refine ⟨a, b, o, zs, cp, ?_, hi⟩
    injection ha with ha _
    injection hb with hb _
    injection hc with hc _
    rw [ha, hb, hc]
end

/-- What an act makes of a state. -/
def actS (s : SM) (x : ActL) : SM :=
  if x.what = 0 then (lockS s x.n x.thread).1 else if x.what = 1 then (unlockS s x.n x.thread).1 else if x.what = 2 then (waitS s x.n x.thread).1 else if x.what = 3 then (signalS s x.n).1
  else if x.what = 4 then (allS s x.n).1 else if x.what = 5 then (sendS s x.n x.value).1 else (recvS s x.n).1
theorem Th.act {s : SM} (h : Th s) (x : ActL) : Th (actS s x) := by
  unfold actS
  split
  · exact h.lock _ _
  split
  · exact h.unlock _ _
  split
  · exact h.wait _ _
  split
  · exact h.signal _
  split
  · exact h.all _
  split
  · exact h.send _ _
  · exact h.recv _
theorem act_any {W w : World} {p N : Nat} {s : SM} {X F : Nat → Prop} {y : RLy} (hs : St W w p N s F) (hN : N ≤ 1000000) (hX : ∀ b, F b → X b) (hXw : ∀ b, X b → b < w.heap.size) (h : RSt X w y s) (hTh : Th s) (x : ActL) :
    Calls Try.prog 32 #[.pointer (some ⟨p, 0, none⟩), .agg (hdR y s), .agg (actC x)] w (ActP W w p (N + 1) X F (actS s x)) := by
  obtain ⟨what, n, t, v⟩ := x
  unfold actS actC
  dsimp only
  by_cases h0 : what = 0
  · rw [if_pos h0, h0]; exact act_lock hs hN hX hXw h n t v
  rw [if_neg h0]
  by_cases h1 : what = 1
  · rw [if_pos h1, h1]; exact act_unlock hs hN hX hXw h n t v
  rw [if_neg h1]
  by_cases h2 : what = 2
  · rw [if_pos h2, h2]; exact act_wait hs hN hX hXw h n t v
  rw [if_neg h2]
  by_cases h3 : what = 3
  · rw [if_pos h3, h3]; exact act_signal hs hN hX hXw h hTh n t v
  rw [if_neg h3]
  by_cases h4 : what = 4
  · rw [if_pos h4, h4]; exact act_all hs hN hX hXw h n t v
  rw [if_neg h4]
  by_cases h5 : what = 5
  · rw [if_pos h5, h5]; exact act_send hs hN hX hXw h n t v
  rw [if_neg h5]
  exact act_recv hs hN hX hXw h what n t v (beq_eq_false_iff_ne.2 h0) (beq_eq_false_iff_ne.2 h1) (beq_eq_false_iff_ne.2 h2) (beq_eq_false_iff_ne.2 h3) (beq_eq_false_iff_ne.2 h4) (beq_eq_false_iff_ne.2 h5)
end Go.Proofs.Ytdfjbgfdaokjgaa

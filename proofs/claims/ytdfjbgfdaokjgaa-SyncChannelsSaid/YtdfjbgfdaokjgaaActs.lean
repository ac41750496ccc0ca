/-
  A slice of calls, read out of an argument.
-/
import Derived.Test.YtdfjbgfdaokjgaaOrd
import Derived.Deep.Slices
namespace Go.Proofs.Ytdfjbgfdaokjgaa
open Go.RowKit Go.ChangeShapes Go.WideShapes Go.Deep

theorem act_cells : Try.prog.cellsOf 62 = 4 := by kernel_rfl
theorem int_cells : Try.prog.cellsOf 3 = 1 := by kernel_rfl
theorem int64_cells : Try.prog.cellsOf 2 = 1 := by kernel_rfl

section
variable {H : Type} {enc : TypeId × Value → H} {w : World} {base : Nat} {spare : Nat → Bool} {held : Bool} {fuel : Nat}
set_option maxRecDepth 100000 in
/-- One call, out of its four cells. -/
theorem act_read {cs : List Value} {x : DataW H × List MemPlace} (h : DataW.trod enc Try.prog w base spare held fuel 62 cs = some x) : ∃ y : ActL, cs = (actC y).toList := by
  obtain ⟨xs, n, -, -, hl, hn, hx⟩ := DataW.trod_struct Try.underlying62 h
  rw [act_cells] at hl
  match xs, hn, cs, hl, hx with
  | [y0, y1, y2, y3], _, [v0, v1, v2, v3], _, hx =>
    have g0 : DataW.trod enc Try.prog w base spare held n 3 (([v0, v1, v2, v3].drop 0).take (Try.prog.cellsOf 3)) = some y0 := hx 0 _ rfl
    rw [int_cells] at g0
    have g1 : DataW.trod enc Try.prog w base spare held n 3 (([v0, v1, v2, v3].drop 1).take (Try.prog.cellsOf 3)) = some y1 := hx 1 _ rfl
    rw [int_cells] at g1
    have g2 : DataW.trod enc Try.prog w base spare held n 3 (([v0, v1, v2, v3].drop 2).take (Try.prog.cellsOf 3)) = some y2 := hx 2 _ rfl
    rw [int_cells] at g2
    have g3 : DataW.trod enc Try.prog w base spare held n 2 (([v0, v1, v2, v3].drop 3).take (Try.prog.cellsOf 2)) = some y3 := hx 3 _ rfl
    rw [int64_cells] at g3
    obtain ⟨a, ha, -, -⟩ := DataW.trod_int Try.underlying3 g0
    obtain ⟨b, hb, -, -⟩ := DataW.trod_int Try.underlying3 g1
    obtain ⟨c, hc, -, -⟩ := DataW.trod_int Try.underlying3 g2
    obtain ⟨d, hd, -, -⟩ := DataW.trod_int Try.underlying2 g3
    refine ⟨⟨a, b, c, d⟩, ?_⟩
    injection ha with ha _
    injection hb with hb _
    injection hc with hc _
    injection hd with hd _
    rw [ha, hb, hc, hd]
    rfl
end

section
variable {H : Type} {enc : TypeId × Value → H} {W : World}
theorem acts_of {a : Addr} {len : Nat} (f : Nat → ActL) (hx : ∀ i, i < len → W.cells? 0 (a.add (i * 4)) 4 = some (actC (f i)).toList) : ActsAt W (some a) ((List.range len).map f) := by
  obtain ⟨g, off, spot⟩ := a
  refine ⟨fun hl => ?_, fun g' off' he j x hj => ?_⟩
  · obtain ⟨-, -, h⟩ := World.cells?_some (hx 0 (by simpa using hl))
    have h0 := h 0 (by omega)
    refine ⟨g, off, ?_⟩
    cases spot with
    | none => rfl
    | some s => simp [Addr.add, actC, World.cell?] at h0; split at h0 <;> cases h0
  · injection he with he
    injection he with e1 e2 e3
    subst e1; subst e2; subst e3
    have hlt : j < len := by
      have := (List.getElem?_eq_some_iff.1 hj).1
      simpa using this
    obtain rfl : f j = x := by simpa [hlt] using hj
    obtain ⟨-, -, h⟩ := World.cells?_some (hx j hlt)
    have h0 := h 0 (by omega)
    have h1 := h 1 (by omega)
    have h2 := h 2 (by omega)
    have h3 := h 3 (by omega)
    rw [add_add] at h0 h1 h2 h3
    rw [add_plain] at h0 h1 h2 h3
    exact ⟨by simpa [actC] using h0, by simpa [actC, Nat.add_assoc] using h1, by simpa [actC, Nat.add_assoc] using h2, by simpa [actC, Nat.add_assoc] using h3⟩
set_option maxRecDepth 100000 in
/-- The argument is a slice; its calls lie in it. -/
theorem open_acts {b0 : Nat} {v : Value} {d : DataW H} {ps : List MemPlace} (hval : Value.okWide Try.prog W .any b0 57 v) (h : DataW.Trod enc Try.prog W 0 (fun _ => true) true 57 v d ps) :
    ∃ (o : Option Addr) (xs : List ActL) (cp : Nat), v = .slice o xs.length cp ∧ ActsAt W o xs := by
  obtain ⟨a, len, cap, rfl⟩ := okWide_slice Try.underlying57 hval
  obtain ⟨fuel, hf⟩ := h
  rcases open_slice Try.underlying57 hf with ⟨e, -⟩ | ⟨a', len', cap', m, n, D, Pl, e, -, hl, -, hm, -, hx⟩
  · have e' : [Value.slice a len cap] = [Value.slice none 0 0] := e
    injection e' with e' _
    injection e' with e1 e2 e3
    subst e1; subst e2; subst e3
    exact ⟨none, [], 0, rfl, fun h => absurd h (by simp), fun g off h => by cases h⟩
  · have e' : [Value.slice a len cap] = [Value.slice (some a') len' cap'] := e
    injection e' with e' _
    injection e' with e1 e2 e3
    subst e1; subst e2; subst e3
    have hm' : m = cap := by simpa using hm
    subst hm'
    have each : ∀ i, i < len → ∃ y : ActL, W.cells? 0 (a'.add (i * 4)) 4 = some (actC y).toList := fun i hi => by
      obtain ⟨cs, h1, h2⟩ := hx i (by omega)
      rw [act_cells] at h1
      obtain ⟨y, rfl⟩ := act_read h2
      exact ⟨y, h1⟩
    letI : Inhabited ActL := ⟨⟨0, 0, 0, 0⟩⟩
    obtain ⟨f, hf⟩ := choose_lt each
    exact ⟨some a', (List.range len).map f, m, by simp, acts_of f hf⟩
end
end Go.Proofs.Ytdfjbgfdaokjgaa

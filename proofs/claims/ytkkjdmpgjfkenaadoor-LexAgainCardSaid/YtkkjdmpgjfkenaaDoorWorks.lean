/-
  The chapter's first text: what every statement of this layer asks besides.
-/
import Derived.Test.YtkkjdmpgjfkenaaDoorLex
import Derived.Test.YtkkjdmpgjfkenaaDoorEq
namespace Go.Proofs.YtkkjdmpgjfkenaaDoor
open Go.RowKit Go.Maps Go.WideMaps Go.Shelf

theorem lex_one : lexF 14 [118, 97, 114, 32, 120, 49, 61, 45, 55, 59, 35, 110, 111] (1, 1) =
    ([⟨3, [118, 97, 114], 0, (1, 1)⟩, ⟨1, [120, 49], 0, (1, 5)⟩, ⟨4, [61], 0, (1, 7)⟩, ⟨4, [45], 0, (1, 8)⟩, ⟨2, [55], 7, (1, 9)⟩, ⟨4, [59], 0, (1, 10)⟩], none) := by rfl
theorem lex_two : lexF 6 [120, 32, 38, 32, 121] (1, 1) = ([⟨1, [120], 0, (1, 1)⟩], some ((1, 3), 110)) := by rfl

theorem first_text (w : World) (hv : ErrVars w) : Calls Tryd.prog 11 #[.string ⟨#[118, 97, 114, 32, 120, 49, 61, 45, 55, 59, 35, 110, 111]⟩] w fun e w' => ∃ g cap, e = .returned (.tuple #[.slice (some ⟨g, 0, none⟩) 6 cap, .agg #[.int .i64 0, .int .i64 0], .int .i64 0]) ∧
    w.heap.size ≤ g ∧ g < w'.heap.size ∧ w'.cell? ⟨g, 20, none⟩ = some (.int .i64 2) ∧ w'.cell? ⟨g, 21, none⟩ = some (.string ⟨#[55]⟩) ∧ w'.cell? ⟨g, 22, none⟩ = some (.int .i64 7) ∧ w'.cell? ⟨g, 23, none⟩ = some (.int .i64 1) ∧ w'.cell? ⟨g, 24, none⟩ = some (.int .i64 9) ∧ Below w.heap.size w w' := by
  refine (Lex_any ⟨#[118, 97, 114, 32, 120, 49, 61, 45, 55, 59, 35, 110, 111]⟩ w (by decide) hv).mono ?_
  rintro e w' ⟨hb, ⟨h1, v, rfl, hr⟩ | ⟨p, er, h1, _⟩⟩
  · rw [show (lexF ((⟨#[118, 97, 114, 32, 120, 49, 61, 45, 55, 59, 35, 110, 111]⟩ : ByteArray).size + 1) (⟨#[118, 97, 114, 32, 120, 49, 61, 45, 55, 59, 35, 110, 111]⟩ : ByteArray).data.toList (1, 1)) = _ from lex_one] at hr
    obtain ⟨g, cap, rfl⟩ := ownsRow_succ hr
    have hlt := hr.lt g rfl
    exact ⟨g, cap, rfl, hlt.1, hlt.2, by rw [hr.cellAt 20 (by decide)]; rfl, by rw [hr.cellAt 21 (by decide)]; rfl, by rw [hr.cellAt 22 (by decide)]; rfl, by rw [hr.cellAt 23 (by decide)]; rfl, by rw [hr.cellAt 24 (by decide)]; rfl, hb⟩
  · rw [show (lexF ((⟨#[118, 97, 114, 32, 120, 49, 61, 45, 55, 59, 35, 110, 111]⟩ : ByteArray).size + 1) (⟨#[118, 97, 114, 32, 120, 49, 61, 45, 55, 59, 35, 110, 111]⟩ : ByteArray).data.toList (1, 1)) = _ from lex_one] at h1
    cases h1
theorem second_text (w : World) (hv : ErrVars w) : Calls Tryd.prog 11 #[.string ⟨#[120, 32, 38, 32, 121]⟩] w fun e w' => e = .returned (.tuple #[.slice none 0 0, .agg #[.int .i64 1, .int .i64 3], .int .i64 110]) ∧ Below w.heap.size w w' := by
  refine (Lex_any ⟨#[120, 32, 38, 32, 121]⟩ w (by decide) hv).mono ?_
  rintro e w' ⟨hb, ⟨h1, _⟩ | ⟨p, er, h1, rfl⟩⟩
  · rw [show (lexF ((⟨#[120, 32, 38, 32, 121]⟩ : ByteArray).size + 1) (⟨#[120, 32, 38, 32, 121]⟩ : ByteArray).data.toList (1, 1)) = _ from lex_two] at h1
    cases h1
  · rw [show (lexF ((⟨#[120, 32, 38, 32, 121]⟩ : ByteArray).size + 1) (⟨#[120, 32, 38, 32, 121]⟩ : ByteArray).data.toList (1, 1)) = _ from lex_two] at h1
    cases h1
    exact ⟨rfl, hb⟩

set_option maxRecDepth 100000 in
set_option maxHeartbeats 1000000 in
theorem works_any (w : World) (hv : ErrVars w) : Calls Tryd.prog 10 #[] w fun e w' => e = .returned (.bool true) ∧ Below w.heap.size w w' := by
  have H1 := Lib.hid (fun W h => first_text W h)
  have H2 := Lib.hid (fun W h => second_text W h)
  have HV := Lib.hid hv
  have h5 := hv.2.2
  clear hv
  go_enter Tryd.func10, Tryd.ntmps10
  go_wp2_with fail
  refine (H1.out _ HV.out).mono ?_
  rintro e w1 ⟨g, cap, rfl, hg, hg1, c0, c1, c2, c3, c4, hb1⟩
  have HB1 := Lib.hid hb1
  have z1 := hb1.size
  have v1 := Lib.hid ((HV.out.below (hb1.mono h5)).below (((Below.refl w1.heap.size w1).alloc (Nat.le_refl _) (.cells #[.int .i64 0, .int .i64 0] 25)).mono (by omega)))
  clear hb1
  go_wp2_with fail
  refine (H2.out _ v1.out).mono ?_
  rintro e w2 ⟨rfl, hb2⟩
  have d0 := (hb2.cell (p := ⟨g, 20, none⟩) (by simp; omega)).trans ((World.cell?_alloc_lt w1 _ ⟨g, 20, none⟩ hg1).trans c0)
  have d1 := (hb2.cell (p := ⟨g, 21, none⟩) (by simp; omega)).trans ((World.cell?_alloc_lt w1 _ ⟨g, 21, none⟩ hg1).trans c1)
  have d2 := (hb2.cell (p := ⟨g, 22, none⟩) (by simp; omega)).trans ((World.cell?_alloc_lt w1 _ ⟨g, 22, none⟩ hg1).trans c2)
  have d3 := (hb2.cell (p := ⟨g, 23, none⟩) (by simp; omega)).trans ((World.cell?_alloc_lt w1 _ ⟨g, 23, none⟩ hg1).trans c3)
  have d4 := (hb2.cell (p := ⟨g, 24, none⟩) (by simp; omega)).trans ((World.cell?_alloc_lt w1 _ ⟨g, 24, none⟩ hg1).trans c4)
  have bp := (Blk.new w1 25 #[.int .i64 0, .int .i64 0]).below hb2 (by simp)
  have p0 := bp.cell 0; have p1 := bp.cell 1
  have z2 : w1.heap.size < w2.heap.size := by have := hb2.size; rw [World.size_alloc] at this; omega
  have z3 : g < w2.heap.size := by omega
  have HB2 := Lib.hid hb2
  have e25 := eqPos; have e40 := eqTok
  have q25 := posEq; have q40 := tokEq
  clear c0 c1 c2 c3 c4 hb2 bp
  go_wp2_with (first | (go_at_call 14; refine (num_any _ _).mono ?_; rintro e w' ⟨rfl, rfl⟩))
  go_ret
  exact ⟨rfl, ((HB1.out.alloc (by omega) _).trans (HB2.out.mono (by rw [World.size_alloc]; omega))).alloc (by omega) _⟩
end Go.Proofs.YtkkjdmpgjfkenaaDoor

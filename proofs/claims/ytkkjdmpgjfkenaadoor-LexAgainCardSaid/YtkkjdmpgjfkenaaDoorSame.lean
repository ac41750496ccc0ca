/-
  Two lists of the same words are the same.
-/
import Derived.Test.YtkkjdmpgjfkenaaDoorRLex
namespace Go.Proofs.YtkkjdmpgjfkenaaDoor
open Go.RowKit Go.Maps Go.WideMaps Go.Shelf

theorem flat_at : ∀ (L : List TokL) (i : Nat) (x : TokL), L[i]? = some x → ∀ j, j < 5 → (L.flatMap tokCells)[i * 5 + j]? = (tokCells x)[j]?
  | [], i, x, h, _, _ => by simp at h
  | y :: L, 0, x, h, j, hj => by
    simp only [List.getElem?_cons_zero, Option.some.injEq] at h
    subst h
    rw [List.flatMap_cons, Nat.zero_mul, Nat.zero_add, List.getElem?_append_left (by simpa [tokCells] using hj)]
  | y :: L, i + 1, x, h, j, hj => by
    rw [List.getElem?_cons_succ] at h
    have ih := flat_at L i x h j hj
    rw [List.flatMap_cons, List.getElem?_append_right (by simp [tokCells]; omega), ← ih]
    congr 1
    simp [tokCells]
    omega
theorem tok_cells {w : World} {b g cap : Nat} {L : List TokL} (h : w.ownsRow b 40 5 (.slice (some ⟨g, 0, none⟩) L.length cap) L.length (L.flatMap tokCells)) (i : Nat) (x : TokL) (hx : L[i]? = some x) (m : Nat) (hm : m = i * 5) :
    w.cell? ⟨g, m, none⟩ = some (.int .i64 x.k) ∧ w.cell? ⟨g, m + 1, none⟩ = some (.string ⟨x.txt.toArray⟩) ∧ w.cell? ⟨g, m + 2, none⟩ = some (.int .i64 x.n) ∧ w.cell? ⟨g, m + 3, none⟩ = some (.int .i64 x.pos.1) ∧ w.cell? ⟨g, m + 4, none⟩ = some (.int .i64 x.pos.2) := by
  have hi : i < L.length := (List.getElem?_eq_some_iff.1 hx).1
  subst hm
  exact ⟨by rw [show i * 5 = i * 5 + 0 by omega, h.cellAt _ (by omega), flat_at L i x hx 0 (by omega)]; rfl,
    by rw [h.cellAt _ (by omega), flat_at L i x hx 1 (by omega)]; rfl, by rw [h.cellAt _ (by omega), flat_at L i x hx 2 (by omega)]; rfl,
    by rw [h.cellAt _ (by omega), flat_at L i x hx 3 (by omega)]; rfl, by rw [h.cellAt _ (by omega), flat_at L i x hx 4 (by omega)]; rfl⟩

set_option maxHeartbeats 1000000 in
theorem same_some (L : List TokL) (hl : L.length ≤ 1000000) (g1 g2 c1 c2 b1 b2 : Nat) (w : World)
    (h1 : w.ownsRow b1 40 5 (.slice (some ⟨g1, 0, none⟩) L.length c1) L.length (L.flatMap tokCells)) (h2 : w.ownsRow b2 40 5 (.slice (some ⟨g2, 0, none⟩) L.length c2) L.length (L.flatMap tokCells)) :
    Calls Tryd.prog 13 #[.slice (some ⟨g1, 0, none⟩) L.length c1, .slice (some ⟨g2, 0, none⟩) L.length c2] w fun e w' => e = .returned (.bool true) ∧ Below w.heap.size w w' := by
  have H1 := Lib.hid h1
  have H2 := Lib.hid h2
  clear h1 h2
  go_enter Tryd.func13, Tryd.ntmps13
  go_wp2_with fail
  go_loopw [5] (fun n wr => ∃ k m : Nat, wr = w.drewN m ∧ k ≤ L.length ∧ n = .int .i64 k) (fun n _ => L.length - (intOf n).toNat)
  case atStart => exact ⟨0, 0, rfl, by omega, rfl⟩
  case round =>
    obtain ⟨k, m, rfl, hk, rfl⟩ := hrel
    by_cases hlt : k < L.length
    · obtain ⟨a0, a1, a2, a3, a4⟩ := tok_cells H1.out k _ (List.getElem?_eq_getElem hlt) _ rfl
      obtain ⟨d0, d1, d2, d3, d4⟩ := tok_cells H2.out k _ (List.getElem?_eq_getElem hlt) _ rfl
      generalize L[k] = x at *
      obtain ⟨xk, xt, xn, xp1, xp2⟩ := x
      dsimp only at *
      have e40 := eqTok
      have q40 := tokNe xk xk ⟨xt.toArray⟩ ⟨xt.toArray⟩ xn xn xp1 xp2 xp1 xp2
      simp only [beq_self_eq_true, Bool.and_self, Bool.not_true] at q40
      go_wp2_with fail
      go_quiet (fail)
      go_wp2_with fail
      go_roundw
      case rel => exact ⟨k + 1, _, rfl, by omega, by go_num⟩
      case measure => simp [intOf]; omega
    · obtain rfl : k = L.length := by omega
      go_wp2_with fail
      go_ret
      exact ⟨rfl, below_drewN' _ _ _⟩

set_option maxHeartbeats 1000000 in
theorem same_none (o1 o2 : Option Addr) (c1 c2 : Nat) (w : World) :
    Calls Tryd.prog 13 #[.slice o1 0 c1, .slice o2 0 c2] w fun e w' => e = .returned (.bool true) ∧ Below w.heap.size w w' := by
  go_enter Tryd.func13, Tryd.ntmps13
  go_wp2_with fail
  go_loop [5] (fun n => n = .int .i64 0) (fun _ => 0)
  case atStart => exact rfl
  case round =>
    subst hrel
    go_wp2_with fail
    go_ret
    exact ⟨rfl, Below.refl _ _⟩

theorem same_any (L : List TokL) (hl : L.length ≤ 1000000) (v1 v2 : Value) (b1 b2 : Nat) (w : World) (h1 : w.ownsRow b1 40 5 v1 L.length (L.flatMap tokCells)) (h2 : w.ownsRow b2 40 5 v2 L.length (L.flatMap tokCells)) :
    Calls Tryd.prog 13 #[v1, v2] w fun e w' => e = .returned (.bool true) ∧ Below w.heap.size w w' := by
  have k1 := h1.2
  have k2 := h2.2
  rcases k1 with ⟨rfl, h0⟩ | ⟨g1, c1, _, rfl, _⟩
  · rcases k2 with ⟨rfl, _⟩ | ⟨g2, c2, _, rfl, _⟩
    · exact same_none _ _ _ _ w
    · rw [h0]; exact same_none _ _ _ _ w
  · rcases k2 with ⟨rfl, h0⟩ | ⟨g2, c2, _, rfl, _⟩
    · rw [h0]; exact same_none _ _ _ _ w
    · exact same_some L hl g1 g2 c1 c2 b1 b2 w h1 h2

def outL (x : List TokL × Option ((Int × Int) × Int)) : List TokL := match x.2 with | none => x.1 | some _ => []
def outP (x : List TokL × Option ((Int × Int) × Int)) : Int × Int := match x.2 with | none => (0, 0) | some y => y.1
def outE (x : List TokL × Option ((Int × Int) × Int)) : Int := match x.2 with | none => 0 | some y => y.2
theorem LexP.out {t : ByteArray} {w w' : World} {e : Ending} (h : LexP t w e w') :
    Below w.heap.size w w' ∧ ∃ v, e = .returned (.tuple #[v, .agg #[.int .i64 (outP (lexF (t.size + 1) t.data.toList (1, 1))).1, .int .i64 (outP (lexF (t.size + 1) t.data.toList (1, 1))).2], .int .i64 (outE (lexF (t.size + 1) t.data.toList (1, 1)))]) ∧
      w'.ownsRow w.heap.size 40 5 v (outL (lexF (t.size + 1) t.data.toList (1, 1))).length ((outL (lexF (t.size + 1) t.data.toList (1, 1))).flatMap tokCells) := by
  obtain ⟨hb, ⟨h1, v, he, hr⟩ | ⟨p, er, h1, he⟩⟩ := h
  · refine ⟨hb, v, ?_, ?_⟩
    · rw [he, outP, outE, h1]
    · rw [outL, h1]; exact hr
  · refine ⟨hb, .slice none 0 0, ?_, ?_⟩
    · rw [he, outP, outE, h1]
    · rw [outL, h1]; exact ⟨rfl, .inl ⟨rfl, rfl⟩⟩
theorem lexF_len (f : Nat) : ∀ (l : List UInt8) (p : Int × Int), (lexF f l p).1.length ≤ f := by
  induction f with
  | zero => intro l p; exact Nat.le_refl _
  | succ f ih =>
    intro l p
    rw [lexF]
    dsimp only
    split
    · simp
    · split
      · simp
      · simp only [List.length_cons]
        have := ih ((l.drop (skipN false l)).drop (wordS (l.drop (skipN false l))).m) (advsI (advsI p (l.take (skipN false l))) ((l.drop (skipN false l)).take (wordS (l.drop (skipN false l))).m))
        omega
theorem outL_len (x : List TokL × Option ((Int × Int) × Int)) : (outL x).length ≤ x.1.length := by
  unfold outL
  split
  · exact Nat.le_refl _
  · simp
end Go.Proofs.YtkkjdmpgjfkenaaDoor

/-
  Cells of words: a place is stored.
-/
import Derived.Test.YtkkjdmpgjfkenaaDoorASpec
import Derived.Test.YtkkjdmpgjfkenaaDoorSame
namespace Go.Proofs.YtkkjdmpgjfkenaaDoor
open Go.RowKit Go.Maps Go.WideMaps Go.Shelf

theorem flat_len (A : List TokL) : (A.flatMap tokCells).length = A.length * 5 := by
  induction A with
  | nil => rfl
  | cons x A ih =>
    rw [List.flatMap_cons, List.length_append, ih, List.length_cons]
    simp [tokCells]
    omega
theorem flat_set (A B : List TokL) (x : TokL) (p1 p2 : Int) (m : Nat) (hm : m = A.length * 5) :
    (((A ++ x :: B).flatMap tokCells).set (m + 3) (.int .i64 p1)).set (m + 4) (.int .i64 p2) = (A ++ ⟨x.k, x.txt, x.n, (p1, p2)⟩ :: B).flatMap tokCells := by
  have hl := flat_len A
  rw [List.flatMap_append, List.flatMap_append, List.flatMap_cons, List.flatMap_cons, List.set_append_right _ _ (by omega), List.set_append_right _ _ (by omega)]
  rw [show m + 3 - (A.flatMap tokCells).length = 3 by omega, show m + 4 - (A.flatMap tokCells).length = 4 by omega]
  rfl
theorem joined_snoc (A : List TokL) (x : TokL) : joined (A ++ [x]) = joined A ++ x.txt ++ [32] := by simp [joined]
theorem take_next {α : Type} (L : List α) (k : Nat) (x : α) (h : L[k]? = some x) : L.take (k + 1) = L.take k ++ [x] := by
  obtain ⟨h1, h2⟩ := List.getElem?_eq_some_iff.1 h
  rw [← h2, List.take_append_getElem]
theorem drop_cons {α : Type} (L : List α) (k : Nat) (x : α) (h : L[k]? = some x) : L.drop k = x :: L.drop (k + 1) := by
  obtain ⟨h1, h2⟩ := List.getElem?_eq_some_iff.1 h
  rw [← h2]
  exact List.drop_eq_getElem_cons h1
theorem bare_at {M L : List TokL} (h : M.map bare = L.map bare) (k : Nat) (x : TokL) (hx : L[k]? = some x) : ∃ p, M[k]? = some ⟨x.k, x.txt, x.n, p⟩ := by
  have h1 : (M.map bare)[k]? = (L.map bare)[k]? := by rw [h]
  rw [List.getElem?_map, List.getElem?_map, hx] at h1
  cases hm : M[k]? with
  | none => rw [hm] at h1; simp at h1
  | some y =>
    rw [hm] at h1
    simp only [Option.map_some, bare, Option.some.injEq, Prod.mk.injEq] at h1
    obtain ⟨e1, e2, e3⟩ := h1
    exact ⟨y.pos, by rw [← e1, ← e2, ← e3]⟩
/-- The words so far have their places. -/
theorem mixed_step {M L : List TokL} (h : M.map bare = L.map bare) (k : Nat) (x : TokL) (hx : L[k]? = some x) :
    ∃ p, M[k]? = some ⟨x.k, x.txt, x.n, p⟩ ∧ (((L.take k ++ M.drop k).flatMap tokCells).set (k * 5 + 3) (.int .i64 x.pos.1)).set (k * 5 + 4) (.int .i64 x.pos.2) = (L.take (k + 1) ++ M.drop (k + 1)).flatMap tokCells := by
  obtain ⟨p, hp⟩ := bare_at h k x hx
  refine ⟨p, hp, ?_⟩
  have hk : k < L.length := (List.getElem?_eq_some_iff.1 hx).1
  rw [drop_cons M k _ hp, flat_set _ _ _ _ _ _ (by rw [List.length_take, Nat.min_eq_left (by omega)]), take_next L k x hx, List.append_assoc]
  rfl
theorem mixed_end {M L : List TokL} (h : M.map bare = L.map bare) : L.take L.length ++ M.drop L.length = L := by
  have hl : M.length = L.length := by have := congrArg List.length h; simpa using this
  rw [List.take_length, ← hl, List.drop_length, List.append_nil]
theorem lexF_err (f : Nat) : ∀ (l : List UInt8) (p q : Int × Int) (er : Int), (lexF f l p).2 = some (q, er) → er ≠ 0 := by
  induction f with
  | zero => intro l p q er h; simp [lexF] at h
  | succ f ih =>
    intro l p q er h
    rw [lexF] at h
    dsimp only at h
    split at h
    · simp at h
    · split at h
      · rename_i h1
        simp only [Option.some.injEq, Prod.mk.injEq] at h
        rw [← h.2]
        exact h1
      · exact ih _ _ _ _ h
end Go.Proofs.YtkkjdmpgjfkenaaDoor

/-
  The bounds of texts, names and numbers, and one past them: what 'Lex' answers there.
-/
import Derived.Test.YtkkjdmpgjfkenaaDoorSame
import Derived.Laws.BytesArg
import Derived.OwnWalk
namespace Go.Proofs.YtkkjdmpgjfkenaaDoor
open Go.RowKit Go.Maps Go.WideMaps Go.Shelf

theorem skip_spaces (n : Nat) : skipN false (List.replicate n 32) = n := by
  induction n with
  | zero => rfl
  | succ n ih =>
    have h : isBlank 32 = true := rfl
    rw [List.replicate_succ, skipN, if_pos h, ih, Nat.add_comm]
theorem lex_spaces (f n : Nat) (p : Int × Int) : lexF f (List.replicate n 32) p = ([], none) := by
  rw [lexF_skip, skip_spaces]
  exact lexF_nil f _ _ (List.drop_eq_nil_of_le (by rw [List.length_replicate]; exact Nat.le_refl _))

theorem lx_blank (t : ByteArray) (n : Nat) (ht : t.data.toList = List.replicate n 32) (hn : n ≤ 65536) (w : World) (hv : ErrVars w) :
    Calls Tryd.prog 11 #[.string t] w fun e w' => ∃ o c, e = .returned (.tuple #[.slice o 0 c, .agg #[.int .i64 0, .int .i64 0], .int .i64 0]) ∧ Below w.heap.size w w' := by
  have hs : t.size = n := by rw [← size_list, ht, List.length_replicate]
  have hx := lex_spaces (t.size + 1) n (1, 1)
  rw [← ht] at hx
  refine (Lex_any t w (by omega) hv).mono ?_
  rintro e w' ⟨hb, ⟨h1, v, rfl, hr⟩ | ⟨p, er, h1, _⟩⟩
  · rw [hx] at hr
    rcases hr.2 with ⟨rfl, _⟩ | ⟨g, c, _, rfl, _⟩
    · exact ⟨none, 0, rfl, hb⟩
    · exact ⟨_, c, rfl, hb⟩
  · rw [hx] at h1
    cases h1

theorem lex_three : lexF 28 [97, 98, 99, 100, 101, 102, 103, 104, 105, 106, 107, 108, 109, 110, 111, 112, 32, 50, 49, 52, 55, 52, 56, 51, 54, 52, 55] (1, 1) =
    ([⟨1, [97, 98, 99, 100, 101, 102, 103, 104, 105, 106, 107, 108, 109, 110, 111, 112], 0, (1, 1)⟩, ⟨2, [50, 49, 52, 55, 52, 56, 51, 54, 52, 55], 2147483647, (1, 18)⟩], none) := by kernel_rfl
theorem lex_four : lexF 19 [32, 97, 98, 99, 100, 101, 102, 103, 104, 105, 106, 107, 108, 109, 110, 111, 112, 113] (1, 1) = ([], some ((1, 2), 111)) := by kernel_rfl
theorem lex_five : lexF 11 [50, 49, 52, 55, 52, 56, 51, 54, 52, 56] (1, 1) = ([], some ((1, 1), 112)) := by kernel_rfl
theorem lex_kw : kwL.map (fun x => lexF (x.length + 3) (35 :: 10 :: x) (1, 1)) = kwL.map (fun x => ([⟨3, x, 0, (2, 1)⟩], none)) := by kernel_rfl

theorem lx_three (w : World) (hv : ErrVars w) : Calls Tryd.prog 11 #[.string ⟨#[97, 98, 99, 100, 101, 102, 103, 104, 105, 106, 107, 108, 109, 110, 111, 112, 32, 50, 49, 52, 55, 52, 56, 51, 54, 52, 55]⟩] w fun e w' => ∃ g cap, e = .returned (.tuple #[.slice (some ⟨g, 0, none⟩) 2 cap, .agg #[.int .i64 0, .int .i64 0], .int .i64 0]) ∧
    g < w'.heap.size ∧ w'.cell? ⟨g, 7, none⟩ = some (.int .i64 2147483647) ∧ Below w.heap.size w w' := by
  refine (Lex_any ⟨#[97, 98, 99, 100, 101, 102, 103, 104, 105, 106, 107, 108, 109, 110, 111, 112, 32, 50, 49, 52, 55, 52, 56, 51, 54, 52, 55]⟩ w (by decide) hv).mono ?_
  have hx : (lexF ((⟨#[97, 98, 99, 100, 101, 102, 103, 104, 105, 106, 107, 108, 109, 110, 111, 112, 32, 50, 49, 52, 55, 52, 56, 51, 54, 52, 55]⟩ : ByteArray).size + 1) (⟨#[97, 98, 99, 100, 101, 102, 103, 104, 105, 106, 107, 108, 109, 110, 111, 112, 32, 50, 49, 52, 55, 52, 56, 51, 54, 52, 55]⟩ : ByteArray).data.toList (1, 1)) = _ := lex_three
  rintro e w' ⟨hb, ⟨h1, v, rfl, hr⟩ | ⟨p, er, h1, _⟩⟩
  · rw [hx] at hr
    obtain ⟨g, cap, rfl⟩ := ownsRow_succ hr
    exact ⟨g, cap, rfl, (hr.lt g rfl).2, by rw [hr.cellAt 7 (by decide)]; rfl, hb⟩
  · rw [hx] at h1
    cases h1
theorem lx_four (w : World) (hv : ErrVars w) : Calls Tryd.prog 11 #[.string ⟨#[32, 97, 98, 99, 100, 101, 102, 103, 104, 105, 106, 107, 108, 109, 110, 111, 112, 113]⟩] w fun e w' => e = .returned (.tuple #[.slice none 0 0, .agg #[.int .i64 1, .int .i64 2], .int .i64 111]) ∧ Below w.heap.size w w' := by
  refine (Lex_any ⟨#[32, 97, 98, 99, 100, 101, 102, 103, 104, 105, 106, 107, 108, 109, 110, 111, 112, 113]⟩ w (by decide) hv).mono ?_
  have hx : (lexF ((⟨#[32, 97, 98, 99, 100, 101, 102, 103, 104, 105, 106, 107, 108, 109, 110, 111, 112, 113]⟩ : ByteArray).size + 1) (⟨#[32, 97, 98, 99, 100, 101, 102, 103, 104, 105, 106, 107, 108, 109, 110, 111, 112, 113]⟩ : ByteArray).data.toList (1, 1)) = _ := lex_four
  rintro e w' ⟨hb, ⟨h1, _⟩ | ⟨p, er, h1, rfl⟩⟩
  · rw [hx] at h1
    cases h1
  · rw [hx] at h1
    cases h1
    exact ⟨rfl, hb⟩
theorem lx_five (w : World) (hv : ErrVars w) : Calls Tryd.prog 11 #[.string ⟨#[50, 49, 52, 55, 52, 56, 51, 54, 52, 56]⟩] w fun e w' => e = .returned (.tuple #[.slice none 0 0, .agg #[.int .i64 1, .int .i64 1], .int .i64 112]) ∧ Below w.heap.size w w' := by
  refine (Lex_any ⟨#[50, 49, 52, 55, 52, 56, 51, 54, 52, 56]⟩ w (by decide) hv).mono ?_
  have hx : (lexF ((⟨#[50, 49, 52, 55, 52, 56, 51, 54, 52, 56]⟩ : ByteArray).size + 1) (⟨#[50, 49, 52, 55, 52, 56, 51, 54, 52, 56]⟩ : ByteArray).data.toList (1, 1)) = _ := lex_five
  rintro e w' ⟨hb, ⟨h1, _⟩ | ⟨p, er, h1, rfl⟩⟩
  · rw [hx] at h1
    cases h1
  · rw [hx] at h1
    cases h1
    exact ⟨rfl, hb⟩
theorem kw_small : ∀ x ∈ kwL, x.length ≤ 16 := kw_short
theorem lx_kw (u t : ByteArray) (hu : u.data.toList ∈ kwL) (ht : t.data.toList = 35 :: 10 :: u.data.toList) (w : World) (hv : ErrVars w) :
    Calls Tryd.prog 11 #[.string t] w fun e w' => ∃ g cap, e = .returned (.tuple #[.slice (some ⟨g, 0, none⟩) 1 cap, .agg #[.int .i64 0, .int .i64 0], .int .i64 0]) ∧
      w'.cell? ⟨g, 0, none⟩ = some (.int .i64 3) ∧ w'.cell? ⟨g, 1, none⟩ = some (.string u) ∧ g < w'.heap.size ∧ Below w.heap.size w w' := by
  have h16 := kw_short _ hu
  have hs : t.size = u.data.toList.length + 2 := by rw [← size_list, ht]; rfl
  have hx : lexF (t.size + 1) t.data.toList (1, 1) = ([⟨3, u.data.toList, 0, (2, 1)⟩], none) := by
    obtain ⟨j, hj⟩ := List.getElem?_of_mem hu
    have h := congrArg (fun l => l[j]?) lex_kw
    simp only [List.getElem?_map, hj, Option.map_some, Option.some.injEq] at h
    rw [hs, ht]
    exact h
  refine (Lex_any t w (by omega) hv).mono ?_
  rintro e w' ⟨hb, ⟨h1, v, rfl, hr⟩ | ⟨p, er, h1, _⟩⟩
  · rw [hx] at hr
    obtain ⟨g, cap, rfl⟩ := ownsRow_succ hr
    exact ⟨g, cap, rfl, by rw [hr.cellAt 0 (by simp)]; rfl, by rw [hr.cellAt 1 (by simp)]; simp [tokCells], (hr.lt g rfl).2, hb⟩
  · rw [hx] at h1
    cases h1
theorem u8Info : (Tryd.prog.info? 5).map (fun i => (i.zero, i.size, i.bytes)) = some (some (.int .u8 0), 1, 1) := by kernel_rfl

/-- A row of bytes, the first k of which are blanks. -/
def Fill (g n k : Nat) (w : World) : Prop := ∃ cur, Blk w g 5 cur ∧ cur.size = n ∧ ∀ j, j < k → cur[j]? = some (.int .u8 32)
theorem Fill.step {g n k : Nat} {w : World} (h : Fill g n k w) (hk : k < n) : Fill g n (k + 1) (w.setCell ⟨g, k, none⟩ (.int .u8 32)) := by
  obtain ⟨cur, h1, h2, h3⟩ := h
  refine ⟨_, h1.set_ k _, by rw [Array.size_setIfInBounds]; exact h2, fun j hj => ?_⟩
  rw [Array.getElem?_setIfInBounds]
  by_cases e : k = j
  · subst e; rw [if_pos rfl, if_pos (by omega)]
  · rw [if_neg e]; exact h3 j (by omega)
theorem Fill.cell {g n k : Nat} {w : World} (h : Fill g n k w) (j : Nat) (hj : j < n) : ∃ v, w.cell? ⟨g, j, none⟩ = some v := by
  obtain ⟨cur, h1, h2, _⟩ := h
  exact ⟨_, (h1.cell j).trans (Array.getElem?_eq_getElem (by omega))⟩
theorem Fill.frozen {g n k : Nat} {w : World} (h : Fill g n k w) (j : Nat) : w.frozen? ⟨g, j, none⟩ = false := by
  obtain ⟨cur, h1, _⟩ := h
  exact h1.frozen j
theorem Fill.below {g n k : Nat} {w w' : World} (h : Fill g n k w) (hb : Below w.heap.size w w') : Fill g n k w' := by
  obtain ⟨cur, h1, h2, h3⟩ := h
  exact ⟨cur, h1.below hb h1.lt, h2, h3⟩
theorem Fill.lt {g n k : Nat} {w : World} (h : Fill g n k w) : g < w.heap.size := by
  obtain ⟨cur, h1, _⟩ := h
  exact h1.lt
theorem Fill.conv {g n k : Nat} {w : World} (h : Fill g n k w) (m cap : Nat) (hm : m ≤ k) :
    ∃ t : ByteArray, t.data.toList = List.replicate m 32 ∧ (convert 35 9 (.slice (some ⟨g, 0, none⟩) m cap)).run Tryd.prog w = .ok (.string t) w := by
  obtain ⟨cur, h1, h2, h3⟩ := h
  refine ⟨strOfNums (List.replicate m 32), ?_, ?_⟩
  · rw [strOfNums_data, List.map_replicate]; rfl
  · refine run_convert_bytes_arg w 35 5 Tryd.underlying35 Tryd.underlying5 g 0 m cap _ (List.length_replicate ..) (fun i hi => ?_) 9 Tryd.underlying9
    rw [Nat.zero_add, h1.cell i, h3 i (by omega)]
    simp [List.getD, hi]
theorem fill_of_row {w : World} {b g n : Nat} {xs : List Value} (h : w.ownsRow b 5 1 (.slice (some ⟨g, 0, none⟩) n n) n xs) : Fill g n 0 w := by
  rcases h.2 with ⟨h', _⟩ | ⟨g', c, cur, h', _, hh, _, _, hs, _⟩
  · cases h'
  · cases h'
    exact ⟨cur, hh, by omega, fun j hj => by omega⟩
end Go.Proofs.YtkkjdmpgjfkenaaDoor

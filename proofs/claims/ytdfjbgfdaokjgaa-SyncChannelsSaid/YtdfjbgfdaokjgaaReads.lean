/-
  What can be read of a state; what a call leaves.
-/
import Derived.Test.YtdfjbgfdaokjgaaState
namespace Go.Proofs.Ytdfjbgfdaokjgaa
open Go.RowKit

section
variable {w w' : World} {base p : Nat} {s : SM} {y : Ly}
theorem SyncAt.owner (h : SyncAt w base p s y) {k : Nat} {o : Int} (hk : s.owners[k]? = some o) : ∃ g, y.oo = some ⟨g, 0, none⟩ ∧ w.cell? ⟨g, k, none⟩ = some (.int .i64 o) ∧ w.frozen? ⟨g, k, none⟩ = false ∧ SFp p y s g := by
  have hlt : k < s.owners.length := (List.getElem?_eq_some_iff.1 hk).1
  obtain ⟨g, c, e, hb, hg⟩ := h.rowO.form (by omega)
  injection e with e1 _ e3
  have hr := h.rowO
  rw [e1] at hr
  refine ⟨g, e1, ?_, hr.frozenAt k, .inr ⟨0, _, rfl, by simp [Go.Proofs.Ytdfjbgfdaokjgaa.rowO, e1, Value.ownBlock]⟩⟩
  rw [hr.cellAt k (by omega), List.getElem?_map, hk]; rfl
theorem SyncAt.cond (h : SyncAt w base p s y) {k : Nat} {l : List Int} (hk : s.conds[k]? = some l) (hm : l.length ≤ 1000000) : ∃ g v, y.oc = some ⟨g, 0, none⟩ ∧ y.cv[k]? = some v ∧ QAt w base g k 3 v l ∧ SFp p y s g ∧ ∀ b, v.ownBlock = some b → SFp p y s b := by
  have hlt : k < s.conds.length := (List.getElem?_eq_some_iff.1 hk).1
  obtain ⟨g, c, e, hb, hg⟩ := h.rowC.form (by omega)
  injection e with e1 _ e3
  have hr := h.rowC
  rw [e1] at hr
  obtain ⟨v, hv⟩ : ∃ v, y.cv[k]? = some v := ⟨_, List.getElem?_eq_getElem (by rw [h.lc]; exact hlt)⟩
  have hj := rowsOf_cond h.lc k hv hk
  have hgC : (Go.Proofs.Ytdfjbgfdaokjgaa.rowC y s).v.ownBlock = some g := by simp [Go.Proofs.Ytdfjbgfdaokjgaa.rowC, e1, Value.ownBlock]
  refine ⟨g, v, e1, hv, ⟨?_, hr.frozenAt k, h.rowCond k hv hk, ?_, hm⟩, .inr ⟨1, _, rfl, hgC⟩, fun b hb => .inr ⟨_, _, hj, hb⟩⟩
  · rw [hr.cellAt k (by omega), hv]
  · intro hvg
    exact h.rows.apart 1 (3 + k) _ _ rfl hj (by omega) g hgC hvg
theorem SyncAt.chan (h : SyncAt w base p s y) {k : Nat} {c : Cn} (hk : s.chans[k]? = some c) (hm : c.rest.length ≤ 1000000) : ∃ g v, y.oh = some ⟨g, 0, none⟩ ∧ y.hv[k]? = some v ∧ QAt w base g (k * 3) 2 v c.rest ∧
    w.cell? ⟨g, k * 3 + 1, none⟩ = some (.int .i64 c.room) ∧ w.cell? ⟨g, k * 3 + 2, none⟩ = some (.int .i64 (c.sent.length : Nat)) ∧ w.frozen? ⟨g, k * 3 + 2, none⟩ = false ∧ SFp p y s g ∧ ∀ b, v.ownBlock = some b → SFp p y s b := by
  have hlt : k < s.chans.length := (List.getElem?_eq_some_iff.1 hk).1
  obtain ⟨g, c', e, hb, hg⟩ := h.rowH.form (by omega)
  injection e with e1 _ e3
  have hr := h.rowH
  rw [e1] at hr
  obtain ⟨v, hv⟩ : ∃ v, y.hv[k]? = some v := ⟨_, List.getElem?_eq_getElem (by rw [h.lh]; exact hlt)⟩
  have hj := rowsOf_chan h.lc k hv hk
  obtain ⟨a0, a1, a2⟩ := chanCells_at y.hv s.chans k v c hv hk
  have hgH : (Go.Proofs.Ytdfjbgfdaokjgaa.rowH y s).v.ownBlock = some g := by simp [Go.Proofs.Ytdfjbgfdaokjgaa.rowH, e1, Value.ownBlock]
  refine ⟨g, v, e1, hv, ⟨?_, hr.frozenAt _, h.rowChan k hv hk, ?_, hm⟩, ?_, ?_, hr.frozenAt _, .inr ⟨2, _, rfl, hgH⟩, fun b hb => .inr ⟨_, _, hj, hb⟩⟩
  · rw [hr.cellAt _ (by omega), a0]
  · intro hvg
    exact h.rows.apart 2 (3 + s.conds.length + k) _ _ rfl hj (by omega) g hgH hvg
  · rw [hr.cellAt _ (by omega), a1]
  · rw [hr.cellAt _ (by omega), a2]
theorem SyncAt.ls (h : SyncAt w base p s y) (hm : ∀ l ∈ s.conds, l.length ≤ 1000000) : LsAt w y.oc s.conds := by
  intro k l hl
  have hml := hm l (List.mem_of_getElem? hl)
  obtain ⟨g, v, e1, hv, hq, _, _⟩ := h.cond hl hml
  obtain ⟨o, c, rfl, hf⟩ := row_shape hq.own
  refine ⟨g, o, c, e1, hq.cell, hml, fun j x hx => ?_⟩
  have hlt : j < l.length := (List.getElem?_eq_some_iff.1 hx).1
  obtain ⟨g', e2, _, _⟩ := hf (by omega)
  refine ⟨g', e2, ?_⟩
  have := hq.own
  rw [e2] at this
  rw [this.cellAt j (by omega), List.getElem?_map, hx]; rfl
end

/-- What a call leaves: another state, that lies where the first one lay, or anew. -/
def Aft (w w' : World) (base p : Nat) (s : SM) (y : Ly) (s' : SM) : Prop := ∃ y', SyncAt w' base p s' y' ∧ Only (SFp p y s) w w' ∧ ∀ b, SFp p y' s' b → SFp p y s b ∨ w.heap.size ≤ b
theorem Aft.same {w w' : World} {base p : Nat} {s : SM} {y : Ly} (h : SyncAt w base p s y) (hb : Below w.heap.size w w') : Aft w w' base p s y s :=
  ⟨y, h.below hb, Only.of_below hb, fun _ hb => .inl hb⟩
/-- What has come ahead of a call, and what comes behind. -/
theorem Aft.wrap {w w1 w2 w' : World} {base p : Nat} {s s' : SM} {y : Ly} (h1 : Below w.heap.size w w1) (h : Aft w1 w2 base p s y s') (h2 : Below w2.heap.size w2 w') : Aft w w' base p s y s' := by
  obtain ⟨y', hs, ho, hf⟩ := h
  have z1 := h1.size
  exact ⟨y', hs.below h2, ((Only.of_below h1).trans ho).trans (Only.of_below h2), fun b hb => (hf b hb).imp id (fun h => by omega)⟩
theorem Aft.owner {w : World} {base p : Nat} {s : SM} {y : Ly} (h : SyncAt w base p s y) {g : Nat} (hg : y.oo = some ⟨g, 0, none⟩) (hf : SFp p y s g) (k : Nat) (t : Int) : Aft w (w.setCell ⟨g, k, none⟩ (.int .i64 t)) base p s y { s with owners := s.owners.set k t } := by
  refine ⟨y, h.owner_turn hg k t, (Only.refl w).setCell (.inl hf) _, fun b hb => ?_⟩
  rcases hb with rfl | ⟨i, r, hi, hr⟩
  · exact .inl (.inl rfl)
  · refine .inl (.inr ⟨i, ?_⟩)
    cases i with
    | zero =>
      simp only [rowsOf, List.getElem?_cons_zero, Option.some.injEq] at hi
      subst hi
      exact ⟨rowO y s, rfl, by simpa [rowO] using hr⟩
    | succ i => exact ⟨r, by simpa [rowsOf, rowC, rowH] using hi, hr⟩
theorem Aft.cond {w w' : World} {base p : Nat} {s : SM} {y : Ly} (h : SyncAt w base p s y) {g : Nat} (hg : y.oc = some ⟨g, 0, none⟩) {k : Nat} {v v' : Value} {l l' : List Int} (hv : y.cv[k]? = some v) (hl : s.conds[k]? = some l)
    (hs : QStep w w' base g k 3 v v' l') : Aft w w' base p s y { s with conds := s.conds.set k l' } := by
  have hj := rowsOf_cond h.lc k hv hl
  have hgC : (rowC y s).v.ownBlock = some g := by simp [rowC, hg, Value.ownBlock]
  refine ⟨_, h.cond_turn hg hv hl hs, hs.only.mono (fun b hb => ?_), fun b hb => ?_⟩
  · rcases hb with rfl | hb
    · exact .inr ⟨1, _, rfl, hgC⟩
    · exact .inr ⟨_, _, hj, hb⟩
  · rcases hb with rfl | hb
    · exact .inl (.inl rfl)
    · rw [rowsOf_set_cond h.lc k (List.getElem?_eq_some_iff.1 hl).1] at hb
      rcases hb.set2 with hb | hb | hb
      · exact .inl (.inr hb)
      · exact .inl (.inr ⟨1, _, rfl, hb⟩)
      · exact (hs.lies b hb).imp (fun h => .inr ⟨_, _, hj, h⟩) id
theorem Aft.chan {w w' : World} {base p : Nat} {s : SM} {y : Ly} (h : SyncAt w base p s y) {g : Nat} (hg : y.oh = some ⟨g, 0, none⟩) {k : Nat} {v v' : Value} {c c' : Cn} (hv : y.hv[k]? = some v) (hc : s.chans[k]? = some c) (hrm : c'.room = c.room)
    (hown : w'.ownsRow base 2 1 v' c'.rest.length (c'.rest.map (Value.int .i64)))
    (hblk : w'.heap[g]? = ((w.setCell ⟨g, k * 3, none⟩ v').setCell ⟨g, k * 3 + 2, none⟩ (.int .i64 (c'.sent.length : Nat))).heap[g]?)
    (honly : Only (fun b => b = g ∨ v.ownBlock = some b) w w') (hlies : ∀ b, v'.ownBlock = some b → v.ownBlock = some b ∨ w.heap.size ≤ b) : Aft w w' base p s y { s with chans := s.chans.set k c' } := by
  have hj := rowsOf_chan h.lc k hv hc
  have hgH : (rowH y s).v.ownBlock = some g := by simp [rowH, hg, Value.ownBlock]
  refine ⟨_, h.chan_turn hg hv hc hrm hown hblk honly hlies, honly.mono (fun b hb => ?_), fun b hb => ?_⟩
  · rcases hb with rfl | hb
    · exact .inr ⟨2, _, rfl, hgH⟩
    · exact .inr ⟨_, _, hj, hb⟩
  · rcases hb with rfl | hb
    · exact .inl (.inl rfl)
    · rw [rowsOf_set_chan h.lc k] at hb
      rcases hb.set2 with hb | hb | hb
      · exact .inl (.inr hb)
      · exact .inl (.inr ⟨2, _, rfl, hb⟩)
      · exact (hlies b hb).imp (fun h => .inr ⟨_, _, hj, h⟩) id

/-! The small functions, told by what they leave of memory. -/
theorem has_b {w : World} {base p : Nat} {s : SM} {y : Ly} (h : SyncAt w base p s y) :
    Calls Try.prog 36 #[.pointer (some ⟨p, 0, none⟩)] w fun e w' => e = .returned (.agg (headC y s)) ∧ Below w.heap.size w w' :=
  (has_some p _ _ _ _ _ _ _ _ _ _ w h.head).mono fun _ _ ⟨h1, h2⟩ => ⟨h1, by rw [← h2]; exact (Below.refl _ _).alloc (Nat.le_refl _) _⟩
theorem thread_b (t : Int) (r : Bool) (hr : inB 0 7 t = r) (w : World) : Calls Try.prog 39 #[.int .i64 t] w fun e w' => e = .returned (.bool r) ∧ Below w.heap.size w w' :=
  (thread_any t w).mono fun _ _ ⟨h1, h2⟩ => ⟨by rw [h1, hr], by rw [← h2]; exact (Below.refl _ _).alloc (Nat.le_refl _) _⟩
theorem value_b (t : Int) (r : Bool) (hr : inB (-2147483648) 2147483647 t = r) (w : World) : Calls Try.prog 46 #[.int .i64 t] w fun e w' => e = .returned (.bool r) ∧ Below w.heap.size w w' :=
  (value_any t w).mono fun _ _ ⟨h1, h2⟩ => ⟨by rw [h1, hr], by rw [← h2]; exact (Below.refl _ _).alloc (Nat.le_refl _) _⟩
theorem refused_b (l : Int) (hl : l = 4 ∨ l = 2 ∨ l = 140 ∨ l = 141) (a b c d : Bool) (r : Int) (hr : refS a b c d l = r) (w : World) :
    Calls Try.prog 38 #[.agg #[.bool a, .bool b, .bool c, .bool d], .int .i64 l] w fun e w' => e = .returned (.int .i64 r) ∧ Below w.heap.size w w' := by
  subst hr
  rcases hl with rfl | rfl | rfl | rfl
  · exact (refused4 a b c d w).mono fun _ _ ⟨h1, h2⟩ => ⟨h1, by rw [← h2]; exact (Below.refl _ _).alloc (Nat.le_refl _) _⟩
  · exact (refused2 a b c d w).mono fun _ _ ⟨h1, h2⟩ => ⟨h1, by rw [← h2]; exact (Below.refl _ _).alloc (Nat.le_refl _) _⟩
  · exact (refused140 a b c d w).mono fun _ _ ⟨h1, h2⟩ => ⟨h1, by rw [← h2]; exact (Below.refl _ _).alloc (Nat.le_refl _) _⟩
  · exact (refused141 a b c d w).mono fun _ _ ⟨h1, h2⟩ => ⟨h1, by rw [← h2]; exact (Below.refl _ _).alloc (Nat.le_refl _) _⟩
end Go.Proofs.Ytdfjbgfdaokjgaa

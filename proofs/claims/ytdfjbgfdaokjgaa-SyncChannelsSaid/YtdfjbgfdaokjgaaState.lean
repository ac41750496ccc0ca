/-
  A state as data, and as it lies in memory.
-/
import Derived.Test.YtdfjbgfdaokjgaaChan
import Derived.Test.YtdfjbgfdaokjgaaWaits
namespace Go.Proofs.Ytdfjbgfdaokjgaa
open Go.RowKit

/-- Some rows are turned: each stays where it lay, or one lies in what is new. -/
theorem Rows.turn {w w' : World} {base : Nat} {l l' : List Rw} (h : Rows w base l)
    (hr : ∀ (i : Nat) (r' : Rw), l'[i]? = some r' → ∃ r, l[i]? = some r ∧ ((r' = r ∧ ∀ b, r.v.ownBlock = some b → w'.heap[b]? = w.heap[b]?) ∨
      (w'.ownsRow base r'.e r'.k r'.v r'.n r'.xs ∧ ∀ b, r'.v.ownBlock = some b → r.v.ownBlock = some b ∨ w.heap.size ≤ b)))
    (hf : ∀ (i j : Nat) (r' s' : Rw), l'[i]? = some r' → l'[j]? = some s' → i ≠ j → ∀ b, w.heap.size ≤ b → r'.v.ownBlock = some b → s'.v.ownBlock ≠ some b) : Rows w' base l' := by
  have hold : ∀ (i : Nat) (r' : Rw), l'[i]? = some r' → ∃ r, l[i]? = some r ∧ ∀ b, r'.v.ownBlock = some b → r.v.ownBlock = some b ∨ w.heap.size ≤ b := fun i r' hi => by
    obtain ⟨r, h1, ⟨rfl, _⟩ | ⟨_, h2⟩⟩ := hr i r' hi
    · exact ⟨r', h1, fun b hb => .inl hb⟩
    · exact ⟨r, h1, h2⟩
  refine ⟨fun i r' hi => ?_, fun i j r' s' hi hj hij b hb hsb => ?_⟩
  · obtain ⟨r, h1, ⟨rfl, h2⟩ | ⟨h2, _⟩⟩ := hr i r' hi
    · exact ownsRow_block (h.own i r' h1) h2
    · exact h2
  · obtain ⟨r, h1, h2⟩ := hold i r' hi
    obtain ⟨s, h3, h4⟩ := hold j s' hj
    rcases h2 b hb with h5 | h5
    · rcases h4 b hsb with h6 | h6
      · exact h.apart i j r s h1 h3 hij b h5 h6
      · have := ((h.own i r h1).lt b h5).2; omega
    · exact hf i j r' s' hi hj hij b h5 hb hsb
/-- Two rows are turned: one where it lay, another one perhaps anew. -/
theorem Rows.upd2 {w w' : World} {base : Nat} {l : List Rw} (h : Rows w base l) {i j : Nat} (hij : i ≠ j) {r r' q q' : Rw} (hi : l[i]? = some r) (hj : l[j]? = some q) (hv : r'.v = r.v)
    (hr : w'.ownsRow base r'.e r'.k r'.v r'.n r'.xs) (hq : w'.ownsRow base q'.e q'.k q'.v q'.n q'.xs)
    (hk : ∀ b, b < w.heap.size → r.v.ownBlock ≠ some b → q.v.ownBlock ≠ some b → w'.heap[b]? = w.heap[b]?)
    (hf : ∀ b, q'.v.ownBlock = some b → q.v.ownBlock = some b ∨ w.heap.size ≤ b) : Rows w' base ((l.set i r').set j q') := by
  have hil : i < l.length := (List.getElem?_eq_some_iff.1 hi).1
  have hjl : j < l.length := (List.getElem?_eq_some_iff.1 hj).1
  have hat : ∀ (m : Nat) (x : Rw), ((l.set i r').set j q')[m]? = some x → (m = j ∧ x = q') ∨ (m = i ∧ m ≠ j ∧ x = r') ∨ (m ≠ i ∧ m ≠ j ∧ l[m]? = some x) := fun m x hm => by
    rw [List.getElem?_set] at hm
    by_cases h1 : j = m
    · subst h1
      rw [if_pos rfl, if_pos (by simpa using hjl)] at hm
      exact .inl ⟨rfl, by simpa using hm.symm⟩
    · rw [if_neg h1, List.getElem?_set] at hm
      by_cases h2 : i = m
      · subst h2
        rw [if_pos rfl, if_pos hil] at hm
        exact .inr (.inl ⟨rfl, fun e => h1 e.symm, by simpa using hm.symm⟩)
      · rw [if_neg h2] at hm
        exact .inr (.inr ⟨fun e => h2 e.symm, fun e => h1 e.symm, hm⟩)
  refine h.turn (fun m x hm => ?_) (fun m n x y hm hn hmn b hb hx hy => ?_)
  · rcases hat m x hm with ⟨rfl, rfl⟩ | ⟨rfl, _, rfl⟩ | ⟨h1, h2, h3⟩
    · exact ⟨q, hj, .inr ⟨hq, hf⟩⟩
    · exact ⟨r, hi, .inr ⟨hr, fun b hb => .inl (by rw [← hv]; exact hb)⟩⟩
    · refine ⟨x, h3, .inl ⟨rfl, fun b hb => hk b ((h.own m x h3).lt b hb).2 (fun e => h.apart m i x r h3 hi h1 b hb e) (fun e => h.apart m j x q h3 hj h2 b hb e)⟩⟩
  · have hold : ∀ (m : Nat) (x : Rw), m ≠ j → ((l.set i r').set j q')[m]? = some x → x.v.ownBlock = some b → False := fun m x hmj hm hx => by
      rcases hat m x hm with ⟨rfl, rfl⟩ | ⟨rfl, _, rfl⟩ | ⟨h1, h2, h3⟩
      · exact hmj rfl
      · rw [hv] at hx
        have := ((h.own m r hi).lt b hx).2; omega
      · have := ((h.own m x h3).lt b hx).2; omega
    by_cases hmj : m = j
    · exact hold n y (fun e => hmn (hmj.trans e.symm)) hn hy
    · exact hold m x hmj hm hx

/-- A channel: its room, all that ever was sent, how many were received. -/
structure Cn where
  room : Int
  sent : List Int
  taken : Nat
def Cn.rest (c : Cn) : List Int := c.sent.drop c.taken
/-- A state: owners, who waits, channels. -/
structure SM where
  owners : List Int
  conds : List (List Int)
  chans : List Cn
/-- How much there is at most. -/
structure Sz (N : Nat) (s : SM) : Prop where
  no : s.owners.length ≤ 64
  nc : s.conds.length ≤ 64
  nh : s.chans.length ≤ 64
  own : ∀ o ∈ s.owners, -1 ≤ o ∧ o ≤ 7
  lc : ∀ l ∈ s.conds, l.length ≤ N
  lh : ∀ c ∈ s.chans, c.sent.length ≤ N ∧ c.taken ≤ c.sent.length ∧ 1 ≤ c.room ∧ c.room ≤ 16
theorem Cn.rest_len (c : Cn) : c.rest.length = c.sent.length - c.taken := by simp [Cn.rest]

/-- Where all of it lies. -/
structure Ly where
  oo : Option Addr
  co : Nat
  oc : Option Addr
  cc : Nat
  oh : Option Addr
  ch : Nat
  cv : List Value
  hv : List Value

def condRws (cv : List Value) (ls : List (List Int)) : List Rw := List.zipWith (fun v (l : List Int) => ⟨3, 1, v, l.length, l.map (Value.int .i64)⟩) cv ls
def chanRws (hv : List Value) (cs : List Cn) : List Rw := List.zipWith (fun v (c : Cn) => ⟨2, 1, v, c.rest.length, c.rest.map (Value.int .i64)⟩) hv cs
def chanCells : List Value → List Cn → List Value
  | v :: hv, c :: cs => v :: .int .i64 c.room :: .int .i64 (c.sent.length : Nat) :: chanCells hv cs
  | _, _ => []
def rowO (y : Ly) (s : SM) : Rw := ⟨3, 1, .slice y.oo s.owners.length y.co, s.owners.length, s.owners.map (Value.int .i64)⟩
def rowC (y : Ly) (s : SM) : Rw := ⟨97, 1, .slice y.oc s.conds.length y.cc, s.conds.length, y.cv⟩
def rowH (y : Ly) (s : SM) : Rw := ⟨82, 3, .slice y.oh s.chans.length y.ch, s.chans.length, chanCells y.hv s.chans⟩
def rowsOf (y : Ly) (s : SM) : List Rw := rowO y s :: rowC y s :: rowH y s :: (condRws y.cv s.conds ++ chanRws y.hv s.chans)

abbrev headC (y : Ly) (s : SM) : Array Value := hdC true y.oo s.owners.length y.co y.oc s.conds.length y.cc y.oh s.chans.length y.ch
/-- A state as it lies. -/
structure SyncAt (w : World) (base p : Nat) (s : SM) (y : Ly) : Prop where
  head : Blk w p 78 (headC y s)
  rows : Rows w base (rowsOf y s)
  lc : y.cv.length = s.conds.length
  lh : y.hv.length = s.chans.length
  hbase : base ≤ p
  apart : ¬ Fp (rowsOf y s) p
/-- The blocks of a state. -/
def SFp (p : Nat) (y : Ly) (s : SM) (b : Nat) : Prop := b = p ∨ Fp (rowsOf y s) b

/-- What a cell has, stored again: the block is as it was. -/
theorem heap_setCell_self {w : World} {B i : Nat} {u : Value} (h : w.cell? ⟨B, i, none⟩ = some u) : (w.setCell ⟨B, i, none⟩ u).heap[B]? = w.heap[B]? := by
  simp only [World.setCell, Array.getElem?_modify, if_true]
  simp only [World.cell?] at h
  cases hb : w.heap[B]? with
  | none => rfl
  | some o =>
    rw [hb] at h
    cases o with
    | cells cs t fz =>
      simp at h
      simp
      apply Array.ext_getElem?
      intro j
      rw [Array.getElem?_setIfInBounds]
      by_cases hj : i = j
      · subst hj; simp [h]; exact (Array.getElem?_eq_some_iff.1 h).1
      · simp [hj]
    | _ => simp

section
variable {w w' : World} {base p : Nat} {s : SM} {y : Ly}
theorem SyncAt.lt (h : SyncAt w base p s y) {b : Nat} (hb : SFp p y s b) : base ≤ b ∧ b < w.heap.size := by
  rcases hb with rfl | hb
  · exact ⟨h.hbase, h.head.lt⟩
  · exact h.rows.lt hb
theorem SyncAt.only {X : Nat → Prop} (h : SyncAt w base p s y) (ho : Only X w w') (hx : ∀ b, SFp p y s b → ¬ X b) : SyncAt w' base p s y :=
  ⟨h.head.only ho (hx p (.inl rfl)), h.rows.only ho (fun b hb => hx b (.inr hb)), h.lc, h.lh, h.hbase, h.apart⟩
theorem SyncAt.below (h : SyncAt w base p s y) (hb : Below w.heap.size w w') : SyncAt w' base p s y :=
  h.only (Only.of_below (X := fun _ => False) hb) (fun _ _ => id)
theorem SyncAt.rowO (h : SyncAt w base p s y) : w.ownsRow base 3 1 (.slice y.oo s.owners.length y.co) s.owners.length (s.owners.map (Value.int .i64)) := h.rows.own 0 _ rfl
theorem SyncAt.rowC (h : SyncAt w base p s y) : w.ownsRow base 97 1 (.slice y.oc s.conds.length y.cc) s.conds.length y.cv := h.rows.own 1 _ rfl
theorem SyncAt.rowH (h : SyncAt w base p s y) : w.ownsRow base 82 3 (.slice y.oh s.chans.length y.ch) s.chans.length (chanCells y.hv s.chans) := h.rows.own 2 _ rfl
theorem condRws_at {cv : List Value} {ls : List (List Int)} (k : Nat) {v : Value} {l : List Int} (hv : cv[k]? = some v) (hl : ls[k]? = some l) : (condRws cv ls)[k]? = some ⟨3, 1, v, l.length, l.map (Value.int .i64)⟩ := by
  simp [condRws, List.getElem?_zipWith, hv, hl]
theorem chanRws_at {hv : List Value} {cs : List Cn} (k : Nat) {v : Value} {c : Cn} (h1 : hv[k]? = some v) (h2 : cs[k]? = some c) : (chanRws hv cs)[k]? = some ⟨2, 1, v, c.rest.length, c.rest.map (Value.int .i64)⟩ := by
  simp [chanRws, List.getElem?_zipWith, h1, h2]
theorem condRws_len {cv : List Value} {ls : List (List Int)} (h : cv.length = ls.length) : (condRws cv ls).length = ls.length := by simp [condRws, h]
theorem rowsOf_cond (h : y.cv.length = s.conds.length) (k : Nat) {v : Value} {l : List Int} (hv : y.cv[k]? = some v) (hl : s.conds[k]? = some l) : (rowsOf y s)[3 + k]? = some ⟨3, 1, v, l.length, l.map (Value.int .i64)⟩ := by
  have hk : k < s.conds.length := (List.getElem?_eq_some_iff.1 hl).1
  unfold rowsOf
  rw [show 3 + k = k + 1 + 1 + 1 by omega, List.getElem?_cons_succ, List.getElem?_cons_succ, List.getElem?_cons_succ, List.getElem?_append_left (by rw [condRws_len h]; exact hk)]
  exact condRws_at k hv hl
theorem rowsOf_chan (h : y.cv.length = s.conds.length) (k : Nat) {v : Value} {c : Cn} (hv : y.hv[k]? = some v) (hc : s.chans[k]? = some c) : (rowsOf y s)[3 + s.conds.length + k]? = some ⟨2, 1, v, c.rest.length, c.rest.map (Value.int .i64)⟩ := by
  unfold rowsOf
  rw [show 3 + s.conds.length + k = (s.conds.length + k) + 1 + 1 + 1 by omega, List.getElem?_cons_succ, List.getElem?_cons_succ, List.getElem?_cons_succ, List.getElem?_append_right (by rw [condRws_len h]; omega), condRws_len h, Nat.add_sub_cancel_left]
  exact chanRws_at k hv hc
theorem SyncAt.rowCond (h : SyncAt w base p s y) (k : Nat) {v : Value} {l : List Int} (hv : y.cv[k]? = some v) (hl : s.conds[k]? = some l) : w.ownsRow base 3 1 v l.length (l.map (Value.int .i64)) :=
  h.rows.own _ _ (rowsOf_cond h.lc k hv hl)
theorem SyncAt.rowChan (h : SyncAt w base p s y) (k : Nat) {v : Value} {c : Cn} (hv : y.hv[k]? = some v) (hc : s.chans[k]? = some c) : w.ownsRow base 2 1 v c.rest.length (c.rest.map (Value.int .i64)) :=
  h.rows.own _ _ (rowsOf_chan h.lc k hv hc)

theorem zipWith_set {α β γ : Type} (f : α → β → γ) : ∀ (l : List α) (m : List β) (k : Nat) (a : α) (b : β), List.zipWith f (l.set k a) (m.set k b) = (List.zipWith f l m).set k (f a b)
  | [], _, _, _, _ => by simp
  | _ :: _, [], k, _, _ => by cases k <;> simp
  | x :: l, z :: m, 0, a, b => by simp
  | x :: l, z :: m, k + 1, a, b => by simp [zipWith_set f l m k a b]
theorem set_append_left' {α : Type} (a b : List α) (k : Nat) (x : α) (h : k < a.length) : (a ++ b).set k x = a.set k x ++ b := by rw [List.set_append, if_pos h]
theorem set_append_right' {α : Type} (a b : List α) (k : Nat) (x : α) : (a ++ b).set (a.length + k) x = a ++ b.set k x := by rw [List.set_append, if_neg (by omega), Nat.add_sub_cancel_left]

/-- What a condition's turn makes of the rows. -/
theorem rowsOf_set_cond (h : y.cv.length = s.conds.length) (k : Nat) (hk : k < s.conds.length) (v' : Value) (l' : List Int) :
    rowsOf { y with cv := y.cv.set k v' } { s with conds := s.conds.set k l' } = ((rowsOf y s).set 1 ⟨97, 1, .slice y.oc s.conds.length y.cc, s.conds.length, y.cv.set k v'⟩).set (3 + k) ⟨3, 1, v', l'.length, l'.map (Value.int .i64)⟩ := by
  unfold rowsOf
  rw [show 3 + k = k + 1 + 1 + 1 by omega]
  simp only [List.set_cons_succ, List.set_cons_zero]
  rw [set_append_left' _ _ _ _ (by rw [condRws_len h]; exact hk)]
  unfold condRws
  rw [zipWith_set]
  simp [Go.Proofs.Ytdfjbgfdaokjgaa.rowO, Go.Proofs.Ytdfjbgfdaokjgaa.rowC, Go.Proofs.Ytdfjbgfdaokjgaa.rowH]
theorem rowsOf_set_chan (h : y.cv.length = s.conds.length) (k : Nat) (v' : Value) (c' : Cn) :
    rowsOf { y with hv := y.hv.set k v' } { s with chans := s.chans.set k c' } =
      ((rowsOf y s).set 2 ⟨82, 3, .slice y.oh s.chans.length y.ch, s.chans.length, chanCells (y.hv.set k v') (s.chans.set k c')⟩).set (3 + s.conds.length + k) ⟨2, 1, v', c'.rest.length, c'.rest.map (Value.int .i64)⟩ := by
  unfold rowsOf
  rw [show 3 + s.conds.length + k = (s.conds.length + k) + 1 + 1 + 1 by omega]
  simp only [List.set_cons_succ, List.set_cons_zero]
  rw [← condRws_len h, set_append_right']
  unfold chanRws
  rw [zipWith_set]
  simp [Go.Proofs.Ytdfjbgfdaokjgaa.rowO, Go.Proofs.Ytdfjbgfdaokjgaa.rowC, Go.Proofs.Ytdfjbgfdaokjgaa.rowH]

theorem chanCells_len : ∀ (hv : List Value) (cs : List Cn), hv.length = cs.length → (chanCells hv cs).length = cs.length * 3
  | [], [], _ => by simp [chanCells]
  | v :: hv, c :: cs, h => by
    have := chanCells_len hv cs (by simpa using h)
    simp [chanCells, this]; omega
  | [], _ :: _, h => by simp at h
  | _ :: _, [], h => by simp at h
theorem chanCells_at : ∀ (hv : List Value) (cs : List Cn) (k : Nat) (v : Value) (c : Cn), hv[k]? = some v → cs[k]? = some c →
    (chanCells hv cs)[k * 3]? = some v ∧ (chanCells hv cs)[k * 3 + 1]? = some (.int .i64 c.room) ∧ (chanCells hv cs)[k * 3 + 2]? = some (.int .i64 (c.sent.length : Nat))
  | v :: hv, c :: cs, 0, u, d, h1, h2 => by
    simp at h1 h2; subst h1; subst h2; simp [chanCells]
  | v :: hv, c :: cs, k + 1, u, d, h1, h2 => by
    have := chanCells_at hv cs k u d (by simpa using h1) (by simpa using h2)
    rw [show (k + 1) * 3 = k * 3 + 1 + 1 + 1 by omega]
    simpa [chanCells] using this
  | [], _, _, _, _, h1, _ => by simp at h1
  | _ :: _, [], _, _, _, _, h2 => by simp at h2
theorem chanCells_set : ∀ (hv : List Value) (cs : List Cn) (k : Nat) (v' : Value) (c c' : Cn), hv.length = cs.length → cs[k]? = some c → c'.room = c.room →
    chanCells (hv.set k v') (cs.set k c') = ((chanCells hv cs).set (k * 3) v').set (k * 3 + 2) (.int .i64 (c'.sent.length : Nat))
  | v :: hv, c :: cs, 0, u, d, d', _, h2, h3 => by
    simp at h2; subst h2; simp [chanCells, h3]
  | v :: hv, c :: cs, k + 1, u, d, d', h1, h2, h3 => by
    have := chanCells_set hv cs k u d d' (by simpa using h1) (by simpa using h2) h3
    rw [show (k + 1) * 3 = k * 3 + 1 + 1 + 1 by omega, show k * 3 + 1 + 1 + 1 + 2 = k * 3 + 2 + 1 + 1 + 1 by omega]
    simp [chanCells, this]
  | [], _ :: _, _, _, _, _, h, _, _ => by simp at h
  | _, [], _, _, _, _, _, h2, _ => by simp at h2

theorem Fp.set2 {l : List Rw} {i j : Nat} {r' q' : Rw} {b : Nat} (h : Fp ((l.set i r').set j q') b) : Fp l b ∨ r'.v.ownBlock = some b ∨ q'.v.ownBlock = some b := by
  rcases h.set with h | h
  · rcases h.set with h | h
    · exact .inl h
    · exact .inr (.inl h)
  · exact .inr (.inr h)

/-- A mutex is turned. -/
theorem SyncAt.owner_turn (h : SyncAt w base p s y) {g : Nat} (hg : y.oo = some ⟨g, 0, none⟩) (k : Nat) (t : Int) : SyncAt (w.setCell ⟨g, k, none⟩ (.int .i64 t)) base p { s with owners := s.owners.set k t } y := by
  have hr := h.rowO
  rw [hg] at hr
  have hst := (hr.stored k (.int .i64 t)).1
  have hv : (Go.Proofs.Ytdfjbgfdaokjgaa.rowO y s).v.ownBlock = some g := by simp [Go.Proofs.Ytdfjbgfdaokjgaa.rowO, hg, Value.ownBlock]
  have hgp : g ≠ p := fun e => h.apart ⟨0, _, rfl, by rw [← e]; exact hv⟩
  have hset : rowsOf y { s with owners := s.owners.set k t } = (rowsOf y s).set 0 ⟨3, 1, .slice y.oo s.owners.length y.co, s.owners.length, (s.owners.map (Value.int .i64)).set k (.int .i64 t)⟩ := by
    unfold rowsOf
    simp [Go.Proofs.Ytdfjbgfdaokjgaa.rowO, Go.Proofs.Ytdfjbgfdaokjgaa.rowC, Go.Proofs.Ytdfjbgfdaokjgaa.rowH, List.map_set]
  refine ⟨?_, ?_, h.lc, h.lh, h.hbase, ?_⟩
  · have := h.head.far (p := ⟨g, k, none⟩) (fun e => hgp e.symm) (.int .i64 t)
    simpa [headC] using this
  · rw [hset]
    refine h.rows.upd (i := 0) rfl (by rw [hg]; exact hst) (fun b hb hne => Below.heap_setCell _ _ _ _ (fun e => hne (by rw [hv, e]))) (fun b hb => .inl hb)
  · rw [hset]
    intro hf
    rcases hf.set with hf | hf
    · exact h.apart hf
    · exact h.apart ⟨0, _, rfl, hf⟩

/-- A condition is turned. -/
theorem SyncAt.cond_turn (h : SyncAt w base p s y) {g : Nat} (hg : y.oc = some ⟨g, 0, none⟩) {k : Nat} {v v' : Value} {l l' : List Int} (hv : y.cv[k]? = some v) (hl : s.conds[k]? = some l)
    (hs : QStep w w' base g k 3 v v' l') : SyncAt w' base p { s with conds := s.conds.set k l' } { y with cv := y.cv.set k v' } := by
  have hk : k < s.conds.length := (List.getElem?_eq_some_iff.1 hl).1
  have hr := h.rowC
  rw [hg] at hr
  have hst := (hr.stored k v').1
  have hst' := ownsRow_block (w' := w') hst (fun g' hg' => by
    obtain rfl : g = g' := by simpa [Value.ownBlock] using hg'
    exact hs.blk)
  have hvC : (Go.Proofs.Ytdfjbgfdaokjgaa.rowC y s).v.ownBlock = some g := by simp [Go.Proofs.Ytdfjbgfdaokjgaa.rowC, hg, Value.ownBlock]
  have hi : (rowsOf y s)[1]? = some (Go.Proofs.Ytdfjbgfdaokjgaa.rowC y s) := rfl
  have hj := rowsOf_cond h.lc k hv hl
  have hlt := h.head.lt
  have hset := rowsOf_set_cond (y := y) (s := s) h.lc k hk v' l'
  refine ⟨?_, ?_, by simpa using h.lc, h.lh, h.hbase, ?_⟩
  · have := h.head.only hs.only (fun e => h.apart (by
      rcases e with rfl | e
      · exact ⟨1, _, hi, hvC⟩
      · exact ⟨_, _, hj, e⟩))
    simpa [headC] using this
  · rw [hset]
    refine h.rows.upd2 (by omega) hi hj rfl (by rw [hg]; exact hst') hs.own (fun b hb h1 h2 => hs.only.block b hb (fun e => by
      rcases e with rfl | e
      · exact h1 hvC
      · exact h2 e)) (fun b hb => hs.lies b hb)
  · rw [hset]
    intro hf
    rcases hf.set2 with hf | hf | hf
    · exact h.apart hf
    · exact h.apart ⟨1, _, hi, hf⟩
    · rcases hs.lies p hf with hx | hx
      · exact h.apart ⟨_, _, hj, hx⟩
      · omega

/-- A channel is turned. -/
theorem SyncAt.chan_turn (h : SyncAt w base p s y) {g : Nat} (hg : y.oh = some ⟨g, 0, none⟩) {k : Nat} {v v' : Value} {c c' : Cn} (hv : y.hv[k]? = some v) (hc : s.chans[k]? = some c) (hrm : c'.room = c.room)
    (hown : w'.ownsRow base 2 1 v' c'.rest.length (c'.rest.map (Value.int .i64)))
    (hblk : w'.heap[g]? = ((w.setCell ⟨g, k * 3, none⟩ v').setCell ⟨g, k * 3 + 2, none⟩ (.int .i64 (c'.sent.length : Nat))).heap[g]?)
    (honly : Only (fun b => b = g ∨ v.ownBlock = some b) w w') (hlies : ∀ b, v'.ownBlock = some b → v.ownBlock = some b ∨ w.heap.size ≤ b) :
    SyncAt w' base p { s with chans := s.chans.set k c' } { y with hv := y.hv.set k v' } := by
  have hr := h.rowH
  rw [hg] at hr
  have hst := ((hr.stored (k * 3) v').1.stored (k * 3 + 2) (.int .i64 (c'.sent.length : Nat))).1
  rw [← chanCells_set y.hv s.chans k v' c c' h.lh hc hrm] at hst
  have hst' := ownsRow_block (w' := w') hst (fun g' hg' => by
    obtain rfl : g = g' := by simpa [Value.ownBlock] using hg'
    exact hblk)
  have hvH : (Go.Proofs.Ytdfjbgfdaokjgaa.rowH y s).v.ownBlock = some g := by simp [Go.Proofs.Ytdfjbgfdaokjgaa.rowH, hg, Value.ownBlock]
  have hi : (rowsOf y s)[2]? = some (Go.Proofs.Ytdfjbgfdaokjgaa.rowH y s) := rfl
  have hj := rowsOf_chan h.lc k hv hc
  have hlt := h.head.lt
  have hset := rowsOf_set_chan (y := y) (s := s) h.lc k v' c'
  refine ⟨?_, ?_, h.lc, by simpa using h.lh, h.hbase, ?_⟩
  · have := h.head.only honly (fun e => h.apart (by
      rcases e with rfl | e
      · exact ⟨2, _, hi, hvH⟩
      · exact ⟨_, _, hj, e⟩))
    simpa [headC] using this
  · rw [hset]
    refine h.rows.upd2 (by omega) hi hj rfl (by rw [hg]; exact hst') hown (fun b hb h1 h2 => honly.block b hb (fun e => by
      rcases e with rfl | e
      · exact h1 hvH
      · exact h2 e)) (fun b hb => hlies b hb)
  · rw [hset]
    intro hf
    rcases hf.set2 with hf | hf | hf
    · exact h.apart hf
    · exact h.apart ⟨2, _, hi, hf⟩
    · rcases hlies p hf with hx | hx
      · exact h.apart ⟨_, _, hj, hx⟩
      · omega

end
end Go.Proofs.Ytdfjbgfdaokjgaa

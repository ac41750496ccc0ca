/-
  A region that draws its order, by what holds between two of its operations: no order is gone through.
-/
import Derived.Test.YtdfjbgfdaokjgaaBase
import Derived.Orders
namespace Go.Proofs.Ytdfjbgfdaokjgaa
open Go.RowKit

section
variable {P : Program} {ops : Array Oper} {Q : Exit → Act → World → Prop}
def left_ (ops : Array Oper) (l : Array Bool) : Nat := ((List.range ops.size).filter fun i => !l.getD i true).length
theorem filter_less {α : Type} {p q : α → Bool} : ∀ {l : List α} {x : α}, x ∈ l → p x = true → q x = false → (∀ y, q y = true → p y = true) → (l.filter q).length < (l.filter p).length
  | [], _, h, _, _, _ => by cases h
  | y :: l, x, h, h1, h2, h3 => by
    have hle : (l.filter q).length ≤ (l.filter p).length := by
      clear h h1 h2
      induction l with
      | nil => simp
      | cons z l ih =>
        by_cases hq : q z = true
        · simp [hq, h3 z hq]; exact ih
        · by_cases hp : p z = true
          · simp [hq, hp]; omega
          · simp [hq, hp]; exact ih
    rcases List.mem_cons.1 h with rfl | h
    · simp [h1, h2]; omega
    · have := filter_less h h1 h2 h3
      by_cases hq : q y = true
      · simp [hq, h3 y hq]; omega
      · by_cases hp : p y = true
        · simp [hq, hp]; omega
        · simp [hq, hp]; exact this
theorem left_less {l : Array Bool} {i : Nat} (hl : l.size = ops.size) (hi : i ∈ Region.ready .any ops l) : left_ ops (l.setIfInBounds i true) < left_ ops l := by
  obtain ⟨h1, o, h2, -⟩ := mem_ready.1 hi
  have hlt : i < ops.size := (Array.getElem?_eq_some_iff.1 h2).1
  refine filter_less (x := i) (by simpa using hlt) (by simp [h1]) (by simp [Array.getD, hl, hlt]) (fun y hy => ?_)
  by_cases e : i = y
  · subst e; simp [Array.getD, hl, hlt] at hy
  · rw [getD_set_ne true e] at hy; exact hy

theorem any_inv (I : Array Bool → Act → World → Prop)
    (hs : ∀ (l : Array Bool) (a : Act) (w : World) (i : Nat), l.size = ops.size → i ∈ Region.ready .any ops l → I l a w → wpOp P ops Q i (I (l.setIfInBounds i true)) a w)
    (he : ∀ (l : Array Bool) (a : Act) (w : World), l.size = ops.size → Region.ready .any ops l = [] → I l a w → Q .normal a w) :
    ∀ (n : Nat) (l : Array Bool) (a : Act) (w : World), l.size = ops.size → left_ ops l ≤ n → I l a w → wpAny P .any ops Q n l a w := by
  intro n
  induction n with
  | zero =>
    intro l a w hl hn hI
    have hr : Region.ready .any ops l = [] := by
      cases h : Region.ready .any ops l with
      | nil => rfl
      | cons i r =>
        have := left_less hl (i := i) (by rw [h]; simp)
        omega
    exact ⟨hr, he l a w hl hr hI⟩
  | succ n ih =>
    intro l a w hl hn hI
    refine ⟨fun hr => he l a w hl hr hI, fun i hi => wpOp_mono (fun a' w' h' => ih _ a' w' (by simpa using hl) (by have := left_less hl hi; omega) h') (hs l a w i hl hi hI)⟩

/-- What each operation keeps holds behind the region. -/
theorem region_inv {id : Nat} {a : Act} {w : World} (hm : P.follows .mixedOrders = true) (I : Array Bool → Act → World → Prop)
    (h0 : I (Array.replicate ops.size false) a w.drew)
    (hs : ∀ (l : Array Bool) (a : Act) (w : World) (i : Nat), l.size = ops.size → i ∈ Region.ready .any ops l → I l a w → wpOp P ops Q i (I (l.setIfInBounds i true)) a w)
    (he : ∀ (l : Array Bool) (a : Act) (w : World), l.size = ops.size → Region.ready .any ops l = [] → I l a w → Q .normal a w) : (Code.region id ops true).wp P Q a w := by
  refine wp_region_any hm (any_inv I hs he ops.size _ a _ (by simp) ?_ h0)
  unfold left_
  exact Nat.le_trans (List.length_filter_le _ _) (by simp)

/-- Each operation asks for earlier ones alone. -/
def Topo (ops : Array Oper) : Prop := ∀ (j : Nat) (o : Oper), ops[j]? = some o → ∀ e ∈ o.after, Region.binds .any e = true → e.on < j
theorem ready_all (ht : Topo ops) {l : Array Bool} (hr : Region.ready .any ops l = []) : ∀ j, j < ops.size → l.getD j true = true := by
  intro j
  induction j using Nat.strongRecOn with
  | _ j ih =>
    intro hj
    cases hc : l.getD j true with
    | true => rfl
    | false =>
      have : j ∈ Region.ready .any ops l := mem_ready.2 ⟨hc, ops[j], by simp [hj], fun e he hb => by
        have h1 := ht j ops[j] (by simp [hj]) e he hb
        have h2 := ih e.on h1 (by omega)
        have hl : l.size > j := by
          by_cases h : j < l.size
          · exact h
          · simp [Array.getD, h] at hc
        have h3 : e.on < l.size := by omega
        simpa [Array.getD, h3] using h2⟩
      rw [hr] at this
      cases this
end

/-! The frame of a walk, told by what is read of it. -/
/-- As a0, but for the slots of L. -/
structure Fr (L : List Nat) (a0 a : Act) : Prop where
  size : a.tmps.size = a0.tmps.size
  defers : a.defers = a0.defers
  rest : ∀ t, t ∉ L → a.tmps[t]? = a0.tmps[t]?
theorem Fr.refl (L : List Nat) (a : Act) : Fr L a a := ⟨rfl, rfl, fun _ _ => rfl⟩
theorem Fr.put {L : List Nat} {a0 a : Act} (h : Fr L a0 a) {d : Nat} (hd : d ∈ L) (v : Value) : Fr L a0 (a.put (some d) v) :=
  ⟨by simp [Act.put, h.size], h.defers, fun t ht => by
    have hne : d ≠ t := fun e => ht (e ▸ hd)
    simp [Act.put, hne, h.rest t ht]⟩
theorem Fr.eval {L : List Nat} {a0 a : Act} (h : Fr L a0 a) {t : Nat} (ht : t ∉ L) : a.eval (.tmp t) = a0.eval (.tmp t) := by
  simp [Act.eval, Array.getD_eq_getD_getElem?, h.rest t ht]
theorem put_same {a : Act} {d : Nat} (hd : d < a.tmps.size) (v : Value) : (a.put (some d) v).eval (.tmp d) = v := by
  simp [Act.put, Act.eval, Array.getD_eq_getD_getElem?, hd]
theorem put_other {a : Act} {d t : Nat} (hd : d ≠ t) (v : Value) : (a.put (some d) v).eval (.tmp t) = a.eval (.tmp t) := by
  simp [Act.put, Act.eval, Array.getD_eq_getD_getElem?, hd]
theorem Fr.form {L : List Nat} {a0 a : Act} (h : Fr L a0 a) (hL : ∀ t ∈ L, t < a0.tmps.size) : a = ⟨L.foldl (fun acc t => acc.setIfInBounds t (a.eval (.tmp t))) a0.tmps, a0.defers⟩ := by
  have key : ∀ (M : List Nat) (b : Array Value), b.size = a.tmps.size → (∀ t ∈ M, t < a.tmps.size) → (∀ t, t ∉ M → a.tmps[t]? = b[t]?) → a.tmps = M.foldl (fun acc t => acc.setIfInBounds t (a.eval (.tmp t))) b := by
    intro M
    induction M with
    | nil => intro b _ _ hb; exact Array.ext_getElem? (fun t => hb t (by simp))
    | cons d M ih =>
      intro b hsz hlt hb
      rw [List.foldl_cons]
      refine ih _ (by simpa using hsz) (fun t ht => hlt t (by simp [ht])) (fun t ht => ?_)
      rw [Array.getElem?_setIfInBounds]
      by_cases e : d = t
      · subst e
        have := hlt d (by simp)
        simp [hsz, this, Act.eval, Array.getD_eq_getD_getElem?]
      · rw [if_neg e]
        exact hb t (by simp [ht, Ne.symm e])
  cases a with
  | mk tm df =>
    have := key L a0.tmps h.size.symm (fun t ht => by rw [h.size]; exact hL t ht) h.rest
    simp only [Act.mk.injEq]
    exact ⟨this, h.defers⟩
/-- One operation that is run. -/
theorem op_value {P : Program} {ops : Array Oper} {Q : Exit → Act → World → Prop} {i : Nat} {o : Oper} {K : Act → World → Prop} {a : Act} {w w' : World} {v : Value} (hi : ops[i]? = some o) (hg : o.guard = none)
    (h : (execOp a.eval o).run P w = .ok (.value v) w') (hk : K (a.put o.dst v) w') : wpOp P ops Q i K a w := by
  unfold wpOp
  rw [hi]
  simp only [Region.wanted, hg, if_true]
  refine .inl ?_
  unfold Oper.wp
  rw [h]
  exact hk
end Go.Proofs.Ytdfjbgfdaokjgaa

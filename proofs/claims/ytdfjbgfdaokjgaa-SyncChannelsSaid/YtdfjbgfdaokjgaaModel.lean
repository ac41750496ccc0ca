/-
  What the calls of layer 4 answer, as data.
-/
import Derived.Test.YtdfjbgfdaokjgaaReads
namespace Go.Proofs.Ytdfjbgfdaokjgaa
open Go.RowKit

/-- The one of a number. -/
def at_ {α : Type} (l : List α) (m : Int) : Option α := if m < 0 then none else l[m.toNat]?
theorem at_some {α : Type} {l : List α} {m : Int} {x : α} (h : at_ l m = some x) : 0 ≤ m ∧ m < (l.length : Int) ∧ l[m.toNat]? = some x := by
  unfold at_ at h
  split at h
  · cases h
  · have := (List.getElem?_eq_some_iff.1 h).1
    exact ⟨by omega, by omega, h⟩
theorem at_none {α : Type} {l : List α} {m : Int} (h : at_ l m = none) : m < 0 ∨ (l.length : Int) ≤ m := by
  unfold at_ at h
  split at h
  · exact .inl ‹_›
  · have := List.getElem?_eq_none_iff.1 h
    exact .inr (by omega)
def lockS (s : SM) (m t : Int) : SM × Bool × Int := match at_ s.owners m with
  | none => (s, false, 4)
  | some o => if inB 0 7 t = false then (s, false, 2) else if o = -1 then ({ s with owners := s.owners.set m.toNat t }, true, 0) else (s, false, 0)
def ownerS (s : SM) (m : Int) : Int × Int := match at_ s.owners m with
  | none => (0, 4)
  | some o => (o, 0)
def unlockS (s : SM) (m t : Int) : SM × Int := match at_ s.owners m with
  | none => (s, 4)
  | some o => if inB 0 7 t = false then (s, 2) else if o = t then ({ s with owners := s.owners.set m.toNat (-1) }, 0) else (s, 140)
def waitS (s : SM) (c t : Int) : SM × Int := match at_ s.conds c with
  | none => (s, 4)
  | some l => if inB 0 7 t = false then (s, 2) else if t ∈ s.conds.flatten then (s, 141) else ({ s with conds := s.conds.set c.toNat (l ++ [t]) }, 0)
def waitsS (s : SM) (c : Int) : List Int × Int := match at_ s.conds c with
  | none => ([], 4)
  | some l => (l, 0)
def signalS (s : SM) (c : Int) : SM × Int × Bool × Int := match at_ s.conds c with
  | none => (s, 0, false, 4)
  | some [] => (s, 0, false, 0)
  | some (x :: l) => ({ s with conds := s.conds.set c.toNat l }, x, true, 0)
def allS (s : SM) (c : Int) : SM × List Int × Int := match at_ s.conds c with
  | none => (s, [], 4)
  | some l => ({ s with conds := s.conds.set c.toNat [] }, l, 0)
def sendS (s : SM) (q v : Int) : SM × Int × Bool × Int := match at_ s.chans q with
  | none => (s, 0, false, 4)
  | some c => if inB (-2147483648) 2147483647 v = false then (s, 0, false, 2) else if c.room ≤ (c.rest.length : Int) then (s, 0, false, 0)
    else ({ s with chans := s.chans.set q.toNat { c with sent := c.sent ++ [v] } }, (c.sent.length : Nat), true, 0)
def recvS (s : SM) (q : Int) : SM × Int × Int × Bool × Int := match at_ s.chans q with
  | none => (s, 0, 0, false, 4)
  | some c => match c.rest with
    | [] => (s, 0, 0, false, 0)
    | x :: _ => ({ s with chans := s.chans.set q.toNat { c with taken := c.taken + 1 } }, x, (c.taken : Nat), true, 0)
def valuesS (s : SM) (q : Int) : List Int × Int := match at_ s.chans q with
  | none => ([], 4)
  | some c => (c.rest, 0)
def roomS (s : SM) (q : Int) : Int × Int := match at_ s.chans q with
  | none => (0, 4)
  | some c => (c.room, 0)

theorem refS_t (f m : Bool) (l : Int) : refS true false f m l = 4 := rfl
theorem refS_f (f m : Bool) (l : Int) : refS false false f m l = 1 := rfl
theorem below_step {w w1 w2 : World} {o : Obj} (h : Below w.heap.size w w1) (hb : Below (w1.alloc o).heap.size (w1.alloc o) w2) : Below w.heap.size w w2 :=
  (h.alloc h.size o).trans (hb.mono (by have := h.size; simp; omega))
theorem below_set {w w1 w2 : World} {a : Addr} {u : Value} (h : Below w.heap.size w w1) (ha : w.heap.size ≤ a.block) (hb : Below (w1.setCell a u).heap.size (w1.setCell a u) w2) : Below w.heap.size w w2 :=
  (h.setCell ha u).trans (hb.mono (by have := h.size; simpa using this))
end Go.Proofs.Ytdfjbgfdaokjgaa

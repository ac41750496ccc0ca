/-
  The reference's state as it lies in memory.
-/
import Derived.Test.YtdfjbgfdaokjgaaSt
namespace Go.Proofs.Ytdfjbgfdaokjgaa
open Go.RowKit

/-- Slices of a slice, each with its numbers. -/
def ListsAt (w : World) (o : Option Addr) (ls : List (List Int)) : Prop := (0 < ls.length → ∃ g off, o = some ⟨g, off, none⟩) ∧ ∀ g off, o = some ⟨g, off, none⟩ → ∀ (j : Nat) (l : List Int), ls[j]? = some l →
  ∃ (q : Option Addr) (c : Nat), w.cell? ⟨g, off + j, none⟩ = some (.slice q l.length c) ∧ (l.length ≤ c ∧ c ≤ 9223372036854775807) ∧ IntsAt w q l
theorem ListsAt.below {w w' : World} {o : Option Addr} {ls : List (List Int)} (h : ListsAt w o ls) (hb : Below w.heap.size w w') : ListsAt w' o ls :=
  ⟨h.1, fun g off he j l hl => by
    obtain ⟨q, c, h1, hc, h2⟩ := h.2 g off he j l hl
    exact ⟨q, c, (hb.cell (p := ⟨g, off + j, none⟩) (World.block_lt_of_cell? w _ h1)).trans h1, hc, h2.below hb⟩⟩
/-- Where the reference's state lies: five slices. -/
structure RLy where
  o1 : Option Addr
  c1 : Nat
  o2 : Option Addr
  c2 : Nat
  o3 : Option Addr
  c3 : Nat
  o4 : Option Addr
  c4 : Nat
  o5 : Option Addr
  c5 : Nat
def hdR (y : RLy) (s : SM) : Array Value := #[.slice y.o1 s.owners.length y.c1, .slice y.o2 s.conds.length y.c2, .slice y.o3 s.chans.length y.c3, .slice y.o4 s.chans.length y.c4, .slice y.o5 s.chans.length y.c5]
structure RAt (w : World) (y : RLy) (s : SM) : Prop where
  owners : IntsAt w y.o1 s.owners
  conds : ListsAt w y.o2 s.conds
  rooms : IntsAt w y.o3 (s.chans.map (·.room))
  sent : ListsAt w y.o4 (s.chans.map (·.sent))
  taken : IntsAt w y.o5 (s.chans.map (fun c => (c.taken : Int)))
theorem RAt.below {w w' : World} {y : RLy} {s : SM} (h : RAt w y s) (hb : Below w.heap.size w w') : RAt w' y s :=
  ⟨h.owners.below hb, h.conds.below hb, h.rooms.below hb, h.sent.below hb, h.taken.below hb⟩
end Go.Proofs.Ytdfjbgfdaokjgaa

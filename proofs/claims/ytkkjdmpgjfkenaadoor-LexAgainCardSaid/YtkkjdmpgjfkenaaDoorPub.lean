/-
  'strconv.ParseUint' at 31 bits: the number, or an error.
-/
import Derived.Test.YtkkjdmpgjfkenaaDoorUint
import Derived.Lib.AtoiErrMem
namespace Go.Proofs.YtkkjdmpgjfkenaaDoor
open Go.RowKit Go.Shelf

/-- The two errors of package strconv hold what start-up lays. -/
def ErrVars (w : World) : Prop := (∃ te pe, w.cell? ⟨0, 0, none⟩ = some (.iface te pe)) ∧ (∃ te pe, w.cell? ⟨1, 0, none⟩ = some (.iface te pe)) ∧ 5 ≤ w.heap.size
theorem ErrVars.below {w w' : World} (h : ErrVars w) (hb : Below 5 w w') : ErrVars w' := by
  obtain ⟨⟨a, b, h1⟩, ⟨c, d, h2⟩, h3⟩ := h
  exact ⟨⟨a, b, (hb.cell (by simp)).trans h1⟩, ⟨c, d, (hb.cell (by simp)).trans h2⟩, Nat.le_trans h3 hb.size⟩

set_option maxHeartbeats 1000000 in
set_option maxRecDepth 100000 in
theorem uint_ok (t : ByteArray) (hne : t.size ≠ 0) (hmax : t.size ≤ 1000000000) (n : Nat) (h : Lib.parseUintM 2147483647 0 t.data.toList = .ok n) (w : World) :
    Calls Tryd.prog 55 #[.string t, .int .i64 10, .int .i64 31] w fun e w' => e = .returned (.tuple #[.int .u64 n, .nilIface]) ∧ Below w.heap.size w w' := by
  have C := inner31 t hne hmax w
  rw [h] at C
  simp only [Lib.uintTupleM] at C
  have H := Lib.hid C
  clear C h
  go_enter Tryd.func55, Tryd.ntmps55
  go_wp2_with fail
  refine H.out.mono ?_
  rintro e w' ⟨rfl, rfl⟩
  go_wp2_with fail
  go_ret2
  exact ⟨rfl, Lib.bytesWorld_below _ _ _⟩
set_option maxHeartbeats 1000000 in
set_option maxRecDepth 100000 in
theorem uint_bad (t : ByteArray) (hne : t.size ≠ 0) (hmax : t.size ≤ 1000000000) (h : ∀ n, Lib.parseUintM 2147483647 0 t.data.toList ≠ .ok n) (w : World) (hv : ErrVars w) :
    Calls Tryd.prog 55 #[.string t, .int .i64 10, .int .i64 31] w fun e w' => ∃ (v : Int) (T N : Nat), e = .returned (.tuple #[.int .u64 v, .iface T (.pointer (some ⟨N, 0, none⟩))]) ∧ Below w.heap.size w w' := by
  have C := inner31 t hne hmax w
  have hb0 := Lib.bytesWorld_below w 5 t
  have hv1 := hv.below (hb0.mono hv.2.2)
  have HB := Lib.hid hb0
  clear hb0
  generalize Lib.bytesWorld w 5 t = W1 at *
  obtain ⟨⟨te, pe, hs⟩, ⟨te', pe', hr⟩, h5⟩ := hv1
  rcases hp : Lib.parseUintM 2147483647 0 t.data.toList with n | _ | _
  · exact absurd hp (h n)
  ·
    rw [hp] at C
    simp only [Lib.uintTupleM] at C
    have H := Lib.hid C
    have H2 := Lib.hid (Tryd.strconv_toError_syntax ⟨#[80, 97, 114, 115, 101, 85, 105, 110, 116]⟩ t 10 31 _ W1 (by omega) hs (.inr ⟨_, _, rfl⟩))
    clear C h hp hs hr h5 hv
    go_enter Tryd.func55, Tryd.ntmps55
    go_wp2_with fail
    refine H.out.mono ?_
    rintro e w' ⟨rfl, rfl⟩
    go_wp2_with fail
    refine H2.out.mono ?_
    rintro e w2 ⟨N, rfl, h1, _, h3⟩
    go_wp2_with fail
    go_ret2
    exact ⟨_, _, N, rfl, HB.out.trans (h3.mono HB.out.size)⟩
  ·
    rw [hp] at C
    simp only [Lib.uintTupleM] at C
    have H := Lib.hid C
    have H2 := Lib.hid (Tryd.strconv_toError_range ⟨#[80, 97, 114, 115, 101, 85, 105, 110, 116]⟩ t 10 31 _ W1 (by omega) hr (.inr ⟨_, _, rfl⟩))
    clear C h hp hs hr h5 hv
    go_enter Tryd.func55, Tryd.ntmps55
    go_wp2_with fail
    refine H.out.mono ?_
    rintro e w' ⟨rfl, rfl⟩
    go_wp2_with fail
    refine H2.out.mono ?_
    rintro e w2 ⟨N, rfl, h1, _, h3⟩
    go_wp2_with fail
    go_ret2
    exact ⟨_, _, N, rfl, HB.out.trans (h3.mono HB.out.size)⟩
end Go.Proofs.YtkkjdmpgjfkenaaDoor

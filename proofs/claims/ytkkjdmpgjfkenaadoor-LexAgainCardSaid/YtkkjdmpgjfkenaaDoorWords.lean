/-
  The keywords, the signs and the blanks, as sets.
-/
import Derived.Test.YtkkjdmpgjfkenaaDoorSets
import Derived.Laws.Rows
namespace Go.Proofs.YtkkjdmpgjfkenaaDoor
open Go.RowKit Go.Maps Go.WideMaps

def kwB : List ByteArray := [⟨#[118, 97, 114]⟩, ⟨#[97, 114, 114, 97, 121]⟩, ⟨#[109, 117, 116, 101, 120]⟩, ⟨#[99, 111, 110, 100]⟩, ⟨#[99, 104, 97, 110]⟩, ⟨#[116, 104, 114, 101, 97, 100]⟩, ⟨#[108, 101, 116]⟩, ⟨#[105, 102]⟩, ⟨#[101, 108, 115, 101]⟩, ⟨#[119, 104, 105, 108, 101]⟩, ⟨#[108, 111, 99, 107]⟩, ⟨#[117, 110, 108, 111, 99, 107]⟩, ⟨#[119, 97, 105, 116]⟩, ⟨#[115, 105, 103, 110, 97, 108]⟩, ⟨#[97, 108, 108]⟩, ⟨#[115, 101, 110, 100]⟩, ⟨#[114, 101, 99, 118]⟩, ⟨#[115, 112, 97, 119, 110]⟩, ⟨#[106, 111, 105, 110]⟩, ⟨#[112, 114, 105, 110, 116]⟩]
def sgB : List ByteArray := [⟨#[59]⟩, ⟨#[40]⟩, ⟨#[41]⟩, ⟨#[123]⟩, ⟨#[125]⟩, ⟨#[91]⟩, ⟨#[93]⟩, ⟨#[61]⟩, ⟨#[61, 61]⟩, ⟨#[33, 61]⟩, ⟨#[60]⟩, ⟨#[60, 61]⟩, ⟨#[43]⟩, ⟨#[45]⟩, ⟨#[42]⟩, ⟨#[47]⟩, ⟨#[37]⟩, ⟨#[38, 38]⟩, ⟨#[124, 124]⟩, ⟨#[33]⟩]
def kwL : List (List UInt8) := [[118, 97, 114], [97, 114, 114, 97, 121], [109, 117, 116, 101, 120], [99, 111, 110, 100], [99, 104, 97, 110], [116, 104, 114, 101, 97, 100], [108, 101, 116], [105, 102], [101, 108, 115, 101], [119, 104, 105, 108, 101], [108, 111, 99, 107], [117, 110, 108, 111, 99, 107], [119, 97, 105, 116], [115, 105, 103, 110, 97, 108], [97, 108, 108], [115, 101, 110, 100], [114, 101, 99, 118], [115, 112, 97, 119, 110], [106, 111, 105, 110], [112, 114, 105, 110, 116]]
def sgL : List (List UInt8) := [[59], [40], [41], [123], [125], [91], [93], [61], [61, 61], [33, 61], [60], [60, 61], [43], [45], [42], [47], [37], [38, 38], [124, 124], [33]]
def blZ : List Int := [32, 9, 13, 10]
theorem kw_list : kwB.map (fun s => s.data.toList) = kwL := by decide
theorem sg_list : sgB.map (fun s => s.data.toList) = sgL := by decide

theorem cells_of_strs (w : World) (ss : List ByteArray) (t : TypeId) (j : Nat) (hj : j < ss.length) :
    (w.alloc (.cells (ss.map Value.string).toArray t)).cell? ⟨w.heap.size, j, none⟩ = some (.string (ss.getD j ByteArray.empty)) := by
  rw [cell_of_row _ w.heap.size j (ss.map Value.string).toArray t (0, 0) (heap_alloc_new w _)]
  simp [List.getD, List.getElem?_eq_getElem hj]
theorem cells_of_ints (w : World) (ss : List Int) (t : TypeId) (j : Nat) (hj : j < ss.length) :
    (w.alloc (.cells (ss.map (Value.int .u8)).toArray t)).cell? ⟨w.heap.size, j, none⟩ = some (.int .u8 (ss.getD j 0)) := by
  rw [cell_of_row _ w.heap.size j (ss.map (Value.int .u8)).toArray t (0, 0) (heap_alloc_new w _)]
  simp [List.getD, List.getElem?_eq_getElem hj]

theorem has_strs (ss : List ByteArray) (l : List UInt8) : Maps.has (SnS ss ss.length) (.string l) = decide (l ∈ ss.map (fun s => s.data.toList)) := by
  unfold SnS
  rw [has_setOf _ _ _ (fun y hy => by unfold keysS at hy; obtain ⟨_, _, rfl⟩ := List.mem_map.1 hy; trivial)]
  unfold keysS
  rw [List.take_length, List.any_map, Bool.eq_iff_iff]
  simp [Lit.sameKey]
theorem has_ints (ss : List Int) (x : Int) : Maps.has (SnB ss ss.length) (.int .u8 x) = decide (x ∈ ss) := by
  unfold SnB
  rw [has_setOf _ _ _ (fun y hy => by unfold keysB at hy; obtain ⟨_, _, rfl⟩ := List.mem_map.1 hy; trivial)]
  unfold keysB
  rw [List.take_length, List.any_map, Bool.eq_iff_iff]
  simp [Lit.sameKey]
theorem keywords_any (w : World) :
    Calls Tryd.prog 32 #[] w fun e w' => e = .returned (.map (some (w.heap.size + 1))) ∧ w'.ownsMap Tryd.prog 9 unitElem (w.heap.size + 1) 20 (SnS kwB 20) ∧ Below w.heap.size w w' := by
  have hcl := fun j hj => cells_of_strs w kwB 9 j hj
  have hC := setS_any w.heap.size 20 20 kwB (w.alloc (.cells (kwB.map Value.string).toArray 9)) (by omega) rfl (by simp) hcl (by decide)
  rw [World.size_alloc] at hC
  have HC := Lib.hid hC
  clear hC hcl
  go_enter Tryd.func32, Tryd.ntmps32
  go_wp2_with fail
  refine HC.out.mono ?_
  rintro e w' ⟨rfl, h1, h2⟩
  go_wp2_with fail
  go_ret
  exact ⟨rfl, h1, ((Below.refl _ w).alloc (Nat.le_refl _) _).trans (h2.mono (by simp))⟩
theorem signs_any (w : World) :
    Calls Tryd.prog 37 #[] w fun e w' => e = .returned (.map (some (w.heap.size + 1))) ∧ w'.ownsMap Tryd.prog 9 unitElem (w.heap.size + 1) 20 (SnS sgB 20) ∧ Below w.heap.size w w' := by
  have hcl := fun j hj => cells_of_strs w sgB 9 j hj
  have hC := setS_any w.heap.size 20 20 sgB (w.alloc (.cells (sgB.map Value.string).toArray 9)) (by omega) rfl (by simp) hcl (by decide)
  rw [World.size_alloc] at hC
  have HC := Lib.hid hC
  clear hC hcl
  go_enter Tryd.func37, Tryd.ntmps37
  go_wp2_with fail
  refine HC.out.mono ?_
  rintro e w' ⟨rfl, h1, h2⟩
  go_wp2_with fail
  go_ret
  exact ⟨rfl, h1, ((Below.refl _ w).alloc (Nat.le_refl _) _).trans (h2.mono (by simp))⟩
theorem blanks_any (w : World) :
    Calls Tryd.prog 38 #[] w fun e w' => e = .returned (.map (some (w.heap.size + 1))) ∧ w'.ownsMap Tryd.prog 5 unitElem (w.heap.size + 1) 4 (SnB blZ 4) ∧ Below w.heap.size w w' := by
  have hcl := fun j hj => cells_of_ints w blZ 5 j hj
  have hC := setB_any w.heap.size 4 4 blZ (w.alloc (.cells (blZ.map (Value.int .u8)).toArray 5)) (by omega) rfl (by simp) hcl (by decide)
  rw [World.size_alloc] at hC
  have HC := Lib.hid hC
  clear hC hcl
  go_enter Tryd.func38, Tryd.ntmps38
  go_wp2_with fail
  refine HC.out.mono ?_
  rintro e w' ⟨rfl, h1, h2⟩
  go_wp2_with fail
  go_ret
  exact ⟨rfl, h1, ((Below.refl _ w).alloc (Nat.le_refl _) _).trans (h2.mono (by simp))⟩
end Go.Proofs.YtkkjdmpgjfkenaaDoor

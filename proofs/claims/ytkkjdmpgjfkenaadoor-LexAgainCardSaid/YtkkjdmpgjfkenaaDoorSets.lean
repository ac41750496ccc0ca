/-
  Sets made by generic functions: 'setOf', 'has', the keywords, the signs, the blanks.
-/
import Derived.Test.YtkkjdmpgjfkenaaDoorLeaf
import Derived.Maps.OwnSet
import Derived.OwnWalk
import Derived.LoopTactic
import Derived.Lib.Strings
namespace Go.Proofs.YtkkjdmpgjfkenaaDoor
open Go.RowKit Go.Maps Go.WideMaps

theorem keyS : Keyed Tryd.prog 9 := string_keyed Tryd.underlying9
theorem keyB : Keyed Tryd.prog 5 := int_keyed Tryd.underlying5
theorem zeroUnit (w : World) : (zeroValue 69).run Tryd.prog w = .ok (.agg #[]) w := by kernel_rfl
theorem makeSetS (n : Int) (w : World) : (Instr.makeMap 51 (some (.int .i64 n))).run Tryd.prog w = .ok (.map (some w.heap.size)) (w.alloc (.map #[] 0)) := by
  simp [Instr.makeMap, run_underlying Tryd.underlying51, go_sem]
theorem makeSetB (n : Int) (w : World) : (Instr.makeMap 53 (some (.int .i64 n))).run Tryd.prog w = .ok (.map (some w.heap.size)) (w.alloc (.map #[] 0)) := by
  simp [Instr.makeMap, run_underlying Tryd.underlying53, go_sem]

theorem hasS_any (s : ByteArray) (b n : Nat) (D : DataW Unit) (w : World) (hs : s.size ≤ maxLen) (hown : w.ownsMap Tryd.prog 9 unitElem b n D) :
    Calls Tryd.prog 33 #[.map (some b), .string s] w fun e w' => e = .returned (.bool (Maps.has D (.string s.data.toList))) ∧ Below w.heap.size w w' := by
  have hkey := keyOf_string_mk Tryd.underlying9 hs
  have hz := zeroUnit
  go_enter Tryd.func33, Tryd.ntmps33
  go_wp2_with (at_lookup; refine wpList_lookup_own_unit _ rfl _ _ 51 rfl 9 69 keyS Tryd.underlying51 (hz _) b n D rfl hown _ _ rfl hkey ?_)
  go_ret
  exact ⟨rfl, (Below.refl _ _).alloc (Nat.le_refl _) _⟩
theorem hasB_any (x : Int) (b n : Nat) (D : DataW Unit) (w : World) (hx : (Lit.int .u8 x).wf = true) (hown : w.ownsMap Tryd.prog 5 unitElem b n D) :
    Calls Tryd.prog 48 #[.map (some b), .int .u8 x] w fun e w' => e = .returned (.bool (Maps.has D (.int .u8 x))) ∧ Below w.heap.size w w' := by
  have hkey := keyOf_int_mk Tryd.underlying5 hx
  have hz := zeroUnit
  go_enter Tryd.func48, Tryd.ntmps48
  go_wp2_with (at_lookup; refine wpList_lookup_own_unit _ rfl _ _ 53 rfl 5 69 keyB Tryd.underlying53 (hz _) b n D rfl hown _ _ rfl hkey ?_)
  go_ret
  exact ⟨rfl, (Below.refl _ _).alloc (Nat.le_refl _) _⟩

def keyAt (ss : List ByteArray) (k : Nat) : Lit := .string (ss.getD k ByteArray.empty).data.toList
def keysS (ss : List ByteArray) (k : Nat) : List Lit := (ss.take k).map fun s => .string s.data.toList
def SnS (ss : List ByteArray) (k : Nat) : DataW Unit := Maps.setOf (.agg []) (keysS ss k)
theorem keys_succ (ss : List ByteArray) (k : Nat) (hk : k < ss.length) : keysS ss (k + 1) = keysS ss k ++ [keyAt ss k] := by
  unfold keysS keyAt
  rw [List.take_add_one, List.map_append]
  simp [List.getD, List.getElem?_eq_getElem hk]
theorem SnS_succ (ss : List ByteArray) (k : Nat) (hk : k < ss.length) : SnS ss (k + 1) = (SnS ss k).put (keyAt ss k) (.agg []) := by
  unfold SnS
  rw [keys_succ ss k hk, setOf_snoc]
theorem SnS_zero (ss : List ByteArray) : SnS ss 0 = .map [] := by simp [SnS, keysS, Maps.setOf]
theorem key_ok {ss : List ByteArray} (hsz : ∀ s ∈ ss, s.size ≤ maxLen) (k : Nat) : keyOf Tryd.prog 9 (.string (ss.getD k ByteArray.empty)) = some (keyAt ss k) := by
  refine keyOf_string_mk Tryd.underlying9 ?_
  by_cases hk : k < ss.length
  · rw [List.getD, List.getElem?_eq_getElem hk]
    exact hsz _ (List.getElem_mem hk)
  · rw [List.getD, List.getElem?_eq_none (by omega)]
    exact Nat.zero_le _

set_option maxRecDepth 100000 in
theorem setS_any (b len cap : Nat) (ss : List ByteArray) (w : World) (hlen : len ≤ 100) (hz : len = ss.length) (hb : b < w.heap.size)
    (hc : ∀ j, j < ss.length → w.cell? ⟨b, j, none⟩ = some (.string (ss.getD j ByteArray.empty))) (hsz : ∀ s ∈ ss, s.size ≤ maxLen) :
    Calls Tryd.prog 46 #[.slice (some ⟨b, 0, none⟩) len cap] w fun e w' => e = .returned (.map (some w.heap.size)) ∧ w'.ownsMap Tryd.prog 9 unitElem w.heap.size len (SnS ss len) ∧ Below w.heap.size w w' := by
  have HZ := Lib.hid hz
  clear hz
  have hmm := makeSetS
  go_enter Tryd.func46, Tryd.ntmps46
  go_wp2
  go_loopw [11] (fun i wr => ∃ k : Nat, k ≤ len ∧ i = .int .i64 k ∧ wr.ownsMap Tryd.prog 9 unitElem w.heap.size k (SnS ss k) ∧ Below w.heap.size w wr)
    (fun i _ => len - (intOf i).toNat)
  case atStart => exact ⟨0, Nat.zero_le _, rfl, by rw [SnS_zero]; exact World.ownsMap_made _ _ _ _, (Below.refl _ _).alloc (Nat.le_refl _) _⟩
  case round =>
    obtain ⟨k, hk, rfl, hown, hnx⟩ := hrel
    have hcx : k < len → wr.cell? ⟨b, k, none⟩ = some (.string (ss.getD k ByteArray.empty)) := fun _ => (hnx.cell (by exact hb)).trans (hc k (by have := HZ.out; omega))
    have hkey := key_ok hsz k
    go_wp2_with (first
      | (at_mapUpdate; refine wpList_mapUpdate_own _ rfl _ _ _ 51 rfl 9 69 keyS Tryd.underlying51 unitElem w.heap.size k _ rfl hown (by unfold maxLen; omega) _ _ _ rfl rfl hkey _ [] unitElem_mk ?_; intro w1 hown1 hgrow1)
      | go_in)
    · have hlt : k < len := by assumption
      go_roundw
      case rel => exact ⟨k + 1, by omega, by go_num, (SnS_succ ss k (by have := HZ.out; omega)).symm ▸ hown1, hnx.grown hgrow1 hnx.size (fun j hj => by cases hj; exact Nat.le_refl _)⟩
      case measure => simp [intOf]; omega
    · have : k = len := by omega
      subst this
      go_ret
      exact ⟨rfl, hown, hnx⟩

def keyAtB (zs : List Int) (k : Nat) : Lit := .int .u8 (zs.getD k 0)
def keysB (zs : List Int) (k : Nat) : List Lit := (zs.take k).map fun z => .int .u8 z
def SnB (zs : List Int) (k : Nat) : DataW Unit := Maps.setOf (.agg []) (keysB zs k)
theorem keysB_succ (ss : List Int) (k : Nat) (hk : k < ss.length) : keysB ss (k + 1) = keysB ss k ++ [keyAtB ss k] := by
  unfold keysB keyAtB
  rw [List.take_add_one, List.map_append]
  simp [List.getD, List.getElem?_eq_getElem hk]
theorem SnB_succ (ss : List Int) (k : Nat) (hk : k < ss.length) : SnB ss (k + 1) = (SnB ss k).put (keyAtB ss k) (.agg []) := by
  unfold SnB
  rw [keysB_succ ss k hk, setOf_snoc]
theorem SnB_zero (ss : List Int) : SnB ss 0 = .map [] := by simp [SnB, keysB, Maps.setOf]
theorem keyB_ok {ss : List Int} (hsz : ∀ s ∈ ss, (Lit.int .u8 s).wf = true) (k : Nat) : keyOf Tryd.prog 5 (.int .u8 (ss.getD k 0)) = some (keyAtB ss k) := by
  refine keyOf_int_mk Tryd.underlying5 ?_
  by_cases hk : k < ss.length
  · rw [List.getD, List.getElem?_eq_getElem hk]
    exact hsz _ (List.getElem_mem hk)
  · rw [List.getD, List.getElem?_eq_none (by omega)]
    rfl
set_option maxRecDepth 100000 in
theorem setB_any (b len cap : Nat) (ss : List Int) (w : World) (hlen : len ≤ 100) (hz : len = ss.length) (hb : b < w.heap.size)
    (hc : ∀ j, j < ss.length → w.cell? ⟨b, j, none⟩ = some (.int .u8 (ss.getD j 0))) (hsz : ∀ s ∈ ss, (Lit.int .u8 s).wf = true) :
    Calls Tryd.prog 47 #[.slice (some ⟨b, 0, none⟩) len cap] w fun e w' => e = .returned (.map (some w.heap.size)) ∧ w'.ownsMap Tryd.prog 5 unitElem w.heap.size len (SnB ss len) ∧ Below w.heap.size w w' := by
  have HZ := Lib.hid hz
  clear hz
  have hmm := makeSetB
  go_enter Tryd.func47, Tryd.ntmps47
  go_wp2
  go_loopw [11] (fun i wr => ∃ k : Nat, k ≤ len ∧ i = .int .i64 k ∧ wr.ownsMap Tryd.prog 5 unitElem w.heap.size k (SnB ss k) ∧ Below w.heap.size w wr)
    (fun i _ => len - (intOf i).toNat)
  case atStart => exact ⟨0, Nat.zero_le _, rfl, by rw [SnB_zero]; exact World.ownsMap_made _ _ _ _, (Below.refl _ _).alloc (Nat.le_refl _) _⟩
  case round =>
    obtain ⟨k, hk, rfl, hown, hnx⟩ := hrel
    have hcx : k < len → wr.cell? ⟨b, k, none⟩ = some (.int .u8 (ss.getD k 0)) := fun _ => (hnx.cell (by exact hb)).trans (hc k (by have := HZ.out; omega))
    have hkey := keyB_ok hsz k
    go_wp2_with (first
      | (at_mapUpdate; refine wpList_mapUpdate_own _ rfl _ _ _ 53 rfl 5 69 keyB Tryd.underlying53 unitElem w.heap.size k _ rfl hown (by unfold maxLen; omega) _ _ _ rfl rfl hkey _ [] unitElem_mk ?_; intro w1 hown1 hgrow1)
      | go_in)
    · have hlt : k < len := by assumption
      go_roundw
      case rel => exact ⟨k + 1, by omega, by go_num, (SnB_succ ss k (by have := HZ.out; omega)).symm ▸ hown1, hnx.grown hgrow1 hnx.size (fun j hj => by cases hj; exact Nat.le_refl _)⟩
      case measure => simp [intOf]; omega
    · have : k = len := by omega
      subst this
      go_ret
      exact ⟨rfl, hown, hnx⟩
end Go.Proofs.YtkkjdmpgjfkenaaDoor

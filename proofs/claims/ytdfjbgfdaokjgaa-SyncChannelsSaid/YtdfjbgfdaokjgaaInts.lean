/-
  Are two lists the same; each call once.
-/
import Derived.Test.YtdfjbgfdaokjgaaCalls
namespace Go.Proofs.Ytdfjbgfdaokjgaa
open Go.RowKit

theorem ints_of_row {w : World} {base n c : Nat} {T : TypeId} {o : Option Addr} {zs : List Int} (h : w.ownsRow base T 1 (.slice o n c) n (zs.map (Value.int .i64))) : n = zs.length ∧ IntsAt w o zs := by
  have hn : n = zs.length := by have := h.1; simp at this; omega
  refine ⟨hn, fun h0 => ?_, fun g off he j z hz => ?_⟩
  · obtain ⟨g, c', e, _⟩ := h.form (by omega)
    injection e with e1
    exact ⟨g, 0, e1⟩
  · have hlt : j < zs.length := (List.getElem?_eq_some_iff.1 hz).1
    obtain ⟨g', c', e, _⟩ := h.form (by omega)
    injection e with e1
    rw [he] at e1
    injection e1 with e1
    injection e1 with e1 e2
    subst e1; subst e2
    rw [he] at h
    rw [Nat.zero_add, h.cellAt j (by omega), List.getElem?_map, hz]; rfl
theorem IntsAt.nil (w : World) (o : Option Addr) : IntsAt w o [] := ⟨fun h => by simp at h, fun _ _ _ j z hz => by simp at hz⟩
theorem take_eq_all {xs ys : List Int} {n : Nat} (h1 : xs.length = n) (h2 : ys.length = n) (h : xs.take n = ys.take n) : xs = ys := by
  rw [← List.take_length (l := xs), ← List.take_length (l := ys), h1, h2]; exact h

set_option maxRecDepth 100000 in
set_option maxHeartbeats 2000000 in
theorem ints_any (o1 o2 : Option Addr) (c1 c2 : Nat) (xs ys : List Int) (hx : xs.length ≤ 1000000) (hy : ys.length ≤ 1000000) (w : World) (h1 : IntsAt w o1 xs) (h2 : IntsAt w o2 ys) :
    Calls Try.prog 28 #[.slice o1 xs.length c1, .slice o2 ys.length c2] w fun e w' => e = .returned (.bool (decide (xs = ys))) ∧ Below w.heap.size w w' := by
  have H1 := Lib.hid h1; have H2 := Lib.hid h2
  clear h1 h2
  obtain ⟨n, hn⟩ : ∃ n, xs.length = n := ⟨_, rfl⟩
  obtain ⟨m, hm⟩ : ∃ m, ys.length = m := ⟨_, rfl⟩
  rw [hn, hm]
  rw [hn] at hx
  rw [hm] at hy
  have HN := Lib.hid hn; have HM := Lib.hid hm
  clear hn hm
  by_cases hne : n = m
  · subst hne
    go_enter Try.func28, Try.ntmps28
    go_wp2_with fail
    go_loopw [5] (fun i wr => ∃ k q : Nat, k ≤ n ∧ i = .int .i64 k ∧ wr = w.drewN q ∧ Hid (xs.take k = ys.take k)) (fun i _ => n - (intOf i).toNat)
    case atStart => exact ⟨0, 0, Nat.zero_le _, rfl, rfl, Lib.hid (by simp)⟩
    case round =>
      obtain ⟨k, q, hk, rfl, rfl, HE⟩ := hrel
      by_cases hlt : k < n
      · obtain ⟨x, hx1⟩ : ∃ x, xs[k]? = some x := ⟨_, List.getElem?_eq_getElem (by rw [HN.out]; exact hlt)⟩
        obtain ⟨z, hy1⟩ : ∃ z, ys[k]? = some z := ⟨_, List.getElem?_eq_getElem (by rw [HM.out]; exact hlt)⟩
        obtain ⟨g1, f1, rfl⟩ := H1.out.1 (by rw [HN.out]; omega)
        obtain ⟨g2, f2, rfl⟩ := H2.out.1 (by rw [HM.out]; omega)
        have k1 := H1.out.2 g1 f1 rfl k x hx1
        have k2 := H2.out.2 g2 f2 rfl k z hy1
        have HX := Lib.hid hx1; have HY := Lib.hid hy1
        clear hx1 hy1
        by_cases hxz : x = z
        · have e1 : (x != z) = false := by rw [bne_eq_false_iff_eq]; exact hxz
          have HXZ := Lib.hid hxz
          clear hxz
          go_wp2_with fail
          go_quiet (fail)
          go_wp2_with fail
          go_roundw
          case rel => exact ⟨k + 1, _, by omega, by go_num, rfl, Lib.hid (by rw [List.take_add_one, List.take_add_one, HE.out, HX.out, HY.out, HXZ.out])⟩
          case measure => simp [intOf]; omega
        · have e1 : (x != z) = true := bne_iff_ne.2 hxz
          have HXZ := Lib.hid hxz
          clear hxz
          go_wp2_with fail
          go_quiet (fail)
          go_wp2_with fail
          go_ret
          refine ⟨ret_bool (decide_eq_false (fun e => HXZ.out ?_)).symm, (below_drewN' _ _ _).trans (below_drewN' _ _ _)⟩
          have h5 := HX.out
          rw [e, HY.out] at h5
          simpa using h5.symm
      · obtain rfl : k = n := by omega
        go_wp2_with fail
        go_ret
        exact ⟨ret_bool (decide_eq_true (take_eq_all HN.out HM.out HE.out)).symm, below_drewN' _ _ _⟩
  · have hne1 : ((n : Int) != (m : Int)) = true := by rw [bne_iff_ne]; omega
    have HNE := Lib.hid hne
    clear hne
    go_enter Try.func28, Try.ntmps28
    go_wp2_with fail
    go_ret
    exact ⟨ret_bool (decide_eq_false (fun e => HNE.out (by rw [← HN.out, ← HM.out, e]))).symm, Below.refl _ _⟩

/-- What a call leaves of the call's beginning. -/
theorem Aft.low {w w' : World} {base p : Nat} {s s' : SM} {y : Ly} (h : Aft w w' base p s y s') (hs : SyncAt w base p s y) {W : World} (hb : W.heap.size ≤ base) (h0 : Below W.heap.size W w) : Below W.heap.size W w' := by
  obtain ⟨y', _, ho, _⟩ := h
  exact h0.trans (ho.below h0.size (fun k hk => Nat.le_trans hb (hs.lt hk).1))
theorem sz_new (nm nc : Nat) (rs : List Int) (hnm : nm ≤ 64) (hnc : nc ≤ 64) (hm : rs.length ≤ 64) (hrs : rs.all (inB 1 16) = true) : Sz 0 (newS nm nc rs) := by
  refine ⟨by simp [newS]; omega, by simp [newS]; omega, by simp [newS]; omega, fun o ho => ?_, fun l hl => ?_, fun c hc => ?_⟩
  · simp [newS] at ho; omega
  · simp [newS] at hl; simp [hl.2]
  · simp only [newS, List.mem_map] at hc
    obtain ⟨r, hr, rfl⟩ := hc
    have := List.all_eq_true.1 hrs r hr
    simp [inB] at this
    exact ⟨by simp, by simp, this.1, this.2⟩
end Go.Proofs.Ytdfjbgfdaokjgaa

/-
  The first of a row is taken off: what is behind moves up.
-/
import Derived.Test.YtdfjbgfdaokjgaaSmall
import Derived.Deep.RegionLaw
import Derived.Lib.SliceRun
import Derived.Laws.IdiomCopy
import Derived.IntWalk
namespace Go.Proofs.Ytdfjbgfdaokjgaa
open Go.RowKit

def setL : List Value → Nat → List Value → List Value
  | xs, _, [] => xs
  | xs, o, v :: vs => setL (xs.set o v) (o + 1) vs
theorem setL_len : ∀ (vs xs : List Value) (o : Nat), (setL xs o vs).length = xs.length
  | [], _, _ => rfl
  | v :: vs, xs, o => by rw [setL, setL_len vs]; simp
theorem setL_take : ∀ (vs xs : List Value) (o : Nat), o + vs.length ≤ xs.length → (setL xs o vs).take (o + vs.length) = xs.take o ++ vs
  | [], xs, o, _ => by simp [setL]
  | v :: vs, xs, o, h => by
    simp at h
    have ih := setL_take vs (xs.set o v) (o + 1) (by simp; omega)
    rw [setL, show o + (v :: vs).length = o + 1 + vs.length by simp; omega, ih]
    rw [List.take_add_one, List.take_set_of_le (Nat.le_refl _)]
    simp [show o < xs.length by omega]
section
variable {w : World} {base g n c size : Nat} {e : TypeId} {xs : List Value}
theorem own_setCells (vs : List Value) : ∀ (w : World) (xs : List Value) (o : Nat), w.ownsRow base e size (.slice (some ⟨g, 0, none⟩) n c) n xs → (w.setCells g o vs).ownsRow base e size (.slice (some ⟨g, 0, none⟩) n c) n (setL xs o vs) := by
  induction vs with
  | nil => intro w xs o h; exact h
  | cons v vs ih => intro w xs o h; exact ih _ _ _ (h.stored o v).1
theorem own_cut (h : w.ownsRow base e size (.slice (some ⟨g, 0, none⟩) n c) n xs) (k : Nat) (hk : k ≤ n) : w.ownsRow base e size (.slice (some ⟨g, 0, none⟩) k c) k (xs.take (k * size)) := by
  have hks : k * size ≤ n * size := Nat.mul_le_mul_right _ hk
  rcases h with ⟨h1, ⟨e0, _⟩ | ⟨g', cap, cur, e0, hb, hh, hn, hm, hs, ht⟩⟩
  · cases e0
  · injection e0 with e1 _ e3
    injection e1 with e1
    injection e1 with e1
    subst e1; subst e3
    refine ⟨by rw [List.length_take]; omega, .inr ⟨g, _, cur, rfl, hb, hh, by omega, hm, hs, ?_⟩⟩
    rw [← ht, List.take_take, Nat.min_eq_left hks]
theorem only_setCells (vs : List Value) : ∀ (w : World) (o : Nat), Only (fun b => b = g) w (w.setCells g o vs) := by
  induction vs with
  | nil => intro w o; exact Only.refl _
  | cons v vs ih => intro w o; exact ((Only.refl (X := fun b => b = g) w).setCell (p := ⟨g, o, none⟩) (.inl rfl) v).trans (ih _ _)
end

theorem infoint : (Try.prog.info? 3).map (fun i => (i.zero, i.size, i.bytes)) = some (some (.int .i64 0), 1, 8) := by kernel_rfl
set_option maxRecDepth 100000 in
set_option maxHeartbeats 2000000 in
theorem del_int (base g n c : Nat) (z : Int) (zs : List Int) (w : World) (hn : zs.length = n) (hm : n ≤ 1000000) (h : w.ownsRow base 3 1 (.slice (some ⟨g, 0, none⟩) (n + 1) c) (n + 1) ((z :: zs).map (Value.int .i64))) :
    Calls Try.prog 68 #[.slice (some ⟨g, 0, none⟩) (n + 1) c, .int .i64 0, .int .i64 1] w fun e w' => e = .returned (.slice (some ⟨g, 0, none⟩) n c) ∧
      w'.ownsRow base 3 1 (.slice (some ⟨g, 0, none⟩) n c) n (zs.map (Value.int .i64)) ∧ Only (fun b => b = g) w w' := by
  obtain ⟨i0, hi0, hz0, hz1, hz2⟩ := info_parts infoint
  have hc : n + 1 ≤ c ∧ c ≤ maxLen := by
    rcases h.2 with ⟨e0, _⟩ | ⟨g', cap, cur, e0, hb, hh, hn, hm, hs, ht⟩
    · cases e0
    · injection e0 with e1 _ e3
      subst e3
      exact ⟨hn, hm⟩
  obtain ⟨hc1, hc2⟩ := hc
  unfold maxLen at hc2
  obtain ⟨news, hnews⟩ : ∃ news, news = zs.map (Value.int .i64) := ⟨_, rfl⟩
  have hlen : news.length = n := by rw [hnews]; simpa using hn
  have hcell : ∀ t u, news[t]? = some u → w.cell? ⟨g, 1 + t, none⟩ = some u := by
    intro t u hu
    have ht : t < n := by rw [← hlen]; exact (List.getElem?_eq_some_iff.1 hu).1
    rw [h.cellAt (1 + t) (by omega), List.map_cons, Nat.add_comm 1 t, List.getElem?_cons_succ, ← hnews, hu]
  have hsome : ∀ t, t < n + 1 → (w.cell? ⟨g, t, none⟩).isSome = true := by
    intro t ht
    rw [h.cellAt t (by omega), List.getElem?_eq_getElem (by simp; omega)]; rfl
  have hfz : ∀ t, w.frozen? ⟨g, t, none⟩ = false := fun t => h.frozenAt t
  obtain ⟨A, hA, hsrc⟩ : ∃ A : Addr, (if c = 1 then some (⟨g, 0, none⟩ : Addr) else some ⟨g, 1, none⟩) = some A ∧ Hid (∀ t u, news[t]? = some u → w.drew.cell? (A.add t) = some u) := by
    by_cases hc0 : c = 1
    · refine ⟨⟨g, 0, none⟩, by simp [hc0], fun t u hu => ?_⟩
      rw [List.length_eq_zero_iff.1 (show news.length = 0 by omega)] at hu
      simp at hu
    · refine ⟨⟨g, 1, none⟩, by simp [hc0], fun t u hu => ?_⟩
      rw [Addr.add_lit]
      exact hcell t u hu
  have s1 : Hid (news.length = n * 1) := by rw [Nat.mul_one]; exact hlen
  have s2 : Hid (∀ u ∈ news, u.oneCell' = true) := by
    intro u hu
    rw [hnews] at hu
    obtain ⟨x, _, rfl⟩ := List.mem_map.1 hu
    rfl
  have s3 : Hid (∀ t, t < news.length → (w.drew.cell? ⟨g, 0 + 0 * 1 + t, none⟩).isSome = true ∧ w.drew.frozen? ⟨g, 0 + 0 * 1 + t, none⟩ = false) := by
    intro t ht
    rw [show 0 + 0 * 1 + t = t by omega]
    exact ⟨hsome t (by omega), hfz t⟩
  obtain ⟨W1, hW1⟩ : ∃ W1, W1 = w.drew.setCells g (0 + 0 * 1) news := ⟨_, rfl⟩
  have hown1 : W1.ownsRow base 3 1 (.slice (some ⟨g, 0, none⟩) (n + 1) c) (n + 1) (setL ((z :: zs).map (Value.int .i64)) 0 news) := by rw [hW1]; exact own_setCells news _ _ _ h.drew
  have hcl : ∀ ty, (Builtin.clear_ #[22] ty #[.slice (some ⟨g, n, none⟩) 1 (c - n)]).run Try.prog W1 = .ok (.tuple #[]) (W1.setCells g n (List.replicate 1 (.int .i64 0))) :=
    fun ty => Lib.run_clear_slice W1 _ _ ty _ Try.underlying22 Try.zeroValue3 rfl rfl g n _ _ (by omega) (fun t ht => by rw [hown1.cellAt (n + t) (by omega), List.getElem?_eq_getElem (by rw [setL_len]; simp; omega)]; rfl) (fun t ht => hown1.frozenAt (n + t))
  have hfin : Hid ((W1.setCells g n (List.replicate 1 (.int .i64 0))).ownsRow base 3 1 (.slice (some ⟨g, 0, none⟩) n c) n (zs.map (Value.int .i64))) := by
    have h2 := own_cut (own_setCells [.int .i64 0] _ _ n hown1) n (by omega)
    have h3 : (setL (setL ((z :: zs).map (Value.int .i64)) 0 news) n [.int .i64 0]).take (n * 1) = zs.map (Value.int .i64) := by
      rw [Nat.mul_one]
      simp only [setL]
      rw [List.take_set_of_le (Nat.le_refl _)]
      have := setL_take news ((z :: zs).map (Value.int .i64)) 0 (by simp; omega)
      rw [hlen, Nat.zero_add] at this
      rw [this, hnews]; simp
    rw [h3] at h2
    exact h2
  have hon : Hid (Only (fun b => b = g) w (W1.setCells g n (List.replicate 1 (.int .i64 0)))) := by
    refine Only.trans ?_ (only_setCells _ _ _)
    rw [hW1]
    exact (Only.drew (Only.refl w)).trans (only_setCells _ _ _)
  have hW : Hid (W1 = w.drew.setCells g (0 + 0 * 1) news) := hW1
  have h11 : (1 : Int) ≤ (n : Int) + 1 := by omega
  clear hW1 hown1 hcell hsome hfz hnews hlen h hn
  go_enter Try.func68, Try.ntmps68
  go_wp2_with fail
  go_region_law (refine step_append_room rfl (.tmp 22) (.tmp 25) 22 rfl 3 i0 1 Try.underlying22 hi0 hz1 g 0 0 c (by simp [Act.eval, Act.put]) A n (c - 1) news (by simp [Act.eval, Act.put]) s1.out hsrc.out s2.out (by omega) s3.out ?_; rw [← hW.out])
  go_wp2
  go_ret
  exact ⟨rfl, hfin.out, hon.out⟩

theorem infoint64 : (Try.prog.info? 2).map (fun i => (i.zero, i.size, i.bytes)) = some (some (.int .i64 0), 1, 8) := by kernel_rfl
set_option maxRecDepth 100000 in
set_option maxHeartbeats 2000000 in
theorem del_int64 (base g n c : Nat) (z : Int) (zs : List Int) (w : World) (hn : zs.length = n) (hm : n ≤ 1000000) (h : w.ownsRow base 2 1 (.slice (some ⟨g, 0, none⟩) (n + 1) c) (n + 1) ((z :: zs).map (Value.int .i64))) :
    Calls Try.prog 93 #[.slice (some ⟨g, 0, none⟩) (n + 1) c, .int .i64 0, .int .i64 1] w fun e w' => e = .returned (.slice (some ⟨g, 0, none⟩) n c) ∧
      w'.ownsRow base 2 1 (.slice (some ⟨g, 0, none⟩) n c) n (zs.map (Value.int .i64)) ∧ Only (fun b => b = g) w w' := by
  obtain ⟨i0, hi0, hz0, hz1, hz2⟩ := info_parts infoint64
  have hc : n + 1 ≤ c ∧ c ≤ maxLen := by
    rcases h.2 with ⟨e0, _⟩ | ⟨g', cap, cur, e0, hb, hh, hn, hm, hs, ht⟩
    · cases e0
    · injection e0 with e1 _ e3
      subst e3
      exact ⟨hn, hm⟩
  obtain ⟨hc1, hc2⟩ := hc
  unfold maxLen at hc2
  obtain ⟨news, hnews⟩ : ∃ news, news = zs.map (Value.int .i64) := ⟨_, rfl⟩
  have hlen : news.length = n := by rw [hnews]; simpa using hn
  have hcell : ∀ t u, news[t]? = some u → w.cell? ⟨g, 1 + t, none⟩ = some u := by
    intro t u hu
    have ht : t < n := by rw [← hlen]; exact (List.getElem?_eq_some_iff.1 hu).1
    rw [h.cellAt (1 + t) (by omega), List.map_cons, Nat.add_comm 1 t, List.getElem?_cons_succ, ← hnews, hu]
  have hsome : ∀ t, t < n + 1 → (w.cell? ⟨g, t, none⟩).isSome = true := by
    intro t ht
    rw [h.cellAt t (by omega), List.getElem?_eq_getElem (by simp; omega)]; rfl
  have hfz : ∀ t, w.frozen? ⟨g, t, none⟩ = false := fun t => h.frozenAt t
  obtain ⟨A, hA, hsrc⟩ : ∃ A : Addr, (if c = 1 then some (⟨g, 0, none⟩ : Addr) else some ⟨g, 1, none⟩) = some A ∧ Hid (∀ t u, news[t]? = some u → w.drew.cell? (A.add t) = some u) := by
    by_cases hc0 : c = 1
    · refine ⟨⟨g, 0, none⟩, by simp [hc0], fun t u hu => ?_⟩
      rw [List.length_eq_zero_iff.1 (show news.length = 0 by omega)] at hu
      simp at hu
    · refine ⟨⟨g, 1, none⟩, by simp [hc0], fun t u hu => ?_⟩
      rw [Addr.add_lit]
      exact hcell t u hu
  have s1 : Hid (news.length = n * 1) := by rw [Nat.mul_one]; exact hlen
  have s2 : Hid (∀ u ∈ news, u.oneCell' = true) := by
    intro u hu
    rw [hnews] at hu
    obtain ⟨x, _, rfl⟩ := List.mem_map.1 hu
    rfl
  have s3 : Hid (∀ t, t < news.length → (w.drew.cell? ⟨g, 0 + 0 * 1 + t, none⟩).isSome = true ∧ w.drew.frozen? ⟨g, 0 + 0 * 1 + t, none⟩ = false) := by
    intro t ht
    rw [show 0 + 0 * 1 + t = t by omega]
    exact ⟨hsome t (by omega), hfz t⟩
  obtain ⟨W1, hW1⟩ : ∃ W1, W1 = w.drew.setCells g (0 + 0 * 1) news := ⟨_, rfl⟩
  have hown1 : W1.ownsRow base 2 1 (.slice (some ⟨g, 0, none⟩) (n + 1) c) (n + 1) (setL ((z :: zs).map (Value.int .i64)) 0 news) := by rw [hW1]; exact own_setCells news _ _ _ h.drew
  have hcl : ∀ ty, (Builtin.clear_ #[47] ty #[.slice (some ⟨g, n, none⟩) 1 (c - n)]).run Try.prog W1 = .ok (.tuple #[]) (W1.setCells g n (List.replicate 1 (.int .i64 0))) :=
    fun ty => Lib.run_clear_slice W1 _ _ ty _ Try.underlying47 Try.zeroValue2 rfl rfl g n _ _ (by omega) (fun t ht => by rw [hown1.cellAt (n + t) (by omega), List.getElem?_eq_getElem (by rw [setL_len]; simp; omega)]; rfl) (fun t ht => hown1.frozenAt (n + t))
  have hfin : Hid ((W1.setCells g n (List.replicate 1 (.int .i64 0))).ownsRow base 2 1 (.slice (some ⟨g, 0, none⟩) n c) n (zs.map (Value.int .i64))) := by
    have h2 := own_cut (own_setCells [.int .i64 0] _ _ n hown1) n (by omega)
    have h3 : (setL (setL ((z :: zs).map (Value.int .i64)) 0 news) n [.int .i64 0]).take (n * 1) = zs.map (Value.int .i64) := by
      rw [Nat.mul_one]
      simp only [setL]
      rw [List.take_set_of_le (Nat.le_refl _)]
      have := setL_take news ((z :: zs).map (Value.int .i64)) 0 (by simp; omega)
      rw [hlen, Nat.zero_add] at this
      rw [this, hnews]; simp
    rw [h3] at h2
    exact h2
  have hon : Hid (Only (fun b => b = g) w (W1.setCells g n (List.replicate 1 (.int .i64 0)))) := by
    refine Only.trans ?_ (only_setCells _ _ _)
    rw [hW1]
    exact (Only.drew (Only.refl w)).trans (only_setCells _ _ _)
  have hW : Hid (W1 = w.drew.setCells g (0 + 0 * 1) news) := hW1
  have h11 : (1 : Int) ≤ (n : Int) + 1 := by omega
  clear hW1 hown1 hcell hsome hfz hnews hlen h hn
  go_enter Try.func93, Try.ntmps93
  go_wp2_with fail
  go_region_law (refine step_append_room rfl (.tmp 22) (.tmp 25) 47 rfl 2 i0 1 Try.underlying47 hi0 hz1 g 0 0 c (by simp [Act.eval, Act.put]) A n (c - 1) news (by simp [Act.eval, Act.put]) s1.out hsrc.out s2.out (by omega) s3.out ?_; rw [← hW.out])
  go_wp2
  go_ret
  exact ⟨rfl, hfin.out, hon.out⟩
end Go.Proofs.Ytdfjbgfdaokjgaa

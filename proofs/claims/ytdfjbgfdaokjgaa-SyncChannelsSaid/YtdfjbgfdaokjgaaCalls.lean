/-
  Each call of layer 4, whatever it is asked.
-/
import Derived.Test.YtdfjbgfdaokjgaaNew
namespace Go.Proofs.Ytdfjbgfdaokjgaa
open Go.RowKit

section
variable {w : World} {base p N : Nat} {s : SM} {y : Ly}
theorem Sz.rest (h : Sz N s) {c : Cn} (hc : c ∈ s.chans) : c.rest.length ≤ N := by
  have := (h.lh c hc).1
  rw [c.rest_len]; omega
theorem Sz.mono {N' : Nat} (h : Sz N s) (hn : N ≤ N') : Sz N' s := ⟨h.no, h.nc, h.nh, h.own, fun l hl => Nat.le_trans (h.lc l hl) hn, fun c hc => ⟨Nat.le_trans (h.lh c hc).1 hn, (h.lh c hc).2⟩⟩
theorem mem_set {α : Type} {l : List α} {k : Nat} {x z : α} (h : z ∈ l.set k x) : z ∈ l ∨ z = x := by
  rcases List.mem_or_eq_of_mem_set h with h | h
  · exact .inl h
  · exact .inr h
theorem Sz.lock (h : Sz N s) (m t : Int) : Sz N (lockS s m t).1 := by
  unfold lockS
  split
  · exact h
  · split
    · exact h
    · rename_i ht
      split
      · refine ⟨by simpa using h.no, h.nc, h.nh, fun o ho => ?_, h.lc, h.lh⟩
        rcases mem_set ho with ho | rfl
        · exact h.own o ho
        · simp [inB] at ht; omega
      · exact h
theorem Sz.unlock (h : Sz N s) (m t : Int) : Sz N (unlockS s m t).1 := by
  unfold unlockS
  split
  · exact h
  · split
    · exact h
    · split
      · refine ⟨by simpa using h.no, h.nc, h.nh, fun o ho => ?_, h.lc, h.lh⟩
        rcases mem_set ho with ho | rfl
        · exact h.own o ho
        · omega
      · exact h
theorem Sz.wait (h : Sz N s) (m t : Int) : Sz (N + 1) (waitS s m t).1 := by
  have h' := h.mono (Nat.le_succ N)
  unfold waitS
  split
  · exact h'
  · rename_i l hl
    split
    · exact h'
    · split
      · exact h'
      · refine ⟨h.no, by simpa using h.nc, h.nh, h.own, fun l' hl' => ?_, h'.lh⟩
        rcases mem_set hl' with hl' | rfl
        · exact h'.lc l' hl'
        · have := h.lc l (List.mem_of_getElem? (at_some hl).2.2)
          simp; omega
theorem Sz.signal (h : Sz N s) (m : Int) : Sz N (signalS s m).1 := by
  unfold signalS
  split
  · exact h
  · exact h
  · rename_i x l hl
    refine ⟨h.no, by simpa using h.nc, h.nh, h.own, fun l' hl' => ?_, h.lh⟩
    rcases mem_set hl' with hl' | rfl
    · exact h.lc l' hl'
    · have := h.lc _ (List.mem_of_getElem? (at_some hl).2.2)
      simp at this; omega
theorem Sz.all (h : Sz N s) (m : Int) : Sz N (allS s m).1 := by
  unfold allS
  split
  · exact h
  · refine ⟨h.no, by simpa using h.nc, h.nh, h.own, fun l' hl' => ?_, h.lh⟩
    rcases mem_set hl' with hl' | rfl
    · exact h.lc l' hl'
    · simp
theorem Sz.send (h : Sz N s) (q v : Int) : Sz (N + 1) (sendS s q v).1 := by
  have h' := h.mono (Nat.le_succ N)
  unfold sendS
  split
  · exact h'
  · rename_i c hc
    split
    · exact h'
    · split
      · exact h'
      · refine ⟨h.no, h.nc, by simpa using h.nh, h.own, h'.lc, fun c' hc' => ?_⟩
        rcases mem_set hc' with hc' | rfl
        · exact h'.lh c' hc'
        · have := h.lh c (List.mem_of_getElem? (at_some hc).2.2)
          simp; omega
theorem Sz.recv (h : Sz N s) (q : Int) : Sz N (recvS s q).1 := by
  unfold recvS
  split
  · exact h
  · rename_i c hc
    split
    · exact h
    · rename_i x r hr
      refine ⟨h.no, h.nc, by simpa using h.nh, h.own, h.lc, fun c' hc' => ?_⟩
      rcases mem_set hc' with hc' | rfl
      · exact h.lh c' hc'
      · have h1 := h.lh c (List.mem_of_getElem? (at_some hc).2.2)
        have h2 := c.rest_len
        rw [hr] at h2
        simp at h2 ⊢; omega

theorem Owner_any (hs : SyncAt w base p s y) (hz : Sz N s) (m : Int) :
    Calls Try.prog 14 #[.pointer (some ⟨p, 0, none⟩), .int .i64 m] w fun e w' => e = .returned (.tuple #[.int .i64 (ownerS s m).1, .int .i64 (ownerS s m).2]) ∧ Below w.heap.size w w' := by
  have hn := hz.no
  cases h : at_ s.owners m with
  | none => simp only [ownerS, h]; exact owner_out _ true _ _ _ _ _ _ _ _ _ w (has_b hs) m (at_none h) (by omega)
  | some o => simp only [ownerS, h]; exact owner_in hs (by omega) m o h
theorem Lock_any (hs : SyncAt w base p s y) (hz : Sz N s) (m t : Int) :
    Calls Try.prog 15 #[.pointer (some ⟨p, 0, none⟩), .int .i64 m, .int .i64 t] w fun e w' => e = .returned (.tuple #[.bool (lockS s m t).2.1, .int .i64 (lockS s m t).2.2]) ∧ Aft w w' base p s y (lockS s m t).1 := by
  have hn := hz.no
  cases h : at_ s.owners m with
  | none => simp only [lockS, h]; exact (lock_out _ true _ _ _ _ _ _ _ _ _ w (has_b hs) m (at_none h) (by omega) t).mono fun e w' ⟨h1, h2⟩ => ⟨h1, Aft.same hs h2⟩
  | some o =>
    cases ht : inB 0 7 t with
    | false => simp only [lockS, h, ht, if_true]; exact (lock_bad hs (by omega) m o h t ht).mono fun e w' ⟨h1, h2⟩ => ⟨h1, Aft.same hs h2⟩
    | true =>
      by_cases ho : o = -1
      · simp only [lockS, h, ht, ho, if_true, Bool.true_eq_false, if_false]; exact lock_yes hs (by omega) m o h t ht ho
      · simp only [lockS, h, ht, ho, Bool.true_eq_false, if_false]; exact (lock_had hs (by omega) m o h t ht ho).mono fun e w' ⟨h1, h2⟩ => ⟨h1, Aft.same hs h2⟩
theorem Unlock_any (hs : SyncAt w base p s y) (hz : Sz N s) (m t : Int) :
    Calls Try.prog 24 #[.pointer (some ⟨p, 0, none⟩), .int .i64 m, .int .i64 t] w fun e w' => e = .returned (.int .i64 (unlockS s m t).2) ∧ Aft w w' base p s y (unlockS s m t).1 := by
  have hn := hz.no
  cases h : at_ s.owners m with
  | none => simp only [unlockS, h]; exact (unlock_out _ true _ _ _ _ _ _ _ _ _ w (has_b hs) m (at_none h) (by omega) t).mono fun e w' ⟨h1, h2⟩ => ⟨h1, Aft.same hs h2⟩
  | some o =>
    cases ht : inB 0 7 t with
    | false => simp only [unlockS, h, ht, if_true]; exact (unlock_bad hs (by omega) m o h t ht).mono fun e w' ⟨h1, h2⟩ => ⟨h1, Aft.same hs h2⟩
    | true =>
      by_cases ho : o = t
      · simp only [unlockS, h, ht, ho, if_true, Bool.true_eq_false, if_false]; exact unlock_yes hs (by omega) m o h t ht ho
      · simp only [unlockS, h, ht, ho, Bool.true_eq_false, if_false]; exact (unlock_not hs (by omega) m o h t ht ho).mono fun e w' ⟨h1, h2⟩ => ⟨h1, Aft.same hs h2⟩
theorem Wait_any (hs : SyncAt w base p s y) (hz : Sz N s) (hN : N ≤ 1000000) (m t : Int) :
    Calls Try.prog 25 #[.pointer (some ⟨p, 0, none⟩), .int .i64 m, .int .i64 t] w fun e w' => e = .returned (.int .i64 (waitS s m t).2) ∧ Aft w w' base p s y (waitS s m t).1 := by
  have hn := hz.nc
  have hlm : ∀ l ∈ s.conds, l.length ≤ 1000000 := fun l hl => Nat.le_trans (hz.lc l hl) hN
  cases h : at_ s.conds m with
  | none => simp only [waitS, h]; exact (wait_out _ true _ _ _ _ _ _ _ _ _ w (has_b hs) m (at_none h) (by omega) t s.conds rfl (hs.ls hlm)).mono fun e w' ⟨h1, h2⟩ => ⟨h1, Aft.same hs h2⟩
  | some l =>
    have hl := hlm l (List.mem_of_getElem? (at_some h).2.2)
    cases ht : inB 0 7 t with
    | false => simp only [waitS, h, ht, if_true]; exact (wait_bad hs (by omega) m l h t hl hlm ht).mono fun e w' ⟨h1, h2⟩ => ⟨h1, Aft.same hs h2⟩
    | true =>
      by_cases ho : t ∈ s.conds.flatten
      · simp only [waitS, h, ht, ho, if_true, Bool.true_eq_false, if_false]; exact (wait_had hs (by omega) m l h t hl hlm ht ho).mono fun e w' ⟨h1, h2⟩ => ⟨h1, Aft.same hs h2⟩
      · simp only [waitS, h, ht, ho, Bool.true_eq_false, if_false]; exact wait_yes hs (by omega) m l h t hl hlm ht ho
theorem Waits_any (hs : SyncAt w base p s y) (hz : Sz N s) (hN : N ≤ 1000000) (m : Int) :
    Calls Try.prog 16 #[.pointer (some ⟨p, 0, none⟩), .int .i64 m] w fun e w' => ∃ u, e = .returned (.tuple #[u, .int .i64 (waitsS s m).2]) ∧ w'.ownsRow w.heap.size 3 1 u (waitsS s m).1.length ((waitsS s m).1.map (Value.int .i64)) ∧ Below w.heap.size w w' := by
  have hn := hz.nc
  cases h : at_ s.conds m with
  | none => simp only [waitsS, h]; exact (waits_out _ true _ _ _ _ _ _ _ _ _ w (has_b hs) m (at_none h) (by omega)).mono fun e w' ⟨h1, h2⟩ => ⟨_, h1, World.ownsRow_nil _ _ _ _, h2⟩
  | some l => simp only [waitsS, h]; exact waits_in hs (by omega) m l h (Nat.le_trans (hz.lc l (List.mem_of_getElem? (at_some h).2.2)) hN)
theorem Signal_any (hs : SyncAt w base p s y) (hz : Sz N s) (hN : N ≤ 1000000) (m : Int) :
    Calls Try.prog 17 #[.pointer (some ⟨p, 0, none⟩), .int .i64 m] w fun e w' => e = .returned (.tuple #[.int .i64 (signalS s m).2.1, .bool (signalS s m).2.2.1, .int .i64 (signalS s m).2.2.2]) ∧ Aft w w' base p s y (signalS s m).1 := by
  have hn := hz.nc
  cases h : at_ s.conds m with
  | none => simp only [signalS, h]; exact (signal_out _ true _ _ _ _ _ _ _ _ _ w (has_b hs) m (at_none h) (by omega)).mono fun e w' ⟨h1, h2⟩ => ⟨h1, Aft.same hs h2⟩
  | some l =>
    have hl := Nat.le_trans (hz.lc l (List.mem_of_getElem? (at_some h).2.2)) hN
    cases l with
    | nil => simp only [signalS, h]; exact (signal_nil hs (by omega) m [] h hl rfl).mono fun e w' ⟨h1, h2⟩ => ⟨h1, Aft.same hs h2⟩
    | cons x r => simp only [signalS, h]; exact signal_cons hs (by omega) m (x :: r) h hl x r rfl
theorem All_any (hs : SyncAt w base p s y) (hz : Sz N s) (hN : N ≤ 1000000) (m : Int) :
    Calls Try.prog 18 #[.pointer (some ⟨p, 0, none⟩), .int .i64 m] w fun e w' => ∃ u, e = .returned (.tuple #[u, .int .i64 (allS s m).2.2]) ∧ w'.ownsRow w.heap.size 3 1 u (allS s m).2.1.length ((allS s m).2.1.map (Value.int .i64)) ∧ Aft w w' base p s y (allS s m).1 := by
  have hn := hz.nc
  cases h : at_ s.conds m with
  | none => simp only [allS, h]; exact (all_out _ true _ _ _ _ _ _ _ _ _ w (has_b hs) m (at_none h) (by omega)).mono fun e w' ⟨h1, h2⟩ => ⟨_, h1, World.ownsRow_nil _ _ _ _, Aft.same hs h2⟩
  | some l => simp only [allS, h]; exact all_in hs (by omega) m l h (Nat.le_trans (hz.lc l (List.mem_of_getElem? (at_some h).2.2)) hN)
theorem Values_any (hs : SyncAt w base p s y) (hz : Sz N s) (hN : N ≤ 1000000) (m : Int) :
    Calls Try.prog 21 #[.pointer (some ⟨p, 0, none⟩), .int .i64 m] w fun e w' => ∃ u, e = .returned (.tuple #[u, .int .i64 (valuesS s m).2]) ∧ w'.ownsRow w.heap.size 2 1 u (valuesS s m).1.length ((valuesS s m).1.map (Value.int .i64)) ∧ Below w.heap.size w w' := by
  have hn := hz.nh
  cases h : at_ s.chans m with
  | none => simp only [valuesS, h]; exact (values_out _ true _ _ _ _ _ _ _ _ _ w (has_b hs) m (at_none h) (by omega)).mono fun e w' ⟨h1, h2⟩ => ⟨_, h1, World.ownsRow_nil _ _ _ _, h2⟩
  | some c => simp only [valuesS, h]; exact values_in hs (by omega) m c h (Nat.le_trans (hz.rest (List.mem_of_getElem? (at_some h).2.2)) hN)
theorem Room_any (hs : SyncAt w base p s y) (hz : Sz N s) (hN : N ≤ 1000000) (m : Int) :
    Calls Try.prog 22 #[.pointer (some ⟨p, 0, none⟩), .int .i64 m] w fun e w' => e = .returned (.tuple #[.int .i64 (roomS s m).1, .int .i64 (roomS s m).2]) ∧ Below w.heap.size w w' := by
  have hn := hz.nh
  cases h : at_ s.chans m with
  | none => simp only [roomS, h]; exact room_out _ true _ _ _ _ _ _ _ _ _ w (has_b hs) m (at_none h) (by omega)
  | some c => simp only [roomS, h]; exact room_in hs (by omega) m c h (Nat.le_trans (hz.rest (List.mem_of_getElem? (at_some h).2.2)) hN)
theorem Send_any (hs : SyncAt w base p s y) (hz : Sz N s) (hN : N ≤ 1000000) (m t : Int) :
    Calls Try.prog 19 #[.pointer (some ⟨p, 0, none⟩), .int .i64 m, .int .i64 t] w fun e w' => e = .returned (.tuple #[.int .i64 (sendS s m t).2.1, .bool (sendS s m t).2.2.1, .int .i64 (sendS s m t).2.2.2]) ∧ Aft w w' base p s y (sendS s m t).1 := by
  have hn := hz.nh
  cases h : at_ s.chans m with
  | none => simp only [sendS, h]; exact (send_out _ true _ _ _ _ _ _ _ _ _ w (has_b hs) m (at_none h) (by omega) t).mono fun e w' ⟨h1, h2⟩ => ⟨h1, Aft.same hs h2⟩
  | some c =>
    have hm := List.mem_of_getElem? (at_some h).2.2
    have hl := Nat.le_trans (hz.rest hm) hN
    have hsl := hz.lh c hm
    cases ht : inB (-2147483648) 2147483647 t with
    | false => simp only [sendS, h, ht, if_true]; exact (send_bad hs (by omega) m c h t hl ht).mono fun e w' ⟨h1, h2⟩ => ⟨h1, Aft.same hs h2⟩
    | true =>
      by_cases hf : c.room ≤ (c.rest.length : Int)
      · simp only [sendS, h, ht, hf, if_true, Bool.true_eq_false, if_false]; exact (send_full hs (by omega) m c h t hl ht (decide_eq_true hf)).mono fun e w' ⟨h1, h2⟩ => ⟨h1, Aft.same hs h2⟩
      · simp only [sendS, h, ht, hf, Bool.true_eq_false, if_false]; exact send_yes hs (by omega) m c h t hl (by omega) ht hsl.2.1 (decide_eq_false hf)
theorem Recv_any (hs : SyncAt w base p s y) (hz : Sz N s) (hN : N ≤ 1000000) (m : Int) :
    Calls Try.prog 20 #[.pointer (some ⟨p, 0, none⟩), .int .i64 m] w fun e w' => e = .returned (.tuple #[.int .i64 (recvS s m).2.1, .int .i64 (recvS s m).2.2.1, .bool (recvS s m).2.2.2.1, .int .i64 (recvS s m).2.2.2.2]) ∧ Aft w w' base p s y (recvS s m).1 := by
  have hn := hz.nh
  cases h : at_ s.chans m with
  | none => simp only [recvS, h]; exact (recv_out _ true _ _ _ _ _ _ _ _ _ w (has_b hs) m (at_none h) (by omega)).mono fun e w' ⟨h1, h2⟩ => ⟨h1, Aft.same hs h2⟩
  | some c =>
    have hm := List.mem_of_getElem? (at_some h).2.2
    have hl := Nat.le_trans (hz.rest hm) hN
    have hsl := hz.lh c hm
    cases hr : c.rest with
    | nil => simp only [recvS, h, hr]; exact (recv_no hs (by omega) m c h hl (by omega) hr).mono fun e w' ⟨h1, h2⟩ => ⟨h1, Aft.same hs h2⟩
    | cons x r => simp only [recvS, h, hr]; exact recv_yes hs (by omega) m c h hl (by omega) hsl.2.1 x r hr
end
end Go.Proofs.Ytdfjbgfdaokjgaa

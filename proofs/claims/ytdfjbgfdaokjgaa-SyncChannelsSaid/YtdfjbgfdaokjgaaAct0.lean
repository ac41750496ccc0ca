/-
  The law's 'act': what it leaves; a call of Lock by both.
-/
import Derived.Test.YtdfjbgfdaokjgaaIs
namespace Go.Proofs.Ytdfjbgfdaokjgaa
open Go.RowKit

/-- What an act leaves: both states alike, the reference's apart from the program's. -/
def ActP (W w : World) (p N : Nat) (X F : Nat → Prop) (s' : SM) (e : Ending) (w' : World) : Prop :=
  ∃ z, e = .returned (.tuple #[.agg (hdR z s'), .bool true]) ∧ ∃ F', St W w' p N s' F' ∧ RSt (fun b => X b ∨ F' b) w' z s' ∧ Only F w w' ∧ ∀ b, F' b → F b ∨ w.heap.size ≤ b
theorem RSt.wide {X : Nat → Prop} {w w' : World} {y : RLy} {s : SM} (h : RSt X w y s) (hb : Below w.heap.size w w') (Y : Nat → Prop) (hY : ∀ b, Y b → X b ∨ w.heap.size ≤ b) : RSt Y w' y s := fun w'' ho =>
  h w'' ((Only.of_below hb).then ho hY)
theorem RSt.end_ {X Y : Nat → Prop} {w w' : World} {y : RLy} {s : SM} (h : RSt X w y s) (ho : Only X w w') (hY : ∀ b, Y b → X b ∨ w.heap.size ≤ b) : RSt Y w' y s := fun w'' k => h w'' (ho.then k hY)
theorem below_three (w : World) (o1 o2 o3 : Obj) : Below w.heap.size w (((w.alloc o1).alloc o2).alloc o3) := (((Below.refl _ w).alloc (Nat.le_refl _) _).alloc (by simp) _).alloc (by simp; omega) _
/-- The end of an act: the answer is laid into its box. -/
theorem act_end {W w w3 w4 w5 : World} {p N : Nat} {X F F' : Nat → Prop} {s' : SM} {z : RLy} (hX : ∀ b, F b → X b) (hF : ∀ b, F b → b < w.heap.size) (hlow : Below w.heap.size w w4)
    (hW : W.heap.size ≤ w.heap.size) (h3 : w.heap.size + 3 ≤ w3.heap.size) (e4 : Below w3.heap.size w3 w4)
    (hr : RSt (fun b => X b ∨ b = w.heap.size + 1 + 1) w3 z s') (hst : St W w5 p N s' F') (ho : Only F w4 w5) (hF' : ∀ b, F' b → F b ∨ w4.heap.size ≤ b) (u0 u1 u2 u3 u4 : Value) :
    ∃ F', St W (fill5 w5 (w.heap.size + 1 + 1) u0 u1 u2 u3 u4) p N s' F' ∧ RSt (fun b => X b ∨ F' b) (fill5 w5 (w.heap.size + 1 + 1) u0 u1 u2 u3 u4) z s' ∧ Only F w (fill5 w5 (w.heap.size + 1 + 1) u0 u1 u2 u3 u4) ∧ ∀ b, F' b → F b ∨ w.heap.size ≤ b := by
  have h4 : w.heap.size + 3 ≤ w4.heap.size := by have := e4.size; omega
  have hk := fill5_only w5 (w.heap.size + 1 + 1) u0 u1 u2 u3 u4
  refine ⟨F', hst.only hk (fun b hb => ⟨by omega, fun hf => ?_⟩), ?_, ?_, fun b hb => (hF' b hb).imp id (fun h => by omega)⟩
  · subst hb
    rcases hF' _ hf with h | h
    · have := hF _ h; omega
    · omega
  · have h5 : RSt (fun b => X b ∨ b = w.heap.size + 1 + 1) w4 z s' := hr.below e4
    refine h5.end_ (w' := fill5 w5 (w.heap.size + 1 + 1) u0 u1 u2 u3 u4) ((ho.mono (fun b hb => .inl (hX b hb))).trans (hk.mono (fun b hb => .inr hb))) (fun b hb => ?_)
    rcases hb with hb | hb
    · exact .inl (.inl hb)
    · rcases hF' b hb with h | h
      · exact .inl (.inl (hX b h))
      · exact .inr h
  · exact ((Only.of_below (X := F) hlow).trans ho).then hk (fun b hb => .inr (by omega))

theorem act_end' {W w w3 w4 w5 : World} {p N N' : Nat} {X F F' : Nat → Prop} {s' : SM} {z : RLy} (hX : ∀ b, F b → X b) (hF : ∀ b, F b → b < w.heap.size) (hlow : Below w.heap.size w w4)
    (hW : W.heap.size ≤ w.heap.size) (h3 : w.heap.size + 3 ≤ w3.heap.size) (e4 : Below w3.heap.size w3 w4) (hN : N ≤ N')
    (hr : RSt (fun b => X b ∨ b = w.heap.size + 1 + 1) w3 z s') (hst : St W w5 p N s' F') (ho : Only F w4 w5) (hF' : ∀ b, F' b → F b ∨ w4.heap.size ≤ b) (u0 u1 u2 u3 u4 : Value) {e : Ending} (he : e = .returned (.tuple #[.agg (hdR z s'), .bool true])) :
    ActP W w p N' X F s' e (fill5 w5 (w.heap.size + 1 + 1) u0 u1 u2 u3 u4).drew := by
  obtain ⟨F1, k1, k2, k3, k4⟩ := act_end hX hF hlow hW h3 e4 hr hst ho hF' u0 u1 u2 u3 u4
  exact ⟨z, he, F1, (k1.below (Below.refl _ _).drew).mono hN, k2.below (Below.refl _ _).drew, k3.drew, k4⟩

theorem act_endN {W w w3 w4 w5 : World} {p N N' : Nat} {X F F' : Nat → Prop} {s' : SM} {z : RLy} (hX : ∀ b, F b → X b) (hF : ∀ b, F b → b < w.heap.size) (hlow : Below w.heap.size w w4)
    (hW : W.heap.size ≤ w.heap.size) (h3 : w.heap.size + 3 ≤ w3.heap.size) (e4 : Below w3.heap.size w3 w4) (hN : N ≤ N')
    (hr : RSt (fun b => X b ∨ b = w.heap.size + 1 + 1) w3 z s') (hst : St W w5 p N s' F') (ho : Only F w4 w5) (hF' : ∀ b, F' b → F b ∨ w4.heap.size ≤ b) (u0 u1 u2 u3 u4 : Value) {e : Ending} (he : e = .returned (.tuple #[.agg (hdR z s'), .bool true])) :
    ActP W w p N' X F s' e (fill5 w5 (w.heap.size + 1 + 1) u0 u1 u2 u3 u4) := by
  obtain ⟨F1, k1, k2, k3, k4⟩ := act_end hX hF hlow hW h3 e4 hr hst ho hF' u0 u1 u2 u3 u4
  exact ⟨z, he, F1, k1.mono hN, k2, k3, k4⟩
theorem cell_only {F : Nat → Prop} {w w' : World} {g j : Nat} {u : Value} (ho : Only F w w') (hg : ¬ F g) (h : w.cell? ⟨g, j, none⟩ = some u) : w'.cell? ⟨g, j, none⟩ = some u :=
  (World.cell?_of_block (ho.block g (World.block_lt_of_cell? w _ h) hg)).trans h
theorem frozen_only {F : Nat → Prop} {w w' : World} {g j : Nat} (ho : Only F w w') (hg : ¬ F g) (hl : g < w.heap.size) (h : w.frozen? ⟨g, j, none⟩ = false) : w'.frozen? ⟨g, j, none⟩ = false :=
  (World.frozen?_of_block (ho.block g hl hg)).trans h
/-- Who waits is a thread. -/
def Th (s : SM) : Prop := ∀ l ∈ s.conds, ∀ x ∈ l, (0 : Int) ≤ x
theorem Th.wait {s : SM} (h : Th s) (m t : Int) : Th (waitS s m t).1 := by
  unfold waitS
  split
  · exact h
  · rename_i l hl
    split
    · exact h
    · rename_i ht
      split
      · exact h
      · intro l' hl' x hx
        rcases mem_set hl' with hl' | rfl
        · exact h l' hl' x hx
        · rcases List.mem_append.1 hx with hx | hx
          · exact h l (List.mem_of_getElem? (at_some hl).2.2) x hx
          · simp at hx; subst hx; simp [inB] at ht; omega
theorem Th.signal {s : SM} (h : Th s) (m : Int) : Th (signalS s m).1 := by
  unfold signalS
  split
  · exact h
  · exact h
  · rename_i x l hl
    intro l' hl' u hu
    rcases mem_set hl' with hl' | rfl
    · exact h l' hl' u hu
    · exact h _ (List.mem_of_getElem? (at_some hl).2.2) u (List.mem_cons_of_mem _ hu)
theorem Th.all {s : SM} (h : Th s) (m : Int) : Th (allS s m).1 := by
  unfold allS
  split
  · exact h
  · intro l' hl' u hu
    rcases mem_set hl' with hl' | rfl
    · exact h l' hl' u hu
    · cases hu
theorem Th.lock {s : SM} (h : Th s) (m t : Int) : Th (lockS s m t).1 := by
  unfold lockS
  split
  · exact h
  · split
    · exact h
    · split <;> exact h
theorem Th.unlock {s : SM} (h : Th s) (m t : Int) : Th (unlockS s m t).1 := by
  unfold unlockS
  split
  · exact h
  · split
    · exact h
    · split <;> exact h
theorem Th.send {s : SM} (h : Th s) (m t : Int) : Th (sendS s m t).1 := by
  unfold sendS
  split
  · exact h
  · split
    · exact h
    · split <;> exact h
theorem Th.recv {s : SM} (h : Th s) (m : Int) : Th (recvS s m).1 := by
  unfold recvS
  split
  · exact h
  · split <;> exact h
/-- What is told of a number beside whether there is one. -/
theorem num_signal {s : SM} (h : Th s) {m : Int} {s' : SM} {x : Int} {b : Bool} {e : Int} (he : signalS s m = (s', x, b, e)) : decide (0 ≤ orNo b x) = b ∧ max (orNo b x) 0 = x := by
  unfold signalS at he
  split at he
  · injection he with _ he; injection he with he1 he; injection he with he2 _; subst he1; subst he2; decide
  · injection he with _ he; injection he with he1 he; injection he with he2 _; subst he1; subst he2; decide
  · rename_i u l hl
    injection he with _ he; injection he with he1 he; injection he with he2 _; subst he1; subst he2
    have := h _ (List.mem_of_getElem? (at_some hl).2.2) u List.mem_cons_self
    simp [orNo]; omega
theorem num_send {s : SM} {m t : Int} {s' : SM} {x : Int} {b : Bool} {e : Int} (he : sendS s m t = (s', x, b, e)) : decide (0 ≤ orNo b x) = b ∧ max (orNo b x) 0 = x := by
  unfold sendS at he
  split at he
  · injection he with _ he; injection he with he1 he; injection he with he2 _; subst he1; subst he2; decide
  · split at he
    · injection he with _ he; injection he with he1 he; injection he with he2 _; subst he1; subst he2; decide
    · split at he
      · injection he with _ he; injection he with he1 he; injection he with he2 _; subst he1; subst he2; decide
      · injection he with _ he; injection he with he1 he; injection he with he2 _; subst he1; subst he2
        simp [orNo]
theorem num_recv {s : SM} {m : Int} {s' : SM} {v x : Int} {b : Bool} {e : Int} (he : recvS s m = (s', v, x, b, e)) : decide (0 ≤ orNo b x) = b ∧ max (orNo b x) 0 = x := by
  unfold recvS at he
  split at he
  · injection he with _ he; injection he with _ he; injection he with he1 he; injection he with he2 _; subst he1; subst he2; decide
  · split at he
    · injection he with _ he; injection he with _ he; injection he with he1 he; injection he with he2 _; subst he1; subst he2; decide
    · injection he with _ he; injection he with _ he; injection he with he1 he; injection he with he2 _; subst he1; subst he2
      simp [orNo]

set_option maxRecDepth 100000 in
set_option maxHeartbeats 4000000 in
theorem act_lock {W w : World} {p N : Nat} {s : SM} {X F : Nat → Prop} {y : RLy} (hs : St W w p N s F) (hN : N ≤ 1000000) (hX : ∀ b, F b → X b) (hXw : ∀ b, X b → b < w.heap.size) (h : RSt X w y s) (n t v : Int) :
    Calls Try.prog 32 #[.pointer (some ⟨p, 0, none⟩), .agg (hdR y s), .agg #[.int .i64 0, .int .i64 n, .int .i64 t, .int .i64 v]] w (ActP W w p (N + 1) X F (lockS s n t).1) := by
  obtain ⟨s', b, ee, hE⟩ : ∃ s' b ee, lockS s n t = (s', b, ee) := ⟨_, _, _, rfl⟩
  have HE := Lib.hid hE
  have hRL := fun W' hX' hr => RLock_any hN y s W' n t (F := fun b => X b ∨ b = w.heap.size + 1 + 1) hX' hr hs.sz
  rw [hE] at hRL ⊢
  have HS := Lib.hid hs; have HX := Lib.hid hX; have HXW := Lib.hid hXw; have HR := Lib.hid h
  have HF : Hid (∀ b, F b → b < w.heap.size) := fun b hb => (hs.lt hb).2
  have HWL := Lib.hid hs.low.size
  obtain ⟨n1, hn⟩ : ∃ n, s.owners.length = n := ⟨_, rfl⟩
  obtain ⟨nc, hnc⟩ : ∃ n, s.conds.length = n := ⟨_, rfl⟩
  obtain ⟨nh, hnh⟩ : ∃ n, s.chans.length = n := ⟨_, rfl⟩
  obtain ⟨m1, hm⟩ : ∃ n, s'.owners.length = n := ⟨_, rfl⟩
  obtain ⟨mc, hmc⟩ : ∃ n, s'.conds.length = n := ⟨_, rfl⟩
  obtain ⟨mh, hmh⟩ : ∃ n, s'.chans.length = n := ⟨_, rfl⟩
  have HM := Lib.hid hm; have HMC := Lib.hid hmc; have HMH := Lib.hid hmh
  simp only [hdR, hn, hnc, hnh, hm, hmc, hmh] at hRL ⊢
  have HRL := Lib.hid hRL
  clear hRL hn hnc hnh hm hmc hmh hs hX hXw h hE
  go_enter Try.func32, Try.ntmps32
  have hb5 := ((Blk.new' (w.alloc (.cells #[.slice y.o1 n1 y.c1, .slice y.o2 nc y.c2, .slice y.o3 nh y.c3, .slice y.o4 nh y.c4, .slice y.o5 nh y.c5] 33)) 62 #[.int .i64 0, .int .i64 n, .int .i64 t, .int .i64 v] (w.heap.size + 1) (by simp)).alloc (.cells #[nilV, nilV, nilV, nilV, nilV] 33))
  have hb6 := Blk.new' ((w.alloc (.cells #[.slice y.o1 n1 y.c1, .slice y.o2 nc y.c2, .slice y.o3 nh y.c3, .slice y.o4 nh y.c4, .slice y.o5 nh y.c5] 33)).alloc (.cells #[.int .i64 0, .int .i64 n, .int .i64 t, .int .i64 v] 62)) 33 #[nilV, nilV, nilV, nilV, nilV] (w.heap.size + 1 + 1) (by simp)
  have hl2 := below_three w (.cells #[.slice y.o1 n1 y.c1, .slice y.o2 nc y.c2, .slice y.o3 nh y.c3, .slice y.o4 nh y.c4, .slice y.o5 nh y.c5] 33) (.cells #[.int .i64 0, .int .i64 n, .int .i64 t, .int .i64 v] 62) (.cells #[nilV, nilV, nilV, nilV, nilV] 33)
  go_wp2_with fail
  generalize World.alloc (World.alloc (World.alloc _ _) _) _ = w2 at hb5 hb6 hl2 ⊢
  have hs6 := hb6.lt
  refine (HRL.out w2 (fun b hb => by rcases hb with hb | hb; have := HXW.out b hb; omega; omega) (HR.out.wide hl2 _ (fun b hb => by rcases hb with hb | hb; exact .inl hb; exact .inr (by omega)))).mono ?_
  rintro e w3 ⟨z, rfl, hst, hb3⟩
  have HB5 := Lib.hid (hb5.below hb3 hb5.lt); have HB6 := Lib.hid (hb6.below hb3 hb6.lt)
  have HL3 := Lib.hid (below_trans hl2 (hb3.mono (Nat.le_refl _)))
  have HST := Lib.hid hst
  have hs3 := hb3.size
  have HN4 := Lib.hid (Blk.new w3 33 #[.slice z.o1 m1 z.c1, .slice z.o2 mc z.c2, .slice z.o3 mh z.c3, .slice z.o4 mh z.c4, .slice z.o5 mh z.c5])
  have HB54 := Lib.hid (HB5.out.alloc (.cells #[.slice z.o1 m1 z.c1, .slice z.o2 mc z.c2, .slice z.o3 mh z.c3, .slice z.o4 mh z.c4, .slice z.o5 mh z.c5] 33))
  have HB64 := Lib.hid (HB6.out.alloc (.cells #[.slice z.o1 m1 z.c1, .slice z.o2 mc z.c2, .slice z.o3 mh z.c3, .slice z.o4 mh z.c4, .slice z.o5 mh z.c5] 33))
  have HL4 := Lib.hid (HL3.out.alloc HL3.out.size (.cells #[.slice z.o1 m1 z.c1, .slice z.o2 mc z.c2, .slice z.o3 mh z.c3, .slice z.o4 mh z.c4, .slice z.o5 mh z.c5] 33))
  have hc1 := HB54.out.cell 1; have hc2 := HB54.out.cell 2
  clear hb5 hb6 hl2 hb3 hst HRL
  go_wp2_with fail
  obtain ⟨w4, hw4⟩ : ∃ w4, w4 = w3.alloc (.cells #[.slice z.o1 m1 z.c1, .slice z.o2 mc z.c2, .slice z.o3 mh z.c3, .slice z.o4 mh z.c4, .slice z.o5 mh z.c5] 33) := ⟨_, rfl⟩
  have HW4 : Hid (Below w3.heap.size w3 w4) := Lib.hid (by rw [hw4]; exact (Below.refl _ _).alloc (Nat.le_refl _) _)
  rw [← hw4] at HN4 HB54 HB64 HL4 ⊢
  clear hw4 hc1 hc2
  refine (st_lock (HS.out.below HL4.out) n t HE.out).mono ?_
  rintro e w5 ⟨rfl, F', hst5, ho5, hF5⟩
  have hnF : ¬ F w3.heap.size := fun hf => by have := HF.out _ hf; omega
  have hrF : ¬ F (w.heap.size + 1 + 1) := fun hf => by have := HF.out _ hf; omega
  obtain ⟨a0, a1, a2, a3, a4, -⟩ := Blk.five (HN4.out.only ho5 hnF)
  have HB6' := Lib.hid (HB64.out.only ho5 hrF)
  obtain ⟨y0, y1, y2, y3, y4, f0, f1, f2, f3, f4⟩ := Blk.five HB6'.out
  have HST5 := Lib.hid hst5; have HO5 := Lib.hid ho5; have HF5 := Lib.hid hF5
  have hne : w.heap.size + 1 + 1 ≠ w3.heap.size := by omega
  have e1 : (b == b) = true := by simp
  have e2 : (ee == ee) = true := by simp
  clear hst5 ho5 hF5
  go_wp2_with fail
  go_region_held3 (fun W' => W'.cell? ⟨w3.heap.size, 0, none⟩ = some (.slice z.o1 m1 z.c1) ∧ W'.cell? ⟨w3.heap.size, 1, none⟩ = some (.slice z.o2 mc z.c2) ∧ W'.cell? ⟨w3.heap.size, 2, none⟩ = some (.slice z.o3 mh z.c3) ∧ W'.cell? ⟨w3.heap.size, 3, none⟩ = some (.slice z.o4 mh z.c4) ∧ W'.cell? ⟨w3.heap.size, 4, none⟩ = some (.slice z.o5 mh z.c5))
    (go_keep)
    (first | (go_simp; go_at_call 23; refine (num_any _ _).mono ?_; rintro e w' ⟨rfl, rfl⟩))
  rename_i hHeld
  clear hHeld
  go_wp2_with fail
  refine bodyPost_ret (results_c1 rfl rfl (fill5_blk HB6'.out).drew) rfl (act_end' HX.out HF.out HL4.out HWL.out (by omega) HW4.out (Nat.le_succ N) HST.out HST5.out HO5.out HF5.out (.slice z.o1 m1 z.c1) (.slice z.o2 mc z.c2) (.slice z.o3 mh z.c3) (.slice z.o4 mh z.c4) (.slice z.o5 mh z.c5) ?_)
  simp only [hdR, HM.out, HMC.out, HMH.out]
  rfl
end Go.Proofs.Ytdfjbgfdaokjgaa

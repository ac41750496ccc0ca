/-
  The reference's Copy.
-/
import Derived.Test.YtdfjbgfdaokjgaaRMake
namespace Go.Proofs.Ytdfjbgfdaokjgaa
open Go.RowKit

/-- What Copy answers: rows of its own, which hold what there was. -/
def CopyP (w : World) (s : SM) (e : Ending) (w' : World) : Prop := ∃ (z : RLy) (cv cw : List Value), e = .returned (.agg (hdR z s)) ∧ Below w.heap.size w w' ∧ cv.length = s.conds.length ∧ cw.length = s.chans.length ∧
  Rows w' w.heap.size (⟨47, 1, .slice z.o4 s.chans.length z.c4, s.chans.length, cw⟩ :: crows 2 cw (s.chans.map (·.sent)) (⟨22, 1, .slice z.o2 s.conds.length z.c2, s.conds.length, cv⟩ :: crows 3 cv s.conds
    [⟨3, 1, .slice z.o1 s.owners.length z.c1, s.owners.length, s.owners.map (Value.int .i64)⟩, ⟨3, 1, .slice z.o3 s.chans.length z.c3, s.chans.length, (s.chans.map (·.room)).map (Value.int .i64)⟩,
     ⟨3, 1, .slice z.o5 s.chans.length z.c5, s.chans.length, (s.chans.map (fun c => (c.taken : Int))).map (Value.int .i64)⟩]))
theorem Rows.of_mem {w : World} {base : Nat} {l : List Rw} (h : Rows w base l) {r : Rw} (hm : r ∈ l) : w.ownsRow base r.e r.k r.v r.n r.xs := by
  obtain ⟨i, hi⟩ := List.getElem?_of_mem hm
  exact h.own i r hi

set_option maxRecDepth 100000 in
set_option maxHeartbeats 2000000 in
theorem RCopy_any (y : RLy) (s : SM) (w : World) (h : RAt w y s) (hno : s.owners.length ≤ 64) (hnc : s.conds.length ≤ 64) (hlc : ∀ z ∈ s.conds, z.length ≤ 1000000) (hnh : s.chans.length ≤ 64) (hls : ∀ z ∈ s.chans.map (·.sent), z.length ≤ 1000000) :
    Calls Try.prog 86 #[.agg (hdR y s)] w (CopyP w s) := by
  have H := Lib.hid h
  have HLC := Lib.hid hlc
  have HLS := Lib.hid hls
  clear h hlc hls
  go_enter Try.func86, Try.ntmps86
  simp only [hdR]
  go_wp2_with fail
  go_cut [3] from 6 to 18 (fun r wc => ∃ w0, (Below w.heap.size w w0 ∧ Blk w0 w.heap.size 33 (hdR y s) ∧ Blk w0 (w.heap.size + 1) 33 #[nilV, nilV, nilV, nilV, nilV] ∧ w.heap.size + 1 < w0.heap.size) ∧ CopyA w0 s r wc)
  case first =>
    rename_i J K' hRJ hJK
    generalize hA : Act.mk _ _ = a0
    generalize hW : World.alloc _ _ = w0
    have h58 : a0.tmps.size = 58 := by subst hA; rfl
    have hB : Blk w0 w.heap.size 33 (hdR y s) := by subst hW; exact (Blk.new _ _ _).alloc _
    have hB2 : Blk w0 (w.heap.size + 1) 33 #[nilV, nilV, nilV, nilV, nilV] := by subst hW; exact Blk.new' _ _ _ _ (by simp)
    have hR : RAt w0 y s := by subst hW; exact H.out.below (((Below.refl _ w).alloc (Nat.le_refl _) _).alloc (by simp) _)
    have hlow : Below w.heap.size w w0 := by subst hW; exact ((Below.refl _ w).alloc (Nat.le_refl _) _).alloc (by simp) _
    have h1 : a0.eval (.tmp 1) = .pointer (some ⟨w.heap.size, 0, none⟩) := by subst hA; rfl
    refine region_inv (by kernel_rfl) (CInv w0 w.heap.size y s a0) ?_ ?_ ?_
    · refine ⟨Fr.refl _ _, ?_⟩
      exact CI.start (fun j => flags_none _ j) h1
    · intro l a w1 i hl hi hI
      have hlt : i < 15 := by
        obtain ⟨_, o, hoi, _⟩ := mem_ready.1 hi
        exact (Array.getElem?_eq_some_iff.1 hoi).1
      match i, hlt, hi with
      | 0, _, hi =>
        obtain ⟨h0, ha⟩ := ready_of hi rfl hl
        exact op_value rfl rfl (by simp [go_sem]) (hI.step hl h58 (by decide) (by decide) (hI.2.s0 h0))
      | 1, _, hi =>
        obtain ⟨h0, ha⟩ := ready_of hi rfl hl
        have ht := get_of hI.2.t1
        exact op_value rfl rfl (by simp [go_sem, ht, Addr.add]) (hI.step hl h58 (by decide) (by decide) hI.2.s1)
      | 2, _, hi =>
        obtain ⟨h0, ha⟩ := ready_of hi rfl hl
        have ht := get_of (hI.2.t7 (ha { on := 1, ground := .data } (by simp) rfl))
        have hc : w1.cell? ⟨w.heap.size, 0, none⟩ = some (.slice y.o1 s.owners.length y.c1) := (hI.2.low.cell (p := ⟨w.heap.size, 0, none⟩) hB.lt).trans (hB.cell 0)
        exact op_value rfl rfl (by simp [go_sem, ht, hc]) (hI.step hl h58 (by decide) (by decide) hI.2.s2)
      | 3, _, hi =>
        obtain ⟨h0, ha⟩ := ready_of hi rfl hl
        have hb := ha { on := 0, ground := .data } (by simp) rfl
        obtain ⟨g, hg⟩ := hI.2.t6 hb
        have hx := hI.2.t8 (ha { on := 2, ground := .data } (by simp) rfl)
        have h14 : flags l 14 = false := by
          cases hc : flags l 14 with
          | false => rfl
          | true => rw [(hI.2.p12 (hI.2.p14 hc).2).1] at h0; cases h0
        have hrow := hI.2.rows.own 0 _ rfl
        simp only [rowK, h0, hb, cond_false, cond_true, hg] at hrow
        refine append_grew (base := w0.heap.size) rfl rfl rfl hg hrow hx (hR.owners.below hI.2.low) (by omega) hI.2.low.size (fun v' w' hgr => hI.step hl h58 (by decide) (by decide) (hI.2.s3 hb h0 h14 (by rw [hg]; exact hgr)))
      | 4, _, hi =>
        obtain ⟨h0, ha⟩ := ready_of hi rfl hl
        exact op_value rfl rfl (by simp [go_sem]) (hI.step hl h58 (by decide) (by decide) (hI.2.s4 h0))
      | 5, _, hi =>
        obtain ⟨h0, ha⟩ := ready_of hi rfl hl
        have ht := get_of hI.2.t1
        exact op_value rfl rfl (by simp [go_sem, ht, Addr.add]) (hI.step hl h58 (by decide) (by decide) hI.2.s5)
      | 6, _, hi =>
        obtain ⟨h0, ha⟩ := ready_of hi rfl hl
        have ht := get_of (hI.2.t11 (ha { on := 5, ground := .data } (by simp) rfl))
        have hc : w1.cell? ⟨w.heap.size, 2, none⟩ = some (.slice y.o3 s.chans.length y.c3) := (hI.2.low.cell (p := ⟨w.heap.size, 2, none⟩) hB.lt).trans (hB.cell 2)
        exact op_value rfl rfl (by simp [go_sem, ht, hc]) (hI.step hl h58 (by decide) (by decide) hI.2.s6)
      | 7, _, hi =>
        obtain ⟨h0, ha⟩ := ready_of hi rfl hl
        have hb := ha { on := 4, ground := .data } (by simp) rfl
        obtain ⟨g, hg⟩ := hI.2.t10 hb
        have hx : a.eval (.tmp 12) = .slice y.o3 (s.chans.map (·.room)).length y.c3 := by rw [List.length_map]; exact hI.2.t12 (ha { on := 6, ground := .data } (by simp) rfl)
        have h14 : flags l 14 = false := by
          cases hc : flags l 14 with
          | false => rfl
          | true => rw [(hI.2.p12 (hI.2.p14 hc).2).2.1] at h0; cases h0
        have hrow := hI.2.rows.own 1 _ rfl
        simp only [rowK, h0, hb, cond_false, cond_true, hg] at hrow
        refine append_grew (base := w0.heap.size) rfl rfl rfl hg hrow hx (hR.rooms.below hI.2.low) (by rw [List.length_map]; omega) hI.2.low.size (fun v' w' hgr => hI.step hl h58 (by decide) (by decide) (hI.2.s7 hb h0 h14 (by rw [hg]; exact hgr)))
      | 8, _, hi =>
        obtain ⟨h0, ha⟩ := ready_of hi rfl hl
        exact op_value rfl rfl (by simp [go_sem]) (hI.step hl h58 (by decide) (by decide) (hI.2.s8 h0))
      | 9, _, hi =>
        obtain ⟨h0, ha⟩ := ready_of hi rfl hl
        have ht := get_of hI.2.t1
        exact op_value rfl rfl (by simp [go_sem, ht, Addr.add]) (hI.step hl h58 (by decide) (by decide) hI.2.s9)
      | 10, _, hi =>
        obtain ⟨h0, ha⟩ := ready_of hi rfl hl
        have ht := get_of (hI.2.t15 (ha { on := 9, ground := .data } (by simp) rfl))
        have hc : w1.cell? ⟨w.heap.size, 4, none⟩ = some (.slice y.o5 s.chans.length y.c5) := (hI.2.low.cell (p := ⟨w.heap.size, 4, none⟩) hB.lt).trans (hB.cell 4)
        exact op_value rfl rfl (by simp [go_sem, ht, hc]) (hI.step hl h58 (by decide) (by decide) hI.2.s10)
      | 11, _, hi =>
        obtain ⟨h0, ha⟩ := ready_of hi rfl hl
        have hb := ha { on := 8, ground := .data } (by simp) rfl
        obtain ⟨g, hg⟩ := hI.2.t14 hb
        have hx : a.eval (.tmp 16) = .slice y.o5 (s.chans.map (fun c => (c.taken : Int))).length y.c5 := by rw [List.length_map]; exact hI.2.t16 (ha { on := 10, ground := .data } (by simp) rfl)
        have h14 : flags l 14 = false := by
          cases hc : flags l 14 with
          | false => rfl
          | true => rw [(hI.2.p12 (hI.2.p14 hc).2).2.2] at h0; cases h0
        have hrow := hI.2.rows.own 2 _ rfl
        simp only [rowK, h0, hb, cond_false, cond_true, hg] at hrow
        refine append_grew (base := w0.heap.size) rfl rfl rfl hg hrow hx (hR.taken.below hI.2.low) (by rw [List.length_map]; omega) hI.2.low.size (fun v' w' hgr => hI.step hl h58 (by decide) (by decide) (hI.2.s11 hb h0 h14 (by rw [hg]; exact hgr)))
      | 12, _, hi =>
        obtain ⟨h0, ha⟩ := ready_of hi rfl hl
        have q1 := ha { on := 3, ground := .data } (by simp) rfl
        have q2 := ha { on := 7, ground := .data } (by simp) rfl
        have q3 := ha { on := 11, ground := .data } (by simp) rfl
        have h14 : flags l 14 = false := by
          cases hc : flags l 14 with
          | false => rfl
          | true => rw [(hI.2.p14 hc).2] at h0; cases h0
        obtain ⟨o9, c9, x1, -⟩ := row_shape (by have := hI.2.rows.own 0 _ rfl; simpa only [rowK, q1, cond_true] using this)
        obtain ⟨o13, c13, x2, -⟩ := row_shape (by have := hI.2.rows.own 1 _ rfl; simpa only [rowK, q2, cond_true] using this)
        obtain ⟨o17, c17, x3, -⟩ := row_shape (by have := hI.2.rows.own 2 _ rfl; simpa only [rowK, q3, cond_true] using this)
        have r1 := get_of x1
        have r2 := get_of x2
        have r3 := get_of x3
        exact op_value rfl rfl (by simp [go_sem, r1, r2, r3, x1, x2, x3]) (hI.step hl h58 (by decide) (by decide) (hI.2.s12 q1 q2 q3 h14))
      | 13, _, hi =>
        obtain ⟨h0, ha⟩ := ready_of hi rfl hl
        have h14 : flags l 14 = false := by
          cases hc : flags l 14 with
          | false => rfl
          | true => rw [(hI.2.p14 hc).1] at h0; cases h0
        exact op_value rfl rfl (by simp [go_sem]) (hI.step hl h58 (by decide) (by decide) (hI.2.s13 h14))
      | 14, _, hi =>
        obtain ⟨h0, ha⟩ := ready_of hi rfl hl
        have q1 := ha { on := 12, ground := .data } (by simp) rfl
        have q2 := ha { on := 13, ground := .data } (by simp) rfl
        obtain ⟨g, g1, g2, g3, g4⟩ := hI.2.t3 q2
        have ht := get_of g1
        obtain ⟨q31, q32, q33⟩ := hI.2.p12 q1
        obtain ⟨o9, c9, x1, -⟩ := row_shape (by have := hI.2.rows.own 0 _ rfl; simpa only [rowK, q31, cond_true] using this)
        obtain ⟨o13, c13, x2, -⟩ := row_shape (by have := hI.2.rows.own 1 _ rfl; simpa only [rowK, q32, cond_true] using this)
        obtain ⟨o17, c17, x3, -⟩ := row_shape (by have := hI.2.rows.own 2 _ rfl; simpa only [rowK, q33, cond_true] using this)
        have hv := get_of (hI.2.t18 q1)
        simp only [aggK, x1, x2, x3] at hv
        rw [h0] at g4
        have g5 : Blk w1 g 33 #[nilV, nilV, nilV, nilV, nilV] := g4
        obtain ⟨k0, k1, k2, k3, k4, f0, f1, f2, f3, f4⟩ := Blk.five g5
        unfold wpOp
        simp [go_sem, ht, hv, Region.wanted, k0, k1, k2, k3, k4, f0, f1, f2, f3, f4]
        refine .inl ⟨hI.1, ?_⟩
        rw [flags_set (by rw [hl]; decide)]
        refine hI.2.s14 q1 q2 g1 ?_ ?_
        · rw [List.length_map] at x2 x3
          rw [aggK, x1, x2, x3]
          exact ((((g5.set_ 0 _).set_ 1 _).set_ 2 _).set_ 3 _).set_ 4 _
        · exact (((((Only.refl w1).setCell (X := fun b => b = g) (.inl rfl) _).setCell (.inl rfl) _).setCell (.inl rfl) _).setCell (.inl rfl) _).setCell (.inl rfl) _
      | n + 15, hlt, _ => omega
    · intro l a w1 hl hr hI
      have hall := ready_all (topo_of (by kernel_rfl)) hr
      have hf : ∀ j, j < 15 → flags l j = true := fun j hj => by
        have h1 := hall j hj
        have h2 : j < l.size := by rw [hl]; exact hj
        simpa [flags, Array.getD, h2] using h1
      have hfin := hI.2.fin hf
      have hform := hI.1.form (by rw [h58]; decide)
      subst hA
      exact hJK _ _ (hRJ _ _ ⟨evals a 3, evals a 6, evals a 7, evals a 8, evals a 9, evals a 10, evals a 11, evals a 12, evals a 13, evals a 14, evals a 15, evals a 16, evals a 17, evals a 18, ⟨w0, ⟨hlow, hB, hB2, hB2.lt⟩, hfin⟩, hform.trans (by kernel_rfl)⟩)
  case rest =>
    obtain ⟨w0, ⟨hlow, hB, hB2, hB3⟩, hlow2, g, v1, v2, v3, rfl, hge, hblk, hrows, hgout⟩ := hcut
    generalize hABC : [rowK true true v1 v1 s.owners, rowK true true v2 v2 (s.chans.map (·.room)), rowK true true v3 v3 (s.chans.map (fun c => (c.taken : Int)))] = ABC at hrows hgout
    have HL : Hid (L1 3 22 w0 w0.heap.size g 0 s.conds ABC (fun v => #[v1, v, v2, nilV, v3]) wc nilV []) :=
      ⟨hlow2, ⟨Nat.le_refl _, hlow2.size⟩, rfl, hrows.cons (World.ownsRow_nil _ _ _ _) (fun b hb => by cases hb), hblk, fun hf => (by
        rcases hf.cons with hf | hf
        · cases hf
        · exact hgout hf), hge⟩
    have HB := Lib.hid hB
    have HB2 := Lib.hid hB2
    have HB3 := Lib.hid hB3
    clear hB2 hB3
    have HR := Lib.hid (H.out.below hlow)
    have HW := Lib.hid hlow
    have HN := Lib.hid hnc
    obtain ⟨n2, hn2⟩ : ∃ n, s.conds.length = n := ⟨_, rfl⟩
    have HN2 := Lib.hid hn2
    have hn64 : n2 ≤ 64 := by omega
    clear hlow hlow2 hblk hrows hgout hB hnc hn2
    go_wp2_with fail
    go_loopw [4] (fun i wr => ∃ (k : Nat) (vC : Value) (cv : List Value), k ≤ n2 ∧ i = .int .i64 k ∧ Hid (L1 3 22 w0 w0.heap.size g k s.conds ABC (fun v => #[v1, v, v2, nilV, v3]) wr vC cv)) (fun i _ => n2 - (intOf i).toNat)
    case atStart => exact ⟨0, nilV, [], Nat.zero_le _, rfl, HL⟩
    case round =>
      obtain ⟨k, vC, cv, hk, rfl, HK⟩ := hrel
      have k1 : wr.cell? ⟨w.heap.size, 1, none⟩ = some (.slice y.o2 n2 y.c2) := by
        rw [← HN2.out]
        exact (HK.out.low.cell (p := ⟨w.heap.size, 1, none⟩) HB.out.lt).trans (HB.out.cell 1)
      by_cases hlt : k < n2
      · obtain ⟨z, hz⟩ : ∃ z, s.conds[k]? = some z := ⟨_, List.getElem?_eq_getElem (by rw [HN2.out]; exact hlt)⟩
        obtain ⟨G, off, ho2⟩ := HR.out.conds.1 (by rw [HN2.out]; omega)
        obtain ⟨q, c, hzc, -, hzi⟩ := HR.out.conds.2 G off ho2 k z hz
        rw [ho2] at k1
        have HKB : Hid (w0.cell? ⟨w.heap.size, 1, none⟩ = some (.slice (some ⟨G, off, none⟩) n2 y.c2)) := (HB.out.cell 1).trans (by rw [← ho2, ← HN2.out]; rfl)
        have HZC := Lib.hid hzc
        have HZI := Lib.hid hzi
        have HZ := Lib.hid hz
        clear hzc hzi hz
        go_upto_block 1 with (fail)
        go_cut [] from 26 to 37 (fun wc => ∃ vC' cv', L1 3 22 w0 w0.heap.size g (k + 1) s.conds ABC (fun v => #[v1, v, v2, nilV, v3]) wc vC' cv')
        case first =>
          rename_i J K' hRJ hJK
          go_wp2_with fail
          generalize hA : Act.mk _ _ = a0
          have h58 : 26 + 12 ≤ a0.tmps.size := by subst hA; exact (by decide : 26 + 12 ≤ 58)
          have e1 : a0.eval (.tmp 1) = .pointer (some ⟨w.heap.size, 0, none⟩) := by subst hA; rfl
          have e3 : a0.eval (.tmp 3) = .pointer (some ⟨g, 0, none⟩) := by subst hA; rfl
          have e4 : a0.eval (.tmp 4) = .int .i64 k := by subst hA; rfl
          refine region_inv (by kernel_rfl) (LInv (rnd1 3 22 1 w0 w0.heap.size g w.heap.size G off n2 y.c2 k vC cv z q c (crows 3 cv (s.conds.take k) ABC) (fun v => #[v1, v, v2, nilV, v3])) 26 a0) ?_ ?_ ?_
          · exact ⟨Fr.refl _ _, HK.out.begin (fun j => flags_none _ j)⟩
          · intro l a w1 i hl hi hI
            have hlt13 : i < 13 := by
              obtain ⟨_, o, hoi, _⟩ := mem_ready.1 hi
              exact (Array.getElem?_eq_some_iff.1 hoi).1
            match i, hlt13, hi with
            | 0, _, hi =>
              obtain ⟨h0, ha⟩ := ready_of hi rfl hl
              have ht := get_of ((hI.1.eval (t := 3) (by decide)).trans e3)
              exact op_value (v := .pointer (some ⟨g, 1, none⟩)) rfl rfl (by simp [go_sem, ht, Addr.add]) (hI.step hl h58 (by decide) 0 (by decide) hI.2.s0)
            | 1, _, hi =>
              obtain ⟨h0, ha⟩ := ready_of hi rfl hl
              have ht := get_of (show a.eval (.tmp 26) = .pointer (some ⟨g, 1, none⟩) from hI.2.t0 (ha { on := 0, ground := .data } (by simp) rfl))
              have h12 : flags l 12 = false := by
                cases hc : flags l 12 with
                | false => rfl
                | true => rw [hI.2.p10b (hI.2.p12 hc)] at h0; cases h0
              have hbx := hI.2.box
              rw [h12] at hbx
              have hc : w1.cell? ⟨g, 1, none⟩ = some vC := hbx.cell 1
              exact op_value (v := vC) rfl rfl (by simp [go_sem, ht, hc]) (hI.step hl h58 (by decide) 1 (by decide) hI.2.s1)
            | 2, _, hi =>
              obtain ⟨h0, ha⟩ := ready_of hi rfl hl
              exact op_value rfl rfl (by simp [go_sem, rnd1]) (hI.step hl h58 (by decide) 2 (by decide) (hI.2.s2 h0))
            | 3, _, hi =>
              obtain ⟨h0, ha⟩ := ready_of hi rfl hl
              have ht := get_of ((hI.1.eval (t := 1) (by decide)).trans e1)
              exact op_value (v := .pointer (some ⟨w.heap.size, 1, none⟩)) rfl rfl (by simp [go_sem, ht, Addr.add]) (hI.step hl h58 (by decide) 3 (by decide) hI.2.s3)
            | 4, _, hi =>
              obtain ⟨h0, ha⟩ := ready_of hi rfl hl
              have ht := get_of (show a.eval (.tmp 29) = .pointer (some ⟨w.heap.size, 1, none⟩) from hI.2.t3 (ha { on := 3, ground := .data } (by simp) rfl))
              have hc := (hI.2.low.cell (p := ⟨w.heap.size, 1, none⟩) HB.out.lt).trans HKB.out
              exact op_value (v := .slice (some ⟨G, off, none⟩) n2 y.c2) rfl rfl (by simp [go_sem, ht, hc]) (hI.step hl h58 (by decide) 4 (by decide) hI.2.s4)
            | 5, _, hi =>
              obtain ⟨h0, ha⟩ := ready_of hi rfl hl
              have ht := get_of ((hI.1.eval (t := 4) (by decide)).trans e4)
              exact op_value (v := .int .i64 k) rfl rfl (by simp [go_sem, ht]) (hI.step hl h58 (by decide) 5 (by decide) hI.2.s5)
            | 6, _, hi =>
              obtain ⟨h0, ha⟩ := ready_of hi rfl hl
              have hk0 : (0 : Int) ≤ (k : Int) := Int.natCast_nonneg _
              have hk1 : (k : Int) < (n2 : Int) := by omega
              have hk2 : ¬ n2 ≤ k := by omega
              have ht := get_of (show a.eval (.tmp 30) = .slice (some ⟨G, off, none⟩) n2 y.c2 from hI.2.t4 (ha { on := 4, ground := .data } (by simp) rfl))
              have hu := get_of (show a.eval (.tmp 31) = .int .i64 k from hI.2.t5 (ha { on := 5, ground := .data } (by simp) rfl))
              exact op_value (v := .pointer (some ⟨G, off + k, none⟩)) rfl rfl (by simp [go_sem, ht, hu, hk2]) (hI.step hl h58 (by decide) 6 (by decide) hI.2.s6)
            | 7, _, hi =>
              obtain ⟨h0, ha⟩ := ready_of hi rfl hl
              have ht := get_of (show a.eval (.tmp 32) = .pointer (some ⟨G, off + k, none⟩) from hI.2.t6 (ha { on := 6, ground := .data } (by simp) rfl))
              have hc := (hI.2.low.cell (p := ⟨G, off + k, none⟩) (World.block_lt_of_cell? w0 _ HZC.out)).trans HZC.out
              exact op_value (v := .slice q z.length c) rfl rfl (by simp [go_sem, ht, hc]) (hI.step hl h58 (by decide) 7 (by decide) hI.2.s7)
            | 8, _, hi =>
              obtain ⟨h0, ha⟩ := ready_of hi rfl hl
              have h2 := (ha { on := 2, ground := .data } (by simp) rfl)
              obtain ⟨b, hb⟩ := hI.2.t2 h2
              have hx : a.eval (.tmp 33) = .slice q z.length c := hI.2.t7 (ha { on := 7, ground := .data } (by simp) rfl)
              have hrow := hI.2.rows.own 1 _ rfl
              simp only [rowT, h0, h2, cond_false, cond_true, hb] at hrow
              refine append_grewT Try.underlying22 infoint (base := w0.heap.size) rfl rfl rfl hb hrow hx (HZI.out.below hI.2.low) (HLC.out z (List.mem_of_getElem? HZ.out)) hI.2.hb.2 (fun v' w' hgr => hI.step hl h58 (by decide) 8 (by decide) (hI.2.s8 h2 h0 (by rw [hb]; exact hgr)))
            | 9, _, hi =>
              obtain ⟨h0, ha⟩ := ready_of hi rfl hl
              have h8 := (ha { on := 8, ground := .data } (by simp) rfl)
              obtain ⟨o8, c8, x8, -⟩ := row_shape (by have := hI.2.rows.own 1 _ rfl; simpa only [rowT, h8, cond_true] using this)
              have ht := get_of (show a.eval (.tmp 34) = _ from x8)
              refine op_value rfl rfl (by simp [go_sem, ht, x8, rnd1]) (hI.step hl h58 (by decide) 9 (by decide) (hI.2.s9 h8 h0))
            | 10, _, hi =>
              obtain ⟨h0, ha⟩ := ready_of hi rfl hl
              have h1 := (ha { on := 1, ground := .data } (by simp) rfl)
              have h9 := (ha { on := 9, ground := .data } (by simp) rfl)
              obtain ⟨b, hb, hbk⟩ := hI.2.t9 h9 h0
              have hrow := hI.2.rows.own 0 _ rfl
              simp only [rowB, h0, cond_false] at hrow
              obtain ⟨o8, c8, x8, -⟩ := row_shape (by have := hI.2.rows.own 1 _ rfl; simpa only [rowT, hI.2.p9 h9, cond_true] using this)
              refine append_box Try.underlying30 infoS (base := w0.heap.size) rfl rfl rfl (hI.2.t1 h1) hrow hb hbk (by rw [x8]; rfl) (by show k ≤ 1000; omega) hI.2.hb.2 (fun v' w' g1 g2 g3 g4 => hI.step hl h58 (by decide) 10 (by decide) (hI.2.s10 h1 h9 h0 g1 g2 g3 g4))
            | 11, _, hi =>
              obtain ⟨h0, ha⟩ := ready_of hi rfl hl
              have ht := get_of ((hI.1.eval (t := 3) (by decide)).trans e3)
              exact op_value (v := .pointer (some ⟨g, 1, none⟩)) rfl rfl (by simp [go_sem, ht, Addr.add]) (hI.step hl h58 (by decide) 11 (by decide) hI.2.s11)
            | 12, _, hi =>
              obtain ⟨h0, ha⟩ := ready_of hi rfl hl
              have q1 := ha { on := 10, ground := .data } (by simp) rfl
              have q2 := ha { on := 11, ground := .data } (by simp) rfl
              have ht := get_of (show a.eval (.tmp 37) = .pointer (some ⟨g, 1, none⟩) from hI.2.t11 q2)
              obtain ⟨o10, c10, x10, -⟩ := row_shape (by have := hI.2.rows.own 0 _ rfl; simpa only [rowB, q1, cond_true] using this)
              have hv := get_of (show a.eval (.tmp 36) = _ from x10)
              have hbx := hI.2.box
              rw [h0] at hbx
              have hbx' : Blk w1 g 33 #[v1, vC, v2, nilV, v3] := hbx
              obtain ⟨k0, k1, k2, k3, k4, f0, f1, f2, f3, f4⟩ := Blk.five hbx'
              unfold wpOp
              simp [go_sem, ht, hv, Region.wanted, k1, f1]
              refine .inl ⟨hI.1, ?_⟩
              rw [flags_set (by rw [hl]; decide)]
              refine hI.2.s12 q1 ?_ ?_
              · rw [x10]
                exact hbx'.set_ 1 _
              · exact (Only.refl w1).setCell (X := fun b => b = g) (.inl rfl) _
            | n + 13, hlt, _ => omega
          · intro l a w1 hl hr hI
            have hall := ready_all (topo_of (by kernel_rfl)) hr
            have hf : ∀ j, j < 13 → flags l j = true := fun j hj => by
              have h1 := hall j hj
              have h2 : j < l.size := by rw [hl]; exact hj
              simpa [flags, Array.getD, h2] using h1
            have hfin := L1.next hI.2 hf HK.out.len HZ.out
            have hform := hI.1.form (fun t ht => by unfold Lw at ht; simp at ht; omega)
            subst hA
            exact hJK _ _ (hRJ _ _ ⟨evals a 26, evals a 27, evals a 28, evals a 29, evals a 30, evals a 31, evals a 32, evals a 33, evals a 34, evals a 35, evals a 36, evals a 37, ⟨_, _, hfin⟩, hform.trans (by kernel_rfl)⟩)
        case rest =>
          obtain ⟨vC', cv', hk'⟩ := hcut
          have HK' := Lib.hid hk'
          clear hk'
          go_wp2_with fail
          go_roundw
          case rel => exact ⟨k + 1, vC', cv', by omega, by go_num, HK'⟩
          case measure => simp [intOf]; omega
      · have HKE := Lib.hid (show k = n2 by omega)
        generalize hO : (⟨22, 1, vC, k, cv⟩ : Rw) :: crows 3 cv (s.conds.take k) ABC = OTH
        have HL4 : Hid (L1 2 47 w0 w0.heap.size g 0 (s.chans.map (·.sent)) OTH (fun v => #[v1, vC, v2, v, v3]) wr nilV []) := by
          subst hO
          exact ⟨HK.out.low, HK.out.hb, rfl, HK.out.rows.cons (World.ownsRow_nil _ _ _ _) (fun b hb => by cases hb), HK.out.box, fun hf => (by
            rcases hf.cons with hf | hf
            · cases hf
            · exact HK.out.gout hf), hge⟩
        obtain ⟨n4, hn4⟩ : ∃ n, (s.chans.map (·.sent)).length = n := ⟨_, rfl⟩
        have HN4 := Lib.hid hn4
        have hn464 : n4 ≤ 64 := by rw [List.length_map] at hn4; omega
        have HNH := Lib.hid (show s.chans.length = n4 by rw [List.length_map] at hn4; exact hn4)
        clear hn4
        go_wp2_with fail
        go_loopw [5] (fun i wr => ∃ (j4 : Nat) (vS : Value) (cw : List Value), j4 ≤ n4 ∧ i = .int .i64 j4 ∧ Hid (L1 2 47 w0 w0.heap.size g j4 (s.chans.map (·.sent)) OTH (fun v => #[v1, vC, v2, v, v3]) wr vS cw)) (fun i _ => n4 - (intOf i).toNat)
        case atStart => exact ⟨0, nilV, [], Nat.zero_le _, rfl, HL4⟩
        case round =>
          obtain ⟨j4, vS, cw, hj4, rfl, HJ⟩ := hrel
          have k1 : wr.cell? ⟨w.heap.size, 3, none⟩ = some (.slice y.o4 n4 y.c4) := by
            rw [← HNH.out]
            exact (HJ.out.low.cell (p := ⟨w.heap.size, 3, none⟩) HB.out.lt).trans (HB.out.cell 3)
          by_cases hlt4 : j4 < n4
          · obtain ⟨z, hz⟩ : ∃ z, (s.chans.map (·.sent))[j4]? = some z := ⟨_, List.getElem?_eq_getElem (by rw [HN4.out]; exact hlt4)⟩
            obtain ⟨G, off, ho4⟩ := HR.out.sent.1 (by rw [HN4.out]; omega)
            obtain ⟨q, c, hzc, -, hzi⟩ := HR.out.sent.2 G off ho4 j4 z hz
            rw [ho4] at k1
            have HKB : Hid (w0.cell? ⟨w.heap.size, 3, none⟩ = some (.slice (some ⟨G, off, none⟩) n4 y.c4)) := (HB.out.cell 3).trans (by rw [← ho4, ← HNH.out]; rfl)
            have HZC := Lib.hid hzc
            have HZI := Lib.hid hzi
            have HZ := Lib.hid hz
            clear hzc hzi hz
            go_upto_block 3 with (fail)
            go_cut [] from 45 to 56 (fun wc => ∃ vS' cw', L1 2 47 w0 w0.heap.size g (j4 + 1) (s.chans.map (·.sent)) OTH (fun v => #[v1, vC, v2, v, v3]) wc vS' cw')
            case first =>
              rename_i J K' hRJ hJK
              go_wp2_with fail
              generalize hA : Act.mk _ _ = a0
              have h58 : 45 + 12 ≤ a0.tmps.size := by subst hA; exact (by decide : 45 + 12 ≤ 58)
              have e1 : a0.eval (.tmp 1) = .pointer (some ⟨w.heap.size, 0, none⟩) := by subst hA; rfl
              have e3 : a0.eval (.tmp 3) = .pointer (some ⟨g, 0, none⟩) := by subst hA; rfl
              have e4 : a0.eval (.tmp 5) = .int .i64 j4 := by subst hA; rfl
              refine region_inv (by kernel_rfl) (LInv (rnd1 2 47 3 w0 w0.heap.size g w.heap.size G off n4 y.c4 j4 vS cw z q c (crows 2 cw ((s.chans.map (·.sent)).take j4) OTH) (fun v => #[v1, vC, v2, v, v3])) 45 a0) ?_ ?_ ?_
              · exact ⟨Fr.refl _ _, HJ.out.begin (fun j => flags_none _ j)⟩
              · intro l a w1 i hl hi hI
                have hlt13 : i < 13 := by
                  obtain ⟨_, o, hoi, _⟩ := mem_ready.1 hi
                  exact (Array.getElem?_eq_some_iff.1 hoi).1
                match i, hlt13, hi with
                | 0, _, hi =>
                  obtain ⟨h0, ha⟩ := ready_of hi rfl hl
                  have ht := get_of ((hI.1.eval (t := 3) (by decide)).trans e3)
                  exact op_value (v := .pointer (some ⟨g, 3, none⟩)) rfl rfl (by simp [go_sem, ht, Addr.add]) (hI.step hl h58 (by decide) 0 (by decide) hI.2.s0)
                | 1, _, hi =>
                  obtain ⟨h0, ha⟩ := ready_of hi rfl hl
                  have ht := get_of (show a.eval (.tmp 45) = .pointer (some ⟨g, 3, none⟩) from hI.2.t0 (ha { on := 0, ground := .data } (by simp) rfl))
                  have h12 : flags l 12 = false := by
                    cases hc : flags l 12 with
                    | false => rfl
                    | true => rw [hI.2.p10b (hI.2.p12 hc)] at h0; cases h0
                  have hbx := hI.2.box
                  rw [h12] at hbx
                  have hc : w1.cell? ⟨g, 3, none⟩ = some vS := hbx.cell 3
                  exact op_value (v := vS) rfl rfl (by simp [go_sem, ht, hc]) (hI.step hl h58 (by decide) 1 (by decide) hI.2.s1)
                | 2, _, hi =>
                  obtain ⟨h0, ha⟩ := ready_of hi rfl hl
                  exact op_value rfl rfl (by simp [go_sem, rnd1]) (hI.step hl h58 (by decide) 2 (by decide) (hI.2.s2 h0))
                | 3, _, hi =>
                  obtain ⟨h0, ha⟩ := ready_of hi rfl hl
                  have ht := get_of ((hI.1.eval (t := 1) (by decide)).trans e1)
                  exact op_value (v := .pointer (some ⟨w.heap.size, 3, none⟩)) rfl rfl (by simp [go_sem, ht, Addr.add]) (hI.step hl h58 (by decide) 3 (by decide) hI.2.s3)
                | 4, _, hi =>
                  obtain ⟨h0, ha⟩ := ready_of hi rfl hl
                  have ht := get_of (show a.eval (.tmp 48) = .pointer (some ⟨w.heap.size, 3, none⟩) from hI.2.t3 (ha { on := 3, ground := .data } (by simp) rfl))
                  have hc := (hI.2.low.cell (p := ⟨w.heap.size, 3, none⟩) HB.out.lt).trans HKB.out
                  exact op_value (v := .slice (some ⟨G, off, none⟩) n4 y.c4) rfl rfl (by simp [go_sem, ht, hc]) (hI.step hl h58 (by decide) 4 (by decide) hI.2.s4)
                | 5, _, hi =>
                  obtain ⟨h0, ha⟩ := ready_of hi rfl hl
                  have ht := get_of ((hI.1.eval (t := 5) (by decide)).trans e4)
                  exact op_value (v := .int .i64 j4) rfl rfl (by simp [go_sem, ht]) (hI.step hl h58 (by decide) 5 (by decide) hI.2.s5)
                | 6, _, hi =>
                  obtain ⟨h0, ha⟩ := ready_of hi rfl hl
                  have hk0 : (0 : Int) ≤ (j4 : Int) := Int.natCast_nonneg _
                  have hk1 : (j4 : Int) < (n4 : Int) := by omega
                  have hk2 : ¬ n4 ≤ j4 := by omega
                  have ht := get_of (show a.eval (.tmp 49) = .slice (some ⟨G, off, none⟩) n4 y.c4 from hI.2.t4 (ha { on := 4, ground := .data } (by simp) rfl))
                  have hu := get_of (show a.eval (.tmp 50) = .int .i64 j4 from hI.2.t5 (ha { on := 5, ground := .data } (by simp) rfl))
                  exact op_value (v := .pointer (some ⟨G, off + j4, none⟩)) rfl rfl (by simp [go_sem, ht, hu, hk2]) (hI.step hl h58 (by decide) 6 (by decide) hI.2.s6)
                | 7, _, hi =>
                  obtain ⟨h0, ha⟩ := ready_of hi rfl hl
                  have ht := get_of (show a.eval (.tmp 51) = .pointer (some ⟨G, off + j4, none⟩) from hI.2.t6 (ha { on := 6, ground := .data } (by simp) rfl))
                  have hc := (hI.2.low.cell (p := ⟨G, off + j4, none⟩) (World.block_lt_of_cell? w0 _ HZC.out)).trans HZC.out
                  exact op_value (v := .slice q z.length c) rfl rfl (by simp [go_sem, ht, hc]) (hI.step hl h58 (by decide) 7 (by decide) hI.2.s7)
                | 8, _, hi =>
                  obtain ⟨h0, ha⟩ := ready_of hi rfl hl
                  have h2 := (ha { on := 2, ground := .data } (by simp) rfl)
                  obtain ⟨b, hb⟩ := hI.2.t2 h2
                  have hx : a.eval (.tmp 52) = .slice q z.length c := hI.2.t7 (ha { on := 7, ground := .data } (by simp) rfl)
                  have hrow := hI.2.rows.own 1 _ rfl
                  simp only [rowT, h0, h2, cond_false, cond_true, hb] at hrow
                  refine append_grewT Try.underlying47 infoint64 (base := w0.heap.size) rfl rfl rfl hb hrow hx (HZI.out.below hI.2.low) (HLS.out z (List.mem_of_getElem? HZ.out)) hI.2.hb.2 (fun v' w' hgr => hI.step hl h58 (by decide) 8 (by decide) (hI.2.s8 h2 h0 (by rw [hb]; exact hgr)))
                | 9, _, hi =>
                  obtain ⟨h0, ha⟩ := ready_of hi rfl hl
                  have h8 := (ha { on := 8, ground := .data } (by simp) rfl)
                  obtain ⟨o8, c8, x8, -⟩ := row_shape (by have := hI.2.rows.own 1 _ rfl; simpa only [rowT, h8, cond_true] using this)
                  have ht := get_of (show a.eval (.tmp 53) = _ from x8)
                  refine op_value rfl rfl (by simp [go_sem, ht, x8, rnd1]) (hI.step hl h58 (by decide) 9 (by decide) (hI.2.s9 h8 h0))
                | 10, _, hi =>
                  obtain ⟨h0, ha⟩ := ready_of hi rfl hl
                  have h1 := (ha { on := 1, ground := .data } (by simp) rfl)
                  have h9 := (ha { on := 9, ground := .data } (by simp) rfl)
                  obtain ⟨b, hb, hbk⟩ := hI.2.t9 h9 h0
                  have hrow := hI.2.rows.own 0 _ rfl
                  simp only [rowB, h0, cond_false] at hrow
                  obtain ⟨o8, c8, x8, -⟩ := row_shape (by have := hI.2.rows.own 1 _ rfl; simpa only [rowT, hI.2.p9 h9, cond_true] using this)
                  refine append_box Try.underlying31 infoS64 (base := w0.heap.size) rfl rfl rfl (hI.2.t1 h1) hrow hb hbk (by rw [x8]; rfl) (by show j4 ≤ 1000; omega) hI.2.hb.2 (fun v' w' g1 g2 g3 g4 => hI.step hl h58 (by decide) 10 (by decide) (hI.2.s10 h1 h9 h0 g1 g2 g3 g4))
                | 11, _, hi =>
                  obtain ⟨h0, ha⟩ := ready_of hi rfl hl
                  have ht := get_of ((hI.1.eval (t := 3) (by decide)).trans e3)
                  exact op_value (v := .pointer (some ⟨g, 3, none⟩)) rfl rfl (by simp [go_sem, ht, Addr.add]) (hI.step hl h58 (by decide) 11 (by decide) hI.2.s11)
                | 12, _, hi =>
                  obtain ⟨h0, ha⟩ := ready_of hi rfl hl
                  have q1 := ha { on := 10, ground := .data } (by simp) rfl
                  have q2 := ha { on := 11, ground := .data } (by simp) rfl
                  have ht := get_of (show a.eval (.tmp 56) = .pointer (some ⟨g, 3, none⟩) from hI.2.t11 q2)
                  obtain ⟨o10, c10, x10, -⟩ := row_shape (by have := hI.2.rows.own 0 _ rfl; simpa only [rowB, q1, cond_true] using this)
                  have hv := get_of (show a.eval (.tmp 55) = _ from x10)
                  have hbx := hI.2.box
                  rw [h0] at hbx
                  have hbx' : Blk w1 g 33 #[v1, vC, v2, vS, v3] := hbx
                  obtain ⟨k0, k1, k2, k3, k4, f0, f1, f2, f3, f4⟩ := Blk.five hbx'
                  unfold wpOp
                  simp [go_sem, ht, hv, Region.wanted, k3, f3]
                  refine .inl ⟨hI.1, ?_⟩
                  rw [flags_set (by rw [hl]; decide)]
                  refine hI.2.s12 q1 ?_ ?_
                  · rw [x10]
                    exact hbx'.set_ 3 _
                  · exact (Only.refl w1).setCell (X := fun b => b = g) (.inl rfl) _
                | n + 13, hlt4, _ => omega
              · intro l a w1 hl hr hI
                have hall := ready_all (topo_of (by kernel_rfl)) hr
                have hf : ∀ j, j < 13 → flags l j = true := fun j hj => by
                  have h1 := hall j hj
                  have h2 : j < l.size := by rw [hl]; exact hj
                  simpa [flags, Array.getD, h2] using h1
                have hfin := L1.next hI.2 hf HJ.out.len HZ.out
                have hform := hI.1.form (fun t ht => by unfold Lw at ht; simp at ht; omega)
                subst hA
                exact hJK _ _ (hRJ _ _ ⟨evals a 45, evals a 46, evals a 47, evals a 48, evals a 49, evals a 50, evals a 51, evals a 52, evals a 53, evals a 54, evals a 55, evals a 56, ⟨_, _, hfin⟩, hform.trans (by kernel_rfl)⟩)
            case rest =>
              obtain ⟨vS', cw', hj4'⟩ := hcut
              have HJ' := Lib.hid hj4'
              clear hj4'
              go_wp2_with fail
              go_roundw
              case rel => exact ⟨j4 + 1, vS', cw', by omega, by go_num, HJ'⟩
              case measure => simp [intOf]; omega
          · have HJE := Lib.hid (show j4 = n4 by omega)
            obtain ⟨o4, c4, e4, -⟩ := row_shape (HJ.out.rows.own 0 _ rfl)
            dsimp only at e4
            subst e4
            have hmem : ∀ r, r ∈ OTH → r ∈ (⟨47, 1, Value.slice o4 j4 c4, j4, cw⟩ : Rw) :: crows 2 cw ((s.chans.map (·.sent)).take j4) OTH := fun r hr => List.mem_cons_of_mem _ (List.mem_append_right _ hr)
            have hmem2 : ∀ r, r ∈ ABC → r ∈ OTH := fun r hr => by rw [← hO]; exact List.mem_cons_of_mem _ (List.mem_append_right _ hr)
            obtain ⟨o2, c2, e2, -⟩ := row_shape (HJ.out.rows.of_mem (hmem ⟨22, 1, vC, k, cv⟩ (by rw [← hO]; simp)))
            obtain ⟨o1, c1, e1, -⟩ := row_shape (HJ.out.rows.of_mem (hmem _ (hmem2 (rowK true true v1 v1 s.owners) (by rw [← hABC]; simp))))
            obtain ⟨o3, c3, e3, -⟩ := row_shape (HJ.out.rows.of_mem (hmem _ (hmem2 (rowK true true v2 v2 (s.chans.map (·.room))) (by rw [← hABC]; simp))))
            obtain ⟨o5, c5, e5, -⟩ := row_shape (HJ.out.rows.of_mem (hmem _ (hmem2 (rowK true true v3 v3 (s.chans.map (fun c => (c.taken : Int)))) (by rw [← hABC]; simp))))
            clear hmem hmem2
            dsimp only [rowK, cond_true] at e1 e2 e3 e5
            subst e1
            subst e2
            subst e3
            subst e5
            obtain ⟨z0, z1, z2, z3, z4, f0, f1, f2, f3, f4⟩ := Blk.five (show Blk wr g 33 #[_, _, _, _, _] from HJ.out.box)
            obtain ⟨y0, y1, y2, y3, y4, d0, d1, d2, d3, d4⟩ := Blk.five (HB2.out.below HJ.out.low HB3.out)
            have HX := Lib.hid (HB2.out.below HJ.out.low HB3.out)
            go_wp2_with fail
            have ek : k = s.conds.length := by rw [HN2.out]; exact HKE.out
            have ej : j4 = s.chans.length := by rw [HNH.out]; exact HJE.out
            have ek2 : s.conds.take k = s.conds := by rw [ek]; exact List.take_length
            have ej2 : (s.chans.map (·.sent)).take j4 = s.chans.map (·.sent) := by rw [ej, ← List.length_map (f := (·.sent))]; exact List.take_length
            refine bodyPost_ret (v := .agg (hdR ⟨o1, c1, o2, c2, o3, c3, o4, c4, o5, c5⟩ s)) (by simp [hdR, results, Try.results86, go_sem, y0, y1, y2, y3, y4, ← ek, ← ej]) rfl ⟨⟨o1, c1, o2, c2, o3, c3, o4, c4, o5, c5⟩, cv, cw, rfl, ?_, ?_, ?_, ?_⟩
            · have hl := HW.out.trans (HJ.out.low.mono HW.out.size)
              exact ((((hl.setCell (by simp) _).setCell (by simp) _).setCell (by simp) _).setCell (by simp) _).setCell (by simp) _
            · rw [HK.out.len]; exact ek
            · rw [HJ.out.len]; exact ej
            · have hr := HJ.out.rows
              rw [ej2, ← hO, ek2, ← hABC] at hr
              rw [← ek, ← ej]
              have ho : Only (fun b => b = w.heap.size + 1) wr _ := (((((Only.refl wr).setCell (X := fun b => b = w.heap.size + 1) (p := ⟨w.heap.size + 1, 0, none⟩) (.inl rfl) (.slice o1 s.owners.length c1)).setCell (p := ⟨w.heap.size + 1, 1, none⟩) (.inl rfl) (.slice o2 k c2)).setCell (p := ⟨w.heap.size + 1, 2, none⟩) (.inl rfl) (.slice o3 s.chans.length c3)).setCell (p := ⟨w.heap.size + 1, 3, none⟩) (.inl rfl) (.slice o4 j4 c4)).setCell (p := ⟨w.heap.size + 1, 4, none⟩) (.inl rfl) (.slice o5 s.chans.length c5)
              have hr2 := (hr.only ho (fun b hb e => by have := (hr.lt hb).1; have := HB3.out; omega)).mono (Nat.le_trans (Nat.le_succ _) (Nat.le_of_lt HB3.out))
              simpa [rowK, ← ej] using hr2
end Go.Proofs.Ytdfjbgfdaokjgaa

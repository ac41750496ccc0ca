/-
  The reference's Send, where there is room. (Written by gen_grow.py.)
-/
import Derived.Test.YtdfjbgfdaokjgaaRL8
import Derived.Test.YtdfjbgfdaokjgaaRGrow
namespace Go.Proofs.Ytdfjbgfdaokjgaa
open Go.RowKit

set_option maxRecDepth 100000 in
set_option maxHeartbeats 4000000 in
theorem rsend_yes {N : Nat} (hN : N ≤ 1000000) (y : RLy) (s : SM) (w : World) (m t : Int) (h : RAt w y s) (h1 : 0 ≤ m) (h2 : m < s.chans.length) (ht : inB (-2147483648) 2147483647 t = true) {c : Cn} (ho : s.chans[m.toNat]? = some c) (htk : c.taken ≤ c.sent.length) (hm : c.sent.length ≤ 1000000) (hz : RSz N s) (hf : ¬ c.room ≤ (c.rest.length : Int)) :
    Calls Try.prog 61 #[.agg (hdR y s), .int .i64 m, .int .i64 t] w fun e w' => ∃ z, e = .returned (.tuple #[.agg (hdR z { s with chans := s.chans.set m.toNat { c with sent := c.sent ++ [t] } }), .int .i64 (c.sent.length : Nat), .int .i64 0]) ∧ RNx w w' z { s with chans := s.chans.set m.toNat { c with sent := c.sent ++ [t] } } := by
  have HVL := Lib.hid (fun W (hb : Below w.heap.size w W) => RValues_any y s W m (h.below hb) h1 h2 ho htk hm)
  obtain ⟨k, rfl⟩ : ∃ k : Nat, m = k := ⟨m.toNat, by omega⟩
  have hck : s.chans[k]? = some c := by simpa using ho
  obtain ⟨g, off, hy⟩ := h.rooms.1 (by rw [List.length_map]; omega)
  have hr := h.rooms.2 g off hy k c.room (by rw [List.getElem?_map, hck]; rfl)
  have HRM := Lib.hid (fun W (hb : Below w.heap.size w W) => (hb.cell (p := ⟨g, off + k, none⟩) (World.block_lt_of_cell? w _ hr)).trans hr)
  have hgl : g < w.heap.size := World.block_lt_of_cell? w _ hr
  have HCP := Lib.hid (fun W hl hbox harg => copied_at hN y s w W h hz hl hbox harg)
  have HCK := Lib.hid hck
  obtain ⟨g4, o4, q4, c4, hy4, -, -, hC4⟩ := h.sent.at_ (k := k) (l := c.sent) (by rw [List.getElem?_map, hck]; rfl)
  have hgl4 : g4 < w.heap.size := World.block_lt_of_cell? w _ (hC4 w (Below.refl _ _))
  obtain ⟨r, hr4⟩ : ∃ r, c.sent.length = r := ⟨_, rfl⟩
  rw [hr4] at hC4
  have HC4 := Lib.hid hC4; have HR := Lib.hid hr4
  rw [hr4]
  have hlN : r ≤ 1000000 := by rw [← hr4]; exact hm
  obtain ⟨room, hroom⟩ : ∃ r, c.room = r := ⟨_, rfl⟩
  obtain ⟨rl, hrl⟩ : ∃ r, c.rest.length = r := ⟨_, rfl⟩
  rw [hroom] at HRM hf
  rw [hrl] at HVL hf
  obtain ⟨n, hn⟩ : ∃ n, s.owners.length = n := ⟨_, rfl⟩
  obtain ⟨nc, hnc⟩ : ∃ n, s.conds.length = n := ⟨_, rfl⟩
  obtain ⟨nh, hnh⟩ : ∃ n, s.chans.length = n := ⟨_, rfl⟩
  have HN := Lib.hid hn; have HNC := Lib.hid hnc; have HNH := Lib.hid hnh
  have HY := Lib.hid hy; have HY4 := Lib.hid hy4
  simp only [hdR, List.length_set, hn, hnc, hnh, hy, hy4] at HVL HCP ⊢
  rw [hnh] at h2
  clear hn hnc hnh h ho hy hr hck htk hm hz hC4 hy4 hr4
  go_enter Try.func61, Try.ntmps61
  have h3 : ¬ (k : Int) < 0 := by omega
  have h4 : ¬ (nh : Int) ≤ k := by omega
  have h5 : ¬ nh ≤ k := by omega
  have h6 : ¬ t < -2147483648 := by simp [inB] at ht; omega
  have h7 : ¬ 2147483647 < t := by simp [inB] at ht; omega
  clear ht
  have ha := (Blk.new w 33 #[.slice y.o1 n y.c1, .slice y.o2 nc y.c2, .slice (some ⟨g, off, none⟩) nh y.c3, .slice (some ⟨g4, o4, none⟩) nh y.c4, .slice y.o5 nh y.c5]).alloc (.cells #[nilV, nilV, nilV, nilV, nilV] 33)
  have hb := Blk.new' (w.alloc (.cells #[.slice y.o1 n y.c1, .slice y.o2 nc y.c2, .slice (some ⟨g, off, none⟩) nh y.c3, .slice (some ⟨g4, o4, none⟩) nh y.c4, .slice y.o5 nh y.c5] 33)) 33 #[nilV, nilV, nilV, nilV, nilV] (w.heap.size + 1) (by simp)
  have hl := below_two w (.cells #[.slice y.o1 n y.c1, .slice y.o2 nc y.c2, .slice (some ⟨g, off, none⟩) nh y.c3, .slice (some ⟨g4, o4, none⟩) nh y.c4, .slice y.o5 nh y.c5] 33) (.cells #[nilV, nilV, nilV, nilV, nilV] 33)
  go_wp2_with fail
  generalize World.alloc (World.alloc _ _) _ = w2 at ha hb hl ⊢
  obtain ⟨a0, a1, a2, a3, a4, -⟩ := Blk.five ha
  have r0 := HRM.out _ hl
  have HA := Lib.hid ha; have HB := Lib.hid hb; have HL := Lib.hid hl
  have hs2 := hb.lt
  have HVW := Lib.hid (HVL.out w2.drew hl.drew)
  clear ha hb hl
  go_region_held3 (fun W' => W'.cell? ⟨w.heap.size, 0, none⟩ = some (.slice y.o1 n y.c1) ∧ W'.cell? ⟨w.heap.size, 1, none⟩ = some (.slice y.o2 nc y.c2) ∧ W'.cell? ⟨w.heap.size, 2, none⟩ = some (.slice (some ⟨g, off, none⟩) nh y.c3) ∧ W'.cell? ⟨w.heap.size, 3, none⟩ = some (.slice (some ⟨g4, o4, none⟩) nh y.c4) ∧ W'.cell? ⟨w.heap.size, 4, none⟩ = some (.slice y.o5 nh y.c5) ∧ W'.cell? ⟨g, off + k, none⟩ = some (.int .i64 room))
    (first
      | go_keep
      | (go_split_ands
         exact ⟨cell_keep hbx a0, cell_keep hbx a1, cell_keep hbx a2, cell_keep hbx a3, cell_keep hbx a4, cell_keep hbx r0⟩))
    (first | (go_simp; go_at_call 55; refine HVW.out.mono ?_; rintro e w1 ⟨q, cap, rfl, hq, hbx'⟩; have hbx : Below w2.heap.size w2 w1 := (Below.refl _ w2).drew.trans hbx'; clear hbx'))
  rename_i hHeld
  obtain ⟨a0, a1, a2, a3, a4, r0⟩ := hHeld
  have HB1 := Lib.hid (HB.out.below hbx hs2); have HL1 := Lib.hid (HL.out.trans (hbx.mono (by omega)))
  have HA1 := Lib.hid (HA.out.below hbx (by omega))
  clear hq r0 HA HB HVL HVW
  go_wp2_with fail
  refine (HCP.out w1 HL1.out HB1.out HA1.out).mono ?_
  rintro e wc ⟨z, cv, cw, rfl, hC⟩
  obtain ⟨g1, v, hz1, hlt1, hlt2, hv, d0, d1, hown⟩ := hC.own.sent_cells HCK.out
  have HC2 := Lib.hid hC
  have hsz := hC.box.lt
  have HV := Lib.hid hv
  have hbx := (Blk.new wc 33 #[.slice z.o1 n z.c1, .slice z.o2 nc z.c2, .slice z.o3 nh z.c3, .slice (some ⟨g1, 0, none⟩) nh z.c4, .slice z.o5 nh z.c5])
  have hLB : Below wc.heap.size wc (wc.alloc (.cells #[.slice z.o1 n z.c1, .slice z.o2 nc z.c2, .slice z.o3 nh z.c3, .slice (some ⟨g1, 0, none⟩) nh z.c4, .slice z.o5 nh z.c5] 33)) := (Below.refl _ _).alloc (Nat.le_refl _) _
  obtain ⟨ov, cvv, rfl, -⟩ := row_shape hown
  have hvne : (Value.slice ov c.sent.length cvv).ownBlock ≠ some g1 := fun e => ownsRow_kind (hC.own.headS) hown (by show 47 ≠ 2; decide) (g := g1) (by simp [hz1, Value.ownBlock]) e
  rw [HR.out] at hown hvne d0
  have hvne2 : (Value.slice ov r cvv).ownBlock ≠ some wc.heap.size := fun e => by have := (hown.lt _ e).2; omega
  have hvne3 : (Value.slice ov r cvv).ownBlock ≠ some (w.heap.size + 1) := fun e => by have := (hown.lt _ e).1; omega
  have hvne4 : (Value.slice ov r cvv).ownBlock ≠ some w.heap.size := fun e => by have := (hown.lt _ e).1; omega
  clear hC hv
  rw [hz1]
  go_wp2_with fail
  generalize World.alloc _ _ = wB at hbx hLB ⊢
  have hownB : wB.ownsRow (w.heap.size + 2) 2 1 (.slice ov r cvv) r (c.sent.map (Value.int .i64)) := ownsRow_block hown (fun b hb => hLB.block b (hown.lt b hb).2)
  have b1 := hbx.cell 3
  have d0' : wB.cell? ⟨g1, k, none⟩ = some (.slice ov r cvv) := (hLB.cell (p := ⟨g1, k, none⟩) hlt2).trans d0
  have d1' : wB.frozen? ⟨g1, k, none⟩ = false := (World.frozen?_of_block (hLB.block g1 hlt2)).trans d1
  have hGb : Gb ⟨2, wB, w.heap.size + 2, wc.heap.size, 3, g1, nh, z.c4, k, .slice ov r cvv, r, c.sent.map (Value.int .i64), t⟩ := ⟨b1, d0', d1', hownB, hvne2, hvne⟩
  have HGB := Lib.hid hGb
  have HLB := Lib.hid hLB; have HBX := Lib.hid hbx
  have hBB : w.heap.size + 2 ≤ wB.heap.size := by have := hLB.size; omega
  clear d0 d1 hown b1 d0' d1' hownB hGb hLB hbx a0 a1 a2 a3 a4
  generalize hA : Act.mk _ _ = a0
  have hsz0 : 40 + 12 ≤ a0.tmps.size := by subst hA; exact (by decide : 40 + 12 ≤ 59)
  have eB : a0.eval (.tmp 9) = .pointer (some ⟨wc.heap.size, 0, none⟩) := by subst hA; rfl
  have eM : a0.eval (.tmp 1) = .int .i64 k := by subst hA; rfl
  have eT : a0.eval (.tmp 2) = .int .i64 t := by subst hA; rfl
  have hk2 : ¬ nh ≤ k := by omega
  refine region_inv (by kernel_rfl) (GInv ⟨2, wB, w.heap.size + 2, wc.heap.size, 3, g1, nh, z.c4, k, .slice ov r cvv, r, c.sent.map (Value.int .i64), t⟩ 40 a0) ?_ ?_ ?_
  · exact ⟨Fr.refl _ _, GI.start (fun j => flags_none _ j)⟩
  · intro l' a w1 j hl hj hI
    have hlt13 : j < 13 := by
      obtain ⟨_, o, hoi, _⟩ := mem_ready.1 hj
      exact (Array.getElem?_eq_some_iff.1 hoi).1
    match j, hlt13, hj with
    | 0, _, hj =>
      have ht := get_of ((hI.1.eval (t := 9) (by decide)).trans eB)
      exact op_value (v := .pointer (some ⟨wc.heap.size, 3, none⟩)) rfl rfl (by simp [go_sem, ht, Addr.add]) (hI.step hl hsz0 (by decide) 0 (by decide) hI.2.s0)
    | 1, _, hj =>
      obtain ⟨h0, ha⟩ := ready_of hj rfl hl
      have ht := get_of (show a.eval (.tmp 40) = .pointer (some ⟨wc.heap.size, 3, none⟩) from hI.2.t0 (ha { on := 0, ground := .data } (by simp) rfl))
      have h12 : flags l' 12 = false := by
        cases hc : flags l' 12 with
        | false => rfl
        | true => rw [hI.2.p1 hc] at h0; cases h0
      have hc := hI.2.cell h12 HGB.out.box HGB.out.neB
      exact op_value (v := .slice (some ⟨g1, 0, none⟩) nh z.c4) rfl rfl (by simp [go_sem, ht, hc]) (hI.step hl hsz0 (by decide) 1 (by decide) hI.2.s1)
    | 2, _, hj =>
      have ht := get_of ((hI.1.eval (t := 1) (by decide)).trans eM)
      exact op_value (v := .int .i64 k) rfl rfl (by simp [go_sem, ht]) (hI.step hl hsz0 (by decide) 2 (by decide) hI.2.s2)
    | 3, _, hj =>
      have ht := get_of ((hI.1.eval (t := 9) (by decide)).trans eB)
      exact op_value (v := .pointer (some ⟨wc.heap.size, 3, none⟩)) rfl rfl (by simp [go_sem, ht, Addr.add]) (hI.step hl hsz0 (by decide) 3 (by decide) hI.2.s3)
    | 4, _, hj =>
      obtain ⟨h0, ha⟩ := ready_of hj rfl hl
      have ht := get_of (show a.eval (.tmp 43) = .pointer (some ⟨wc.heap.size, 3, none⟩) from hI.2.t3 (ha { on := 3, ground := .data } (by simp) rfl))
      have h12 : flags l' 12 = false := by
        cases hc : flags l' 12 with
        | false => rfl
        | true => rw [hI.2.p4 hc] at h0; cases h0
      have hc := hI.2.cell h12 HGB.out.box HGB.out.neB
      exact op_value (v := .slice (some ⟨g1, 0, none⟩) nh z.c4) rfl rfl (by simp [go_sem, ht, hc]) (hI.step hl hsz0 (by decide) 4 (by decide) hI.2.s4)
    | 5, _, hj =>
      have ht := get_of ((hI.1.eval (t := 1) (by decide)).trans eM)
      exact op_value (v := .int .i64 k) rfl rfl (by simp [go_sem, ht]) (hI.step hl hsz0 (by decide) 5 (by decide) hI.2.s5)
    | 6, _, hj =>
      obtain ⟨h0, ha⟩ := ready_of hj rfl hl
      have ht := get_of (show a.eval (.tmp 44) = .slice (some ⟨g1, 0, none⟩) nh z.c4 from hI.2.t4 (ha { on := 4, ground := .data } (by simp) rfl))
      have hu := get_of (show a.eval (.tmp 45) = .int .i64 k from hI.2.t5 (ha { on := 5, ground := .data } (by simp) rfl))
      exact op_value (v := .pointer (some ⟨g1, k, none⟩)) rfl rfl (by simp [go_sem, ht, hu, hk2]) (hI.step hl hsz0 (by decide) 6 (by decide) hI.2.s6)
    | 7, _, hj =>
      obtain ⟨h0, ha⟩ := ready_of hj rfl hl
      have ht := get_of (show a.eval (.tmp 46) = .pointer (some ⟨g1, k, none⟩) from hI.2.t6 (ha { on := 6, ground := .data } (by simp) rfl))
      have h10 : flags l' 10 = false := by
        cases hc : flags l' 10 with
        | false => rfl
        | true => rw [hI.2.p7 hc] at h0; cases h0
      have h12 : flags l' 12 = false := by
        cases hc : flags l' 12 with
        | false => rfl
        | true => rw [hI.2.p11 (hI.2.p12 hc)] at h10; cases h10
      have hc := hI.2.cell h12 HGB.out.at_ HGB.out.neG
      dsimp only at hc
      exact op_value (v := .slice ov r cvv) rfl rfl (by simp [go_sem, ht, hc]) (hI.step hl hsz0 (by decide) 7 (by decide) hI.2.s7)
    | 8, _, hj =>
      have ht := get_of ((hI.1.eval (t := 2) (by decide)).trans eT)
      exact op_value (v := .int .i64 t) rfl rfl (by simp [go_sem, ht]) (hI.step hl hsz0 (by decide) 8 (by decide) hI.2.s8)
    | 9, _, hj =>
      obtain ⟨h0, ha⟩ := ready_of hj rfl hl
      have ht := get_of (show a.eval (.tmp 48) = .int .i64 t from hI.2.t8 (ha { on := 8, ground := .data } (by simp) rfl))
      exact op_value rfl rfl (by simp [go_sem, ht]) (hI.step hl hsz0 (by decide) 9 (by decide) (hI.2.s9 h0))
    | 10, _, hj =>
      obtain ⟨h0, ha⟩ := ready_of hj rfl hl
      have h7 := ha { on := 7, ground := .data } (by simp) rfl
      have h9 := ha { on := 9, ground := .data } (by simp) rfl
      obtain ⟨bs, e9, hbs⟩ := hI.2.t9 h9 h0
      exact append_one Try.underlying47 infoint64 rfl rfl rfl rfl (hI.2.t7 h7) HGB.out (hI.2.low h0) e9 hbs hlN hBB (fun v' w' hr => hI.step hl hsz0 (by decide) 10 (by decide) (hI.2.s10 h9 h7 h0 hr))
    | 11, _, hj =>
      obtain ⟨h0, ha⟩ := ready_of hj rfl hl
      have h10 := ha { on := 10, ground := .phase } (by simp) rfl
      have ht := get_of (show a.eval (.tmp 41) = .slice (some ⟨g1, 0, none⟩) nh z.c4 from hI.2.t1 (ha { on := 1, ground := .data } (by simp) rfl))
      have hu := get_of (show a.eval (.tmp 42) = .int .i64 k from hI.2.t2 (ha { on := 2, ground := .data } (by simp) rfl))
      exact op_value (v := .pointer (some ⟨g1, k, none⟩)) rfl rfl (by simp [go_sem, ht, hu, hk2]) (hI.step hl hsz0 (by decide) 11 (by decide) (hI.2.s11 h10))
    | 12, _, hj =>
      obtain ⟨h0, ha⟩ := ready_of hj rfl hl
      have q10 := ha { on := 10, ground := .data } (by simp) rfl
      have q11 := ha { on := 11, ground := .data } (by simp) rfl
      have ht := get_of (show a.eval (.tmp 51) = .pointer (some ⟨g1, k, none⟩) from hI.2.t11 q11)
      have hgr := hI.2.t10 q10 h0
      obtain ⟨gg, cap, x10, hro, hat⟩ := hgr.own
      have hv := get_of (show a.eval (.tmp 50) = _ from x10)
      have hc := hI.2.cell h0 HGB.out.at_ HGB.out.neG
      have hfr : w1.frozen? ⟨g1, k, none⟩ = false := (World.frozen?_of_block (hgr.only.block g1 (World.block_lt_of_cell? _ _ HGB.out.at_) HGB.out.neG)).trans HGB.out.free
      dsimp only at hc
      unfold wpOp
      simp [go_sem, ht, hv, Region.wanted, hc, hfr]
      refine .inl ⟨hI.1, ?_⟩
      rw [flags_set (by rw [hl]; decide)]
      exact hI.2.s12 q10 q11 (ha { on := 1, ground := .phase } (by simp) rfl) (ha { on := 4, ground := .phase } (by simp) rfl) h0 x10
    | n + 13, hlt4, _ => omega
  · intro l' a w1 hl hr hI
    have hall := ready_all (topo_of (by kernel_rfl)) hr
    have hf : ∀ j, j < 13 → flags l' j = true := fun j hj => by
      have h1 := hall j hj
      have h2 : j < l'.size := by rw [hl]; exact hj
      simpa [flags, Array.getD, h2] using h1
    obtain ⟨w2, hgr, hw1⟩ := hI.2.fin (hf 12 (by omega))
    have hform := hI.1.form (fun t ht => by unfold Lw at ht; simp at ht; omega)
    obtain ⟨gg, cap, x10, hro, hat⟩ := hgr.own
    have HGR := Lib.hid hgr; have HRO := Lib.hid hro; have HAT := Lib.hid hat
    have hx10 : a.eval (.tmp 50) = .slice (some ⟨gg, 0, none⟩) (r + 1) cap := x10
    simp only [Lw, List.foldl_cons, List.foldl_nil] at hform
    rw [hx10] at hform
    rw [show sh 40 (evals a) 10 = .slice (some ⟨gg, 0, none⟩) (r + 1) cap from x10] at hw1 HRO HGR
    generalize a.eval (.tmp 40) = u0 at hform
    generalize a.eval (.tmp (40 + 1)) = u1 at hform
    generalize a.eval (.tmp (40 + 2)) = u2 at hform
    generalize a.eval (.tmp (40 + 3)) = u3 at hform
    generalize a.eval (.tmp (40 + 4)) = u4 at hform
    generalize a.eval (.tmp (40 + 5)) = u5 at hform
    generalize a.eval (.tmp (40 + 6)) = u6 at hform
    generalize a.eval (.tmp (40 + 7)) = u7 at hform
    generalize a.eval (.tmp (40 + 8)) = u8 at hform
    generalize a.eval (.tmp (40 + 9)) = u9 at hform
    generalize a.eval (.tmp (40 + 11)) = u11 at hform
    clear hI hx10 x10 hro hat hgr hf hall hr eB eM eT hsz0
    subst hA
    simp only [Nat.reduceAdd, List.setIfInBounds_toArray, List.set_cons_succ, List.set_cons_zero] at hform
    subst hform
    have hbx : Blk w2 wc.heap.size 33 #[.slice z.o1 n z.c1, .slice z.o2 nc z.c2, .slice z.o3 nh z.c3, .slice (some ⟨g1, 0, none⟩) nh z.c4, .slice z.o5 nh z.c5] := HBX.out.only HGR.out.only hvne2
    have hbb : Blk w2 (w.heap.size + 1) 33 #[nilV, nilV, nilV, nilV, nilV] := (HC2.out.box.below HLB.out hsz).only HGR.out.only hvne3
    have hba : Blk w2 w.heap.size 33 (hdR y s) := (HC2.out.arg.below HLB.out HC2.out.arg.lt).only HGR.out.only hvne4
    have hro : ROut (w2.setCell ⟨g1, k, none⟩ (.slice (some ⟨gg, 0, none⟩) (r + 1) cap)) (w.heap.size + 2) z { s with chans := s.chans.set k { c with sent := c.sent ++ [t] } } := by
      have hlen : (c.sent ++ [t]).length = r + 1 := by rw [List.length_append, HR.out]; rfl
      have hlt : ((c.sent ++ [t]).map (Value.int .i64)) = c.sent.map (Value.int .i64) ++ [.int .i64 t] := by simp
      have := (HC2.out.own.below HLB.out).sent_grow hz1 (k := k) (cn := c) (l' := c.sent ++ [t]) (q := some ⟨gg, 0, none⟩) (c := cap) HCK.out HV.out (w1 := w2) (fun b h1 h2 => HGR.out.only.block b h1 (by rw [HR.out] at h2; exact h2)) (by rw [hlen, hlt]; exact HRO.out) (fun b hb => by
        obtain rfl : gg = b := by simpa [Value.ownBlock] using hb
        rw [HR.out]
        exact HAT.out) HGR.out.only.size
      rwa [hlen] at this
    have hbx3 := hbx.far (p := ⟨g1, k, none⟩) (by show wc.heap.size ≠ g1; omega) (.slice (some ⟨gg, 0, none⟩) (r + 1) cap)
    have hbb3 := hbb.far (p := ⟨g1, k, none⟩) (by show w.heap.size + 1 ≠ g1; omega) (.slice (some ⟨gg, 0, none⟩) (r + 1) cap)
    have hba3 := hba.far (p := ⟨g1, k, none⟩) (by show w.heap.size ≠ g1; omega) (.slice (some ⟨gg, 0, none⟩) (r + 1) cap)
    have hlow : Below w.heap.size w (w2.setCell ⟨g1, k, none⟩ (.slice (some ⟨gg, 0, none⟩) (r + 1) cap)) := by
      have h8 : Below w.heap.size w wB := HC2.out.low.trans (HLB.out.mono (by omega))
      have h9 := h8.trans (HGR.out.only.below (n := w.heap.size) h8.size (fun b hb => by have := (HGB.out.row.lt b hb).1; dsimp only at this; omega))
      exact h9.setCell (p := ⟨g1, k, none⟩) (by show w.heap.size ≤ g1; omega) _
    subst hw1
    generalize World.setCell _ _ _ = w3 at hro hbx3 hbb3 hba3 hlow ⊢
    obtain ⟨b0, b1, b2, b3, b4, -⟩ := Blk.five hbx3
    obtain ⟨y0, y1, y2, y3, y4, f0, f1, f2, f3, f4⟩ := Blk.five hbb3
    have r1 : w3.cell? ⟨w.heap.size, 3, none⟩ = some (.slice (some ⟨g4, o4, none⟩) nh y.c4) := by
      have := hba3.cell 3
      simpa [hdR, HY4.out, HNH.out] using this
    have r2 := HC4.out _ hlow
    have HRO3 := Lib.hid hro; have HBB3 := Lib.hid hbb3; have HLO3 := Lib.hid hlow
    have hsz3 := hbx3.lt
    have hne5 : w.heap.size + 1 ≠ wc.heap.size := by omega
    have hne6 : w.heap.size + 1 ≠ g4 := by omega
    clear hro hbb3 hlow hbx hbb hbx3 hba hba3 hl
    go_wp2_with fail
    go_region_held3 (fun W' => W'.cell? ⟨wc.heap.size, 0, none⟩ = some (.slice z.o1 n z.c1) ∧ W'.cell? ⟨wc.heap.size, 1, none⟩ = some (.slice z.o2 nc z.c2) ∧ W'.cell? ⟨wc.heap.size, 2, none⟩ = some (.slice z.o3 nh z.c3) ∧ W'.cell? ⟨wc.heap.size, 3, none⟩ = some (.slice (some ⟨g1, 0, none⟩) nh z.c4) ∧ W'.cell? ⟨wc.heap.size, 4, none⟩ = some (.slice z.o5 nh z.c5) ∧
        W'.cell? ⟨w.heap.size, 3, none⟩ = some (.slice (some ⟨g4, o4, none⟩) nh y.c4) ∧ W'.cell? ⟨g4, o4 + k, none⟩ = some (.slice q4 r c4))
      (go_keep)
      (fail)
    rename_i hHeld
    clear hHeld
    go_wp2_with fail
    refine bodyPost_ret (results_c2 rfl rfl (fill5_blk HBB3.out).drew) rfl ⟨z, ?_, (RNx.fin HRO3.out HLO3.out (.slice z.o1 n z.c1) (.slice z.o2 nc z.c2) (.slice z.o3 nh z.c3) (.slice (some ⟨g1, 0, none⟩) nh z.c4) (.slice z.o5 nh z.c5)).drew⟩
    rw [hz1]; rfl
end Go.Proofs.Ytdfjbgfdaokjgaa

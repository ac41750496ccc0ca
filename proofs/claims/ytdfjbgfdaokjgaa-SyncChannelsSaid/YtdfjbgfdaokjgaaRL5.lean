/-
  The reference's Wait.
-/
import Derived.Test.YtdfjbgfdaokjgaaRGrow
namespace Go.Proofs.Ytdfjbgfdaokjgaa
open Go.RowKit

set_option maxRecDepth 100000 in
set_option maxHeartbeats 1000000 in
theorem rwait_out (y : RLy) (s : SM) (w : World) (m t : Int) (ho : m < 0 ∨ (s.conds.length : Int) ≤ m) :
    Calls Try.prog 58 #[.agg (hdR y s), .int .i64 m, .int .i64 t] w fun e w' => e = .returned (.tuple #[.agg (hdR y s), .int .i64 4]) ∧ Below w.heap.size w w' := by
  obtain ⟨n, hn⟩ : ∃ n, s.owners.length = n := ⟨_, rfl⟩
  obtain ⟨nc, hnc⟩ : ∃ n, s.conds.length = n := ⟨_, rfl⟩
  obtain ⟨nh, hnh⟩ : ∃ n, s.chans.length = n := ⟨_, rfl⟩
  simp only [hdR, hn, hnc, hnh]
  rw [hnc] at ho
  clear hn hnc hnh
  go_enter Try.func58, Try.ntmps58
  rcases Decidable.em (m < 0) with h1 | h1
  · go_wp2_with fail
    exact bodyPost_ret (results_c1 rfl rfl (Blk.new' _ _ _ _ (by simp))) rfl ⟨rfl, below_two _ _ _⟩
  · have h2 : (nc : Int) ≤ m := by omega
    go_wp2_with fail
    exact bodyPost_ret (results_c1 rfl rfl (Blk.new' _ _ _ _ (by simp))) rfl ⟨rfl, below_two _ _ _⟩

set_option maxRecDepth 100000 in
set_option maxHeartbeats 1000000 in
theorem rwait_bad (y : RLy) (s : SM) (w : World) (m t : Int) (h1 : 0 ≤ m) (h2 : m < s.conds.length) (ht : inB 0 7 t = false) :
    Calls Try.prog 58 #[.agg (hdR y s), .int .i64 m, .int .i64 t] w fun e w' => e = .returned (.tuple #[.agg (hdR y s), .int .i64 2]) ∧ Below w.heap.size w w' := by
  obtain ⟨n, hn⟩ : ∃ n, s.owners.length = n := ⟨_, rfl⟩
  obtain ⟨nc, hnc⟩ : ∃ n, s.conds.length = n := ⟨_, rfl⟩
  obtain ⟨nh, hnh⟩ : ∃ n, s.chans.length = n := ⟨_, rfl⟩
  simp only [hdR, hn, hnc, hnh]
  rw [hnc] at h2
  clear hn hnc hnh
  go_enter Try.func58, Try.ntmps58
  have h3 : ¬ m < 0 := by omega
  have h4 : ¬ (nc : Int) ≤ m := by omega
  go_wp2_with fail
  refine (rthread_any t _).mono ?_
  rintro e w1 ⟨rfl, rfl⟩
  rw [ht]
  go_wp2_with fail
  exact bodyPost_ret (results_c1 rfl rfl (Blk.new' _ _ _ _ (by simp))) rfl ⟨rfl, below_two _ _ _⟩


/-- What Wait makes of it. -/
def waitR (s : SM) (k : Nat) (l : List Int) (t : Int) : SM × Int := if t ∈ s.conds.flatten then (s, 141) else ({ s with conds := s.conds.set k (l ++ [t]) }, 0)
def RWaitP (y : RLy) (s : SM) (k : Nat) (l : List Int) (t : Int) (w : World) (e : Ending) (w' : World) : Prop := ∃ z, e = .returned (.tuple #[.agg (hdR z (waitR s k l t).1), .int .i64 (waitR s k l t).2]) ∧ Below w.heap.size w w' ∧ ((z = y ∧ (waitR s k l t).1 = s) ∨ RNx w w' z (waitR s k l t).1)
theorem RWaitP.had {y : RLy} {s : SM} {k : Nat} {l : List Int} {t : Int} {w w' : World} (h : t ∈ s.conds.flatten) (hb : Below w.heap.size w w') : RWaitP y s k l t w (.returned (.tuple #[.agg (hdR y s), .int .i64 141])) w' := by
  unfold RWaitP waitR
  rw [if_pos h]
  exact ⟨y, rfl, hb, .inl ⟨rfl, rfl⟩⟩
theorem RWaitP.new {y : RLy} {s : SM} {k : Nat} {l : List Int} {t : Int} {w w' : World} {z : RLy} (h : ¬ t ∈ s.conds.flatten) (hR : RNx w w' z { s with conds := s.conds.set k (l ++ [t]) }) : RWaitP y s k l t w (.returned (.tuple #[.agg (hdR z { s with conds := s.conds.set k (l ++ [t]) }), .int .i64 0])) w' := by
  unfold RWaitP waitR
  rw [if_neg h]
  exact ⟨z, rfl, hR.low, .inr hR⟩

set_option maxRecDepth 100000 in
set_option maxHeartbeats 4000000 in
theorem rwait_in {N : Nat} (hN : N ≤ 1000000) (y : RLy) (s : SM) (w : World) (m t : Int) (h : RAt w y s) (hz : RSz N s) (h1 : 0 ≤ m) (h2 : m < s.conds.length) (ht : inB 0 7 t = true) {l : List Int} (ho : s.conds[m.toNat]? = some l) :
    Calls Try.prog 58 #[.agg (hdR y s), .int .i64 m, .int .i64 t] w (RWaitP y s m.toNat l t w) := by
  obtain ⟨k, rfl⟩ : ∃ k : Nat, m = k := ⟨m.toNat, by omega⟩
  have HCP := Lib.hid (copied hN y s w h hz)
  have HOO := Lib.hid (show s.conds[k]? = some l by simpa using ho)
  have HH := Lib.hid h
  have HZ := Lib.hid hz
  obtain ⟨g, off, hy⟩ := h.conds.1 (by omega)
  obtain ⟨n, hn⟩ : ∃ n, s.owners.length = n := ⟨_, rfl⟩
  obtain ⟨nc, hnc⟩ : ∃ n, s.conds.length = n := ⟨_, rfl⟩
  obtain ⟨nh, hnh⟩ : ∃ n, s.chans.length = n := ⟨_, rfl⟩
  have HN := Lib.hid hn; have HNC := Lib.hid hnc; have HNH := Lib.hid hnh
  have hnc64 : nc ≤ 64 := by rw [← hnc]; exact hz.nc
  simp only [hdR, hn, hnc, hnh, hy] at HCP
  rw [show (.agg (hdR y s) : Value) = .agg #[.slice y.o1 n y.c1, .slice (some ⟨g, off, none⟩) nc y.c2, .slice y.o3 nh y.c3, .slice y.o4 nh y.c4, .slice y.o5 nh y.c5] by simp only [hdR, hn, hnc, hnh, hy]]
  rw [hnc] at h2
  clear hn hnc hnh h ho hz
  go_enter Try.func58, Try.ntmps58
  have h3 : ¬ (k : Int) < 0 := by omega
  have h4 : ¬ (nc : Int) ≤ k := by omega
  have h5 : ¬ nc ≤ k := by omega
  go_wp2_with fail
  refine (rthread_any t _).mono ?_
  rintro e w1 ⟨rfl, rfl⟩
  rw [ht]
  have ha := (Blk.new w 33 #[.slice y.o1 n y.c1, .slice (some ⟨g, off, none⟩) nc y.c2, .slice y.o3 nh y.c3, .slice y.o4 nh y.c4, .slice y.o5 nh y.c5]).alloc (.cells #[nilV, nilV, nilV, nilV, nilV] 33)
  have hb := Blk.new' (w.alloc (.cells #[.slice y.o1 n y.c1, .slice (some ⟨g, off, none⟩) nc y.c2, .slice y.o3 nh y.c3, .slice y.o4 nh y.c4, .slice y.o5 nh y.c5] 33)) 33 #[nilV, nilV, nilV, nilV, nilV] (w.heap.size + 1) (by simp)
  have hl := below_two w (.cells #[.slice y.o1 n y.c1, .slice (some ⟨g, off, none⟩) nc y.c2, .slice y.o3 nh y.c3, .slice y.o4 nh y.c4, .slice y.o5 nh y.c5] 33) (.cells #[nilV, nilV, nilV, nilV, nilV] 33)
  go_wp2_with fail
  generalize World.alloc (World.alloc _ _) _ = w2 at ha hb hl HCP ⊢
  obtain ⟨a0, a1, a2, a3, a4, -⟩ := Blk.five ha
  obtain ⟨y0, y1, y2, y3, y4, f0, f1, f2, f3, f4⟩ := Blk.five hb
  have HL := Lib.hid hl; have HB := Lib.hid hb
  clear ha hb hl
  go_loopw [8] (fun v wr => ∃ i : Nat, i ≤ nc ∧ v = .int .i64 i ∧ wr = w2 ∧ Hid (∀ j lj, j < i → s.conds[j]? = some lj → t ∉ lj)) (fun i _ => nc - (intOf i).toNat)
  case atStart => exact ⟨0, by omega, rfl, rfl, Lib.hid (fun j lj h => by omega)⟩
  case round =>
    obtain ⟨i, hi, rfl, rfl, HI⟩ := hrel
    by_cases hlt : i < nc
    · obtain ⟨li, hli⟩ : ∃ li, s.conds[i]? = some li := ⟨_, List.getElem?_eq_getElem (by rw [HNC.out]; exact hlt)⟩
      obtain ⟨g', off', q, c, hy', -, hq, hC⟩ := HH.out.conds.at_ hli
      rw [hy] at hy'
      injection hy' with hy'
      injection hy' with e1 e2
      subst e1; subst e2
      have hlen : li.length ≤ 1000000 := Nat.le_trans (HZ.out.lc li (List.mem_of_getElem? hli)) hN
      have hci := hC _ HL.out
      have HQ := Lib.hid (hq.below HL.out)
      obtain ⟨ni, hni⟩ : ∃ n, li.length = n := ⟨_, rfl⟩
      rw [hni] at hci hlen
      have HLI := Lib.hid hli; have HNI := Lib.hid hni
      clear hli hq hC hni
      go_wp2_with fail
      obtain ⟨wo, rfl⟩ : ∃ wo : World, wo = wr := ⟨_, rfl⟩
      go_loopw [9] (fun v wr => ∃ j : Nat, j ≤ ni ∧ v = .int .i64 j ∧ wr = wo ∧ Hid (t ∉ li.take j)) (fun j _ => ni - (intOf j).toNat)
      case atStart => exact ⟨0, by omega, rfl, rfl, Lib.hid (by simp)⟩
      case round =>
        obtain ⟨j, hj, rfl, rfl, HJ⟩ := hrel
        by_cases hlj : j < ni
        · obtain ⟨x, hx⟩ : ∃ x, li[j]? = some x := ⟨_, List.getElem?_eq_getElem (by rw [HNI.out]; exact hlj)⟩
          obtain ⟨gq, oq, rfl⟩ := HQ.out.1 (by rw [HNI.out]; omega)
          have hcx := HQ.out.2 gq oq rfl j x hx
          have HX := Lib.hid hx
          clear hx
          by_cases hxt : x = t
          · have e1 : (x == t) = true := beq_iff_eq.2 hxt
            have HXT := Lib.hid hxt
            clear hxt
            go_wp2_with fail
            refine bodyPost_ret (results_c1 rfl rfl (fill5_blk HB.out)) rfl ?_
            have hfin := HL.out.trans ((fill5_only wr (w.heap.size + 1) (.slice y.o1 n y.c1) (.slice (some ⟨g, off, none⟩) nc y.c2) (.slice y.o3 nh y.c3) (.slice y.o4 nh y.c4) (.slice y.o5 nh y.c5)).below HL.out.size (fun k hk => by omega))
            have := RWaitP.had (y := y) (k := k) (l := l) (List.mem_flatten.2 ⟨li, List.mem_of_getElem? HLI.out, HXT.out ▸ List.mem_of_getElem? HX.out⟩) hfin
            simp only [hdR, HN.out, HNC.out, HNH.out, hy] at this
            exact this
          · have e1 : (x == t) = false := by rw [beq_eq_false_iff_ne]; exact hxt
            have HXT := Lib.hid hxt
            clear hxt
            go_wp2_with fail
            go_roundw
            case rel => exact ⟨j + 1, by omega, by go_num, trivial, Lib.hid (by
              rw [List.take_add_one, HX.out]
              intro hm
              rcases List.mem_append.1 hm with hm | hm
              · exact HJ.out hm
              · simp at hm; exact HXT.out hm.symm)⟩
            case measure => simp [intOf]; omega
        · obtain rfl : j = ni := by omega
          go_wp2_with fail
          go_roundw
          case rel => exact ⟨i + 1, by omega, by go_num, trivial, Lib.hid (fun j' lj hj' hlj' => by
            by_cases e : j' = i
            · subst e
              have := HLI.out
              rw [hlj'] at this
              injection this with this
              subst this
              have h9 := HJ.out
              rwa [← HNI.out, List.take_length] at h9
            · exact HI.out j' lj (by omega) hlj')⟩
          case measure => simp [intOf]; omega
    · obtain rfl : i = nc := by omega
      have hnot : ¬ t ∈ s.conds.flatten := by
        intro hm
        obtain ⟨li, h1, h2⟩ := List.mem_flatten.1 hm
        obtain ⟨j, hj⟩ := List.getElem?_of_mem h1
        exact HI.out j li (by have := (List.getElem?_eq_some_iff.1 hj).1; rw [HNC.out] at this; exact this) hj h2
      have HNOT := Lib.hid hnot
      clear hnot HI
      obtain ⟨i0, hi0, hz0, hz1', hz2⟩ := info_parts infoint
      go_wp2_with fail
      refine HCP.out.mono ?_
      rintro e wc ⟨z, cv, cw, rfl, hC⟩
      obtain ⟨g1, v, hz1, hlt1, hlt2, hv, d0, d1, hown⟩ := hC.own.cond_cells HOO.out
      have HC2 := Lib.hid hC
      have hsz := hC.box.lt
      have hlN : l.length ≤ 1000000 := Nat.le_trans (HZ.out.lc l (List.mem_of_getElem? HOO.out)) hN
      have HV := Lib.hid hv
      have hbx := (Blk.new wc 33 #[.slice z.o1 n z.c1, .slice (some ⟨g1, 0, none⟩) i z.c2, .slice z.o3 nh z.c3, .slice z.o4 nh z.c4, .slice z.o5 nh z.c5])
      have hLB : Below wc.heap.size wc (wc.alloc (.cells #[.slice z.o1 n z.c1, .slice (some ⟨g1, 0, none⟩) i z.c2, .slice z.o3 nh z.c3, .slice z.o4 nh z.c4, .slice z.o5 nh z.c5] 33)) := (Below.refl _ _).alloc (Nat.le_refl _) _
      obtain ⟨ov, cvv, rfl, -⟩ := row_shape hown
      obtain ⟨r, hr⟩ : ∃ r, l.length = r := ⟨_, rfl⟩
      have HR := Lib.hid hr
      have hvne : (Value.slice ov l.length cvv).ownBlock ≠ some g1 := fun e => ownsRow_kind (hC.own.headC) hown (by show 22 ≠ 3; decide) (g := g1) (by simp [hz1, Value.ownBlock]) e
      rw [hr] at hown hvne d0 hlN
      have hvne2 : (Value.slice ov r cvv).ownBlock ≠ some wc.heap.size := fun e => by have := (hown.lt _ e).2; omega
      have hvne3 : (Value.slice ov r cvv).ownBlock ≠ some (w.heap.size + 1) := fun e => by have := (hown.lt _ e).1; omega
      clear hC hv hr
      rw [hz1]
      go_wp2_with fail
      generalize World.alloc _ _ = wB at hbx hLB ⊢
      have hownB : wB.ownsRow (w.heap.size + 2) 3 1 (.slice ov r cvv) r (l.map (Value.int .i64)) := ownsRow_block hown (fun b hb => hLB.block b (hown.lt b hb).2)
      have b1 := hbx.cell 1
      have d0' : wB.cell? ⟨g1, k, none⟩ = some (.slice ov r cvv) := (hLB.cell (p := ⟨g1, k, none⟩) hlt2).trans d0
      have d1' : wB.frozen? ⟨g1, k, none⟩ = false := (World.frozen?_of_block (hLB.block g1 hlt2)).trans d1
      have hGb : Gb ⟨3, wB, w.heap.size + 2, wc.heap.size, 1, g1, i, z.c2, k, .slice ov r cvv, r, l.map (Value.int .i64), t⟩ := ⟨b1, d0', d1', hownB, hvne2, hvne⟩
      have HGB := Lib.hid hGb
      have HLB := Lib.hid hLB; have HBX := Lib.hid hbx
      have hBB : w.heap.size + 2 ≤ wB.heap.size := by have := hLB.size; omega
      clear d0 d1 hown b1 d0' d1' hownB hGb hLB hbx
      generalize hA : Act.mk _ _ = a0
      have hsz0 : 55 + 12 ≤ a0.tmps.size := by subst hA; exact (by decide : 55 + 12 ≤ 68)
      have eB : a0.eval (.tmp 10) = .pointer (some ⟨wc.heap.size, 0, none⟩) := by subst hA; rfl
      have eM : a0.eval (.tmp 1) = .int .i64 k := by subst hA; rfl
      have eT : a0.eval (.tmp 2) = .int .i64 t := by subst hA; rfl
      have hk2 : ¬ i ≤ k := by omega
      refine region_inv (by kernel_rfl) (GInv ⟨3, wB, w.heap.size + 2, wc.heap.size, 1, g1, i, z.c2, k, .slice ov r cvv, r, l.map (Value.int .i64), t⟩ 55 a0) ?_ ?_ ?_
      · exact ⟨Fr.refl _ _, GI.start (fun j => flags_none _ j)⟩
      · intro l' a w1 j hl hj hI
        have hlt13 : j < 13 := by
          obtain ⟨_, o, hoi, _⟩ := mem_ready.1 hj
          exact (Array.getElem?_eq_some_iff.1 hoi).1
        match j, hlt13, hj with
        | 0, _, hj =>
          have ht := get_of ((hI.1.eval (t := 10) (by decide)).trans eB)
          exact op_value (v := .pointer (some ⟨wc.heap.size, 1, none⟩)) rfl rfl (by simp [go_sem, ht, Addr.add]) (hI.step hl hsz0 (by decide) 0 (by decide) hI.2.s0)
        | 1, _, hj =>
          obtain ⟨h0, ha⟩ := ready_of hj rfl hl
          have ht := get_of (show a.eval (.tmp 55) = .pointer (some ⟨wc.heap.size, 1, none⟩) from hI.2.t0 (ha { on := 0, ground := .data } (by simp) rfl))
          have h12 : flags l' 12 = false := by
            cases hc : flags l' 12 with
            | false => rfl
            | true => rw [hI.2.p1 hc] at h0; cases h0
          have hc := hI.2.cell h12 HGB.out.box HGB.out.neB
          exact op_value (v := .slice (some ⟨g1, 0, none⟩) i z.c2) rfl rfl (by simp [go_sem, ht, hc]) (hI.step hl hsz0 (by decide) 1 (by decide) hI.2.s1)
        | 2, _, hj =>
          have ht := get_of ((hI.1.eval (t := 1) (by decide)).trans eM)
          exact op_value (v := .int .i64 k) rfl rfl (by simp [go_sem, ht]) (hI.step hl hsz0 (by decide) 2 (by decide) hI.2.s2)
        | 3, _, hj =>
          have ht := get_of ((hI.1.eval (t := 10) (by decide)).trans eB)
          exact op_value (v := .pointer (some ⟨wc.heap.size, 1, none⟩)) rfl rfl (by simp [go_sem, ht, Addr.add]) (hI.step hl hsz0 (by decide) 3 (by decide) hI.2.s3)
        | 4, _, hj =>
          obtain ⟨h0, ha⟩ := ready_of hj rfl hl
          have ht := get_of (show a.eval (.tmp 58) = .pointer (some ⟨wc.heap.size, 1, none⟩) from hI.2.t3 (ha { on := 3, ground := .data } (by simp) rfl))
          have h12 : flags l' 12 = false := by
            cases hc : flags l' 12 with
            | false => rfl
            | true => rw [hI.2.p4 hc] at h0; cases h0
          have hc := hI.2.cell h12 HGB.out.box HGB.out.neB
          exact op_value (v := .slice (some ⟨g1, 0, none⟩) i z.c2) rfl rfl (by simp [go_sem, ht, hc]) (hI.step hl hsz0 (by decide) 4 (by decide) hI.2.s4)
        | 5, _, hj =>
          have ht := get_of ((hI.1.eval (t := 1) (by decide)).trans eM)
          exact op_value (v := .int .i64 k) rfl rfl (by simp [go_sem, ht]) (hI.step hl hsz0 (by decide) 5 (by decide) hI.2.s5)
        | 6, _, hj =>
          obtain ⟨h0, ha⟩ := ready_of hj rfl hl
          have ht := get_of (show a.eval (.tmp 59) = .slice (some ⟨g1, 0, none⟩) i z.c2 from hI.2.t4 (ha { on := 4, ground := .data } (by simp) rfl))
          have hu := get_of (show a.eval (.tmp 60) = .int .i64 k from hI.2.t5 (ha { on := 5, ground := .data } (by simp) rfl))
          exact op_value (v := .pointer (some ⟨g1, k, none⟩)) rfl rfl (by simp [go_sem, ht, hu, hk2]) (hI.step hl hsz0 (by decide) 6 (by decide) hI.2.s6)
        | 7, _, hj =>
          obtain ⟨h0, ha⟩ := ready_of hj rfl hl
          have ht := get_of (show a.eval (.tmp 61) = .pointer (some ⟨g1, k, none⟩) from hI.2.t6 (ha { on := 6, ground := .data } (by simp) rfl))
          have h10 : flags l' 10 = false := by
            cases hc : flags l' 10 with
            | false => rfl
            | true => rw [hI.2.p7 hc] at h0; cases h0
          have h12 : flags l' 12 = false := by
            cases hc : flags l' 12 with
            | false => rfl
            | true => rw [hI.2.p11 (hI.2.p12 hc)] at h10; cases h10
          have hc := hI.2.cell h12 HGB.out.at_ HGB.out.neG
          dsimp only at hc
          exact op_value (v := .slice ov r cvv) rfl rfl (by simp [go_sem, ht, hc]) (hI.step hl hsz0 (by decide) 7 (by decide) hI.2.s7)
        | 8, _, hj =>
          have ht := get_of ((hI.1.eval (t := 2) (by decide)).trans eT)
          exact op_value (v := .int .i64 t) rfl rfl (by simp [go_sem, ht]) (hI.step hl hsz0 (by decide) 8 (by decide) hI.2.s8)
        | 9, _, hj =>
          obtain ⟨h0, ha⟩ := ready_of hj rfl hl
          have ht := get_of (show a.eval (.tmp 63) = .int .i64 t from hI.2.t8 (ha { on := 8, ground := .data } (by simp) rfl))
          exact op_value rfl rfl (by simp [go_sem, ht]) (hI.step hl hsz0 (by decide) 9 (by decide) (hI.2.s9 h0))
        | 10, _, hj =>
          obtain ⟨h0, ha⟩ := ready_of hj rfl hl
          have h7 := ha { on := 7, ground := .data } (by simp) rfl
          have h9 := ha { on := 9, ground := .data } (by simp) rfl
          obtain ⟨bs, e9, hbs⟩ := hI.2.t9 h9 h0
          exact append_one Try.underlying22 infoint rfl rfl rfl rfl (hI.2.t7 h7) HGB.out (hI.2.low h0) e9 hbs hlN hBB (fun v' w' hr => hI.step hl hsz0 (by decide) 10 (by decide) (hI.2.s10 h9 h7 h0 hr))
        | 11, _, hj =>
          obtain ⟨h0, ha⟩ := ready_of hj rfl hl
          have h10 := ha { on := 10, ground := .phase } (by simp) rfl
          have ht := get_of (show a.eval (.tmp 56) = .slice (some ⟨g1, 0, none⟩) i z.c2 from hI.2.t1 (ha { on := 1, ground := .data } (by simp) rfl))
          have hu := get_of (show a.eval (.tmp 57) = .int .i64 k from hI.2.t2 (ha { on := 2, ground := .data } (by simp) rfl))
          exact op_value (v := .pointer (some ⟨g1, k, none⟩)) rfl rfl (by simp [go_sem, ht, hu, hk2]) (hI.step hl hsz0 (by decide) 11 (by decide) (hI.2.s11 h10))
        | 12, _, hj =>
          obtain ⟨h0, ha⟩ := ready_of hj rfl hl
          have q10 := ha { on := 10, ground := .data } (by simp) rfl
          have q11 := ha { on := 11, ground := .data } (by simp) rfl
          have ht := get_of (show a.eval (.tmp 66) = .pointer (some ⟨g1, k, none⟩) from hI.2.t11 q11)
          have hgr := hI.2.t10 q10 h0
          obtain ⟨gg, cap, x10, hro, hat⟩ := hgr.own
          have hv := get_of (show a.eval (.tmp 65) = _ from x10)
          have hc := hI.2.cell h0 HGB.out.at_ HGB.out.neG
          have hfr : w1.frozen? ⟨g1, k, none⟩ = false := (World.frozen?_of_block (hgr.only.block g1 (World.block_lt_of_cell? _ _ HGB.out.at_) HGB.out.neG)).trans HGB.out.free
          dsimp only at hc
          unfold wpOp
          simp [go_sem, ht, hv, Region.wanted, hc, hfr]
          refine .inl ⟨hI.1, ?_⟩
          rw [flags_set (by rw [hl]; decide)]
          exact hI.2.s12 q10 q11 (ha { on := 1, ground := .phase } (by simp) rfl) (ha { on := 4, ground := .phase } (by simp) rfl) h0 x10
        | n + 13, hlt4, _ => omega
      · intro l' a w1 hl hr hI
        have hall := ready_all (topo_of (by kernel_rfl)) hr
        have hf : ∀ j, j < 13 → flags l' j = true := fun j hj => by
          have h1 := hall j hj
          have h2 : j < l'.size := by rw [hl]; exact hj
          simpa [flags, Array.getD, h2] using h1
        obtain ⟨w2, hgr, hw1⟩ := hI.2.fin (hf 12 (by omega))
        have hform := hI.1.form (fun t ht => by unfold Lw at ht; simp at ht; omega)
        obtain ⟨gg, cap, x10, hro, hat⟩ := hgr.own
        have HGR := Lib.hid hgr; have HRO := Lib.hid hro; have HAT := Lib.hid hat
        have hx10 : a.eval (.tmp 65) = .slice (some ⟨gg, 0, none⟩) (r + 1) cap := x10
        simp only [Lw, List.foldl_cons, List.foldl_nil] at hform
        rw [hx10] at hform
        rw [show sh 55 (evals a) 10 = .slice (some ⟨gg, 0, none⟩) (r + 1) cap from x10] at hw1 HRO HGR
        generalize a.eval (.tmp 55) = u0 at hform
        generalize a.eval (.tmp (55 + 1)) = u1 at hform
        generalize a.eval (.tmp (55 + 2)) = u2 at hform
        generalize a.eval (.tmp (55 + 3)) = u3 at hform
        generalize a.eval (.tmp (55 + 4)) = u4 at hform
        generalize a.eval (.tmp (55 + 5)) = u5 at hform
        generalize a.eval (.tmp (55 + 6)) = u6 at hform
        generalize a.eval (.tmp (55 + 7)) = u7 at hform
        generalize a.eval (.tmp (55 + 8)) = u8 at hform
        generalize a.eval (.tmp (55 + 9)) = u9 at hform
        generalize a.eval (.tmp (55 + 11)) = u11 at hform
        clear hI hx10 x10 hro hat hgr hf hall hr eB eM eT hsz0
        subst hA
        simp only [Nat.reduceAdd, List.setIfInBounds_toArray, List.set_cons_succ, List.set_cons_zero] at hform
        subst hform
        have hbx : Blk w2 wc.heap.size 33 #[.slice z.o1 n z.c1, .slice (some ⟨g1, 0, none⟩) i z.c2, .slice z.o3 nh z.c3, .slice z.o4 nh z.c4, .slice z.o5 nh z.c5] := HBX.out.only HGR.out.only hvne2
        have hbb : Blk w2 (w.heap.size + 1) 33 #[nilV, nilV, nilV, nilV, nilV] := (HC2.out.box.below HLB.out hsz).only HGR.out.only hvne3
        have hro : ROut (w2.setCell ⟨g1, k, none⟩ (.slice (some ⟨gg, 0, none⟩) (r + 1) cap)) (w.heap.size + 2) z { s with conds := s.conds.set k (l ++ [t]) } := by
          have hlen : (l ++ [t]).length = r + 1 := by rw [List.length_append, HR.out]; rfl
          have hlt : ((l ++ [t]).map (Value.int .i64)) = l.map (Value.int .i64) ++ [.int .i64 t] := by simp
          have := (HC2.out.own.below HLB.out).cond_grow hz1 (k := k) (l := l) (l' := l ++ [t]) (q := some ⟨gg, 0, none⟩) (c := cap) HOO.out HV.out (w1 := w2) (fun b h1 h2 => HGR.out.only.block b h1 (by rw [HR.out] at h2; exact h2)) HGR.out.only.size (by rw [hlen, hlt]; exact HRO.out) (fun b hb => by
            obtain rfl : gg = b := by simpa [Value.ownBlock] using hb
            rw [HR.out]
            exact HAT.out)
          rwa [hlen] at this
        have hbx3 := hbx.far (p := ⟨g1, k, none⟩) (by show wc.heap.size ≠ g1; omega) (.slice (some ⟨gg, 0, none⟩) (r + 1) cap)
        have hbb3 := hbb.far (p := ⟨g1, k, none⟩) (by show w.heap.size + 1 ≠ g1; omega) (.slice (some ⟨gg, 0, none⟩) (r + 1) cap)
        have hlow : Below w.heap.size w (w2.setCell ⟨g1, k, none⟩ (.slice (some ⟨gg, 0, none⟩) (r + 1) cap)) := by
          have h8 : Below w.heap.size w wB := HC2.out.low.trans (HLB.out.mono (by omega))
          have h9 := h8.trans (HGR.out.only.below (n := w.heap.size) h8.size (fun b hb => by have := (HGB.out.row.lt b hb).1; dsimp only at this; omega))
          exact h9.setCell (p := ⟨g1, k, none⟩) (by show w.heap.size ≤ g1; omega) _
        subst hw1
        generalize World.setCell _ _ _ = w3 at hro hbx3 hbb3 hlow ⊢
        obtain ⟨b0, b1, b2, b3, b4, -⟩ := Blk.five hbx3
        obtain ⟨y0, y1, y2, y3, y4, f0, f1, f2, f3, f4⟩ := Blk.five hbb3
        have HRO3 := Lib.hid hro; have HBB3 := Lib.hid hbb3; have HLO3 := Lib.hid hlow
        have hsz3 := hbx3.lt
        have hne5 : w.heap.size + 1 ≠ wc.heap.size := by omega
        clear hro hbb3 hlow hbx hbb hbx3
        go_wp2_with fail
        refine bodyPost_ret (results_c1 rfl rfl (fill5_blk HBB3.out)) rfl ?_
        have hfin := RWaitP.new (y := y) HNOT.out (RNx.fin HRO3.out HLO3.out (.slice z.o1 n z.c1) (.slice (some ⟨g1, 0, none⟩) i z.c2) (.slice z.o3 nh z.c3) (.slice z.o4 nh z.c4) (.slice z.o5 nh z.c5))
        simp only [hdR, List.length_set, HN.out, HNC.out, HNH.out, hz1] at hfin
        exact hfin

theorem RWait_any {N : Nat} (hN : N ≤ 1000000) (y : RLy) (s : SM) (w : World) (m t : Int) {F : Nat → Prop} (hF : ∀ b, F b → b < w.heap.size) (h : RSt F w y s) (hz : Sz N s) :
    Calls Try.prog 58 #[.agg (hdR y s), .int .i64 m, .int .i64 t] w fun e w' => ∃ z, e = .returned (.tuple #[.agg (hdR z (waitS s m t).1), .int .i64 (waitS s m t).2]) ∧ RSt F w' z (waitS s m t).1 ∧ Below w.heap.size w w' := by
  cases ho : at_ s.conds m with
  | none => simp only [waitS, ho]; exact (rwait_out y s w m t (at_none ho)).mono fun e w' ⟨h1, h2⟩ => ⟨y, h1, h.below h2, h2⟩
  | some l =>
    obtain ⟨h1, h2, h3⟩ := at_some ho
    cases ht : inB 0 7 t with
    | false => simp only [waitS, ho, ht, if_true]; exact (rwait_bad y s w m t h1 h2 ht).mono fun e w' ⟨h1, h2⟩ => ⟨y, h1, h.below h2, h2⟩
    | true =>
      refine (rwait_in hN y s w m t h.reads hz.ref h1 h2 ht h3).mono fun e w' ⟨z, h1, h2, h4⟩ => ⟨z, ?_⟩
      have e : waitS s m t = waitR s m.toNat l t := by simp [waitS, waitR, ho, ht]
      rw [e]
      refine ⟨h1, ?_, h2⟩
      rcases h4 with ⟨rfl, h4⟩ | h4
      · rw [h4]; exact h.below h2
      · exact h4.st hF
end Go.Proofs.Ytdfjbgfdaokjgaa

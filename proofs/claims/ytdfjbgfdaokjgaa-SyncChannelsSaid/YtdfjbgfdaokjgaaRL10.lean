/-
  The reference's Recv.
-/
import Derived.Test.YtdfjbgfdaokjgaaRL9
namespace Go.Proofs.Ytdfjbgfdaokjgaa
open Go.RowKit

set_option maxRecDepth 100000 in
set_option maxHeartbeats 1000000 in
theorem rrecv_out (y : RLy) (s : SM) (w : World) (m : Int) (ho : m < 0 ∨ (s.chans.length : Int) ≤ m) :
    Calls Try.prog 62 #[.agg (hdR y s), .int .i64 m] w fun e w' => e = .returned (.tuple #[.agg (hdR y s), .int .i64 0, .int .i64 (-1), .int .i64 4]) ∧ Below w.heap.size w w' := by
  obtain ⟨n, hn⟩ : ∃ n, s.owners.length = n := ⟨_, rfl⟩
  obtain ⟨nc, hnc⟩ : ∃ n, s.conds.length = n := ⟨_, rfl⟩
  obtain ⟨nh, hnh⟩ : ∃ n, s.chans.length = n := ⟨_, rfl⟩
  simp only [hdR, hn, hnc, hnh]
  rw [hnh] at ho
  clear hn hnc hnh
  go_enter Try.func62, Try.ntmps62
  rcases Decidable.em (m < 0) with h1 | h1
  · go_wp2_with fail
    exact bodyPost_ret (results_c3 rfl rfl (Blk.new' _ _ _ _ (by simp))) rfl ⟨rfl, below_two _ _ _⟩
  · have h2 : (nh : Int) ≤ m := by omega
    go_wp2_with fail
    exact bodyPost_ret (results_c3 rfl rfl (Blk.new' _ _ _ _ (by simp))) rfl ⟨rfl, below_two _ _ _⟩


set_option maxRecDepth 100000 in
set_option maxHeartbeats 2000000 in
theorem rrecv_no (y : RLy) (s : SM) (w : World) (m : Int) (h : RAt w y s) (h1 : 0 ≤ m) (h2 : m < s.chans.length) {c : Cn} (ho : s.chans[m.toNat]? = some c) (htk : c.taken ≤ c.sent.length) (hm : c.sent.length ≤ 1000000) (hf : c.rest = []) :
    Calls Try.prog 62 #[.agg (hdR y s), .int .i64 m] w fun e w' => e = .returned (.tuple #[.agg (hdR y s), .int .i64 0, .int .i64 (-1), .int .i64 0]) ∧ Below w.heap.size w w' := by
  have HVL := Lib.hid (fun W (hb : Below w.heap.size w W) => RValues_any y s W m (h.below hb) h1 h2 ho htk hm)
  obtain ⟨k, rfl⟩ : ∃ k : Nat, m = k := ⟨m.toNat, by omega⟩
  have hck : s.chans[k]? = some c := by simpa using ho
  obtain ⟨rl, hrl⟩ : ∃ r, c.rest.length = r := ⟨_, rfl⟩
  obtain rfl : rl = 0 := by rw [← hrl, hf]; rfl
  rw [hrl] at HVL
  obtain ⟨n, hn⟩ : ∃ n, s.owners.length = n := ⟨_, rfl⟩
  obtain ⟨nc, hnc⟩ : ∃ n, s.conds.length = n := ⟨_, rfl⟩
  obtain ⟨nh, hnh⟩ : ∃ n, s.chans.length = n := ⟨_, rfl⟩
  have HN := Lib.hid hn; have HNC := Lib.hid hnc; have HNH := Lib.hid hnh
  simp only [hdR, hn, hnc, hnh] at HVL ⊢
  rw [hnh] at h2
  clear hn hnc hnh h ho hck htk hm hrl hf HN HNC HNH
  go_enter Try.func62, Try.ntmps62
  have h3 : ¬ (k : Int) < 0 := by omega
  have h4 : ¬ (nh : Int) ≤ k := by omega
  have h5 : ¬ nh ≤ k := by omega
  have ha := (Blk.new w 33 #[.slice y.o1 n y.c1, .slice y.o2 nc y.c2, .slice y.o3 nh y.c3, .slice y.o4 nh y.c4, .slice y.o5 nh y.c5]).alloc (.cells #[nilV, nilV, nilV, nilV, nilV] 33)
  have hb := Blk.new' (w.alloc (.cells #[.slice y.o1 n y.c1, .slice y.o2 nc y.c2, .slice y.o3 nh y.c3, .slice y.o4 nh y.c4, .slice y.o5 nh y.c5] 33)) 33 #[nilV, nilV, nilV, nilV, nilV] (w.heap.size + 1) (by simp)
  have hl := below_two w (.cells #[.slice y.o1 n y.c1, .slice y.o2 nc y.c2, .slice y.o3 nh y.c3, .slice y.o4 nh y.c4, .slice y.o5 nh y.c5] 33) (.cells #[nilV, nilV, nilV, nilV, nilV] 33)
  go_wp2_with fail
  generalize World.alloc (World.alloc _ _) _ = w2 at ha hb hl ⊢
  refine (HVL.out w2 hl).mono ?_
  rintro e w1 ⟨q, cap, rfl, -, hbx⟩
  have hba := ha.below hbx ha.lt
  have hbb := hb.below hbx hb.lt
  have hll := hl.trans (hbx.mono hl.size)
  have HA1 := Lib.hid hba; have HB1 := Lib.hid hbb; have HL1 := Lib.hid hll
  obtain ⟨a0, a1, a2, a3, a4, -⟩ := Blk.five hba
  have hs1 := hbb.lt
  clear ha hb hl hbx hba hll HVL
  obtain ⟨y0, y1, y2, y3, y4, f0, f1, f2, f3, f4⟩ := Blk.five hbb
  clear hbb
  go_wp2_with fail
  exact bodyPost_ret (results_c3 rfl rfl (fill5_blk HB1.out)) rfl ⟨rfl, HL1.out.trans ((fill5_only w1 (w.heap.size + 1) (.slice y.o1 n y.c1) (.slice y.o2 nc y.c2) (.slice y.o3 nh y.c3) (.slice y.o4 nh y.c4) (.slice y.o5 nh y.c5)).below HL1.out.size (fun k hk => by omega))⟩

set_option maxRecDepth 100000 in
set_option maxHeartbeats 4000000 in
theorem rrecv_yes {N : Nat} (hN : N ≤ 1000000) (y : RLy) (s : SM) (w : World) (m : Int) (h : RAt w y s) (h1 : 0 ≤ m) (h2 : m < s.chans.length) {c : Cn} (ho : s.chans[m.toNat]? = some c) (htk : c.taken ≤ c.sent.length) (hm : c.sent.length ≤ 1000000) (hz : RSz N s) {x : Int} {r : List Int} (hf : c.rest = x :: r) :
    Calls Try.prog 62 #[.agg (hdR y s), .int .i64 m] w fun e w' => ∃ z, e = .returned (.tuple #[.agg (hdR z { s with chans := s.chans.set m.toNat { c with taken := c.taken + 1 } }), .int .i64 x, .int .i64 (c.taken : Nat), .int .i64 0]) ∧ RNx w w' z { s with chans := s.chans.set m.toNat { c with taken := c.taken + 1 } } := by
  have HVL := Lib.hid (fun W (hb : Below w.heap.size w W) => RValues_any y s W m (h.below hb) h1 h2 ho htk hm)
  obtain ⟨k, rfl⟩ : ∃ k : Nat, m = k := ⟨m.toNat, by omega⟩
  have hck : s.chans[k]? = some c := by simpa using ho
  have HCP := Lib.hid (fun W hl hbox harg => copied_at hN y s w W h hz hl hbox harg)
  have HCK := Lib.hid hck
  obtain ⟨g4, o4, q4, c4, hy4, -, hq4, hC4⟩ := h.sent.at_ (k := k) (l := c.sent) (by rw [List.getElem?_map, hck]; rfl)
  have hgl4 : g4 < w.heap.size := World.block_lt_of_cell? w _ (hC4 w (Below.refl _ _))
  obtain ⟨g5, o5, hy5⟩ := h.taken.1 (by rw [List.length_map]; omega)
  have hc5 := h.taken.2 g5 o5 hy5 k c.taken (by rw [List.getElem?_map, hck]; rfl)
  have hx : c.sent[c.taken]? = some x := by
    have : c.rest[0]? = some x := by rw [hf]; rfl
    rwa [Cn.rest, List.getElem?_drop, Nat.add_zero] at this
  obtain ⟨gq, oq, rfl⟩ := hq4.1 (by have := (List.getElem?_eq_some_iff.1 hx).1; omega)
  have hcx := hq4.2 gq oq rfl c.taken x hx
  have hgl5 : g5 < w.heap.size := World.block_lt_of_cell? w _ hc5
  have hglq : gq < w.heap.size := World.block_lt_of_cell? w _ hcx
  obtain ⟨ns, hns⟩ : ∃ r, c.sent.length = r := ⟨_, rfl⟩
  obtain ⟨tk, htk'⟩ : ∃ r, c.taken = r := ⟨_, rfl⟩
  have htkn : tk < ns := by rw [← hns, ← htk']; exact (List.getElem?_eq_some_iff.1 hx).1
  have hns6 : ns ≤ 1000000 := by rw [← hns]; exact hm
  rw [hns] at hC4
  rw [htk'] at hc5 hcx
  have HC4 := Lib.hid hC4; have HTK := Lib.hid htk'
  have HC5 := Lib.hid (fun W (hb : Below w.heap.size w W) => (hb.cell (p := ⟨g5, o5 + k, none⟩) (World.block_lt_of_cell? w _ hc5)).trans hc5)
  have HCX := Lib.hid (fun W (hb : Below w.heap.size w W) => (hb.cell (p := ⟨gq, oq + tk, none⟩) (World.block_lt_of_cell? w _ hcx)).trans hcx)
  have HYA := Lib.hid hy4; have HYB := Lib.hid hy5
  rw [htk']
  obtain ⟨rl, hrl⟩ : ∃ r, c.rest.length = r := ⟨_, rfl⟩
  have hrl0 : 0 < rl := by rw [← hrl, hf]; simp
  rw [hrl] at HVL
  obtain ⟨n, hn⟩ : ∃ n, s.owners.length = n := ⟨_, rfl⟩
  obtain ⟨nc, hnc⟩ : ∃ n, s.conds.length = n := ⟨_, rfl⟩
  obtain ⟨nh, hnh⟩ : ∃ n, s.chans.length = n := ⟨_, rfl⟩
  have HN := Lib.hid hn; have HNC := Lib.hid hnc; have HNH := Lib.hid hnh
  simp only [hdR, List.length_set, hn, hnc, hnh, hy4, hy5] at HVL HCP ⊢
  rw [hnh] at h2
  clear hn hnc hnh h ho hck htk hm hrl hf hz hC4 hq4 hc5 hcx hx htk' hns hy4 hy5
  go_enter Try.func62, Try.ntmps62
  have h3 : ¬ (k : Int) < 0 := by omega
  have h4 : ¬ (nh : Int) ≤ k := by omega
  have h5 : ¬ nh ≤ k := by omega
  have ha := (Blk.new w 33 #[.slice y.o1 n y.c1, .slice y.o2 nc y.c2, .slice y.o3 nh y.c3, .slice (some ⟨g4, o4, none⟩) nh y.c4, .slice (some ⟨g5, o5, none⟩) nh y.c5]).alloc (.cells #[nilV, nilV, nilV, nilV, nilV] 33)
  have hb := Blk.new' (w.alloc (.cells #[.slice y.o1 n y.c1, .slice y.o2 nc y.c2, .slice y.o3 nh y.c3, .slice (some ⟨g4, o4, none⟩) nh y.c4, .slice (some ⟨g5, o5, none⟩) nh y.c5] 33)) 33 #[nilV, nilV, nilV, nilV, nilV] (w.heap.size + 1) (by simp)
  have hl := below_two w (.cells #[.slice y.o1 n y.c1, .slice y.o2 nc y.c2, .slice y.o3 nh y.c3, .slice (some ⟨g4, o4, none⟩) nh y.c4, .slice (some ⟨g5, o5, none⟩) nh y.c5] 33) (.cells #[nilV, nilV, nilV, nilV, nilV] 33)
  go_wp2_with fail
  generalize World.alloc (World.alloc _ _) _ = w2 at ha hb hl ⊢
  refine (HVL.out w2 hl).mono ?_
  rintro e w1 ⟨q, cap, rfl, -, hbx⟩
  have hba := ha.below hbx ha.lt
  have hbb := hb.below hbx hb.lt
  have hll := hl.trans (hbx.mono hl.size)
  have HA1 := Lib.hid hba; have HB1 := Lib.hid hbb; have HL1 := Lib.hid hll
  obtain ⟨a0, a1, a2, a3, a4, -⟩ := Blk.five hba
  have hs1 := hbb.lt
  clear ha hb hl hbx hba hll HVL
  have hr0 : ((rl : Int) == 0) = false := by rw [beq_eq_false_iff_ne]; omega
  clear hbb
  go_wp2_with fail
  refine (HCP.out w1 HL1.out HB1.out HA1.out).mono ?_
  rintro e wc ⟨z, cv, cw, rfl, hC⟩
  have hr := hC.own.abc (r := ⟨3, 1, .slice z.o5 s.chans.length z.c5, s.chans.length, (s.chans.map (fun c => (c.taken : Int))).map (Value.int .i64)⟩) (by simp [abcR])
  dsimp only at hr
  obtain ⟨g1, c1', hz1, -⟩ := hr.form (by rw [HNH.out]; omega)
  injection hz1 with hz1 _ hcc
  have hg1 := hC.own.taken_turn hz1 HCK.out (c.taken + 1)
  rw [show ((c.taken + 1 : Nat) : Int) = (tk : Int) + 1 by rw [HTK.out]; omega] at hg1
  have hl1 : w.heap.size + 2 ≤ g1 ∧ g1 < wc.heap.size := hr.lt g1 (by simp [hz1, Value.ownBlock])
  rw [hz1] at hr
  have d0 := hr.cellAt k (by rw [HNH.out]; omega)
  rw [List.getElem?_map, List.getElem?_map, HCK.out] at d0
  simp only [Option.map_some, HTK.out] at d0
  have d1 := hr.frozenAt k
  obtain ⟨hlt1, hlt2⟩ := hl1
  have HRO := Lib.hid (ROwn.out_ hg1)
  have HC2 := Lib.hid hC
  have htk9 : ¬ 9223372036854775807 < (tk : Int) + 1 := by omega
  clear hC hg1 hr
  rw [hz1]
  go_wp2_with fail
  obtain ⟨hbl, hbb, hba, hbx⟩ := HC2.out.turn0 (k := k) hlt1 (.int .i64 ((tk : Int) + 1)) #[.slice z.o1 n z.c1, .slice z.o2 nc z.c2, .slice z.o3 nh z.c3, .slice z.o4 nh z.c4, .slice (some ⟨g1, 0, none⟩) nh c1'] 33
  have HRB := Lib.hid (HRO.out.below ((Below.refl _ _).alloc (Nat.le_refl _) (.cells #[.slice z.o1 n z.c1, .slice z.o2 nc z.c2, .slice z.o3 nh z.c3, .slice z.o4 nh z.c4, .slice (some ⟨g1, 0, none⟩) nh c1'] 33)))
  generalize World.alloc _ _ = wB at hbl hbb hba hbx HRB ⊢
  clear d0 d1 HRO
  have r3 : wB.cell? ⟨w.heap.size, 3, none⟩ = some (.slice (some ⟨g4, o4, none⟩) nh y.c4) := by
    have := hba.cell 3
    simpa [hdR, HYA.out, HNH.out] using this
  have r4 : wB.cell? ⟨w.heap.size, 4, none⟩ = some (.slice (some ⟨g5, o5, none⟩) nh y.c5) := by
    have := hba.cell 4
    simpa [hdR, HYB.out, HNH.out] using this
  have s4 := HC4.out _ hbl
  have s5 := HC5.out _ hbl
  have sx := HCX.out _ hbl
  obtain ⟨b0, b1, b2, b3, b4, -⟩ := Blk.five hbx
  obtain ⟨y0, y1, y2, y3, y4, f0, f1, f2, f3, f4⟩ := Blk.five hbb
  have HBL := Lib.hid hbl; have HBB := Lib.hid hbb
  have hsz2 := hbx.lt
  have hszc := HC2.out.box.lt
  have hn1 : w.heap.size + 1 ≠ g4 := by omega
  have hn2 : w.heap.size + 1 ≠ g5 := by omega
  have hn3 : w.heap.size + 1 ≠ gq := by omega
  have hn4 : w.heap.size + 1 ≠ wc.heap.size := by omega
  have ht1 : (tk : Int) < ns := by omega
  have ht2 : ¬ ns ≤ tk := by omega
  clear hbl hba hbx hbb a0 a1 a2 a3 a4
  go_region_held3 (fun W' => W'.cell? ⟨wc.heap.size, 0, none⟩ = some (.slice z.o1 n z.c1) ∧ W'.cell? ⟨wc.heap.size, 1, none⟩ = some (.slice z.o2 nc z.c2) ∧ W'.cell? ⟨wc.heap.size, 2, none⟩ = some (.slice z.o3 nh z.c3) ∧ W'.cell? ⟨wc.heap.size, 3, none⟩ = some (.slice z.o4 nh z.c4) ∧ W'.cell? ⟨wc.heap.size, 4, none⟩ = some (.slice (some ⟨g1, 0, none⟩) nh c1') ∧
      W'.cell? ⟨w.heap.size, 3, none⟩ = some (.slice (some ⟨g4, o4, none⟩) nh y.c4) ∧ W'.cell? ⟨w.heap.size, 4, none⟩ = some (.slice (some ⟨g5, o5, none⟩) nh y.c5) ∧ W'.cell? ⟨g4, o4 + k, none⟩ = some (.slice (some ⟨gq, oq, none⟩) ns c4) ∧ W'.cell? ⟨g5, o5 + k, none⟩ = some (.int .i64 tk) ∧ W'.cell? ⟨gq, oq + tk, none⟩ = some (.int .i64 x))
    (go_keep)
    (fail)
  rename_i hHeld
  clear hHeld
  go_wp2_with fail
  have hfin := (RNx.fin HRB.out HBL.out (.slice z.o1 n z.c1) (.slice z.o2 nc z.c2) (.slice z.o3 nh z.c3) (.slice z.o4 nh z.c4) (.slice (some ⟨g1, 0, none⟩) nh c1')).drew
  rw [HTK.out] at hfin
  refine bodyPost_ret (results_c3 rfl rfl (fill5_blk HBB.out).drew) rfl ⟨z, ?_, hfin⟩
  rw [hz1, hcc]; rfl

theorem RSend_any {N : Nat} (hN : N ≤ 1000000) (y : RLy) (s : SM) (w : World) (m t : Int) {F : Nat → Prop} (hF : ∀ b, F b → b < w.heap.size) (h : RSt F w y s) (hz : Sz N s) :
    Calls Try.prog 61 #[.agg (hdR y s), .int .i64 m, .int .i64 t] w fun e w' => ∃ z, e = .returned (.tuple #[.agg (hdR z (sendS s m t).1), .int .i64 (orNo (sendS s m t).2.2.1 (sendS s m t).2.1), .int .i64 (sendS s m t).2.2.2]) ∧ RSt F w' z (sendS s m t).1 ∧ Below w.heap.size w w' := by
  cases ho : at_ s.chans m with
  | none => simp only [sendS, ho]; exact (rsend_out y s w m t (at_none ho)).mono fun e w' ⟨h1, h2⟩ => ⟨y, h1, h.below h2, h2⟩
  | some c =>
    obtain ⟨h1, h2, h3⟩ := at_some ho
    have hc := hz.lh c (List.mem_of_getElem? h3)
    cases ht : inB (-2147483648) 2147483647 t with
    | false => simp only [sendS, ho, ht, if_true]; exact (rsend_bad y s w m t h1 h2 ht).mono fun e w' ⟨h1, h2⟩ => ⟨y, h1, h.below h2, h2⟩
    | true =>
      by_cases hf : c.room ≤ (c.rest.length : Int)
      · simp only [sendS, ho, ht, hf, if_true, Bool.true_eq_false, if_false]; exact (rsend_full y s w m t h.reads h1 h2 ht h3 hc.2.1 (by omega) hf).mono fun e w' ⟨h1, h2⟩ => ⟨y, h1, h.below h2, h2⟩
      · simp only [sendS, ho, ht, hf, Bool.true_eq_false, if_false]; exact (rsend_yes hN y s w m t h.reads h1 h2 ht h3 hc.2.1 (by omega) hz.ref hf).mono fun e w' ⟨z, h1, h2⟩ => ⟨z, h1, h2.st hF, h2.low⟩
theorem RRecv_any {N : Nat} (hN : N ≤ 1000000) (y : RLy) (s : SM) (w : World) (m : Int) {F : Nat → Prop} (hF : ∀ b, F b → b < w.heap.size) (h : RSt F w y s) (hz : Sz N s) :
    Calls Try.prog 62 #[.agg (hdR y s), .int .i64 m] w fun e w' => ∃ z, e = .returned (.tuple #[.agg (hdR z (recvS s m).1), .int .i64 (recvS s m).2.1, .int .i64 (orNo (recvS s m).2.2.2.1 (recvS s m).2.2.1), .int .i64 (recvS s m).2.2.2.2]) ∧ RSt F w' z (recvS s m).1 ∧ Below w.heap.size w w' := by
  cases ho : at_ s.chans m with
  | none => simp only [recvS, ho]; exact (rrecv_out y s w m (at_none ho)).mono fun e w' ⟨h1, h2⟩ => ⟨y, h1, h.below h2, h2⟩
  | some c =>
    obtain ⟨h1, h2, h3⟩ := at_some ho
    have hc := hz.lh c (List.mem_of_getElem? h3)
    cases hr : c.rest with
    | nil => simp only [recvS, ho, hr]; exact (rrecv_no y s w m h.reads h1 h2 h3 hc.2.1 (by omega) hr).mono fun e w' ⟨h1, h2⟩ => ⟨y, h1, h.below h2, h2⟩
    | cons x r => simp only [recvS, ho, hr]; exact (rrecv_yes hN y s w m h.reads h1 h2 h3 hc.2.1 (by omega) hz.ref hr).mono fun e w' ⟨z, h1, h2⟩ => ⟨z, h1, h2.st hF, h2.low⟩
end Go.Proofs.Ytdfjbgfdaokjgaa

/-
  The statement 'SyncAsks': what is asked of any state, at any number.
-/
import Derived.Test.YtdfjbgfdaokjgaaPlayed
namespace Go.Proofs.Ytdfjbgfdaokjgaa
open Go.RowKit

theorem owner_cases (s : SM) (k : Int) : ∃ o e, ownerS s k = (o, e) ∧ ((e = 4 ∧ o = 0 ∧ (k < 0 ∨ (s.owners.length : Int) ≤ k)) ∨ (e = 0 ∧ 0 ≤ k ∧ k < s.owners.length)) := by
  unfold ownerS
  cases h : at_ s.owners k with
  | none => exact ⟨_, _, rfl, .inl ⟨rfl, rfl, at_none h⟩⟩
  | some o => exact ⟨_, _, rfl, .inr ⟨rfl, (at_some h).1, (at_some h).2.1⟩⟩
theorem waits_cases (s : SM) (k : Int) : ∃ o e, waitsS s k = (o, e) ∧ ((e = 4 ∧ o = [] ∧ (k < 0 ∨ (s.conds.length : Int) ≤ k)) ∨ (e = 0 ∧ 0 ≤ k ∧ k < s.conds.length)) := by
  unfold waitsS
  cases h : at_ s.conds k with
  | none => exact ⟨_, _, rfl, .inl ⟨rfl, rfl, at_none h⟩⟩
  | some o => exact ⟨_, _, rfl, .inr ⟨rfl, (at_some h).1, (at_some h).2.1⟩⟩
theorem both_cases (s : SM) (k : Int) : ∃ v r e, valuesS s k = (v, e) ∧ roomS s k = (r, e) ∧ ((e = 4 ∧ v = [] ∧ r = 0 ∧ (k < 0 ∨ (s.chans.length : Int) ≤ k)) ∨ (e = 0 ∧ 0 ≤ k ∧ k < s.chans.length)) := by
  unfold valuesS roomS
  cases h : at_ s.chans k with
  | none => exact ⟨_, _, _, rfl, rfl, .inl ⟨rfl, rfl, rfl, at_none h⟩⟩
  | some o => exact ⟨_, _, _, rfl, rfl, .inr ⟨rfl, (at_some h).1, (at_some h).2.1⟩⟩

set_option maxRecDepth 100000 in
set_option maxHeartbeats 4000000 in
theorem lawAsks_out (m c : Int) (o so : Option Addr) (cp sc : Nat) (rs : List Int) (q : Nat) (k : Int) (W : World) (hr : IntsAt W o rs) (hno : (decide (newNo m c rs = 0) && decide (q ≤ 100)) = false) :
    Calls Try.prog 7 #[.agg #[.int .i64 m, .int .i64 c, .slice o rs.length cp], .slice so q sc, .int .i64 k] W fun e w' => e = .returned (.bool true) ∧ Below W.heap.size W w' := by
  have HWK := Lib.hid (fun w => works_any w)
  have hb := (Below.refl W.heap.size W).alloc (Nat.le_refl _) (.cells #[.int .i64 m, .int .i64 c, .slice o rs.length cp] 24)
  have HS := Lib.hid (small_any m c o so cp q sc rs _ (hr.below hb))
  rw [hno] at HS
  obtain ⟨n, hn⟩ : ∃ n, rs.length = n := ⟨_, rfl⟩
  rw [hn] at HS hb ⊢
  have HB := Lib.hid hb
  clear hr hn hb hno
  go_enter Try.func7, Try.ntmps7
  go_wp2_with fail
  refine HS.out.mono ?_
  rintro e w1 ⟨rfl, hb1⟩
  have HB1 := Lib.hid (below_trans HB.out hb1)
  clear hb1 HS HB
  go_wp2_with fail
  refine (HWK.out _).mono ?_
  rintro e w2 ⟨rfl, hb2⟩
  have HB2 := Lib.hid (below_trans HB1.out hb2)
  clear hb2
  go_wp2_with fail
  go_ret
  exact ⟨rfl, HB2.out⟩

set_option maxRecDepth 100000 in
set_option maxHeartbeats 16000000 in
theorem lawAsks_in (m c : Int) (o so : Option Addr) (cp sc : Nat) (rs : List Int) (xs : List ActL) (k : Int) (W : World) (hr : IntsAt W o rs) (ha : ActsAt W so xs) (hno : newNo m c rs = 0) (hxs : xs.length ≤ 100) :
    Calls Try.prog 7 #[.agg #[.int .i64 m, .int .i64 c, .slice o rs.length cp], .slice so xs.length sc, .int .i64 k] W fun e w' => e = .returned (.bool true) ∧ Below W.heap.size W w' := by
  have HWK := Lib.hid (fun w => works_any w)
  have hb := (Below.refl W.heap.size W).alloc (Nat.le_refl _) (.cells #[.int .i64 m, .int .i64 c, .slice o rs.length cp] 24)
  have HS := Lib.hid (small_any m c o so cp xs.length sc rs _ (hr.below hb))
  rw [show (decide (newNo m c rs = 0) && decide (xs.length ≤ 100)) = true by simp [hno, hxs]] at HS
  have HP := Lib.hid (fun wx (hx : Below W.heap.size W wx) => played_any W m c o so cp sc rs xs wx hx (hr.below hx) (ha.below hx) hno hxs)
  obtain ⟨n, hn⟩ : ∃ n, rs.length = n := ⟨_, rfl⟩
  obtain ⟨q, hq⟩ : ∃ n, xs.length = n := ⟨_, rfl⟩
  rw [hn] at HS HP hb ⊢
  rw [hq] at HS HP ⊢
  have HB := Lib.hid hb
  have HBX := Lib.hid (Blk.new W 24 #[.int .i64 m, .int .i64 c, .slice o n cp])
  clear hr ha hn hq hb hno hxs
  go_enter Try.func7, Try.ntmps7
  go_wp2_with fail
  refine HS.out.mono ?_
  rintro e w1 ⟨rfl, hb1⟩
  have HB1 := Lib.hid (below_trans HB.out hb1)
  have HBX1 := Lib.hid (HBX.out.below hb1 HBX.out.lt)
  have c0 := HBX1.out.cell 0; have c1 := HBX1.out.cell 1; have c2 := HBX1.out.cell 2
  clear hb1 HS HB HBX
  go_wp2_with fail
  refine (HP.out _ HB1.out).mono ?_
  rintro e w2 ⟨p, F, s, z, rfl, hst, hrs, hth, hF, hb2⟩
  have HB2 := Lib.hid ((below_trans HB1.out hb2))
  have HB3 := Lib.hid (HB2.out.alloc HB2.out.size (.cells (hdR z s) 33))
  have HST := Lib.hid ((hst.below ((Below.refl _ w2).alloc (Nat.le_refl _) (.cells (hdR z s) 33))))
  obtain ⟨ow, ea, hO, hOc⟩ := owner_cases s k
  obtain ⟨l, eb, hL, hLc⟩ := waits_cases s k
  obtain ⟨v, r, ec, hV, hR, hVc⟩ := both_cases s k
  have HO := Lib.hid hO; have HL := Lib.hid hL; have HV := Lib.hid hV; have HR := Lib.hid hR
  have HBO := Lib.hid (Blk.new w2 33 #[.slice z.o1 s.owners.length z.c1, .slice z.o2 s.conds.length z.c2, .slice z.o3 s.chans.length z.c3, .slice z.o4 s.chans.length z.c4, .slice z.o5 s.chans.length z.c5])
  obtain ⟨n1, hn1⟩ : ∃ n, s.owners.length = n := ⟨_, rfl⟩
  obtain ⟨n2, hn2⟩ : ∃ n, s.conds.length = n := ⟨_, rfl⟩
  obtain ⟨n3, hn3⟩ : ∃ n, s.chans.length = n := ⟨_, rfl⟩
  simp only [hdR] at HB3 HST ⊢
  rw [hn1] at hOc HBO HB3 HST ⊢
  rw [hn2] at hLc HBO HB3 HST ⊢
  rw [hn3] at hVc HBO HB3 HST ⊢
  clear hb2 hst hrs hth hF HP HB1 HBX1 c0 c1 c2 hn1 hn2 hn3 hO hL hV hR
  go_wp2_with fail
  refine (st_owner HST.out k HO.out).mono ?_
  rintro e w3 ⟨rfl, hb⟩
  have HB4 := Lib.hid (below_trans HB3.out hb)
  have HST4 := Lib.hid (HST.out.below hb)
  have HBO4 := Lib.hid (HBO.out.below hb HBO.out.lt)
  clear hb HB3 HST HBO HO
  go_wp2_with fail
  refine (st_waits HST4.out (by omega) k HL.out).mono ?_
  rintro e w4 ⟨u, rfl, hu, hb⟩
  obtain ⟨ou, cu, rfl, -⟩ := row_shape hu
  have HB5 := Lib.hid (below_trans HB4.out hb)
  have HST5 := Lib.hid (HST4.out.below hb)
  have HBO5 := Lib.hid (HBO4.out.below hb HBO4.out.lt)
  clear hb hu HB4 HST4 HBO4 HL
  go_wp2_with fail
  refine (st_values HST5.out (by omega) k HV.out).mono ?_
  rintro e w5 ⟨u, rfl, hu, hb⟩
  obtain ⟨ov, cv, rfl, -⟩ := row_shape hu
  have HB6 := Lib.hid (below_trans HB5.out hb)
  have HST6 := Lib.hid (HST5.out.below hb)
  have HBO6 := Lib.hid (HBO5.out.below hb HBO5.out.lt)
  clear hb hu HB5 HST5 HBO5 HV
  go_wp2_with fail
  refine (st_room HST6.out (by omega) k HR.out).mono ?_
  rintro e w6 ⟨rfl, hb⟩
  have HB7 := Lib.hid (below_trans HB6.out hb)
  have HBO7 := Lib.hid (HBO6.out.below hb HBO6.out.lt)
  clear hb HB6 HST6 HBO6 HR
  obtain ⟨b0, b1, b2, b3, b4, -⟩ := Blk.five HBO7.out
  clear HBO7
  by_cases hk : k < 0
  · obtain ⟨rfl, rfl⟩ : ea = 4 ∧ ow = 0 := by
      rcases hOc with ⟨h1, h2, -⟩ | ⟨-, h1, -⟩
      · exact ⟨h1, h2⟩
      · omega
    obtain ⟨rfl, rfl⟩ : eb = 4 ∧ l = [] := by
      rcases hLc with ⟨h1, h2, -⟩ | ⟨-, h1, -⟩
      · exact ⟨h1, h2⟩
      · omega
    obtain ⟨rfl, rfl, rfl⟩ : ec = 4 ∧ v = [] ∧ r = 0 := by
      rcases hVc with ⟨h1, h2, h3, -⟩ | ⟨-, h1, -⟩
      · exact ⟨h1, h2, h3⟩
      · omega
    clear hOc hLc hVc
    simp only [List.length_nil]
    go_wp2_with (first | (go_at_call 23; refine (num_any _ _).mono ?_; rintro e w' ⟨rfl, rfl⟩) | (go_at_call 11; refine (HWK.out _).mono ?_; rintro e w7 ⟨rfl, hb⟩; have HB8 := Lib.hid (below_trans HB7.out hb); clear hb))
    go_ret
    exact ⟨rfl, HB8.out⟩
  all_goals
    rcases hOc with ⟨rfl, rfl, hOk⟩ | ⟨rfl, hO0, hO1⟩
  all_goals
    rcases hLc with ⟨rfl, rfl, hLk⟩ | ⟨rfl, hL0, hL1⟩
  all_goals
    rcases hVc with ⟨rfl, rfl, rfl, hVk⟩ | ⟨rfl, hV0, hV1⟩
  all_goals
    try have hOk' : (n1 : Int) ≤ k := by omega
    try have hOk' : ¬ (n1 : Int) ≤ k := by omega
    try have hLk' : (n2 : Int) ≤ k := by omega
    try have hLk' : ¬ (n2 : Int) ≤ k := by omega
    try have hVk' : (n3 : Int) ≤ k := by omega
    try have hVk' : ¬ (n3 : Int) ≤ k := by omega
    try simp only [List.length_nil]
    go_wp2_with (first | (go_at_call 23; refine (num_any _ _).mono ?_; rintro e w' ⟨rfl, rfl⟩) | (go_at_call 11; refine (HWK.out _).mono ?_; rintro e w7 ⟨rfl, hb⟩; have HB8 := Lib.hid (below_trans HB7.out hb); clear hb))
    go_ret
    exact ⟨rfl, HB8.out⟩

theorem lawAsks_any (m c : Int) (o so : Option Addr) (cp sc : Nat) (rs : List Int) (xs : List ActL) (k : Int) (W : World) (hr : IntsAt W o rs) (ha : ActsAt W so xs) :
    Calls Try.prog 7 #[.agg #[.int .i64 m, .int .i64 c, .slice o rs.length cp], .slice so xs.length sc, .int .i64 k] W fun e w' => e = .returned (.bool true) ∧ Below W.heap.size W w' := by
  cases h : (decide (newNo m c rs = 0) && decide (xs.length ≤ 100)) with
  | false => exact lawAsks_out m c o so cp sc rs _ k W hr h
  | true =>
    obtain ⟨h1, h2⟩ := (Bool.and_eq_true_iff.1 h)
    exact lawAsks_in m c o so cp sc rs xs k W hr ha (of_decide_eq_true h1) (of_decide_eq_true h2)
end Go.Proofs.Ytdfjbgfdaokjgaa

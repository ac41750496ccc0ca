/-
  The statement 'SyncPlays': any calls of any form.
-/
import Derived.Test.YtdfjbgfdaokjgaaPlayed
namespace Go.Proofs.Ytdfjbgfdaokjgaa
open Go.RowKit

set_option maxRecDepth 100000 in
set_option maxHeartbeats 4000000 in
theorem lawPlays_out (m c : Int) (o so : Option Addr) (cp sc : Nat) (rs : List Int) (q : Nat) (W : World) (hr : IntsAt W o rs) (hno : (decide (newNo m c rs = 0) && decide (q ≤ 100)) = false) :
    Calls Try.prog 4 #[.agg #[.int .i64 m, .int .i64 c, .slice o rs.length cp], .slice so q sc] W fun e w' => e = .returned (.bool true) ∧ Below W.heap.size W w' := by
  have HWK := Lib.hid (fun w => works_any w)
  have hb := (Below.refl W.heap.size W).alloc (Nat.le_refl _) (.cells #[.int .i64 m, .int .i64 c, .slice o rs.length cp] 24)
  have HS := Lib.hid (small_any m c o so cp q sc rs _ (hr.below hb))
  rw [hno] at HS
  obtain ⟨n, hn⟩ : ∃ n, rs.length = n := ⟨_, rfl⟩
  rw [hn] at HS hb ⊢
  have HB := Lib.hid hb
  clear hr hn hb hno
  go_enter Try.func4, Try.ntmps4
  go_wp2_with fail
  refine HS.out.mono ?_
  rintro e w1 ⟨rfl, hb1⟩
  have HB1 := Lib.hid (below_trans HB.out hb1)
  clear hb1 HS HB
  go_wp2_with fail
  refine (HWK.out _).mono ?_
  rintro e w2 ⟨rfl, hb2⟩
  have HB2 := Lib.hid (below_trans HB1.out hb2)
  clear hb2
  go_wp2_with fail
  go_ret
  exact ⟨rfl, HB2.out⟩

set_option maxRecDepth 100000 in
set_option maxHeartbeats 4000000 in
theorem lawPlays_in (m c : Int) (o so : Option Addr) (cp sc : Nat) (rs : List Int) (xs : List ActL) (W : World) (hr : IntsAt W o rs) (ha : ActsAt W so xs) (hno : newNo m c rs = 0) (hxs : xs.length ≤ 100) :
    Calls Try.prog 4 #[.agg #[.int .i64 m, .int .i64 c, .slice o rs.length cp], .slice so xs.length sc] W fun e w' => e = .returned (.bool true) ∧ Below W.heap.size W w' := by
  have HWK := Lib.hid (fun w => works_any w)
  have hb := (Below.refl W.heap.size W).alloc (Nat.le_refl _) (.cells #[.int .i64 m, .int .i64 c, .slice o rs.length cp] 24)
  have HS := Lib.hid (small_any m c o so cp xs.length sc rs _ (hr.below hb))
  rw [show (decide (newNo m c rs = 0) && decide (xs.length ≤ 100)) = true by simp [hno, hxs]] at HS
  have HP := Lib.hid (fun wx (hx : Below W.heap.size W wx) => played_any W m c o so cp sc rs xs wx hx (hr.below hx) (ha.below hx) hno hxs)
  obtain ⟨n, hn⟩ : ∃ n, rs.length = n := ⟨_, rfl⟩
  obtain ⟨q, hq⟩ : ∃ n, xs.length = n := ⟨_, rfl⟩
  rw [hn] at HS HP hb ⊢
  rw [hq] at HS HP ⊢
  have HB := Lib.hid hb
  have HBX := Lib.hid (Blk.new W 24 #[.int .i64 m, .int .i64 c, .slice o n cp])
  clear hr ha hn hq hb hno hxs
  go_enter Try.func4, Try.ntmps4
  go_wp2_with fail
  refine HS.out.mono ?_
  rintro e w1 ⟨rfl, hb1⟩
  have HB1 := Lib.hid (below_trans HB.out hb1)
  have HBX1 := Lib.hid (HBX.out.below hb1 HBX.out.lt)
  have c0 := HBX1.out.cell 0; have c1 := HBX1.out.cell 1; have c2 := HBX1.out.cell 2
  clear hb1 HS HB HBX
  go_wp2_with fail
  refine (HP.out _ HB1.out).mono ?_
  rintro e w2 ⟨p, F, s, z, rfl, hst, hrs, hth, hF, hb2⟩
  have HB2 := Lib.hid ((below_trans HB1.out hb2))
  have HB3 := Lib.hid (HB2.out.alloc HB2.out.size (.cells (hdR z s) 33))
  clear hb2 hst hrs hth hF HP HB1 HBX1 c0 c1 c2
  simp only [hdR] at HB3 ⊢
  go_wp2_with fail
  refine (HWK.out _).mono ?_
  rintro e w4 ⟨rfl, hb4⟩
  have HB4 := Lib.hid (below_trans HB3.out hb4)
  clear hb4
  go_wp2_with fail
  go_ret
  exact ⟨rfl, HB4.out⟩

theorem lawPlays_any (m c : Int) (o so : Option Addr) (cp sc : Nat) (rs : List Int) (xs : List ActL) (W : World) (hr : IntsAt W o rs) (ha : ActsAt W so xs) :
    Calls Try.prog 4 #[.agg #[.int .i64 m, .int .i64 c, .slice o rs.length cp], .slice so xs.length sc] W fun e w' => e = .returned (.bool true) ∧ Below W.heap.size W w' := by
  cases h : (decide (newNo m c rs = 0) && decide (xs.length ≤ 100)) with
  | false => exact lawPlays_out m c o so cp sc rs _ W hr h
  | true =>
    obtain ⟨h1, h2⟩ := (Bool.and_eq_true_iff.1 h)
    exact lawPlays_in m c o so cp sc rs xs W hr ha (of_decide_eq_true h1) (of_decide_eq_true h2)
end Go.Proofs.Ytdfjbgfdaokjgaa

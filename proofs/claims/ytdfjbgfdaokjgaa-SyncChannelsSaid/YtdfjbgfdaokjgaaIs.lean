/-
  The law's 'is': a state of the program's and one of the reference's that are the same data are told to be alike.
-/
import Derived.Test.YtdfjbgfdaokjgaaRNew
import Derived.BigQuiet
import Derived.Deep.QuietTactic
namespace Go.Proofs.Ytdfjbgfdaokjgaa
open Go.RowKit

theorem below_trans {a b c : World} (h : Below a.heap.size a b) (k : Below b.heap.size b c) : Below a.heap.size a c := h.trans (k.mono h.size)
theorem ownerS_at {s : SM} {i : Nat} {o : Int} (h : s.owners[i]? = some o) : ownerS s i = (o, 0) := by
  have e : ¬ (i : Int) < 0 := by omega
  simp [ownerS, at_, h, e]
theorem waitsS_at {s : SM} {i : Nat} {l : List Int} (h : s.conds[i]? = some l) : waitsS s i = (l, 0) := by
  have e : ¬ (i : Int) < 0 := by omega
  simp [waitsS, at_, h, e]
theorem roomS_at {s : SM} {i : Nat} {c : Cn} (h : s.chans[i]? = some c) : roomS s i = (c.room, 0) := by
  have e : ¬ (i : Int) < 0 := by omega
  simp [roomS, at_, h, e]
theorem valuesS_at {s : SM} {i : Nat} {c : Cn} (h : s.chans[i]? = some c) : valuesS s i = (c.rest, 0) := by
  have e : ¬ (i : Int) < 0 := by omega
  simp [valuesS, at_, h, e]

set_option maxRecDepth 100000 in
set_option maxHeartbeats 4000000 in
theorem is_any {W w : World} {p N : Nat} {s : SM} {F : Nat → Prop} {y : RLy} (hs : St W w p N s F) (hN : N ≤ 1000000) (h : RAt w y s) :
    Calls Try.prog 29 #[.pointer (some ⟨p, 0, none⟩), .agg (hdR y s)] w fun e w' => e = .returned (.bool true) ∧ Below w.heap.size w w' := by
  have HS := Lib.hid hs
  have HR := Lib.hid h
  obtain ⟨n, hn⟩ : ∃ n, s.owners.length = n := ⟨_, rfl⟩
  obtain ⟨nc, hnc⟩ : ∃ n, s.conds.length = n := ⟨_, rfl⟩
  obtain ⟨nh, hnh⟩ : ∃ n, s.chans.length = n := ⟨_, rfl⟩
  have HN1 := Lib.hid hn; have HNC := Lib.hid hnc; have HNH := Lib.hid hnh
  have hn64 : n ≤ 64 := by rw [← hn]; exact hs.sz.no
  have hnc64 : nc ≤ 64 := by rw [← hnc]; exact hs.sz.nc
  have hnh64 : nh ≤ 64 := by rw [← hnh]; exact hs.sz.nh
  simp only [hdR, hn, hnc, hnh]
  clear hn hnc hnh h hs
  go_enter Try.func29, Try.ntmps29
  have HB0 : Hid (Below w.heap.size w (w.alloc (.cells #[.slice y.o1 n y.c1, .slice y.o2 nc y.c2, .slice y.o3 nh y.c3, .slice y.o4 nh y.c4, .slice y.o5 nh y.c5] 33))) := Lib.hid ((Below.refl _ _).alloc (Nat.le_refl _) _)
  have HBX := Lib.hid (Blk.new w 33 #[.slice y.o1 n y.c1, .slice y.o2 nc y.c2, .slice y.o3 nh y.c3, .slice y.o4 nh y.c4, .slice y.o5 nh y.c5])
  go_wp2_with fail
  generalize World.alloc _ _ = wA at HB0 HBX ⊢
  go_loopw [5] (fun v wr => ∃ i : Nat, i ≤ n ∧ v = .int .i64 i ∧ Hid (Below wA.heap.size wA wr)) (fun i _ => n - (intOf i).toNat)
  case atStart => exact ⟨0, by omega, rfl, Lib.hid (Below.refl _ _)⟩
  case round =>
    obtain ⟨i, hi, rfl, HB⟩ := hrel
    have hw := HB0.out.trans (HB.out.mono HB0.out.size)
    have hbx := HBX.out.below HB.out HBX.out.lt
    have b0 := hbx.cell 0; have b1 := hbx.cell 1
    by_cases hlt : i < n
    · obtain ⟨o, ho⟩ : ∃ o, s.owners[i]? = some o := ⟨_, List.getElem?_eq_getElem (by rw [HN1.out]; exact hlt)⟩
      obtain ⟨g, off, hy⟩ := HR.out.owners.1 (by rw [HN1.out]; omega)
      have HC := Lib.hid (cell_keep hw (HR.out.owners.2 g off hy i o ho))
      have HO := Lib.hid ho
      have HW := Lib.hid hw
      have HBX2 := Lib.hid hbx
      rw [hy] at b0
      have HY := Lib.hid hy
      clear ho hw hbx hy
      have hk2 : ¬ n ≤ i := by omega
      go_wp2_with fail
      refine (st_owner (HS.out.below HW.out) i (ownerS_at HO.out)).mono ?_
      rintro e w1 ⟨rfl, hb⟩
      have c0 := cell_keep hb HC.out
      have d0 := (HBX2.out.below hb HBX2.out.lt).cell 0
      rw [HY.out] at d0
      have HB1 := Lib.hid (HB.out.trans (hb.mono HB.out.size))
      clear hb
      have e0 : (o != o) = false := by simp
      go_wp2_with (first | (go_at_call 23; refine (num_any _ _).mono ?_; rintro e w' ⟨rfl, rfl⟩))
      go_roundw
      case rel => exact ⟨i + 1, by omega, by go_num, HB1⟩
      case measure => simp [intOf]; omega
    · obtain rfl : i = n := by omega
      have HB2 := Lib.hid (below_trans (a := wA) (Below.refl _ _) HB.out)
      have HB3 := Lib.hid hw
      have HBX2 := Lib.hid hbx
      clear hw hbx
      have hwz := HB3.out.size
      go_wp2_with fail
      go_loopw [8] (fun v wq => ∃ i : Nat, i ≤ nc ∧ v = .int .i64 i ∧ Hid (Below wA.heap.size wA wq)) (fun i _ => nc - (intOf i).toNat)
      case atStart => exact ⟨0, by omega, rfl, HB⟩
      case round =>
        obtain ⟨j, hj, rfl, HB5⟩ := hrel
        clear HB HB2 HB3 HBX2 b0 b1
        have hw := HB0.out.trans (HB5.out.mono HB0.out.size)
        have hbx := HBX.out.below HB5.out HBX.out.lt
        have b1 := hbx.cell 1; have b2 := hbx.cell 2
        by_cases hlj : j < nc
        · obtain ⟨l, hl⟩ : ∃ l, s.conds[j]? = some l := ⟨_, List.getElem?_eq_getElem (by rw [HNC.out]; exact hlj)⟩
          obtain ⟨g, off, q, c, hy, -, hq, hC⟩ := HR.out.conds.at_ hl
          have hlN := HS.out.sz.lc l (List.mem_of_getElem? hl)
          have HC := Lib.hid (hC _ hw)
          have HQ := Lib.hid (hq.below hw)
          have HLL := Lib.hid hl
          have HW := Lib.hid hw
          have HBX2 := Lib.hid hbx
          have HY := Lib.hid hy
          clear hl hw hbx hy hq hC b2
          have hk2 : ¬ nc ≤ j := by omega
          go_wp2_with fail
          refine (st_waits (HS.out.below HW.out) hN j (waitsS_at HLL.out)).mono ?_
          rintro e w1 ⟨u, rfl, hu, hb⟩
          have c0 := cell_keep hb HC.out
          have d1 := (HBX2.out.below hb HBX2.out.lt).cell 1
          have d1' : w1.cell? ⟨w.heap.size, 1, none⟩ = some (.slice (some ⟨g, off, none⟩) nc y.c2) := by rw [d1, HY.out]; rfl
          obtain ⟨ou, cu, rfl, -⟩ := row_shape hu
          have HIU := Lib.hid (ints_of_row hu).2
          have HQ1 := Lib.hid (HQ.out.below hb)
          have HB1 := Lib.hid (HB5.out.trans (hb.mono HB5.out.size))
          have HINT := Lib.hid (ints_any ou q cu c l l (by omega) (by omega) w1 HIU.out HQ1.out)
          obtain ⟨r, hr⟩ : ∃ r, l.length = r := ⟨_, rfl⟩
          rw [hr] at c0 HINT
          rw [hr]
          clear hb hu d1 hr
          go_wp2_with fail
          refine HINT.out.mono ?_
          rintro e w2 ⟨rfl, hb2⟩
          have HB6 := Lib.hid (HB1.out.trans (hb2.mono HB1.out.size))
          clear hb2 d1' c0
          go_wp2_with (first | (go_at_call 23; refine (num_any _ _).mono ?_; rintro e w' ⟨rfl, rfl⟩))
          go_roundw
          case rel => exact ⟨j + 1, by omega, by go_num, HB6⟩
          case measure => simp [intOf]; omega
        · obtain rfl : j = nc := by omega
          have HBX2 := Lib.hid hbx
          clear hw hbx
          go_wp2_with fail
          go_loopw [11] (fun v wq => ∃ i : Nat, i ≤ nh ∧ v = .int .i64 i ∧ Hid (Below wA.heap.size wA wq)) (fun i _ => nh - (intOf i).toNat)
          case atStart => exact ⟨0, by omega, rfl, HB5⟩
          case round =>
            obtain ⟨m, hm, rfl, HB7⟩ := hrel
            clear HB5 HBX2 b1 b2
            have hw := HB0.out.trans (HB7.out.mono HB0.out.size)
            have hbx := HBX.out.below HB7.out HBX.out.lt
            by_cases hlm : m < nh
            · obtain ⟨c, hc⟩ : ∃ c, s.chans[m]? = some c := ⟨_, List.getElem?_eq_getElem (by rw [HNH.out]; exact hlm)⟩
              have hcz := HS.out.sz.lh c (List.mem_of_getElem? hc)
              have hrest := HS.out.sz.rest (List.mem_of_getElem? hc)
              obtain ⟨g, off, hy⟩ := HR.out.rooms.1 (by rw [List.length_map, HNH.out]; omega)
              have hrm := HR.out.rooms.2 g off hy m c.room (by rw [List.getElem?_map, hc]; rfl)
              have HRM := Lib.hid (fun W (hb : Below w.heap.size w W) => cell_keep hb hrm)
              have HVL := Lib.hid (fun W (hb : Below w.heap.size w W) => RValues_any y s W m (HR.out.below hb) (by omega) (by rw [HNH.out]; omega) (by simpa using hc) hcz.2.1 (by omega))
              simp only [hdR, HN1.out, HNC.out, HNH.out] at HVL
              have HCC := Lib.hid hc
              have HW := Lib.hid hw
              have HBX2 := Lib.hid hbx
              have HY := Lib.hid hy
              obtain ⟨b0, b1, b2, b3, b4, -⟩ := Blk.five hbx
              clear hc hw hbx hy hrm hcz b0 b1 b3 b4
              have hk2 : ¬ nh ≤ m := by omega
              go_wp2_with fail
              refine (st_room (HS.out.below HW.out) hN m (roomS_at HCC.out)).mono ?_
              rintro e w1 ⟨rfl, hb⟩
              have HW1 := Lib.hid (HW.out.trans (hb.mono HW.out.size))
              have HBX3 := Lib.hid (HBX2.out.below hb HBX2.out.lt)
              have HB8 := Lib.hid (HB7.out.trans (hb.mono HB7.out.size))
              clear hb b2 HBX2 HW HB7
              go_wp2_with fail
              refine (st_values (HS.out.below HW1.out) hN m (valuesS_at HCC.out)).mono ?_
              rintro e w2 ⟨u, rfl, hu, hb⟩
              have HW2 := Lib.hid (HW1.out.trans (hb.mono HW1.out.size))
              have HBX4 := Lib.hid (HBX3.out.below hb HBX3.out.lt)
              have HB9 := Lib.hid (HB8.out.trans (hb.mono HB8.out.size))
              obtain ⟨ou, cu, rfl, -⟩ := row_shape hu
              have HIU := Lib.hid (ints_of_row hu).2
              clear hb hu HBX3 HW1 HB8
              obtain ⟨b0, b1, b2, b3, b4, -⟩ := Blk.five HBX4.out
              go_wp2_with fail
              refine (HVL.out w2 HW2.out).mono ?_
              rintro e w3 ⟨q, cq, rfl, hq, hb⟩
              have HW3 := Lib.hid (HW2.out.trans (hb.mono HW2.out.size))
              have HBX5 := Lib.hid (HBX4.out.below hb HBX4.out.lt)
              have HB10 := Lib.hid (HB9.out.trans (hb.mono HB9.out.size))
              have HIU2 := Lib.hid (HIU.out.below hb)
              have HIQ := Lib.hid hq
              clear hb hq HBX4 HW2 HB9 HIU b0 b1 b2 b3 b4
              have d2 : w3.cell? ⟨w.heap.size, 2, none⟩ = some (.slice (some ⟨g, off, none⟩) nh y.c3) := by
                have := HBX5.out.cell 2
                rw [this, HY.out]; rfl
              have r0 := HRM.out _ HW3.out
              obtain ⟨rl, hrl⟩ : ∃ r, c.rest.length = r := ⟨_, rfl⟩
              obtain ⟨rm, hrm⟩ : ∃ r, c.room = r := ⟨_, rfl⟩
              rw [hrm] at r0
              have HRL := Lib.hid hrl
              rw [hrl, hrm]
              rw [hrl] at hrest
              clear hrl hrm
              go_wp2_with (first | (go_at_call 23; refine (num_any _ _).mono ?_; rintro e w' ⟨rfl, rfl⟩))
              obtain ⟨wo, rfl⟩ : ∃ wo : World, wo = wr := ⟨_, rfl⟩
              go_loopw [17] (fun v wq => ∃ k : Nat, k ≤ rl ∧ v = .int .i64 k ∧ Hid (Below w3.heap.size w3 wq)) (fun i _ => rl - (intOf i).toNat)
              case atStart => exact ⟨0, by omega, rfl, Lib.hid (Below.refl _ _)⟩
              case round =>
                obtain ⟨k, hk, rfl, HBK⟩ := hrel
                by_cases hlk : k < rl
                · obtain ⟨x, hx⟩ : ∃ x, c.rest[k]? = some x := ⟨_, List.getElem?_eq_getElem (by rw [HRL.out]; exact hlk)⟩
                  obtain ⟨g1, f1, rfl⟩ := HIU2.out.1 (by rw [HRL.out]; omega)
                  obtain ⟨g2, f2, rfl⟩ := HIQ.out.1 (by rw [HRL.out]; omega)
                  have k1 := cell_keep HBK.out (HIU2.out.2 g1 f1 rfl k x hx)
                  have k2 := cell_keep HBK.out (HIQ.out.2 g2 f2 rfl k x hx)
                  have e1 : (x != x) = false := by simp
                  have hkr : ¬ rl ≤ k := by omega
                  clear hx d2 r0
                  go_wp2_with fail
                  go_quiet (fail)
                  go_wp2_with fail
                  go_roundw
                  case rel => exact ⟨k + 1, by omega, by go_num, Lib.hid (HBK.out.trans (below_drewN' _ _ _))⟩
                  case measure => simp [intOf]; omega
                · obtain rfl : k = rl := by omega
                  have HB11 := Lib.hid (HB10.out.trans (HBK.out.mono HB10.out.size))
                  clear d2 r0
                  go_wp2_with fail
                  go_roundw
                  case rel => exact ⟨m + 1, by omega, by go_num, HB11⟩
                  case measure => simp [intOf]; omega
            · obtain rfl : m = nh := by omega
              have b2 := hbx.cell 2
              have HW := Lib.hid hw
              clear hw hbx
              go_wp2_with fail
              go_ret
              exact ⟨rfl, HW.out⟩
end Go.Proofs.Ytdfjbgfdaokjgaa

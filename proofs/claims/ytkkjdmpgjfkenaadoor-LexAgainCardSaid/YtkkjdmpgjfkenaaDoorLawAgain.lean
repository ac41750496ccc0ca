/-
  The statement 'LexAgain': words stand in the text at their places, which rise, and with a blank between they are lexed as the same words.
-/
import Derived.Test.YtkkjdmpgjfkenaaDoorAFlat
import Derived.Test.YtkkjdmpgjfkenaaDoorAt
import Derived.Test.YtkkjdmpgjfkenaaDoorBounds
import Derived.Test.YtkkjdmpgjfkenaaDoorFrame
namespace Go.Proofs.YtkkjdmpgjfkenaaDoor
open Go.RowKit Go.Maps Go.WideMaps Go.Shelf

theorem row_shape {w : World} {b : Nat} {t : TypeId} {k n : Nat} {v : Value} {xs : List Value} (h : w.ownsRow b t k v n xs) : ∃ o c, v = .slice o n c ∧ (0 < n → ∃ g, o = some ⟨g, 0, none⟩ ∧ b ≤ g ∧ g < w.heap.size) := by
  rcases h.2 with ⟨rfl, h0⟩ | ⟨g, c, _, rfl, hb, hh, _⟩
  · exact ⟨none, 0, by rw [h0], fun h => by omega⟩
  · exact ⟨_, c, rfl, fun _ => ⟨g, rfl, hb, (Array.getElem?_eq_some_iff.1 hh).1⟩⟩
theorem placed_own {s : List UInt8} {q : Nat} {L : List TokL} (h : Placed s q L) : ∀ x ∈ L, Own x := by
  induction h with
  | nil => intro x hx; simp at hx
  | cons q k y R h1 h2 h3 h4 h5 h6 h7 ih =>
    intro x hx
    rcases List.mem_cons.1 hx with rfl | hx
    · exact h5
    · exact ih x hx
theorem lex_again (S : ByteArray) (M : List TokL) (n : Nat) (h : lexF (S.size + 1) S.data.toList (1, 1) = (M, none)) (hn : M.length = n) (hs : S.size ≤ 65536) (W : World) (hv : ErrVars W) :
    Calls Tryd.prog 11 #[.string S] W fun e w' => Below W.heap.size W w' ∧ ∃ v, e = .returned (.tuple #[v, .agg #[.int .i64 0, .int .i64 0], .int .i64 0]) ∧ w'.ownsRow W.heap.size 40 5 v n (M.flatMap tokCells) :=
  (Lex_any S W hs hv).mono fun e w' h2 => by
    have h3 := LexP.out h2
    rw [h] at h3
    subst hn
    exact h3
theorem placed_inv {s : List UInt8} {q : Nat} {x : TokL} {R : List TokL} (h : Placed s q (x :: R)) : ∃ k, q ≤ k ∧ k + x.txt.length ≤ s.length ∧ x.txt = (s.drop k).take x.txt.length ∧ x.pos = advsI (1, 1) (s.take k) ∧ x.txt ≠ [] ∧ Placed s (k + x.txt.length) R := by
  cases h with
  | cons _ k _ _ h1 h2 h3 h4 h5 h6 h7 => exact ⟨k, h1, h2, h3, h4, h5.ne, h7⟩

set_option maxRecDepth 100000 in
set_option maxHeartbeats 1000000 in
theorem lawAgain (s : ByteArray) (_hs : s.size ≤ 281474976710656) (w : World) (hv : ErrVars w) : Calls Tryd.prog 9 #[.string s] w fun e w' => e = .returned (.bool true) ∧ Below w.heap.size w w' := by
  have HW := Lib.hid (fun W h => works_any W h)
  have HV := Lib.hid hv
  have h5 := hv.2.2
  clear hv
  by_cases h : 2000 < s.size
  · go_enter Tryd.func9, Tryd.ntmps9
    go_wp2_with fail
    refine (HW.out _ HV.out).mono ?_
    rintro e w1 ⟨rfl, hb⟩
    go_wp2_with fail
    go_ret
    exact ⟨rfl, hb⟩
  · have h' : s.size ≤ 2000 := by omega
    have H1 := Lib.hid (fun W hv => (Lex_any s W (by omega) hv).mono fun _ _ h => LexP.out h)
    have hlen := Nat.le_trans (outL_len (lexF (s.size + 1) s.data.toList (1, 1))) (lexF_len (s.size + 1) s.data.toList (1, 1))
    have HE := Lib.hid (lexF_err (s.size + 1) s.data.toList (1, 1))
    have HP := Lib.hid (fun L h => lexF_placed s.data.toList (s.size + 1) 0 L (Nat.zero_le _) h)
    rw [List.drop_zero, List.take_zero, show advsI (1, 1) [] = (1, 1) from rfl] at HP
    generalize lexF (s.size + 1) s.data.toList (1, 1) = x at *
    obtain ⟨L, o⟩ := x
    cases o with
    | some y =>
      obtain ⟨⟨p1, p2⟩, er⟩ := y
      have h0 : (er == 0) = false := by rw [beq_eq_false_iff_ne]; exact HE.out _ _ rfl
      dsimp only [outL, outP, outE] at H1
      clear HE HP hlen
      go_enter Tryd.func9, Tryd.ntmps9
      go_wp2_with fail
      refine (H1.out _ HV.out).mono ?_
      rintro e w1 ⟨hb1, v1, rfl, r1⟩
      obtain ⟨o, c, rfl, _⟩ := row_shape r1
      have HB := Lib.hid (hb1.alloc hb1.size (.cells #[.int .i64 p1, .int .i64 p2] 25))
      clear hb1 r1
      go_wp2_with (first | (go_at_call 14; refine (num_any _ _).mono ?_; rintro e w' ⟨rfl, rfl⟩))
      refine (HW.out _ (HV.out.below (HB.out.mono h5))).mono ?_
      rintro e w4 ⟨rfl, hb4⟩
      go_wp2_with fail
      go_ret
      exact ⟨rfl, HB.out.trans (hb4.mono HB.out.size)⟩
    | none =>
      have hpl := HP.out L rfl
      dsimp only [outL, outP, outE] at H1 hlen
      clear HE HP
      have HPL := Lib.hid hpl
      clear hpl
      go_enter Tryd.func9, Tryd.ntmps9
      go_wp2_with fail
      refine (H1.out _ HV.out).mono ?_
      rintro e w1 ⟨hb1, v1, rfl, r1⟩
      obtain ⟨o, c, rfl, ho⟩ := row_shape r1
      have HB := Lib.hid (hb1.alloc hb1.size (.cells #[.int .i64 0, .int .i64 0] 25))
      have HO := Lib.hid ho
      have HR := Lib.hid (r1.alloc (.cells #[.int .i64 0, .int .i64 0] 25))
      clear hb1 r1 ho
      go_wp2_with (first | (go_at_call 14; refine (num_any _ _).mono ?_; rintro e w' ⟨rfl, rfl⟩))
      generalize hW2 : w1.alloc (.cells #[.int .i64 0, .int .i64 0] 25) = w2 at *
      have hz1 : w1.heap.size < w2.heap.size := by rw [← hW2, World.size_alloc]; omega
      clear hW2
      go_loopw [6, 7, 8] (fun st la n wr => ∃ (k q : Nat) (S : ByteArray) (R : List TokL), n = .int .i64 k ∧ st = .string S ∧ la = .int .i64 ((q : Int) - 1) ∧ k + R.length = L.length ∧ S.size ≤ 2 * q ∧ q ≤ s.size ∧
          Hid (R = L.drop k) ∧ Hid (S.data.toList = joined (L.take k)) ∧ Hid (Placed s.data.toList q R) ∧ Hid (Below w2.heap.size w2 wr)) (fun _ _ n _ => L.length - (intOf n).toNat)
      case atStart => exact ⟨0, 0, ⟨#[]⟩, L, rfl, rfl, rfl, by omega, Nat.le_refl _, by omega, Lib.hid rfl, Lib.hid rfl, HPL, Lib.hid (Below.refl _ _)⟩
      case round =>
        obtain ⟨k, q, S, R, rfl, rfl, rfl, hkR, hSq, hqs, HRk, HS, HPk, HBk⟩ := hrel
        by_cases hlt : k < L.length
        · obtain ⟨x, R', rfl⟩ : ∃ x R', R = x :: R' := by
            cases R with
            | nil => simp at hkR; omega
            | cons x R' => exact ⟨x, R', rfl⟩
          have hx : L[k]? = some x := by
            have e : (L.drop k)[0]? = some x := by rw [← HRk.out]; rfl
            rw [List.getElem?_drop, Nat.add_zero] at e
            exact e
          have HR' : Hid (R' = L.drop (k + 1)) := Lib.hid (by
            have e := HRk.out
            rw [drop_cons L k x hx] at e
            exact (List.cons.inj e).2)
          obtain ⟨j, hj1, hj2, hj3, hj4, hj5, hj6⟩ := placed_inv HPk.out
          obtain ⟨g, rfl, _, _⟩ := HO.out (by omega)
          obtain ⟨a0, a1, a2, a3, a4⟩ := tok_cells (ownsRow_below HR.out HBk.out (Nat.le_refl _)) k x hx _ rfl
          have HJ : Hid (joined (L.take (k + 1)) = joined (L.take k) ++ x.txt ++ [32]) := Lib.hid (by rw [take_next L k x hx, joined_snoc])
          obtain ⟨xk, xt, xn, xp1, xp2⟩ := x
          dsimp only at *
          obtain ⟨u, hu⟩ : ∃ u : ByteArray, (⟨xt.toArray⟩ : ByteArray) = u := ⟨_, rfl⟩
          have hut : u.data.toList = xt := by rw [← hu]
          have hus : xt.length = u.size := by rw [← size_list, hut]
          rw [hu] at a1
          rw [hus, size_list] at hj2
          rw [hus] at hj3 hj6
          have hu1 : 1 ≤ u.size := by
            rw [← hus]
            cases xt with
            | nil => exact absurd rfl hj5
            | cons _ _ => simp
          have hem : u.toList.isEmpty = false := by
            rw [Lib.toList_data, hut]
            cases xt with
            | nil => exact absurd rfl hj5
            | cons _ _ => rfl
          have hex : s.extract j (j + u.size) = u := by
            have e := ext_mid s j u.size _ rfl
            rw [← hj3] at e
            rw [← ba_eta (s.extract j (j + u.size)), e]
            exact hu
          have HAT := Lib.hid (fun W => at_any s (by omega) j (by omega) xp1 xp2 hj4 W)
          have HP' := Lib.hid hj6
          have HU := Lib.hid hut
          have HUU := Lib.hid hu
          have HX := Lib.hid hx
          clear hx hj3 hj4 hj5 hj6 hu hut hus HRk HPk
          go_wp2_with fail
          refine (HAT.out _).mono ?_
          rintro e wa ⟨rfl, hba⟩
          have hrw := ownsRow_below HR.out (HBk.out.trans (hba.mono HBk.out.size)) (Nat.le_refl _)
          obtain ⟨b0, b1, b2, b3, b4⟩ := tok_cells hrw k _ HX.out _ rfl
          dsimp only at b1
          rw [HUU.out] at b1
          clear a0 a1 a2 a3 a4 b0 b2 b3 b4 hrw
          have g1 : decide ((j : Int) ≤ (q : Int) - 1) = false := decide_eq_false (by omega)
          have g2 : decide ((s.size : Int) < (j : Int) + (u.size : Int)) = false := decide_eq_false (by omega)
          have HB' := Lib.hid (HBk.out.trans (hba.mono HBk.out.size))
          clear hba HBk
          go_wp2_with fail
          go_quiet (fail)
          go_wp2_with fail
          go_roundw
          case rel =>
            refine ⟨k + 1, j + u.size, S ++ u ++ ⟨#[32]⟩, R', by go_num, rfl, by go_num, by simp at hkR; omega, ?_, by omega, HR', Lib.hid ?_, HP', Lib.hid (HB'.out.trans (below_drewN' _ _ _))⟩
            · rw [ByteArray.size_append, ByteArray.size_append]
              show S.size + u.size + 1 ≤ _
              omega
            · rw [HJ.out, ByteArray.data_append, ByteArray.data_append, Array.toList_append, Array.toList_append, HS.out, HU.out]
          case measure => simp [intOf]; omega
        · obtain rfl : k = L.length := by omega
          have hSl : S.data.toList = joined L := by rw [HS.out, List.take_length]
          obtain ⟨M, hM1, hM2⟩ := lexF_joined L (placed_own HPL.out) (S.size + 1) (by rw [← hSl, size_list]; omega) (1, 1)
          have hML : M.length = L.length := by have := congrArg List.length hM2; simpa using this
          have HL2 := Lib.hid (fun W hv => lex_again S M L.length (by rw [hSl, hM1]) hML (by omega) W hv)
          have HM := Lib.hid hM2
          have HML := Lib.hid hML
          clear hSl hM1 hM2 hML HS HRk HPk HPL
          go_wp2_with fail
          refine (HL2.out _ (HV.out.below ((HB.out.trans (HBk.out.mono HB.out.size)).mono h5))).mono ?_
          rintro e w3 ⟨hb3, v2, rfl, r2⟩
          obtain ⟨o2, c2, rfl, ho2⟩ := row_shape r2
          have hb4 := hb3.alloc hb3.size (.cells #[.int .i64 0, .int .i64 0] 25)
          have HR4 := Lib.hid ((ownsRow_below (ownsRow_below HR.out HBk.out (Nat.le_refl _)) hb3 (Nat.le_refl _)).alloc (.cells #[.int .i64 0, .int .i64 0] 25))
          have HQ4 := Lib.hid (r2.alloc (.cells #[.int .i64 0, .int .i64 0] 25))
          have HB4 := Lib.hid (HBk.out.trans (hb4.mono HBk.out.size))
          have HO2 := Lib.hid ho2
          have hz : w2.heap.size ≤ wr.heap.size := HBk.out.size
          clear hb3 r2 hb4 ho2 HR HBk HL2
          go_wp2_with (first | (go_at_call 14; refine (num_any _ _).mono ?_; rintro e w' ⟨rfl, rfl⟩))
          generalize hW4 : w3.alloc (.cells #[.int .i64 0, .int .i64 0] 25) = w4 at *
          have hz3 : w3.heap.size < w4.heap.size := by rw [← hW4, World.size_alloc]; omega
          clear hW4
          go_loopw [13] (fun n wi => ∃ k : Nat, k ≤ L.length ∧ n = .int .i64 k ∧ Hid (wi.ownsRow wr.heap.size 40 5 (.slice o2 L.length c2) L.length ((L.take k ++ M.drop k).flatMap tokCells)) ∧
              Hid (wi.ownsRow w.heap.size 40 5 (.slice o L.length c) L.length (L.flatMap tokCells)) ∧ Hid (Below w2.heap.size w2 wi)) (fun n _ => L.length - (intOf n).toNat)
          case atStart => exact ⟨0, Nat.zero_le _, rfl, Lib.hid (by rw [List.take_zero, List.drop_zero, List.nil_append]; exact HQ4.out), HR4, HB4⟩
          case round =>
            obtain ⟨k, hk, rfl, HQ, HR, HBi⟩ := hrel
            by_cases hlt : k < L.length
            · obtain ⟨p, hp, hset⟩ := mixed_step HM.out k _ (List.getElem?_eq_getElem hlt)
              obtain ⟨g, rfl, hg1, hg2⟩ := HO.out (by omega)
              obtain ⟨g2, rfl, hg3, hg4⟩ := HO2.out (by omega)
              obtain ⟨_, _, _, a3, a4⟩ := tok_cells HR.out k _ (List.getElem?_eq_getElem hlt) _ rfl
              have hmix : (L.take k ++ M.drop k)[k]? = some ⟨L[k].k, L[k].txt, L[k].n, p⟩ := by
                rw [List.getElem?_append_right (by rw [List.length_take]; omega), List.length_take, Nat.min_eq_left hk, Nat.sub_self, List.getElem?_drop, Nat.add_zero, hp]
              have d3 := (HQ.out.cellAt (k * 5 + 3) (by omega)).trans (flat_at _ _ _ hmix 3 (by omega))
              have d4 := (HQ.out.cellAt (k * 5 + 4) (by omega)).trans (flat_at _ _ _ hmix 4 (by omega))
              have f3 := HQ.out.frozenAt (k * 5 + 3)
              have f4 := HQ.out.frozenAt (k * 5 + 4)
              generalize L[k] = x at *
              obtain ⟨xk, xt, xn, xp1, xp2⟩ := x
              obtain ⟨p1, p2⟩ := p
              simp only [tokCells, List.getElem?_cons_succ, List.getElem?_cons_zero] at d3 d4
              dsimp only at *
              have HSet := Lib.hid hset
              clear hset hmix hp
              go_wp2_with fail
              go_roundw
              case rel =>
                refine ⟨k + 1, by omega, by go_num, Lib.hid ?_, Lib.hid ?_, Lib.hid ((HBi.out.setCell (by simp; omega) _).setCell (by simp; omega) _)⟩
                · have e := ((HQ.out.stored (k * 5 + 3) (.int .i64 xp1)).1.stored (k * 5 + 4) (.int .i64 xp2)).1
                  rw [HSet.out] at e
                  exact e
                · refine ownsRow_block HR.out (fun g' hg' => ?_)
                  obtain rfl : g = g' := by simpa [Value.ownBlock] using hg'
                  exact (Below.heap_setCell _ _ _ _ (by simp; omega)).trans (Below.heap_setCell _ _ _ _ (by simp; omega))
              case measure => simp [intOf]; omega
            · obtain rfl : k = L.length := by omega
              have hQ' := HQ.out
              rw [mixed_end HM.out] at hQ'
              have HS := Lib.hid (same_any L (by omega) (.slice o2 L.length c2) (.slice o L.length c) _ _ _ hQ' HR.out)
              clear hQ' HQ HR
              have HBw := Lib.hid (HB.out.trans (HBi.out.mono HB.out.size))
              clear HB HBi
              go_wp2_with fail
              refine HS.out.mono ?_
              rintro e w5 ⟨rfl, hb5⟩
              have HB5 := Lib.hid (HBw.out.trans (hb5.mono HBw.out.size))
              clear HBw hb5
              go_wp2_with fail
              refine (HW.out _ (HV.out.below (HB5.out.mono h5))).mono ?_
              rintro e w6 ⟨rfl, hb6⟩
              go_wp2_with fail
              go_ret
              exact ⟨rfl, HB5.out.trans (hb6.mono HB5.out.size)⟩
end Go.Proofs.YtkkjdmpgjfkenaaDoor

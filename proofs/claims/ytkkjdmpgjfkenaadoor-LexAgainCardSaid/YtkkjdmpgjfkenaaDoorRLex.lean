/-
  The words of a text, byte by byte: by definition.
-/
import Derived.Test.YtkkjdmpgjfkenaaDoorRSpec
import Derived.Maps.AppendAt
import Derived.Deep.DeepMust
namespace Go.Proofs.YtkkjdmpgjfkenaaDoor
open Go.RowKit Go.Maps Go.WideMaps Go.Shelf

theorem ownsRow_below {n : Nat} {w w' : World} {base : Nat} {e : TypeId} {size : Nat} {v : Value} {k : Nat} {xs : List Value} (h : w.ownsRow base e size v k xs) (hb : Below n w w') (hn : w.heap.size ≤ n) : w'.ownsRow base e size v k xs := by
  rcases h with ⟨h1, h2 | ⟨g, cap, cur, hv, hb', hh, hr⟩⟩
  · exact ⟨h1, .inl h2⟩
  · exact ⟨h1, .inr ⟨g, cap, cur, hv, hb', (hb.block g (Nat.lt_of_lt_of_le (Array.getElem?_eq_some_iff.1 hh).1 hn)).trans hh, hr⟩⟩
theorem ownsRow_far {w : World} {base : Nat} {e : TypeId} {size : Nat} {v : Value} {k : Nat} {xs : List Value} (h : w.ownsRow base e size v k xs) {p : Addr} (hp : p.block < base) (u : Value) : (w.setCell p u).ownsRow base e size v k xs := by
  rcases h with ⟨h1, h2 | ⟨g, cap, cur, hv, hb', hh, hr⟩⟩
  · exact ⟨h1, .inl h2⟩
  · exact ⟨h1, .inr ⟨g, cap, cur, hv, hb', (Below.heap_setCell _ _ _ _ (by omega)).trans hh, hr⟩⟩

theorem rLex_long (t : ByteArray) (w : World) (h : 65536 < t.size) :
    Calls Tryd.prog 12 #[.string t] w fun e w' => e = .returned (.tuple #[.slice none 0 0, .agg #[.int .i64 0, .int .i64 0], .int .i64 3]) ∧ Below w.heap.size w w' := by
  go_enter Tryd.func12, Tryd.ntmps12
  go_wp2_with fail
  refine bodyPost_ret (v := .tuple #[.slice none 0 0, .agg #[.int .i64 0, .int .i64 0], .int .i64 3]) (by simp [results, Tryd.results12, go_sem]) rfl ⟨rfl, ?_⟩
  repeat (refine Below.setCell ?_ (by simp) _)
  exact (Below.refl _ _).alloc (Nat.le_refl _) _

/-- What lies between two rounds. -/
structure RMid (s : ByteArray) (w wr : World) (q : Nat) (done : List TokL) (v : Value) (p1 p2 : Int) : Prop where
  row : wr.ownsRow (w.heap.size + 2) 40 5 v done.length (done.flatMap tokCells)
  pos : Blk wr (w.heap.size + 1) 25 #[.int .i64 p1, .int .i64 p2]
  res : Blk wr w.heap.size 25 #[.int .i64 0, .int .i64 0]
  below : Below w.heap.size w wr
  l1 : 1 ≤ p1
  l2 : p1 ≤ 1 + q
  c1 : 1 ≤ p2
  c2 : p2 ≤ 1 + q
  len : done.length ≤ q
theorem RMid.set0 {s w wr q done v p1 p2} (h : RMid s w wr q done v p1 p2) (x : Int) (hx : 1 ≤ x) (hx2 : x ≤ 1 + q) : RMid s w (wr.setCell ⟨w.heap.size + 1, 0, none⟩ (.int .i64 x)) q done v x p2 :=
  ⟨ownsRow_far h.row (by simp) _, h.pos.set_ 0 _, h.res.far (by simp) _, h.below.setCell (by simp) _, hx, hx2, h.c1, h.c2, h.len⟩
theorem RMid.set1 {s w wr q done v p1 p2} (h : RMid s w wr q done v p1 p2) (x : Int) (hx : 1 ≤ x) (hx2 : x ≤ 1 + q) : RMid s w (wr.setCell ⟨w.heap.size + 1, 1, none⟩ (.int .i64 x)) q done v p1 x :=
  ⟨ownsRow_far h.row (by simp) _, h.pos.set_ 1 _, h.res.far (by simp) _, h.below.setCell (by simp) _, h.l1, h.l2, hx, hx2, h.len⟩
theorem RMid.up {s w wr q q' done v p1 p2} (h : RMid s w wr q done v p1 p2) (hq : q ≤ q') : RMid s w wr q' done v p1 p2 :=
  ⟨h.row, h.pos, h.res, h.below, h.l1, by have := h.l2; omega, h.c1, by have := h.c2; omega, by have := h.len; omega⟩
theorem RMid.on {s w wr w2 q done v p1 p2} (h : RMid s w wr q done v p1 p2) (hb : Below wr.heap.size wr w2) : RMid s w w2 q done v p1 p2 :=
  ⟨ownsRow_below h.row hb (Nat.le_refl _), h.pos.below hb h.pos.lt, h.res.below hb h.res.lt, h.below.trans (hb.mono h.below.size), h.l1, h.l2, h.c1, h.c2, h.len⟩
theorem rmid0 (s : ByteArray) (w : World) : RMid s w ((w.alloc (.cells #[.int .i64 0, .int .i64 0] 25)).alloc (.cells #[.int .i64 1, .int .i64 1] 25)) 0 [] (.slice none 0 0) 1 1 := by
  have hb := Blk.new (w.alloc (.cells #[.int .i64 0, .int .i64 0] 25)) 25 #[.int .i64 1, .int .i64 1]
  rw [World.size_alloc] at hb
  exact ⟨⟨rfl, .inl ⟨rfl, rfl⟩⟩, hb, (Blk.new w _ _).alloc _, ((Below.refl _ w).alloc (Nat.le_refl _) _).alloc (by simp) _, by omega, by omega, by omega, by omega, by simp⟩

set_option maxRecDepth 100000 in
set_option maxHeartbeats 2000000 in
theorem rLex_any (s : ByteArray) (w : World) (hs : s.size ≤ 65536) : Calls Tryd.prog 12 #[.string s] w (LexP s w) := by
  go_enter Tryd.func12, Tryd.ntmps12
  go_wp2_with fail
  go_loopw [5, 7] (fun o a wr => ∃ (q : Nat) (done : List TokL) (v : Value) (p1 p2 : Int), q ≤ s.size ∧ a = .int .i64 q ∧ v = o ∧ RMid s w wr q done v p1 p2 ∧ Hid (Comes s q done (p1, p2)))
    (fun _ a _ => s.size - (intOf a).toNat)
  case atStart => exact ⟨0, [], _, 1, 1, by omega, rfl, rfl, rmid0 s w, Comes.start s⟩
  case round =>
    obtain ⟨q, done, v, p1, p2, hq, rfl, hvo, hm, HC⟩ := hrel
    subst hvo
    have x0 := hm.pos.cell 0; have x1 := hm.pos.cell 1; have y0 := hm.pos.frozen 0; have y1 := hm.pos.frozen 1
    have z1 := hm.l1; have z2 := hm.l2; have z3 := hm.c1; have z4 := hm.c2
    by_cases hlt : q < s.size
    · by_cases h10 : s[q].toNat = 10
      · have g1 : ((s[q].toNat : Int) == 10) = true := by rw [h10]; rfl
        have HC' : Hid (Comes s (q + 1) done (p1 + 1, 1)) := by
          have := HC.out.blank hlt (by simp [isBlank, blZ, h10])
          rw [advI, if_pos h10] at this
          exact this
        have HM := Lib.hid (((hm.up (Nat.le_succ q)).set0 (p1 + 1) (by omega) (by omega)).set1 1 (by omega) (by omega))
        clear h10 HC hm
        go_wp2_with fail
        go_roundw
        case rel => exact ⟨q + 1, done, v, p1 + 1, 1, by omega, by go_num, rfl, HM.out, HC'⟩
        case measure => simp [intOf]; omega
      · have g10 : ((s[q].toNat : Int) == 10) = false := by rw [beq_eq_false_iff_ne]; omega
        by_cases hbl : isBlank s[q] = true
        · have HC' : Hid (Comes s (q + 1) done (p1, p2 + 1)) := by
            have := HC.out.blank hlt hbl
            rw [advI, if_neg h10] at this
            exact this
          have HM := Lib.hid ((hm.up (Nat.le_succ q)).set1 (p2 + 1) (by omega) (by omega))
          have hor : s[q].toNat = 32 ∨ s[q].toNat = 9 ∨ s[q].toNat = 13 := by
            simp only [isBlank, blZ, decide_eq_true_eq, List.mem_cons, List.not_mem_nil, or_false] at hbl
            omega
          clear h10 HC hm hbl
          rcases hor with h | h | h
          · have g32 : ((s[q].toNat : Int) == 32) = true := by rw [h]; rfl
            clear h
            go_wp2_with fail
            go_roundw
            case rel => exact ⟨q + 1, done, v, p1, p2 + 1, by omega, by go_num, rfl, HM.out, HC'⟩
            case measure => simp [intOf]; omega
          · have g32 : ((s[q].toNat : Int) == 32) = false := by rw [h]; rfl
            have g9 : ((s[q].toNat : Int) == 9) = true := by rw [h]; rfl
            clear h
            go_wp2_with fail
            go_roundw
            case rel => exact ⟨q + 1, done, v, p1, p2 + 1, by omega, by go_num, rfl, HM.out, HC'⟩
            case measure => simp [intOf]; omega
          · have g32 : ((s[q].toNat : Int) == 32) = false := by rw [h]; rfl
            have g9 : ((s[q].toNat : Int) == 9) = false := by rw [h]; rfl
            have g13 : ((s[q].toNat : Int) == 13) = true := by rw [h]; rfl
            clear h
            go_wp2_with fail
            go_roundw
            case rel => exact ⟨q + 1, done, v, p1, p2 + 1, by omega, by go_num, rfl, HM.out, HC'⟩
            case measure => simp [intOf]; omega
        · have hbl' : isBlank s[q] = false := by simpa using hbl
          have hno : s[q].toNat ≠ 32 ∧ s[q].toNat ≠ 9 ∧ s[q].toNat ≠ 13 := by
            simp only [isBlank, blZ, decide_eq_true_eq, List.mem_cons, List.not_mem_nil, or_false] at hbl
            omega
          obtain ⟨n32, n9, n13⟩ := hno
          have g32 : ((s[q].toNat : Int) == 32) = false := by rw [beq_eq_false_iff_ne]; omega
          have g9 : ((s[q].toNat : Int) == 9) = false := by rw [beq_eq_false_iff_ne]; omega
          have g13 : ((s[q].toNat : Int) == 13) = false := by rw [beq_eq_false_iff_ne]; omega
          clear n32 n9 n13 hbl
          by_cases h35 : s[q].toNat = 35
          · have g35 : ((s[q].toNat : Int) == 35) = true := by rw [h35]; rfl
            have HCC := Lib.hid (HC.out.hash hlt h35)
            have H35 := Lib.hid h35
            have HM := Lib.hid hm
            clear h10 HC hbl' h35 hm
            go_wp2_with fail
            clear x0 x1 y0 y1 z3 z4 g10 g32 g9 g13 g35
            go_loopw [7] (fun a wi => ∃ (k : Nat) (r2 : Int), q ≤ k ∧ k ≤ s.size ∧ a = .int .i64 k ∧ RMid s w wi k done v p1 r2 ∧ Hid (ComesC s k done (p1, r2)))
              (fun a _ => s.size - (intOf a).toNat)
            case atStart => exact ⟨q, p2, by omega, by omega, rfl, HM.out, HCC⟩
            case round =>
              obtain ⟨k, r2, hqk, hks, rfl, hm, HCk⟩ := hrel
              have x0 := hm.pos.cell 0; have x1 := hm.pos.cell 1; have y0 := hm.pos.frozen 0; have y1 := hm.pos.frozen 1
              have z3 := hm.c1; have z4 := hm.c2
              by_cases hkl : k < s.size
              · by_cases h10 : s[k].toNat = 10
                · have g10 : ((s[k].toNat : Int) != 10) = false := by rw [h10]; rfl
                  have hk1 : q < k := by
                    by_cases e : q = k
                    · subst e; have := H35.out; omega
                    · omega
                  have HC' := Lib.hid (HCk.out.leave (fun _ => h10))
                  have HM' := Lib.hid hm
                  clear h10 HCk hm
                  go_wp2_with fail
                  go_roundw
                  case rel => exact ⟨k, done, v, p1, r2, by omega, rfl, rfl, HM'.out, HC'⟩
                  case measure => simp [intOf]; omega
                · have g10 : ((s[k].toNat : Int) != 10) = true := by rw [bne_iff_ne]; omega
                  have HC' := Lib.hid (HCk.out.step hkl h10)
                  have HM' := Lib.hid ((hm.up (Nat.le_succ k)).set1 (r2 + 1) (by omega) (by omega))
                  clear h10 HCk hm
                  go_wp2_with fail
                  go_roundw
                  case rel => exact ⟨k + 1, r2 + 1, by omega, by omega, by go_num, HM'.out, HC'⟩
                  case measure => simp [intOf]; omega
              · have hk1 : q < k := by omega
                have HC' := Lib.hid (HCk.out.leave (fun h => absurd h hkl))
                have HM' := Lib.hid hm
                clear HCk hm
                go_wp2_with fail
                go_roundw
                case rel => exact ⟨k, done, v, p1, r2, by omega, rfl, rfl, HM'.out, HC'⟩
                case measure => simp [intOf]; omega
          · have g35 : ((s[q].toNat : Int) == 35) = false := by rw [beq_eq_false_iff_ne]; omega
            have h1 := fun W => one_any s (by omega) q hlt W
            unfold OneP at h1
            have hgood := fun he => HC.out.word hlt hbl' h35 he
            have hbad := fun he => HC.out.bad hlt hbl' h35 he
            generalize wordS (s.data.toList.drop q) = wd at *
            obtain ⟨k, n, er, m⟩ := wd
            dsimp only at h1 hgood hbad
            have H1 := Lib.hid h1
            clear h1 h10 hbl' h35 HC
            by_cases her : er = 0
            · subst her
              obtain ⟨hqm, hm1, hc⟩ := hgood rfl
              have HC' := Lib.hid hc
              clear hgood hbad hc
              go_wp2_with fail
              refine (H1.out _).mono ?_
              rintro e w2 ⟨⟨_, u, hu, rfl⟩ | ⟨h, _⟩, hb2⟩
              rotate_left
              · exact absurd rfl h
              dsimp only [tokV]
              have hm2 := hm.on hb2
              clear x0 x1 y0 y1 hm hb2 H1
              have x0 := hm2.pos.cell 0; have x1 := hm2.pos.cell 1; have y0 := hm2.pos.frozen 0; have y1 := hm2.pos.frozen 1
              have hsz := hm2.pos.lt
              have hrl := fun g hg => hm2.row.lt g hg
              have hX : ∀ o, ((w2.alloc (.cells #[.int .i64 k, .string u, .int .i64 n, .int .i64 p1, .int .i64 p2] 40)).alloc o).ownsRow (w.heap.size + 2) 40 5 v done.length (done.flatMap tokCells) := fun o => by
                refine World.ownsRow.alloc (ownsRow_block hm2.row (fun g hg => ?_)) o
                have := hrl g hg
                exact Below.heap_alloc _ _ _ (by omega)
              have hlx : ∀ (c : Array Value) (b : Nat) (o : Obj), Blk w2 b 25 c → Blk ((w2.alloc (.cells #[.int .i64 k, .string u, .int .i64 n, .int .i64 p1, .int .i64 p2] 40)).alloc o) b 25 c :=
                fun c b o h2 => (h2.alloc _).alloc o
              have hcl := cells_five (w2.alloc (.cells #[.int .i64 k, .string u, .int .i64 n, .int .i64 p1, .int .i64 p2] 40)) (.int .i64 k) (.string u) (.int .i64 n) (.int .i64 p1) (.int .i64 p2) 40
              rw [show (w2.alloc (.cells #[.int .i64 k, .string u, .int .i64 n, .int .i64 p1, .int .i64 p2] 40)).heap.size = w2.heap.size + 1 from World.size_alloc _ _] at hcl
              have hq5 : ∀ o, w.heap.size + 2 ≤ ((w2.alloc (.cells #[.int .i64 k, .string u, .int .i64 n, .int .i64 p1, .int .i64 p2] 40)).alloc o).heap.size := fun o => by simp; omega
              have hO : ∀ o, Only (fun j => w.heap.size ≤ j) w ((w2.alloc (.cells #[.int .i64 k, .string u, .int .i64 n, .int .i64 p1, .int .i64 p2] 40)).alloc o) := fun o =>
                ((Only.of_below hm2.below).alloc _).alloc o
              have HNE : Hid (∀ (b : Nat), b < w.heap.size + 2 → some b ≠ v.ownBlock) := fun b hb e => absurd (hrl b e.symm).1 (by omega)
              obtain ⟨i0, hi, hz0, hz1, hz2⟩ := info_parts tokInfo
              have hq1 : done.length + 1 ≤ maxLen := by have := hm2.len; unfold maxLen; omega
              have hq2 : (done.length + 1) * 48 ≤ 140737488355328 := by have := hm2.len; omega
              have HX := Lib.hid hX; have HCL := Lib.hid hcl; have HM2 := Lib.hid hm2; have HO := Lib.hid hO
              have HP := Lib.hid (fun o => hlx _ _ o hm2.pos)
              have HR := Lib.hid (fun o => hlx _ _ o hm2.res)
              have HRL := Lib.hid hrl
              clear hX hcl hm2 hO hlx hrl
              go_wp2_with (first
                | (at_builtin; go_must (refine wpList_append_own _ rfl _ _ 23 rfl (w.heap.size + 2) 40 i0 _ 5 48 Tryd.underlying23 hi hz0 hz1 hz2 rfl (by decide) _ _ _ rfl (HX.out _) ⟨w2.heap.size + 1, 0, none⟩ 1 1 [.int .i64 k, .string u, .int .i64 n, .int .i64 p1, .int .i64 p2] rfl rfl HCL.out (by simp [Value.oneCell']) hq1 hq2 (hq5 _) ?_); intro v' w3 hown1 hgrow1 _; obtain ⟨g', cap', rfl⟩ := ownsRow_succ hown1; have lw := (HP.out _).grown hgrow1 (fun e => HNE.out _ (by omega) e); have lr := (HR.out _).grown hgrow1 (fun e => HNE.out _ (by omega) e); have lo := (HO.out _).grown hgrow1 (fun j hj => .inl (by have := (HRL.out j hj).1; omega)); have lw1 := lw.cell 1; have lw2 := lw.frozen 1; have O1 := Lib.hid hown1; have LW := Lib.hid lw; have LR := Lib.hid lr; have LO := Lib.hid lo; clear hgrow1 hown1 lw lr lo))
              go_roundw
              case rel =>
                refine ⟨q + m, _, _, p1, p2 + m, by omega, by go_num, rfl, ⟨?_, LW.out.set_ 1 _, LR.out.far (by simp) _, ?_, by omega, by omega, by omega, by omega, ?_⟩, HC'⟩
                · rw [List.flatMap_append, List.length_append]
                  simp only [List.flatMap_cons, List.flatMap_nil, List.append_nil, List.length_cons, List.length_nil, tokCells, ← hu, ba_eta]
                  exact ownsRow_far O1.out (by simp) _
                · exact (LO.out.setCell (p := ⟨w.heap.size + 1, 1, none⟩) (.inl (by simp)) _).below (Nat.le_refl _) (fun j hj => hj)
                · have := HM2.out.len
                  rw [List.length_append]
                  simp only [List.length_cons, List.length_nil]
                  omega
              case measure => simp [intOf]; omega
            · have HL := Lib.hid (hbad her)
              have ger : (er != 0) = true := by rw [bne_iff_ne]; exact her
              clear hgood hbad
              have HM := Lib.hid hm
              clear hm
              go_wp2_with fail
              refine (H1.out _).mono ?_
              rintro e w2 ⟨⟨h, _⟩ | ⟨_, rfl⟩, hb2⟩
              · exact absurd h her
              dsimp only [tokV]
              have hm2 := HM.out.on hb2
              clear x0 x1 y0 y1 hb2 H1 HM
              have x0 := hm2.pos.cell 0; have x1 := hm2.pos.cell 1; have y0 := hm2.pos.frozen 0; have y1 := hm2.pos.frozen 1
              have hr' := hm2.res.alloc (.cells #[.int .i64 0, .string ByteArray.empty, .int .i64 0, .int .i64 0, .int .i64 0] 40)
              have r0 : (w2.alloc (.cells #[.int .i64 0, .string ByteArray.empty, .int .i64 0, .int .i64 0, .int .i64 0] 40)).cell? ⟨w.heap.size, 0, none⟩ = some (.int .i64 0) := hr'.cell 0
              have r1 : (w2.alloc (.cells #[.int .i64 0, .string ByteArray.empty, .int .i64 0, .int .i64 0, .int .i64 0] 40)).cell? ⟨w.heap.size, 1, none⟩ = some (.int .i64 0) := hr'.cell 1
              have f0 := hr'.frozen 0; have f1 := hr'.frozen 1
              clear hr'
              have HB := Lib.hid hm2.below
              have hsz := hm2.pos.lt
              have mixed : Tryd.prog.follows .mixedOrders = true := by kernel_rfl
              clear hm2
              go_wp2_with fail
              go_region
              go_wp2_with fail
              refine bodyPost_ret (v := .tuple #[.slice none 0 0, .agg #[.int .i64 p1, .int .i64 p2], .int .i64 er]) (by simp [results, Tryd.results12, go_sem, r0, r1]) rfl ⟨?_, .inr ⟨(p1, p2), er, by rw [HL.out], rfl⟩⟩
              repeat (first | refine Below.drew ?_ | refine Below.setCell ?_ (by simp) _)
              exact HB.out.alloc HB.out.size _
    · have HD := Lib.hid (HC.out.done (by omega))
      have HM := Lib.hid hm
      have r0 := hm.res.cell 0; have r1 := hm.res.cell 1; have f0 := hm.res.frozen 0; have f1 := hm.res.frozen 1
      clear HC hm
      go_wp2_with fail
      refine bodyPost_ret (v := .tuple #[v, .agg #[.int .i64 0, .int .i64 0], .int .i64 0]) (by simp [results, Tryd.results12, go_sem, r0, r1]) rfl ⟨?_, .inl ⟨by rw [HD.out], v, rfl, ?_⟩⟩
      · repeat (refine Below.setCell ?_ (by simp) _)
        exact HM.out.below
      · rw [HD.out]
        have hrow := HM.out.row
        have h1 := ownsRow_far (p := ⟨w.heap.size, 0, none⟩) hrow (by simp) (.int .i64 0)
        have h2 := ownsRow_far (p := ⟨w.heap.size, 1, none⟩) h1 (by simp) (.int .i64 0)
        exact ownsRow_base h2 (by omega)
end Go.Proofs.YtkkjdmpgjfkenaaDoor

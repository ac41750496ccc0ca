/-
  The statement 'SyncOrder': values are received as they were sent, each once, by rising numbers; who waits is woken in the order of coming; a mutex has one owner.
-/
import Derived.Test.YtgegagnpaagdkaaOrd
namespace Go.Proofs.Ytgegagnpaagdkaa
open Go.RowKit

theorem row_at {w : World} {base n c : Nat} {T : TypeId} {o : Option Addr} {zs : List Int} (h : w.ownsRow base T 1 (.slice o n c) n (zs.map (Value.int .i64))) {j : Nat} {z : Int} (hz : zs[j]? = some z) : ∃ g, o = some ⟨g, 0, none⟩ ∧ w.cell? ⟨g, j, none⟩ = some (.int .i64 z) := by
  obtain ⟨hn, _⟩ := ints_of_row h
  have hlt : j < zs.length := (List.getElem?_eq_some_iff.1 hz).1
  obtain ⟨g', c', e, _⟩ := h.form (by omega)
  injection e with e1
  rw [e1] at h
  exact ⟨g', e1, by rw [h.cellAt j (by omega), List.getElem?_map, hz]; rfl⟩
theorem row_cap {w : World} {base n c : Nat} {T : TypeId} {o : Option Addr} {xs : List Value} (h : w.ownsRow base T 1 (.slice o n c) n xs) : n ≤ c ∧ c ≤ 9223372036854775807 ∧ (o = none → c = 0) ∧ ∀ a, o = some a → ∃ g, a = ⟨g, 0, none⟩ := by
  rcases h.2 with ⟨e, h0⟩ | ⟨g, cap, cur, e, _, _, hn, hm, _⟩
  · injection e with e1 e2 e3
    subst e1; subst e3
    exact ⟨by omega, by omega, fun _ => rfl, fun a ha => by cases ha⟩
  · injection e with e1 e2 e3
    subst e1; subst e3
    unfold maxLen at hm
    exact ⟨hn, by omega, fun h => (by cases h), fun a ha => ⟨g, (by injection ha with ha; exact ha.symm)⟩⟩
theorem ints_drop {w : World} {base n c : Nat} {T : TypeId} {g : Nat} {zs : List Int} (h : w.ownsRow base T 1 (.slice (some ⟨g, 0, none⟩) n c) n (zs.map (Value.int .i64))) (k : Nat) : IntsAt w (some ⟨g, k, none⟩) (zs.drop k) :=
  ⟨fun _ => ⟨g, k, rfl⟩, fun g' off he j z hz => by
    injection he with he
    injection he with e1 e2
    subst e1; subst e2
    obtain ⟨hn, _⟩ := ints_of_row h
    rw [List.getElem?_drop] at hz
    have hlt := (List.getElem?_eq_some_iff.1 hz).1
    rw [h.cellAt (k + j) (by omega), List.getElem?_map, hz]; rfl⟩
theorem ord_unlock_all {owner t : Int} {came ins : List Int} {woken out : Nat} {room : Int} (ho : -1 ≤ owner ∧ owner ≤ 7) :
    (owner = t ∧ 0 ≤ owner ∧ unlockS (ordS owner came woken room ins out) 0 t = (ordS (-1) came woken room ins out, 0)) ∨ ∃ f, f ≠ 0 ∧ (0 ≤ owner → owner ≠ t) ∧ unlockS (ordS owner came woken room ins out) 0 t = (ordS owner came woken room ins out, f) := by
  cases ht : inB 0 7 t with
  | false =>
    refine .inr ⟨2, by omega, fun h e => ?_, ord_unlock_bad ht⟩
    subst e
    simp [inB] at ht; omega
  | true =>
    by_cases h : owner = t
    · subst h
      refine .inl ⟨rfl, ?_, ord_unlock_yes ht⟩
      simp [inB] at ht; omega
    · exact .inr ⟨140, by omega, fun _ => h, ord_unlock_no ht h⟩

set_option maxRecDepth 100000 in
set_option maxHeartbeats 8000000 in
theorem lawOrder_main (room : Int) (h1 : 1 ≤ room) (h16 : room ≤ 16) (o : Option Addr) (cp : Nat) (xs : List ActL) (hl : xs.length ≤ 100) (W : World) (ha : ActsAt W o xs) :
    Calls Try.prog 10 #[.int .i64 room, .slice o xs.length cp] W fun e w' => e = .returned (.bool true) ∧ Below W.heap.size W w' := by
  have HA := Lib.hid ha
  clear ha
  have hrs : [room].all (inB 1 16) = true := by simp [inB]; omega
  have HNW := Lib.hid (fun w (hb : Blk w W.heap.size 3 #[.int .i64 room]) (hl : Below W.heap.size W w) => st_new (W := W) (w := w) 1 1 (some ⟨W.heap.size, 0, none⟩) 1 [room] (by omega) (by omega) (by simp) (ints_one w W.heap.size _ room hb) hrs hl)
  have HWK := Lib.hid (fun w => works_any w)
  obtain ⟨i0, hi, hz0, hz1, hz2⟩ := info_parts infoint
  obtain ⟨i6, hi6, hz60, hz61, hz62⟩ := info_parts infoint64
  clear hrs
  go_enter Try.func10, Try.ntmps10
  go_wp2_with fail
  refine (HNW.out _ (Blk.new _ _ _) ((Below.refl _ _).alloc (Nat.le_refl _) _)).mono ?_
  rintro e w1 ⟨p, F1, rfl, hs1, hb1, _⟩
  have HO1 : Hid (OrdI W w1 p 0 F1 room (-1) [] [] 0 0 none 0 none 0) := Lib.hid (OrdI.mk hs1 (World.ownsRow_nil _ _ _ _) (World.ownsRow_nil _ _ _ _) (fun b hb => by cases hb) (fun b hb => by cases hb) (by simp) (by simp) (by simp) (by simp) (by omega))
  clear hs1 hb1 HNW
  go_wp2_with fail
  go_loopw [7, 8, 9, 10, 11, 12] (fun v7 v8 v9 v10 v11 v12 wr => ∃ (k : Nat) (owner : Int) (ins came : List Int) (out woken : Nat) (o7 : Option Addr) (c7 : Nat) (o8 : Option Addr) (c8 : Nat) (F : Nat → Prop),
      v7 = .slice o7 ins.length c7 ∧ v8 = .slice o8 came.length c8 ∧ v9 = .int .i64 out ∧ v10 = .int .i64 woken ∧ v11 = .int .i64 owner ∧ v12 = .int .i64 k ∧ k ≤ xs.length ∧ Hid (OrdI W wr p k F room owner ins came out woken o7 c7 o8 c8)) (fun _ _ _ _ _ i _ => xs.length - (intOf i).toNat)
  case atStart => exact ⟨0, -1, [], [], 0, 0, none, 0, none, 0, F1, rfl, rfl, rfl, rfl, rfl, rfl, Nat.zero_le _, HO1⟩
  case round =>
    obtain ⟨k, owner, ins, came, out, woken, o7, c7, o8, c8, F, rfl, rfl, rfl, rfl, rfl, rfl, hk, HO⟩ := hrel
    clear HO1
    obtain ⟨ho1, ho2⟩ := HO.out.own
    have hl7 := HO.out.l7; have hl8 := HO.out.l8; have hlo := HO.out.lo; have hlw := HO.out.lw
    by_cases hlt : k < xs.length
    · obtain ⟨x, hx⟩ : ∃ x, xs[k]? = some x := ⟨_, List.getElem?_eq_getElem hlt⟩
      obtain ⟨g, off, rfl⟩ := HA.out.1 (by omega)
      obtain ⟨x0, x1, x2, x3⟩ := (HA.out.below HO.out.st.low).2 g off rfl k x hx
      obtain ⟨what, xn, t, v⟩ := x
      dsimp only at x0 x1 x2 x3
      have HX : Hid (OrdI W (wr.alloc (.cells #[.int .i64 what, .int .i64 xn, .int .i64 t, .int .i64 v] 62)) p k F room owner ins came out woken o7 c7 o8 c8) := HO.out.below ((Below.refl _ _).alloc (Nat.le_refl _) _)
      have HFB : Hid (∀ b, F b → b < wr.heap.size) := fun b hb => (HO.out.st.lt hb).2
      have HBX := Lib.hid (Blk.new wr 62 #[.int .i64 what, .int .i64 xn, .int .i64 t, .int .i64 v])
      have HBK : Hid (∀ w2, Only F (wr.alloc (.cells #[.int .i64 what, .int .i64 xn, .int .i64 t, .int .i64 v] 62)) w2 → w2.cell? ⟨wr.heap.size, 2, none⟩ = some (.int .i64 t) ∧ w2.cell? ⟨wr.heap.size, 3, none⟩ = some (.int .i64 v)) := fun w2 hO => by
        have hb := HBX.out.only hO (fun h => by have := HFB.out _ h; omega)
        exact ⟨hb.cell 2, hb.cell 3⟩
      clear hx
      by_cases h0 : what = 0
      · as_aux_lemma =>
        subst h0
        cases ht : inB 0 7 t with
        | false =>
          have HE := Lib.hid (ord_lock_bad (owner := owner) (room := room) (came := came) (ins := ins) (woken := woken) (out := out) ht)
          clear ht
          go_wp2_with fail
          refine (st_lock HX.out.st 0 t HE.out).mono ?_
          rintro e w2 ⟨rfl, hn⟩
          obtain ⟨F', hn'⟩ := HX.out.next hn (by omega) rfl hlo hlw ⟨ho1, ho2⟩
          have HN := Lib.hid hn'
          clear hn hn'
          go_wp2_with (first | (go_at_call 23; refine (num_any _ _).mono ?_; rintro e w' ⟨rfl, rfl⟩))
          go_roundw
          case rel => exact ⟨k + 1, owner, ins, came, out, woken, o7, c7, o8, c8, F', rfl, rfl, rfl, rfl, rfl, by go_num, by omega, HN⟩
          case measure => simp [intOf]; omega
        | true =>
          by_cases hm1 : owner = -1
          · subst hm1
            have HE := Lib.hid (ord_lock_yes (room := room) (came := came) (ins := ins) (woken := woken) (out := out) ht)
            have hti : -1 ≤ t ∧ t ≤ 7 := by simp [inB] at ht; omega
            clear ht
            go_wp2_with fail
            refine (st_lock HX.out.st 0 t HE.out).mono ?_
            rintro e w2 ⟨rfl, hn⟩
            have hn0 := hn
            obtain ⟨_, _, hO, _⟩ := hn0
            obtain ⟨b2, b3⟩ := HBK.out w2 hO
            obtain ⟨F', hn'⟩ := HX.out.next hn (by omega) rfl hlo hlw hti
            have HN := Lib.hid hn'
            clear hn hn' hO
            go_wp2_with (first | (go_at_call 23; refine (num_any _ _).mono ?_; rintro e w' ⟨rfl, rfl⟩))
            go_roundw
            case rel => exact ⟨k + 1, t, ins, came, out, woken, o7, c7, o8, c8, F', rfl, rfl, rfl, rfl, rfl, by go_num, by omega, HN⟩
            case measure => simp [intOf]; omega
          · have HE := Lib.hid (ord_lock_no (owner := owner) (room := room) (came := came) (ins := ins) (woken := woken) (out := out) ht hm1)
            have hge : 0 ≤ owner := by omega
            clear ht hm1
            go_wp2_with fail
            refine (st_lock HX.out.st 0 t HE.out).mono ?_
            rintro e w2 ⟨rfl, hn⟩
            obtain ⟨F', hn'⟩ := HX.out.next hn (by omega) rfl hlo hlw ⟨ho1, ho2⟩
            have HN := Lib.hid hn'
            clear hn hn'
            go_wp2_with (first | (go_at_call 23; refine (num_any _ _).mono ?_; rintro e w' ⟨rfl, rfl⟩))
            go_roundw
            case rel => exact ⟨k + 1, owner, ins, came, out, woken, o7, c7, o8, c8, F', rfl, rfl, rfl, rfl, rfl, by go_num, by omega, HN⟩
            case measure => simp [intOf]; omega
      · have e0 : (what == 0) = false := by rw [beq_eq_false_iff_ne]; exact h0
        by_cases h1' : what = 1
        · as_aux_lemma =>
          subst h1'
          clear h0
          rcases ord_unlock_all (room := room) (came := came) (ins := ins) (woken := woken) (out := out) (t := t) ⟨ho1, ho2⟩ with ⟨rfl, hge, hE⟩ | ⟨f, hf, hot, hE⟩
          · have HE := Lib.hid hE
            clear hE
            go_wp2_with fail
            refine (st_unlock HX.out.st 0 owner HE.out).mono ?_
            rintro e w2 ⟨rfl, hn⟩
            have hn0 := hn
            obtain ⟨_, _, hO, _⟩ := hn0
            obtain ⟨b2, b3⟩ := HBK.out w2 hO
            obtain ⟨F', hn'⟩ := HX.out.next hn (by omega) rfl hlo hlw (by omega)
            have HN := Lib.hid hn'
            clear hn hn' hO
            go_wp2_with (first | (go_at_call 23; refine (num_any _ _).mono ?_; rintro e w' ⟨rfl, rfl⟩))
            go_roundw
            case rel => exact ⟨k + 1, -1, ins, came, out, woken, o7, c7, o8, c8, F', rfl, rfl, rfl, rfl, rfl, by go_num, by omega, HN⟩
            case measure => simp [intOf]; omega
          · have HE := Lib.hid hE
            have hf0 : (f == 0) = false := by rw [beq_eq_false_iff_ne]; exact hf
            clear hE hf
            by_cases hge : 0 ≤ owner
            · have hot' : (owner == t) = false := by rw [beq_eq_false_iff_ne]; exact hot hge
              clear hot
              go_wp2_with fail
              refine (st_unlock HX.out.st 0 t HE.out).mono ?_
              rintro e w2 ⟨rfl, hn⟩
              have hn0 := hn
              obtain ⟨_, _, hO, _⟩ := hn0
              obtain ⟨b2, b3⟩ := HBK.out w2 hO
              obtain ⟨F', hn'⟩ := HX.out.next hn (by omega) rfl hlo hlw ⟨ho1, ho2⟩
              have HN := Lib.hid hn'
              clear hn hn' hO
              go_wp2_with (first | (go_at_call 23; refine (num_any _ _).mono ?_; rintro e w' ⟨rfl, rfl⟩))
              go_roundw
              case rel => exact ⟨k + 1, owner, ins, came, out, woken, o7, c7, o8, c8, F', rfl, rfl, rfl, rfl, rfl, by go_num, by omega, HN⟩
              case measure => simp [intOf]; omega
            · have hlt0 : owner < 0 := by omega
              clear hot
              go_wp2_with fail
              refine (st_unlock HX.out.st 0 t HE.out).mono ?_
              rintro e w2 ⟨rfl, hn⟩
              have hn0 := hn
              obtain ⟨_, _, hO, _⟩ := hn0
              obtain ⟨b2, b3⟩ := HBK.out w2 hO
              obtain ⟨F', hn'⟩ := HX.out.next hn (by omega) rfl hlo hlw ⟨ho1, ho2⟩
              have HN := Lib.hid hn'
              clear hn hn' hO
              go_wp2_with (first | (go_at_call 23; refine (num_any _ _).mono ?_; rintro e w' ⟨rfl, rfl⟩))
              go_roundw
              case rel => exact ⟨k + 1, owner, ins, came, out, woken, o7, c7, o8, c8, F', rfl, rfl, rfl, rfl, rfl, by go_num, by omega, HN⟩
              case measure => simp [intOf]; omega
        have e1 : (what == 1) = false := by rw [beq_eq_false_iff_ne]; exact h1'
        by_cases h2 : what = 2
        · as_aux_lemma =>
          subst h2
          clear h0 h1'
          rcases ord_wait (owner := owner) (room := room) (ins := ins) (out := out) (t := t) hlw with ⟨f, hf, hE⟩ | hE
          · have HE := Lib.hid hE
            have hf0 : (f == 0) = false := by rw [beq_eq_false_iff_ne]; exact hf
            clear hE hf
            go_wp2_with fail
            refine (st_wait HX.out.st (by omega) 0 t HE.out).mono ?_
            rintro e w2 ⟨rfl, hn⟩
            obtain ⟨F', hn'⟩ := HX.out.next hn (by omega) rfl hlo hlw ⟨ho1, ho2⟩
            have HN := Lib.hid hn'
            clear hn hn'
            go_wp2_with (first | (go_at_call 23; refine (num_any _ _).mono ?_; rintro e w' ⟨rfl, rfl⟩))
            go_roundw
            case rel => exact ⟨k + 1, owner, ins, came, out, woken, o7, c7, o8, c8, F', rfl, rfl, rfl, rfl, rfl, by go_num, by omega, HN⟩
            case measure => simp [intOf]; omega
          · have HE := Lib.hid hE
            clear hE
            go_wp2_with fail
            refine (st_wait HX.out.st (by omega) 0 t HE.out).mono ?_
            rintro e w2 ⟨rfl, F', hst, hO, hF⟩
            obtain ⟨b2, b3⟩ := HBK.out w2 hO
            have r7 := ownsRow_block HX.out.r7 (fun g hg => hO.block g (HX.out.r7.lt g hg).2 (HX.out.a7 g hg))
            have r8 := ownsRow_block HX.out.r8 (fun g hg => hO.block g (HX.out.r8.lt g hg).2 (HX.out.a8 g hg))
            have a7 : ∀ b, (Value.slice o7 ins.length c7).ownBlock = some b → ¬ F' b := fun b hb hf => by
              rcases hF b hf with h | h
              · exact HX.out.a7 b hb h
              · have := (HX.out.r7.lt b hb).2; omega
            have a8 : ∀ b, (Value.slice o8 came.length c8).ownBlock = some b → ¬ F' b := fun b hb hf => by
              rcases hF b hf with h | h
              · exact HX.out.a8 b hb h
              · have := (HX.out.r8.lt b hb).2; omega
            have HST := Lib.hid hst; have R7 := Lib.hid r7; have R8 := Lib.hid r8; have A7 := Lib.hid a7; have A8 := Lib.hid a8
            have P1 := Lib.hid (r8.alloc (.cells #[.int .i64 t] 3))
            have P2 := Lib.hid (one_cell _ _ _ _ (Blk.new w2 3 #[.int .i64 t]))
            have P3 : Hid (∀ u ∈ [Value.int .i64 t], u.oneCell' = true) := by intro u hu; simp at hu; subst hu; rfl
            have P4 : Hid ((w2.alloc (.cells #[.int .i64 t] 3)).heap.size = w2.heap.size + 1) := Lib.hid (by simp)
            have P5 : Hid (came.length + 1 ≤ maxLen) := Lib.hid (by unfold maxLen; omega)
            have hW2 : W.heap.size ≤ (w2.alloc (.cells #[.int .i64 t] 3)).heap.size := by have := hst.low.size; simp; omega
            clear hst hO hF r7 r8 a7 a8
            go_wp2_with (first
              | (go_at_call 23; refine (num_any _ _).mono ?_; rintro e w' ⟨rfl, rfl⟩)
              | (at_builtin; go_must (refine wpList_append_lies _ rfl _ _ 22 rfl W.heap.size 3 i0 _ 1 8 Try.underlying22 hi hz0 hz1 hz2 rfl (by decide) _ _ _ rfl P1.out ⟨w2.heap.size, 0, none⟩ 1 1 [.int .i64 t] rfl rfl P2.out P3.out (by decide) P5.out (by omega) hW2 (w2.heap.size + 1) P4.out ?_); intro g1 cap1 w3 hown1 hgrow hor hlt1; have Q1 := Lib.hid hown1; have Q2 := Lib.hid hgrow; have Q3 := Lib.hid hor; clear hown1 hgrow hor hlt1))
            have HN := Lib.hid (OrdI.came1 HST.out R7.out R8.out A7.out A8.out Q1.out Q2.out Q3.out hl7 hl8 hlo hlw ⟨ho1, ho2⟩)
            go_roundw
            case rel => exact ⟨k + 1, owner, ins, came ++ [t], out, woken, o7, c7, some ⟨g1, 0, none⟩, cap1, F', rfl, by rw [List.length_append]; rfl, rfl, rfl, rfl, by go_num, by omega, HN⟩
            case measure => simp [intOf]; omega
        have e2 : (what == 2) = false := by rw [beq_eq_false_iff_ne]; exact h2
        by_cases h3 : what = 3
        · as_aux_lemma =>
          subst h3
          clear h0 h1' h2
          by_cases hwl : woken < came.length
          · obtain ⟨z, hz⟩ : ∃ z, came[woken]? = some z := ⟨_, List.getElem?_eq_getElem hwl⟩
            have HE := Lib.hid (ord_signal_yes (owner := owner) (room := room) (ins := ins) (out := out) hz)
            have HZ := Lib.hid hz
            clear hz
            go_wp2_with fail
            refine (st_signal HX.out.st (by omega) 0 HE.out).mono ?_
            rintro e w2 ⟨rfl, hn⟩
            obtain ⟨F', hn'⟩ := HX.out.next hn (by omega) rfl hlo (by omega) ⟨ho1, ho2⟩
            have HN := Lib.hid hn'
            clear hn hn'
            obtain ⟨g8, he8, k8⟩ := row_at HN.out.r8 HZ.out
            subst he8
            go_wp2_with (first | (go_at_call 23; refine (num_any _ _).mono ?_; rintro e w' ⟨rfl, rfl⟩))
            go_roundw
            case rel => exact ⟨k + 1, owner, ins, came, out, woken + 1, o7, c7, some ⟨g8, 0, none⟩, c8, F', rfl, rfl, rfl, by go_num, rfl, by go_num, by omega, HN⟩
            case measure => simp [intOf]; omega
          · have hwe : woken = came.length := by omega
            have HE := Lib.hid (ord_signal_no (owner := owner) (room := room) (ins := ins) (out := out) hwe)
            clear hwe
            go_wp2_with fail
            refine (st_signal HX.out.st (by omega) 0 HE.out).mono ?_
            rintro e w2 ⟨rfl, hn⟩
            obtain ⟨F', hn'⟩ := HX.out.next hn (by omega) rfl hlo hlw ⟨ho1, ho2⟩
            have HN := Lib.hid hn'
            clear hn hn'
            go_wp2_with (first | (go_at_call 23; refine (num_any _ _).mono ?_; rintro e w' ⟨rfl, rfl⟩))
            go_roundw
            case rel => exact ⟨k + 1, owner, ins, came, out, woken, o7, c7, o8, c8, F', rfl, rfl, rfl, rfl, rfl, by go_num, by omega, HN⟩
            case measure => simp [intOf]; omega
        have e3 : (what == 3) = false := by rw [beq_eq_false_iff_ne]; exact h3
        by_cases h5 : what = 5
        · as_aux_lemma =>
          subst h5
          clear h0 h1' h2 h3
          cases hv : inB (-2147483648) 2147483647 v with
          | false =>
            have HE := Lib.hid (ord_send_bad (owner := owner) (room := room) (came := came) (ins := ins) (woken := woken) (out := out) hv)
            clear hv
            go_wp2_with fail
            refine (st_send HX.out.st (by omega) 0 v HE.out).mono ?_
            rintro e w2 ⟨rfl, hn⟩
            obtain ⟨F', hn'⟩ := HX.out.next hn (by omega) rfl hlo hlw ⟨ho1, ho2⟩
            have HN := Lib.hid hn'
            clear hn hn'
            go_wp2_with (first | (go_at_call 23; refine (num_any _ _).mono ?_; rintro e w' ⟨rfl, rfl⟩))
            go_roundw
            case rel => exact ⟨k + 1, owner, ins, came, out, woken, o7, c7, o8, c8, F', rfl, rfl, rfl, rfl, rfl, by go_num, by omega, HN⟩
            case measure => simp [intOf]; omega
          | true =>
            by_cases hr : room ≤ ((ins.length - out : Nat) : Int)
            · have HE := Lib.hid (ord_send_no (owner := owner) (came := came) (woken := woken) hv hr)
              have hr2 : room ≤ (ins.length : Int) - (out : Int) := by omega
              clear hv hr
              go_wp2_with fail
              refine (st_send HX.out.st (by omega) 0 v HE.out).mono ?_
              rintro e w2 ⟨rfl, hn⟩
              obtain ⟨F', hn'⟩ := HX.out.next hn (by omega) rfl hlo hlw ⟨ho1, ho2⟩
              have HN := Lib.hid hn'
              clear hn hn'
              go_wp2_with (first | (go_at_call 23; refine (num_any _ _).mono ?_; rintro e w' ⟨rfl, rfl⟩))
              go_roundw
              case rel => exact ⟨k + 1, owner, ins, came, out, woken, o7, c7, o8, c8, F', rfl, rfl, rfl, rfl, rfl, by go_num, by omega, HN⟩
              case measure => simp [intOf]; omega
            · have HE := Lib.hid (ord_send_yes (owner := owner) (came := came) (woken := woken) hv hr)
              have hr2 : (ins.length : Int) - (out : Int) < room := by omega
              clear hv hr
              go_wp2_with fail
              refine (st_send HX.out.st (by omega) 0 v HE.out).mono ?_
              rintro e w2 ⟨rfl, F', hst, hO, hF⟩
              obtain ⟨b2, b3⟩ := HBK.out w2 hO
              have r7 := ownsRow_block HX.out.r7 (fun g hg => hO.block g (HX.out.r7.lt g hg).2 (HX.out.a7 g hg))
              have r8 := ownsRow_block HX.out.r8 (fun g hg => hO.block g (HX.out.r8.lt g hg).2 (HX.out.a8 g hg))
              have a7 : ∀ b, (Value.slice o7 ins.length c7).ownBlock = some b → ¬ F' b := fun b hb hf => by
                rcases hF b hf with h | h
                · exact HX.out.a7 b hb h
                · have := (HX.out.r7.lt b hb).2; omega
              have a8 : ∀ b, (Value.slice o8 came.length c8).ownBlock = some b → ¬ F' b := fun b hb hf => by
                rcases hF b hf with h | h
                · exact HX.out.a8 b hb h
                · have := (HX.out.r8.lt b hb).2; omega
              have HST := Lib.hid hst; have R7 := Lib.hid r7; have R8 := Lib.hid r8; have A7 := Lib.hid a7; have A8 := Lib.hid a8
              have P1 := Lib.hid (r7.alloc (.cells #[.int .i64 v] 2))
              have P2 := Lib.hid (one_cell _ _ _ _ (Blk.new w2 2 #[.int .i64 v]))
              have P3 : Hid (∀ u ∈ [Value.int .i64 v], u.oneCell' = true) := by intro u hu; simp at hu; subst hu; rfl
              have P4 : Hid ((w2.alloc (.cells #[.int .i64 v] 2)).heap.size = w2.heap.size + 1) := Lib.hid (by simp)
              have P5 : Hid (ins.length + 1 ≤ maxLen) := Lib.hid (by unfold maxLen; omega)
              have hW2 : W.heap.size ≤ (w2.alloc (.cells #[.int .i64 v] 2)).heap.size := by have := hst.low.size; simp; omega
              clear hst hO hF r7 r8 a7 a8
              go_wp2_with (first
                | (go_at_call 23; refine (num_any _ _).mono ?_; rintro e w' ⟨rfl, rfl⟩)
                | (at_builtin; go_must (refine wpList_append_lies _ rfl _ _ 47 rfl W.heap.size 2 i6 _ 1 8 Try.underlying47 hi6 hz60 hz61 hz62 rfl (by decide) _ _ _ rfl P1.out ⟨w2.heap.size, 0, none⟩ 1 1 [.int .i64 v] rfl rfl P2.out P3.out (by decide) P5.out (by omega) hW2 (w2.heap.size + 1) P4.out ?_); intro g1 cap1 w3 hown1 hgrow hor hlt1; have Q1 := Lib.hid hown1; have Q2 := Lib.hid hgrow; have Q3 := Lib.hid hor; clear hown1 hgrow hor hlt1))
              have HN := Lib.hid (OrdI.sent1 HST.out R7.out R8.out A7.out A8.out Q1.out Q2.out Q3.out hl7 hl8 hlo hlw ⟨ho1, ho2⟩)
              go_roundw
              case rel => exact ⟨k + 1, owner, ins ++ [v], came, out, woken, some ⟨g1, 0, none⟩, cap1, o8, c8, F', by rw [List.length_append]; rfl, rfl, rfl, rfl, rfl, by go_num, by omega, HN⟩
              case measure => simp [intOf]; omega
        have e5 : (what == 5) = false := by rw [beq_eq_false_iff_ne]; exact h5
        clear h0 h1' h2 h3 h5
        by_cases hol : out < ins.length
        · as_aux_lemma =>
          obtain ⟨z, hz⟩ : ∃ z, ins[out]? = some z := ⟨_, List.getElem?_eq_getElem hol⟩
          have HE := Lib.hid (ord_recv_yes (owner := owner) (room := room) (came := came) (woken := woken) hz)
          have HZ := Lib.hid hz
          clear hz
          go_wp2_with fail
          refine (st_recv HX.out.st (by omega) 0 HE.out).mono ?_
          rintro e w2 ⟨rfl, hn⟩
          obtain ⟨F', hn'⟩ := HX.out.next hn (by omega) rfl (by omega) hlw ⟨ho1, ho2⟩
          have HN := Lib.hid hn'
          clear hn hn'
          obtain ⟨g7, he7, k7⟩ := row_at HN.out.r7 HZ.out
          subst he7
          go_wp2_with (first | (go_at_call 23; refine (num_any _ _).mono ?_; rintro e w' ⟨rfl, rfl⟩))
          go_roundw
          case rel => exact ⟨k + 1, owner, ins, came, out + 1, woken, some ⟨g7, 0, none⟩, c7, o8, c8, F', rfl, rfl, by go_num, rfl, rfl, by go_num, by omega, HN⟩
          case measure => simp [intOf]; omega
        · as_aux_lemma =>
          have hoe : out = ins.length := by omega
          have HE := Lib.hid (ord_recv_no (owner := owner) (room := room) (came := came) (woken := woken) hoe)
          clear hoe
          go_wp2_with fail
          refine (st_recv HX.out.st (by omega) 0 HE.out).mono ?_
          rintro e w2 ⟨rfl, hn⟩
          obtain ⟨F', hn'⟩ := HX.out.next hn (by omega) rfl hlo hlw ⟨ho1, ho2⟩
          have HN := Lib.hid hn'
          clear hn hn'
          go_wp2_with (first | (go_at_call 23; refine (num_any _ _).mono ?_; rintro e w' ⟨rfl, rfl⟩))
          go_roundw
          case rel => exact ⟨k + 1, owner, ins, came, out, woken, o7, c7, o8, c8, F', rfl, rfl, rfl, rfl, rfl, by go_num, by omega, HN⟩
          case measure => simp [intOf]; omega
    · as_aux_lemma =>
      obtain rfl : k = xs.length := by omega
      have HEO : Hid (ownerS (ordS owner came woken room ins out) 0 = (owner, 0)) := Lib.hid (by simp [ownerS, ordS, at_])
      have HEW : Hid (waitsS (ordS owner came woken room ins out) 0 = (came.drop woken, 0)) := Lib.hid (by simp [waitsS, ordS, at_])
      have hdl : (came.drop woken).length = came.length - woken := by simp
      have HDL := Lib.hid hdl
      clear hdl
      obtain ⟨hc1, hc2, hc3, hc4⟩ := row_cap HO.out.r8
      go_wp2_with fail
      refine (st_owner HO.out.st 0 HEO.out).mono ?_
      rintro e w2 ⟨rfl, hb2⟩
      have H2 := Lib.hid (HO.out.below hb2)
      clear hb2
      go_wp2_with fail
      refine (st_waits H2.out.st (by omega) 0 HEW.out).mono ?_
      rintro e w3 ⟨u, rfl, hu, hb3⟩
      obtain ⟨ou, cu, rfl, _⟩ := row_shape hu
      have H3 := Lib.hid (H2.out.below hb3)
      have HU := Lib.hid (ints_of_row hu).2
      clear hu hb3
      by_cases hwl : woken < came.length
      · obtain ⟨g8, c8', e8, _⟩ := HO.out.r8.form (by omega)
        injection e8 with e8 _ e9
        subst e8
        subst e9
        have hcw : ¬ c8 = woken := by omega
        have HI := Lib.hid (ints_any ou (some ⟨g8, woken, none⟩) cu (c8 - woken) (came.drop woken) (came.drop woken) (by rw [HDL.out]; omega) (by rw [HDL.out]; omega) w3 HU.out (ints_drop H3.out.r8 woken))
        rw [decide_eq_true rfl, HDL.out] at HI
        clear hc3 hc4
        go_wp2_with (first | (go_at_call 23; refine (num_any _ _).mono ?_; rintro e w' ⟨rfl, rfl⟩))
        refine HI.out.mono ?_
        rintro e w4 ⟨rfl, hb4⟩
        have HB4 := Lib.hid (H3.out.st.low.trans (hb4.mono H3.out.st.low.size))
        clear hb4
        go_wp2_with fail
        refine (HWK.out _).mono ?_
        rintro e w5 ⟨rfl, hb5⟩
        have HB5 := Lib.hid (HB4.out.trans (hb5.mono HB4.out.size))
        clear hb5
        go_wp2_with fail
        go_ret
        exact ⟨rfl, HB5.out⟩
      · obtain rfl : woken = came.length := by omega
        have HI := Lib.hid (fun o2 c2 => ints_any ou o2 cu c2 [] [] (by simp) (by simp) w3 (IntsAt.nil _ _) (IntsAt.nil _ _))
        rw [Nat.sub_self] at *
        clear HDL
        rcases o8 with _ | a
        · obtain rfl := hc3 rfl
          clear hc4
          go_wp2_with (first | (go_at_call 23; refine (num_any _ _).mono ?_; rintro e w' ⟨rfl, rfl⟩))
          refine (HI.out _ _).mono ?_
          rintro e w4 ⟨rfl, hb4⟩
          have HB4 := Lib.hid (H3.out.st.low.trans (hb4.mono H3.out.st.low.size))
          clear hb4
          go_wp2_with fail
          refine (HWK.out _).mono ?_
          rintro e w5 ⟨rfl, hb5⟩
          have HB5 := Lib.hid (HB4.out.trans (hb5.mono HB4.out.size))
          clear hb5
          go_wp2_with fail
          go_ret
          exact ⟨rfl, HB5.out⟩
        · obtain ⟨g8, rfl⟩ := hc4 a rfl
          clear hc3 hc4
          by_cases hcw : c8 = came.length
          · have HCW := Lib.hid hcw
            go_wp2_with (first | (go_at_call 23; refine (num_any _ _).mono ?_; rintro e w' ⟨rfl, rfl⟩))
            refine (HI.out _ _).mono ?_
            rintro e w4 ⟨rfl, hb4⟩
            have HB4 := Lib.hid (H3.out.st.low.trans (hb4.mono H3.out.st.low.size))
            clear hb4
            go_wp2_with fail
            refine (HWK.out _).mono ?_
            rintro e w5 ⟨rfl, hb5⟩
            have HB5 := Lib.hid (HB4.out.trans (hb5.mono HB4.out.size))
            clear hb5
            go_wp2_with fail
            go_ret
            exact ⟨rfl, HB5.out⟩
          · go_wp2_with (first | (go_at_call 23; refine (num_any _ _).mono ?_; rintro e w' ⟨rfl, rfl⟩))
            refine (HI.out _ _).mono ?_
            rintro e w4 ⟨rfl, hb4⟩
            have HB4 := Lib.hid (H3.out.st.low.trans (hb4.mono H3.out.st.low.size))
            clear hb4
            go_wp2_with fail
            refine (HWK.out _).mono ?_
            rintro e w5 ⟨rfl, hb5⟩
            have HB5 := Lib.hid (HB4.out.trans (hb5.mono HB4.out.size))
            clear hb5
            go_wp2_with fail
            go_ret
            exact ⟨rfl, HB5.out⟩
end Go.Proofs.Ytgegagnpaagdkaa

/-
  The words of a text, one behind the other: the iterator.
-/
import Derived.Test.YtkkjdmpgjfkenaaDoorWordAll
import Derived.RangeFuncNested
import Derived.RangeFuncLeaves
import Derived.Shelf.RegionOpen
import Derived.OwnWalkIn
import Derived.LoopNIn
import Derived.LoopIn
namespace Go.Proofs.YtkkjdmpgjfkenaaDoor
open Go.RowKit Go.Maps Go.WideMaps Go.Shelf
attribute [local go_sem] Oper.semAt_some

/-- A word of the answer, as data. -/
structure TokL where
  k : Int
  txt : List UInt8
  n : Int
  pos : Int × Int

/-- The words of a text, and where the first fault is. -/
def lexF : Nat → List UInt8 → Int × Int → List TokL × Option ((Int × Int) × Int)
  | 0, _, _ => ([], none)
  | f + 1, l, p =>
    let l1 := l.drop (skipN false l)
    let p1 := advsI p (l.take (skipN false l))
    if l1 = [] then ([], none)
    else if (wordS l1).er ≠ 0 then ([], some (p1, (wordS l1).er))
    else
      let x := lexF f (l1.drop (wordS l1).m) (advsI p1 (l1.take (wordS l1).m))
      (⟨(wordS l1).k, l1.take (wordS l1).m, (wordS l1).n, p1⟩ :: x.1, x.2)

theorem skip_idem : ∀ (l : List UInt8) (c : Bool), skipN false (l.drop (skipN c l)) = 0
  | [], c => by cases c <;> rfl
  | b :: l, false => by
    by_cases h1 : isBlank b = true
    · have e : skipN false (b :: l) = skipN false l + 1 := by simp [skipN, h1, Nat.add_comm]
      rw [e, List.drop_succ_cons]
      exact skip_idem l false
    · by_cases h2 : b.toNat = 35
      · have e : skipN false (b :: l) = skipN true l + 1 := by simp [skipN, h1, h2, Nat.add_comm]
        rw [e, List.drop_succ_cons]
        exact skip_idem l true
      · have e : skipN false (b :: l) = 0 := by simp [skipN, h1, h2]
        rw [e, List.drop_zero, e]
  | b :: l, true => by
    by_cases h1 : b.toNat = 10
    · have e : skipN true (b :: l) = skipN false l + 1 := by simp [skipN, h1, Nat.add_comm]
      rw [e, List.drop_succ_cons]
      exact skip_idem l false
    · have e : skipN true (b :: l) = skipN true l + 1 := by simp [skipN, h1, Nat.add_comm]
      rw [e, List.drop_succ_cons]
      exact skip_idem l true
theorem skipN_le : ∀ (l : List UInt8) (c : Bool), skipN c l ≤ l.length
  | [], c => by cases c <;> simp [skipN]
  | b :: l, false => by
    have h1 := skipN_le l false; have h2 := skipN_le l true
    unfold skipN
    split
    · simp; omega
    · split <;> simp <;> omega
  | b :: l, true => by
    have h1 := skipN_le l false; have h2 := skipN_le l true
    unfold skipN
    split <;> simp <;> omega
theorem skipN_le' (t : ByteArray) : skipN false t.data.toList ≤ t.size := by rw [← size_list]; exact skipN_le _ _
theorem lexF_skip (f : Nat) (l : List UInt8) (p : Int × Int) : lexF f l p = lexF f (l.drop (skipN false l)) (advsI p (l.take (skipN false l))) := by
  cases f with
  | zero => rfl
  | succ f => simp only [lexF, skip_idem, List.drop_zero, List.take_zero, advsI, List.foldl_nil]
theorem lexF_nil (f : Nat) (l : List UInt8) (p : Int × Int) (h : l = []) : lexF f l p = ([], none) := by
  subst h
  cases f with
  | zero => rfl
  | succ f => simp [lexF, skipN]
theorem lexF_bad (f : Nat) (l : List UInt8) (p : Int × Int) (h : l ≠ []) (h0 : skipN false l = 0) (he : (wordS l).er ≠ 0) : lexF (f + 1) l p = ([], some (p, (wordS l).er)) := by
  simp [lexF, h0, h, he, advsI]
theorem lexF_word (f : Nat) (l : List UInt8) (p : Int × Int) (h : l ≠ []) (h0 : skipN false l = 0) (he : (wordS l).er = 0) :
    lexF (f + 1) l p = (⟨(wordS l).k, l.take (wordS l).m, (wordS l).n, p⟩ :: (lexF f (l.drop (wordS l).m) (advsI p (l.take (wordS l).m))).1, (lexF f (l.drop (wordS l).m) (advsI p (l.take (wordS l).m))).2) := by
  simp [lexF, h0, h, he, advsI]
theorem spn_pos {p : UInt8 → Bool} {b : UInt8} {l : List UInt8} (h : p b = true) : 1 ≤ spn p (b :: l) := by simp [spn, h]
theorem word_len (l : List UInt8) (h : l ≠ []) (he : (wordS l).er = 0) : 1 ≤ (wordS l).m ∧ (wordS l).m ≤ l.length := by
  cases l with
  | nil => exact absurd rfl h
  | cons b r =>
    have hle := spn_le wdB (b :: r)
    cases hl : isLet (b.toNat : Int)
    · cases hd : isDig (b.toNat : Int)
      · have e : wordS (b :: r) = signS (b :: r) := by simp [wordS, hl, hd]
        rw [e] at he ⊢
        simp only [signS] at he ⊢
        have := sgn_le (min 2 (b :: r).length) (b :: r)
        by_cases h0 : sgn (min 2 (b :: r).length) (b :: r) = 0
        · rw [h0] at he; simp at he
        · exact ⟨by omega, by omega⟩
      · have h1 : 1 ≤ spn wdB (b :: r) := spn_pos (by simp [wdB, isWd, hd])
        have e : wordS (b :: r) = numS (b :: r) := by simp [wordS, hl, hd]
        rw [e]
        unfold numS
        split
        · split <;> exact ⟨h1, hle⟩
        · exact ⟨h1, hle⟩
    · have h1 : 1 ≤ spn wdB (b :: r) := spn_pos (by simp [wdB, isWd, hl])
      have e : wordS (b :: r) = nameS (b :: r) := by simp [wordS, hl]
      rw [e]
      unfold nameS
      split <;> exact ⟨h1, hle⟩
theorem keywords_ex (w : World) :
    Calls Tryd.prog 32 #[] w fun e w' => ∃ b, e = .returned (.map (some b)) ∧ w.heap.size ≤ b ∧ w'.ownsMap Tryd.prog 9 unitElem b 20 (SnS kwB 20) ∧ Below w.heap.size w w' :=
  (keywords_any w).mono fun _ _ ⟨h1, h2, h3⟩ => ⟨_, h1, Nat.le_succ _, h2, h3⟩
theorem signs_ex (w : World) :
    Calls Tryd.prog 37 #[] w fun e w' => ∃ b, e = .returned (.map (some b)) ∧ w.heap.size ≤ b ∧ w'.ownsMap Tryd.prog 9 unitElem b 20 (SnS sgB 20) ∧ Below w.heap.size w w' :=
  (signs_any w).mono fun _ _ ⟨h1, h2, h3⟩ => ⟨_, h1, Nat.le_succ _, h2, h3⟩
theorem blanks_ex (w : World) :
    Calls Tryd.prog 38 #[] w fun e w' => ∃ b, e = .returned (.map (some b)) ∧ w.heap.size ≤ b ∧ w'.ownsMap Tryd.prog 5 unitElem b 4 (SnB blZ 4) ∧ Below w.heap.size w w' :=
  (blanks_any w).mono fun _ _ ⟨h1, h2, h3⟩ => ⟨_, h1, Nat.le_succ _, h2, h3⟩

/-- What a round that goes on keeps of the iterator's. -/
structure Kp (S E : Nat) (w w' : World) : Prop where
  size : w.heap.size ≤ w'.heap.size
  low : Below 5 w w'
  same : ∀ k, S ≤ k → k < E → w'.heap[k]? = w.heap[k]?

/-- All words have come; or the first fault. -/
def IterP (t : ByteArray) (J : Nat → List TokL → World → Prop) (Jx : List TokL → (Int × Int) → Int → World → Prop) (e : Ending) (W' : World) : Prop :=
  (∃ v, e = .returned v) ∧
      ((∃ E, (lexF (t.size + 1) t.data.toList (1, 1)).2 = none ∧ J E (lexF (t.size + 1) t.data.toList (1, 1)).1 W') ∨
       (∃ p er, (lexF (t.size + 1) t.data.toList (1, 1)).2 = some (p, er) ∧ Jx (lexF (t.size + 1) t.data.toList (1, 1)).1 p er W'))

set_option maxRecDepth 100000 in
set_option maxHeartbeats 2000000 in
theorem words1_in (d l S : Nat) (t : ByteArray) (Bt : Nat) (W : World) (hS : S = W.heap.size) (ht : W.cell? ⟨Bt, 0, none⟩ = some (.string t)) (hv : ErrVars W) (hmax : t.size ≤ 10000000)
    (J : Nat → List TokL → World → Prop) (Jx : List TokL → (Int × Int) → Int → World → Prop)
    (hJ : ∀ E done A A', J E done A → Only (fun b => b = S + 1) A A' → J E done A')
    (hY0 : ∀ m E done k u n pos W1, S + 2 ≤ E → E ≤ W1.heap.size → J E done W1 → done.length < t.size → u.size ≤ t.size → YieldAt Fence.wide m Tryd.prog l #[tokV k u n pos, .int .i64 0] W1
      (fun e W' => e = .returned (.bool true) ∧ J E (done ++ [⟨k, u.data.toList, n, pos⟩]) W' ∧ Kp S E W1 W'))
    (hYx : ∀ m E done k u n pos er W1, er ≠ 0 → S + 2 ≤ E → E ≤ W1.heap.size → J E done W1 → YieldAt Fence.wide m Tryd.prog l #[tokV k u n pos, .int .i64 er] W1
      (fun e W' => e = .returned (.bool false) ∧ Jx done pos er W'))
    (hJ0 : ∀ E, J E [] W) :
    CallsIn Fence.wide d Tryd.prog 36 #[.func (.yield l) #[] #[], .pointer (some ⟨Bt, 0, none⟩)] W (IterP t J Jx) := by
  subst hS
  refine callsIn_of_wp Tryd.func36 rfl trivial ?_ rfl
  simp only [Tryd.ntmps36, List.size_toArray, List.length_cons, List.length_nil, Nat.reduceAdd, Nat.reduceSub, Array.replicate_succ, Array.replicate_zero, List.push_toArray, List.append_toArray, List.nil_append, List.cons_append]
  have HY0 := Lib.hid hY0; have HYx := Lib.hid hYx; have HJ := Lib.hid hJ; have HJ0 := Lib.hid hJ0
  clear hY0 hYx hJ hJ0
  gi_wp2_with fail
  refine ⟨trivial, fun h => (by cases h), callsIn_wide.2 ((begin_any t W).mono ?_)⟩
  rintro e w1 ⟨rfl, rfl⟩
  gi_wp2_with fail
  refine ⟨trivial, fun h => (by cases h), callsIn_wide.2 ((keywords_ex _).mono ?_)⟩
  rintro e w2 ⟨kb, rfl, hkge, hk2, hb2⟩
  gi_wp2_with fail
  refine ⟨trivial, fun h => (by cases h), callsIn_wide.2 ((signs_ex _).mono ?_)⟩
  rintro e w3 ⟨sb, rfl, hsge, hs3, hb3⟩
  gi_wp2_with fail
  refine ⟨trivial, fun h => (by cases h), callsIn_wide.2 ((blanks_ex _).mono ?_)⟩
  rintro e w4 ⟨bb, rfl, hlge, hl4, hb4⟩
  have hz2 := hb2.size; have hz3 := hb3.size; have hz4 := hb4.size
  simp only [World.size_alloc] at hz2 hkge
  have r2 : Rd ((W.alloc (.cells #[.int .i64 1, .int .i64 1, .string t, .map none, .map none, .map none] 55)).alloc (.cells #[.int .i64 1, .int .i64 1, .string t, .map none, .map none, .map none] 55)) (W.heap.size + 1) (1, 1) t (.map none) (.map none) (.map none) := by
    have := heap_alloc_new (W.alloc (.cells #[.int .i64 1, .int .i64 1, .string t, .map none, .map none, .map none] 55)) (.cells #[.int .i64 1, .int .i64 1, .string t, .map none, .map none, .map none] 55)
    rw [World.size_alloc] at this
    exact this
  have r4 : Rd w4 (W.heap.size + 1) (1, 1) t (.map none) (.map none) (.map none) :=
    (hb4.block _ (by omega)).trans ((hb3.block _ (by omega)).trans ((hb2.block _ (by simp)).trans r2))
  have o4 : Only (fun b => b = W.heap.size + 1) W w4 := ((((Only.refl W).alloc _).alloc _).trans (Only.of_below hb2)).trans ((Only.of_below hb3).trans (Only.of_below hb4))
  have k4 := ownsMap_block hk2 ((hb4.block _ (by have := hk2.lt; omega)).trans (hb3.block _ hk2.lt))
  have s4 := ownsMap_block hs3 (hb4.block _ hs3.lt)
  have v4 : ErrVars w4 := hv.below (o4.below hv.2.2 (fun k hk => by have := hv.2.2; omega))
  have e4 : Env w4 kb sb bb := ⟨v4, k4, s4, hl4⟩
  have hne := e4.ne r4
  have hlt4 := k4.lt; have hlt5 := s4.lt; have hlt6 := hl4.lt
  have h5S : 5 ≤ W.heap.size := hv.2.2
  clear hb2 hb3 hb4 hk2 hs3 hl4 k4 s4 v4 r2 hv ht
  have c3 := r4.cell3; have c4 := r4.cell4; have c5 := r4.cell5
  have f3 := r4.frozen 3; have f4 := r4.frozen 4; have f5 := r4.frozen 5
  gi_wp2_with fail
  have r5 := ((r4.set3 (.map (some kb))).set4 (.map (some sb))).set5 (.map (some bb))
  have o5 : Only (fun b => b = W.heap.size + 1) w4 (((w4.setCell ⟨W.heap.size + 1, 3, none⟩ (.map (some kb))).setCell ⟨W.heap.size + 1, 4, none⟩ (.map (some sb))).setCell ⟨W.heap.size + 1, 5, none⟩ (.map (some bb))) :=
    (((Only.refl (X := fun b => b = W.heap.size + 1) w4).setCell (p := ⟨W.heap.size + 1, 3, none⟩) (.inl rfl) _).setCell (p := ⟨W.heap.size + 1, 4, none⟩) (.inl rfl) _).setCell (p := ⟨W.heap.size + 1, 5, none⟩) (.inl rfl) _
  have hbk : ∀ k, k = W.heap.size + 1 → 5 ≤ k ∧ k ≠ kb ∧ k ≠ sb ∧ k ≠ bb := fun k hk => ⟨by omega, by rw [hk]; exact hne.1, by rw [hk]; exact hne.2.1, by rw [hk]; exact hne.2.2⟩
  have e5 := e4.only o5 hbk
  clear c3 c4 c5 f3 f4 f5 r4 e4
  refine ⟨trivial, fun h => (by cases h), callsIn_wide.2 ((skip_any bb (W.heap.size + 1) (1, 1) t _ _ _ r5 e5.bl (by simp) (by simp) (by simp; omega) (by simp; omega)).mono ?_)⟩
  rintro e w6 ⟨rfl, t6, ht6, r6, o6⟩
  have e6 := e5.only o6 hbk
  have hj6 := HJ.out w4.heap.size [] W w6 (HJ0.out _) ((o4.trans o5).trans o6)
  have hE6 : w4.heap.size ≤ w6.heap.size := Nat.le_trans o5.size o6.size
  have hlx := lexF_skip (t.size + 1) t.data.toList (1, 1)
  have hid6 := skip_idem t.data.toList false
  have hsk := advsI_bd (t.data.toList.take (skipN false t.data.toList)) (1, 1) (by simp)
  have hlen6 : t6.size = t.size - skipN false t.data.toList := by rw [← size_list t6, ht6, List.length_drop, size_list]
  rw [List.length_take, size_list] at hsk
  rw [← ht6] at hlx hid6
  obtain ⟨p6, hp6⟩ : ∃ p6, advsI (1, 1) (t.data.toList.take (skipN false t.data.toList)) = p6 := ⟨_, rfl⟩
  rw [hp6] at hlx r6 hsk
  simp only at hsk
  generalize skipN false t.data.toList = n6 at hlen6 hsk
  have HLX := Lib.hid hlx; have HID := Lib.hid hid6
  have HLEN := Lib.hid hlen6
  clear r5 e5 o5 o4 ht6 hlx hid6 hp6 hlen6
  gi_wp2_with fail
  gi_loopw [] (fun wr => ∃ (done : List TokL) (rest : ByteArray) (p : Int × Int) (f : Nat), Rd wr (W.heap.size + 1) p rest (.map (some kb)) (.map (some sb)) (.map (some bb)) ∧ Env wr kb sb bb ∧ J w4.heap.size done wr ∧
      w4.heap.size ≤ wr.heap.size ∧ done.length + rest.size ≤ t.size ∧ 0 ≤ p.1 ∧ 0 ≤ p.2 ∧ p.1 + rest.size ≤ 100000000 ∧ p.2 + rest.size ≤ 100000000 ∧ rest.size + 1 ≤ f ∧
      Hid (skipN false rest.data.toList = 0) ∧ Hid (lexF (t.size + 1) t.data.toList (1, 1) = (done ++ (lexF f rest.data.toList p).1, (lexF f rest.data.toList p).2)))
    (fun wr => restSize wr (W.heap.size + 1))
  case atStart =>
    have := HLEN.out
    exact ⟨[], t6, p6, t.size + 1, r6, e6, hj6, hE6, by simp; omega, by omega, by omega, by omega, by omega, by omega, HID.out, HLX.out⟩
  case round =>
    obtain ⟨done, rest, p, f, hrd, hen, hj, hE, hdl, hq1, hq2, hq3, hq4, hf, HID, HLX⟩ := hrel
    clear HLEN hsk r6 e6 hj6 hE6
    have c2 := hrd.cell2
    by_cases hemp : rest.size = 0
    · have hnil : rest.data.toList = [] := List.eq_nil_of_length_eq_zero (by rw [size_list]; exact hemp)
      have hem : rest.toList.isEmpty = true := by rw [Lib.toList_data, hnil]; rfl
      have hx := HLX.out
      rw [lexF_nil f _ p hnil] at hx
      simp only [List.append_nil] at hx
      have HX := Lib.hid hx
      clear hx hnil
      gi_wp2_with fail
      go_end0
      exact ⟨⟨_, rfl⟩, .inl ⟨_, by rw [HX.out], by rw [HX.out]; exact hj⟩⟩
    · have hnn : rest.data.toList ≠ [] := fun h => hemp (by rw [← size_list, h]; rfl)
      have hem : rest.toList.isEmpty = false := by
        rw [Lib.toList_data]
        cases hc : rest.data.toList with
        | nil => exact absurd hc hnn
        | cons _ _ => rfl
      have HW := Lib.hid (word_any (W.heap.size + 1) p rest kb sb bb wr hrd hen (by omega) hnn hq1 hq2 hq3 hq4)
      obtain ⟨g, rfl⟩ : ∃ g, f = g + 1 := ⟨f - 1, by omega⟩
      have hbk2 : ∀ k, k = W.heap.size + 1 → 5 ≤ k ∧ k ≠ kb ∧ k ≠ sb ∧ k ≠ bb := hbk
      by_cases her : (wordS rest.data.toList).er = 0
      · have hln := word_len _ hnn her
        have hx := HLX.out
        rw [lexF_word g _ p hnn HID.out her] at hx
        rw [her] at HW
        rw [size_list] at hln
        generalize (wordS rest.data.toList).m = m at *
        generalize (wordS rest.data.toList).k = k at *
        generalize (wordS rest.data.toList).n = n at *
        have HX := Lib.hid hx
        have HN := Lib.hid hnn
        clear hx her hnn HLX HID
        gi_wp2_with fail
        refine ⟨trivial, fun h => (by cases h), callsIn_wide.2 (HW.out.mono ?_)⟩
        rintro e w7 ⟨u, rest2, rfl, hu, hr2, rd7, o7⟩
        have j7 := HJ.out _ _ _ (w7.alloc (.cells (tokC k u n p) 40)) hj (o7.alloc _)
        have z7 := o7.size
        have hus : u.size ≤ t.size := by rw [← size_list u, hu, List.length_take, size_list]; omega
        obtain ⟨fn, tmps, assign, body, hy, hR⟩ := HY0.out (d - 1) w4.heap.size done k u n p (w7.alloc (.cells (tokC k u n p) 40)) (by omega) (by simp; omega) j7 (by omega) hus
        have en7 := hen.only o7 hbk2
        have HR := Lib.hid hR
        have HU := Lib.hid hu; have HR2 := Lib.hid hr2
        clear hR hu hr2 j7
        dsimp only [tokV] at hy ⊢
        gi_wp2_with fail
        refine ⟨fun h => (by cases h), HR.out.mono ?_⟩
        rintro e w8 ⟨rfl, j8, kp⟩
        have rd8 : Rd w8 (W.heap.size + 1) (advsI p (rest.data.toList.take m)) rest2 (.map (some kb)) (.map (some sb)) (.map (some bb)) := (kp.same _ (by omega) (by omega)).trans (rd7.alloc _)
        have ea := en7.alloc (.cells (tokC k u n p) 40)
        have en8 : Env w8 kb sb bb := ⟨ea.vars.below kp.low, ownsMap_block ea.kw (kp.same _ (by omega) (by omega)), ownsMap_block ea.sg (kp.same _ (by omega) (by omega)), ownsMap_block ea.bl (kp.same _ (by omega) (by omega))⟩
        have hbd := advsI_bd (rest.data.toList.take m) p hq2
        have hlk : (rest.data.toList.take m).length = m := by rw [List.length_take, size_list]; omega
        rw [hlk] at hbd
        have hs2 : rest2.size = rest.size - m := by rw [← size_list rest2, HR2.out, List.length_drop, size_list]
        obtain ⟨p8, hp8⟩ : ∃ p8, advsI p (rest.data.toList.take m) = p8 := ⟨_, rfl⟩
        rw [hp8] at hbd rd8
        have HP8 := Lib.hid hp8
        have hE8 : w4.heap.size ≤ w8.heap.size := by have := kp.size; simp only [World.size_alloc] at this; omega
        have hnb : (skipN false rest2.data.toList) ≤ rest2.size := skipN_le' rest2
        have HS := Lib.hid (skip_any bb (W.heap.size + 1) p8 rest2 _ _ w8 rd8 en8.bl (by omega) (by omega) (by omega) (by omega))
        have HRS := Lib.hid hrd.restSize
        have HS2 := Lib.hid hs2
        clear hp8 hlk rd7 hy HR o7 kp ea hs2
        gi_wp2_with fail
        refine ⟨trivial, fun h => (by cases h), callsIn_wide.2 (HS.out.mono ?_)⟩
        rintro e w9 ⟨rfl, rest3, ht3, rd9, o9⟩
        have HT3 := Lib.hid ht3
        have hs3 : rest3.size = rest2.size - skipN false rest2.data.toList := by rw [← size_list rest3, ht3, List.length_drop, size_list]
        have HS3 := Lib.hid hs3
        clear ht3 hs3
        gi_wp2_with fail
        go_roundw
        case rel =>
          have e2 := HS2.out; have e3 := HS3.out
          have hb9 := advsI_bd (rest2.data.toList.take (skipN false rest2.data.toList)) p8 (by omega)
          rw [List.length_take, size_list, Nat.min_eq_left hnb] at hb9
          refine ⟨done ++ [⟨k, u.data.toList, n, p⟩], rest3, _, g, rd9, en8.only o9 hbk2, HJ.out _ _ _ _ j8 o9, Nat.le_trans hE8 o9.size, by simp; omega, by omega, by omega, by omega, by omega, by omega, ?_, ?_⟩
          · show skipN false rest3.data.toList = 0
            rw [HT3.out]
            exact skip_idem _ _
          · show lexF (t.size + 1) t.data.toList (1, 1) = _
            rw [HX.out, HP8.out, ← HR2.out, lexF_skip g rest2.data.toList p8, ← HT3.out, ← HU.out]
            simp
        case measure =>
          have e2 := HS2.out; have e3 := HS3.out
          rw [rd9.restSize, HRS.out]
          omega
      · have hx := HLX.out
        rw [lexF_bad g _ p hnn HID.out her] at hx
        simp only [List.append_nil] at hx
        generalize (wordS rest.data.toList).er = er at *
        generalize (wordS rest.data.toList).m = m at *
        generalize (wordS rest.data.toList).k = k at *
        generalize (wordS rest.data.toList).n = n at *
        have HX := Lib.hid hx
        have HER := Lib.hid her
        clear hx her hnn HLX HID
        gi_wp2_with fail
        refine ⟨trivial, fun h => (by cases h), callsIn_wide.2 (HW.out.mono ?_)⟩
        rintro e w7 ⟨u, rest2, rfl, hu, hr2, rd7, o7⟩
        have j7 := HJ.out _ _ _ (w7.alloc (.cells (tokC k u n p) 40)) hj (o7.alloc _)
        have z7 := o7.size
        obtain ⟨fn, tmps, assign, body, hy, hR⟩ := HYx.out (d - 1) w4.heap.size done k u n p er (w7.alloc (.cells (tokC k u n p) 40)) HER.out (by omega) (by simp; omega) j7
        have HR := Lib.hid hR
        clear hR hu hr2 j7
        dsimp only [tokV] at hy ⊢
        gi_wp2_with fail
        refine ⟨fun h => (by cases h), HR.out.mono ?_⟩
        rintro e w8 ⟨rfl, j8⟩
        clear hy HR
        gi_wp2_with fail
        refine bodyPost_ret (results_none rfl _ _ _) rfl ?_
        exact ⟨⟨_, rfl⟩, .inr ⟨p, er, by rw [HX.out], by rw [HX.out]; exact j8⟩⟩
end Go.Proofs.YtkkjdmpgjfkenaaDoor

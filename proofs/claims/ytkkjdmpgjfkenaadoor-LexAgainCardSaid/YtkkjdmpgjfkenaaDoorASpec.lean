/-
  Words that are joined with blanks are the same words, by definition; where they stand.
-/
import Derived.Test.YtkkjdmpgjfkenaaDoorRSpec
namespace Go.Proofs.YtkkjdmpgjfkenaaDoor

theorem spn_own (p : UInt8 → Bool) (c : UInt8) (hc : p c = false) (r : List UInt8) : ∀ l : List UInt8, spn p (l.take (spn p l) ++ c :: r) = spn p l
  | [] => by simp [spn, hc]
  | b :: l => by
    cases hb : p b
    · have e : spn p (b :: l) = 0 := by simp [spn, hb]
      rw [e]
      simp [spn, hc]
    · have e : spn p (b :: l) = spn p l + 1 := by simp [spn, hb, Nat.add_comm]
      have e2 : spn p (b :: (l.take (spn p l) ++ c :: r)) = spn p (l.take (spn p l) ++ c :: r) + 1 := by simp [spn, hb, Nat.add_comm]
      rw [e, List.take_succ_cons, List.cons_append, e2, spn_own p c hc r l]
theorem take_own (l : List UInt8) (m : Nat) (h : m ≤ l.length) (r : List UInt8) : (l.take m ++ r).take m = l.take m := by
  rw [List.take_append_of_le_length (by simp; omega), List.take_take, Nat.min_self]
theorem name_own (l l' : List UInt8) (h1 : spn wdB l' = spn wdB l) (h2 : l'.take (spn wdB l) = l.take (spn wdB l)) : nameS l' = nameS l := by
  unfold nameS
  rw [h1, h2]
theorem num_own (l l' : List UInt8) (h1 : spn wdB l' = spn wdB l) (h2 : l'.take (spn wdB l) = l.take (spn wdB l)) (h3 : l'.head? = l.head?) : numS l' = numS l := by
  unfold numS
  rw [h1, h2, h3]
theorem sg_blank (a : UInt8) : [a, 32] ∉ sgL := by
  intro h
  have : ∀ x ∈ sgL, x.length = 2 → x.getLast? ≠ some 32 := by decide
  exact this _ h rfl rfl
theorem sgn_one (a : UInt8) (l : List UInt8) : sgn 1 (a :: l) = bif decide ([a] ∈ sgL) then 1 else 0 := rfl
theorem sgn_two (a b : UInt8) (l : List UInt8) : sgn 2 (a :: b :: l) = bif decide ([a, b] ∈ sgL) then 2 else bif decide ([a] ∈ sgL) then 1 else 0 := rfl
theorem sign_own (l : List UInt8) (h0 : sgn (min 2 l.length) l ≠ 0) (r : List UInt8) : sgn (min 2 (l.take (sgn (min 2 l.length) l) ++ 32 :: r).length) (l.take (sgn (min 2 l.length) l) ++ 32 :: r) = sgn (min 2 l.length) l := by
  have h2 : ∀ a, decide ([a, (32 : UInt8)] ∈ sgL) = false := fun a => decide_eq_false (sg_blank a)
  have e3 : ∀ (a b : UInt8) (u : List UInt8), min 2 (a :: b :: u).length = 2 := fun a b u => by simp only [List.length_cons]; omega
  match l with
  | [] => exact absurd rfl h0
  | [a] =>
    have e : min 2 [a].length = 1 := rfl
    rw [e, sgn_one] at h0 ⊢
    cases hd : decide ([a] ∈ sgL)
    · rw [hd] at h0
      exact absurd rfl h0
    · have e2 : [a].take (bif true then 1 else 0) ++ 32 :: r = a :: 32 :: r := rfl
      rw [e2, e3, sgn_two, h2, hd]
      rfl
  | a :: b :: l' =>
    rw [e3, sgn_two] at h0 ⊢
    cases hd : decide ([a, b] ∈ sgL)
    · cases hd1 : decide ([a] ∈ sgL)
      · rw [hd, hd1] at h0
        exact absurd rfl h0
      · have e2 : (a :: b :: l').take (bif false then 2 else bif true then 1 else 0) ++ 32 :: r = a :: 32 :: r := rfl
        rw [e2, e3, sgn_two, h2, hd1]
    · have e2 : (a :: b :: l').take (bif true then 2 else bif decide ([a] ∈ sgL) then 1 else 0) ++ 32 :: r = a :: b :: 32 :: r := rfl
      rw [e2, e3, sgn_two, hd]
/-- A word and a blank: the same word. -/
theorem word_own (l : List UInt8) (h : l ≠ []) (he : (wordS l).er = 0) (r : List UInt8) : wordS (l.take (wordS l).m ++ 32 :: r) = wordS l := by
  cases l with
  | nil => exact absurd rfl h
  | cons b t =>
    have hw := (word_len (b :: t) h he)
    obtain ⟨q, hq⟩ : ∃ q, (wordS (b :: t)).m = q + 1 := ⟨(wordS (b :: t)).m - 1, by omega⟩
    have hX : (b :: t).take (wordS (b :: t)).m ++ 32 :: r = b :: (t.take q ++ 32 :: r) := by rw [hq]; rfl
    have hd0 : wdB 32 = false := by decide
    cases hl : isLet (b.toNat : Int)
    · cases hd : isDig (b.toNat : Int)
      · have e : wordS (b :: t) = signS (b :: t) := by simp [wordS, hl, hd]
        have e' : ∀ u, wordS (b :: u) = signS (b :: u) := fun u => by simp [wordS, hl, hd]
        have hm : (wordS (b :: t)).m = sgn (min 2 (b :: t).length) (b :: t) := by rw [e]; rfl
        have h0 : sgn (min 2 (b :: t).length) (b :: t) ≠ 0 := by omega
        have h1 := sign_own (b :: t) h0 r
        rw [← hm, hX] at h1
        rw [hX, e', e]
        simp only [signS, h1, hm]
      · have e : wordS (b :: t) = numS (b :: t) := by simp [wordS, hl, hd]
        have e' : ∀ u, wordS (b :: u) = numS (b :: u) := fun u => by simp [wordS, hl, hd]
        have hm : (wordS (b :: t)).m = spn wdB (b :: t) := by
          rw [e]
          unfold numS
          split
          · split <;> rfl
          · rfl
        have h1 := spn_own wdB 32 hd0 r (b :: t)
        have h2 := take_own (b :: t) (spn wdB (b :: t)) (by omega) (32 :: r)
        rw [← hm, hX] at h1 h2
        rw [hX, e', e]
        exact num_own _ _ (by rw [h1, hm]) (by rw [← hm, h2]) rfl
    · have e : wordS (b :: t) = nameS (b :: t) := by simp [wordS, hl]
      have e' : ∀ u, wordS (b :: u) = nameS (b :: u) := fun u => by simp [wordS, hl]
      have hm : (wordS (b :: t)).m = spn wdB (b :: t) := by
        rw [e]
        unfold nameS
        split <;> rfl
      have h1 := spn_own wdB 32 hd0 r (b :: t)
      have h2 := take_own (b :: t) (spn wdB (b :: t)) (by omega) (32 :: r)
      rw [← hm, hX] at h1 h2
      rw [hX, e', e]
      exact name_own _ _ (by rw [h1, hm]) (by rw [← hm, h2])

/-- A word as data that is lexed as itself where a blank follows. -/
structure Own (x : TokL) : Prop where
  ne : x.txt ≠ []
  word : ∀ r, wordS (x.txt ++ 32 :: r) = ⟨x.k, x.n, 0, x.txt.length⟩
  skip : ∀ r, skipN false (x.txt ++ r) = 0
def joined (L : List TokL) : List UInt8 := L.flatMap fun x => x.txt ++ [32]
def bare (x : TokL) : Int × List UInt8 × Int := (x.k, x.txt, x.n)
theorem joined_cons (x : TokL) (L : List TokL) : joined (x :: L) = x.txt ++ 32 :: joined L := by simp [joined]
theorem lexF_joined : ∀ (L : List TokL), (∀ x ∈ L, Own x) → ∀ (f : Nat), (joined L).length < f → ∀ p, ∃ M, lexF f (joined L) p = (M, none) ∧ M.map bare = L.map bare
  | [], _, f, _, p => ⟨[], lexF_nil f _ p rfl, rfl⟩
  | x :: L, hL, f, hf, p => by
    have hx := hL x List.mem_cons_self
    rw [joined_cons] at hf ⊢
    rw [List.length_append, List.length_cons] at hf
    obtain ⟨f, rfl⟩ : ∃ g, f = g + 1 := ⟨f - 1, by omega⟩
    obtain ⟨M, h1, h2⟩ := lexF_joined L (fun y hy => hL y (List.mem_cons_of_mem _ hy)) f (by omega) (advI (advsI p x.txt) 32)
    have hw := hx.word (joined L)
    have e := lexF_word f (x.txt ++ 32 :: joined L) p (by simp) (hx.skip _) (by rw [hw])
    rw [hw] at e
    dsimp only at e
    rw [List.take_left, List.drop_left, lexF_blank f 32 _ _ rfl, h1] at e
    exact ⟨_, e, by simp [bare, h2]⟩

/-- Where words stand: each behind the one ahead of it. -/
inductive Placed (s : List UInt8) : Nat → List TokL → Prop
  | nil (q : Nat) : Placed s q []
  | cons (q k : Nat) (x : TokL) (L : List TokL) (h1 : q ≤ k) (h2 : k + x.txt.length ≤ s.length) (h3 : x.txt = (s.drop k).take x.txt.length) (h4 : x.pos = advsI (1, 1) (s.take k)) (h5 : Own x) (h6 : ∀ c ∈ x.txt, c.toNat ≠ 10)
      (h7 : Placed s (k + x.txt.length) L) : Placed s q (x :: L)
theorem skip_head (l : List UInt8) (h : l ≠ []) (h0 : skipN false l = 0) : ∀ b r, l = b :: r → isBlank b = false ∧ b.toNat ≠ 35 := by
  intro b r e
  subst e
  by_cases h1 : isBlank b = true
  · simp [skipN, h1] at h0
  · by_cases h2 : b.toNat = 35
    · simp [skipN, h1, h2] at h0
    · exact ⟨by simpa using h1, h2⟩
theorem lexF_placed (s : List UInt8) : ∀ (f q : Nat) (L : List TokL), q ≤ s.length → lexF f (s.drop q) (advsI (1, 1) (s.take q)) = (L, none) → Placed s q L
  | 0, q, L, _, h => by
    simp only [lexF, Prod.mk.injEq, and_true] at h
    subst h
    exact .nil q
  | f + 1, q, L, hq, h => by
    have hk := skipN_le (s.drop q) false
    have h0 := skip_idem (s.drop q) false
    rw [lexF_skip] at h
    rw [List.drop_drop] at h h0
    rw [List.length_drop] at hk
    have ha : advsI (advsI (1, 1) (s.take q)) ((s.drop q).take (skipN false (s.drop q))) = advsI (1, 1) (s.take (q + skipN false (s.drop q))) := by
      rw [List.take_add]
      simp [advsI]
    rw [ha] at h
    generalize hkk : q + skipN false (s.drop q) = k at *
    by_cases hne : s.drop k = []
    · rw [lexF_nil _ _ _ hne] at h
      simp only [Prod.mk.injEq, and_true] at h
      subst h
      exact .nil q
    · by_cases he : (wordS (s.drop k)).er = 0
      · rw [lexF_word f _ _ hne h0 he] at h
        obtain ⟨h1, h2⟩ := word_len _ hne he
        rw [List.length_drop] at h2
        have hb := skip_head _ hne h0
        have hfl := word_flat _ hne he
        have hown := word_own _ hne he
        have hkl : k ≤ s.length := by omega
        have hlen : ((s.drop k).take (wordS (s.drop k)).m).length = (wordS (s.drop k)).m := by rw [List.length_take, List.length_drop]; omega
        have hb2 : advsI (advsI (1, 1) (s.take k)) ((s.drop k).take (wordS (s.drop k)).m) = advsI (1, 1) (s.take (k + (wordS (s.drop k)).m)) := by
          rw [List.take_add]
          simp [advsI]
        rw [hb2, List.drop_drop] at h
        generalize hx : lexF f (s.drop (k + (wordS (s.drop k)).m)) (advsI (1, 1) (s.take (k + (wordS (s.drop k)).m))) = x at *
        obtain ⟨M, o⟩ := x
        simp only [Prod.mk.injEq] at h
        obtain ⟨rfl, rfl⟩ := h
        have ih := lexF_placed s f _ M (by omega) hx
        refine .cons q k _ M (by omega) ?_ ?_ rfl ⟨?_, fun r => ?_, fun r => ?_⟩ hfl ?_
        · dsimp only; rw [hlen]; omega
        · dsimp only; rw [hlen]
        · dsimp only
          intro e0
          rw [e0] at hlen
          simp at hlen
          omega
        · dsimp only
          rw [hown, hlen, ← he]
        · dsimp only
          have hd2 : (s.drop k).take (wordS (s.drop k)).m ≠ [] := fun e0 => by
            rw [e0] at hlen
            simp at hlen
            omega
          refine skip_done _ (fun b u e => ?_) (fun b u e => ?_)
          all_goals
            cases hs : s.drop k with
            | nil => exact absurd hs hne
            | cons b0 u0 =>
              obtain ⟨m, hm⟩ : ∃ m, (wordS (s.drop k)).m = m + 1 := ⟨(wordS (s.drop k)).m - 1, by omega⟩
              rw [hm, hs, List.take_succ_cons, List.cons_append] at e
              injection e with e _
              subst e
              first
              | exact (hb _ _ hs).1
              | exact (hb _ _ hs).2
        · dsimp only
          rw [hlen]
          exact ih
      · rw [lexF_bad f _ _ hne h0 he] at h
        simp at h
/-- Places differ. -/
theorem advs_lt (s : List UInt8) (hp : ∀ i, 0 ≤ (advsI (1, 1) (s.take i)).2) : ∀ k i, i < k → k ≤ s.length → (advsI (1, 1) (s.take i)).1 < (advsI (1, 1) (s.take k)).1 ∨ ((advsI (1, 1) (s.take i)).1 = (advsI (1, 1) (s.take k)).1 ∧ (advsI (1, 1) (s.take i)).2 < (advsI (1, 1) (s.take k)).2)
  | 0, i, h, _ => absurd h (Nat.not_lt_zero _)
  | k + 1, i, h, hk => by
    have e : s.take (k + 1) = s.take k ++ [s[k]'(by omega)] := by rw [List.take_append_getElem]
    rw [e, advsI_snoc]
    generalize s[k]'(by omega) = b at *
    by_cases hik : i = k
    · subst hik
      unfold advI
      split
      · left; dsimp only; omega
      · right; dsimp only; omega
    · have ih := advs_lt s hp k i (by omega) (by omega)
      unfold advI
      split
      · left; dsimp only; omega
      · dsimp only; omega
theorem advs_ne (s : List UInt8) (k i : Nat) (h : i < k) (hk : k ≤ s.length) : advsI (1, 1) (s.take i) ≠ advsI (1, 1) (s.take k) := by
  intro e
  have := advs_lt s (fun i => (advsI_bd (s.take i) (1, 1) (by decide)).2.2.1) k i h hk
  rw [e] at this
  omega
end Go.Proofs.YtkkjdmpgjfkenaaDoor

/-
  Words byte by byte: the same words.
-/
import Derived.Test.YtkkjdmpgjfkenaaDoorOneSign
namespace Go.Proofs.YtkkjdmpgjfkenaaDoor
open Go.RowKit Go.Maps Go.WideMaps Go.Shelf

theorem lexF_blank (f : Nat) (b : UInt8) (r : List UInt8) (p : Int × Int) (hb : isBlank b = true) : lexF f (b :: r) p = lexF f r (advI p b) := by
  rw [lexF_skip f (b :: r) p, lexF_skip f r (advI p b)]
  have e : skipN false (b :: r) = skipN false r + 1 := by simp [skipN, hb, Nat.add_comm]
  rw [e, List.drop_succ_cons, List.take_succ_cons]
  rfl
/-- The words behind a comment's rest. -/
def lexC (f : Nat) (l : List UInt8) (p : Int × Int) : List TokL × Option ((Int × Int) × Int) := lexF f (l.drop (skipN true l)) (advsI p (l.take (skipN true l)))
theorem lexC_hash (f : Nat) (b : UInt8) (r : List UInt8) (p : Int × Int) (hb : b.toNat = 35) : lexF f (b :: r) p = lexC f (b :: r) p := by
  have hbl : isBlank b = false := by simp [isBlank, blZ, hb]
  rw [lexF_skip f (b :: r) p, lexC]
  have e : skipN false (b :: r) = skipN true r + 1 := by simp [skipN, hb, hbl, Nat.add_comm]
  have e2 : skipN true (b :: r) = skipN true r + 1 := by simp [skipN, hb, Nat.add_comm]
  rw [e, e2]
theorem lexC_step (f : Nat) (b : UInt8) (r : List UInt8) (p : Int × Int) (hb : b.toNat ≠ 10) : lexC f (b :: r) p = lexC f r (advI p b) := by
  have e2 : skipN true (b :: r) = skipN true r + 1 := by simp [skipN, hb, Nat.add_comm]
  rw [lexC, lexC, e2, List.drop_succ_cons, List.take_succ_cons]
  rfl
theorem lexC_nl (f : Nat) (b : UInt8) (r : List UInt8) (p : Int × Int) (hb : b.toNat = 10) : lexC f (b :: r) p = lexF f (b :: r) p := by
  have hbl : isBlank b = true := by simp [isBlank, blZ, hb]
  have e : skipN false (b :: r) = skipN false r + 1 := by simp [skipN, hbl, Nat.add_comm]
  have e2 : skipN true (b :: r) = skipN false r + 1 := by simp [skipN, hb, Nat.add_comm]
  rw [lexF_skip f (b :: r) p, lexC, e, e2]
theorem lexC_nil (f : Nat) (l : List UInt8) (p : Int × Int) (h : l = []) : lexC f l p = lexF f l p := by subst h; rfl

theorem spn_all (p : UInt8 → Bool) (l : List UInt8) : ∀ c ∈ l.take (spn p l), p c = true := by
  induction l with
  | nil => intro c hc; simp at hc
  | cons b l ih =>
    intro c hc
    cases hb : p b
    · have e : spn p (b :: l) = 0 := by simp [spn, hb]
      rw [e] at hc
      simp at hc
    · have e : spn p (b :: l) = spn p l + 1 := by simp [spn, hb, Nat.add_comm]
      rw [e, List.take_succ_cons] at hc
      rcases List.mem_cons.1 hc with rfl | hc
      · exact hb
      · exact ih c hc
theorem sgn_in (l : List UInt8) : ∀ k, sgn k l ≠ 0 → l.take (sgn k l) ∈ sgL
  | 0, h => absurd rfl h
  | k + 1, h => by
    rw [sgn] at h ⊢
    cases hd : decide (l.take (k + 1) ∈ sgL)
    · rw [hd] at h
      exact sgn_in l k h
    · exact of_decide_eq_true hd
theorem sg_flat : ∀ x ∈ sgL, ∀ c ∈ x, c ≠ 10 := by decide
theorem wd_flat (c : UInt8) (h : wdB c = true) : c.toNat ≠ 10 := by
  intro e
  simp [wdB, isWd, isLet, isDig, e] at h
theorem advsI_flat (u : List UInt8) : ∀ (p : Int × Int), (∀ c ∈ u, c.toNat ≠ 10) → advsI p u = (p.1, p.2 + (u.length : Nat)) := by
  induction u with
  | nil => intro p _; simp [advsI]
  | cons b u ih =>
    intro p h
    have h1 := ih (advI p b) (fun c hc => h c (List.mem_cons_of_mem _ hc))
    have h2 : advI p b = (p.1, p.2 + 1) := by rw [advI, if_neg (h b List.mem_cons_self)]
    show advsI (advI p b) u = _
    rw [h1, h2]
    simp only [List.length_cons, Prod.mk.injEq, true_and]
    omega
theorem word_flat (l : List UInt8) (h : l ≠ []) (he : (wordS l).er = 0) : ∀ c ∈ l.take (wordS l).m, c.toNat ≠ 10 := by
  cases l with
  | nil => exact absurd rfl h
  | cons b r =>
    cases hl : isLet (b.toNat : Int)
    · cases hd : isDig (b.toNat : Int)
      · have e : wordS (b :: r) = signS (b :: r) := by simp [wordS, hl, hd]
        rw [e] at he ⊢
        simp only [signS] at he ⊢
        have h0 : sgn (min 2 (b :: r).length) (b :: r) ≠ 0 := fun h0 => by rw [h0] at he; simp at he
        intro c hc e
        exact sg_flat _ (sgn_in _ _ h0) c hc (UInt8.toNat_inj.1 e)
      · have e : wordS (b :: r) = numS (b :: r) := by simp [wordS, hl, hd]
        have hm : (numS (b :: r)).m = spn wdB (b :: r) := by
          unfold numS
          split
          · split <;> rfl
          · rfl
        rw [e, hm]
        exact fun c hc => wd_flat c (spn_all _ _ c hc)
    · have e : wordS (b :: r) = nameS (b :: r) := by simp [wordS, hl]
      have hm : (nameS (b :: r)).m = spn wdB (b :: r) := by
        unfold nameS
        split <;> rfl
      rw [e, hm]
      exact fun c hc => wd_flat c (spn_all _ _ c hc)

/-- The words of the whole text, some of which have come. -/
def Comes (s : ByteArray) (q : Nat) (done : List TokL) (ps : Int × Int) : Prop :=
  ∃ f, s.size - q < f ∧ lexF (s.size + 1) s.data.toList (1, 1) = (done ++ (lexF f (s.data.toList.drop q) ps).1, (lexF f (s.data.toList.drop q) ps).2)
/-- .. in a comment. -/
def ComesC (s : ByteArray) (q : Nat) (done : List TokL) (ps : Int × Int) : Prop :=
  ∃ f, s.size - q < f ∧ lexF (s.size + 1) s.data.toList (1, 1) = (done ++ (lexC f (s.data.toList.drop q) ps).1, (lexC f (s.data.toList.drop q) ps).2)
theorem Comes.start (s : ByteArray) : Comes s 0 [] (1, 1) := ⟨s.size + 1, by omega, by rw [List.drop_zero]; rfl⟩
theorem drop_next (s : ByteArray) (q : Nat) (hq : q < s.size) : s.data.toList.drop q = s[q] :: s.data.toList.drop (q + 1) :=
  List.drop_eq_getElem_cons (by rw [size_list]; exact hq)
theorem Comes.blank {s : ByteArray} {q : Nat} {done : List TokL} {ps : Int × Int} (h : Comes s q done ps) (hq : q < s.size) (hb : isBlank s[q] = true) : Comes s (q + 1) done (advI ps s[q]) := by
  obtain ⟨f, h1, h2⟩ := h
  refine ⟨f, by omega, ?_⟩
  rw [h2, drop_next s q hq, lexF_blank f _ _ ps hb]
theorem Comes.hash {s : ByteArray} {q : Nat} {done : List TokL} {ps : Int × Int} (h : Comes s q done ps) (hq : q < s.size) (hb : s[q].toNat = 35) : ComesC s q done ps := by
  obtain ⟨f, h1, h2⟩ := h
  refine ⟨f, h1, ?_⟩
  rw [h2, drop_next s q hq, lexC_hash f _ _ ps hb]
theorem ComesC.step {s : ByteArray} {q : Nat} {done : List TokL} {ps : Int × Int} (h : ComesC s q done ps) (hq : q < s.size) (hb : s[q].toNat ≠ 10) : ComesC s (q + 1) done (ps.1, ps.2 + 1) := by
  obtain ⟨f, h1, h2⟩ := h
  refine ⟨f, by omega, ?_⟩
  have e : advI ps s[q] = (ps.1, ps.2 + 1) := by rw [advI, if_neg hb]
  rw [h2, drop_next s q hq, lexC_step f _ _ ps hb, e]
theorem ComesC.leave {s : ByteArray} {q : Nat} {done : List TokL} {ps : Int × Int} (h : ComesC s q done ps) (hb : ∀ h : q < s.size, s[q].toNat = 10) : Comes s q done ps := by
  obtain ⟨f, h1, h2⟩ := h
  refine ⟨f, h1, ?_⟩
  by_cases hq : q < s.size
  · rw [h2, drop_next s q hq, lexC_nl f _ _ ps (hb hq)]
  · rw [h2, lexC_nil f _ ps (List.drop_eq_nil_of_le (by rw [size_list]; omega))]
theorem Comes.done {s : ByteArray} {q : Nat} {done : List TokL} {ps : Int × Int} (h : Comes s q done ps) (hq : s.size ≤ q) : lexF (s.size + 1) s.data.toList (1, 1) = (done, none) := by
  obtain ⟨f, h1, h2⟩ := h
  rw [h2, lexF_nil f _ ps (List.drop_eq_nil_of_le (by rw [size_list]; omega)), List.append_nil]
theorem skip_none (s : ByteArray) (q : Nat) (hq : q < s.size) (hb : isBlank s[q] = false) (hh : s[q].toNat ≠ 35) : skipN false (s.data.toList.drop q) = 0 := by
  rw [drop_next s q hq]
  exact skip_done _ (fun b r e => by injection e with e _; rw [← e]; exact hb) (fun b r e => by injection e with e _; rw [← e]; exact hh)
theorem Comes.bad {s : ByteArray} {q : Nat} {done : List TokL} {ps : Int × Int} (h : Comes s q done ps) (hq : q < s.size) (hb : isBlank s[q] = false) (hh : s[q].toNat ≠ 35) (he : (wordS (s.data.toList.drop q)).er ≠ 0) :
    lexF (s.size + 1) s.data.toList (1, 1) = (done, some (ps, (wordS (s.data.toList.drop q)).er)) := by
  obtain ⟨f, h1, h2⟩ := h
  obtain ⟨f, rfl⟩ : ∃ g, f = g + 1 := ⟨f - 1, by omega⟩
  rw [h2, lexF_bad f _ ps (by rw [drop_next s q hq]; simp) (skip_none s q hq hb hh) he, List.append_nil]
theorem Comes.word {s : ByteArray} {q : Nat} {done : List TokL} {ps : Int × Int} (h : Comes s q done ps) (hq : q < s.size) (hb : isBlank s[q] = false) (hh : s[q].toNat ≠ 35) (he : (wordS (s.data.toList.drop q)).er = 0) :
    q + (wordS (s.data.toList.drop q)).m ≤ s.size ∧ 1 ≤ (wordS (s.data.toList.drop q)).m ∧
    Comes s (q + (wordS (s.data.toList.drop q)).m) (done ++ [⟨(wordS (s.data.toList.drop q)).k, (s.data.toList.drop q).take (wordS (s.data.toList.drop q)).m, (wordS (s.data.toList.drop q)).n, ps⟩]) (ps.1, ps.2 + ((wordS (s.data.toList.drop q)).m : Nat)) := by
  obtain ⟨f, h1, h2⟩ := h
  obtain ⟨f, rfl⟩ : ∃ g, f = g + 1 := ⟨f - 1, by omega⟩
  have hne : s.data.toList.drop q ≠ [] := by rw [drop_next s q hq]; simp
  obtain ⟨h3, h4⟩ := word_len _ hne he
  have h5 := advsI_flat _ ps (word_flat _ hne he)
  rw [List.length_take, Nat.min_eq_left h4] at h5
  have h6 := lexF_word f _ ps hne (skip_none s q hq hb hh) he
  rw [h5, List.drop_drop] at h6
  have h7 : (s.data.toList.drop q).length = s.size - q := by rw [List.length_drop, size_list]
  refine ⟨by omega, h3, f, by omega, ?_⟩
  rw [h2, h6]
  simp
end Go.Proofs.YtkkjdmpgjfkenaaDoor

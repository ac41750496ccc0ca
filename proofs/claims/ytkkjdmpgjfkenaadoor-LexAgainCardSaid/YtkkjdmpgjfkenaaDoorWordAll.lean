/-
  What one word is, by definition; that the reader finds just this.
-/
import Derived.Test.YtkkjdmpgjfkenaaDoorWord
namespace Go.Proofs.YtkkjdmpgjfkenaaDoor
open Go.RowKit Go.Maps Go.WideMaps Go.Shelf

/-- A word: its kind, its number, an error, how long it is. -/
structure Wd where
  k : Int
  n : Int
  er : Int
  m : Nat

def numS (l : List UInt8) : Wd :=
  match Lib.parseUintM 2147483647 0 (l.take (spn wdB l)) with
  | .ok n => if l.head? = some 48 ∧ l.take (spn wdB l) ≠ [48] then ⟨2, 0, 112, spn wdB l⟩ else ⟨2, n, 0, spn wdB l⟩
  | _ => ⟨2, 0, 112, spn wdB l⟩
def nameS (l : List UInt8) : Wd :=
  if 16 < spn wdB l then ⟨1, 0, 111, spn wdB l⟩ else ⟨bif decide (l.take (spn wdB l) ∈ kwL) then 3 else 1, 0, 0, spn wdB l⟩
def signS (l : List UInt8) : Wd :=
  ⟨bif decide (sgn (min 2 l.length) l = 0) then 0 else 4, 0, bif decide (sgn (min 2 l.length) l = 0) then 110 else 0, sgn (min 2 l.length) l⟩
def wordS (l : List UInt8) : Wd :=
  bif isLet ((l.headD 0).toNat : Int) then nameS l else bif isDig ((l.headD 0).toNat : Int) then numS l else signS l

theorem parse_le (M : Nat) : ∀ (l : List UInt8) (acc n : Nat), acc ≤ M → Lib.parseUintM M acc l = .ok n → n ≤ M
  | [], acc, n, h, e => by simp [Lib.parseUintM] at e; omega
  | c :: r, acc, n, h, e => by
    unfold Lib.parseUintM at e
    split at e
    · split at e
      · cases e
      · split at e
        · cases e
        · exact parse_le M r _ n (by omega) e
    · cases e
theorem dig_let (b : Int) (h : isDig b = true) : isLet b = false := by
  simp [isDig, isLet] at *
  omega
theorem word_any (B : Nat) (pos : Int × Int) (t : ByteArray) (kb sb bb : Nat) (w : World) (hr : Rd w B pos t (.map (some kb)) (.map (some sb)) (.map (some bb))) (he : Env w kb sb bb) (h5 : 5 ≤ B)
    (hne : t.data.toList ≠ []) (hp1 : 0 ≤ pos.1) (hp2 : 0 ≤ pos.2) (hp3 : pos.1 + t.size ≤ 100000000) (hp4 : pos.2 + t.size ≤ 100000000) :
    Calls Tryd.prog 40 #[.pointer (some ⟨B, 0, none⟩)] w
      (WordP B pos t (.map (some kb)) (.map (some sb)) (.map (some bb)) w (wordS t.data.toList).k (wordS t.data.toList).n (wordS t.data.toList).er (wordS t.data.toList).m) := by
  cases hl : t.data.toList with
  | nil => exact absurd hl hne
  | cons b0 r0 =>
    have hts : t.size = r0.length + 1 := by rw [← size_list, hl]; simp
    cases hlet : isLet (b0.toNat : Int)
    · cases hdig : isDig (b0.toNat : Int)
      · refine word_sign B pos t _ _ _ _ _ _ _ w hr b0 r0 hl hlet hdig kb sb bb he (fun W hR hE => ?_)
        rw [← hl]
        have e : wordS t.data.toList = signS t.data.toList := by rw [wordS, hl]; simp [hlet, hdig]
        rw [e]
        exact sign_any B pos t _ _ sb W hR hE.sg (min 2 t.size) rfl _ (by rw [← size_list]; rfl) _ _ rfl rfl hp1 hp2 hp3 hp4
      · refine word_digit B pos t _ _ _ _ _ _ _ w hr b0 r0 hl hlet hdig kb sb bb he (fun W hR hE => ?_)
        rw [← hl]
        have e : wordS t.data.toList = numS t.data.toList := by rw [wordS, hl]; simp [hlet, hdig]
        have h1 : 1 ≤ spn wdB t.data.toList := by rw [hl]; simp [spn, wdB, isWd, hdig]
        obtain ⟨q, hq⟩ : ∃ q, spn wdB t.data.toList = q + 1 := ⟨spn wdB t.data.toList - 1, by omega⟩
        have hz : t.data.toList.take (spn wdB t.data.toList) = b0 :: r0.take q := by rw [hq, hl]; rfl
        rw [e]
        unfold numS
        rcases hp : Lib.parseUintM 2147483647 0 (t.data.toList.take (spn wdB t.data.toList)) with n | _ | _
        ·
          have hnb : n ≤ 2147483647 := parse_le _ _ _ _ (by omega) hp
          by_cases hb0 : b0.toNat = 48
          · have hb48 : b0 = 48 := UInt8.toNat_inj.1 hb0
            by_cases hr0 : r0.take q = []
            · have hc : ¬ (t.data.toList.head? = some 48 ∧ t.data.toList.take (spn wdB t.data.toList) ≠ [48]) := by
                rintro ⟨_, h⟩
                exact h (by rw [hz, hr0, hb48])
              simp only [if_neg hc]
              exact number_nought B pos t _ _ _ W hR n hnb h1 hp (by rw [hz, hr0, hb48]) hp1 hp2 (by omega) (by omega)
            · have hc : t.data.toList.head? = some 48 ∧ t.data.toList.take (spn wdB t.data.toList) ≠ [48] := by
                refine ⟨by rw [hl, hb48]; rfl, ?_⟩
                rw [hz, hb48]
                intro h
                exact hr0 (List.cons.inj h).2
              simp only [if_pos hc]
              exact number_zero B pos t _ _ _ W hR n h1 hp b0 _ hz hb0 hr0 hp1 hp2 (by omega) (by omega)
          · have hc : ¬ (t.data.toList.head? = some 48 ∧ t.data.toList.take (spn wdB t.data.toList) ≠ [48]) := by
              rintro ⟨h, _⟩
              rw [hl] at h
              injection h with h
              exact hb0 (by rw [h]; rfl)
            simp only [if_neg hc]
            exact number_good B pos t _ _ _ W hR n hnb h1 hp b0 _ hz hb0 hp1 hp2 (by omega) (by omega)
        · exact number_bad B pos t _ _ _ W hR hE.vars h5 h1 (fun n => by rw [hp]; simp) hp1 hp2 (by omega) (by omega)
        · exact number_bad B pos t _ _ _ W hR hE.vars h5 h1 (fun n => by rw [hp]; simp) hp1 hp2 (by omega) (by omega)
    · refine word_letter B pos t _ _ _ _ _ _ _ w hr b0 r0 hl hlet kb sb bb he (fun W hR hE => ?_)
      rw [← hl]
      have e : wordS t.data.toList = nameS t.data.toList := by rw [wordS, hl]; simp [hlet]
      rw [e]
      unfold nameS
      by_cases h16 : 16 < spn wdB t.data.toList
      · simp only [if_pos h16]
        exact name_long B pos t _ _ _ W hR h16 hp1 hp2 (by omega) (by omega)
      · simp only [if_neg h16]
        exact name_short B pos t _ _ _ W hR (by omega) kb rfl hE.kw _ rfl _ rfl hp1 hp2 (by omega) (by omega)
end Go.Proofs.YtkkjdmpgjfkenaaDoor

/-
  The word at a place in a text: by definition.
-/
import Derived.Test.YtkkjdmpgjfkenaaDoorRNumber
namespace Go.Proofs.YtkkjdmpgjfkenaaDoor
open Go.RowKit Go.Maps Go.WideMaps Go.Shelf

/-- What 'one' tells of the text from a place on. -/
def OneP (l : List UInt8) (w : World) (e : Ending) (w' : World) : Prop :=
  (((wordS l).er = 0 ∧ ∃ u : ByteArray, u.data.toList = l.take (wordS l).m ∧ e = .returned (.tuple #[tokV (wordS l).k u (wordS l).n (0, 0), .int .i64 ((wordS l).m : Nat), .int .i64 0])) ∨
    ((wordS l).er ≠ 0 ∧ e = .returned (.tuple #[tokV 0 ByteArray.empty 0 (0, 0), .int .i64 0, .int .i64 (wordS l).er]))) ∧ Below w.heap.size w w'
theorem OneP.good {l : List UInt8} {w : World} {e : Ending} {w' : World} {k n : Int} {m : Nat} (h : wordS l = ⟨k, n, 0, m⟩) (u : ByteArray) (hu : u.data.toList = l.take m)
    (he : e = .returned (.tuple #[tokV k u n (0, 0), .int .i64 (m : Nat), .int .i64 0])) (hb : Below w.heap.size w w') : OneP l w e w' := by
  unfold OneP
  rw [h]
  exact ⟨.inl ⟨rfl, u, hu, he⟩, hb⟩
theorem OneP.bad {l : List UInt8} {w : World} {e : Ending} {w' : World} {k n er : Int} {m : Nat} (h : wordS l = ⟨k, n, er, m⟩) (h0 : er ≠ 0)
    (he : e = .returned (.tuple #[tokV 0 ByteArray.empty 0 (0, 0), .int .i64 0, .int .i64 er])) (hb : Below w.heap.size w w') : OneP l w e w' := by
  unfold OneP
  rw [h]
  exact ⟨.inr ⟨h0, he⟩, hb⟩

theorem ext_mid (s : ByteArray) (p n q : Nat) (h : p + n = q) : (s.extract p q).data.toList = (s.data.toList.drop p).take n := by
  rw [Lib.extract_data]
  subst h
  rw [Nat.add_sub_cancel_left]
theorem drop_at (s : ByteArray) (p : Nat) (hp : p < s.size) : ∃ r, s.data.toList.drop p = s[p] :: r := by
  have h : p < s.data.toList.length := by rw [size_list]; exact hp
  exact ⟨_, List.drop_eq_getElem_cons h⟩

set_option maxHeartbeats 1000000 in
theorem one_num (s : ByteArray) (hs : s.size ≤ 1000000) (p : Nat) (hp : p < s.size) (hd : isDig (s[p].toNat : Int) = true) (w : World) :
    Calls Tryd.prog 25 #[.string s, .int .i64 p] w (OneP (s.data.toList.drop p) w) := by
  obtain ⟨r0, hr0⟩ := drop_at s p hp
  have hnum : wordS (s.data.toList.drop p) = numS (s.data.toList.drop p) := by
    rw [wordS, hr0]; simp [hd, dig_let _ hd]
  have h1 : 1 ≤ spn wdB (s.data.toList.drop p) := by rw [hr0]; exact spn_pos (by simp [wdB, isWd, hd])
  have hle := spn_le wdB (s.data.toList.drop p)
  rw [List.length_drop, size_list] at hle
  have hne : (s.data.toList.drop p).take (spn wdB (s.data.toList.drop p)) ≠ [] := by
    rw [hr0] at h1 ⊢
    obtain ⟨k, hk⟩ : ∃ k, spn wdB (s[p] :: r0) = k + 1 := ⟨spn wdB (s[p] :: r0) - 1, by omega⟩
    rw [hk]; simp
  have HNS := Lib.hid (numS_of _ hne)
  have HNUM := Lib.hid hnum
  have HR := Lib.hid (fun W => run_any s hs p (by omega) W)
  have HD := Lib.hid (fun W => digit_any (s[p].toNat : Int) W)
  rw [hd] at HD
  clear hne hnum hr0 hd
  have hll : (s.data.toList.drop p).length = s.size - p := by rw [List.length_drop, size_list]
  generalize hl : s.data.toList.drop p = l at *
  generalize spn wdB l = n at *
  obtain ⟨q, hq⟩ : ∃ q, p + n = q := ⟨_, rfl⟩
  have hqi : (p : Int) + (n : Int) = (q : Int) := by omega
  obtain ⟨u, hu⟩ : ∃ u, s.extract p q = u := ⟨_, rfl⟩
  have hut : u.data.toList = l.take n := by rw [← hu, ext_mid s p n q hq, hl]
  have hus : u.size = n := by rw [← size_list, hut, List.length_take, hll]; omega
  have HN := Lib.hid (fun W => rnumber_any u (by omega) (by omega) W)
  have HU := Lib.hid hut
  rw [← hut] at HNS
  have hq' : q ≤ s.size := by omega
  clear hl hut hll
  cases hok : okN u.data.toList
  · rw [hok] at HN HNS
    have HW : Hid (wordS l = ⟨2, 0, 112, n⟩) := by rw [HNUM.out, HNS.out]; exact Lib.hid rfl
    clear hok HNS HNUM
    go_enter Tryd.func25, Tryd.ntmps25
    go_wp2_with fail
    refine (HR.out _).mono ?_
    rintro e w1 ⟨rfl, rfl⟩
    go_wp2_with fail
    refine (HD.out _).mono ?_
    rintro e w1 ⟨rfl, rfl⟩
    go_wp2_with fail
    refine (HN.out _).mono ?_
    rintro e w2 ⟨⟨x, rfl, _⟩, hb⟩
    have b0 := (Blk.new w 40 (tokC 0 ByteArray.empty 0 (0, 0))).below hb (by simp)
    obtain ⟨x0, x1, x2, x3, x4, y0, y1, y2, y3, y4⟩ := b0.five
    have hb2 := ((Below.refl _ w).alloc (Nat.le_refl _) _).trans (hb.mono (by simp))
    have HB := Lib.hid hb2
    clear hb hb2
    go_wp2_with fail
    refine bodyPost_ret (v := .tuple #[tokV 0 ByteArray.empty 0 (0, 0), .int .i64 0, .int .i64 112]) (by simp [tokV, results, Tryd.results25, go_sem, x0, x1, x2, x3, x4] <;> rfl) rfl (OneP.bad HW.out (by omega) rfl ?_)
    repeat (refine Below.setCell ?_ (by simp) _)
    exact HB.out
  · rw [hok] at HN HNS
    have HW : Hid (wordS l = ⟨2, (dv 0 u.data.toList : Nat), 0, n⟩) := by rw [HNUM.out, HNS.out]; exact Lib.hid rfl
    clear hok HNS HNUM
    go_enter Tryd.func25, Tryd.ntmps25
    go_wp2_with fail
    refine (HR.out _).mono ?_
    rintro e w1 ⟨rfl, rfl⟩
    go_wp2_with fail
    refine (HD.out _).mono ?_
    rintro e w1 ⟨rfl, rfl⟩
    go_wp2_with fail
    refine (HN.out _).mono ?_
    rintro e w2 ⟨⟨x, rfl, hx⟩, hb⟩
    have hx' := hx rfl
    rw [← hx'] at HW
    clear hx hx'
    have b0 := (Blk.new w 40 (tokC 0 ByteArray.empty 0 (0, 0))).below hb (by simp)
    obtain ⟨x0, x1, x2, x3, x4, y0, y1, y2, y3, y4⟩ := b0.five
    have hb2 := ((Below.refl _ w).alloc (Nat.le_refl _) _).trans (hb.mono (by simp))
    have HB := Lib.hid hb2
    clear hb hb2
    go_wp2_with fail
    refine bodyPost_ret (v := .tuple #[tokV 2 u x (0, 0), .int .i64 n, .int .i64 0]) (by simp [tokV, results, Tryd.results25, go_sem, x0, x1, x2, x3, x4] <;> rfl) rfl (OneP.good HW.out u HU.out rfl ?_)
    repeat (refine Below.setCell ?_ (by simp) _)
    exact HB.out

theorem kw_short : ∀ x ∈ kwL, x.length ≤ 16 := by decide

set_option maxHeartbeats 1000000 in
theorem one_let (s : ByteArray) (hs : s.size ≤ 1000000) (p : Nat) (hp : p < s.size) (hd : isLet (s[p].toNat : Int) = true) (w : World) :
    Calls Tryd.prog 25 #[.string s, .int .i64 p] w (OneP (s.data.toList.drop p) w) := by
  obtain ⟨r0, hr0⟩ := drop_at s p hp
  have hnum : wordS (s.data.toList.drop p) = nameS (s.data.toList.drop p) := by
    rw [wordS, hr0]; simp [hd]
  have hnd : isDig (s[p].toNat : Int) = false := by
    cases h : isDig (s[p].toNat : Int)
    · rfl
    · rw [dig_let _ h] at hd; cases hd
  have h1 : 1 ≤ spn wdB (s.data.toList.drop p) := by rw [hr0]; exact spn_pos (by simp [wdB, isWd, hd])
  have hle := spn_le wdB (s.data.toList.drop p)
  rw [List.length_drop, size_list] at hle
  have HR := Lib.hid (fun W => run_any s hs p (by omega) W)
  have HD := Lib.hid (fun W => digit_any (s[p].toNat : Int) W)
  rw [hnd] at HD
  have HNUM := Lib.hid hnum
  have HNM : Hid (nameS (s.data.toList.drop p) = if 16 < spn wdB (s.data.toList.drop p) then ⟨1, 0, 111, spn wdB (s.data.toList.drop p)⟩ else ⟨bif decide ((s.data.toList.drop p).take (spn wdB (s.data.toList.drop p)) ∈ kwL) then 3 else 1, 0, 0, spn wdB (s.data.toList.drop p)⟩) := Lib.hid rfl
  clear hnum hr0 hd hnd
  have hll : (s.data.toList.drop p).length = s.size - p := by rw [List.length_drop, size_list]
  generalize hl : s.data.toList.drop p = l at *
  generalize spn wdB l = n at *
  obtain ⟨q, hq⟩ : ∃ q, p + n = q := ⟨_, rfl⟩
  have hqi : (p : Int) + (n : Int) = (q : Int) := by omega
  obtain ⟨u, hu⟩ : ∃ u, s.extract p q = u := ⟨_, rfl⟩
  have hut : u.data.toList = l.take n := by rw [← hu, ext_mid s p n q hq, hl]
  have hus : u.size = n := by rw [← size_list, hut, List.length_take, hll]; omega
  have HK := Lib.hid (fun W => rKeyword_any u W)
  have HU := Lib.hid hut
  rw [← hut] at HNM
  have hq' : q ≤ s.size := by omega
  have hn16 : u.data.toList ∈ kwL → n ≤ 16 := fun h => by
    have := kw_short _ h
    rw [size_list, hus] at this
    exact this
  clear hl hut hll
  cases hkw : decide (u.data.toList ∈ kwL)
  · rw [hkw] at HK HNM
    by_cases h16 : 16 < n
    · have HW : Hid (wordS l = ⟨1, 0, 111, n⟩) := by rw [HNUM.out, HNM.out, if_pos h16]; exact Lib.hid rfl
      clear hkw HNM HNUM hn16
      go_enter Tryd.func25, Tryd.ntmps25
      go_wp2_with fail
      refine (HR.out _).mono ?_
      rintro e w1 ⟨rfl, rfl⟩
      go_wp2_with fail
      refine (HD.out _).mono ?_
      rintro e w1 ⟨rfl, rfl⟩
      go_wp2_with fail
      refine (HK.out _).mono ?_
      rintro e w2 ⟨rfl, hb⟩
      have b0 := (Blk.new w 40 (tokC 0 ByteArray.empty 0 (0, 0))).below hb (by simp)
      obtain ⟨x0, x1, x2, x3, x4, y0, y1, y2, y3, y4⟩ := b0.five
      have hb2 := ((Below.refl _ w).alloc (Nat.le_refl _) _).trans (hb.mono (by simp))
      have HB := Lib.hid hb2
      clear hb hb2
      go_wp2_with fail
      refine bodyPost_ret (v := .tuple #[tokV 0 ByteArray.empty 0 (0, 0), .int .i64 0, .int .i64 111]) (by simp [tokV, results, Tryd.results25, go_sem, x0, x1, x2, x3, x4] <;> rfl) rfl (OneP.bad HW.out (by omega) rfl ?_)
      repeat (refine Below.setCell ?_ (by simp) _)
      exact HB.out
    · have HW : Hid (wordS l = ⟨1, 0, 0, n⟩) := by rw [HNUM.out, HNM.out, if_neg h16]; exact Lib.hid rfl
      clear hkw HNM HNUM hn16
      go_enter Tryd.func25, Tryd.ntmps25
      go_wp2_with fail
      refine (HR.out _).mono ?_
      rintro e w1 ⟨rfl, rfl⟩
      go_wp2_with fail
      refine (HD.out _).mono ?_
      rintro e w1 ⟨rfl, rfl⟩
      go_wp2_with fail
      refine (HK.out _).mono ?_
      rintro e w2 ⟨rfl, hb⟩
      have b0 := (Blk.new w 40 (tokC 0 ByteArray.empty 0 (0, 0))).below hb (by simp)
      obtain ⟨x0, x1, x2, x3, x4, y0, y1, y2, y3, y4⟩ := b0.five
      have hb2 := ((Below.refl _ w).alloc (Nat.le_refl _) _).trans (hb.mono (by simp))
      have HB := Lib.hid hb2
      clear hb hb2
      go_wp2_with fail
      refine bodyPost_ret (v := .tuple #[tokV 1 u 0 (0, 0), .int .i64 n, .int .i64 0]) (by simp [tokV, results, Tryd.results25, go_sem, x0, x1, x2, x3, x4] <;> rfl) rfl (OneP.good HW.out u HU.out rfl ?_)
      repeat (refine Below.setCell ?_ (by simp) _)
      exact HB.out
  · rw [hkw] at HK HNM
    have h16 : ¬ 16 < n := by have := hn16 (of_decide_eq_true hkw); omega
    have HW : Hid (wordS l = ⟨3, 0, 0, n⟩) := by rw [HNUM.out, HNM.out, if_neg h16]; exact Lib.hid rfl
    clear hkw HNM HNUM hn16
    go_enter Tryd.func25, Tryd.ntmps25
    go_wp2_with fail
    refine (HR.out _).mono ?_
    rintro e w1 ⟨rfl, rfl⟩
    go_wp2_with fail
    refine (HD.out _).mono ?_
    rintro e w1 ⟨rfl, rfl⟩
    go_wp2_with fail
    refine (HK.out _).mono ?_
    rintro e w2 ⟨rfl, hb⟩
    have b0 := (Blk.new w 40 (tokC 0 ByteArray.empty 0 (0, 0))).below hb (by simp)
    obtain ⟨x0, x1, x2, x3, x4, y0, y1, y2, y3, y4⟩ := b0.five
    have hb2 := ((Below.refl _ w).alloc (Nat.le_refl _) _).trans (hb.mono (by simp))
    have HB := Lib.hid hb2
    clear hb hb2
    go_wp2_with fail
    refine bodyPost_ret (v := .tuple #[tokV 3 u 0 (0, 0), .int .i64 n, .int .i64 0]) (by simp [tokV, results, Tryd.results25, go_sem, x0, x1, x2, x3, x4] <;> rfl) rfl (OneP.good HW.out u HU.out rfl ?_)
    repeat (refine Below.setCell ?_ (by simp) _)
    exact HB.out
end Go.Proofs.YtkkjdmpgjfkenaaDoor

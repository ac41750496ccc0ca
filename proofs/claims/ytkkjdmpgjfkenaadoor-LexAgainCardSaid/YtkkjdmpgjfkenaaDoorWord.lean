/-
  One word, off the text.
-/
import Derived.Test.YtkkjdmpgjfkenaaDoorNumber
import Derived.Test.YtkkjdmpgjfkenaaDoorSign
namespace Go.Proofs.YtkkjdmpgjfkenaaDoor
open Go.RowKit Go.Maps Go.WideMaps Go.Shelf

/-- What a call wants of the world beside the reader: the two errors, the three sets. -/
structure Env (w : World) (kb sb bb : Nat) : Prop where
  vars : ErrVars w
  kw : w.ownsMap Tryd.prog 9 unitElem kb 20 (SnS kwB 20)
  sg : w.ownsMap Tryd.prog 9 unitElem sb 20 (SnS sgB 20)
  bl : w.ownsMap Tryd.prog 5 unitElem bb 4 (SnB blZ 4)
theorem Env.only {X} {w w' : World} {kb sb bb : Nat} (h : Env w kb sb bb) (ho : Only X w w') (hx : ∀ k, X k → 5 ≤ k ∧ k ≠ kb ∧ k ≠ sb ∧ k ≠ bb) : Env w' kb sb bb :=
  ⟨h.vars.below (ho.below h.vars.2.2 (fun k hk => (hx k hk).1)), ownsMap_only h.kw ho (fun hk => (hx _ hk).2.1 rfl), ownsMap_only h.sg ho (fun hk => (hx _ hk).2.2.1 rfl), ownsMap_only h.bl ho (fun hk => (hx _ hk).2.2.2 rfl)⟩
theorem Env.alloc {w : World} {kb sb bb : Nat} (h : Env w kb sb bb) (o : Obj) : Env (w.alloc o) kb sb bb := h.only (X := fun _ => False) ((Only.refl w).alloc o) (fun _ hk => hk.elim)
theorem Env.ne {w : World} {kb sb bb B : Nat} {p t u v x} (h : Env w kb sb bb) (hr : Rd w B p t u v x) : B ≠ kb ∧ B ≠ sb ∧ B ≠ bb :=
  ⟨(ownsMap_ne h.kw hr).symm, (ownsMap_ne h.sg hr).symm, (ownsMap_ne h.bl hr).symm⟩

set_option maxHeartbeats 1000000 in
theorem word_letter (B : Nat) (pos : Int × Int) (t : ByteArray) (kw sg bl : Value) (k n er : Int) (m : Nat) (w : World) (hr : Rd w B pos t kw sg bl) (b0 : UInt8) (r0 : List UInt8) (hl : t.data.toList = b0 :: r0) (hlet : isLet (b0.toNat : Int) = true)
    (kb sb bb : Nat) (he : Env w kb sb bb)
    (hcall : ∀ W, Rd W B pos t kw sg bl → Env W kb sb bb → Calls Tryd.prog 51 #[.pointer (some ⟨B, 0, none⟩), tokV 0 ByteArray.empty 0 pos] W (WordP B pos t kw sg bl W k n er m)) :
    Calls Tryd.prog 40 #[.pointer (some ⟨B, 0, none⟩)] w (WordP B pos t kw sg bl w k n er m) := by
  have c0 := hr.cell0; have c1 := hr.cell1; have c2 := hr.cell2
  have hpos : 0 < t.size := by rw [← size_list, hl]; simp
  have h0b := head_byte t hpos b0 r0 hl
  have hb := hr.lt
  have HC := Lib.hid hcall
  have HE := Lib.hid he
  have HR := Lib.hid hr
  have HL : Hid (∀ W, Calls Tryd.prog 26 #[.int .u8 (t[0].toNat : Int)] W fun e w' => e = .returned (.bool true) ∧ W = w') := fun W => by
    have := isLetter_any (t[0].toNat : Int) W
    rw [h0b, hlet, ← h0b] at this
    exact this
  clear hcall he hl hr h0b hlet
  unfold tokV at HC
  go_enter Tryd.func40, Tryd.ntmps40
  go_wp2_with fail
  refine (HL.out _).mono ?_
  rintro e w' ⟨rfl, rfl⟩
  clear HL
  go_wp2_with fail
  refine (HC.out _ ((HR.out.alloc _).alloc _) ((HE.out.alloc _).alloc _)).mono ?_
  rintro e w1 ⟨u1, t1, rfl, hu1, ht1, hr1, ho1⟩
  have b2 := (Blk.new w 40 (tokC 0 ByteArray.empty 0 (0, 0))).alloc (.cells (tokC 0 ByteArray.empty 0 pos) 40)
  have b3 := b2.only ho1 (by omega)
  have h0 : Only (fun b => b = B) w w1 := (((Only.refl w).alloc _).alloc _).trans ho1
  obtain ⟨x0', x1', x2', x3', x4', y0', y1', y2', y3', y4'⟩ := b3.five
  have HU := Lib.hid hu1; have HT := Lib.hid ht1; have H0 := Lib.hid h0
  clear hu1 ht1 h0 ho1 b2 b3 HC c0 c1 c2
  dsimp only [tokV]
  go_wp2_with fail
  refine bodyPost_ret (v := .tuple #[tokV k u1 n pos, .int .i64 er]) (by simp [tokV, results, Tryd.results40, go_sem, x0', x1', x2', x3', x4']) rfl ⟨u1, t1, rfl, HU.out, HT.out, ?_, ?_⟩
  · repeat (refine Rd.far ?_ (by simp; omega) _)
    exact hr1
  · repeat (refine Only.setCell ?_ (.inr (by simp)) _)
    exact H0.out
set_option maxHeartbeats 1000000 in
theorem word_digit (B : Nat) (pos : Int × Int) (t : ByteArray) (kw sg bl : Value) (k n er : Int) (m : Nat) (w : World) (hr : Rd w B pos t kw sg bl) (b0 : UInt8) (r0 : List UInt8) (hl : t.data.toList = b0 :: r0) (hlet : isLet (b0.toNat : Int) = false) (hdig : isDig (b0.toNat : Int) = true)
    (kb sb bb : Nat) (he : Env w kb sb bb)
    (hcall : ∀ W, Rd W B pos t kw sg bl → Env W kb sb bb → Calls Tryd.prog 52 #[.pointer (some ⟨B, 0, none⟩), tokV 0 ByteArray.empty 0 pos] W (WordP B pos t kw sg bl W k n er m)) :
    Calls Tryd.prog 40 #[.pointer (some ⟨B, 0, none⟩)] w (WordP B pos t kw sg bl w k n er m) := by
  have c0 := hr.cell0; have c1 := hr.cell1; have c2 := hr.cell2
  have hpos : 0 < t.size := by rw [← size_list, hl]; simp
  have h0b := head_byte t hpos b0 r0 hl
  have hb := hr.lt
  have HC := Lib.hid hcall
  have HE := Lib.hid he
  have HR := Lib.hid hr
  have HL : Hid (∀ W, Calls Tryd.prog 26 #[.int .u8 (t[0].toNat : Int)] W fun e w' => e = .returned (.bool false) ∧ W = w') := fun W => by
    have := isLetter_any (t[0].toNat : Int) W
    rw [h0b, hlet, ← h0b] at this
    exact this
  have HD : Hid (∀ W, Calls Tryd.prog 45 #[.int .u8 (t[0].toNat : Int)] W fun e w' => e = .returned (.bool true) ∧ W = w') := fun W => by
    have := isDigit_any (t[0].toNat : Int) W
    rw [h0b, hdig, ← h0b] at this
    exact this
  clear hcall he hl hr h0b hlet hdig
  unfold tokV at HC
  go_enter Tryd.func40, Tryd.ntmps40
  go_wp2_with fail
  refine (HL.out _).mono ?_
  rintro e w' ⟨rfl, rfl⟩
  clear HL
  go_wp2_with fail
  refine (HD.out _).mono ?_
  rintro e w' ⟨rfl, rfl⟩
  clear HD
  go_wp2_with fail
  refine (HC.out _ ((HR.out.alloc _).alloc _) ((HE.out.alloc _).alloc _)).mono ?_
  rintro e w1 ⟨u1, t1, rfl, hu1, ht1, hr1, ho1⟩
  have b2 := (Blk.new w 40 (tokC 0 ByteArray.empty 0 (0, 0))).alloc (.cells (tokC 0 ByteArray.empty 0 pos) 40)
  have b3 := b2.only ho1 (by omega)
  have h0 : Only (fun b => b = B) w w1 := (((Only.refl w).alloc _).alloc _).trans ho1
  obtain ⟨x0', x1', x2', x3', x4', y0', y1', y2', y3', y4'⟩ := b3.five
  have HU := Lib.hid hu1; have HT := Lib.hid ht1; have H0 := Lib.hid h0
  clear hu1 ht1 h0 ho1 b2 b3 HC c0 c1 c2
  dsimp only [tokV]
  go_wp2_with fail
  refine bodyPost_ret (v := .tuple #[tokV k u1 n pos, .int .i64 er]) (by simp [tokV, results, Tryd.results40, go_sem, x0', x1', x2', x3', x4']) rfl ⟨u1, t1, rfl, HU.out, HT.out, ?_, ?_⟩
  · repeat (refine Rd.far ?_ (by simp; omega) _)
    exact hr1
  · repeat (refine Only.setCell ?_ (.inr (by simp)) _)
    exact H0.out
set_option maxHeartbeats 1000000 in
theorem word_sign (B : Nat) (pos : Int × Int) (t : ByteArray) (kw sg bl : Value) (k n er : Int) (m : Nat) (w : World) (hr : Rd w B pos t kw sg bl) (b0 : UInt8) (r0 : List UInt8) (hl : t.data.toList = b0 :: r0) (hlet : isLet (b0.toNat : Int) = false) (hdig : isDig (b0.toNat : Int) = false)
    (kb sb bb : Nat) (he : Env w kb sb bb)
    (hcall : ∀ W, Rd W B pos t kw sg bl → Env W kb sb bb → Calls Tryd.prog 53 #[.pointer (some ⟨B, 0, none⟩), tokV 0 ByteArray.empty 0 pos] W (WordP B pos t kw sg bl W k n er m)) :
    Calls Tryd.prog 40 #[.pointer (some ⟨B, 0, none⟩)] w (WordP B pos t kw sg bl w k n er m) := by
  have c0 := hr.cell0; have c1 := hr.cell1; have c2 := hr.cell2
  have hpos : 0 < t.size := by rw [← size_list, hl]; simp
  have h0b := head_byte t hpos b0 r0 hl
  have hb := hr.lt
  have HC := Lib.hid hcall
  have HE := Lib.hid he
  have HR := Lib.hid hr
  have HL : Hid (∀ W, Calls Tryd.prog 26 #[.int .u8 (t[0].toNat : Int)] W fun e w' => e = .returned (.bool false) ∧ W = w') := fun W => by
    have := isLetter_any (t[0].toNat : Int) W
    rw [h0b, hlet, ← h0b] at this
    exact this
  have HD : Hid (∀ W, Calls Tryd.prog 45 #[.int .u8 (t[0].toNat : Int)] W fun e w' => e = .returned (.bool false) ∧ W = w') := fun W => by
    have := isDigit_any (t[0].toNat : Int) W
    rw [h0b, hdig, ← h0b] at this
    exact this
  clear hcall he hl hr h0b hlet hdig
  unfold tokV at HC
  go_enter Tryd.func40, Tryd.ntmps40
  go_wp2_with fail
  refine (HL.out _).mono ?_
  rintro e w' ⟨rfl, rfl⟩
  clear HL
  go_wp2_with fail
  refine (HD.out _).mono ?_
  rintro e w' ⟨rfl, rfl⟩
  clear HD
  go_wp2_with fail
  refine (HC.out _ ((HR.out.alloc _).alloc _) ((HE.out.alloc _).alloc _)).mono ?_
  rintro e w1 ⟨u1, t1, rfl, hu1, ht1, hr1, ho1⟩
  have b2 := (Blk.new w 40 (tokC 0 ByteArray.empty 0 (0, 0))).alloc (.cells (tokC 0 ByteArray.empty 0 pos) 40)
  have b3 := b2.only ho1 (by omega)
  have h0 : Only (fun b => b = B) w w1 := (((Only.refl w).alloc _).alloc _).trans ho1
  obtain ⟨x0', x1', x2', x3', x4', y0', y1', y2', y3', y4'⟩ := b3.five
  have HU := Lib.hid hu1; have HT := Lib.hid ht1; have H0 := Lib.hid h0
  clear hu1 ht1 h0 ho1 b2 b3 HC c0 c1 c2
  dsimp only [tokV]
  go_wp2_with fail
  refine bodyPost_ret (v := .tuple #[tokV k u1 n pos, .int .i64 er]) (by simp [tokV, results, Tryd.results40, go_sem, x0', x1', x2', x3', x4']) rfl ⟨u1, t1, rfl, HU.out, HT.out, ?_, ?_⟩
  · repeat (refine Rd.far ?_ (by simp; omega) _)
    exact hr1
  · repeat (refine Only.setCell ?_ (.inr (by simp)) _)
    exact H0.out
end Go.Proofs.YtkkjdmpgjfkenaaDoor

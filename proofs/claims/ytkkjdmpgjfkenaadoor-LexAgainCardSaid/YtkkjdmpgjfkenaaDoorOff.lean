/-
  Taking bytes off the text: '(*reader).off' of any function value.
-/
import Derived.Test.YtkkjdmpgjfkenaaDoorLeaf
import Derived.Below
import Derived.OwnWalk
import Derived.LoopTactic
import Derived.Shelf.Abstract
import Derived.Lib.Strings
import Derived.Lib.Hide
import Derived.Lib.IndexBytes
namespace Go.Proofs.YtkkjdmpgjfkenaaDoor
open Go.RowKit

/-- What a call of the call's own may turn: blocks of X, and what is new. -/
structure Only (X : Nat → Prop) (w w' : World) : Prop where
  os : w'.os = w.os
  tape : w'.tape = w.tape
  output : w'.output = w.output
  size : w.heap.size ≤ w'.heap.size
  block : ∀ k, k < w.heap.size → ¬ X k → w'.heap[k]? = w.heap[k]?

theorem Only.refl {X} (w : World) : Only X w w := ⟨rfl, rfl, rfl, Nat.le_refl _, fun _ _ _ => rfl⟩
theorem Only.trans {X} {a b c : World} (h : Only X a b) (k : Only X b c) : Only X a c :=
  ⟨k.os.trans h.os, k.tape.trans h.tape, k.output.trans h.output, Nat.le_trans h.size k.size,
   fun i hi hx => (k.block i (Nat.lt_of_lt_of_le hi h.size) hx).trans (h.block i hi hx)⟩
theorem Only.mono {X Y : Nat → Prop} {a b : World} (h : Only X a b) (hx : ∀ k, X k → Y k) : Only Y a b :=
  ⟨h.os, h.tape, h.output, h.size, fun i hi hn => h.block i hi (fun hk => hn (hx _ hk))⟩
theorem Only.drew {X} {a w : World} (h : Only X a w) : Only X a w.drew := ⟨h.os, h.tape, h.output, h.size, h.block⟩
theorem Only.alloc {X} {a w : World} (h : Only X a w) (o : Obj) : Only X a (w.alloc o) :=
  h.trans ⟨rfl, rfl, rfl, by simp, fun k hk _ => Below.heap_alloc _ _ _ hk⟩
theorem Only.setCell {X} {a w : World} (h : Only X a w) {p : Addr} (hp : X p.block ∨ a.heap.size ≤ p.block) (u : Value) : Only X a (w.setCell p u) :=
  ⟨h.os, h.tape, h.output, by have := h.size; simpa [World.setCell] using this, fun k hk hx => (Below.heap_setCell _ _ _ _ (by
    rintro rfl
    rcases hp with hp | hp
    · exact hx hp
    · omega)).trans (h.block k hk hx)⟩
theorem Only.below {X} {a w : World} (h : Only X a w) {n : Nat} (hn : n ≤ a.heap.size) (hx : ∀ k, X k → n ≤ k) : Below n a w :=
  ⟨h.os, h.tape, h.output, h.size, fun k hk => h.block k (by omega) (fun hk' => by have := hx k hk'; omega)⟩
theorem Only.of_below {X} {a w : World} (h : Below a.heap.size a w) : Only X a w := ⟨h.os, h.tape, h.output, h.size, fun k hk _ => h.block k hk⟩

def Rd (w : World) (B : Nat) (p : Int × Int) (t : ByteArray) (kw sg bl : Value) : Prop :=
  w.heap[B]? = some (.cells #[.int .i64 p.1, .int .i64 p.2, .string t, kw, sg, bl] 55 (0, 0))

section
variable {w w' : World} {B : Nat} {p : Int × Int} {t : ByteArray} {kw sg bl : Value}
theorem Rd.cell0 (h : Rd w B p t kw sg bl) : w.cell? ⟨B, 0, none⟩ = some (.int .i64 p.1) := by simp [World.cell?, show w.heap[B]? = _ from h]
theorem Rd.cell1 (h : Rd w B p t kw sg bl) : w.cell? ⟨B, 1, none⟩ = some (.int .i64 p.2) := by simp [World.cell?, show w.heap[B]? = _ from h]
theorem Rd.cell2 (h : Rd w B p t kw sg bl) : w.cell? ⟨B, 2, none⟩ = some (.string t) := by simp [World.cell?, show w.heap[B]? = _ from h]
theorem Rd.cell3 (h : Rd w B p t kw sg bl) : w.cell? ⟨B, 3, none⟩ = some kw := by simp [World.cell?, show w.heap[B]? = _ from h]
theorem Rd.cell4 (h : Rd w B p t kw sg bl) : w.cell? ⟨B, 4, none⟩ = some sg := by simp [World.cell?, show w.heap[B]? = _ from h]
theorem Rd.cell5 (h : Rd w B p t kw sg bl) : w.cell? ⟨B, 5, none⟩ = some bl := by simp [World.cell?, show w.heap[B]? = _ from h]
theorem Rd.frozen (h : Rd w B p t kw sg bl) (i : Nat) : w.frozen? ⟨B, i, none⟩ = false := by simp [World.frozen?, show w.heap[B]? = _ from h]
theorem Rd.lt (h : Rd w B p t kw sg bl) : B < w.heap.size := (Array.getElem?_eq_some_iff.1 h).1
theorem Rd.only {X} (h : Rd w B p t kw sg bl) (ho : Only X w w') (hx : ¬ X B) : Rd w' B p t kw sg bl := (ho.block B h.lt hx).trans h
theorem Rd.set0 (h : Rd w B p t kw sg bl) (x : Int) : Rd (w.setCell ⟨B, 0, none⟩ (.int .i64 x)) B (x, p.2) t kw sg bl := by
  unfold Rd at h ⊢; simp [World.setCell, Array.getElem?_modify, h]
theorem Rd.set1 (h : Rd w B p t kw sg bl) (x : Int) : Rd (w.setCell ⟨B, 1, none⟩ (.int .i64 x)) B (p.1, x) t kw sg bl := by
  unfold Rd at h ⊢; simp [World.setCell, Array.getElem?_modify, h]
theorem Rd.set2 (h : Rd w B p t kw sg bl) (u : ByteArray) : Rd (w.setCell ⟨B, 2, none⟩ (.string u)) B p u kw sg bl := by
  unfold Rd at h ⊢; simp [World.setCell, Array.getElem?_modify, h]
theorem Rd.set3 (h : Rd w B p t kw sg bl) (u : Value) : Rd (w.setCell ⟨B, 3, none⟩ u) B p t u sg bl := by
  unfold Rd at h ⊢; simp [World.setCell, Array.getElem?_modify, h]
theorem Rd.set4 (h : Rd w B p t kw sg bl) (u : Value) : Rd (w.setCell ⟨B, 4, none⟩ u) B p t kw u bl := by
  unfold Rd at h ⊢; simp [World.setCell, Array.getElem?_modify, h]
theorem Rd.set5 (h : Rd w B p t kw sg bl) (u : Value) : Rd (w.setCell ⟨B, 5, none⟩ u) B p t kw sg u := by
  unfold Rd at h ⊢; simp [World.setCell, Array.getElem?_modify, h]
theorem Rd.drew (h : Rd w B p t kw sg bl) : Rd w.drew B p t kw sg bl := h
theorem Rd.alloc (h : Rd w B p t kw sg bl) (o : Obj) : Rd (w.alloc o) B p t kw sg bl := (Below.heap_alloc w o B h.lt).trans h
end

def advI (p : Int × Int) (b : UInt8) : Int × Int := if b.toNat = 10 then (p.1 + 1, 1) else (p.1, p.2 + 1)
def advsI (p : Int × Int) (l : List UInt8) : Int × Int := l.foldl advI p
theorem advsI_snoc (p : Int × Int) (l : List UInt8) (b : UInt8) : advsI p (l ++ [b]) = advI (advsI p l) b := by simp [advsI]
theorem advsI_bd (l : List UInt8) : ∀ (p : Int × Int), 0 ≤ p.2 → p.1 ≤ (advsI p l).1 ∧ (advsI p l).1 ≤ p.1 + l.length ∧ 0 ≤ (advsI p l).2 ∧ (advsI p l).2 ≤ p.2 + l.length := by
  induction l with
  | nil => intro p h; simp [advsI, h]
  | cons b l ih =>
    intro p h
    have := ih (advI p b) (by unfold advI; split <;> simp <;> omega)
    simp only [advsI, List.foldl_cons, List.length_cons] at this ⊢
    unfold advI at this ⊢
    split at this <;> simp_all <;> omega

/-- How many bytes fit, one after the other. -/
def spanK (p : Nat → UInt8 → Bool) : Nat → List UInt8 → Nat
  | _, [] => 0
  | k, b :: l => if p k b then 1 + spanK p (k + 1) l else 0
theorem spanK_le (p : Nat → UInt8 → Bool) : ∀ (l : List UInt8) (k : Nat), spanK p k l ≤ l.length
  | [], _ => by simp [spanK]
  | b :: l, k => by
    have := spanK_le p l (k + 1)
    unfold spanK
    split <;> simp <;> omega
theorem spanK_ge (p : Nat → UInt8 → Bool) : ∀ (l : List UInt8) (k m : Nat), (∀ j (h : j < l.length), j < m → p (k + j) l[j] = true) → m ≤ l.length → m ≤ spanK p k l
  | [], _, m, _, h2 => by simp at h2; omega
  | b :: l, k, 0, _, _ => by omega
  | b :: l, k, m + 1, h, h2 => by
    have h0 := h 0 (by simp) (by omega)
    simp at h0
    have := spanK_ge p l (k + 1) m (fun j hj hjm => by
      have := h (j + 1) (by simp; omega) (by omega)
      simp at this
      rw [show k + 1 + j = k + (j + 1) by omega]
      exact this) (by simp at h2; omega)
    unfold spanK
    rw [if_pos h0]
    omega
theorem spanK_eq (p : Nat → UInt8 → Bool) : ∀ (l : List UInt8) (k m : Nat), (∀ j (h : j < l.length), j < m → p (k + j) l[j] = true) → (hm : m ≤ l.length) → (∀ h : m < l.length, p (k + m) l[m] = false) → spanK p k l = m
  | [], _, m, _, h2, _ => by simp at h2; simp [spanK, h2]
  | b :: l, k, 0, _, _, h3 => by
    have := h3 (by simp)
    simp at this
    simp [spanK, this]
  | b :: l, k, m + 1, h, h2, h3 => by
    have h0 := h 0 (by simp) (by omega)
    simp at h0
    have := spanK_eq p l (k + 1) m (fun j hj hjm => by
      have := h (j + 1) (by simp; omega) (by omega)
      simp at this
      rw [show k + 1 + j = k + (j + 1) by omega]
      exact this) (by simp at h2; omega) (fun hl => by
      have := h3 (by simp; omega)
      simp at this
      rw [show k + 1 + m = k + (m + 1) by omega]
      exact this)
    unfold spanK
    rw [if_pos h0, this]
    omega
theorem size_list (t : ByteArray) : t.data.toList.length = t.size := (Lib.size_eq t).symm
theorem take_snoc' (s : ByteArray) (k : Nat) (h : k < s.size) : s.data.toList.take (k + 1) = s.data.toList.take k ++ [s[k]] := by
  rw [List.take_succ_eq_append_getElem (by rw [size_list]; exact h)]; rfl

/-- What 'off' has done when it has taken m bytes. -/
def OffPost (I : Nat → World → Prop) (X : Nat → Prop) (B : Nat) (pos : Int × Int) (t : ByteArray) (kw sg bl : Value) (w : World) (m : Nat) (e : Ending) (w' : World) : Prop :=
  ∃ u t' : ByteArray, e = .returned (.string u) ∧ u.data.toList = t.data.toList.take m ∧ t'.data.toList = t.data.toList.drop m ∧
    Rd w' B (advsI pos (t.data.toList.take m)) t' kw sg bl ∧ (∃ k, I k w') ∧ Only (fun b => b = B ∨ X b) w w'

theorem off_end (I : Nat → World → Prop) (X : Nat → Prop) (B : Nat) (pos q : Int × Int) (t u t' : ByteArray) (kw sg bl : Value) (w wr w1 : World) (k k' m : Nat)
    (hu : u.data.toList = t.data.toList.take k) (ht : t'.data.toList = t.data.toList.drop k)
    (hrd : Rd w1 B q t kw sg bl) (hq : Hid (advsI pos (t.data.toList.take k) = q)) (hI : I k' (w1.setCell ⟨B, 2, none⟩ (.string t')))
    (ho : Only (fun b => b = B ∨ X b) w wr) (ho1 : Only X wr w1) (hm : m = k) :
    OffPost I X B pos t kw sg bl w m (.returned (.string u)) (w1.setCell ⟨B, 2, none⟩ (.string t')) := by
  subst hm
  refine ⟨u, t', rfl, hu, ht, ?_, ⟨_, hI⟩, (ho.trans (ho1.mono fun _ h => .inr h)).setCell (.inl (.inl rfl)) _⟩
  rw [hq.out]; exact hrd.set2 _
theorem ext_take (t : ByteArray) (k : Nat) : (t.extract 0 k).data.toList = t.data.toList.take k := by rw [Lib.extract_data]; simp
theorem ext_drop (t : ByteArray) (k : Nat) : (t.extract k t.size).data.toList = t.data.toList.drop k := by
  rw [Lib.extract_data]; rw [← size_list]; simp; rw [List.take_of_length_le]; simp
theorem spanK_at (p : Nat → UInt8 → Bool) (t : ByteArray) (k : Nat) (hk : k ≤ t.size) (h : ∀ j (h : j < t.data.toList.length), j < k → p (0 + j) t.data.toList[j] = true)
    (h2 : ∀ h : k < t.size, p k t[k] = false) : spanK p 0 t.data.toList = k :=
  spanK_eq p _ 0 k h (by rw [size_list]; exact hk) (fun hl => by
    have := h2 (by rw [size_list] at hl; exact hl)
    rw [Nat.zero_add]
    exact this)
theorem fits_succ (p : Nat → UInt8 → Bool) (t : ByteArray) (k : Nat) (hlt : k < t.size) (h : ∀ j (h : j < t.data.toList.length), j < k → p (0 + j) t.data.toList[j] = true) (h2 : p k t[k] = true) :
    ∀ j (h : j < t.data.toList.length), j < k + 1 → p (0 + j) t.data.toList[j] = true := by
  intro j hj hjk
  by_cases e : j = k
  · subst e
    rw [Nat.zero_add]
    exact h2
  · exact h j hj (by omega)

set_option maxHeartbeats 1000000 in
theorem off_any (g : Nat) (ba lb : Array Value) (eg : ∀ args w, (callFunc g args).run Tryd.prog w = .ok (.enter g args) w)
    (p : Nat → UInt8 → Bool) (I : Nat → World → Prop) (X : Nat → Prop) (B : Nat) (hXB : ¬ X B) (pos : Int × Int) (t : ByteArray)
    (hfit : ∀ k W (b : UInt8), k < t.size → I k W → Calls Tryd.prog g (ba ++ #[.int .u8 (b.toNat : Int)] ++ lb) W fun e W' => e = .returned (.bool (p k b)) ∧ I (k + 1) W' ∧ Only X W W')
    (hIs : ∀ k W i v, I k W → I k (W.setCell ⟨B, i, none⟩ v))
    (kw sg bl : Value) (w : World) (hr : Rd w B pos t kw sg bl) (h0 : I 0 w)
    (hp1 : 0 ≤ pos.1) (hp2 : 0 ≤ pos.2) (hp3 : pos.1 + t.size ≤ 1000000000) (hp4 : pos.2 + t.size ≤ 1000000000) :
    Calls Tryd.prog 28 #[.pointer (some ⟨B, 0, none⟩), .func (.func g) ba lb] w (OffPost I X B pos t kw sg bl w (spanK p 0 t.data.toList)) := by
  have c0 := hr.cell0; have c1 := hr.cell1; have c2 := hr.cell2
  have f0 := hr.frozen 0; have f1 := hr.frozen 1; have f2 := hr.frozen 2
  have hts := size_list t
  have hmax : t.size ≤ 1000000000 := by omega
  go_enter Tryd.func28, Tryd.ntmps28
  go_wp2_with fail
  go_loopw [5] (fun n wr => ∃ k : Nat, k ≤ t.size ∧ n = .int .i64 k ∧ I k wr ∧ Rd wr B (advsI pos (t.data.toList.take k)) t kw sg bl ∧ Only (fun b => b = B ∨ X b) w wr ∧ Hid (∀ j (h : j < t.data.toList.length), j < k → p (0 + j) t.data.toList[j] = true))
    (fun n _ => t.size - (intOf n).toNat)
  case atStart => exact ⟨0, Nat.zero_le _, rfl, h0, by simpa [advsI] using hr, Only.refl _, fun j h hj => by omega⟩
  case round =>
    obtain ⟨k, hk, rfl, hI, hrd, ho, hfits⟩ := hrel
    clear c0 c1 c2 f0 f1 f2
    have hbd := advsI_bd (t.data.toList.take k) pos hp2
    have hlk : (t.data.toList.take k).length = k := by rw [List.length_take]; omega
    rw [hlk] at hbd
    by_cases hlt : k < t.size
    · have hc := hfit k wr t[k] hlt hI
      have d0 := hrd.cell0; have d1 := hrd.cell1; have d2 := hrd.cell2
      have g0 := hrd.frozen 0; have g1 := hrd.frozen 1; have g2 := hrd.frozen 2
      have hsn := advsI_snoc pos (t.data.toList.take k) t[k]
      have hts2 := take_snoc' t k hlt
      have HS : Hid (advsI pos (t.data.toList.take (k + 1)) = advI (advsI pos (t.data.toList.take k)) t[k]) := by rw [hts2]; exact hsn
      clear hsn hts2 hlk hts
      generalize hq : advsI pos (t.data.toList.take k) = q at *
      have HQ := Lib.hid hq
      clear hq
      obtain ⟨q1, q2⟩ := q
      cases hp : p k t[k]
      · rw [hp] at hc
        have HP := Lib.hid hp
        clear hp HS
        go_wp2_with fail
        refine hc.mono ?_
        rintro e w1 ⟨rfl, hI1, hO1⟩
        have hrd1 := hrd.only hO1 hXB
        have e2 := hrd1.cell2
        have h2 := hrd1.frozen 2
        clear d0 d1 d2 g0 g1 g2
        go_wp2_with fail
        go_ret
        exact off_end I X B pos (q1, q2) t _ _ kw sg bl w wr w1 k (k + 1) _ (ext_take t k) (ext_drop t k) hrd1 HQ (hIs _ _ _ _ hI1) ho hO1 (spanK_at p t k hk hfits.out (fun _ => HP.out))
      · rw [hp] at hc
        have HP := Lib.hid hp
        clear hp
        have hfit1 : Hid (∀ j (h : j < t.data.toList.length), j < k + 1 → p (0 + j) t.data.toList[j] = true) := fits_succ p t k hlt hfits.out HP.out
        by_cases hn : t[k].toNat = 10
        · have hn1 : ((t[k].toNat : Int) == 10) = true := by rw [hn]; rfl
          have HN := Lib.hid hn
          clear hn
          go_wp2_with fail
          refine hc.mono ?_
          rintro e w1 ⟨rfl, hI1, hO1⟩
          have hrd1 := hrd.only hO1 hXB
          have e0 := hrd1.cell0; have e1 := hrd1.cell1; have e2 := hrd1.cell2
          have h0 := hrd1.frozen 0; have h1 := hrd1.frozen 1; have h2 := hrd1.frozen 2
          clear d0 d1 d2 g0 g1 g2
          go_wp2_with fail
          go_roundw
          case rel =>
            refine ⟨k + 1, by omega, by go_num, hIs _ _ _ _ (hIs _ _ _ _ (hIs _ _ _ _ hI1)), ?_, (((ho.trans (hO1.mono fun _ h => .inr h)).setCell (.inl (.inl rfl)) _).setCell (.inl (.inl rfl)) _).setCell (.inl (.inl rfl)) _, hfit1⟩
            rw [HS.out, advI, if_pos HN.out]
            exact ((hrd1.set1 _).set0 _).set1 _
          case measure => simp [intOf]; omega
        · have hn1 : ((t[k].toNat : Int) == 10) = false := by rw [beq_eq_false_iff_ne]; omega
          have HN := Lib.hid hn
          clear hn
          go_wp2_with fail
          refine hc.mono ?_
          rintro e w1 ⟨rfl, hI1, hO1⟩
          have hrd1 := hrd.only hO1 hXB
          have e0 := hrd1.cell0; have e1 := hrd1.cell1; have e2 := hrd1.cell2
          have h0 := hrd1.frozen 0; have h1 := hrd1.frozen 1; have h2 := hrd1.frozen 2
          clear d0 d1 d2 g0 g1 g2
          go_wp2_with fail
          go_roundw
          case rel =>
            refine ⟨k + 1, by omega, by go_num, hIs _ _ _ _ hI1, ?_, (ho.trans (hO1.mono fun _ h => .inr h)).setCell (.inl (.inl rfl)) _, hfit1⟩
            rw [HS.out, advI, if_neg HN.out]
            exact hrd1.set1 _
          case measure => simp [intOf]; omega
    · obtain rfl : k = t.size := by omega
      have d2 := hrd.cell2
      have g2 := hrd.frozen 2
      go_wp2_with fail
      go_ret
      exact off_end I X B pos _ t t ByteArray.empty kw sg bl w wr wr t.size _ _ (by rw [List.take_of_length_le]; rw [size_list]; exact Nat.le_refl _) (by rw [List.drop_of_length_le]; rfl; rw [size_list]; exact Nat.le_refl _) hrd rfl (hIs _ _ _ _ hI) ho (Only.refl _) (spanK_at p t t.size hk hfits.out (fun h => by omega))
end Go.Proofs.YtkkjdmpgjfkenaaDoor

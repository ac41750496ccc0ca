/-
  Taking off what stands between words.
-/
import Derived.Test.YtkkjdmpgjfkenaaDoorOff
import Derived.Test.YtkkjdmpgjfkenaaDoorWords
import Derived.Test.YtkkjdmpgjfkenaaDoorShelf
namespace Go.Proofs.YtkkjdmpgjfkenaaDoor
open Go.RowKit Go.Maps Go.WideMaps Go.Shelf

theorem ownsMap_block {P : Program} {k : TypeId} {R : Value → Option (DataW Unit × List MemPlace)} {w w' : World} {b n : Nat} {D : DataW Unit} (h : w.ownsMap P k R b n D) (hb : w'.heap[b]? = w.heap[b]?) : w'.ownsMap P k R b n D := by
  obtain ⟨es, clock, h1, r⟩ := h
  exact ⟨es, clock, hb.trans h1, r⟩
theorem ownsMap_only {P : Program} {k : TypeId} {R : Value → Option (DataW Unit × List MemPlace)} {w w' : World} {b n : Nat} {D : DataW Unit} {X : Nat → Prop} (h : w.ownsMap P k R b n D) (ho : Only X w w') (hx : ¬ X b) : w'.ownsMap P k R b n D :=
  ownsMap_block h (ho.block b h.lt hx)
theorem ownsMap_ne {P : Program} {k : TypeId} {R : Value → Option (DataW Unit × List MemPlace)} {w : World} {b n : Nat} {D : DataW Unit} (h : w.ownsMap P k R b n D) {B : Nat} {p t kw sg bl} (hr : Rd w B p t kw sg bl) : b ≠ B := by
  rintro rfl
  obtain ⟨es, clock, h1, _⟩ := h
  unfold Rd at hr
  rw [h1] at hr
  cases hr
theorem ownsMap_set {P : Program} {k : TypeId} {R : Value → Option (DataW Unit × List MemPlace)} {w : World} {b n : Nat} {D : DataW Unit} (h : w.ownsMap P k R b n D) {B i : Nat} (v : Value) (hne : b ≠ B) : (w.setCell ⟨B, i, none⟩ v).ownsMap P k R b n D :=
  ownsMap_block h (Below.heap_setCell _ _ _ _ hne)

/-- What 'off' has done, of a function that turns nothing. -/
def OffP (X : Nat → Prop) (B : Nat) (pos : Int × Int) (t : ByteArray) (kw sg bl : Value) (w : World) (m : Nat) (e : Ending) (w' : World) : Prop :=
  ∃ u t' : ByteArray, e = .returned (.string u) ∧ u.data.toList = t.data.toList.take m ∧ t'.data.toList = t.data.toList.drop m ∧
    Rd w' B (advsI pos (t.data.toList.take m)) t' kw sg bl ∧ Only X w w'
theorem OffPost.p {I X B pos t kw sg bl w m e w'} (h : OffPost I X B pos t kw sg bl w m e w') : OffP (fun b => b = B ∨ X b) B pos t kw sg bl w m e w' := by
  obtain ⟨u, t', h1, h2, h3, h4, _, h6⟩ := h
  exact ⟨u, t', h1, h2, h3, h4, h6⟩
theorem OffP.mono {X Y : Nat → Prop} {B pos t kw sg bl w m e w'} (h : OffP X B pos t kw sg bl w m e w') (hx : ∀ k, X k → Y k) : OffP Y B pos t kw sg bl w m e w' := by
  obtain ⟨u, t', h1, h2, h3, h4, h6⟩ := h
  exact ⟨u, t', h1, h2, h3, h4, h6.mono hx⟩

def isBlank (b : UInt8) : Bool := decide ((b.toNat : Int) ∈ blZ)
def notNl (b : UInt8) : Bool := (b.toNat : Int) != 10
theorem u8_wf (b : UInt8) : (Lit.int .u8 (b.toNat : Int)).wf = true := by
  have := b.toNat_lt
  show (decide ((0 : Int) ≤ (b.toNat : Int)) && decide ((b.toNat : Int) ≤ 255)) = true
  simp
  omega

theorem off_blank (bb B : Nat) (pos : Int × Int) (t : ByteArray) (kw sg bl : Value) (w : World) (hr : Rd w B pos t kw sg bl) (hm : w.ownsMap Tryd.prog 5 unitElem bb 4 (SnB blZ 4))
    (hp1 : 0 ≤ pos.1) (hp2 : 0 ≤ pos.2) (hp3 : pos.1 + t.size ≤ 1000000000) (hp4 : pos.2 + t.size ≤ 1000000000) :
    Calls Tryd.prog 28 #[.pointer (some ⟨B, 0, none⟩), .func (.func 48) #[.map (some bb)] #[]] w (OffP (fun b => b = B) B pos t kw sg bl w (spanK (fun _ => isBlank) 0 t.data.toList)) := by
  refine (off_any 48 #[.map (some bb)] #[] (enters_of Tryd.func48 (by kernel_rfl) rfl) (fun _ => isBlank) (fun _ W => W.ownsMap Tryd.prog 5 unitElem bb 4 (SnB blZ 4) ∧ bb ≠ B) (fun _ => False) B id pos t ?_ ?_ kw sg bl w hr ⟨hm, ownsMap_ne hm hr⟩ hp1 hp2 hp3 hp4).mono ?_
  · intro k W b _ ⟨h, hne⟩
    refine (hasB_any (b.toNat : Int) bb 4 _ W (u8_wf b) h).mono ?_
    rintro e W' ⟨rfl, hb⟩
    have ho : Only (fun _ => False) W W' := Only.of_below hb
    exact ⟨by rw [show (SnB blZ 4) = SnB blZ blZ.length from rfl, has_ints]; rfl, ⟨ownsMap_only h ho id, hne⟩, ho⟩
  · intro k W i v ⟨h, hne⟩
    exact ⟨ownsMap_set h v hne, hne⟩
  · intro e w' h
    exact h.p.mono (fun k hk => by simpa using hk)

theorem off_nl (B : Nat) (pos : Int × Int) (t : ByteArray) (kw sg bl : Value) (w : World) (hr : Rd w B pos t kw sg bl)
    (hp1 : 0 ≤ pos.1) (hp2 : 0 ≤ pos.2) (hp3 : pos.1 + t.size ≤ 1000000000) (hp4 : pos.2 + t.size ≤ 1000000000) :
    Calls Tryd.prog 28 #[.pointer (some ⟨B, 0, none⟩), .func (.func 50) #[] #[]] w (OffP (fun b => b = B) B pos t kw sg bl w (spanK (fun _ => notNl) 0 t.data.toList)) := by
  refine (off_any 50 #[] #[] (enters_of Tryd.func50 (by kernel_rfl) rfl) (fun _ => notNl) (fun _ _ => True) (fun _ => False) B id pos t ?_ ?_ kw sg bl w hr trivial hp1 hp2 hp3 hp4).mono ?_
  · intro k W b _ _
    refine (skip1_any (b.toNat : Int) W).mono ?_
    rintro e W' ⟨rfl, rfl⟩
    exact ⟨rfl, trivial, Only.refl _⟩
  · intros; trivial
  · intro e w' h
    exact h.p.mono (fun k hk => by simpa using hk)
theorem off_word (B : Nat) (pos : Int × Int) (t : ByteArray) (kw sg bl : Value) (w : World) (hr : Rd w B pos t kw sg bl)
    (hp1 : 0 ≤ pos.1) (hp2 : 0 ≤ pos.2) (hp3 : pos.1 + t.size ≤ 1000000000) (hp4 : pos.2 + t.size ≤ 1000000000) :
    Calls Tryd.prog 28 #[.pointer (some ⟨B, 0, none⟩), .func (.func 29) #[] #[]] w (OffP (fun b => b = B) B pos t kw sg bl w (spanK (fun _ b => isWd (b.toNat : Int)) 0 t.data.toList)) := by
  refine (off_any 29 #[] #[] (enters_of Tryd.func29 (by kernel_rfl) rfl) (fun _ b => isWd (b.toNat : Int)) (fun _ _ => True) (fun _ => False) B id pos t ?_ ?_ kw sg bl w hr trivial hp1 hp2 hp3 hp4).mono ?_
  · intro k W b _ _
    refine (isInWord_any (b.toNat : Int) W).mono ?_
    rintro e W' ⟨rfl, rfl⟩
    exact ⟨rfl, trivial, Only.refl _⟩
  · intros; trivial
  · intro e w' h
    exact h.p.mono (fun k hk => by simpa using hk)
theorem spanK_true : ∀ (l : List UInt8) (k : Nat), spanK (fun _ _ => true) k l = l.length
  | [], _ => rfl
  | b :: l, k => by simp [spanK, spanK_true l (k + 1)]; omega
theorem off_all (B : Nat) (pos : Int × Int) (t : ByteArray) (kw sg bl : Value) (w : World) (hr : Rd w B pos t kw sg bl)
    (hp1 : 0 ≤ pos.1) (hp2 : 0 ≤ pos.2) (hp3 : pos.1 + t.size ≤ 1000000000) (hp4 : pos.2 + t.size ≤ 1000000000) :
    Calls Tryd.prog 28 #[.pointer (some ⟨B, 0, none⟩), .func (.func 34) #[] #[]] w (OffP (fun b => b = B) B pos t kw sg bl w t.data.toList.length) := by
  rw [← spanK_true t.data.toList 0]
  refine (off_any 34 #[] #[] (enters_of Tryd.func34 (by kernel_rfl) rfl) (fun _ _ => true) (fun _ _ => True) (fun _ => False) B id pos t ?_ ?_ kw sg bl w hr trivial hp1 hp2 hp3 hp4).mono ?_
  · intro k W b _ _
    refine (end1_any (b.toNat : Int) W).mono ?_
    rintro e W' ⟨rfl, rfl⟩
    exact ⟨rfl, trivial, Only.refl _⟩
  · intros; trivial
  · intro e w' h
    exact h.p.mono (fun k hk => by simpa using hk)
theorem spanK_first (n : Nat) : ∀ (l : List UInt8) (k : Nat), spanK (fun k _ => decide (0 ≤ (n : Int) - k - 1)) k l = min (n - k) l.length
  | [], _ => by simp [spanK]
  | b :: l, k => by
    have := spanK_first n l (k + 1)
    unfold spanK
    by_cases h : k < n
    · rw [if_pos (by simp; omega), this]; simp; omega
    · rw [if_neg (by simp; omega)]; simp; omega
theorem off_first (n : Nat) (C B : Nat) (hCB : C ≠ B) (pos : Int × Int) (t : ByteArray) (kw sg bl : Value) (w : World) (hr : Rd w B pos t kw sg bl) (hn : n ≤ 1000) (hC : w.heap[C]? = some (.cells #[.int .i64 (n : Int)] 3 (0, 0)))
    (hp1 : 0 ≤ pos.1) (hp2 : 0 ≤ pos.2) (hp3 : pos.1 + t.size ≤ 100000000) (hp4 : pos.2 + t.size ≤ 100000000) :
    Calls Tryd.prog 28 #[.pointer (some ⟨B, 0, none⟩), .func (.func 59) #[] #[.pointer (some ⟨C, 0, none⟩)]] w (OffP (fun b => b = B ∨ b = C) B pos t kw sg bl w (min n t.data.toList.length)) := by
  have hs := spanK_first n t.data.toList 0
  rw [Nat.sub_zero] at hs
  rw [← hs]
  refine (off_any 59 #[] #[.pointer (some ⟨C, 0, none⟩)] (enters_of Tryd.func59 (by kernel_rfl) rfl) (fun k _ => decide (0 ≤ (n : Int) - k - 1))
    (fun k W => W.heap[C]? = some (.cells #[.int .i64 ((n : Int) - k)] 3 (0, 0))) (fun b => b = C) B (fun h => hCB h.symm) pos t ?_ ?_ kw sg bl w hr (by simpa using hC) hp1 hp2 (by omega) (by omega)).mono ?_
  · intro k W b hk h
    have hk' : (k : Int) ≤ 100000000 := by omega
    refine (first1_any (b.toNat : Int) ((n : Int) - k) C W (by simp [World.cell?, h]) (by simp [World.frozen?, h]) (by omega) (by omega)).mono ?_
    rintro e W' ⟨rfl, rfl⟩
    refine ⟨rfl, ?_, (Only.refl (X := fun b => b = C) W).setCell (p := ⟨C, 0, none⟩) (.inl rfl) _⟩
    simp [World.setCell, Array.getElem?_modify, h]
    omega
  · intro k W i v h
    exact (Below.heap_setCell _ _ _ _ hCB).trans h
  · intro e w' h
    exact h.p

/-- How many bytes stand between words. -/
def skipN : Bool → List UInt8 → Nat
  | _, [] => 0
  | false, b :: l => if isBlank b then 1 + skipN false l else if b.toNat = 35 then 1 + skipN true l else 0
  | true, b :: l => if b.toNat = 10 then 1 + skipN false l else 1 + skipN true l

def spn (p : UInt8 → Bool) : List UInt8 → Nat
  | [] => 0
  | b :: l => if p b then 1 + spn p l else 0
theorem spanK_spn (p : UInt8 → Bool) : ∀ (l : List UInt8) (k : Nat), spanK (fun _ => p) k l = spn p l
  | [], _ => rfl
  | b :: l, k => by simp [spanK, spn, spanK_spn p l (k + 1)]
theorem spn_le (p : UInt8 → Bool) : ∀ (l : List UInt8), spn p l ≤ l.length
  | [] => by simp [spn]
  | b :: l => by have := spn_le p l; unfold spn; split <;> simp <;> omega
theorem spn_stop (p : UInt8 → Bool) : ∀ (l : List UInt8) (b : UInt8) (r : List UInt8), l.drop (spn p l) = b :: r → p b = false
  | [], b, r, h => by simp at h
  | c :: l, b, r, h => by
    unfold spn at h
    split at h
    · rw [Nat.add_comm] at h
      exact spn_stop p l b r h
    · simp at h
      obtain ⟨rfl, rfl⟩ := h
      simp_all
theorem skip_blank : ∀ (l : List UInt8), skipN false l = spn isBlank l + skipN false (l.drop (spn isBlank l))
  | [] => rfl
  | b :: l => by
    by_cases h : isBlank b = true
    · simp only [skipN, spn, h, if_true]
      rw [Nat.add_comm 1 (spn isBlank l), List.drop_succ_cons, skip_blank l]
      omega
    · simp [spn, h]
theorem skip_line : ∀ (l : List UInt8), skipN true l = spn notNl l + skipN false (l.drop (spn notNl l))
  | [] => rfl
  | b :: l => by
    by_cases h : b.toNat = 10
    · have hn : notNl b = false := by simp [notNl, h]
      have hb : isBlank b = true := by simp [isBlank, blZ, h]
      simp [skipN, spn, hn, hb, h]
    · have hn : notNl b = true := by simp [notNl]; omega
      simp only [skipN, spn, hn, if_true]
      rw [if_neg h, Nat.add_comm 1 (spn notNl l), List.drop_succ_cons, skip_line l]
      omega
theorem skip_hash (l : List UInt8) (b : UInt8) (r : List UInt8) (h : l = b :: r) (hb : b.toNat = 35) : skipN false l = spn notNl l + skipN false (l.drop (spn notNl l)) := by
  subst h
  have hn : notNl b = true := by simp [notNl, hb]
  have hbl : isBlank b = false := by simp [isBlank, blZ, hb]
  simp only [skipN, spn, hn, hbl, hb, if_true]
  rw [Nat.add_comm 1 (spn notNl r), List.drop_succ_cons, skip_line r]
  simp
  omega
theorem skip_done (l : List UInt8) (h1 : ∀ b r, l = b :: r → isBlank b = false) (h2 : ∀ b r, l = b :: r → b.toNat ≠ 35) : skipN false l = 0 := by
  cases l with
  | nil => rfl
  | cons b r => simp [skipN, h1 b r rfl, h2 b r rfl]
theorem advsI_add (pos : Int × Int) (l : List UInt8) (m n : Nat) : advsI pos (l.take (m + n)) = advsI (advsI pos (l.take m)) ((l.drop m).take n) := by
  rw [List.take_add, advsI, List.foldl_append]; rfl

theorem hash_yes {l : List UInt8} (h : Lib.hasPrefix l [35] = true) : ∃ b r, l = b :: r ∧ b.toNat = 35 := by
  cases l with
  | nil => simp [Lib.hasPrefix] at h
  | cons b r =>
    simp [Lib.hasPrefix] at h
    exact ⟨b, r, rfl, by rw [← h]; rfl⟩
def restSize (w : World) (B : Nat) : Nat := match w.cell? ⟨B, 2, none⟩ with | some (.string s) => s.size | _ => 0
theorem Rd.restSize {w : World} {B p t kw sg bl} (h : Rd w B p t kw sg bl) : restSize w B = t.size := by simp [YtkkjdmpgjfkenaaDoor.restSize, h.cell2]

set_option maxHeartbeats 1000000 in
theorem skip_any (bb B : Nat) (pos : Int × Int) (t : ByteArray) (kw sg : Value) (w : World) (hr : Rd w B pos t kw sg (.map (some bb))) (hm : w.ownsMap Tryd.prog 5 unitElem bb 4 (SnB blZ 4))
    (hp1 : 0 ≤ pos.1) (hp2 : 0 ≤ pos.2) (hp3 : pos.1 + t.size ≤ 1000000000) (hp4 : pos.2 + t.size ≤ 1000000000) :
    Calls Tryd.prog 39 #[.pointer (some ⟨B, 0, none⟩)] w fun e w' => e = .returned (.tuple #[]) ∧ ∃ t', t'.data.toList = t.data.toList.drop (skipN false t.data.toList) ∧
      Rd w' B (advsI pos (t.data.toList.take (skipN false t.data.toList))) t' kw sg (.map (some bb)) ∧ Only (fun b => b = B) w w' := by
  have c5 := hr.cell5
  have C1 := off_blank bb B pos t kw sg _ w hr hm hp1 hp2 hp3 hp4
  have H1 := Lib.hid C1
  clear C1
  go_enter Tryd.func39, Tryd.ntmps39
  go_wp2_with fail
  refine H1.out.mono ?_
  clear H1
  rintro e w1 ⟨u1, t1, rfl, hu1, ht1, hr1, ho1⟩
  have hl1 := skip_blank t.data.toList
  have hs1 := spn_stop isBlank t.data.toList
  rw [spanK_spn] at ht1 hr1
  have hle := spn_le isBlank t.data.toList
  rw [size_list] at hle
  generalize spn isBlank t.data.toList = n1 at *
  have HT := Lib.hid ht1; have HL := Lib.hid hl1; have HS := Lib.hid hs1
  clear ht1 hl1 hs1 hu1 c5
  go_wp2_with fail
  go_loopw [] (fun wr => ∃ (m : Nat) (t' : ByteArray), m ≤ t.size ∧ Rd wr B (advsI pos (t.data.toList.take m)) t' kw sg (.map (some bb)) ∧ Only (fun b => b = B) w wr ∧ Hid (t'.data.toList = t.data.toList.drop m) ∧
      Hid (skipN false t.data.toList = m + skipN false (t.data.toList.drop m)) ∧ Hid (∀ b r, t.data.toList.drop m = b :: r → isBlank b = false))
    (fun wr => restSize wr B)
  case atStart => exact ⟨n1, t1, hle, hr1, ho1, HT, HL, HS⟩
  case round =>
    obtain ⟨m, t', hm', hrd, ho, ht', hL, hS⟩ := hrel
    clear HT HL HS hle
    have d2 := hrd.cell2; have d5 := hrd.cell5
    have hne : bb ≠ B := ownsMap_ne hm hr
    have hmr := ownsMap_only hm ho hne
    have C2 := Tryd.strings_HasPrefix t' ⟨#[35]⟩ wr
    by_cases hh : Lib.hasPrefix t'.data.toList [35] = true
    · rw [hh] at C2
      obtain ⟨b0, r0, hb0, hb1⟩ := hash_yes hh
      have H2 := Lib.hid C2
      clear C2 hh
      have hlen : t'.size = t.size - m := by rw [← size_list t', ht'.out, List.length_drop, size_list]
      have hbd := advsI_bd (t.data.toList.take m) pos hp2
      have hlk : (t.data.toList.take m).length = m := by rw [List.length_take, size_list]; omega
      rw [hlk] at hbd
      clear hlk
      have hS1 := hS.out
      have hrs := hrd.restSize
      obtain ⟨q, hq⟩ : ∃ q, advsI pos (t.data.toList.take m) = q := ⟨_, rfl⟩
      rw [hq] at hbd hrd
      have HQ := Lib.hid hq
      clear hq
      have C3 := off_nl B q t' kw sg _ wr hrd (by omega) (by omega) (by omega) (by omega)
      rw [spanK_spn] at C3
      have hle3 := spn_le notNl t'.data.toList
      rw [size_list] at hle3
      have hsk := skip_hash t'.data.toList b0 r0 hb0 hb1
      have hpos : 1 ≤ spn notNl t'.data.toList := by rw [hb0]; simp [spn, notNl, hb1]
      generalize spn notNl t'.data.toList = n3 at *
      have HK := Lib.hid hsk; have HLen := Lib.hid hlen; have HRS := Lib.hid hrs
      have H3 := Lib.hid C3
      clear hsk C3 hlen hS1 hb0 hb1 hrs
      go_wp2_with fail
      refine H2.out.mono ?_
      rintro e w2 ⟨rfl, rfl⟩
      clear H2
      go_wp2_with fail
      refine H3.out.mono ?_
      clear H3 d2 d5
      rintro e w3 ⟨u3, t3, rfl, hu3, ht3, hr3, ho3⟩
      have HT3 := Lib.hid ht3
      have hlen3 : t3.size = t'.size - n3 := by rw [← size_list t3, ht3, List.length_drop, size_list]
      have hbd3 := advsI_bd (t'.data.toList.take n3) q (by omega)
      have hlk : (t'.data.toList.take n3).length = n3 := by rw [List.length_take, size_list]; omega
      rw [hlk] at hbd3
      clear ht3 hu3 hlk
      obtain ⟨q3, hq3⟩ : ∃ q3, advsI q (t'.data.toList.take n3) = q3 := ⟨_, rfl⟩
      rw [hq3] at hbd3 hr3
      have HQ3 := Lib.hid hq3
      clear hq3
      have hmr3 := ownsMap_only hmr ho3 hne
      have hL' := HLen.out
      have C4 := off_blank bb B q3 t3 kw sg _ w3 hr3 hmr3 (by omega) (by omega) (by omega) (by omega)
      rw [spanK_spn] at C4
      have hle4 := spn_le isBlank t3.data.toList
      rw [size_list] at hle4
      have hsk4 := skip_blank t3.data.toList
      have hst4 := spn_stop isBlank t3.data.toList
      generalize spn isBlank t3.data.toList = n4 at *
      have HK4 := Lib.hid hsk4; have HS4 := Lib.hid hst4
      have H4 := Lib.hid C4
      have HL3 := Lib.hid hlen3
      clear hsk4 hst4 C4 hL' hlen3
      have d5 := hr3.cell5
      go_wp2_with fail
      refine H4.out.mono ?_
      clear H4 d5
      rintro e w4 ⟨u4, t4, rfl, hu4, ht4, hr4, ho4⟩
      have HT4 := Lib.hid ht4
      clear ht4 hu4
      go_wp2_with fail
      go_roundw
      case rel =>
        have e1 := HT3.out; have e2 := HT4.out; have e3 := ht'.out; have e4 := HK.out; have e5 := HK4.out; have e6 := hL.out
        have e7 := HLen.out; have e8 := HL3.out
        refine ⟨m + n3 + n4, t4, by omega, ?_, (ho.trans ho3).trans ho4, ?_, ?_, ?_⟩
        · rw [advsI_add, advsI_add, HQ.out, ← List.drop_drop, ← e3, ← e1, HQ3.out]
          exact hr4
        · show t4.data.toList = t.data.toList.drop (m + n3 + n4)
          rw [e2, e1, e3, List.drop_drop, List.drop_drop, Nat.add_assoc]
        · show skipN false t.data.toList = m + n3 + n4 + skipN false (t.data.toList.drop (m + n3 + n4))
          rw [e6, ← e3, e4, ← e1, e5, ← e2]
          rw [show t4.data.toList = t.data.toList.drop (m + n3 + n4) by rw [e2, e1, e3, List.drop_drop, List.drop_drop, Nat.add_assoc]]
          omega
        · show ∀ b r, t.data.toList.drop (m + n3 + n4) = b :: r → isBlank b = false
          intro b r h
          refine HS4.out b r ?_
          rw [e1, e3, List.drop_drop, List.drop_drop]
          rw [Nat.add_assoc] at h
          exact h
      case measure =>
        have e8 := HL3.out; have e7 := HLen.out
        have e9 : t4.size = t3.size - n4 := by rw [← size_list t4, HT4.out, List.length_drop, size_list]
        rw [hr4.restSize, HRS.out]
        omega
    · rw [Bool.not_eq_true] at hh
      rw [hh] at C2
      have H2 := Lib.hid C2
      clear C2
      go_wp2_with fail
      refine H2.out.mono ?_
      rintro e w2 ⟨rfl, rfl⟩
      clear H2
      go_wp2_with fail
      go_end0
      have hd : skipN false t.data.toList = m := by
        rw [hL.out, skip_done _ hS.out (fun b r h => by
          intro h35
          rw [← ht'.out] at h
          rw [h] at hh
          have : b = 35 := UInt8.toNat_inj.1 h35
          subst this
          simp [Lib.hasPrefix] at hh)]
        omega
      refine ⟨rfl, t', ?_, ?_, ho⟩
      · rw [hd]; exact ht'.out
      · rw [hd]; exact hrd
end Go.Proofs.YtkkjdmpgjfkenaaDoor

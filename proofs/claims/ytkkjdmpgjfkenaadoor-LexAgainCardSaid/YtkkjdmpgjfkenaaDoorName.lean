/-
  Names and keywords, off the text.
-/
import Derived.Test.YtkkjdmpgjfkenaaDoorSkip
import Derived.Deep.RegionWith
namespace Go.Proofs.YtkkjdmpgjfkenaaDoor
open Go.RowKit Go.Maps Go.WideMaps Go.Shelf

theorem kwHas_any (s : ByteArray) (b : Nat) (x : Bool) (hx : decide (s.data.toList ∈ kwL) = x) (w : World) (hs : s.size ≤ maxLen) (hown : w.ownsMap Tryd.prog 9 unitElem b 20 (SnS kwB 20)) :
    Calls Tryd.prog 33 #[.map (some b), .string s] w fun e w' => e = .returned (.bool x) ∧ Below w.heap.size w w' := by
  refine (hasS_any s b 20 _ w hs hown).mono ?_
  rintro e w' ⟨rfl, hb⟩
  refine ⟨?_, hb⟩
  rw [show SnS kwB 20 = SnS kwB kwB.length from rfl, has_strs, kw_list, hx]
theorem sgHas_any (s : ByteArray) (b : Nat) (x : Bool) (hx : decide (s.data.toList ∈ sgL) = x) (w : World) (hs : s.size ≤ maxLen) (hown : w.ownsMap Tryd.prog 9 unitElem b 20 (SnS sgB 20)) :
    Calls Tryd.prog 33 #[.map (some b), .string s] w fun e w' => e = .returned (.bool x) ∧ Below w.heap.size w w' := by
  refine (hasS_any s b 20 _ w hs hown).mono ?_
  rintro e w' ⟨rfl, hb⟩
  refine ⟨?_, hb⟩
  rw [show SnS sgB 20 = SnS sgB sgB.length from rfl, has_strs, sg_list, hx]

def Blk (w : World) (g : Nat) (t : TypeId) (cs : Array Value) : Prop := w.heap[g]? = some (.cells cs t (0, 0))
section
variable {w w' : World} {g : Nat} {t : TypeId} {cs : Array Value}
theorem Blk.lt (h : Blk w g t cs) : g < w.heap.size := (Array.getElem?_eq_some_iff.1 h).1
theorem Blk.cell (h : Blk w g t cs) (i : Nat) : w.cell? ⟨g, i, none⟩ = cs[i]? := cell_of_row w g i cs t (0, 0) h
theorem Blk.frozen (h : Blk w g t cs) (i : Nat) : w.frozen? ⟨g, i, none⟩ = false := by
  unfold Blk at h
  simp [World.frozen?, h]
theorem Blk.new (w : World) (t : TypeId) (cs : Array Value) : Blk (w.alloc (.cells cs t)) w.heap.size t cs := heap_alloc_new w _
theorem Blk.alloc (h : Blk w g t cs) (o : Obj) : Blk (w.alloc o) g t cs := (Below.heap_alloc w o g h.lt).trans h
theorem Blk.drew (h : Blk w g t cs) : Blk w.drew g t cs := h
theorem Blk.only {X} (h : Blk w g t cs) (ho : Only X w w') (hx : ¬ X g) : Blk w' g t cs := (ho.block g h.lt hx).trans h
theorem Blk.below {n : Nat} (h : Blk w g t cs) (hb : Below n w w') (hg : g < n) : Blk w' g t cs := (hb.block g hg).trans h
theorem Blk.set_ (h : Blk w g t cs) (i : Nat) (u : Value) : Blk (w.setCell ⟨g, i, none⟩ u) g t (cs.setIfInBounds i u) := by
  unfold Blk at h ⊢
  simp [World.setCell, Array.getElem?_modify, h]
theorem Blk.far (h : Blk w g t cs) {p : Addr} (hp : g ≠ p.block) (u : Value) : Blk (w.setCell p u) g t cs := (Below.heap_setCell w p u g hp).trans h
theorem Blk.five {a b c d e : Value} (h : Blk w g t #[a, b, c, d, e]) : w.cell? ⟨g, 0, none⟩ = some a ∧ w.cell? ⟨g, 1, none⟩ = some b ∧ w.cell? ⟨g, 2, none⟩ = some c ∧ w.cell? ⟨g, 3, none⟩ = some d ∧ w.cell? ⟨g, 4, none⟩ = some e ∧
    w.frozen? ⟨g, 0, none⟩ = false ∧ w.frozen? ⟨g, 1, none⟩ = false ∧ w.frozen? ⟨g, 2, none⟩ = false ∧ w.frozen? ⟨g, 3, none⟩ = false ∧ w.frozen? ⟨g, 4, none⟩ = false :=
  ⟨h.cell 0, h.cell 1, h.cell 2, h.cell 3, h.cell 4, h.frozen 0, h.frozen 1, h.frozen 2, h.frozen 3, h.frozen 4⟩
end
theorem Rd.far {w : World} {B : Nat} {p t kw sg bl} (h : Rd w B p t kw sg bl) {a : Addr} (hne : B ≠ a.block) (u : Value) : Rd (w.setCell a u) B p t kw sg bl := (Below.heap_setCell w a u B hne).trans h
/-- A world that only drew: the same memory. -/
structure Same (W W2 : World) : Prop where
  heap : W2.heap = W.heap
  os : W2.os = W.os
  tape : W2.tape = W.tape
  output : W2.output = W.output
theorem Only.fin {X} {w W W2 w2 : World} (h : Only X w W) (hb : Below W2.heap.size W2 w2) (hs : Same W W2) : Only X w w2 := by
  obtain ⟨h1, h2, h3, h4⟩ := hs
  have h5 := hb.size
  rw [h1] at h5
  refine h.trans ⟨hb.os.trans h2, hb.tape.trans h3, hb.output.trans h4, h5, fun k hk _ => (hb.block k (by rw [h1]; exact hk)).trans (by rw [h1])⟩
theorem Blk.fin {W W2 w2 : World} {g : Nat} {t : TypeId} {cs : Array Value} (h : Blk W g t cs) (hb : Below W2.heap.size W2 w2) (hs : Same W W2) : Blk w2 g t cs :=
  (hb.block g (by rw [hs.heap]; exact h.lt)).trans (by rw [hs.heap]; exact h)
theorem Rd.fin {W W2 w2 : World} {B : Nat} {p t kw sg bl} (h : Rd W B p t kw sg bl) (hb : Below W2.heap.size W2 w2) (hs : Same W W2) : Rd w2 B p t kw sg bl :=
  (hb.block B (by rw [hs.heap]; exact h.lt)).trans (by rw [hs.heap]; exact h)
abbrev tokC (k : Int) (s : ByteArray) (n : Int) (p : Int × Int) : Array Value := #[.int .i64 k, .string s, .int .i64 n, .int .i64 p.1, .int .i64 p.2]

def wdB (b : UInt8) : Bool := isWd (b.toNat : Int)
def tokV (k : Int) (s : ByteArray) (n : Int) (p : Int × Int) : Value := .agg #[.int .i64 k, .string s, .int .i64 n, .int .i64 p.1, .int .i64 p.2]

/-- What a word is, or why it is none: kind, text, number, error; the reader is behind m bytes. -/
def WordP (B : Nat) (pos : Int × Int) (t : ByteArray) (kw sg bl : Value) (w : World) (k n er : Int) (m : Nat) (e : Ending) (w' : World) : Prop :=
  ∃ u t' : ByteArray, e = .returned (.tuple #[tokV k u n pos, .int .i64 er]) ∧ u.data.toList = t.data.toList.take m ∧ t'.data.toList = t.data.toList.drop m ∧
    Rd w' B (advsI pos (t.data.toList.take m)) t' kw sg bl ∧ Only (fun b => b = B) w w'

set_option maxHeartbeats 1000000 in
theorem name_long (B : Nat) (pos : Int × Int) (t : ByteArray) (kw sg bl : Value) (w : World) (hr : Rd w B pos t kw sg bl) (h16 : 16 < spn wdB t.data.toList)
    (hp1 : 0 ≤ pos.1) (hp2 : 0 ≤ pos.2) (hp3 : pos.1 + t.size ≤ 1000000000) (hp4 : pos.2 + t.size ≤ 1000000000) :
    Calls Tryd.prog 51 #[.pointer (some ⟨B, 0, none⟩), tokV 0 ByteArray.empty 0 pos] w (WordP B pos t kw sg bl w 1 0 111 (spn wdB t.data.toList)) := by
  have C1 := fun W (h : Rd W B pos t kw sg bl) => off_word B pos t kw sg bl W h hp1 hp2 hp3 hp4
  simp only [show (fun (_ : Nat) (b : UInt8) => isWd (b.toNat : Int)) = fun _ => wdB from rfl, spanK_spn] at C1
  have hle := spn_le wdB t.data.toList
  rw [size_list] at hle
  generalize spn wdB t.data.toList = m at *
  have hb := hr.lt
  have H1 := Lib.hid C1
  clear C1
  unfold tokV
  go_enter Tryd.func51, Tryd.ntmps51
  go_wp2_with fail
  refine (H1.out _ ?_).mono ?_
  · exact (hr.alloc _).alloc _
  clear H1
  rintro e w1 ⟨u1, t1, rfl, hu1, ht1, hr1, ho1⟩
  have b1 : Blk w1 w.heap.size 40 (tokC 0 ByteArray.empty 0 pos) := ((Blk.new w _ _).alloc _).only ho1 (by omega)
  have b2 : Blk w1 (w.heap.size + 1) 40 (tokC 0 ByteArray.empty 0 (0, 0)) := by
    have := (Blk.new (w.alloc (.cells (tokC 0 ByteArray.empty 0 pos) 40)) 40 (tokC 0 ByteArray.empty 0 (0, 0))).only ho1 (by simp; omega)
    simpa using this
  obtain ⟨x0, x1, x2, x3, x4, y0, y1, y2, y3, y4⟩ := b1.five
  obtain ⟨x0', x1', x2', x3', x4', y0', y1', y2', y3', y4'⟩ := b2.five
  have hlu : u1.size = m := by rw [← size_list, hu1, List.length_take, size_list]; omega
  have hlt : 16 < u1.size := by omega
  have HU := Lib.hid hu1; have HT := Lib.hid ht1
  clear hu1 ht1 hlu
  go_wp2_with fail
  refine bodyPost_ret (v := .tuple #[tokV 1 u1 0 pos, .int .i64 111]) (by simp [tokV, results, Tryd.results51, go_sem, x0', x1', x2', x3', x4']) rfl ⟨u1, t1, rfl, HU.out, HT.out, ?_, ?_⟩
  · repeat (refine Rd.far ?_ (by simp; omega) _)
    exact hr1
  · have h0 : Only (fun b => b = B) w w1 := (((Only.refl w).alloc _).alloc _).trans ho1
    repeat (refine Only.setCell ?_ (.inr (by simp)) _)
    exact h0
set_option maxHeartbeats 1000000 in
theorem name_short (B : Nat) (pos : Int × Int) (t : ByteArray) (kw sg bl : Value) (w : World) (hr : Rd w B pos t kw sg bl) (h16 : spn wdB t.data.toList ≤ 16)
    (kb : Nat) (hkw : kw = .map (some kb)) (hm : w.ownsMap Tryd.prog 9 unitElem kb 20 (SnS kwB 20)) (x : Bool) (hx : decide (t.data.toList.take (spn wdB t.data.toList) ∈ kwL) = x) (k : Int) (hk : k = bif x then 3 else 1)
    (hp1 : 0 ≤ pos.1) (hp2 : 0 ≤ pos.2) (hp3 : pos.1 + t.size ≤ 1000000000) (hp4 : pos.2 + t.size ≤ 1000000000) :
    Calls Tryd.prog 51 #[.pointer (some ⟨B, 0, none⟩), tokV 0 ByteArray.empty 0 pos] w (WordP B pos t kw sg bl w k 0 0 (spn wdB t.data.toList)) := by
  subst hkw
  have HX := Lib.hid hx
  have HK := Lib.hid hk
  clear hk
  have HM := Lib.hid hm
  clear hx
  have hne : kb ≠ B := ownsMap_ne hm hr
  have hkl := hm.lt
  clear hm
  have C1 := fun W (h : Rd W B pos t (.map (some kb)) sg bl) => off_word B pos t (.map (some kb)) sg bl W h hp1 hp2 hp3 hp4
  simp only [show (fun (_ : Nat) (b : UInt8) => isWd (b.toNat : Int)) = fun _ => wdB from rfl, spanK_spn] at C1
  have hle := spn_le wdB t.data.toList
  rw [size_list] at hle
  generalize spn wdB t.data.toList = m at *
  have hb := hr.lt
  have H1 := Lib.hid C1
  clear C1
  unfold tokV
  go_enter Tryd.func51, Tryd.ntmps51
  go_wp2_with fail
  refine (H1.out _ ?_).mono ?_
  · exact (hr.alloc _).alloc _
  clear H1
  rintro e w1 ⟨u1, t1, rfl, hu1, ht1, hr1, ho1⟩
  have b1 : Blk w1 w.heap.size 40 (tokC 0 ByteArray.empty 0 pos) := ((Blk.new w _ _).alloc _).only ho1 (by omega)
  have b2 : Blk w1 (w.heap.size + 1) 40 (tokC 0 ByteArray.empty 0 (0, 0)) := by
    have := (Blk.new (w.alloc (.cells (tokC 0 ByteArray.empty 0 pos) 40)) 40 (tokC 0 ByteArray.empty 0 (0, 0))).only ho1 (by simp; omega)
    simpa using this
  obtain ⟨x0, x1, x2, x3, x4, y0, y1, y2, y3, y4⟩ := b1.five
  obtain ⟨x0', x1', x2', x3', x4', y0', y1', y2', y3', y4'⟩ := b2.five
  have hlu : u1.size = m := by rw [← size_list, hu1, List.length_take, size_list]; omega
  have hlt : u1.size ≤ 16 := by omega
  have hm1 : w1.ownsMap Tryd.prog 9 unitElem kb 20 (SnS kwB 20) := ownsMap_only ((HM.out.alloc _).alloc _) ho1 hne
  have hwl : w.heap.size ≤ w1.heap.size := by have := ho1.size; simp at this; omega
  have C2 := fun W (h : W.ownsMap Tryd.prog 9 unitElem kb 20 (SnS kwB 20)) => kwHas_any u1 kb x (by rw [hu1]; exact HX.out) W (by unfold maxLen; omega) h
  have H2 := Lib.hid C2
  have HU := Lib.hid hu1; have HT := Lib.hid ht1
  have r3 := hr1.cell3
  have HM1 := Lib.hid hm1
  clear hu1 ht1 hlu C2 hm1
  cases x
  · obtain rfl : k = 1 := HK.out
    go_wp2_with fail
    have hm2 := ownsMap_set (ownsMap_set HM1.out (B := w.heap.size) (i := 0) (.int .i64 1) (by omega)) (B := w.heap.size) (i := 1) (.string u1) (by omega)
    have HM2 := Lib.hid hm2
    clear hm2
    have q1 := Lib.hid ((b1.set_ 0 (.int .i64 1)).set_ 1 (.string u1))
    have q2 := Lib.hid ((b2.far (p := ⟨w.heap.size, 0, none⟩) (by simp) (.int .i64 1)).far (p := ⟨w.heap.size, 1, none⟩) (by simp) (.string u1))
    have q3 := Lib.hid ((hr1.far (a := ⟨w.heap.size, 0, none⟩) (by simp; omega) (.int .i64 1)).far (a := ⟨w.heap.size, 1, none⟩) (by simp; omega) (.string u1))
    have h0 : Only (fun b => b = B) w w1 := (((Only.refl w).alloc _).alloc _).trans ho1
    have q4 := Lib.hid ((h0.setCell (p := ⟨w.heap.size, 0, none⟩) (.inr (by simp)) (.int .i64 1)).setCell (p := ⟨w.heap.size, 1, none⟩) (.inr (by simp)) (.string u1))
    go_region_with (go_at_call 33; refine (H2.out _ (by exact HM2.out)).mono ?_; rintro e w2 ⟨rfl, hb2⟩)
    all_goals
      have p1 := q1.out.fin hb2 ⟨rfl, rfl, rfl, rfl⟩
      have p2 := q2.out.fin hb2 ⟨rfl, rfl, rfl, rfl⟩
      have p3 := q3.out.fin hb2 ⟨rfl, rfl, rfl, rfl⟩
      have p4 := q4.out.fin hb2 ⟨rfl, rfl, rfl, rfl⟩
      clear q1 q2 q3 q4 hb2 x0 x1 x2 x3 x4 y0 y1 y2 y3 y4 x0' x1' x2' x3' x4' y0' y1' y2' y3' y4' r3 b1 b2 hr1 ho1 h0 HM1 HM2 H2
      obtain ⟨x0, x1, x2, x3, x4, y0, y1, y2, y3, y4⟩ := p1.five
      obtain ⟨x0', x1', x2', x3', x4', y0', y1', y2', y3', y4'⟩ := p2.five
      go_wp2_with fail
      refine bodyPost_ret (v := .tuple #[tokV 1 u1 0 pos, .int .i64 0]) (by simp [tokV, results, Tryd.results51, go_sem, x0', x1', x2', x3', x4']) rfl ⟨u1, t1, rfl, HU.out, HT.out, ?_, ?_⟩
      · repeat (refine Rd.far ?_ (by simp; omega) _)
        exact p3
      · repeat (refine Only.setCell ?_ (.inr (by simp)) _)
        exact p4
  · obtain rfl : k = 3 := HK.out
    go_wp2_with fail
    have hm2 := ownsMap_set (ownsMap_set HM1.out (B := w.heap.size) (i := 0) (.int .i64 1) (by omega)) (B := w.heap.size) (i := 1) (.string u1) (by omega)
    have HM2 := Lib.hid hm2
    clear hm2
    have q1 := Lib.hid ((b1.set_ 0 (.int .i64 1)).set_ 1 (.string u1))
    have q2 := Lib.hid ((b2.far (p := ⟨w.heap.size, 0, none⟩) (by simp) (.int .i64 1)).far (p := ⟨w.heap.size, 1, none⟩) (by simp) (.string u1))
    have q3 := Lib.hid ((hr1.far (a := ⟨w.heap.size, 0, none⟩) (by simp; omega) (.int .i64 1)).far (a := ⟨w.heap.size, 1, none⟩) (by simp; omega) (.string u1))
    have h0 : Only (fun b => b = B) w w1 := (((Only.refl w).alloc _).alloc _).trans ho1
    have q4 := Lib.hid ((h0.setCell (p := ⟨w.heap.size, 0, none⟩) (.inr (by simp)) (.int .i64 1)).setCell (p := ⟨w.heap.size, 1, none⟩) (.inr (by simp)) (.string u1))
    go_region_with (go_at_call 33; refine (H2.out _ (by exact HM2.out)).mono ?_; rintro e w2 ⟨rfl, hb2⟩)
    all_goals
      have p1 := q1.out.fin hb2 ⟨rfl, rfl, rfl, rfl⟩
      have p2 := q2.out.fin hb2 ⟨rfl, rfl, rfl, rfl⟩
      have p3 := q3.out.fin hb2 ⟨rfl, rfl, rfl, rfl⟩
      have p4 := q4.out.fin hb2 ⟨rfl, rfl, rfl, rfl⟩
      clear q1 q2 q3 q4 hb2 x0 x1 x2 x3 x4 y0 y1 y2 y3 y4 x0' x1' x2' x3' x4' y0' y1' y2' y3' y4' r3 b1 b2 hr1 ho1 h0 HM1 HM2 H2
      obtain ⟨x0, x1, x2, x3, x4, y0, y1, y2, y3, y4⟩ := p1.five
      obtain ⟨x0', x1', x2', x3', x4', y0', y1', y2', y3', y4'⟩ := p2.five
      go_wp2_with fail
      refine bodyPost_ret (v := .tuple #[tokV 3 u1 0 pos, .int .i64 0]) (by simp [tokV, results, Tryd.results51, go_sem, x0', x1', x2', x3', x4']) rfl ⟨u1, t1, rfl, HU.out, HT.out, ?_, ?_⟩
      · repeat (refine Rd.far ?_ (by simp; omega) _)
        exact p3
      · repeat (refine Only.setCell ?_ (.inr (by simp)) _)
        exact p4
end Go.Proofs.YtkkjdmpgjfkenaaDoor

/-
  Numbers, off the text.
-/
import Derived.Test.YtkkjdmpgjfkenaaDoorName
import Derived.Test.YtkkjdmpgjfkenaaDoorPub
namespace Go.Proofs.YtkkjdmpgjfkenaaDoor
open Go.RowKit Go.Maps Go.WideMaps Go.Shelf

theorem head_byte (u : ByteArray) (h : 0 < u.size) (b : UInt8) (r : List UInt8) (hu : u.data.toList = b :: r) : u[0] = b := by
  obtain ⟨⟨l⟩⟩ := u
  simp at hu
  subst hu
  rfl
set_option maxHeartbeats 1000000 in
theorem number_bad (B : Nat) (pos : Int × Int) (t : ByteArray) (kw sg bl : Value) (w : World) (hr : Rd w B pos t kw sg bl) (hv : ErrVars w) (h5 : 5 ≤ B) (h1 : 1 ≤ spn wdB t.data.toList)
    (hbad : ∀ n, Lib.parseUintM 2147483647 0 (t.data.toList.take (spn wdB t.data.toList)) ≠ .ok n)
    (hp1 : 0 ≤ pos.1) (hp2 : 0 ≤ pos.2) (hp3 : pos.1 + t.size ≤ 1000000000) (hp4 : pos.2 + t.size ≤ 1000000000) :
    Calls Tryd.prog 52 #[.pointer (some ⟨B, 0, none⟩), tokV 0 ByteArray.empty 0 pos] w (WordP B pos t kw sg bl w 2 0 112 (spn wdB t.data.toList)) := by
  have C1 := fun W (h : Rd W B pos t kw sg bl) => off_word B pos t kw sg bl W h hp1 hp2 hp3 hp4
  simp only [show (fun (_ : Nat) (b : UInt8) => isWd (b.toNat : Int)) = fun _ => wdB from rfl, spanK_spn] at C1
  have hle := spn_le wdB t.data.toList
  rw [size_list] at hle
  generalize spn wdB t.data.toList = m at *
  have hb := hr.lt
  have H1 := Lib.hid C1
  have HV := Lib.hid hv
  have HB := Lib.hid hbad
  clear C1 hv hbad
  unfold tokV
  go_enter Tryd.func52, Tryd.ntmps52
  go_wp2_with fail
  refine (H1.out _ ?_).mono ?_
  · exact (hr.alloc _).alloc _
  clear H1
  rintro e w1 ⟨u1, t1, rfl, hu1, ht1, hr1, ho1⟩
  have b1 : Blk w1 w.heap.size 40 (tokC 0 ByteArray.empty 0 pos) := ((Blk.new w _ _).alloc _).only ho1 (by omega)
  have b2 : Blk w1 (w.heap.size + 1) 40 (tokC 0 ByteArray.empty 0 (0, 0)) := by
    have := (Blk.new (w.alloc (.cells (tokC 0 ByteArray.empty 0 pos) 40)) 40 (tokC 0 ByteArray.empty 0 (0, 0))).only ho1 (by simp; omega)
    simpa using this
  obtain ⟨x0, x1, x2, x3, x4, y0, y1, y2, y3, y4⟩ := b1.five
  have hlu : u1.size = m := by rw [← size_list, hu1, List.length_take, size_list]; omega
  have h0 : Only (fun b => b = B) w w1 := (((Only.refl w).alloc _).alloc _).trans ho1
  have C2 := fun W (h : ErrVars W) => uint_bad u1 (by omega) (by omega) (by rw [hu1]; exact HB.out) W h
  have q1 := Lib.hid ((b1.set_ 0 (.int .i64 2)).set_ 1 (.string u1))
  have q2 := Lib.hid ((b2.far (p := ⟨w.heap.size, 0, none⟩) (by simp) (.int .i64 2)).far (p := ⟨w.heap.size, 1, none⟩) (by simp) (.string u1))
  have q3 := Lib.hid ((hr1.far (a := ⟨w.heap.size, 0, none⟩) (by simp; omega) (.int .i64 2)).far (a := ⟨w.heap.size, 1, none⟩) (by simp; omega) (.string u1))
  have h4 := (h0.setCell (p := ⟨w.heap.size, 0, none⟩) (.inr (by simp)) (.int .i64 2)).setCell (p := ⟨w.heap.size, 1, none⟩) (.inr (by simp)) (.string u1)
  have q4 := Lib.hid h4
  have hv2 := HV.out.below (h4.below HV.out.2.2 (fun k hk => by omega))
  have HV2 := Lib.hid hv2
  have H2 := Lib.hid C2
  have HU := Lib.hid hu1; have HT := Lib.hid ht1
  clear hu1 ht1 hlu C2 h0 h4 hv2 b1 b2 hr1 ho1
  go_wp2_with fail
  refine (H2.out _ HV2.out).mono ?_
  rintro e w2 ⟨v2, T2, N2, rfl, hb2⟩
  have p1 := q1.out.fin hb2 ⟨rfl, rfl, rfl, rfl⟩
  have p2 := q2.out.fin hb2 ⟨rfl, rfl, rfl, rfl⟩
  have p3 := q3.out.fin hb2 ⟨rfl, rfl, rfl, rfl⟩
  have p4 := q4.out.fin hb2 ⟨rfl, rfl, rfl, rfl⟩
  clear q1 q2 q3 q4 hb2 x0 x1 x2 x3 x4 y0 y1 y2 y3 y4 H2
  obtain ⟨x0, x1, x2, x3, x4, y0, y1, y2, y3, y4⟩ := p1.five
  obtain ⟨x0', x1', x2', x3', x4', y0', y1', y2', y3', y4'⟩ := p2.five
  go_wp2_with fail
  refine bodyPost_ret (v := .tuple #[tokV 2 u1 0 pos, .int .i64 112]) (by simp [tokV, results, Tryd.results52, go_sem, x0', x1', x2', x3', x4']) rfl ⟨u1, t1, rfl, HU.out, HT.out, ?_, ?_⟩
  · repeat (refine Rd.far ?_ (by simp; omega) _)
    exact p3
  · repeat (refine Only.setCell ?_ (.inr (by simp)) _)
    exact p4
set_option maxHeartbeats 1000000 in
theorem number_zero (B : Nat) (pos : Int × Int) (t : ByteArray) (kw sg bl : Value) (w : World) (hr : Rd w B pos t kw sg bl) (n : Nat) (h1 : 1 ≤ spn wdB t.data.toList)
    (hbad : Lib.parseUintM 2147483647 0 (t.data.toList.take (spn wdB t.data.toList)) = .ok n)
    (b0 : UInt8) (r0 : List UInt8) (hz : t.data.toList.take (spn wdB t.data.toList) = b0 :: r0) (hb0 : b0.toNat = 48) (hr0 : r0 ≠ [])
    (hp1 : 0 ≤ pos.1) (hp2 : 0 ≤ pos.2) (hp3 : pos.1 + t.size ≤ 1000000000) (hp4 : pos.2 + t.size ≤ 1000000000) :
    Calls Tryd.prog 52 #[.pointer (some ⟨B, 0, none⟩), tokV 0 ByteArray.empty 0 pos] w (WordP B pos t kw sg bl w 2 0 112 (spn wdB t.data.toList)) := by
  have C1 := fun W (h : Rd W B pos t kw sg bl) => off_word B pos t kw sg bl W h hp1 hp2 hp3 hp4
  simp only [show (fun (_ : Nat) (b : UInt8) => isWd (b.toNat : Int)) = fun _ => wdB from rfl, spanK_spn] at C1
  have hle := spn_le wdB t.data.toList
  rw [size_list] at hle
  generalize spn wdB t.data.toList = m at *
  have hb := hr.lt
  have H1 := Lib.hid C1
  have HB := Lib.hid hbad
  have HZ := Lib.hid hz
  have HB0 := Lib.hid hb0
  clear C1 hbad hz hb0
  unfold tokV
  go_enter Tryd.func52, Tryd.ntmps52
  go_wp2_with fail
  refine (H1.out _ ?_).mono ?_
  · exact (hr.alloc _).alloc _
  clear H1
  rintro e w1 ⟨u1, t1, rfl, hu1, ht1, hr1, ho1⟩
  have b1 : Blk w1 w.heap.size 40 (tokC 0 ByteArray.empty 0 pos) := ((Blk.new w _ _).alloc _).only ho1 (by omega)
  have b2 : Blk w1 (w.heap.size + 1) 40 (tokC 0 ByteArray.empty 0 (0, 0)) := by
    have := (Blk.new (w.alloc (.cells (tokC 0 ByteArray.empty 0 pos) 40)) 40 (tokC 0 ByteArray.empty 0 (0, 0))).only ho1 (by simp; omega)
    simpa using this
  obtain ⟨x0, x1, x2, x3, x4, y0, y1, y2, y3, y4⟩ := b1.five
  have hlu : u1.size = m := by rw [← size_list, hu1, List.length_take, size_list]; omega
  have h0 : Only (fun b => b = B) w w1 := (((Only.refl w).alloc _).alloc _).trans ho1
  have C2 := fun W => uint_ok u1 (by omega) (by omega) n (by rw [hu1]; exact HB.out) W
  have q1 := Lib.hid ((b1.set_ 0 (.int .i64 2)).set_ 1 (.string u1))
  have q2 := Lib.hid ((b2.far (p := ⟨w.heap.size, 0, none⟩) (by simp) (.int .i64 2)).far (p := ⟨w.heap.size, 1, none⟩) (by simp) (.string u1))
  have q3 := Lib.hid ((hr1.far (a := ⟨w.heap.size, 0, none⟩) (by simp; omega) (.int .i64 2)).far (a := ⟨w.heap.size, 1, none⟩) (by simp; omega) (.string u1))
  have h4 := (h0.setCell (p := ⟨w.heap.size, 0, none⟩) (.inr (by simp)) (.int .i64 2)).setCell (p := ⟨w.heap.size, 1, none⟩) (.inr (by simp)) (.string u1)
  have q4 := Lib.hid h4
  have H2 := Lib.hid C2
  have HU := Lib.hid hu1; have HT := Lib.hid ht1
  clear hu1 ht1 C2 h0 h4 b1 b2 hr1 ho1
  go_wp2_with fail
  refine (H2.out _).mono ?_
  rintro e w2 ⟨rfl, hb2⟩
  have p1 := q1.out.fin hb2 ⟨rfl, rfl, rfl, rfl⟩
  have p2 := q2.out.fin hb2 ⟨rfl, rfl, rfl, rfl⟩
  have p3 := q3.out.fin hb2 ⟨rfl, rfl, rfl, rfl⟩
  have p4 := q4.out.fin hb2 ⟨rfl, rfl, rfl, rfl⟩
  clear q1 q2 q3 q4 hb2 x0 x1 x2 x3 x4 y0 y1 y2 y3 y4 H2
  obtain ⟨x0, x1, x2, x3, x4, y0, y1, y2, y3, y4⟩ := p1.five
  obtain ⟨x0', x1', x2', x3', x4', y0', y1', y2', y3', y4'⟩ := p2.five
  have hpos : 0 < u1.size := by omega
  have hz1 : ((u1[0].toNat : Int) == 48) = true := by rw [head_byte u1 hpos b0 r0 (HU.out.trans HZ.out), HB0.out]; rfl
  have hz2 : (!u1.toList == [48]) = true := by
    rw [Lib.toList_data, HU.out, HZ.out]
    simp
    exact Or.inr hr0
  go_wp2_with fail
  refine bodyPost_ret (v := .tuple #[tokV 2 u1 0 pos, .int .i64 112]) (by simp [tokV, results, Tryd.results52, go_sem, x0', x1', x2', x3', x4']) rfl ⟨u1, t1, rfl, HU.out, HT.out, ?_, ?_⟩
  · repeat (refine Rd.far ?_ (by simp; omega) _)
    exact p3
  · repeat (refine Only.setCell ?_ (.inr (by simp)) _)
    exact p4
set_option maxHeartbeats 1000000 in
theorem number_good (B : Nat) (pos : Int × Int) (t : ByteArray) (kw sg bl : Value) (w : World) (hr : Rd w B pos t kw sg bl) (n : Nat) (hnb : n ≤ 2147483647) (h1 : 1 ≤ spn wdB t.data.toList)
    (hbad : Lib.parseUintM 2147483647 0 (t.data.toList.take (spn wdB t.data.toList)) = .ok n)
    (b0 : UInt8) (r0 : List UInt8) (hz : t.data.toList.take (spn wdB t.data.toList) = b0 :: r0) (hb0 : b0.toNat ≠ 48)
    (hp1 : 0 ≤ pos.1) (hp2 : 0 ≤ pos.2) (hp3 : pos.1 + t.size ≤ 1000000000) (hp4 : pos.2 + t.size ≤ 1000000000) :
    Calls Tryd.prog 52 #[.pointer (some ⟨B, 0, none⟩), tokV 0 ByteArray.empty 0 pos] w (WordP B pos t kw sg bl w 2 n 0 (spn wdB t.data.toList)) := by
  have C1 := fun W (h : Rd W B pos t kw sg bl) => off_word B pos t kw sg bl W h hp1 hp2 hp3 hp4
  simp only [show (fun (_ : Nat) (b : UInt8) => isWd (b.toNat : Int)) = fun _ => wdB from rfl, spanK_spn] at C1
  have hle := spn_le wdB t.data.toList
  rw [size_list] at hle
  generalize spn wdB t.data.toList = m at *
  have hb := hr.lt
  have H1 := Lib.hid C1
  have HB := Lib.hid hbad
  have HZ := Lib.hid hz
  have HB0 := Lib.hid hb0
  clear C1 hbad hz hb0
  unfold tokV
  go_enter Tryd.func52, Tryd.ntmps52
  go_wp2_with fail
  refine (H1.out _ ?_).mono ?_
  · exact (hr.alloc _).alloc _
  clear H1
  rintro e w1 ⟨u1, t1, rfl, hu1, ht1, hr1, ho1⟩
  have b1 : Blk w1 w.heap.size 40 (tokC 0 ByteArray.empty 0 pos) := ((Blk.new w _ _).alloc _).only ho1 (by omega)
  have b2 : Blk w1 (w.heap.size + 1) 40 (tokC 0 ByteArray.empty 0 (0, 0)) := by
    have := (Blk.new (w.alloc (.cells (tokC 0 ByteArray.empty 0 pos) 40)) 40 (tokC 0 ByteArray.empty 0 (0, 0))).only ho1 (by simp; omega)
    simpa using this
  obtain ⟨x0, x1, x2, x3, x4, y0, y1, y2, y3, y4⟩ := b1.five
  have hlu : u1.size = m := by rw [← size_list, hu1, List.length_take, size_list]; omega
  have h0 : Only (fun b => b = B) w w1 := (((Only.refl w).alloc _).alloc _).trans ho1
  have C2 := fun W => uint_ok u1 (by omega) (by omega) n (by rw [hu1]; exact HB.out) W
  have q1 := Lib.hid ((b1.set_ 0 (.int .i64 2)).set_ 1 (.string u1))
  have q2 := Lib.hid ((b2.far (p := ⟨w.heap.size, 0, none⟩) (by simp) (.int .i64 2)).far (p := ⟨w.heap.size, 1, none⟩) (by simp) (.string u1))
  have q3 := Lib.hid ((hr1.far (a := ⟨w.heap.size, 0, none⟩) (by simp; omega) (.int .i64 2)).far (a := ⟨w.heap.size, 1, none⟩) (by simp; omega) (.string u1))
  have h4 := (h0.setCell (p := ⟨w.heap.size, 0, none⟩) (.inr (by simp)) (.int .i64 2)).setCell (p := ⟨w.heap.size, 1, none⟩) (.inr (by simp)) (.string u1)
  have q4 := Lib.hid h4
  have H2 := Lib.hid C2
  have HU := Lib.hid hu1; have HT := Lib.hid ht1
  clear hu1 ht1 C2 h0 h4 b1 b2 hr1 ho1
  go_wp2_with fail
  refine (H2.out _).mono ?_
  rintro e w2 ⟨rfl, hb2⟩
  have p1 := q1.out.fin hb2 ⟨rfl, rfl, rfl, rfl⟩
  have p2 := q2.out.fin hb2 ⟨rfl, rfl, rfl, rfl⟩
  have p3 := q3.out.fin hb2 ⟨rfl, rfl, rfl, rfl⟩
  have p4 := q4.out.fin hb2 ⟨rfl, rfl, rfl, rfl⟩
  clear q1 q2 q3 q4 hb2 x0 x1 x2 x3 x4 y0 y1 y2 y3 y4 H2
  obtain ⟨x0, x1, x2, x3, x4, y0, y1, y2, y3, y4⟩ := p1.five
  obtain ⟨x0', x1', x2', x3', x4', y0', y1', y2', y3', y4'⟩ := p2.five
  have hpos : 0 < u1.size := by omega
  have hz1 : ((u1[0].toNat : Int) == 48) = false := by rw [head_byte u1 hpos b0 r0 (HU.out.trans HZ.out), beq_eq_false_iff_ne]; have := HB0.out; omega
  go_wp2_with fail
  refine bodyPost_ret (v := .tuple #[tokV 2 u1 n pos, .int .i64 0]) (by simp [tokV, results, Tryd.results52, go_sem, x0', x1', x2', x3', x4']) rfl ⟨u1, t1, rfl, HU.out, HT.out, ?_, ?_⟩
  · repeat (refine Rd.far ?_ (by simp; omega) _)
    exact p3
  · repeat (refine Only.setCell ?_ (.inr (by simp)) _)
    exact p4
set_option maxHeartbeats 1000000 in
theorem number_nought (B : Nat) (pos : Int × Int) (t : ByteArray) (kw sg bl : Value) (w : World) (hr : Rd w B pos t kw sg bl) (n : Nat) (hnb : n ≤ 2147483647) (h1 : 1 ≤ spn wdB t.data.toList)
    (hbad : Lib.parseUintM 2147483647 0 (t.data.toList.take (spn wdB t.data.toList)) = .ok n)
    (hz : t.data.toList.take (spn wdB t.data.toList) = [48])
    (hp1 : 0 ≤ pos.1) (hp2 : 0 ≤ pos.2) (hp3 : pos.1 + t.size ≤ 1000000000) (hp4 : pos.2 + t.size ≤ 1000000000) :
    Calls Tryd.prog 52 #[.pointer (some ⟨B, 0, none⟩), tokV 0 ByteArray.empty 0 pos] w (WordP B pos t kw sg bl w 2 n 0 (spn wdB t.data.toList)) := by
  have C1 := fun W (h : Rd W B pos t kw sg bl) => off_word B pos t kw sg bl W h hp1 hp2 hp3 hp4
  simp only [show (fun (_ : Nat) (b : UInt8) => isWd (b.toNat : Int)) = fun _ => wdB from rfl, spanK_spn] at C1
  have hle := spn_le wdB t.data.toList
  rw [size_list] at hle
  generalize spn wdB t.data.toList = m at *
  have hb := hr.lt
  have H1 := Lib.hid C1
  have HB := Lib.hid hbad
  have HZ := Lib.hid hz
  clear C1 hbad hz
  unfold tokV
  go_enter Tryd.func52, Tryd.ntmps52
  go_wp2_with fail
  refine (H1.out _ ?_).mono ?_
  · exact (hr.alloc _).alloc _
  clear H1
  rintro e w1 ⟨u1, t1, rfl, hu1, ht1, hr1, ho1⟩
  have b1 : Blk w1 w.heap.size 40 (tokC 0 ByteArray.empty 0 pos) := ((Blk.new w _ _).alloc _).only ho1 (by omega)
  have b2 : Blk w1 (w.heap.size + 1) 40 (tokC 0 ByteArray.empty 0 (0, 0)) := by
    have := (Blk.new (w.alloc (.cells (tokC 0 ByteArray.empty 0 pos) 40)) 40 (tokC 0 ByteArray.empty 0 (0, 0))).only ho1 (by simp; omega)
    simpa using this
  obtain ⟨x0, x1, x2, x3, x4, y0, y1, y2, y3, y4⟩ := b1.five
  have hlu : u1.size = m := by rw [← size_list, hu1, List.length_take, size_list]; omega
  have h0 : Only (fun b => b = B) w w1 := (((Only.refl w).alloc _).alloc _).trans ho1
  have C2 := fun W => uint_ok u1 (by omega) (by omega) n (by rw [hu1]; exact HB.out) W
  have q1 := Lib.hid ((b1.set_ 0 (.int .i64 2)).set_ 1 (.string u1))
  have q2 := Lib.hid ((b2.far (p := ⟨w.heap.size, 0, none⟩) (by simp) (.int .i64 2)).far (p := ⟨w.heap.size, 1, none⟩) (by simp) (.string u1))
  have q3 := Lib.hid ((hr1.far (a := ⟨w.heap.size, 0, none⟩) (by simp; omega) (.int .i64 2)).far (a := ⟨w.heap.size, 1, none⟩) (by simp; omega) (.string u1))
  have h4 := (h0.setCell (p := ⟨w.heap.size, 0, none⟩) (.inr (by simp)) (.int .i64 2)).setCell (p := ⟨w.heap.size, 1, none⟩) (.inr (by simp)) (.string u1)
  have q4 := Lib.hid h4
  have H2 := Lib.hid C2
  have HU := Lib.hid hu1; have HT := Lib.hid ht1
  clear hu1 ht1 C2 h0 h4 b1 b2 hr1 ho1
  go_wp2_with fail
  refine (H2.out _).mono ?_
  rintro e w2 ⟨rfl, hb2⟩
  have p1 := q1.out.fin hb2 ⟨rfl, rfl, rfl, rfl⟩
  have p2 := q2.out.fin hb2 ⟨rfl, rfl, rfl, rfl⟩
  have p3 := q3.out.fin hb2 ⟨rfl, rfl, rfl, rfl⟩
  have p4 := q4.out.fin hb2 ⟨rfl, rfl, rfl, rfl⟩
  clear q1 q2 q3 q4 hb2 x0 x1 x2 x3 x4 y0 y1 y2 y3 y4 H2
  obtain ⟨x0, x1, x2, x3, x4, y0, y1, y2, y3, y4⟩ := p1.five
  obtain ⟨x0', x1', x2', x3', x4', y0', y1', y2', y3', y4'⟩ := p2.five
  have hpos : 0 < u1.size := by omega
  have hz1 : ((u1[0].toNat : Int) == 48) = true := by rw [head_byte u1 hpos 48 [] (HU.out.trans HZ.out)]; rfl
  have hz2 : (!u1.toList == [48]) = false := by rw [Lib.toList_data, HU.out, HZ.out]; rfl
  go_wp2_with fail
  refine bodyPost_ret (v := .tuple #[tokV 2 u1 n pos, .int .i64 0]) (by simp [tokV, results, Tryd.results52, go_sem, x0', x1', x2', x3', x4']) rfl ⟨u1, t1, rfl, HU.out, HT.out, ?_, ?_⟩
  · repeat (refine Rd.far ?_ (by simp; omega) _)
    exact p3
  · repeat (refine Only.setCell ?_ (.inr (by simp)) _)
    exact p4
end Go.Proofs.YtkkjdmpgjfkenaaDoor

/-
  A state within a call: where it lies, what it turns.
-/
import Derived.Test.YtdfjbgfdaokjgaaInts
namespace Go.Proofs.Ytdfjbgfdaokjgaa
open Go.RowKit

/-- A state that a call has made: F are its blocks. -/
structure St (W w : World) (p N : Nat) (s : SM) (F : Nat → Prop) : Prop where
  at_ : ∃ base y, SyncAt w base p s y ∧ W.heap.size ≤ base ∧ ∀ b, F b ↔ SFp p y s b
  sz : Sz N s
  low : Below W.heap.size W w
theorem St.lt {W w : World} {p N : Nat} {s : SM} {F : Nat → Prop} (h : St W w p N s F) {b : Nat} (hb : F b) : W.heap.size ≤ b ∧ b < w.heap.size := by
  obtain ⟨base, y, hs, hW, hF⟩ := h.at_
  have := hs.lt ((hF b).1 hb)
  exact ⟨by omega, this.2⟩
theorem St.only {X : Nat → Prop} {W w w' : World} {p N : Nat} {s : SM} {F : Nat → Prop} (h : St W w p N s F) (ho : Only X w w') (hx : ∀ b, X b → W.heap.size ≤ b ∧ ¬ F b) : St W w' p N s F := by
  obtain ⟨base, y, hs, hW, hF⟩ := h.at_
  exact ⟨⟨base, y, hs.only ho (fun b hb hX => (hx b hX).2 ((hF b).2 hb)), hW, hF⟩, h.sz, h.low.trans (ho.below h.low.size (fun k hk => (hx k hk).1))⟩
theorem St.below {W w w' : World} {p N : Nat} {s : SM} {F : Nat → Prop} (h : St W w p N s F) (hb : Below w.heap.size w w') : St W w' p N s F :=
  h.only (Only.of_below (X := fun _ => False) hb) (fun _ h => h.elim)
theorem St.mono {W w : World} {p N N' : Nat} {s : SM} {F : Nat → Prop} (h : St W w p N s F) (hn : N ≤ N') : St W w p N' s F := ⟨h.at_, h.sz.mono hn, h.low⟩
/-- What a call leaves. -/
def Nx (W w w' : World) (p N : Nat) (s' : SM) (F : Nat → Prop) : Prop := ∃ F', St W w' p N s' F' ∧ Only F w w' ∧ ∀ b, F' b → F b ∨ w.heap.size ≤ b
theorem St.aft {W w w' : World} {p N N' base : Nat} {s s' : SM} {F : Nat → Prop} {y : Ly} (h : St W w p N s F) (hs : SyncAt w base p s y) (hW : W.heap.size ≤ base) (hF : ∀ b, F b ↔ SFp p y s b) (ha : Aft w w' base p s y s') (hz : Sz N' s') : Nx W w w' p N' s' F := by
  have hlow := ha.low hs hW h.low
  obtain ⟨y', hs', ho, hf⟩ := ha
  exact ⟨SFp p y' s', ⟨⟨base, y', hs', hW, fun _ => Iff.rfl⟩, hz, hlow⟩, ho.mono (fun b hb => (hF b).2 hb), fun b hb => (hf b hb).imp (fun h => (hF b).2 h) id⟩
theorem Nx.same {W w w' : World} {p N : Nat} {s : SM} {F : Nat → Prop} (h : St W w p N s F) (hb : Below w.heap.size w w') : Nx W w w' p N s F :=
  ⟨F, h.below hb, Only.of_below hb, fun _ hb => .inl hb⟩

section
variable {W w : World} {p N : Nat} {s : SM} {F : Nat → Prop}
theorem st_owner (h : St W w p N s F) (m : Int) {o e : Int} (he : ownerS s m = (o, e)) :
    Calls Try.prog 14 #[.pointer (some ⟨p, 0, none⟩), .int .i64 m] w fun E w' => E = .returned (.tuple #[.int .i64 o, .int .i64 e]) ∧ Below w.heap.size w w' := by
  obtain ⟨base, y, hs, hW, hF⟩ := h.at_
  have := Owner_any hs h.sz m
  rwa [he] at this
theorem st_lock (h : St W w p N s F) (m t : Int) {s' : SM} {b : Bool} {e : Int} (he : lockS s m t = (s', b, e)) :
    Calls Try.prog 15 #[.pointer (some ⟨p, 0, none⟩), .int .i64 m, .int .i64 t] w fun E w' => E = .returned (.tuple #[.bool b, .int .i64 e]) ∧ Nx W w w' p N s' F := by
  obtain ⟨base, y, hs, hW, hF⟩ := h.at_
  have hz := h.sz.lock m t
  refine (Lock_any hs h.sz m t).mono ?_
  rw [he] at hz ⊢
  exact fun E w' ⟨h1, h2⟩ => ⟨h1, h.aft hs hW hF h2 hz⟩
theorem st_unlock (h : St W w p N s F) (m t : Int) {s' : SM} {e : Int} (he : unlockS s m t = (s', e)) :
    Calls Try.prog 24 #[.pointer (some ⟨p, 0, none⟩), .int .i64 m, .int .i64 t] w fun E w' => E = .returned (.int .i64 e) ∧ Nx W w w' p N s' F := by
  obtain ⟨base, y, hs, hW, hF⟩ := h.at_
  have hz := h.sz.unlock m t
  refine (Unlock_any hs h.sz m t).mono ?_
  rw [he] at hz ⊢
  exact fun E w' ⟨h1, h2⟩ => ⟨h1, h.aft hs hW hF h2 hz⟩
theorem st_wait (h : St W w p N s F) (hN : N ≤ 1000000) (m t : Int) {s' : SM} {e : Int} (he : waitS s m t = (s', e)) :
    Calls Try.prog 25 #[.pointer (some ⟨p, 0, none⟩), .int .i64 m, .int .i64 t] w fun E w' => E = .returned (.int .i64 e) ∧ Nx W w w' p (N + 1) s' F := by
  obtain ⟨base, y, hs, hW, hF⟩ := h.at_
  have hz := h.sz.wait m t
  refine (Wait_any hs h.sz hN m t).mono ?_
  rw [he] at hz ⊢
  exact fun E w' ⟨h1, h2⟩ => ⟨h1, h.aft hs hW hF h2 hz⟩
theorem st_waits (h : St W w p N s F) (hN : N ≤ 1000000) (m : Int) {l : List Int} {e : Int} (he : waitsS s m = (l, e)) :
    Calls Try.prog 16 #[.pointer (some ⟨p, 0, none⟩), .int .i64 m] w fun E w' => ∃ u, E = .returned (.tuple #[u, .int .i64 e]) ∧ w'.ownsRow w.heap.size 3 1 u l.length (l.map (Value.int .i64)) ∧ Below w.heap.size w w' := by
  obtain ⟨base, y, hs, hW, hF⟩ := h.at_
  have := Waits_any hs h.sz hN m
  rwa [he] at this
theorem st_signal (h : St W w p N s F) (hN : N ≤ 1000000) (m : Int) {s' : SM} {t : Int} {b : Bool} {e : Int} (he : signalS s m = (s', t, b, e)) :
    Calls Try.prog 17 #[.pointer (some ⟨p, 0, none⟩), .int .i64 m] w fun E w' => E = .returned (.tuple #[.int .i64 t, .bool b, .int .i64 e]) ∧ Nx W w w' p N s' F := by
  obtain ⟨base, y, hs, hW, hF⟩ := h.at_
  have hz := h.sz.signal m
  refine (Signal_any hs h.sz hN m).mono ?_
  rw [he] at hz ⊢
  exact fun E w' ⟨h1, h2⟩ => ⟨h1, h.aft hs hW hF h2 hz⟩
theorem st_all (h : St W w p N s F) (hN : N ≤ 1000000) (m : Int) {s' : SM} {l : List Int} {e : Int} (he : allS s m = (s', l, e)) :
    Calls Try.prog 18 #[.pointer (some ⟨p, 0, none⟩), .int .i64 m] w fun E w' => ∃ u, E = .returned (.tuple #[u, .int .i64 e]) ∧ w'.ownsRow w.heap.size 3 1 u l.length (l.map (Value.int .i64)) ∧ Nx W w w' p N s' F := by
  obtain ⟨base, y, hs, hW, hF⟩ := h.at_
  have hz := h.sz.all m
  refine (All_any hs h.sz hN m).mono ?_
  rw [he] at hz ⊢
  exact fun E w' ⟨u, h1, h3, h2⟩ => ⟨u, h1, h3, h.aft hs hW hF h2 hz⟩
theorem st_values (h : St W w p N s F) (hN : N ≤ 1000000) (m : Int) {l : List Int} {e : Int} (he : valuesS s m = (l, e)) :
    Calls Try.prog 21 #[.pointer (some ⟨p, 0, none⟩), .int .i64 m] w fun E w' => ∃ u, E = .returned (.tuple #[u, .int .i64 e]) ∧ w'.ownsRow w.heap.size 2 1 u l.length (l.map (Value.int .i64)) ∧ Below w.heap.size w w' := by
  obtain ⟨base, y, hs, hW, hF⟩ := h.at_
  have := Values_any hs h.sz hN m
  rwa [he] at this
theorem st_room (h : St W w p N s F) (hN : N ≤ 1000000) (m : Int) {o e : Int} (he : roomS s m = (o, e)) :
    Calls Try.prog 22 #[.pointer (some ⟨p, 0, none⟩), .int .i64 m] w fun E w' => E = .returned (.tuple #[.int .i64 o, .int .i64 e]) ∧ Below w.heap.size w w' := by
  obtain ⟨base, y, hs, hW, hF⟩ := h.at_
  have := Room_any hs h.sz hN m
  rwa [he] at this
theorem st_send (h : St W w p N s F) (hN : N ≤ 1000000) (m t : Int) {s' : SM} {n : Int} {b : Bool} {e : Int} (he : sendS s m t = (s', n, b, e)) :
    Calls Try.prog 19 #[.pointer (some ⟨p, 0, none⟩), .int .i64 m, .int .i64 t] w fun E w' => E = .returned (.tuple #[.int .i64 n, .bool b, .int .i64 e]) ∧ Nx W w w' p (N + 1) s' F := by
  obtain ⟨base, y, hs, hW, hF⟩ := h.at_
  have hz := h.sz.send m t
  refine (Send_any hs h.sz hN m t).mono ?_
  rw [he] at hz ⊢
  exact fun E w' ⟨h1, h2⟩ => ⟨h1, h.aft hs hW hF h2 hz⟩
theorem st_recv (h : St W w p N s F) (hN : N ≤ 1000000) (m : Int) {s' : SM} {v n : Int} {b : Bool} {e : Int} (he : recvS s m = (s', v, n, b, e)) :
    Calls Try.prog 20 #[.pointer (some ⟨p, 0, none⟩), .int .i64 m] w fun E w' => E = .returned (.tuple #[.int .i64 v, .int .i64 n, .bool b, .int .i64 e]) ∧ Nx W w w' p N s' F := by
  obtain ⟨base, y, hs, hW, hF⟩ := h.at_
  have hz := h.sz.recv m
  refine (Recv_any hs h.sz hN m).mono ?_
  rw [he] at hz ⊢
  exact fun E w' ⟨h1, h2⟩ => ⟨h1, h.aft hs hW hF h2 hz⟩
theorem st_new (nm nc : Nat) (o : Option Addr) (cc : Nat) (rs : List Int) (hnm : nm ≤ 64) (hnc : nc ≤ 64) (hm : rs.length ≤ 64) (hr : IntsAt w o rs) (hrs : rs.all (inB 1 16) = true) (hl : Below W.heap.size W w) :
    Calls Try.prog 12 #[.int .i64 nm, .int .i64 nc, .slice o rs.length cc] w fun E w' => ∃ p F, E = .returned (.tuple #[.pointer (some ⟨p, 0, none⟩), .int .i64 0]) ∧ St W w' p 0 (newS nm nc rs) F ∧ Below w.heap.size w w' ∧ ∀ b, F b → w.heap.size ≤ b :=
  (new_ok nm nc o cc rs hnm hnc hm w hr hrs).mono fun _ _ ⟨p, y, h1, h2, h3⟩ =>
    ⟨p, SFp p y (newS nm nc rs), h1, ⟨⟨w.heap.size, y, h2, hl.size, fun _ => Iff.rfl⟩, sz_new nm nc rs hnm hnc hm hrs, hl.trans (h3.mono hl.size)⟩, h3, fun _ hb => (h2.lt hb).1⟩
end
theorem ints_one (w : World) (B : Nat) (T : TypeId) (z : Int) (h : Blk w B T #[.int .i64 z]) : IntsAt w (some ⟨B, 0, none⟩) [z] :=
  ⟨fun _ => ⟨B, 0, rfl⟩, fun g off he j u hu => by
    injection he with he
    injection he with e1 e2
    subst e1; subst e2
    cases j with
    | zero => simp at hu; subst hu; exact h.cell 0
    | succ j => simp at hu⟩

set_option maxRecDepth 100000 in
set_option maxHeartbeats 4000000 in
theorem works_any (w : World) : Calls Try.prog 11 #[] w fun e w' => e = .returned (.bool true) ∧ Below w.heap.size w w' := by
  have HNW := Lib.hid (fun W (hb : Blk W w.heap.size 3 #[.int .i64 1]) (hl : Below w.heap.size w W) => st_new (W := w) (w := W) 1 1 (some ⟨w.heap.size, 0, none⟩) 1 [1] (by omega) (by omega) (by simp) (ints_one W w.heap.size _ 1 hb) rfl hl)
  go_enter Try.func11, Try.ntmps11
  go_wp2_with fail
  refine (HNW.out _ (Blk.new _ _ _) ((Below.refl _ _).alloc (Nat.le_refl _) _)).mono ?_
  rintro e w1 ⟨p, F1, rfl, hs1, _, _⟩
  have H1 := Lib.hid hs1
  clear hs1 HNW
  go_wp2_with fail
  refine (st_lock H1.out 0 1 (s' := ⟨[1], [[]], [⟨1, [], 0⟩]⟩) (b := true) (e := 0) rfl).mono ?_
  rintro e w2 ⟨rfl, F2, hs2, _, _⟩
  have H2 := Lib.hid hs2
  clear hs2 H1
  go_wp2_with fail
  refine (st_lock H2.out 0 2 (s' := ⟨[1], [[]], [⟨1, [], 0⟩]⟩) (b := false) (e := 0) rfl).mono ?_
  rintro e w3 ⟨rfl, F3, hs3, _, _⟩
  have H3 := Lib.hid hs3
  clear hs3 H2
  go_wp2_with fail
  refine (st_owner H3.out 0 (o := 1) (e := 0) rfl).mono ?_
  rintro e w4 ⟨rfl, hb4⟩
  have H4 := Lib.hid (H3.out.below hb4)
  clear hb4 H3
  go_wp2_with fail
  refine (st_wait H4.out (by omega) 0 3 (s' := ⟨[1], [[3]], [⟨1, [], 0⟩]⟩) (e := 0) rfl).mono ?_
  rintro e w5 ⟨rfl, F5, hs5, _, _⟩
  have H5 := Lib.hid hs5
  clear hs5 H4
  go_wp2_with fail
  refine (st_signal H5.out (by omega) 0 (s' := ⟨[1], [[]], [⟨1, [], 0⟩]⟩) (t := 3) (b := true) (e := 0) rfl).mono ?_
  rintro e w6 ⟨rfl, F6, hs6, _, _⟩
  have H6 := Lib.hid hs6
  clear hs6 H5
  go_wp2_with fail
  refine (st_send H6.out (by omega) 0 7 (s' := ⟨[1], [[]], [⟨1, [7], 0⟩]⟩) (n := 0) (b := true) (e := 0) rfl).mono ?_
  rintro e w7 ⟨rfl, F7, hs7, _, _⟩
  have H7 := Lib.hid hs7
  clear hs7 H6
  go_wp2_with fail
  refine (st_recv H7.out (by omega) 0 (s' := ⟨[1], [[]], [⟨1, [7], 1⟩]⟩) (v := 7) (n := 0) (b := true) (e := 0) rfl).mono ?_
  rintro e w8 ⟨rfl, F8, hs8, _, _⟩
  have H8 := Lib.hid hs8
  clear hs8 H7
  go_wp2_with (first | (go_at_call 23; refine (num_any _ _).mono ?_; rintro e w' ⟨rfl, rfl⟩))
  refine (st_unlock H8.out 0 2 (s' := ⟨[1], [[]], [⟨1, [7], 1⟩]⟩) (e := 140) rfl).mono ?_
  rintro e w9 ⟨rfl, F9, hs9, _, _⟩
  have H9 := Lib.hid hs9.low
  clear hs9 H8
  go_wp2_with (first | (go_at_call 23; refine (num_any _ _).mono ?_; rintro e w' ⟨rfl, rfl⟩))
  go_ret
  exact ⟨rfl, H9.out⟩
end Go.Proofs.Ytdfjbgfdaokjgaa

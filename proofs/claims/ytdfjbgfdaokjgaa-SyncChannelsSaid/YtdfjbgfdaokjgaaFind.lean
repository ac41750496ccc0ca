/-
  What an object has, and how one of a number is found.
-/
import Derived.Test.YtdfjbgfdaokjgaaSmall
import Derived.IntWalk
namespace Go.Proofs.Ytdfjbgfdaokjgaa
open Go.RowKit

/-- The cells of an object: is it there, its mutexes, its conditions, its channels. -/
abbrev hdC (md : Bool) (oo : Option Addr) (no co : Nat) (oc : Option Addr) (nc cc : Nat) (oh : Option Addr) (nh ch : Nat) : Array Value :=
  #[.bool md, .slice oo no co, .slice oc nc cc, .slice oh nh ch]

theorem has_some (p : Nat) (md : Bool) (oo : Option Addr) (no co : Nat) (oc : Option Addr) (nc cc : Nat) (oh : Option Addr) (nh ch : Nat) (w : World) (hb : Blk w p 78 (hdC md oo no co oc nc cc oh nh ch)) :
    Calls Try.prog 36 #[.pointer (some ⟨p, 0, none⟩)] w fun e w' => e = .returned (.agg (hdC md oo no co oc nc cc oh nh ch)) ∧ w.alloc (.cells (hdC md oo no co oc nc cc oh nh ch) 76) = w' := by
  obtain ⟨c0, c1, c2, c3, _, _, _, _⟩ := (hb.alloc (.cells #[.bool false, .slice none 0 0, .slice none 0 0, .slice none 0 0] 76)).four
  go_enter Try.func36, Try.ntmps36
  go_wp2
  exact bodyPost_ret (v := .agg (hdC md oo no co oc nc cc oh nh ch)) (by simp [results, Try.results36, go_sem]) rfl ⟨rfl, rfl⟩
theorem has_none (w : World) :
    Calls Try.prog 36 #[.pointer none] w fun e w' => e = .returned (.agg (hdC false none 0 0 none 0 0 none 0 0)) ∧ w.alloc (.cells (hdC false none 0 0 none 0 0 none 0 0) 76) = w' := by
  go_enter Try.func36, Try.ntmps36
  go_wp2
  exact bodyPost_ret (v := .agg (hdC false none 0 0 none 0 0 none 0 0)) (by simp [results, Try.results36, go_sem]) rfl ⟨rfl, rfl⟩

/-- What is found: the one of a number. -/
def FindIn (g off : Nat) (md : Bool) (w : World) (e : Ending) (w' : World) : Prop :=
  e = .returned (.tuple #[.pointer (some ⟨g, off, none⟩), .agg #[.bool md, .bool true, .bool false, .bool false]]) ∧ Below w.heap.size w w'
/-- .. or an empty one, that is new. -/
def FindOut (T : TypeId) (cs : Array Value) (md : Bool) (w : World) (e : Ending) (w' : World) : Prop :=
  ∃ q, e = .returned (.tuple #[.pointer (some ⟨q, 0, none⟩), .agg #[.bool md, .bool false, .bool false, .bool false]]) ∧ Below w.heap.size w w' ∧ w.heap.size ≤ q ∧ Blk w' q T cs

set_option maxRecDepth 100000 in
set_option maxHeartbeats 1000000 in
theorem find_int_in (md : Bool) (ov cv hv : Value) (g n c : Nat) (i : Int) (h0 : 0 ≤ i) (h1 : i < n) (hm : n ≤ 1000000) (w : World) :
    Calls Try.prog 37 #[.agg #[.bool md, ov, cv, hv], .slice (some ⟨g, 0, none⟩) n c, .int .i64 i] w (FindIn g i.toNat md w) := by
  have H := Lib.hid (fun B W hb => within_one 0 ((n : Int) - 1) i B W hb)
  rw [show inB 0 ((n : Int) - 1) i = true from inB_of h0 (by omega)] at H
  go_enter Try.func37, Try.ntmps37
  go_wp2_with fail
  refine (H.out _ _ (Blk.new' _ _ _ _ (by simp))).mono ?_
  rintro e w' ⟨rfl, rfl⟩
  clear H
  go_wp2_with fail
  go_region
  all_goals
    go_wp2_with fail
    refine bodyPost_ret (v := .tuple #[.pointer (some ⟨g, i.toNat, none⟩), .agg #[.bool md, .bool true, .bool false, .bool false]]) (by simp [results, Try.results37, go_sem]) rfl ⟨rfl, ?_⟩
    exact ((((Below.refl _ w).alloc (Nat.le_refl _) _).alloc (by simp) _).alloc (by simp; omega) _).drew

set_option maxRecDepth 100000 in
set_option maxHeartbeats 1000000 in
theorem find_int_out (md : Bool) (ov cv hv : Value) (o : Option Addr) (n c : Nat) (i : Int) (h1 : i < 0 ∨ n ≤ i) (hm : n ≤ 1000000) (w : World) :
    Calls Try.prog 37 #[.agg #[.bool md, ov, cv, hv], .slice o n c, .int .i64 i] w (FindOut 3 #[.int .i64 0] md w) := by
  have H := Lib.hid (fun B W hb => within_one 0 ((n : Int) - 1) i B W hb)
  rw [show inB 0 ((n : Int) - 1) i = false by rcases h1 with h | h; exact inB_lt h; exact inB_gt (by omega)] at H
  go_enter Try.func37, Try.ntmps37
  go_wp2_with fail
  refine (H.out _ _ (Blk.new' _ _ _ _ (by simp))).mono ?_
  rintro e w' ⟨rfl, rfl⟩
  clear H
  go_wp2_with fail
  go_region
  all_goals
    go_wp2_with fail
    refine bodyPost_ret (v := .tuple #[.pointer (some ⟨w.heap.size + 1 + 1 + 1, 0, none⟩), .agg #[.bool md, .bool false, .bool false, .bool false]]) (by simp [results, Try.results37, go_sem]) rfl ⟨_, rfl, ?_, ?_, ?_⟩
    · exact (((((Below.refl _ w).alloc (Nat.le_refl _) _).alloc (by simp) _).alloc (by simp; omega) _).alloc (by simp; omega) _).drew
    · omega
    · exact Blk.drew (Blk.new' _ _ _ _ (by simp))

set_option maxRecDepth 100000 in
set_option maxHeartbeats 1000000 in
theorem find_cond_in (md : Bool) (ov cv hv : Value) (g n c : Nat) (i : Int) (h0 : 0 ≤ i) (h1 : i < n) (hm : n ≤ 1000000) (w : World) :
    Calls Try.prog 40 #[.agg #[.bool md, ov, cv, hv], .slice (some ⟨g, 0, none⟩) n c, .int .i64 i] w (FindIn g i.toNat md w) := by
  have H := Lib.hid (fun B W hb => within_one 0 ((n : Int) - 1) i B W hb)
  rw [show inB 0 ((n : Int) - 1) i = true from inB_of h0 (by omega)] at H
  go_enter Try.func40, Try.ntmps40
  go_wp2_with fail
  refine (H.out _ _ (Blk.new' _ _ _ _ (by simp))).mono ?_
  rintro e w' ⟨rfl, rfl⟩
  clear H
  go_wp2_with fail
  go_region
  all_goals
    go_wp2_with fail
    refine bodyPost_ret (v := .tuple #[.pointer (some ⟨g, i.toNat, none⟩), .agg #[.bool md, .bool true, .bool false, .bool false]]) (by simp [results, Try.results40, go_sem]) rfl ⟨rfl, ?_⟩
    exact ((((Below.refl _ w).alloc (Nat.le_refl _) _).alloc (by simp) _).alloc (by simp; omega) _).drew

set_option maxRecDepth 100000 in
set_option maxHeartbeats 1000000 in
theorem find_cond_out (md : Bool) (ov cv hv : Value) (o : Option Addr) (n c : Nat) (i : Int) (h1 : i < 0 ∨ n ≤ i) (hm : n ≤ 1000000) (w : World) :
    Calls Try.prog 40 #[.agg #[.bool md, ov, cv, hv], .slice o n c, .int .i64 i] w (FindOut 97 #[.slice none 0 0] md w) := by
  have H := Lib.hid (fun B W hb => within_one 0 ((n : Int) - 1) i B W hb)
  rw [show inB 0 ((n : Int) - 1) i = false by rcases h1 with h | h; exact inB_lt h; exact inB_gt (by omega)] at H
  go_enter Try.func40, Try.ntmps40
  go_wp2_with fail
  refine (H.out _ _ (Blk.new' _ _ _ _ (by simp))).mono ?_
  rintro e w' ⟨rfl, rfl⟩
  clear H
  go_wp2_with fail
  go_region
  all_goals
    go_wp2_with fail
    refine bodyPost_ret (v := .tuple #[.pointer (some ⟨w.heap.size + 1 + 1 + 1, 0, none⟩), .agg #[.bool md, .bool false, .bool false, .bool false]]) (by simp [results, Try.results40, go_sem]) rfl ⟨_, rfl, ?_, ?_, ?_⟩
    · exact (((((Below.refl _ w).alloc (Nat.le_refl _) _).alloc (by simp) _).alloc (by simp; omega) _).alloc (by simp; omega) _).drew
    · omega
    · exact Blk.drew (Blk.new' _ _ _ _ (by simp))

set_option maxRecDepth 100000 in
set_option maxHeartbeats 1000000 in
theorem find_chan_in (md : Bool) (ov cv hv : Value) (g n c : Nat) (i : Int) (h0 : 0 ≤ i) (h1 : i < n) (hm : n ≤ 1000000) (w : World) :
    Calls Try.prog 45 #[.agg #[.bool md, ov, cv, hv], .slice (some ⟨g, 0, none⟩) n c, .int .i64 i] w (FindIn g (i.toNat * 3) md w) := by
  have H := Lib.hid (fun B W hb => within_one 0 ((n : Int) - 1) i B W hb)
  rw [show inB 0 ((n : Int) - 1) i = true from inB_of h0 (by omega)] at H
  go_enter Try.func45, Try.ntmps45
  go_wp2_with fail
  refine (H.out _ _ (Blk.new' _ _ _ _ (by simp))).mono ?_
  rintro e w' ⟨rfl, rfl⟩
  clear H
  go_wp2_with fail
  go_region
  all_goals
    go_wp2_with fail
    refine bodyPost_ret (v := .tuple #[.pointer (some ⟨g, (i.toNat * 3), none⟩), .agg #[.bool md, .bool true, .bool false, .bool false]]) (by simp [results, Try.results45, go_sem]) rfl ⟨rfl, ?_⟩
    exact ((((Below.refl _ w).alloc (Nat.le_refl _) _).alloc (by simp) _).alloc (by simp; omega) _).drew

set_option maxRecDepth 100000 in
set_option maxHeartbeats 1000000 in
theorem find_chan_out (md : Bool) (ov cv hv : Value) (o : Option Addr) (n c : Nat) (i : Int) (h1 : i < 0 ∨ n ≤ i) (hm : n ≤ 1000000) (w : World) :
    Calls Try.prog 45 #[.agg #[.bool md, ov, cv, hv], .slice o n c, .int .i64 i] w (FindOut 82 #[.slice none 0 0, .int .i64 0, .int .i64 0] md w) := by
  have H := Lib.hid (fun B W hb => within_one 0 ((n : Int) - 1) i B W hb)
  rw [show inB 0 ((n : Int) - 1) i = false by rcases h1 with h | h; exact inB_lt h; exact inB_gt (by omega)] at H
  go_enter Try.func45, Try.ntmps45
  go_wp2_with fail
  refine (H.out _ _ (Blk.new' _ _ _ _ (by simp))).mono ?_
  rintro e w' ⟨rfl, rfl⟩
  clear H
  go_wp2_with fail
  go_region
  all_goals
    go_wp2_with fail
    refine bodyPost_ret (v := .tuple #[.pointer (some ⟨w.heap.size + 1 + 1 + 1, 0, none⟩), .agg #[.bool md, .bool false, .bool false, .bool false]]) (by simp [results, Try.results45, go_sem]) rfl ⟨_, rfl, ?_, ?_, ?_⟩
    · exact (((((Below.refl _ w).alloc (Nat.le_refl _) _).alloc (by simp) _).alloc (by simp; omega) _).alloc (by simp; omega) _).drew
    · omega
    · exact Blk.drew (Blk.new' _ _ _ _ (by simp))
end Go.Proofs.Ytdfjbgfdaokjgaa

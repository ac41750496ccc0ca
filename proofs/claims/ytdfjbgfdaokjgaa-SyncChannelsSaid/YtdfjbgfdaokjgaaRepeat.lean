/-
  A number, so many times.
-/
import Derived.Test.YtdfjbgfdaokjgaaSmall
import Derived.Test.YtdfjbgfdaokjgaaShelf
import Derived.Laws.CopyOwn
import Derived.Deep.RegionLaw
import Derived.Deep.DeepMust
import Derived.Deep.OwnRows
import Derived.IntWalk
namespace Go.Proofs.Ytdfjbgfdaokjgaa
open Go.RowKit Go.Shelf

theorem mul_one_n (n : Nat) (hn : n ≤ 1000000) (w : World) : Calls Try.prog 65 #[.int .u64 1, .int .u64 n] w fun e w' => e = .returned (.tuple #[.int .u64 0, .int .u64 n]) ∧ w = w' :=
  (Try.bits_Mul 1 n (by omega) (by omega) w).mono fun e w' ⟨h1, h2⟩ => ⟨by rw [h1, Nat.one_mul, Nat.div_eq_of_lt (by omega), Nat.mod_eq_of_lt (by omega)]; rfl, h2.symm⟩

def rep (k m : Nat) (x : Int) : List Value := List.replicate k (.int .i64 x) ++ List.replicate m (.int .i64 0)
theorem rep_len (k m : Nat) (x : Int) : (rep k m x).length = k + m := by simp [rep]
theorem rep_splice (k m c : Nat) (x : Int) : splice (rep k m x) k (List.replicate c (.int .i64 x)) = rep (k + c) (m - c) x := by
  unfold splice rep
  rw [List.take_left' (by simp), List.drop_append]
  simp only [List.length_replicate]
  rw [show k + c - k = c by omega, List.drop_eq_nil_of_le (by simp), List.nil_append, List.drop_replicate, ← List.append_assoc, List.replicate_append_replicate]
theorem rep_at (k m : Nat) (x : Int) (j : Nat) (hj : j < k) : (rep k m x)[j]? = some (.int .i64 x) := by
  unfold rep
  rw [List.getElem?_append_left (by simpa using hj)]
  simp [hj]

theorem info_rep : (Try.prog.info? 3).map (·.size) = some 1 := by kernel_rfl
theorem info_rep' : (Try.prog.info? 3).map (fun i => (i.zero, i.size, i.bytes)) = some (some (.int .i64 0), 1, 8) := by kernel_rfl
theorem blk_row {w : World} {base g n : Nat} {xs : List Value} {T : TypeId} (h : w.heap[g]? = some (.cells xs.toArray T (0, 0))) (hb : base ≤ g) (hn : xs.length = n) (hm : n ≤ 1000000) : w.ownsRow base T 1 (.slice (some ⟨g, 0, none⟩) n n) n xs := by
  refine ⟨by simpa using hn, .inr ⟨g, n, xs.toArray, rfl, hb, h, Nat.le_refl _, by unfold maxLen; omega, by simpa using hn, ?_⟩⟩
  rw [Nat.mul_one, ← hn]
  exact List.take_length

set_option maxRecDepth 100000 in
set_option maxHeartbeats 2000000 in
theorem repeat_any (x : Int) (B n : Nat) (hn : n ≤ 1000) (w : World) (hb : Blk w B 3 #[.int .i64 x]) :
    Calls Try.prog 35 #[.slice (some ⟨B, 0, none⟩) 1 1, .int .i64 n] w fun e w' =>
      e = .returned (.slice (some ⟨w.heap.size, 0, none⟩) n n) ∧ w'.heap[w.heap.size]? = some (.cells (rep n 0 x).toArray 3 (0, 0)) ∧ Below w.heap.size w w' := by
  have HM := Lib.hid (fun W => mul_one_n n (by omega) W)
  have c0 := hb.cell 0
  have hlt := hb.lt
  have hmk : ∀ W, (Instr.makeSlice 22 (.int .i64 (n : Int)) (.int .i64 (n : Int))).run Try.prog W = .ok (.slice (some ⟨W.heap.size, 0, none⟩) n n) (W.alloc (.cells (madeCells #[.int .i64 0] n) 3)) := fun W =>
    run_make_row' _ _ _ 8 Try.underlying22 info_rep' rfl _ _ n (by omega) (by omega) W
  have hmade : madeCells #[Value.int .i64 0] n = (rep 0 n x).toArray := by
    apply Array.ext_getElem?
    intro j
    by_cases hj : j < n <;> simp [madeCells, rep, hj, Nat.mod_one]
  rw [hmade] at hmk
  have hW := Lib.hid (heap_alloc_new w (.cells (rep 0 n x).toArray 3))
  have hB1 := Lib.hid ((Below.refl w.heap.size w).alloc (Nat.le_refl _) (.cells (rep 0 n x).toArray 3))
  have c1 : (w.alloc (.cells (rep 0 n x).toArray 3)).cell? ⟨B, 0, none⟩ = some (.int .i64 x) := (hb.alloc _).cell 0
  have HB := Lib.hid hb
  clear hb hmade
  by_cases h0 : n = 0
  · subst h0
    have hmk0 : ∀ W, (Instr.makeSlice 22 (.int .i64 0) (.int .i64 0)).run Try.prog W = .ok (.slice (some ⟨W.heap.size, 0, none⟩) 0 0) (W.alloc (.cells (rep 0 0 x).toArray 3)) := fun W => hmk W
    clear hmk
    go_enter Try.func35, Try.ntmps35
    go_wp2_with fail
    refine (HM.out _).mono ?_
    rintro e w' ⟨rfl, rfl⟩
    go_wp2_with (refine wpList_copy_nothing rfl (.tmp 31) (.tmp 32) 22 22 rfl 3 Try.underlying22 info_rep _ _ _ _ _ _ rfl rfl rfl ?_)
    go_loopw [8] (fun i wr => i = .int .i64 0 ∧ wr = w.alloc (.cells (rep 0 0 x).toArray 3)) (fun _ _ => 0)
    case atStart => exact ⟨rfl, rfl⟩
    case round =>
      obtain ⟨rfl, rfl⟩ := hrel
      go_wp2_with fail
      go_ret
      exact ⟨rfl, hW.out, hB1.out⟩
  · have hs1 : Hid ([Value.int .i64 x].length = Nat.min 1 n) := Lib.hid (by show 1 = min 1 n; omega)
    have hcs : Hid (∀ j v, [Value.int .i64 x][j]? = some v → (w.alloc (.cells (rep 0 n x).toArray 3)).cell? ((⟨B, 0, none⟩ : Addr).add j) = some v) := fun j v hj => by
      cases j with
      | zero => simp at hj; subst hj; exact c1
      | succ j => simp at hj
    have hfit : Hid (0 + [Value.int .i64 x].length ≤ (rep 0 n x).length) := Lib.hid (by rw [rep_len]; simp; omega)
    have h1c : Hid (∀ v ∈ [Value.int .i64 x], v.oneCell' = true) := by intro v hv; simp at hv; subst hv; rfl
    have hsp : Hid (splice (rep 0 n x) 0 [.int .i64 x] = rep 1 (n - 1) x) := Lib.hid (by
      have := rep_splice 0 n 1 x
      simpa using this)
    go_enter Try.func35, Try.ntmps35
    go_wp2_with fail
    refine (HM.out _).mono ?_
    rintro e w' ⟨rfl, rfl⟩
    go_wp2_with (refine wpList_copy_splice rfl (.tmp 31) (.tmp 32) 22 22 rfl 3 Try.underlying22 info_rep _ _ _ _ _ _ rfl rfl w.heap.size 0 (rep 0 n x) 3 hW.out [.int .i64 x] hs1.out (fun _ => ⟨rfl, _, rfl, hcs.out⟩) hfit.out h1c.out w.heap.size w hB1.out (Nat.le_refl _) ?_; intro w2 hg2 hb2; have HG2 := hg2; have HB2 := Lib.hid hb2; clear hg2 hb2)
    go_loopw [8] (fun i wr => ∃ k : Nat, 1 ≤ k ∧ k ≤ n ∧ i = .int .i64 k ∧ Hid (wr.heap[w.heap.size]? = some (.cells (rep k (n - k) x).toArray 3 (0, 0))) ∧ Hid (Below w.heap.size w wr)) (fun i _ => n - (intOf i).toNat)
    case atStart =>
      refine ⟨1, by omega, by omega, rfl, Lib.hid ?_, HB2⟩
      have := HG2.out
      rwa [hsp.out] at this
    case round =>
      obtain ⟨k, hk1, hk, rfl, HG, HB3⟩ := hrel
      clear HG2 HB2 hs1 hcs hfit hsp
      by_cases hlt : k < n
      · obtain ⟨c, hc⟩ : ∃ c, c = Nat.min k (n - k) := ⟨_, rfl⟩
        have hc2 : c ≤ n - k := by rw [hc]; exact Nat.min_le_right _ _
        have hc3 : c ≤ k := by rw [hc]; exact Nat.min_le_left _ _
        have hc4 : 1 ≤ c := by rw [hc]; exact Nat.le_min.2 ⟨by omega, by omega⟩
        obtain ⟨cs, hcs⟩ : ∃ cs, cs = List.replicate c (Value.int .i64 x) := ⟨_, rfl⟩
        have hcl : cs.length = c := by rw [hcs]; simp
        have s1 : Hid (cs.length = Nat.min k (n - k)) := Lib.hid (by rw [hcl, hc])
        have hcell : ∀ j, j < k → wr.cell? ⟨w.heap.size, j, none⟩ = some (.int .i64 x) := fun j hj => by
          have hb : Blk wr w.heap.size 3 (rep k (n - k) x).toArray := HG.out
          rw [hb.cell j, List.getElem?_toArray]
          exact rep_at k _ x j hj
        have s2 : Hid (∀ j v, cs[j]? = some v → wr.drew.cell? ((⟨w.heap.size, 0, none⟩ : Addr).add j) = some v) := fun j v hj => by
          have hjl : j < c := by rw [← hcl]; exact (List.getElem?_eq_some_iff.1 hj).1
          rw [hcs, List.getElem?_replicate, if_pos hjl] at hj
          rw [Addr.add_lit, Nat.zero_add]
          exact (hcell j (by omega)).trans hj
        have s3 : Hid (k + cs.length ≤ (rep k (n - k) x).length) := Lib.hid (by rw [rep_len, hcl]; omega)
        have s4 : Hid (∀ v ∈ cs, v.oneCell' = true) := by
          intro v hv
          rw [hcs] at hv
          rw [List.eq_of_mem_replicate hv]; rfl
        have s5 : Hid (splice (rep k (n - k) x) k cs = rep (k + c) (n - k - c) x) := Lib.hid (by rw [hcs]; exact rep_splice k (n - k) c x)
        have s6 : Hid (Below w.heap.size w wr.drew) := Lib.hid HB3.out.drew
        have s7 : Hid (wr.drew.heap[w.heap.size]? = some (.cells (rep k (n - k) x).toArray 3 (0, 0))) := HG.out
        have hnk : ¬ n = k := by omega
        have hwr : IntKind.i64.wrap ((k : Int) + (c : Int)) = (k : Int) + (c : Int) := IntWalk.i64_in _ (by omega)
        have HCL := Lib.hid hcl
        clear hc hcs hcell hcl
        go_wp2_with fail
        go_region_law (refine step_copy_splice rfl (.tmp 41) (.tmp 44) 22 22 rfl 3 Try.underlying22 info_rep (some ⟨w.heap.size, k, none⟩) (some ⟨w.heap.size, 0, none⟩) (n - k) (n - k) k n (by simp [Act.eval, Act.put]) (by simp [Act.eval, Act.put]) w.heap.size k (rep k (n - k) x) 3 s7.out cs s1.out (fun _ => ⟨rfl, _, rfl, s2.out⟩) s3.out s4.out w.heap.size w s6.out (Nat.le_refl _) ?_; intro w4 hg4 hb4; rw [HCL.out]; have HG4 := hg4; have HB4 := Lib.hid hb4; clear hg4 hb4)
        go_simp
        go_wp2_with fail
        go_roundw
        case rel =>
          refine ⟨k + c, by omega, by omega, by go_num, Lib.hid ?_, HB4⟩
          have := HG4.out
          rw [s5.out] at this
          rwa [show n - (k + c) = n - k - c by omega]
        case measure => simp [intOf]; omega
      · obtain rfl : k = n := by omega
        go_wp2_with fail
        go_ret
        refine ⟨rfl, ?_, HB3.out⟩
        have := HG.out
        rwa [Nat.sub_self] at this
end Go.Proofs.Ytdfjbgfdaokjgaa

/-
  The reference's Copy: what its loops keep.
-/
import Derived.Test.YtdfjbgfdaokjgaaRLoop
import Derived.Deep.CutBlock
namespace Go.Proofs.Ytdfjbgfdaokjgaa
open Go.RowKit

abbrev Ls : List Nat := [3, 6, 7, 8, 9, 10, 11, 12, 13, 14, 15, 16, 17, 18]
def CInv (w0 : World) (B1 : Nat) (y : RLy) (s : SM) (a0 : Act) (l : Array Bool) (a : Act) (w : World) : Prop := Fr Ls a0 a ∧ CI w0 B1 y s (flags l) (evals a) w
section
variable {w0 w w' : World} {B1 : Nat} {y : RLy} {s : SM} {a0 a : Act} {l : Array Bool}
theorem CInv.step (h : CInv w0 B1 y s a0 l a w) (hl : l.size = 15) (h58 : a0.tmps.size = 58) {i d : Nat} (hi : i < 15) (hd : d ∈ Ls) {v : Value} (hn : CI w0 B1 y s (up (flags l) i true) (up (evals a) d v) w') :
    CInv w0 B1 y s a0 (l.setIfInBounds i true) (a.put (some d) v) w' := by
  have hd58 : d < 58 := by simp at hd; omega
  refine ⟨h.1.put hd v, ?_⟩
  rw [flags_set (by omega), evals_put (by rw [h.1.size, h58]; exact hd58)]
  exact hn
theorem ready_of {ops : Array Oper} {i : Nat} {o : Oper} (hi : i ∈ Region.ready .any ops l) (ho : ops[i]? = some o) (hsz : l.size = ops.size) : flags l i = false ∧ ∀ e ∈ o.after, Region.binds .any e = true → flags l e.on = true := by
  obtain ⟨h1, o', h2, h3⟩ := mem_ready.1 hi
  rw [ho] at h2
  obtain rfl := Option.some.inj h2
  have hlt : i < l.size := by rw [hsz]; exact (Array.getElem?_eq_some_iff.1 ho).1
  refine ⟨?_, h3⟩
  simpa [flags, Array.getD, hlt] using h1
theorem flags_none (n j : Nat) : flags (Array.replicate n false) j = false := by
  unfold flags
  rw [Array.getD_eq_getD_getElem?, Array.getElem?_replicate]
  split <;> rfl
theorem CI.start (hf : ∀ j, flags l j = false) (h1 : a0.eval (.tmp 1) = .pointer (some ⟨B1, 0, none⟩)) : CI w0 B1 y s (flags l) (evals a0) w0.drew := by
  have hrow : Rows w0.drew w0.heap.size [⟨3, 1, nilV, 0, []⟩, ⟨3, 1, nilV, 0, []⟩, ⟨3, 1, nilV, 0, []⟩] := by
    refine (((Rows.nil _ _).cons (World.ownsRow_nil _ _ _ _) (fun b hb => by cases hb)).cons (World.ownsRow_nil _ _ _ _) (fun b hb => by cases hb)).cons (World.ownsRow_nil _ _ _ _) (fun b hb => by cases hb)
  exact { low := (Below.refl _ _).drew, t1 := h1, t6 := fun h => no_flag (hf _) h, t7 := fun h => no_flag (hf _) h, t8 := fun h => no_flag (hf _) h, p3 := fun h => no_flag (hf _) h, t10 := fun h => no_flag (hf _) h, t11 := fun h => no_flag (hf _) h, t12 := fun h => no_flag (hf _) h, p7 := fun h => no_flag (hf _) h, t14 := fun h => no_flag (hf _) h, t15 := fun h => no_flag (hf _) h, t16 := fun h => no_flag (hf _) h, p11 := fun h => no_flag (hf _) h, p12 := fun h => no_flag (hf _) h, t18 := fun h => no_flag (hf _) h, p14 := fun h => no_flag (hf _) h, rows := by simpa only [RW, rowK, hf, cond_false] using hrow, t3 := fun h => no_flag (hf _) h }
/-- What the first statement has made: a box with three rows of its own. -/
def CopyA (w0 : World) (s : SM) (r : Value) (w : World) : Prop := Below w0.heap.size w0 w ∧ ∃ g v1 v2 v3, r = .pointer (some ⟨g, 0, none⟩) ∧ w0.heap.size ≤ g ∧ Blk w g 33 (aggK v1 v2 v3) ∧
  Rows w w0.heap.size [rowK true true v1 v1 s.owners, rowK true true v2 v2 (s.chans.map (·.room)), rowK true true v3 v3 (s.chans.map (fun c => (c.taken : Int)))] ∧
  ¬ Fp [rowK true true v1 v1 s.owners, rowK true true v2 v2 (s.chans.map (·.room)), rowK true true v3 v3 (s.chans.map (fun c => (c.taken : Int)))] g
theorem CI.fin {f : Nat → Bool} {e : Nat → Value} (h : CI w0 B1 y s f e w) (hf : ∀ j, j < 15 → f j = true) : CopyA w0 s (e 3) w := by
  obtain ⟨g, h1, h2, h3, h4⟩ := h.t3 (hf 13 (by omega))
  have hrw : RW s f e = [rowK true true (e 9) (e 9) s.owners, rowK true true (e 13) (e 13) (s.chans.map (·.room)), rowK true true (e 17) (e 17) (s.chans.map (fun c => (c.taken : Int)))] := by
    simp [RW, rowK, hf]
  rw [hf 14 (by omega)] at h4
  rw [hrw] at h3
  exact ⟨h.low, g, e 9, e 13, e 17, h1, h2, h4, hrw ▸ h.rows, h3⟩
def topoB (ops : Array Oper) : Bool := (List.range ops.size).all fun j => match ops[j]? with
  | some o => o.after.all fun e => decide (e.on < j)
  | none => true
theorem topo_of {ops : Array Oper} (h : topoB ops = true) : Topo ops := by
  intro j o ho e he _
  have hj : j < ops.size := (Array.getElem?_eq_some_iff.1 ho).1
  have h1 := List.all_eq_true.1 h j (List.mem_range.2 hj)
  rw [ho] at h1
  have h2 := Array.all_eq_true_iff_forall_mem.1 h1 e he
  exact of_decide_eq_true h2
end
theorem get_of {a : Act} {t : Nat} {v : Value} (h : a.eval (.tmp t) = v) : a.tmps[t]?.getD undef = v := by rw [← h]; simp [Act.eval, Array.getD_eq_getD_getElem?]
theorem infoS64 : (Try.prog.info? 47).map (fun i => (i.zero, i.size, i.bytes)) = some (some (.slice none 0 0), 1, 24) := by kernel_rfl
theorem infoS : (Try.prog.info? 22).map (fun i => (i.zero, i.size, i.bytes)) = some (some (.slice none 0 0), 1, 24) := by kernel_rfl
theorem append_box {TS TSS : TypeId} (hTSS : Try.prog.underlying TSS = some (.slice TS)) (hTS : (Try.prog.info? TS).map (fun i => (i.zero, i.size, i.bytes)) = some (some (.slice none 0 0), 1, 24))
    {ops : Array Oper} {Q : Exit → Act → World → Prop} {i : Nat} {o : Oper} {K : Act → World → Prop} {a : Act} {w : World} {s x : Operand} {base b k : Nat} {vC u : Value} {cv : List Value} (hi : ops[i]? = some o) (hgd : o.guard = none)
    (ho : o.op = .call { callee := .builtin .append, args := #[s, x], argTypes := #[TSS, TSS] }) (hs : a.eval s = vC) (hrow : w.ownsRow base TS 1 vC k cv)
    (hx : a.eval x = .slice (some ⟨b, 0, none⟩) 1 1) (hb : Blk w b TS #[u]) (hu : u.oneCell' = true) (hk : k ≤ 1000) (hbase : base ≤ w.heap.size)
    (hK : ∀ v' w', w'.ownsRow base TS 1 v' (k + 1) (cv ++ [u]) → (∀ b, b < w.heap.size → vC.ownBlock ≠ some b → w'.heap[b]? = w.heap[b]?) → (∀ b, v'.ownBlock = some b → vC.ownBlock = some b ∨ w.heap.size ≤ b) → Below base w w' → K (a.put o.dst v') w') :
    wpOp Try.prog ops Q i K a w := by
  obtain ⟨i0, hif, hz0, hz1, hz2⟩ := info_parts hTS
  unfold wpOp
  rw [hi]
  simp only [Region.wanted, hgd, if_true]
  refine .inl ?_
  refine wp_append_lies w s x TSS ho base TS i0 _ 1 24 hTSS hif hz0 hz1 hz2 rfl (by decide) vC k cv hs hrow ⟨b, 0, none⟩ 1 1 [u] hx (by simp) (one_cell w b _ u hb) (by intro v hv; simp at hv; subst hv; exact hu) (by decide) (by unfold maxLen; omega) (by omega) hbase w.heap.size rfl ?_
  intro g3 cap w1 k1 k2 k3 k4
  refine hK _ w1 k1 (fun b hb hne => k2.block b hb (fun e => hne e.symm)) (fun b hb => ?_) ?_
  · obtain rfl : g3 = b := by simpa [Value.ownBlock] using hb
    rcases k3 with k3 | k3
    · exact .inl k3
    · exact .inr (by omega)
  · exact (Below.refl _ _).grown k2 hbase (fun j hj => (hrow.lt j hj).1)
/-- The slots of a round. -/
def Lw (b : Nat) : List Nat := [b, b + 1, b + 2, b + 3, b + 4, b + 5, b + 6, b + 7, b + 8, b + 9, b + 10, b + 11]
def sh (b : Nat) (e : Nat → Value) : Nat → Value := fun j => e (b + j)
theorem sh_up (b j : Nat) (e : Nat → Value) (v : Value) : sh b (up e (b + j) v) = up (sh b e) j v := by
  funext i
  unfold sh up
  by_cases h : i = j
  · subst h; simp
  · rw [if_neg (by omega), if_neg h]
def LInv (r : Rnd) (b : Nat) (a0 : Act) (l : Array Bool) (a : Act) (w : World) : Prop := Fr (Lw b) a0 a ∧ LI r (flags l) (sh b (evals a)) w
theorem LInv.step {r : Rnd} {b : Nat} {a0 a : Act} {l : Array Bool} {w w' : World} (h : LInv r b a0 l a w) (hl : l.size = 13) (hb : b + 12 ≤ a0.tmps.size) {i : Nat} (hi : i < 13) (j : Nat) (hj : j < 12) {v : Value} (hn : LI r (up (flags l) i true) (up (sh b (evals a)) j v) w') :
    LInv r b a0 (l.setIfInBounds i true) (a.put (some (b + j)) v) w' := by
  refine ⟨h.1.put (by unfold Lw; simp; omega) v, ?_⟩
  rw [flags_set (by omega), evals_put (by rw [h.1.size]; omega), sh_up]
  exact hn

def crows (T : TypeId) (cv : List Value) (ls : List (List Int)) (l : List Rw) : List Rw := (List.zipWith (fun v (z : List Int) => (⟨T, 1, v, z.length, z.map (Value.int .i64)⟩ : Rw)) cv ls).reverse ++ l
theorem crows_snoc {T : TypeId} {cv : List Value} {ls : List (List Int)} (h : cv.length = ls.length) (v : Value) (z : List Int) (l : List Rw) : crows T (cv ++ [v]) (ls ++ [z]) l = ⟨T, 1, v, z.length, z.map (Value.int .i64)⟩ :: crows T cv ls l := by
  unfold crows
  rw [List.zipWith_append h]
  simp
/-- What the first loop has made behind k rounds. -/
structure L1 (T TS : TypeId) (W : World) (base g k : Nat) (ls : List (List Int)) (l : List Rw) (hd : Value → Array Value) (w : World) (vC : Value) (cv : List Value) : Prop where
  low : Below W.heap.size W w
  hb : W.heap.size ≤ base ∧ base ≤ w.heap.size
  len : cv.length = k
  rows : Rows w base (⟨TS, 1, vC, k, cv⟩ :: crows T cv (ls.take k) l)
  box : Blk w g 33 (hd vC)
  gout : ¬ Fp (⟨TS, 1, vC, k, cv⟩ :: crows T cv (ls.take k) l) g
  gbase : base ≤ g
theorem Fp.cons2 {x y : Rw} {l : List Rw} {b : Nat} (hy : y.v.ownBlock = none) (h : Fp (x :: y :: l) b) : Fp (x :: l) b := by
  obtain ⟨i, r, hr, hb⟩ := h
  match i with
  | 0 => exact ⟨0, r, hr, hb⟩
  | 1 =>
    obtain rfl : y = r := by simpa using hr
    rw [hy] at hb; cases hb
  | i + 2 => exact ⟨i + 1, r, by simpa using hr, hb⟩
theorem Rows.nil2 {w : World} {base : Nat} {x : Rw} {l : List Rw} (h : Rows w base (x :: l)) (T : TypeId) : Rows w base (x :: ⟨T, 1, nilV, 0, []⟩ :: l) := by
  have h1 : Rows w base l := ⟨fun i r hr => h.own (i + 1) r (by simpa using hr), fun i j r s hr hs hij b hb => h.apart (i + 1) (j + 1) r s (by simpa using hr) (by simpa using hs) (by omega) b hb⟩
  refine (h1.cons (World.ownsRow_nil _ _ _ _) (fun b hb => by cases hb)).cons (h.own 0 x rfl) (fun b hb hf => ?_)
  rcases hf.cons with hf | ⟨i, s, hs, hsb⟩
  · cases hf
  · exact h.apart 0 (i + 1) x s rfl (by simpa using hs) (by omega) b hb hsb
def rnd1 (T TS : TypeId) (fld : Nat) (W : World) (base g B1 G off n cc k : Nat) (vC : Value) (cv : List Value) (z : List Int) (q : Option Addr) (c : Nat) (l : List Rw) (hd : Value → Array Value) : Rnd :=
  { T, TS, W, base, g, fld, B1, G, off, n, cc, vC, k, cv, l := z, q, c, others := l, hd }
theorem L1.begin {T TS : TypeId} {fld : Nat} {W w : World} {base g k B1 G off n cc : Nat} {ls : List (List Int)} {l : List Rw} {hd : Value → Array Value} {vC : Value} {cv : List Value} {f : Nat → Bool} {E : Nat → Value} {z : List Int} {q : Option Addr} {c : Nat}
    (h : L1 T TS W base g k ls l hd w vC cv) (hf : ∀ j, f j = false) : LI (rnd1 T TS fld W base g B1 G off n cc k vC cv z q c (crows T cv (ls.take k) l) hd) f E w.drew := by
  have hrow : RL (rnd1 T TS fld W base g B1 G off n cc k vC cv z q c (crows T cv (ls.take k) l) hd) f E = ⟨TS, 1, vC, k, cv⟩ :: ⟨T, 1, nilV, 0, []⟩ :: crows T cv (ls.take k) l := by
    simp [RL, rowB, rowT, hf, rnd1]
  exact { low := h.low.drew, hb := h.hb, t0 := fun h => no_flag (hf _) h, t1 := fun h => no_flag (hf _) h, t2 := fun h => no_flag (hf _) h, t3 := fun h => no_flag (hf _) h, t4 := fun h => no_flag (hf _) h, t5 := fun h => no_flag (hf _) h, t6 := fun h => no_flag (hf _) h, t7 := fun h => no_flag (hf _) h, p8 := fun h => no_flag (hf _) h, p9 := fun h => no_flag (hf _) h, p10 := fun h => no_flag (hf _) h, p10b := fun h => no_flag (hf _) h, p12 := fun h => no_flag (hf _) h, t9 := fun h => no_flag (hf _) h, t11 := fun h => no_flag (hf _) h, rows := (by rw [hrow]; exact (h.rows.nil2 _).below (n := w.heap.size) (Below.refl _ _).drew (fun b hb => ((h.rows.nil2 _).lt hb).2)), box := (by simp only [hf, cond_false]; exact h.box), gout := (by rw [hrow]; exact fun hx => h.gout (Fp.cons2 rfl hx)), gbase := h.gbase }
theorem L1.next {T TS : TypeId} {fld : Nat} {W w : World} {base g k B1 G off n cc : Nat} {ls : List (List Int)} {l : List Rw} {hd : Value → Array Value} {vC : Value} {cv : List Value} {f : Nat → Bool} {E : Nat → Value} {z : List Int} {q : Option Addr} {c : Nat}
    (h : LI (rnd1 T TS fld W base g B1 G off n cc k vC cv z q c (crows T cv (ls.take k) l) hd) f E w) (hf : ∀ j, j < 13 → f j = true) (hlen : cv.length = k) (hz : ls[k]? = some z) : L1 T TS W base g (k + 1) ls l hd w (E 10) (cv ++ [E 8]) := by
  have hk : k < ls.length := (List.getElem?_eq_some_iff.1 hz).1
  have htake : ls.take (k + 1) = ls.take k ++ [z] := by rw [List.take_add_one, hz]; rfl
  have hrow : RL (rnd1 T TS fld W base g B1 G off n cc k vC cv z q c (crows T cv (ls.take k) l) hd) f E = ⟨TS, 1, E 10, k + 1, cv ++ [E 8]⟩ :: crows T (cv ++ [E 8]) (ls.take (k + 1)) l := by
    rw [htake, crows_snoc (by simp; omega)]
    simp [RL, rowB, rowT, hf, rnd1]
  have hbox := h.box
  rw [hf 12 (by omega)] at hbox
  exact ⟨h.low, h.hb, by simp [hlen], hrow ▸ h.rows, hbox, hrow ▸ h.gout, h.gbase⟩
end Go.Proofs.Ytdfjbgfdaokjgaa

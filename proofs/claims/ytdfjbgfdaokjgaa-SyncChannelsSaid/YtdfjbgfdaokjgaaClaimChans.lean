/-
  For every room, values and numbers of takes the law 'SyncChannels' answers true. Nothing is asked of the input.
-/
import Derived.Test.YtdfjbgfdaokjgaaLawChans
import Derived.Test.YtdfjbgfdaokjgaaRows
import Derived.ProofKit
import Derived.Carry
import Derived.Stop.LaidErr
import Derived.LaidLaws
import Derived.Deep.DeepHandedRow
import Derived.JoinedOf
namespace Go.Proofs.Ytdfjbgfdaokjgaa.syncChannels
open Go.ChangeShapes Go.WideShapes Go.ChangeAt Go.RowKit Go.Proofs.Ytdfjbgfdaokjgaa
open Go.Proofs.Ytdfjbgfdaokjgaa

theorem own : ownKnob Try.prog.godebug = none := by kernel_rfl
theorem laidOut : laidOutB Try.prog = true := by kernel_rfl
theorem recs1 : Try.prog.readableRec 47 = true := by kernel_rfl
theorem rows1 : decide (47 < Try.prog.types.size) = true := by kernel_rfl
theorem recs2 : Try.prog.readableRec 22 = true := by kernel_rfl
theorem rows2 : decide (22 < Try.prog.types.size) = true := by kernel_rfl
theorem int64_cell : Try.prog.cellsOf 2 = 1 := by kernel_rfl

set_option maxRecDepth 100000 in
set_option maxHeartbeats 4000000 in
/-- Out of what is played, the law only shows that all works. -/
theorem law_out (room : Int) (o1 o2 : Option Addr) (n1 p1 n2 p2 : Nat) (hr : room < 1 ∨ 16 < room ∨ 100 < n1) (W : World) :
    Calls Try.prog 6 #[.int .i64 room, .slice o1 n1 p1, .slice o2 n2 p2] W fun e w' => e = .returned (.bool true) ∧ Below W.heap.size W w' := by
  have HWK := Lib.hid (fun w => works_any w)
  go_enter Try.func6, Try.ntmps6
  by_cases h1 : room < 1
  · clear hr
    go_wp2_with fail
    refine (HWK.out _).mono ?_
    rintro e w' ⟨rfl, hb⟩
    go_wp2_with fail
    go_ret
    exact ⟨rfl, hb⟩
  by_cases h2 : (16 : Int) < room
  · clear hr
    go_wp2_with fail
    refine (HWK.out _).mono ?_
    rintro e w' ⟨rfl, hb⟩
    go_wp2_with fail
    go_ret
    exact ⟨rfl, hb⟩
  have h3 : (100 : Int) < n1 := by omega
  clear hr
  go_wp2_with fail
  refine (HWK.out _).mono ?_
  rintro e w' ⟨rfl, hb⟩
  go_wp2_with fail
  go_ret
  exact ⟨rfl, hb⟩

theorem law_any (room : Int) (o1 o2 : Option Addr) (p1 p2 : Nat) (l ts : List Int) (W : World) (ha : IntsAt W o1 l) (hb : IntsAt W o2 ts) :
    Calls Try.prog 6 #[.int .i64 room, .slice o1 l.length p1, .slice o2 ts.length p2] W fun e w' => e = .returned (.bool true) ∧ Below W.heap.size W w' := by
  by_cases h : room < 1 ∨ 16 < room ∨ 100 < l.length
  · exact law_out room o1 o2 _ p1 _ p2 h W
  · exact lawChans_in room o1 o2 p1 p2 l ts (by omega) (by omega) (by omega) W ha hb
set_option maxRecDepth 100000 in
theorem open_row {H : Type} {enc : TypeId × Value → H} {W : World} {t e : TypeId} {b0 : Nat} {v : Value} {d : DataW H} {ps : List MemPlace} (ht : Try.prog.underlying t = some (.slice e)) (he : Try.prog.underlying e = some (.int .i64)) (hc : Try.prog.cellsOf e = 1)
    (hval : Value.okWide Try.prog W .any b0 t v) (h : DataW.Trod enc Try.prog W 0 (fun _ => true) true t v d ps) : ∃ (o : Option Addr) (zs : List Int) (cp : Nat), v = .slice o zs.length cp ∧ IntsAt W o zs := by
  obtain ⟨a, len, cap, rfl⟩ := okWide_slice ht hval
  obtain ⟨fuel, hf⟩ := h
  obtain ⟨o, zs, cp, hv, hi⟩ := ints_arg ht he hc hf
  have e' : [Value.slice a len cap] = [Value.slice o zs.length cp] := hv
  injection e' with e' _
  exact ⟨o, zs, cp, e', hi⟩

set_option maxRecDepth 100000 in
theorem contract (H : Type) (enc : TypeId × Value → H) (W : World) (base : Nat) (args : Array Value) (ds gs : List (DataW H)) (before : List MemPlace)
    (hval : ∀ (j : Nat) t v, Try.f6.params[j]? = some t → args[j]? = some v → Value.okWide Try.prog W .any base t v)
    (hW : DataW.Whole enc Try.prog Try.f6.params.toList Rows.syncChannelsSpec.vars false W args.toList ds gs before) :
    Calls Try.prog 6 args W fun e W' => ∃ v, e = .returned v ∧ Rows.syncChannelsSpec.post enc Try.prog Try.f6 false true false false W args v W' := by
  have hW' := hW
  obtain ⟨p, q, hA0, hV, rfl, hfz, hnd⟩ := hW
  have hA : DataW.TrodAll enc Try.prog W 0 (fun _ => true) true Try.f6.params.toList args.toList ds p := hA0
  rw [Try.params6] at hA hval
  obtain ⟨v0, v1, v2, d0, d1, d2, p0, p1, p2, rfl, rfl, rfl, h0, h1, h2⟩ := trodAll_three hA
  obtain ⟨rfl, rfl⟩ := trodVars_none hV
  obtain ⟨room, rfl, rfl, rfl, hk⟩ := open_int Try.underlying3 (hval 0 3 v0 rfl rfl) h0
  obtain ⟨o1, l, c1, rfl, ha⟩ := open_row Try.underlying47 Try.underlying2 int64_cell (hval 1 47 v1 rfl rfl) h1
  obtain ⟨o2, ts, c2, rfl, hb2⟩ := open_row Try.underlying22 Try.underlying3 int_cells (hval 2 22 v2 rfl rfl) h2
  clear hA0
  have hlt : ∀ x ∈ p1 ++ p2, x.block < W.heap.size := fun x hx => hW'.lt x (by simpa using hx)
  refine (law_any room o1 o2 c1 c2 l ts W ha hb2).mono fun e W' ⟨he, hb⟩ => ?_
  subst he
  refine ⟨_, rfl, _, _, _, [], [] ++ (p1 ++ p2), [], hW', ?_, ?_, rfl, hb.frame _, fun h => by cases h⟩
  · exact trodAll_mk1 (shut_bool Try.underlying4 _)
  · exact trodAll_mk3 (shut_int Try.underlying3 hk) (Below.trod laidOut recs1 (of_decide_eq_true rows1) h1 hb (fun x hx => hlt x (List.mem_append_left _ hx))) (Below.trod laidOut recs2 (of_decide_eq_true rows2) h2 hb (fun x hx => hlt x (List.mem_append_right _ hx)))

theorem reads (os : Os) {H : Type} (enc : TypeId × Value → H) : ∃ places, DataW.whole enc Try.prog ((World.holding Try.prog os ⟨#[], #[], []⟩).forCall (fun _ _ => 0) ⟨#[], #[.int .i64 0, .slice none 0 0, .slice none 0 0], []⟩).memory Try.f6.params.toList Rows.syncChannelsSpec.vars false #[Value.int .i64 0, Value.slice none 0 0, Value.slice none 0 0].toList 8 = some ([.lit (.int .i64 0), .nil, .nil], [], places) :=
  ⟨[], by kernel_rfl⟩

theorem laid_met (os : Os) (args : Array Value) : laidMet Try.prog [] ((World.holding Try.prog os ⟨#[], #[], []⟩).forCall (fun _ _ => 0) ⟨#[], args, []⟩).memory :=
  laidMet_of_run' 8 (by kernel_rfl) (by kernel_rfl)

set_option maxRecDepth 100000 in
theorem lifted (os : Os) (started : os.Started) (H : Type) (enc : TypeId × Value → H) (F : Stop.Interp) :
    ReturnsInHanded {} Try.checked os 6 .any ((OpenSpec.ofChange Rows.syncChannelsSpec).preRow enc Try.prog Try.f6 Rows.syncChannelsRow.domain false Rows.syncChannelsRow.laid) (((OpenSpec.ofChange Rows.syncChannelsSpec).at F).post enc Try.prog Try.f6 false true false false) := by
  obtain ⟨places, hx⟩ := reads os enc
  refine returnsInHanded_of_row (C := Try.checked) (s := OpenSpec.ofChange Rows.syncChannelsSpec) own started (by kernel_rfl) Try.func6
    (witness_row_at (enc := enc) (C := Try.checked) false (World.holding Try.prog os ⟨#[], #[], []⟩) #[.int .i64 0, .slice none 0 0, .slice none 0 0] rfl (by kernel_rfl) (by kernel_rfl) (by kernel_rfl)
      (OpenSpec.preRow_of_cond 8 hx (by kernel_rfl) (fun k hk => by cases hk) (by kernel_rfl) (laid_met os _))) ?_
  intro W base args ds gs before hval hW _ _ hsz hL _ _
  exact contract H enc W base args ds gs before hval hW

theorem said : Rows.SyncChannelsSaid :=
  OpenClaim.holds_of_cond 6 Try.f6 rfl rfl rfl rfl rfl rfl rfl ⟨rfl, rfl, rfl, rfl, rfl⟩ rfl rfl rfl rfl rfl (by kernel_rfl) Try.func6 (by kernel_rfl)
    (of_decide_eq_true (by kernel_rfl)) (by unfold Func.isWrapper; first | (rw [if_pos (by decide +kernel)]; kernel_rfl) | (rw [if_neg (by decide +kernel)]; exact ⟨rfl, rfl⟩))
    (fun os started H enc _ F => by rw [OpenClaim.pre_eq_preRow]; exact lifted os started H enc F)
end Go.Proofs.Ytdfjbgfdaokjgaa.syncChannels

/-
  No cell of these rows narrows 'for every input' (looked for: loops, veiled, ifaces, maps, wideKeys, modest, calm, conditions, laid).
  DERIVED. THE GIVEN ROWS OF THIS SEAT. 8 by the template 'for every input the law returns true; each argument reads behind the call as it read before'; 0 by the template 'total and deterministic' (their statements: YtdfjbgfdaokjgaaTotals.lean).
  GIVEN WITH THE SEED: the statements are not yours to turn. If you find one false, say at which input.
  Laid BY PROGRAM, IN A SANDBOX (cutbox-rows.mjs): the forced cells as the released guide's own fill.sh prints them over the translation 5e841a5d4b4d7f0f… (all of the seat's roots in one cut). By AI agents, Wed Nov 11 2026. No macro, syntax, notation, axiom, sorry.
-/
import Derived.Test.YtdfjbgfdaokjgaaChecked
import GoSem.Claim
import GoSem.ClaimJoined
import GoSem.ClaimMapViews
import Derived.JoinedTies
import Derived.KernelRfl
namespace Go.Proofs.Ytdfjbgfdaokjgaa
/- THE CELL 'sum', in the pinned program and in every row, IS THE sha256 OF THE DUMP (.gsa) THAT YtdfjbgfdaokjgaaProg.lean LOADS. Nothing in Lean hashes anything: it is a label: what it is worth is what the hold of that sum in a sandbox is worth. -/
noncomputable def Try.pinned : Pinned := { name := "ytdfjbgfdaokjgaa", sum := "5e841a5d4b4d7f0f7cb20836a7efb3ec1d9f6cb8302d8ca4516430345730dfad", checked := Try.checked }
namespace Rows
def none {H : Type} : Left H := { results := [], args := [] }

/-- 'warplaw04.SyncMakes': WHATEVER THE INPUT: true; the input reads as it did. -/
def syncMakesSpec : ChangeSpec := { name := "syncMakes", fn := fun _ => fun
  | [d] => { results := [.lit (.bool true)], args := [d] }
  | _ => none }
def syncMakesRow : OpenClaim := { program := "ytdfjbgfdaokjgaa", sum := "5e841a5d4b4d7f0f7cb20836a7efb3ec1d9f6cb8302d8ca4516430345730dfad", func := "warp/warplaw04.SyncMakes", spec := "syncMakes", unfollowed := true, recurses := true, apart := false }
def SyncMakesSaid : Prop := syncMakesRow.holds Try.pinned (OpenSpec.ofChange syncMakesSpec)

/-- ITS FALSE NEIGHBOUR: 'it returns false'. Refute it at one input. -/
def syncMakesWrong : ChangeSpec := { name := "syncMakes", fn := fun _ => fun
  | [d] => { results := [.lit (.bool false)], args := [d] }
  | _ => none }
def SyncMakesWrongFalsely : Prop := syncMakesRow.holds Try.pinned (OpenSpec.ofChange syncMakesWrong)

/-- 'warplaw04.SyncPlays': WHATEVER THE INPUT: true; the input reads as it did. -/
def syncPlaysSpec : ChangeSpec := { name := "syncPlays", fn := fun _ => fun
  | [d1, d2] => { results := [.lit (.bool true)], args := [d1, d2] }
  | _ => none }
def syncPlaysRow : OpenClaim := { program := "ytdfjbgfdaokjgaa", sum := "5e841a5d4b4d7f0f7cb20836a7efb3ec1d9f6cb8302d8ca4516430345730dfad", func := "warp/warplaw04.SyncPlays", spec := "syncPlays", unfollowed := true, recurses := true, apart := false }
def SyncPlaysSaid : Prop := syncPlaysRow.holds Try.pinned (OpenSpec.ofChange syncPlaysSpec)

/-- ITS FALSE NEIGHBOUR: 'it returns false'. Refute it at one input. -/
def syncPlaysWrong : ChangeSpec := { name := "syncPlays", fn := fun _ => fun
  | [d1, d2] => { results := [.lit (.bool false)], args := [d1, d2] }
  | _ => none }
def SyncPlaysWrongFalsely : Prop := syncPlaysRow.holds Try.pinned (OpenSpec.ofChange syncPlaysWrong)

/-- 'warplaw04.SyncLocks': WHATEVER THE INPUT: true; the input reads as it did. -/
def syncLocksSpec : ChangeSpec := { name := "syncLocks", fn := fun _ => fun
  | [d] => { results := [.lit (.bool true)], args := [d] }
  | _ => none }
def syncLocksRow : OpenClaim := { program := "ytdfjbgfdaokjgaa", sum := "5e841a5d4b4d7f0f7cb20836a7efb3ec1d9f6cb8302d8ca4516430345730dfad", func := "warp/warplaw04.SyncLocks", spec := "syncLocks", unfollowed := true, recurses := true, apart := false }
def SyncLocksSaid : Prop := syncLocksRow.holds Try.pinned (OpenSpec.ofChange syncLocksSpec)

/-- ITS FALSE NEIGHBOUR: 'it returns false'. Refute it at one input. -/
def syncLocksWrong : ChangeSpec := { name := "syncLocks", fn := fun _ => fun
  | [d] => { results := [.lit (.bool false)], args := [d] }
  | _ => none }
def SyncLocksWrongFalsely : Prop := syncLocksRow.holds Try.pinned (OpenSpec.ofChange syncLocksWrong)

/-- 'warplaw04.SyncChannels': WHATEVER THE INPUT: true; the input reads as it did. -/
def syncChannelsSpec : ChangeSpec := { name := "syncChannels", fn := fun _ => fun
  | [d1, d2, d3] => { results := [.lit (.bool true)], args := [d1, d2, d3] }
  | _ => none }
def syncChannelsRow : OpenClaim := { program := "ytdfjbgfdaokjgaa", sum := "5e841a5d4b4d7f0f7cb20836a7efb3ec1d9f6cb8302d8ca4516430345730dfad", func := "warp/warplaw04.SyncChannels", spec := "syncChannels", unfollowed := true, recurses := true, apart := false }
def SyncChannelsSaid : Prop := syncChannelsRow.holds Try.pinned (OpenSpec.ofChange syncChannelsSpec)

/-- ITS FALSE NEIGHBOUR: 'it returns false'. Refute it at one input. -/
def syncChannelsWrong : ChangeSpec := { name := "syncChannels", fn := fun _ => fun
  | [d1, d2, d3] => { results := [.lit (.bool false)], args := [d1, d2, d3] }
  | _ => none }
def SyncChannelsWrongFalsely : Prop := syncChannelsRow.holds Try.pinned (OpenSpec.ofChange syncChannelsWrong)

/-- 'warplaw04.SyncAsks': WHATEVER THE INPUT: true; the input reads as it did. -/
def syncAsksSpec : ChangeSpec := { name := "syncAsks", fn := fun _ => fun
  | [d1, d2, d3] => { results := [.lit (.bool true)], args := [d1, d2, d3] }
  | _ => none }
def syncAsksRow : OpenClaim := { program := "ytdfjbgfdaokjgaa", sum := "5e841a5d4b4d7f0f7cb20836a7efb3ec1d9f6cb8302d8ca4516430345730dfad", func := "warp/warplaw04.SyncAsks", spec := "syncAsks", unfollowed := true, recurses := true, apart := false }
def SyncAsksSaid : Prop := syncAsksRow.holds Try.pinned (OpenSpec.ofChange syncAsksSpec)

/-- ITS FALSE NEIGHBOUR: 'it returns false'. Refute it at one input. -/
def syncAsksWrong : ChangeSpec := { name := "syncAsks", fn := fun _ => fun
  | [d1, d2, d3] => { results := [.lit (.bool false)], args := [d1, d2, d3] }
  | _ => none }
def SyncAsksWrongFalsely : Prop := syncAsksRow.holds Try.pinned (OpenSpec.ofChange syncAsksWrong)

/-- 'warplaw04.SyncCopies': WHATEVER THE INPUT: true; the input reads as it did. -/
def syncCopiesSpec : ChangeSpec := { name := "syncCopies", fn := fun _ => fun
  | [d1, d2, d3] => { results := [.lit (.bool true)], args := [d1, d2, d3] }
  | _ => none }
def syncCopiesRow : OpenClaim := { program := "ytdfjbgfdaokjgaa", sum := "5e841a5d4b4d7f0f7cb20836a7efb3ec1d9f6cb8302d8ca4516430345730dfad", func := "warp/warplaw04.SyncCopies", spec := "syncCopies", unfollowed := true, recurses := true, apart := false }
def SyncCopiesSaid : Prop := syncCopiesRow.holds Try.pinned (OpenSpec.ofChange syncCopiesSpec)

/-- ITS FALSE NEIGHBOUR: 'it returns false'. Refute it at one input. -/
def syncCopiesWrong : ChangeSpec := { name := "syncCopies", fn := fun _ => fun
  | [d1, d2, d3] => { results := [.lit (.bool false)], args := [d1, d2, d3] }
  | _ => none }
def SyncCopiesWrongFalsely : Prop := syncCopiesRow.holds Try.pinned (OpenSpec.ofChange syncCopiesWrong)

/-- 'warplaw04.SyncConds': WHATEVER THE INPUT: true; the input reads as it did. -/
def syncCondsSpec : ChangeSpec := { name := "syncConds", fn := fun _ => fun
  | [d] => { results := [.lit (.bool true)], args := [d] }
  | _ => none }
def syncCondsRow : OpenClaim := { program := "ytdfjbgfdaokjgaa", sum := "5e841a5d4b4d7f0f7cb20836a7efb3ec1d9f6cb8302d8ca4516430345730dfad", func := "warp/warplaw04.SyncConds", spec := "syncConds", unfollowed := true, recurses := true, apart := false }
def SyncCondsSaid : Prop := syncCondsRow.holds Try.pinned (OpenSpec.ofChange syncCondsSpec)

/-- ITS FALSE NEIGHBOUR: 'it returns false'. Refute it at one input. -/
def syncCondsWrong : ChangeSpec := { name := "syncConds", fn := fun _ => fun
  | [d] => { results := [.lit (.bool false)], args := [d] }
  | _ => none }
def SyncCondsWrongFalsely : Prop := syncCondsRow.holds Try.pinned (OpenSpec.ofChange syncCondsWrong)

/-- 'warplaw04.SyncOrder': WHATEVER THE INPUT: true; the input reads as it did. -/
def syncOrderSpec : ChangeSpec := { name := "syncOrder", fn := fun _ => fun
  | [d1, d2] => { results := [.lit (.bool true)], args := [d1, d2] }
  | _ => none }
def syncOrderRow : OpenClaim := { program := "ytdfjbgfdaokjgaa", sum := "5e841a5d4b4d7f0f7cb20836a7efb3ec1d9f6cb8302d8ca4516430345730dfad", func := "warp/warplaw04.SyncOrder", spec := "syncOrder", unfollowed := true, recurses := true, apart := false }
def SyncOrderSaid : Prop := syncOrderRow.holds Try.pinned (OpenSpec.ofChange syncOrderSpec)

/-- ITS FALSE NEIGHBOUR: 'it returns false'. Refute it at one input. -/
def syncOrderWrong : ChangeSpec := { name := "syncOrder", fn := fun _ => fun
  | [d1, d2] => { results := [.lit (.bool false)], args := [d1, d2] }
  | _ => none }
def SyncOrderWrongFalsely : Prop := syncOrderRow.holds Try.pinned (OpenSpec.ofChange syncOrderWrong)

/- THE SECOND FORM. 'bulk': how many values and letters a reading holds, each counted each time it is reached (what is shared counts as often as it is met; a slice's spare places count too). A statement '..UptoSaid' is the law's where the arguments, and the package variables that the reading takes, are together of bulk at most 1048576: NARROWER than '..Said'. Prove '..Said' where nothing that the law and all that it calls make is longer than what came in: it says more and counts as full. Else prove '..UptoSaid'. A law counts once. -/
mutual
def uptoBulk {H : Type} : DataW H → Nat
  | .lit (.string bytes) => bytes.length + 1
  | .lit _ => 1
  | .nil => 1
  | .ptr d => uptoBulk d + 1
  | .slice elems spare => uptoBulkAll elems + uptoBulkAll spare + 1
  | .agg parts => uptoBulkAll parts + 1
  | .iface _ d => uptoBulk d + 1
  | .map entries => uptoBulkEntries entries + 1
  | .held _ => 1
def uptoBulkAll {H : Type} : List (DataW H) → Nat
  | [] => 0
  | d :: r => uptoBulk d + uptoBulkAll r
def uptoBulkEntries {H : Type} : List (Lit × DataW H) → Nat
  | [] => 0
  | x :: r => uptoBulkEntry x + uptoBulkEntries r
def uptoBulkEntry {H : Type} : Lit × DataW H → Nat
  | (.string bytes, d) => bytes.length + uptoBulk d + 1
  | (_, d) => uptoBulk d + 1
 end
def uptoSmall : (H : Type) → List (DataW H) → Bool := fun _ ds => decide (uptoBulkAll ds ≤ 1048576)
def OpenSpec.upto (s : _root_.Go.ChangeSpec) : _root_.Go.OpenSpec := { _root_.Go.OpenSpec.ofChange s with cond := some uptoSmall }

/-- 'warplaw04.SyncMakes', WHERE WHAT IT READS IS OF BULK AT MOST 1048576: true; the input reads as it did. -/
def syncMakesUptoRow : OpenClaim := { program := "ytdfjbgfdaokjgaa", sum := "5e841a5d4b4d7f0f7cb20836a7efb3ec1d9f6cb8302d8ca4516430345730dfad", func := "warp/warplaw04.SyncMakes", spec := "syncMakes", unfollowed := true, recurses := true, apart := false, narrowed := true }
def SyncMakesUptoSaid : Prop := syncMakesUptoRow.holds Try.pinned (OpenSpec.upto syncMakesSpec)

/-- 'warplaw04.SyncPlays', WHERE WHAT IT READS IS OF BULK AT MOST 1048576: true; the input reads as it did. -/
def syncPlaysUptoRow : OpenClaim := { program := "ytdfjbgfdaokjgaa", sum := "5e841a5d4b4d7f0f7cb20836a7efb3ec1d9f6cb8302d8ca4516430345730dfad", func := "warp/warplaw04.SyncPlays", spec := "syncPlays", unfollowed := true, recurses := true, apart := false, narrowed := true }
def SyncPlaysUptoSaid : Prop := syncPlaysUptoRow.holds Try.pinned (OpenSpec.upto syncPlaysSpec)

/-- 'warplaw04.SyncLocks', WHERE WHAT IT READS IS OF BULK AT MOST 1048576: true; the input reads as it did. -/
def syncLocksUptoRow : OpenClaim := { program := "ytdfjbgfdaokjgaa", sum := "5e841a5d4b4d7f0f7cb20836a7efb3ec1d9f6cb8302d8ca4516430345730dfad", func := "warp/warplaw04.SyncLocks", spec := "syncLocks", unfollowed := true, recurses := true, apart := false, narrowed := true }
def SyncLocksUptoSaid : Prop := syncLocksUptoRow.holds Try.pinned (OpenSpec.upto syncLocksSpec)

/-- 'warplaw04.SyncChannels', WHERE WHAT IT READS IS OF BULK AT MOST 1048576: true; the input reads as it did. -/
def syncChannelsUptoRow : OpenClaim := { program := "ytdfjbgfdaokjgaa", sum := "5e841a5d4b4d7f0f7cb20836a7efb3ec1d9f6cb8302d8ca4516430345730dfad", func := "warp/warplaw04.SyncChannels", spec := "syncChannels", unfollowed := true, recurses := true, apart := false, narrowed := true }
def SyncChannelsUptoSaid : Prop := syncChannelsUptoRow.holds Try.pinned (OpenSpec.upto syncChannelsSpec)

/-- 'warplaw04.SyncAsks', WHERE WHAT IT READS IS OF BULK AT MOST 1048576: true; the input reads as it did. -/
def syncAsksUptoRow : OpenClaim := { program := "ytdfjbgfdaokjgaa", sum := "5e841a5d4b4d7f0f7cb20836a7efb3ec1d9f6cb8302d8ca4516430345730dfad", func := "warp/warplaw04.SyncAsks", spec := "syncAsks", unfollowed := true, recurses := true, apart := false, narrowed := true }
def SyncAsksUptoSaid : Prop := syncAsksUptoRow.holds Try.pinned (OpenSpec.upto syncAsksSpec)

/-- 'warplaw04.SyncCopies', WHERE WHAT IT READS IS OF BULK AT MOST 1048576: true; the input reads as it did. -/
def syncCopiesUptoRow : OpenClaim := { program := "ytdfjbgfdaokjgaa", sum := "5e841a5d4b4d7f0f7cb20836a7efb3ec1d9f6cb8302d8ca4516430345730dfad", func := "warp/warplaw04.SyncCopies", spec := "syncCopies", unfollowed := true, recurses := true, apart := false, narrowed := true }
def SyncCopiesUptoSaid : Prop := syncCopiesUptoRow.holds Try.pinned (OpenSpec.upto syncCopiesSpec)

/-- 'warplaw04.SyncConds', WHERE WHAT IT READS IS OF BULK AT MOST 1048576: true; the input reads as it did. -/
def syncCondsUptoRow : OpenClaim := { program := "ytdfjbgfdaokjgaa", sum := "5e841a5d4b4d7f0f7cb20836a7efb3ec1d9f6cb8302d8ca4516430345730dfad", func := "warp/warplaw04.SyncConds", spec := "syncConds", unfollowed := true, recurses := true, apart := false, narrowed := true }
def SyncCondsUptoSaid : Prop := syncCondsUptoRow.holds Try.pinned (OpenSpec.upto syncCondsSpec)

/-- 'warplaw04.SyncOrder', WHERE WHAT IT READS IS OF BULK AT MOST 1048576: true; the input reads as it did. -/
def syncOrderUptoRow : OpenClaim := { program := "ytdfjbgfdaokjgaa", sum := "5e841a5d4b4d7f0f7cb20836a7efb3ec1d9f6cb8302d8ca4516430345730dfad", func := "warp/warplaw04.SyncOrder", spec := "syncOrder", unfollowed := true, recurses := true, apart := false, narrowed := true }
def SyncOrderUptoSaid : Prop := syncOrderUptoRow.holds Try.pinned (OpenSpec.upto syncOrderSpec)

end Rows
end Go.Proofs.Ytdfjbgfdaokjgaa

/-
  No cell of these rows narrows 'for every input' (looked for: loops, veiled, ifaces, maps, wideKeys, modest, calm, conditions, laid).
  DERIVED. THE GIVEN ROWS OF THIS SEAT. 6 by the template 'for every input the law returns true; each argument reads behind the call as it read before'; 0 by the template 'total and deterministic' (their statements: YtihkdffihmhnaaaGreatTotals.lean).
  GIVEN WITH THE SEED: the statements are not yours to turn. If you find one false, say at which input.
  Laid BY PROGRAM, IN A SANDBOX (cutbox-rows.mjs): the forced cells as the released guide's own fill.sh prints them over the translation b886db0852e90db5… (all of the seat's roots in one cut). By AI agents, Wed Nov 11 2026. No macro, syntax, notation, axiom, sorry.
-/
import Derived.Test.YtihkdffihmhnaaaGreatChecked
import GoSem.Claim
import GoSem.ClaimJoined
import GoSem.ClaimMapViews
import Derived.JoinedTies
import Derived.KernelRfl
namespace Go.Proofs.YtihkdffihmhnaaaGreat
/- THE CELL 'sum', in the pinned program and in every row, IS THE sha256 OF THE DUMP (.gsa) THAT YtihkdffihmhnaaaGreatProg.lean LOADS. Nothing in Lean hashes anything: it is a label: what it is worth is what the hold of that sum in a sandbox is worth. -/
noncomputable def Tryz.pinned : Pinned := { name := "ytihkdffihmhnaaagreat", sum := "b886db0852e90db569471ae6892b34a4f667372f401ee89911ed472ebb4c2f82", checked := Tryz.checked }
namespace Rows
def none {H : Type} : Left H := { results := [], args := [] }

/-- 'latticelaw16.RestartAgain': WHATEVER THE INPUT: true; the input reads as it did. -/
def restartAgainSpec : ChangeSpec := { name := "restartAgain", fn := fun _ => fun
  | [d1, d2, d3] => { results := [.lit (.bool true)], args := [d1, d2, d3] }
  | _ => none }
def restartAgainRow : OpenClaim := { program := "ytihkdffihmhnaaagreat", sum := "b886db0852e90db569471ae6892b34a4f667372f401ee89911ed472ebb4c2f82", func := "lattice/latticelaw16.RestartAgain", spec := "restartAgain", inPlace := ["slices.overlaps[string]", "slices.overlaps[int]", "slices.overlaps[lattice/redo.Slot]"], unfollowed := true, recurses := true, apart := false }
def RestartAgainSaid : Prop := restartAgainRow.holds Tryz.pinned (OpenSpec.ofChange restartAgainSpec)

/-- ITS FALSE NEIGHBOUR: 'it returns false'. Refute it at one input. -/
def restartAgainWrong : ChangeSpec := { name := "restartAgain", fn := fun _ => fun
  | [d1, d2, d3] => { results := [.lit (.bool false)], args := [d1, d2, d3] }
  | _ => none }
def RestartAgainWrongFalsely : Prop := restartAgainRow.holds Tryz.pinned (OpenSpec.ofChange restartAgainWrong)

/-- 'latticelaw17.ReplayAny': WHATEVER THE INPUT: true; the input reads as it did. -/
def replayAnySpec : ChangeSpec := { name := "replayAny", fn := fun _ => fun
  | [d1, d2, d3] => { results := [.lit (.bool true)], args := [d1, d2, d3] }
  | _ => none }
def replayAnyRow : OpenClaim := { program := "ytihkdffihmhnaaagreat", sum := "b886db0852e90db569471ae6892b34a4f667372f401ee89911ed472ebb4c2f82", func := "lattice/latticelaw17.ReplayAny", spec := "replayAny", inPlace := ["slices.overlaps[string]", "slices.overlaps[int]", "slices.overlaps[lattice/redo.Slot]"], unfollowed := true, recurses := true, apart := false }
def ReplayAnySaid : Prop := replayAnyRow.holds Tryz.pinned (OpenSpec.ofChange replayAnySpec)

/-- ITS FALSE NEIGHBOUR: 'it returns false'. Refute it at one input. -/
def replayAnyWrong : ChangeSpec := { name := "replayAny", fn := fun _ => fun
  | [d1, d2, d3] => { results := [.lit (.bool false)], args := [d1, d2, d3] }
  | _ => none }
def ReplayAnyWrongFalsely : Prop := replayAnyRow.holds Tryz.pinned (OpenSpec.ofChange replayAnyWrong)

/-- 'latticelaw17.ReplayNil': WHATEVER THE INPUT: true; the input reads as it did. -/
def replayNilSpec : ChangeSpec := { name := "replayNil", fn := fun _ => fun
  | [d] => { results := [.lit (.bool true)], args := [d] }
  | _ => none }
def replayNilRow : OpenClaim := { program := "ytihkdffihmhnaaagreat", sum := "b886db0852e90db569471ae6892b34a4f667372f401ee89911ed472ebb4c2f82", func := "lattice/latticelaw17.ReplayNil", spec := "replayNil", inPlace := ["slices.overlaps[string]", "slices.overlaps[int]", "slices.overlaps[lattice/redo.Slot]"], unfollowed := true, recurses := true, apart := false }
def ReplayNilSaid : Prop := replayNilRow.holds Tryz.pinned (OpenSpec.ofChange replayNilSpec)

/-- ITS FALSE NEIGHBOUR: 'it returns false'. Refute it at one input. -/
def replayNilWrong : ChangeSpec := { name := "replayNil", fn := fun _ => fun
  | [d] => { results := [.lit (.bool false)], args := [d] }
  | _ => none }
def ReplayNilWrongFalsely : Prop := replayNilRow.holds Tryz.pinned (OpenSpec.ofChange replayNilWrong)

/-- 'latticelaw23.RewindPoints': WHATEVER THE INPUT: true; the input reads as it did. -/
def rewindPointsSpec : ChangeSpec := { name := "rewindPoints", fn := fun _ => fun
  | [d1, d2] => { results := [.lit (.bool true)], args := [d1, d2] }
  | _ => none }
def rewindPointsRow : OpenClaim := { program := "ytihkdffihmhnaaagreat", sum := "b886db0852e90db569471ae6892b34a4f667372f401ee89911ed472ebb4c2f82", func := "lattice/latticelaw23.RewindPoints", spec := "rewindPoints", inPlace := ["slices.overlaps[string]", "slices.overlaps[int]", "slices.overlaps[lattice/redo.Slot]"], unfollowed := true, recurses := true, apart := false }
def RewindPointsSaid : Prop := rewindPointsRow.holds Tryz.pinned (OpenSpec.ofChange rewindPointsSpec)

/-- ITS FALSE NEIGHBOUR: 'it returns false'. Refute it at one input. -/
def rewindPointsWrong : ChangeSpec := { name := "rewindPoints", fn := fun _ => fun
  | [d1, d2] => { results := [.lit (.bool false)], args := [d1, d2] }
  | _ => none }
def RewindPointsWrongFalsely : Prop := rewindPointsRow.holds Tryz.pinned (OpenSpec.ofChange rewindPointsWrong)

/-- 'latticelaw23.RewindFork': WHATEVER THE INPUT: true; the input reads as it did. -/
def rewindForkSpec : ChangeSpec := { name := "rewindFork", fn := fun _ => fun
  | [d1, d2, d3] => { results := [.lit (.bool true)], args := [d1, d2, d3] }
  | _ => none }
def rewindForkRow : OpenClaim := { program := "ytihkdffihmhnaaagreat", sum := "b886db0852e90db569471ae6892b34a4f667372f401ee89911ed472ebb4c2f82", func := "lattice/latticelaw23.RewindFork", spec := "rewindFork", inPlace := ["slices.overlaps[string]", "slices.overlaps[int]", "slices.overlaps[lattice/redo.Slot]"], unfollowed := true, recurses := true, apart := false }
def RewindForkSaid : Prop := rewindForkRow.holds Tryz.pinned (OpenSpec.ofChange rewindForkSpec)

/-- ITS FALSE NEIGHBOUR: 'it returns false'. Refute it at one input. -/
def rewindForkWrong : ChangeSpec := { name := "rewindFork", fn := fun _ => fun
  | [d1, d2, d3] => { results := [.lit (.bool false)], args := [d1, d2, d3] }
  | _ => none }
def RewindForkWrongFalsely : Prop := rewindForkRow.holds Tryz.pinned (OpenSpec.ofChange rewindForkWrong)

/-- 'latticelaw23.RewindTwice': WHATEVER THE INPUT: true; the input reads as it did. -/
def rewindTwiceSpec : ChangeSpec := { name := "rewindTwice", fn := fun _ => fun
  | [d1, d2, d3] => { results := [.lit (.bool true)], args := [d1, d2, d3] }
  | _ => none }
def rewindTwiceRow : OpenClaim := { program := "ytihkdffihmhnaaagreat", sum := "b886db0852e90db569471ae6892b34a4f667372f401ee89911ed472ebb4c2f82", func := "lattice/latticelaw23.RewindTwice", spec := "rewindTwice", inPlace := ["slices.overlaps[string]", "slices.overlaps[int]", "slices.overlaps[lattice/redo.Slot]"], unfollowed := true, recurses := true, apart := false }
def RewindTwiceSaid : Prop := rewindTwiceRow.holds Tryz.pinned (OpenSpec.ofChange rewindTwiceSpec)

/-- ITS FALSE NEIGHBOUR: 'it returns false'. Refute it at one input. -/
def rewindTwiceWrong : ChangeSpec := { name := "rewindTwice", fn := fun _ => fun
  | [d1, d2, d3] => { results := [.lit (.bool false)], args := [d1, d2, d3] }
  | _ => none }
def RewindTwiceWrongFalsely : Prop := rewindTwiceRow.holds Tryz.pinned (OpenSpec.ofChange rewindTwiceWrong)

/- THE SECOND FORM. 'bulk': how many values and letters a reading holds, each counted each time it is reached (what is shared counts as often as it is met; a slice's spare places count too). A statement '..UptoSaid' is the law's where the arguments, and the package variables that the reading takes, are together of bulk at most 1048576: NARROWER than '..Said'. Prove '..Said' where nothing that the law and all that it calls make is longer than what came in: it says more and counts as full. Else prove '..UptoSaid'. A law counts once. -/
mutual
def uptoBulk {H : Type} : DataW H → Nat
  | .lit (.string bytes) => bytes.length + 1
  | .lit _ => 1
  | .nil => 1
  | .ptr d => uptoBulk d + 1
  | .slice elems spare => uptoBulkAll elems + uptoBulkAll spare + 1
  | .agg parts => uptoBulkAll parts + 1
  | .iface _ d => uptoBulk d + 1
  | .map entries => uptoBulkEntries entries + 1
  | .held _ => 1
def uptoBulkAll {H : Type} : List (DataW H) → Nat
  | [] => 0
  | d :: r => uptoBulk d + uptoBulkAll r
def uptoBulkEntries {H : Type} : List (Lit × DataW H) → Nat
  | [] => 0
  | x :: r => uptoBulkEntry x + uptoBulkEntries r
def uptoBulkEntry {H : Type} : Lit × DataW H → Nat
  | (.string bytes, d) => bytes.length + uptoBulk d + 1
  | (_, d) => uptoBulk d + 1
 end
def uptoSmall : (H : Type) → List (DataW H) → Bool := fun _ ds => decide (uptoBulkAll ds ≤ 1048576)
def OpenSpec.upto (s : _root_.Go.ChangeSpec) : _root_.Go.OpenSpec := { _root_.Go.OpenSpec.ofChange s with cond := some uptoSmall }

/-- 'latticelaw16.RestartAgain', WHERE WHAT IT READS IS OF BULK AT MOST 1048576: true; the input reads as it did. -/
def restartAgainUptoRow : OpenClaim := { program := "ytihkdffihmhnaaagreat", sum := "b886db0852e90db569471ae6892b34a4f667372f401ee89911ed472ebb4c2f82", func := "lattice/latticelaw16.RestartAgain", spec := "restartAgain", inPlace := ["slices.overlaps[string]", "slices.overlaps[int]", "slices.overlaps[lattice/redo.Slot]"], unfollowed := true, recurses := true, apart := false, narrowed := true }
def RestartAgainUptoSaid : Prop := restartAgainUptoRow.holds Tryz.pinned (OpenSpec.upto restartAgainSpec)

/-- 'latticelaw17.ReplayAny', WHERE WHAT IT READS IS OF BULK AT MOST 1048576: true; the input reads as it did. -/
def replayAnyUptoRow : OpenClaim := { program := "ytihkdffihmhnaaagreat", sum := "b886db0852e90db569471ae6892b34a4f667372f401ee89911ed472ebb4c2f82", func := "lattice/latticelaw17.ReplayAny", spec := "replayAny", inPlace := ["slices.overlaps[string]", "slices.overlaps[int]", "slices.overlaps[lattice/redo.Slot]"], unfollowed := true, recurses := true, apart := false, narrowed := true }
def ReplayAnyUptoSaid : Prop := replayAnyUptoRow.holds Tryz.pinned (OpenSpec.upto replayAnySpec)

/-- 'latticelaw17.ReplayNil', WHERE WHAT IT READS IS OF BULK AT MOST 1048576: true; the input reads as it did. -/
def replayNilUptoRow : OpenClaim := { program := "ytihkdffihmhnaaagreat", sum := "b886db0852e90db569471ae6892b34a4f667372f401ee89911ed472ebb4c2f82", func := "lattice/latticelaw17.ReplayNil", spec := "replayNil", inPlace := ["slices.overlaps[string]", "slices.overlaps[int]", "slices.overlaps[lattice/redo.Slot]"], unfollowed := true, recurses := true, apart := false, narrowed := true }
def ReplayNilUptoSaid : Prop := replayNilUptoRow.holds Tryz.pinned (OpenSpec.upto replayNilSpec)

/-- 'latticelaw23.RewindPoints', WHERE WHAT IT READS IS OF BULK AT MOST 1048576: true; the input reads as it did. -/
def rewindPointsUptoRow : OpenClaim := { program := "ytihkdffihmhnaaagreat", sum := "b886db0852e90db569471ae6892b34a4f667372f401ee89911ed472ebb4c2f82", func := "lattice/latticelaw23.RewindPoints", spec := "rewindPoints", inPlace := ["slices.overlaps[string]", "slices.overlaps[int]", "slices.overlaps[lattice/redo.Slot]"], unfollowed := true, recurses := true, apart := false, narrowed := true }
def RewindPointsUptoSaid : Prop := rewindPointsUptoRow.holds Tryz.pinned (OpenSpec.upto rewindPointsSpec)

/-- 'latticelaw23.RewindFork', WHERE WHAT IT READS IS OF BULK AT MOST 1048576: true; the input reads as it did. -/
def rewindForkUptoRow : OpenClaim := { program := "ytihkdffihmhnaaagreat", sum := "b886db0852e90db569471ae6892b34a4f667372f401ee89911ed472ebb4c2f82", func := "lattice/latticelaw23.RewindFork", spec := "rewindFork", inPlace := ["slices.overlaps[string]", "slices.overlaps[int]", "slices.overlaps[lattice/redo.Slot]"], unfollowed := true, recurses := true, apart := false, narrowed := true }
def RewindForkUptoSaid : Prop := rewindForkUptoRow.holds Tryz.pinned (OpenSpec.upto rewindForkSpec)

/-- 'latticelaw23.RewindTwice', WHERE WHAT IT READS IS OF BULK AT MOST 1048576: true; the input reads as it did. -/
def rewindTwiceUptoRow : OpenClaim := { program := "ytihkdffihmhnaaagreat", sum := "b886db0852e90db569471ae6892b34a4f667372f401ee89911ed472ebb4c2f82", func := "lattice/latticelaw23.RewindTwice", spec := "rewindTwice", inPlace := ["slices.overlaps[string]", "slices.overlaps[int]", "slices.overlaps[lattice/redo.Slot]"], unfollowed := true, recurses := true, apart := false, narrowed := true }
def RewindTwiceUptoSaid : Prop := rewindTwiceUptoRow.holds Tryz.pinned (OpenSpec.upto rewindTwiceSpec)

end Rows
end Go.Proofs.YtihkdffihmhnaaaGreat

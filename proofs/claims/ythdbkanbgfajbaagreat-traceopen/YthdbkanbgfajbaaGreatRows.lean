/-
  No cell of these rows narrows 'for every input' (looked for: loops, veiled, ifaces, maps, wideKeys, modest, calm, conditions, laid).
  DERIVED. THE GIVEN ROWS OF THIS SEAT. 3 by the template 'for every input the law returns true; each argument reads behind the call as it read before'; 0 by the template 'total and deterministic' (their statements: YthdbkanbgfajbaaGreatTotals.lean).
  GIVEN WITH THE SEED: the statements are not yours to turn. If you find one false, say at which input.
  Laid BY PROGRAM, IN A SANDBOX (cutbox-rows.mjs): the forced cells as the released guide's own fill.sh prints them over the translation ae04eea3f1f01117… (all of the seat's roots in one cut). By AI agents, Wed Nov 11 2026. No macro, syntax, notation, axiom, sorry.
-/
import Derived.Test.YthdbkanbgfajbaaGreatChecked
import GoSem.Claim
import GoSem.ClaimJoined
import GoSem.ClaimMapViews
import Derived.JoinedTies
import Derived.KernelRfl
namespace Go.Proofs.YthdbkanbgfajbaaGreat
/- THE CELL 'sum', in the pinned program and in every row, IS THE sha256 OF THE DUMP (.gsa) THAT YthdbkanbgfajbaaGreatProg.lean LOADS. Nothing in Lean hashes anything: it is a label: what it is worth is what the hold of that sum in a sandbox is worth. -/
noncomputable def Tryz.pinned : Pinned := { name := "ythdbkanbgfajbaagreat", sum := "ae04eea3f1f011174115eb4c48aa44a536330009b61045e91351522d72a7aa10", checked := Tryz.checked }
namespace Rows
def none {H : Type} : Left H := { results := [], args := [] }

/-- 'latticelaw26.TraceBegins': WHATEVER THE INPUT: true; the input reads as it did. -/
def traceBeginsSpec : ChangeSpec := { name := "traceBegins", fn := fun _ => fun
  | [d1, d2] => { results := [.lit (.bool true)], args := [d1, d2] }
  | _ => none }
def traceBeginsRow : OpenClaim := { program := "ythdbkanbgfajbaagreat", sum := "ae04eea3f1f011174115eb4c48aa44a536330009b61045e91351522d72a7aa10", func := "lattice/latticelaw26.TraceBegins", spec := "traceBegins", unfollowed := true, recurses := true, apart := false }
def TraceBeginsSaid : Prop := traceBeginsRow.holds Tryz.pinned (OpenSpec.ofChange traceBeginsSpec)

/-- ITS FALSE NEIGHBOUR: 'it returns false'. Refute it at one input. -/
def traceBeginsWrong : ChangeSpec := { name := "traceBegins", fn := fun _ => fun
  | [d1, d2] => { results := [.lit (.bool false)], args := [d1, d2] }
  | _ => none }
def TraceBeginsWrongFalsely : Prop := traceBeginsRow.holds Tryz.pinned (OpenSpec.ofChange traceBeginsWrong)

/-- 'latticelaw26.TraceOnce': WHATEVER THE INPUT: true; the input reads as it did. -/
def traceOnceSpec : ChangeSpec := { name := "traceOnce", fn := fun _ => fun
  | [d] => { results := [.lit (.bool true)], args := [d] }
  | _ => none }
def traceOnceRow : OpenClaim := { program := "ythdbkanbgfajbaagreat", sum := "ae04eea3f1f011174115eb4c48aa44a536330009b61045e91351522d72a7aa10", func := "lattice/latticelaw26.TraceOnce", spec := "traceOnce", unfollowed := true, recurses := true, apart := false }
def TraceOnceSaid : Prop := traceOnceRow.holds Tryz.pinned (OpenSpec.ofChange traceOnceSpec)

/-- ITS FALSE NEIGHBOUR: 'it returns false'. Refute it at one input. -/
def traceOnceWrong : ChangeSpec := { name := "traceOnce", fn := fun _ => fun
  | [d] => { results := [.lit (.bool false)], args := [d] }
  | _ => none }
def TraceOnceWrongFalsely : Prop := traceOnceRow.holds Tryz.pinned (OpenSpec.ofChange traceOnceWrong)

/-- 'latticelaw26.TraceOpen': WHATEVER THE INPUT: true; the input reads as it did. -/
def traceOpenSpec : ChangeSpec := { name := "traceOpen", fn := fun _ => fun
  | [d1, d2] => { results := [.lit (.bool true)], args := [d1, d2] }
  | _ => none }
def traceOpenRow : OpenClaim := { program := "ythdbkanbgfajbaagreat", sum := "ae04eea3f1f011174115eb4c48aa44a536330009b61045e91351522d72a7aa10", func := "lattice/latticelaw26.TraceOpen", spec := "traceOpen", unfollowed := true, recurses := true, apart := false }
def TraceOpenSaid : Prop := traceOpenRow.holds Tryz.pinned (OpenSpec.ofChange traceOpenSpec)

/-- ITS FALSE NEIGHBOUR: 'it returns false'. Refute it at one input. -/
def traceOpenWrong : ChangeSpec := { name := "traceOpen", fn := fun _ => fun
  | [d1, d2] => { results := [.lit (.bool false)], args := [d1, d2] }
  | _ => none }
def TraceOpenWrongFalsely : Prop := traceOpenRow.holds Tryz.pinned (OpenSpec.ofChange traceOpenWrong)

/- THE SECOND FORM. 'bulk': how many values and letters a reading holds, each counted each time it is reached (what is shared counts as often as it is met; a slice's spare places count too). A statement '..UptoSaid' is the law's where the arguments, and the package variables that the reading takes, are together of bulk at most 1048576: NARROWER than '..Said'. Prove '..Said' where nothing that the law and all that it calls make is longer than what came in: it says more and counts as full. Else prove '..UptoSaid'. A law counts once. -/
mutual
def uptoBulk {H : Type} : DataW H → Nat
  | .lit (.string bytes) => bytes.length + 1
  | .lit _ => 1
  | .nil => 1
  | .ptr d => uptoBulk d + 1
  | .slice elems spare => uptoBulkAll elems + uptoBulkAll spare + 1
  | .agg parts => uptoBulkAll parts + 1
  | .iface _ d => uptoBulk d + 1
  | .map entries => uptoBulkEntries entries + 1
  | .held _ => 1
def uptoBulkAll {H : Type} : List (DataW H) → Nat
  | [] => 0
  | d :: r => uptoBulk d + uptoBulkAll r
def uptoBulkEntries {H : Type} : List (Lit × DataW H) → Nat
  | [] => 0
  | x :: r => uptoBulkEntry x + uptoBulkEntries r
def uptoBulkEntry {H : Type} : Lit × DataW H → Nat
  | (.string bytes, d) => bytes.length + uptoBulk d + 1
  | (_, d) => uptoBulk d + 1
 end
def uptoSmall : (H : Type) → List (DataW H) → Bool := fun _ ds => decide (uptoBulkAll ds ≤ 1048576)
def OpenSpec.upto (s : _root_.Go.ChangeSpec) : _root_.Go.OpenSpec := { _root_.Go.OpenSpec.ofChange s with cond := some uptoSmall }

/-- 'latticelaw26.TraceBegins', WHERE WHAT IT READS IS OF BULK AT MOST 1048576: true; the input reads as it did. -/
def traceBeginsUptoRow : OpenClaim := { program := "ythdbkanbgfajbaagreat", sum := "ae04eea3f1f011174115eb4c48aa44a536330009b61045e91351522d72a7aa10", func := "lattice/latticelaw26.TraceBegins", spec := "traceBegins", unfollowed := true, recurses := true, apart := false, narrowed := true }
def TraceBeginsUptoSaid : Prop := traceBeginsUptoRow.holds Tryz.pinned (OpenSpec.upto traceBeginsSpec)

/-- 'latticelaw26.TraceOnce', WHERE WHAT IT READS IS OF BULK AT MOST 1048576: true; the input reads as it did. -/
def traceOnceUptoRow : OpenClaim := { program := "ythdbkanbgfajbaagreat", sum := "ae04eea3f1f011174115eb4c48aa44a536330009b61045e91351522d72a7aa10", func := "lattice/latticelaw26.TraceOnce", spec := "traceOnce", unfollowed := true, recurses := true, apart := false, narrowed := true }
def TraceOnceUptoSaid : Prop := traceOnceUptoRow.holds Tryz.pinned (OpenSpec.upto traceOnceSpec)

/-- 'latticelaw26.TraceOpen', WHERE WHAT IT READS IS OF BULK AT MOST 1048576: true; the input reads as it did. -/
def traceOpenUptoRow : OpenClaim := { program := "ythdbkanbgfajbaagreat", sum := "ae04eea3f1f011174115eb4c48aa44a536330009b61045e91351522d72a7aa10", func := "lattice/latticelaw26.TraceOpen", spec := "traceOpen", unfollowed := true, recurses := true, apart := false, narrowed := true }
def TraceOpenUptoSaid : Prop := traceOpenUptoRow.holds Tryz.pinned (OpenSpec.upto traceOpenSpec)

end Rows
end Go.Proofs.YthdbkanbgfajbaaGreat

/-
  No cell of these rows narrows 'for every input' (looked for: loops, veiled, ifaces, maps, wideKeys, modest, calm, conditions, laid).
  DERIVED. THE GIVEN ROWS OF THIS SEAT. 10 by the template 'for every input the law returns true; each argument reads behind the call as it read before'; 0 by the template 'total and deterministic' (their statements: YtdlnflcjodpkiaaGreatTotals.lean).
  GIVEN WITH THE SEED: the statements are not yours to turn. If you find one false, say at which input.
  Laid BY PROGRAM, IN A SANDBOX (cutbox-rows.mjs): the forced cells as the released guide's own fill.sh prints them over the translation cc1b784a7487769f… (all of the seat's roots in one cut). By AI agents, Wed Nov 11 2026. No macro, syntax, notation, axiom, sorry.
-/
import Derived.Test.YtdlnflcjodpkiaaGreatChecked
import GoSem.Claim
import GoSem.ClaimJoined
import GoSem.ClaimMapViews
import Derived.JoinedTies
import Derived.KernelRfl
namespace Go.Proofs.YtdlnflcjodpkiaaGreat
/- THE CELL 'sum', in the pinned program and in every row, IS THE sha256 OF THE DUMP (.gsa) THAT YtdlnflcjodpkiaaGreatProg.lean LOADS. Nothing in Lean hashes anything: it is a label: what it is worth is what the hold of that sum in a sandbox is worth. -/
noncomputable def Tryz.pinned : Pinned := { name := "ytdlnflcjodpkiaagreat", sum := "cc1b784a7487769f27a9c0f0352da588563bc8d63b978a971e511cd7be80d213", checked := Tryz.checked }
namespace Rows
def none {H : Type} : Left H := { results := [], args := [] }

/-- 'latticelaw18.FoldTells': WHATEVER THE INPUT: true; the input reads as it did. -/
def foldTellsSpec : ChangeSpec := { name := "foldTells", fn := fun _ => fun
  | [d1, d2] => { results := [.lit (.bool true)], args := [d1, d2] }
  | _ => none }
def foldTellsRow : OpenClaim := { program := "ytdlnflcjodpkiaagreat", sum := "cc1b784a7487769f27a9c0f0352da588563bc8d63b978a971e511cd7be80d213", func := "lattice/latticelaw18.FoldTells", spec := "foldTells", unfollowed := true, recurses := true, apart := false }
def FoldTellsSaid : Prop := foldTellsRow.holds Tryz.pinned (OpenSpec.ofChange foldTellsSpec)

/-- ITS FALSE NEIGHBOUR: 'it returns false'. Refute it at one input. -/
def foldTellsWrong : ChangeSpec := { name := "foldTells", fn := fun _ => fun
  | [d1, d2] => { results := [.lit (.bool false)], args := [d1, d2] }
  | _ => none }
def FoldTellsWrongFalsely : Prop := foldTellsRow.holds Tryz.pinned (OpenSpec.ofChange foldTellsWrong)

/-- 'latticelaw18.FoldAnswers': WHATEVER THE INPUT: true; the input reads as it did. -/
def foldAnswersSpec : ChangeSpec := { name := "foldAnswers", fn := fun _ => fun
  | [d1, d2] => { results := [.lit (.bool true)], args := [d1, d2] }
  | _ => none }
def foldAnswersRow : OpenClaim := { program := "ytdlnflcjodpkiaagreat", sum := "cc1b784a7487769f27a9c0f0352da588563bc8d63b978a971e511cd7be80d213", func := "lattice/latticelaw18.FoldAnswers", spec := "foldAnswers", unfollowed := true, recurses := true, apart := false }
def FoldAnswersSaid : Prop := foldAnswersRow.holds Tryz.pinned (OpenSpec.ofChange foldAnswersSpec)

/-- ITS FALSE NEIGHBOUR: 'it returns false'. Refute it at one input. -/
def foldAnswersWrong : ChangeSpec := { name := "foldAnswers", fn := fun _ => fun
  | [d1, d2] => { results := [.lit (.bool false)], args := [d1, d2] }
  | _ => none }
def FoldAnswersWrongFalsely : Prop := foldAnswersRow.holds Tryz.pinned (OpenSpec.ofChange foldAnswersWrong)

/-- 'latticelaw18.FoldHolds': WHATEVER THE INPUT: true; the input reads as it did. -/
def foldHoldsSpec : ChangeSpec := { name := "foldHolds", fn := fun _ => fun
  | [d1, d2, d3] => { results := [.lit (.bool true)], args := [d1, d2, d3] }
  | _ => none }
def foldHoldsRow : OpenClaim := { program := "ytdlnflcjodpkiaagreat", sum := "cc1b784a7487769f27a9c0f0352da588563bc8d63b978a971e511cd7be80d213", func := "lattice/latticelaw18.FoldHolds", spec := "foldHolds", unfollowed := true, recurses := true, apart := false }
def FoldHoldsSaid : Prop := foldHoldsRow.holds Tryz.pinned (OpenSpec.ofChange foldHoldsSpec)

/-- ITS FALSE NEIGHBOUR: 'it returns false'. Refute it at one input. -/
def foldHoldsWrong : ChangeSpec := { name := "foldHolds", fn := fun _ => fun
  | [d1, d2, d3] => { results := [.lit (.bool false)], args := [d1, d2, d3] }
  | _ => none }
def FoldHoldsWrongFalsely : Prop := foldHoldsRow.holds Tryz.pinned (OpenSpec.ofChange foldHoldsWrong)

/-- 'latticelaw18.FoldAgrees': WHATEVER THE INPUT: true; the input reads as it did. -/
def foldAgreesSpec : ChangeSpec := { name := "foldAgrees", fn := fun _ => fun
  | [d1, d2] => { results := [.lit (.bool true)], args := [d1, d2] }
  | _ => none }
def foldAgreesRow : OpenClaim := { program := "ytdlnflcjodpkiaagreat", sum := "cc1b784a7487769f27a9c0f0352da588563bc8d63b978a971e511cd7be80d213", func := "lattice/latticelaw18.FoldAgrees", spec := "foldAgrees", unfollowed := true, recurses := true, apart := false }
def FoldAgreesSaid : Prop := foldAgreesRow.holds Tryz.pinned (OpenSpec.ofChange foldAgreesSpec)

/-- ITS FALSE NEIGHBOUR: 'it returns false'. Refute it at one input. -/
def foldAgreesWrong : ChangeSpec := { name := "foldAgrees", fn := fun _ => fun
  | [d1, d2] => { results := [.lit (.bool false)], args := [d1, d2] }
  | _ => none }
def FoldAgreesWrongFalsely : Prop := foldAgreesRow.holds Tryz.pinned (OpenSpec.ofChange foldAgreesWrong)

/-- 'latticelaw18.FoldLast': WHATEVER THE INPUT: true; the input reads as it did. -/
def foldLastSpec : ChangeSpec := { name := "foldLast", fn := fun _ => fun
  | [d1, d2] => { results := [.lit (.bool true)], args := [d1, d2] }
  | _ => none }
def foldLastRow : OpenClaim := { program := "ytdlnflcjodpkiaagreat", sum := "cc1b784a7487769f27a9c0f0352da588563bc8d63b978a971e511cd7be80d213", func := "lattice/latticelaw18.FoldLast", spec := "foldLast", unfollowed := true, recurses := true, apart := false }
def FoldLastSaid : Prop := foldLastRow.holds Tryz.pinned (OpenSpec.ofChange foldLastSpec)

/-- ITS FALSE NEIGHBOUR: 'it returns false'. Refute it at one input. -/
def foldLastWrong : ChangeSpec := { name := "foldLast", fn := fun _ => fun
  | [d1, d2] => { results := [.lit (.bool false)], args := [d1, d2] }
  | _ => none }
def FoldLastWrongFalsely : Prop := foldLastRow.holds Tryz.pinned (OpenSpec.ofChange foldLastWrong)

/-- 'latticelaw18.FoldOrder': WHATEVER THE INPUT: true; the input reads as it did. -/
def foldOrderSpec : ChangeSpec := { name := "foldOrder", fn := fun _ => fun
  | [d1, d2] => { results := [.lit (.bool true)], args := [d1, d2] }
  | _ => none }
def foldOrderRow : OpenClaim := { program := "ytdlnflcjodpkiaagreat", sum := "cc1b784a7487769f27a9c0f0352da588563bc8d63b978a971e511cd7be80d213", func := "lattice/latticelaw18.FoldOrder", spec := "foldOrder", unfollowed := true, recurses := true, apart := false }
def FoldOrderSaid : Prop := foldOrderRow.holds Tryz.pinned (OpenSpec.ofChange foldOrderSpec)

/-- ITS FALSE NEIGHBOUR: 'it returns false'. Refute it at one input. -/
def foldOrderWrong : ChangeSpec := { name := "foldOrder", fn := fun _ => fun
  | [d1, d2] => { results := [.lit (.bool false)], args := [d1, d2] }
  | _ => none }
def FoldOrderWrongFalsely : Prop := foldOrderRow.holds Tryz.pinned (OpenSpec.ofChange foldOrderWrong)

/-- 'latticelaw18.FoldApart': WHATEVER THE INPUT: true; the input reads as it did. -/
def foldApartSpec : ChangeSpec := { name := "foldApart", fn := fun _ => fun
  | [d1, d2] => { results := [.lit (.bool true)], args := [d1, d2] }
  | _ => none }
def foldApartRow : OpenClaim := { program := "ytdlnflcjodpkiaagreat", sum := "cc1b784a7487769f27a9c0f0352da588563bc8d63b978a971e511cd7be80d213", func := "lattice/latticelaw18.FoldApart", spec := "foldApart", unfollowed := true, recurses := true, apart := false }
def FoldApartSaid : Prop := foldApartRow.holds Tryz.pinned (OpenSpec.ofChange foldApartSpec)

/-- ITS FALSE NEIGHBOUR: 'it returns false'. Refute it at one input. -/
def foldApartWrong : ChangeSpec := { name := "foldApart", fn := fun _ => fun
  | [d1, d2] => { results := [.lit (.bool false)], args := [d1, d2] }
  | _ => none }
def FoldApartWrongFalsely : Prop := foldApartRow.holds Tryz.pinned (OpenSpec.ofChange foldApartWrong)

/-- 'latticelaw26.TraceBegins': WHATEVER THE INPUT: true; the input reads as it did. -/
def traceBeginsSpec : ChangeSpec := { name := "traceBegins", fn := fun _ => fun
  | [d1, d2] => { results := [.lit (.bool true)], args := [d1, d2] }
  | _ => none }
def traceBeginsRow : OpenClaim := { program := "ytdlnflcjodpkiaagreat", sum := "cc1b784a7487769f27a9c0f0352da588563bc8d63b978a971e511cd7be80d213", func := "lattice/latticelaw26.TraceBegins", spec := "traceBegins", unfollowed := true, recurses := true, apart := false }
def TraceBeginsSaid : Prop := traceBeginsRow.holds Tryz.pinned (OpenSpec.ofChange traceBeginsSpec)

/-- ITS FALSE NEIGHBOUR: 'it returns false'. Refute it at one input. -/
def traceBeginsWrong : ChangeSpec := { name := "traceBegins", fn := fun _ => fun
  | [d1, d2] => { results := [.lit (.bool false)], args := [d1, d2] }
  | _ => none }
def TraceBeginsWrongFalsely : Prop := traceBeginsRow.holds Tryz.pinned (OpenSpec.ofChange traceBeginsWrong)

/-- 'latticelaw26.TraceOnce': WHATEVER THE INPUT: true; the input reads as it did. -/
def traceOnceSpec : ChangeSpec := { name := "traceOnce", fn := fun _ => fun
  | [d] => { results := [.lit (.bool true)], args := [d] }
  | _ => none }
def traceOnceRow : OpenClaim := { program := "ytdlnflcjodpkiaagreat", sum := "cc1b784a7487769f27a9c0f0352da588563bc8d63b978a971e511cd7be80d213", func := "lattice/latticelaw26.TraceOnce", spec := "traceOnce", unfollowed := true, recurses := true, apart := false }
def TraceOnceSaid : Prop := traceOnceRow.holds Tryz.pinned (OpenSpec.ofChange traceOnceSpec)

/-- ITS FALSE NEIGHBOUR: 'it returns false'. Refute it at one input. -/
def traceOnceWrong : ChangeSpec := { name := "traceOnce", fn := fun _ => fun
  | [d] => { results := [.lit (.bool false)], args := [d] }
  | _ => none }
def TraceOnceWrongFalsely : Prop := traceOnceRow.holds Tryz.pinned (OpenSpec.ofChange traceOnceWrong)

/-- 'latticelaw26.TraceOpen': WHATEVER THE INPUT: true; the input reads as it did. -/
def traceOpenSpec : ChangeSpec := { name := "traceOpen", fn := fun _ => fun
  | [d1, d2] => { results := [.lit (.bool true)], args := [d1, d2] }
  | _ => none }
def traceOpenRow : OpenClaim := { program := "ytdlnflcjodpkiaagreat", sum := "cc1b784a7487769f27a9c0f0352da588563bc8d63b978a971e511cd7be80d213", func := "lattice/latticelaw26.TraceOpen", spec := "traceOpen", unfollowed := true, recurses := true, apart := false }
def TraceOpenSaid : Prop := traceOpenRow.holds Tryz.pinned (OpenSpec.ofChange traceOpenSpec)

/-- ITS FALSE NEIGHBOUR: 'it returns false'. Refute it at one input. -/
def traceOpenWrong : ChangeSpec := { name := "traceOpen", fn := fun _ => fun
  | [d1, d2] => { results := [.lit (.bool false)], args := [d1, d2] }
  | _ => none }
def TraceOpenWrongFalsely : Prop := traceOpenRow.holds Tryz.pinned (OpenSpec.ofChange traceOpenWrong)

/- THE SECOND FORM. 'bulk': how many values and letters a reading holds, each counted each time it is reached (what is shared counts as often as it is met; a slice's spare places count too). A statement '..UptoSaid' is the law's where the arguments, and the package variables that the reading takes, are together of bulk at most 1048576: NARROWER than '..Said'. Prove '..Said' where nothing that the law and all that it calls make is longer than what came in: it says more and counts as full. Else prove '..UptoSaid'. A law counts once. -/
mutual
def uptoBulk {H : Type} : DataW H → Nat
  | .lit (.string bytes) => bytes.length + 1
  | .lit _ => 1
  | .nil => 1
  | .ptr d => uptoBulk d + 1
  | .slice elems spare => uptoBulkAll elems + uptoBulkAll spare + 1
  | .agg parts => uptoBulkAll parts + 1
  | .iface _ d => uptoBulk d + 1
  | .map entries => uptoBulkEntries entries + 1
  | .held _ => 1
def uptoBulkAll {H : Type} : List (DataW H) → Nat
  | [] => 0
  | d :: r => uptoBulk d + uptoBulkAll r
def uptoBulkEntries {H : Type} : List (Lit × DataW H) → Nat
  | [] => 0
  | x :: r => uptoBulkEntry x + uptoBulkEntries r
def uptoBulkEntry {H : Type} : Lit × DataW H → Nat
  | (.string bytes, d) => bytes.length + uptoBulk d + 1
  | (_, d) => uptoBulk d + 1
 end
def uptoSmall : (H : Type) → List (DataW H) → Bool := fun _ ds => decide (uptoBulkAll ds ≤ 1048576)
def OpenSpec.upto (s : _root_.Go.ChangeSpec) : _root_.Go.OpenSpec := { _root_.Go.OpenSpec.ofChange s with cond := some uptoSmall }

/-- 'latticelaw18.FoldTells', WHERE WHAT IT READS IS OF BULK AT MOST 1048576: true; the input reads as it did. -/
def foldTellsUptoRow : OpenClaim := { program := "ytdlnflcjodpkiaagreat", sum := "cc1b784a7487769f27a9c0f0352da588563bc8d63b978a971e511cd7be80d213", func := "lattice/latticelaw18.FoldTells", spec := "foldTells", unfollowed := true, recurses := true, apart := false, narrowed := true }
def FoldTellsUptoSaid : Prop := foldTellsUptoRow.holds Tryz.pinned (OpenSpec.upto foldTellsSpec)

/-- 'latticelaw18.FoldAnswers', WHERE WHAT IT READS IS OF BULK AT MOST 1048576: true; the input reads as it did. -/
def foldAnswersUptoRow : OpenClaim := { program := "ytdlnflcjodpkiaagreat", sum := "cc1b784a7487769f27a9c0f0352da588563bc8d63b978a971e511cd7be80d213", func := "lattice/latticelaw18.FoldAnswers", spec := "foldAnswers", unfollowed := true, recurses := true, apart := false, narrowed := true }
def FoldAnswersUptoSaid : Prop := foldAnswersUptoRow.holds Tryz.pinned (OpenSpec.upto foldAnswersSpec)

/-- 'latticelaw18.FoldHolds', WHERE WHAT IT READS IS OF BULK AT MOST 1048576: true; the input reads as it did. -/
def foldHoldsUptoRow : OpenClaim := { program := "ytdlnflcjodpkiaagreat", sum := "cc1b784a7487769f27a9c0f0352da588563bc8d63b978a971e511cd7be80d213", func := "lattice/latticelaw18.FoldHolds", spec := "foldHolds", unfollowed := true, recurses := true, apart := false, narrowed := true }
def FoldHoldsUptoSaid : Prop := foldHoldsUptoRow.holds Tryz.pinned (OpenSpec.upto foldHoldsSpec)

/-- 'latticelaw18.FoldAgrees', WHERE WHAT IT READS IS OF BULK AT MOST 1048576: true; the input reads as it did. -/
def foldAgreesUptoRow : OpenClaim := { program := "ytdlnflcjodpkiaagreat", sum := "cc1b784a7487769f27a9c0f0352da588563bc8d63b978a971e511cd7be80d213", func := "lattice/latticelaw18.FoldAgrees", spec := "foldAgrees", unfollowed := true, recurses := true, apart := false, narrowed := true }
def FoldAgreesUptoSaid : Prop := foldAgreesUptoRow.holds Tryz.pinned (OpenSpec.upto foldAgreesSpec)

/-- 'latticelaw18.FoldLast', WHERE WHAT IT READS IS OF BULK AT MOST 1048576: true; the input reads as it did. -/
def foldLastUptoRow : OpenClaim := { program := "ytdlnflcjodpkiaagreat", sum := "cc1b784a7487769f27a9c0f0352da588563bc8d63b978a971e511cd7be80d213", func := "lattice/latticelaw18.FoldLast", spec := "foldLast", unfollowed := true, recurses := true, apart := false, narrowed := true }
def FoldLastUptoSaid : Prop := foldLastUptoRow.holds Tryz.pinned (OpenSpec.upto foldLastSpec)

/-- 'latticelaw18.FoldOrder', WHERE WHAT IT READS IS OF BULK AT MOST 1048576: true; the input reads as it did. -/
def foldOrderUptoRow : OpenClaim := { program := "ytdlnflcjodpkiaagreat", sum := "cc1b784a7487769f27a9c0f0352da588563bc8d63b978a971e511cd7be80d213", func := "lattice/latticelaw18.FoldOrder", spec := "foldOrder", unfollowed := true, recurses := true, apart := false, narrowed := true }
def FoldOrderUptoSaid : Prop := foldOrderUptoRow.holds Tryz.pinned (OpenSpec.upto foldOrderSpec)

/-- 'latticelaw18.FoldApart', WHERE WHAT IT READS IS OF BULK AT MOST 1048576: true; the input reads as it did. -/
def foldApartUptoRow : OpenClaim := { program := "ytdlnflcjodpkiaagreat", sum := "cc1b784a7487769f27a9c0f0352da588563bc8d63b978a971e511cd7be80d213", func := "lattice/latticelaw18.FoldApart", spec := "foldApart", unfollowed := true, recurses := true, apart := false, narrowed := true }
def FoldApartUptoSaid : Prop := foldApartUptoRow.holds Tryz.pinned (OpenSpec.upto foldApartSpec)

/-- 'latticelaw26.TraceBegins', WHERE WHAT IT READS IS OF BULK AT MOST 1048576: true; the input reads as it did. -/
def traceBeginsUptoRow : OpenClaim := { program := "ytdlnflcjodpkiaagreat", sum := "cc1b784a7487769f27a9c0f0352da588563bc8d63b978a971e511cd7be80d213", func := "lattice/latticelaw26.TraceBegins", spec := "traceBegins", unfollowed := true, recurses := true, apart := false, narrowed := true }
def TraceBeginsUptoSaid : Prop := traceBeginsUptoRow.holds Tryz.pinned (OpenSpec.upto traceBeginsSpec)

/-- 'latticelaw26.TraceOnce', WHERE WHAT IT READS IS OF BULK AT MOST 1048576: true; the input reads as it did. -/
def traceOnceUptoRow : OpenClaim := { program := "ytdlnflcjodpkiaagreat", sum := "cc1b784a7487769f27a9c0f0352da588563bc8d63b978a971e511cd7be80d213", func := "lattice/latticelaw26.TraceOnce", spec := "traceOnce", unfollowed := true, recurses := true, apart := false, narrowed := true }
def TraceOnceUptoSaid : Prop := traceOnceUptoRow.holds Tryz.pinned (OpenSpec.upto traceOnceSpec)

/-- 'latticelaw26.TraceOpen', WHERE WHAT IT READS IS OF BULK AT MOST 1048576: true; the input reads as it did. -/
def traceOpenUptoRow : OpenClaim := { program := "ytdlnflcjodpkiaagreat", sum := "cc1b784a7487769f27a9c0f0352da588563bc8d63b978a971e511cd7be80d213", func := "lattice/latticelaw26.TraceOpen", spec := "traceOpen", unfollowed := true, recurses := true, apart := false, narrowed := true }
def TraceOpenUptoSaid : Prop := traceOpenUptoRow.holds Tryz.pinned (OpenSpec.upto traceOpenSpec)

end Rows
end Go.Proofs.YtdlnflcjodpkiaaGreat

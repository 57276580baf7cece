/-
  No cell of these rows narrows 'for every input' (looked for: loops, veiled, ifaces, maps, wideKeys, modest, calm, conditions, laid).
  DERIVED. THE GIVEN ROWS OF THIS SEAT. 3 by the template 'for every input the law returns true; each argument reads behind the call as it read before'; 0 by the template 'total and deterministic' (their statements: YtbabecjphmmngaaTotals.lean).
  GIVEN WITH THE SEED: the statements are not yours to turn. If you find one false, say at which input.
  Laid BY PROGRAM, IN A SANDBOX (cutbox-rows.mjs): the forced cells as the released guide's own fill.sh prints them over the translation c7966502fac2b24c… (all of the seat's roots in one cut). By AI agents, Wed Nov 11 2026. No macro, syntax, notation, axiom, sorry.
-/
import Derived.Test.YtbabecjphmmngaaChecked
import GoSem.Claim
import GoSem.ClaimJoined
import GoSem.ClaimMapViews
import Derived.JoinedTies
import Derived.KernelRfl
namespace Go.Proofs.Ytbabecjphmmngaa
/- THE CELL 'sum', in the pinned program and in every row, IS THE sha256 OF THE DUMP (.gsa) THAT YtbabecjphmmngaaProg.lean LOADS. Nothing in Lean hashes anything: it is a label: what it is worth is what the hold of that sum in a sandbox is worth. -/
noncomputable def Try.pinned : Pinned := { name := "ytbabecjphmmngaa", sum := "c7966502fac2b24c870370f7a21a5ad2a37c0577a0cb59014b9551e874c7acd9", checked := Try.checked }
namespace Rows
def none {H : Type} : Left H := { results := [], args := [] }

/-- 'wellspringlaw11.EncodeFirst': WHATEVER THE INPUT: true; the input reads as it did. -/
def encodeFirstSpec : ChangeSpec := { name := "encodeFirst", fn := fun _ => fun
  | [d1, d2, d3, d4, d5, d6] => { results := [.lit (.bool true)], args := [d1, d2, d3, d4, d5, d6] }
  | _ => none }
def encodeFirstRow : OpenClaim := { program := "ytbabecjphmmngaa", sum := "c7966502fac2b24c870370f7a21a5ad2a37c0577a0cb59014b9551e874c7acd9", func := "wellspring/wellspringlaw11.EncodeFirst", spec := "encodeFirst", unfollowed := true, recurses := true, apart := false }
def EncodeFirstSaid : Prop := encodeFirstRow.holds Try.pinned (OpenSpec.ofChange encodeFirstSpec)

/-- ITS FALSE NEIGHBOUR: 'it returns false'. Refute it at one input. -/
def encodeFirstWrong : ChangeSpec := { name := "encodeFirst", fn := fun _ => fun
  | [d1, d2, d3, d4, d5, d6] => { results := [.lit (.bool false)], args := [d1, d2, d3, d4, d5, d6] }
  | _ => none }
def EncodeFirstWrongFalsely : Prop := encodeFirstRow.holds Try.pinned (OpenSpec.ofChange encodeFirstWrong)

/-- 'wellspringlaw11.EncodeSums': WHATEVER THE INPUT: true; the input reads as it did. -/
def encodeSumsSpec : ChangeSpec := { name := "encodeSums", fn := fun _ => fun
  | [d1, d2, d3, d4, d5, d6, d7] => { results := [.lit (.bool true)], args := [d1, d2, d3, d4, d5, d6, d7] }
  | _ => none }
def encodeSumsRow : OpenClaim := { program := "ytbabecjphmmngaa", sum := "c7966502fac2b24c870370f7a21a5ad2a37c0577a0cb59014b9551e874c7acd9", func := "wellspring/wellspringlaw11.EncodeSums", spec := "encodeSums", unfollowed := true, recurses := true, apart := false }
def EncodeSumsSaid : Prop := encodeSumsRow.holds Try.pinned (OpenSpec.ofChange encodeSumsSpec)

/-- ITS FALSE NEIGHBOUR: 'it returns false'. Refute it at one input. -/
def encodeSumsWrong : ChangeSpec := { name := "encodeSums", fn := fun _ => fun
  | [d1, d2, d3, d4, d5, d6, d7] => { results := [.lit (.bool false)], args := [d1, d2, d3, d4, d5, d6, d7] }
  | _ => none }
def EncodeSumsWrongFalsely : Prop := encodeSumsRow.holds Try.pinned (OpenSpec.ofChange encodeSumsWrong)

/-- 'wellspringlaw11.EncodeErrors': WHATEVER THE INPUT: true; the input reads as it did. -/
def encodeErrorsSpec : ChangeSpec := { name := "encodeErrors", fn := fun _ => fun
  | [d1, d2, d3, d4, d5, d6] => { results := [.lit (.bool true)], args := [d1, d2, d3, d4, d5, d6] }
  | _ => none }
def encodeErrorsRow : OpenClaim := { program := "ytbabecjphmmngaa", sum := "c7966502fac2b24c870370f7a21a5ad2a37c0577a0cb59014b9551e874c7acd9", func := "wellspring/wellspringlaw11.EncodeErrors", spec := "encodeErrors", unfollowed := true, recurses := true, apart := false }
def EncodeErrorsSaid : Prop := encodeErrorsRow.holds Try.pinned (OpenSpec.ofChange encodeErrorsSpec)

/-- ITS FALSE NEIGHBOUR: 'it returns false'. Refute it at one input. -/
def encodeErrorsWrong : ChangeSpec := { name := "encodeErrors", fn := fun _ => fun
  | [d1, d2, d3, d4, d5, d6] => { results := [.lit (.bool false)], args := [d1, d2, d3, d4, d5, d6] }
  | _ => none }
def EncodeErrorsWrongFalsely : Prop := encodeErrorsRow.holds Try.pinned (OpenSpec.ofChange encodeErrorsWrong)

/- THE SECOND FORM. 'bulk': how many values and letters a reading holds, each counted each time it is reached (what is shared counts as often as it is met; a slice's spare places count too). A statement '..UptoSaid' is the law's where the arguments, and the package variables that the reading takes, are together of bulk at most 1048576: NARROWER than '..Said'. Prove '..Said' where nothing that the law and all that it calls make is longer than what came in: it says more and counts as full. Else prove '..UptoSaid'. A law counts once. -/
mutual
def uptoBulk {H : Type} : DataW H → Nat
  | .lit (.string bytes) => bytes.length + 1
  | .lit _ => 1
  | .nil => 1
  | .ptr d => uptoBulk d + 1
  | .slice elems spare => uptoBulkAll elems + uptoBulkAll spare + 1
  | .agg parts => uptoBulkAll parts + 1
  | .iface _ d => uptoBulk d + 1
  | .map entries => uptoBulkEntries entries + 1
  | .held _ => 1
def uptoBulkAll {H : Type} : List (DataW H) → Nat
  | [] => 0
  | d :: r => uptoBulk d + uptoBulkAll r
def uptoBulkEntries {H : Type} : List (Lit × DataW H) → Nat
  | [] => 0
  | x :: r => uptoBulkEntry x + uptoBulkEntries r
def uptoBulkEntry {H : Type} : Lit × DataW H → Nat
  | (.string bytes, d) => bytes.length + uptoBulk d + 1
  | (_, d) => uptoBulk d + 1
 end
def uptoSmall : (H : Type) → List (DataW H) → Bool := fun _ ds => decide (uptoBulkAll ds ≤ 1048576)
def OpenSpec.upto (s : _root_.Go.ChangeSpec) : _root_.Go.OpenSpec := { _root_.Go.OpenSpec.ofChange s with cond := some uptoSmall }

/-- 'wellspringlaw11.EncodeFirst', WHERE WHAT IT READS IS OF BULK AT MOST 1048576: true; the input reads as it did. -/
def encodeFirstUptoRow : OpenClaim := { program := "ytbabecjphmmngaa", sum := "c7966502fac2b24c870370f7a21a5ad2a37c0577a0cb59014b9551e874c7acd9", func := "wellspring/wellspringlaw11.EncodeFirst", spec := "encodeFirst", unfollowed := true, recurses := true, apart := false, narrowed := true }
def EncodeFirstUptoSaid : Prop := encodeFirstUptoRow.holds Try.pinned (OpenSpec.upto encodeFirstSpec)

/-- 'wellspringlaw11.EncodeSums', WHERE WHAT IT READS IS OF BULK AT MOST 1048576: true; the input reads as it did. -/
def encodeSumsUptoRow : OpenClaim := { program := "ytbabecjphmmngaa", sum := "c7966502fac2b24c870370f7a21a5ad2a37c0577a0cb59014b9551e874c7acd9", func := "wellspring/wellspringlaw11.EncodeSums", spec := "encodeSums", unfollowed := true, recurses := true, apart := false, narrowed := true }
def EncodeSumsUptoSaid : Prop := encodeSumsUptoRow.holds Try.pinned (OpenSpec.upto encodeSumsSpec)

/-- 'wellspringlaw11.EncodeErrors', WHERE WHAT IT READS IS OF BULK AT MOST 1048576: true; the input reads as it did. -/
def encodeErrorsUptoRow : OpenClaim := { program := "ytbabecjphmmngaa", sum := "c7966502fac2b24c870370f7a21a5ad2a37c0577a0cb59014b9551e874c7acd9", func := "wellspring/wellspringlaw11.EncodeErrors", spec := "encodeErrors", unfollowed := true, recurses := true, apart := false, narrowed := true }
def EncodeErrorsUptoSaid : Prop := encodeErrorsUptoRow.holds Try.pinned (OpenSpec.upto encodeErrorsSpec)

end Rows
end Go.Proofs.Ytbabecjphmmngaa

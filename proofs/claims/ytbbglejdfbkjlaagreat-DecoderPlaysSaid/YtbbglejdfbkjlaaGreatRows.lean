/-
  No cell of these rows narrows 'for every input' (looked for: loops, veiled, ifaces, maps, wideKeys, modest, calm, conditions, laid).
  DERIVED. THE GIVEN ROWS OF THIS SEAT. 6 by the template 'for every input the law returns true; each argument reads behind the call as it read before'; 0 by the template 'total and deterministic' (their statements: YtbbglejdfbkjlaaGreatTotals.lean).
  GIVEN WITH THE SEED: the statements are not yours to turn. If you find one false, say at which input.
  Laid BY PROGRAM, IN A SANDBOX (cutbox-rows.mjs): the forced cells as the released guide's own fill.sh prints them over the translation 75a619fc3fe7e9a0… (all of the seat's roots in one cut). By AI agents, Wed Nov 11 2026. No macro, syntax, notation, axiom, sorry.
-/
import Derived.Test.YtbbglejdfbkjlaaGreatChecked
import GoSem.Claim
import GoSem.ClaimJoined
import GoSem.ClaimMapViews
import Derived.JoinedTies
import Derived.KernelRfl
namespace Go.Proofs.YtbbglejdfbkjlaaGreat
/- THE CELL 'sum', in the pinned program and in every row, IS THE sha256 OF THE DUMP (.gsa) THAT YtbbglejdfbkjlaaGreatProg.lean LOADS. Nothing in Lean hashes anything: it is a label: what it is worth is what the hold of that sum in a sandbox is worth. -/
noncomputable def Tryz.pinned : Pinned := { name := "ytbbglejdfbkjlaagreat", sum := "75a619fc3fe7e9a0c20a35c9f22f08d28ae8c9166e7ed4c2fa27b5500d8ac373", checked := Tryz.checked }
namespace Rows
def none {H : Type} : Left H := { results := [], args := [] }

/-- 'wellspringlaw14.DecodeTells': WHATEVER THE INPUT: true; the input reads as it did. -/
def decodeTellsSpec : ChangeSpec := { name := "decodeTells", fn := fun _ => fun
  | [d1, d2, d3, d4, d5, d6, d7, d8, d9] => { results := [.lit (.bool true)], args := [d1, d2, d3, d4, d5, d6, d7, d8, d9] }
  | _ => none }
def decodeTellsRow : OpenClaim := { program := "ytbbglejdfbkjlaagreat", sum := "75a619fc3fe7e9a0c20a35c9f22f08d28ae8c9166e7ed4c2fa27b5500d8ac373", func := "wellspring/wellspringlaw14.DecodeTells", spec := "decodeTells", unfollowed := true, recurses := true, apart := false }
def DecodeTellsSaid : Prop := decodeTellsRow.holds Tryz.pinned (OpenSpec.ofChange decodeTellsSpec)

/-- ITS FALSE NEIGHBOUR: 'it returns false'. Refute it at one input. -/
def decodeTellsWrong : ChangeSpec := { name := "decodeTells", fn := fun _ => fun
  | [d1, d2, d3, d4, d5, d6, d7, d8, d9] => { results := [.lit (.bool false)], args := [d1, d2, d3, d4, d5, d6, d7, d8, d9] }
  | _ => none }
def DecodeTellsWrongFalsely : Prop := decodeTellsRow.holds Tryz.pinned (OpenSpec.ofChange decodeTellsWrong)

/-- 'wellspringlaw14.DecodeBack': WHATEVER THE INPUT: true; the input reads as it did. -/
def decodeBackSpec : ChangeSpec := { name := "decodeBack", fn := fun _ => fun
  | [d1, d2, d3, d4, d5, d6] => { results := [.lit (.bool true)], args := [d1, d2, d3, d4, d5, d6] }
  | _ => none }
def decodeBackRow : OpenClaim := { program := "ytbbglejdfbkjlaagreat", sum := "75a619fc3fe7e9a0c20a35c9f22f08d28ae8c9166e7ed4c2fa27b5500d8ac373", func := "wellspring/wellspringlaw14.DecodeBack", spec := "decodeBack", unfollowed := true, recurses := true, apart := false }
def DecodeBackSaid : Prop := decodeBackRow.holds Tryz.pinned (OpenSpec.ofChange decodeBackSpec)

/-- ITS FALSE NEIGHBOUR: 'it returns false'. Refute it at one input. -/
def decodeBackWrong : ChangeSpec := { name := "decodeBack", fn := fun _ => fun
  | [d1, d2, d3, d4, d5, d6] => { results := [.lit (.bool false)], args := [d1, d2, d3, d4, d5, d6] }
  | _ => none }
def DecodeBackWrongFalsely : Prop := decodeBackRow.holds Tryz.pinned (OpenSpec.ofChange decodeBackWrong)

/-- 'wellspringlaw14.DecodeOrder': WHATEVER THE INPUT: true; the input reads as it did. -/
def decodeOrderSpec : ChangeSpec := { name := "decodeOrder", fn := fun _ => fun
  | [d1, d2, d3, d4, d5, d6, d7] => { results := [.lit (.bool true)], args := [d1, d2, d3, d4, d5, d6, d7] }
  | _ => none }
def decodeOrderRow : OpenClaim := { program := "ytbbglejdfbkjlaagreat", sum := "75a619fc3fe7e9a0c20a35c9f22f08d28ae8c9166e7ed4c2fa27b5500d8ac373", func := "wellspring/wellspringlaw14.DecodeOrder", spec := "decodeOrder", unfollowed := true, recurses := true, apart := false }
def DecodeOrderSaid : Prop := decodeOrderRow.holds Tryz.pinned (OpenSpec.ofChange decodeOrderSpec)

/-- ITS FALSE NEIGHBOUR: 'it returns false'. Refute it at one input. -/
def decodeOrderWrong : ChangeSpec := { name := "decodeOrder", fn := fun _ => fun
  | [d1, d2, d3, d4, d5, d6, d7] => { results := [.lit (.bool false)], args := [d1, d2, d3, d4, d5, d6, d7] }
  | _ => none }
def DecodeOrderWrongFalsely : Prop := decodeOrderRow.holds Tryz.pinned (OpenSpec.ofChange decodeOrderWrong)

/-- 'wellspringlaw14.DecodeClash': WHATEVER THE INPUT: true; the input reads as it did. -/
def decodeClashSpec : ChangeSpec := { name := "decodeClash", fn := fun _ => fun
  | [d1, d2, d3, d4, d5, d6, d7, d8] => { results := [.lit (.bool true)], args := [d1, d2, d3, d4, d5, d6, d7, d8] }
  | _ => none }
def decodeClashRow : OpenClaim := { program := "ytbbglejdfbkjlaagreat", sum := "75a619fc3fe7e9a0c20a35c9f22f08d28ae8c9166e7ed4c2fa27b5500d8ac373", func := "wellspring/wellspringlaw14.DecodeClash", spec := "decodeClash", unfollowed := true, recurses := true, apart := false }
def DecodeClashSaid : Prop := decodeClashRow.holds Tryz.pinned (OpenSpec.ofChange decodeClashSpec)

/-- ITS FALSE NEIGHBOUR: 'it returns false'. Refute it at one input. -/
def decodeClashWrong : ChangeSpec := { name := "decodeClash", fn := fun _ => fun
  | [d1, d2, d3, d4, d5, d6, d7, d8] => { results := [.lit (.bool false)], args := [d1, d2, d3, d4, d5, d6, d7, d8] }
  | _ => none }
def DecodeClashWrongFalsely : Prop := decodeClashRow.holds Tryz.pinned (OpenSpec.ofChange decodeClashWrong)

/-- 'wellspringlaw14.DecoderPlays': WHATEVER THE INPUT: true; the input reads as it did. -/
def decoderPlaysSpec : ChangeSpec := { name := "decoderPlays", fn := fun _ => fun
  | [d1, d2, d3, d4, d5, d6, d7, d8, d9] => { results := [.lit (.bool true)], args := [d1, d2, d3, d4, d5, d6, d7, d8, d9] }
  | _ => none }
def decoderPlaysRow : OpenClaim := { program := "ytbbglejdfbkjlaagreat", sum := "75a619fc3fe7e9a0c20a35c9f22f08d28ae8c9166e7ed4c2fa27b5500d8ac373", func := "wellspring/wellspringlaw14.DecoderPlays", spec := "decoderPlays", unfollowed := true, recurses := true, apart := false }
def DecoderPlaysSaid : Prop := decoderPlaysRow.holds Tryz.pinned (OpenSpec.ofChange decoderPlaysSpec)

/-- ITS FALSE NEIGHBOUR: 'it returns false'. Refute it at one input. -/
def decoderPlaysWrong : ChangeSpec := { name := "decoderPlays", fn := fun _ => fun
  | [d1, d2, d3, d4, d5, d6, d7, d8, d9] => { results := [.lit (.bool false)], args := [d1, d2, d3, d4, d5, d6, d7, d8, d9] }
  | _ => none }
def DecoderPlaysWrongFalsely : Prop := decoderPlaysRow.holds Tryz.pinned (OpenSpec.ofChange decoderPlaysWrong)

/-- 'wellspringlaw14.DecodeEnough': WHATEVER THE INPUT: true; the input reads as it did. -/
def decodeEnoughSpec : ChangeSpec := { name := "decodeEnough", fn := fun _ => fun
  | [d1, d2, d3, d4, d5, d6] => { results := [.lit (.bool true)], args := [d1, d2, d3, d4, d5, d6] }
  | _ => none }
def decodeEnoughRow : OpenClaim := { program := "ytbbglejdfbkjlaagreat", sum := "75a619fc3fe7e9a0c20a35c9f22f08d28ae8c9166e7ed4c2fa27b5500d8ac373", func := "wellspring/wellspringlaw14.DecodeEnough", spec := "decodeEnough", unfollowed := true, recurses := true, apart := false }
def DecodeEnoughSaid : Prop := decodeEnoughRow.holds Tryz.pinned (OpenSpec.ofChange decodeEnoughSpec)

/-- ITS FALSE NEIGHBOUR: 'it returns false'. Refute it at one input. -/
def decodeEnoughWrong : ChangeSpec := { name := "decodeEnough", fn := fun _ => fun
  | [d1, d2, d3, d4, d5, d6] => { results := [.lit (.bool false)], args := [d1, d2, d3, d4, d5, d6] }
  | _ => none }
def DecodeEnoughWrongFalsely : Prop := decodeEnoughRow.holds Tryz.pinned (OpenSpec.ofChange decodeEnoughWrong)

/- THE SECOND FORM. 'bulk': how many values and letters a reading holds, each counted each time it is reached (what is shared counts as often as it is met; a slice's spare places count too). A statement '..UptoSaid' is the law's where the arguments, and the package variables that the reading takes, are together of bulk at most 1048576: NARROWER than '..Said'. Prove '..Said' where nothing that the law and all that it calls make is longer than what came in: it says more and counts as full. Else prove '..UptoSaid'. A law counts once. -/
mutual
def uptoBulk {H : Type} : DataW H → Nat
  | .lit (.string bytes) => bytes.length + 1
  | .lit _ => 1
  | .nil => 1
  | .ptr d => uptoBulk d + 1
  | .slice elems spare => uptoBulkAll elems + uptoBulkAll spare + 1
  | .agg parts => uptoBulkAll parts + 1
  | .iface _ d => uptoBulk d + 1
  | .map entries => uptoBulkEntries entries + 1
  | .held _ => 1
def uptoBulkAll {H : Type} : List (DataW H) → Nat
  | [] => 0
  | d :: r => uptoBulk d + uptoBulkAll r
def uptoBulkEntries {H : Type} : List (Lit × DataW H) → Nat
  | [] => 0
  | x :: r => uptoBulkEntry x + uptoBulkEntries r
def uptoBulkEntry {H : Type} : Lit × DataW H → Nat
  | (.string bytes, d) => bytes.length + uptoBulk d + 1
  | (_, d) => uptoBulk d + 1
 end
def uptoSmall : (H : Type) → List (DataW H) → Bool := fun _ ds => decide (uptoBulkAll ds ≤ 1048576)
def OpenSpec.upto (s : _root_.Go.ChangeSpec) : _root_.Go.OpenSpec := { _root_.Go.OpenSpec.ofChange s with cond := some uptoSmall }

/-- 'wellspringlaw14.DecodeTells', WHERE WHAT IT READS IS OF BULK AT MOST 1048576: true; the input reads as it did. -/
def decodeTellsUptoRow : OpenClaim := { program := "ytbbglejdfbkjlaagreat", sum := "75a619fc3fe7e9a0c20a35c9f22f08d28ae8c9166e7ed4c2fa27b5500d8ac373", func := "wellspring/wellspringlaw14.DecodeTells", spec := "decodeTells", unfollowed := true, recurses := true, apart := false, narrowed := true }
def DecodeTellsUptoSaid : Prop := decodeTellsUptoRow.holds Tryz.pinned (OpenSpec.upto decodeTellsSpec)

/-- 'wellspringlaw14.DecodeBack', WHERE WHAT IT READS IS OF BULK AT MOST 1048576: true; the input reads as it did. -/
def decodeBackUptoRow : OpenClaim := { program := "ytbbglejdfbkjlaagreat", sum := "75a619fc3fe7e9a0c20a35c9f22f08d28ae8c9166e7ed4c2fa27b5500d8ac373", func := "wellspring/wellspringlaw14.DecodeBack", spec := "decodeBack", unfollowed := true, recurses := true, apart := false, narrowed := true }
def DecodeBackUptoSaid : Prop := decodeBackUptoRow.holds Tryz.pinned (OpenSpec.upto decodeBackSpec)

/-- 'wellspringlaw14.DecodeOrder', WHERE WHAT IT READS IS OF BULK AT MOST 1048576: true; the input reads as it did. -/
def decodeOrderUptoRow : OpenClaim := { program := "ytbbglejdfbkjlaagreat", sum := "75a619fc3fe7e9a0c20a35c9f22f08d28ae8c9166e7ed4c2fa27b5500d8ac373", func := "wellspring/wellspringlaw14.DecodeOrder", spec := "decodeOrder", unfollowed := true, recurses := true, apart := false, narrowed := true }
def DecodeOrderUptoSaid : Prop := decodeOrderUptoRow.holds Tryz.pinned (OpenSpec.upto decodeOrderSpec)

/-- 'wellspringlaw14.DecodeClash', WHERE WHAT IT READS IS OF BULK AT MOST 1048576: true; the input reads as it did. -/
def decodeClashUptoRow : OpenClaim := { program := "ytbbglejdfbkjlaagreat", sum := "75a619fc3fe7e9a0c20a35c9f22f08d28ae8c9166e7ed4c2fa27b5500d8ac373", func := "wellspring/wellspringlaw14.DecodeClash", spec := "decodeClash", unfollowed := true, recurses := true, apart := false, narrowed := true }
def DecodeClashUptoSaid : Prop := decodeClashUptoRow.holds Tryz.pinned (OpenSpec.upto decodeClashSpec)

/-- 'wellspringlaw14.DecoderPlays', WHERE WHAT IT READS IS OF BULK AT MOST 1048576: true; the input reads as it did. -/
def decoderPlaysUptoRow : OpenClaim := { program := "ytbbglejdfbkjlaagreat", sum := "75a619fc3fe7e9a0c20a35c9f22f08d28ae8c9166e7ed4c2fa27b5500d8ac373", func := "wellspring/wellspringlaw14.DecoderPlays", spec := "decoderPlays", unfollowed := true, recurses := true, apart := false, narrowed := true }
def DecoderPlaysUptoSaid : Prop := decoderPlaysUptoRow.holds Tryz.pinned (OpenSpec.upto decoderPlaysSpec)

/-- 'wellspringlaw14.DecodeEnough', WHERE WHAT IT READS IS OF BULK AT MOST 1048576: true; the input reads as it did. -/
def decodeEnoughUptoRow : OpenClaim := { program := "ytbbglejdfbkjlaagreat", sum := "75a619fc3fe7e9a0c20a35c9f22f08d28ae8c9166e7ed4c2fa27b5500d8ac373", func := "wellspring/wellspringlaw14.DecodeEnough", spec := "decodeEnough", unfollowed := true, recurses := true, apart := false, narrowed := true }
def DecodeEnoughUptoSaid : Prop := decodeEnoughUptoRow.holds Tryz.pinned (OpenSpec.upto decodeEnoughSpec)

end Rows
end Go.Proofs.YtbbglejdfbkjlaaGreat

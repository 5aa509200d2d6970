/-
  No cell of these rows narrows 'for every input' (looked for: loops, veiled, ifaces, maps, wideKeys, modest, calm, conditions, laid).
  DERIVED. THE GIVEN ROWS OF THIS SEAT. 4 by the template 'for every input the law returns true; each argument reads behind the call as it read before'; 0 by the template 'total and deterministic' (their statements: YtiianjnjjginiaaTotals.lean).
  GIVEN WITH THE SEED: the statements are not yours to turn. If you find one false, say at which input.
  Laid BY PROGRAM, IN A SANDBOX (cutbox-rows.mjs): the forced cells as the released guide's own fill.sh prints them over the translation 70160ada26d96383… (all of the seat's roots in one cut). By AI agents, Wed Nov 11 2026. No macro, syntax, notation, axiom, sorry.
-/
import Derived.Test.YtiianjnjjginiaaChecked
import GoSem.Claim
import GoSem.ClaimJoined
import GoSem.ClaimMapViews
import Derived.JoinedTies
import Derived.KernelRfl
namespace Go.Proofs.Ytiianjnjjginiaa
/- THE CELL 'sum', in the pinned program and in every row, IS THE sha256 OF THE DUMP (.gsa) THAT YtiianjnjjginiaaProg.lean LOADS. Nothing in Lean hashes anything: it is a label: what it is worth is what the hold of that sum in a sandbox is worth. -/
noncomputable def Try.pinned : Pinned := { name := "ytiianjnjjginiaa", sum := "70160ada26d96383221b32c548e4b137dc4bdea160c117fc6009ccb46352ac2e", checked := Try.checked }
namespace Rows
def none {H : Type} : Left H := { results := [], args := [] }

/-- 'palinglaw01.RefParts': WHATEVER THE INPUT: true; the input reads as it did. -/
def refPartsSpec : ChangeSpec := { name := "refParts", fn := fun _ => fun
  | [d1, d2] => { results := [.lit (.bool true)], args := [d1, d2] }
  | _ => none }
def refPartsRow : OpenClaim := { program := "ytiianjnjjginiaa", sum := "70160ada26d96383221b32c548e4b137dc4bdea160c117fc6009ccb46352ac2e", func := "paling/palinglaw01.RefParts", spec := "refParts", apart := false }
def RefPartsSaid : Prop := refPartsRow.holds Try.pinned (OpenSpec.ofChange refPartsSpec)

/-- ITS FALSE NEIGHBOUR: 'it returns false'. Refute it at one input. -/
def refPartsWrong : ChangeSpec := { name := "refParts", fn := fun _ => fun
  | [d1, d2] => { results := [.lit (.bool false)], args := [d1, d2] }
  | _ => none }
def RefPartsWrongFalsely : Prop := refPartsRow.holds Try.pinned (OpenSpec.ofChange refPartsWrong)

/-- 'palinglaw01.RefBack': WHATEVER THE INPUT: true; the input reads as it did. -/
def refBackSpec : ChangeSpec := { name := "refBack", fn := fun _ => fun
  | [d] => { results := [.lit (.bool true)], args := [d] }
  | _ => none }
def refBackRow : OpenClaim := { program := "ytiianjnjjginiaa", sum := "70160ada26d96383221b32c548e4b137dc4bdea160c117fc6009ccb46352ac2e", func := "paling/palinglaw01.RefBack", spec := "refBack", apart := false }
def RefBackSaid : Prop := refBackRow.holds Try.pinned (OpenSpec.ofChange refBackSpec)

/-- ITS FALSE NEIGHBOUR: 'it returns false'. Refute it at one input. -/
def refBackWrong : ChangeSpec := { name := "refBack", fn := fun _ => fun
  | [d] => { results := [.lit (.bool false)], args := [d] }
  | _ => none }
def RefBackWrongFalsely : Prop := refBackRow.holds Try.pinned (OpenSpec.ofChange refBackWrong)

/-- 'palinglaw01.RefSets': WHATEVER THE INPUT: true; the input reads as it did. -/
def refSetsSpec : ChangeSpec := { name := "refSets", fn := fun _ => fun
  | [d1, d2] => { results := [.lit (.bool true)], args := [d1, d2] }
  | _ => none }
def refSetsRow : OpenClaim := { program := "ytiianjnjjginiaa", sum := "70160ada26d96383221b32c548e4b137dc4bdea160c117fc6009ccb46352ac2e", func := "paling/palinglaw01.RefSets", spec := "refSets", apart := false }
def RefSetsSaid : Prop := refSetsRow.holds Try.pinned (OpenSpec.ofChange refSetsSpec)

/-- ITS FALSE NEIGHBOUR: 'it returns false'. Refute it at one input. -/
def refSetsWrong : ChangeSpec := { name := "refSets", fn := fun _ => fun
  | [d1, d2] => { results := [.lit (.bool false)], args := [d1, d2] }
  | _ => none }
def RefSetsWrongFalsely : Prop := refSetsRow.holds Try.pinned (OpenSpec.ofChange refSetsWrong)

/-- 'palinglaw01.RefApart': WHATEVER THE INPUT: true; the input reads as it did. -/
def refApartSpec : ChangeSpec := { name := "refApart", fn := fun _ => fun
  | [d1, d2, d3, d4, d5] => { results := [.lit (.bool true)], args := [d1, d2, d3, d4, d5] }
  | _ => none }
def refApartRow : OpenClaim := { program := "ytiianjnjjginiaa", sum := "70160ada26d96383221b32c548e4b137dc4bdea160c117fc6009ccb46352ac2e", func := "paling/palinglaw01.RefApart", spec := "refApart", apart := false }
def RefApartSaid : Prop := refApartRow.holds Try.pinned (OpenSpec.ofChange refApartSpec)

/-- ITS FALSE NEIGHBOUR: 'it returns false'. Refute it at one input. -/
def refApartWrong : ChangeSpec := { name := "refApart", fn := fun _ => fun
  | [d1, d2, d3, d4, d5] => { results := [.lit (.bool false)], args := [d1, d2, d3, d4, d5] }
  | _ => none }
def RefApartWrongFalsely : Prop := refApartRow.holds Try.pinned (OpenSpec.ofChange refApartWrong)

/- THE SECOND FORM. 'bulk': how many values and letters a reading holds, each counted each time it is reached (what is shared counts as often as it is met; a slice's spare places count too). A statement '..UptoSaid' is the law's where the arguments, and the package variables that the reading takes, are together of bulk at most 1048576: NARROWER than '..Said'. Prove '..Said' where nothing that the law and all that it calls make is longer than what came in: it says more and counts as full. Else prove '..UptoSaid'. A law counts once. -/
mutual
def uptoBulk {H : Type} : DataW H → Nat
  | .lit (.string bytes) => bytes.length + 1
  | .lit _ => 1
  | .nil => 1
  | .ptr d => uptoBulk d + 1
  | .slice elems spare => uptoBulkAll elems + uptoBulkAll spare + 1
  | .agg parts => uptoBulkAll parts + 1
  | .iface _ d => uptoBulk d + 1
  | .map entries => uptoBulkEntries entries + 1
  | .held _ => 1
def uptoBulkAll {H : Type} : List (DataW H) → Nat
  | [] => 0
  | d :: r => uptoBulk d + uptoBulkAll r
def uptoBulkEntries {H : Type} : List (Lit × DataW H) → Nat
  | [] => 0
  | x :: r => uptoBulkEntry x + uptoBulkEntries r
def uptoBulkEntry {H : Type} : Lit × DataW H → Nat
  | (.string bytes, d) => bytes.length + uptoBulk d + 1
  | (_, d) => uptoBulk d + 1
 end
def uptoSmall : (H : Type) → List (DataW H) → Bool := fun _ ds => decide (uptoBulkAll ds ≤ 1048576)
def OpenSpec.upto (s : _root_.Go.ChangeSpec) : _root_.Go.OpenSpec := { _root_.Go.OpenSpec.ofChange s with cond := some uptoSmall }

/-- 'palinglaw01.RefParts', WHERE WHAT IT READS IS OF BULK AT MOST 1048576: true; the input reads as it did. -/
def refPartsUptoRow : OpenClaim := { program := "ytiianjnjjginiaa", sum := "70160ada26d96383221b32c548e4b137dc4bdea160c117fc6009ccb46352ac2e", func := "paling/palinglaw01.RefParts", spec := "refParts", apart := false, narrowed := true }
def RefPartsUptoSaid : Prop := refPartsUptoRow.holds Try.pinned (OpenSpec.upto refPartsSpec)

/-- 'palinglaw01.RefBack', WHERE WHAT IT READS IS OF BULK AT MOST 1048576: true; the input reads as it did. -/
def refBackUptoRow : OpenClaim := { program := "ytiianjnjjginiaa", sum := "70160ada26d96383221b32c548e4b137dc4bdea160c117fc6009ccb46352ac2e", func := "paling/palinglaw01.RefBack", spec := "refBack", apart := false, narrowed := true }
def RefBackUptoSaid : Prop := refBackUptoRow.holds Try.pinned (OpenSpec.upto refBackSpec)

/-- 'palinglaw01.RefSets', WHERE WHAT IT READS IS OF BULK AT MOST 1048576: true; the input reads as it did. -/
def refSetsUptoRow : OpenClaim := { program := "ytiianjnjjginiaa", sum := "70160ada26d96383221b32c548e4b137dc4bdea160c117fc6009ccb46352ac2e", func := "paling/palinglaw01.RefSets", spec := "refSets", apart := false, narrowed := true }
def RefSetsUptoSaid : Prop := refSetsUptoRow.holds Try.pinned (OpenSpec.upto refSetsSpec)

/-- 'palinglaw01.RefApart', WHERE WHAT IT READS IS OF BULK AT MOST 1048576: true; the input reads as it did. -/
def refApartUptoRow : OpenClaim := { program := "ytiianjnjjginiaa", sum := "70160ada26d96383221b32c548e4b137dc4bdea160c117fc6009ccb46352ac2e", func := "paling/palinglaw01.RefApart", spec := "refApart", apart := false, narrowed := true }
def RefApartUptoSaid : Prop := refApartUptoRow.holds Try.pinned (OpenSpec.upto refApartSpec)

end Rows
end Go.Proofs.Ytiianjnjjginiaa

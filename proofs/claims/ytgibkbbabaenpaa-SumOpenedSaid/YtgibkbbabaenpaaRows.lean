/-
  No cell of these rows narrows 'for every input' (looked for: loops, veiled, ifaces, maps, wideKeys, modest, calm, conditions, laid).
  DERIVED. THE GIVEN ROWS OF THIS SEAT. 7 by the template 'for every input the law returns true; each argument reads behind the call as it read before'; 0 by the template 'total and deterministic' (their statements: YtgibkbbabaenpaaTotals.lean).
  GIVEN WITH THE SEED: the statements are not yours to turn. If you find one false, say at which input.
  Laid BY PROGRAM, IN A SANDBOX (cutbox-rows.mjs): the forced cells as the released guide's own fill.sh prints them over the translation bc51b5313a2f7e04… (all of the seat's roots in one cut). By AI agents, Wed Nov 11 2026. No macro, syntax, notation, axiom, sorry.
-/
import Derived.Test.YtgibkbbabaenpaaChecked
import GoSem.Claim
import GoSem.ClaimJoined
import GoSem.ClaimMapViews
import Derived.JoinedTies
import Derived.KernelRfl
namespace Go.Proofs.Ytgibkbbabaenpaa
/- THE CELL 'sum', in the pinned program and in every row, IS THE sha256 OF THE DUMP (.gsa) THAT YtgibkbbabaenpaaProg.lean LOADS. Nothing in Lean hashes anything: it is a label: what it is worth is what the hold of that sum in a sandbox is worth. -/
noncomputable def Try.pinned : Pinned := { name := "ytgibkbbabaenpaa", sum := "bc51b5313a2f7e04303f36ef585cbe96e9663372d09cfdee9a031a453b0b082a", checked := Try.checked }
namespace Rows
def none {H : Type} : Left H := { results := [], args := [] }

/-- 'bowspritlaw03.SumIs': WHATEVER THE INPUT: true; the input reads as it did. -/
def sumIsSpec : ChangeSpec := { name := "sumIs", fn := fun _ => fun
  | [d1, d2] => { results := [.lit (.bool true)], args := [d1, d2] }
  | _ => none }
def sumIsRow : OpenClaim := { program := "ytgibkbbabaenpaa", sum := "bc51b5313a2f7e04303f36ef585cbe96e9663372d09cfdee9a031a453b0b082a", func := "bowsprit/bowspritlaw03.SumIs", spec := "sumIs", unfollowed := true, recurses := true, apart := false }
def SumIsSaid : Prop := sumIsRow.holds Try.pinned (OpenSpec.ofChange sumIsSpec)

/-- ITS FALSE NEIGHBOUR: 'it returns false'. Refute it at one input. -/
def sumIsWrong : ChangeSpec := { name := "sumIs", fn := fun _ => fun
  | [d1, d2] => { results := [.lit (.bool false)], args := [d1, d2] }
  | _ => none }
def SumIsWrongFalsely : Prop := sumIsRow.holds Try.pinned (OpenSpec.ofChange sumIsWrong)

/-- 'bowspritlaw03.SumSeals': WHATEVER THE INPUT: true; the input reads as it did. -/
def sumSealsSpec : ChangeSpec := { name := "sumSeals", fn := fun _ => fun
  | [d] => { results := [.lit (.bool true)], args := [d] }
  | _ => none }
def sumSealsRow : OpenClaim := { program := "ytgibkbbabaenpaa", sum := "bc51b5313a2f7e04303f36ef585cbe96e9663372d09cfdee9a031a453b0b082a", func := "bowsprit/bowspritlaw03.SumSeals", spec := "sumSeals", unfollowed := true, recurses := true, apart := false }
def SumSealsSaid : Prop := sumSealsRow.holds Try.pinned (OpenSpec.ofChange sumSealsSpec)

/-- ITS FALSE NEIGHBOUR: 'it returns false'. Refute it at one input. -/
def sumSealsWrong : ChangeSpec := { name := "sumSeals", fn := fun _ => fun
  | [d] => { results := [.lit (.bool false)], args := [d] }
  | _ => none }
def SumSealsWrongFalsely : Prop := sumSealsRow.holds Try.pinned (OpenSpec.ofChange sumSealsWrong)

/-- 'bowspritlaw03.SumPlaces': WHATEVER THE INPUT: true; the input reads as it did. -/
def sumPlacesSpec : ChangeSpec := { name := "sumPlaces", fn := fun _ => fun
  | [d1, d2] => { results := [.lit (.bool true)], args := [d1, d2] }
  | _ => none }
def sumPlacesRow : OpenClaim := { program := "ytgibkbbabaenpaa", sum := "bc51b5313a2f7e04303f36ef585cbe96e9663372d09cfdee9a031a453b0b082a", func := "bowsprit/bowspritlaw03.SumPlaces", spec := "sumPlaces", unfollowed := true, recurses := true, apart := false }
def SumPlacesSaid : Prop := sumPlacesRow.holds Try.pinned (OpenSpec.ofChange sumPlacesSpec)

/-- ITS FALSE NEIGHBOUR: 'it returns false'. Refute it at one input. -/
def sumPlacesWrong : ChangeSpec := { name := "sumPlaces", fn := fun _ => fun
  | [d1, d2] => { results := [.lit (.bool false)], args := [d1, d2] }
  | _ => none }
def SumPlacesWrongFalsely : Prop := sumPlacesRow.holds Try.pinned (OpenSpec.ofChange sumPlacesWrong)

/-- 'bowspritlaw03.SumWhere': WHATEVER THE INPUT: true; the input reads as it did. -/
def sumWhereSpec : ChangeSpec := { name := "sumWhere", fn := fun _ => fun
  | [d1, d2, d3] => { results := [.lit (.bool true)], args := [d1, d2, d3] }
  | _ => none }
def sumWhereRow : OpenClaim := { program := "ytgibkbbabaenpaa", sum := "bc51b5313a2f7e04303f36ef585cbe96e9663372d09cfdee9a031a453b0b082a", func := "bowsprit/bowspritlaw03.SumWhere", spec := "sumWhere", unfollowed := true, recurses := true, apart := false }
def SumWhereSaid : Prop := sumWhereRow.holds Try.pinned (OpenSpec.ofChange sumWhereSpec)

/-- ITS FALSE NEIGHBOUR: 'it returns false'. Refute it at one input. -/
def sumWhereWrong : ChangeSpec := { name := "sumWhere", fn := fun _ => fun
  | [d1, d2, d3] => { results := [.lit (.bool false)], args := [d1, d2, d3] }
  | _ => none }
def SumWhereWrongFalsely : Prop := sumWhereRow.holds Try.pinned (OpenSpec.ofChange sumWhereWrong)

/-- 'bowspritlaw03.SumNarrow': WHATEVER THE INPUT: true; the input reads as it did. -/
def sumNarrowSpec : ChangeSpec := { name := "sumNarrow", fn := fun _ => fun
  | [d1, d2, d3] => { results := [.lit (.bool true)], args := [d1, d2, d3] }
  | _ => none }
def sumNarrowRow : OpenClaim := { program := "ytgibkbbabaenpaa", sum := "bc51b5313a2f7e04303f36ef585cbe96e9663372d09cfdee9a031a453b0b082a", func := "bowsprit/bowspritlaw03.SumNarrow", spec := "sumNarrow", unfollowed := true, recurses := true, apart := false }
def SumNarrowSaid : Prop := sumNarrowRow.holds Try.pinned (OpenSpec.ofChange sumNarrowSpec)

/-- ITS FALSE NEIGHBOUR: 'it returns false'. Refute it at one input. -/
def sumNarrowWrong : ChangeSpec := { name := "sumNarrow", fn := fun _ => fun
  | [d1, d2, d3] => { results := [.lit (.bool false)], args := [d1, d2, d3] }
  | _ => none }
def SumNarrowWrongFalsely : Prop := sumNarrowRow.holds Try.pinned (OpenSpec.ofChange sumNarrowWrong)

/-- 'bowspritlaw03.SumOpened': WHATEVER THE INPUT: true; the input reads as it did. -/
def sumOpenedSpec : ChangeSpec := { name := "sumOpened", fn := fun _ => fun
  | [d1, d2, d3] => { results := [.lit (.bool true)], args := [d1, d2, d3] }
  | _ => none }
def sumOpenedRow : OpenClaim := { program := "ytgibkbbabaenpaa", sum := "bc51b5313a2f7e04303f36ef585cbe96e9663372d09cfdee9a031a453b0b082a", func := "bowsprit/bowspritlaw03.SumOpened", spec := "sumOpened", unfollowed := true, recurses := true, apart := false }
def SumOpenedSaid : Prop := sumOpenedRow.holds Try.pinned (OpenSpec.ofChange sumOpenedSpec)

/-- ITS FALSE NEIGHBOUR: 'it returns false'. Refute it at one input. -/
def sumOpenedWrong : ChangeSpec := { name := "sumOpened", fn := fun _ => fun
  | [d1, d2, d3] => { results := [.lit (.bool false)], args := [d1, d2, d3] }
  | _ => none }
def SumOpenedWrongFalsely : Prop := sumOpenedRow.holds Try.pinned (OpenSpec.ofChange sumOpenedWrong)

/-- 'bowspritlaw03.SumSpread': WHATEVER THE INPUT: true; the input reads as it did. -/
def sumSpreadSpec : ChangeSpec := { name := "sumSpread", fn := fun _ => fun
  | [d1, d2, d3] => { results := [.lit (.bool true)], args := [d1, d2, d3] }
  | _ => none }
def sumSpreadRow : OpenClaim := { program := "ytgibkbbabaenpaa", sum := "bc51b5313a2f7e04303f36ef585cbe96e9663372d09cfdee9a031a453b0b082a", func := "bowsprit/bowspritlaw03.SumSpread", spec := "sumSpread", unfollowed := true, recurses := true, apart := false }
def SumSpreadSaid : Prop := sumSpreadRow.holds Try.pinned (OpenSpec.ofChange sumSpreadSpec)

/-- ITS FALSE NEIGHBOUR: 'it returns false'. Refute it at one input. -/
def sumSpreadWrong : ChangeSpec := { name := "sumSpread", fn := fun _ => fun
  | [d1, d2, d3] => { results := [.lit (.bool false)], args := [d1, d2, d3] }
  | _ => none }
def SumSpreadWrongFalsely : Prop := sumSpreadRow.holds Try.pinned (OpenSpec.ofChange sumSpreadWrong)

/- THE SECOND FORM. 'bulk': how many values and letters a reading holds, each counted each time it is reached (what is shared counts as often as it is met; a slice's spare places count too). A statement '..UptoSaid' is the law's where the arguments, and the package variables that the reading takes, are together of bulk at most 1048576: NARROWER than '..Said'. Prove '..Said' where nothing that the law and all that it calls make is longer than what came in: it says more and counts as full. Else prove '..UptoSaid'. A law counts once. -/
mutual
def uptoBulk {H : Type} : DataW H → Nat
  | .lit (.string bytes) => bytes.length + 1
  | .lit _ => 1
  | .nil => 1
  | .ptr d => uptoBulk d + 1
  | .slice elems spare => uptoBulkAll elems + uptoBulkAll spare + 1
  | .agg parts => uptoBulkAll parts + 1
  | .iface _ d => uptoBulk d + 1
  | .map entries => uptoBulkEntries entries + 1
  | .held _ => 1
def uptoBulkAll {H : Type} : List (DataW H) → Nat
  | [] => 0
  | d :: r => uptoBulk d + uptoBulkAll r
def uptoBulkEntries {H : Type} : List (Lit × DataW H) → Nat
  | [] => 0
  | x :: r => uptoBulkEntry x + uptoBulkEntries r
def uptoBulkEntry {H : Type} : Lit × DataW H → Nat
  | (.string bytes, d) => bytes.length + uptoBulk d + 1
  | (_, d) => uptoBulk d + 1
 end
def uptoSmall : (H : Type) → List (DataW H) → Bool := fun _ ds => decide (uptoBulkAll ds ≤ 1048576)
def OpenSpec.upto (s : _root_.Go.ChangeSpec) : _root_.Go.OpenSpec := { _root_.Go.OpenSpec.ofChange s with cond := some uptoSmall }

/-- 'bowspritlaw03.SumIs', WHERE WHAT IT READS IS OF BULK AT MOST 1048576: true; the input reads as it did. -/
def sumIsUptoRow : OpenClaim := { program := "ytgibkbbabaenpaa", sum := "bc51b5313a2f7e04303f36ef585cbe96e9663372d09cfdee9a031a453b0b082a", func := "bowsprit/bowspritlaw03.SumIs", spec := "sumIs", unfollowed := true, recurses := true, apart := false, narrowed := true }
def SumIsUptoSaid : Prop := sumIsUptoRow.holds Try.pinned (OpenSpec.upto sumIsSpec)

/-- 'bowspritlaw03.SumSeals', WHERE WHAT IT READS IS OF BULK AT MOST 1048576: true; the input reads as it did. -/
def sumSealsUptoRow : OpenClaim := { program := "ytgibkbbabaenpaa", sum := "bc51b5313a2f7e04303f36ef585cbe96e9663372d09cfdee9a031a453b0b082a", func := "bowsprit/bowspritlaw03.SumSeals", spec := "sumSeals", unfollowed := true, recurses := true, apart := false, narrowed := true }
def SumSealsUptoSaid : Prop := sumSealsUptoRow.holds Try.pinned (OpenSpec.upto sumSealsSpec)

/-- 'bowspritlaw03.SumPlaces', WHERE WHAT IT READS IS OF BULK AT MOST 1048576: true; the input reads as it did. -/
def sumPlacesUptoRow : OpenClaim := { program := "ytgibkbbabaenpaa", sum := "bc51b5313a2f7e04303f36ef585cbe96e9663372d09cfdee9a031a453b0b082a", func := "bowsprit/bowspritlaw03.SumPlaces", spec := "sumPlaces", unfollowed := true, recurses := true, apart := false, narrowed := true }
def SumPlacesUptoSaid : Prop := sumPlacesUptoRow.holds Try.pinned (OpenSpec.upto sumPlacesSpec)

/-- 'bowspritlaw03.SumWhere', WHERE WHAT IT READS IS OF BULK AT MOST 1048576: true; the input reads as it did. -/
def sumWhereUptoRow : OpenClaim := { program := "ytgibkbbabaenpaa", sum := "bc51b5313a2f7e04303f36ef585cbe96e9663372d09cfdee9a031a453b0b082a", func := "bowsprit/bowspritlaw03.SumWhere", spec := "sumWhere", unfollowed := true, recurses := true, apart := false, narrowed := true }
def SumWhereUptoSaid : Prop := sumWhereUptoRow.holds Try.pinned (OpenSpec.upto sumWhereSpec)

/-- 'bowspritlaw03.SumNarrow', WHERE WHAT IT READS IS OF BULK AT MOST 1048576: true; the input reads as it did. -/
def sumNarrowUptoRow : OpenClaim := { program := "ytgibkbbabaenpaa", sum := "bc51b5313a2f7e04303f36ef585cbe96e9663372d09cfdee9a031a453b0b082a", func := "bowsprit/bowspritlaw03.SumNarrow", spec := "sumNarrow", unfollowed := true, recurses := true, apart := false, narrowed := true }
def SumNarrowUptoSaid : Prop := sumNarrowUptoRow.holds Try.pinned (OpenSpec.upto sumNarrowSpec)

/-- 'bowspritlaw03.SumOpened', WHERE WHAT IT READS IS OF BULK AT MOST 1048576: true; the input reads as it did. -/
def sumOpenedUptoRow : OpenClaim := { program := "ytgibkbbabaenpaa", sum := "bc51b5313a2f7e04303f36ef585cbe96e9663372d09cfdee9a031a453b0b082a", func := "bowsprit/bowspritlaw03.SumOpened", spec := "sumOpened", unfollowed := true, recurses := true, apart := false, narrowed := true }
def SumOpenedUptoSaid : Prop := sumOpenedUptoRow.holds Try.pinned (OpenSpec.upto sumOpenedSpec)

/-- 'bowspritlaw03.SumSpread', WHERE WHAT IT READS IS OF BULK AT MOST 1048576: true; the input reads as it did. -/
def sumSpreadUptoRow : OpenClaim := { program := "ytgibkbbabaenpaa", sum := "bc51b5313a2f7e04303f36ef585cbe96e9663372d09cfdee9a031a453b0b082a", func := "bowsprit/bowspritlaw03.SumSpread", spec := "sumSpread", unfollowed := true, recurses := true, apart := false, narrowed := true }
def SumSpreadUptoSaid : Prop := sumSpreadUptoRow.holds Try.pinned (OpenSpec.upto sumSpreadSpec)

end Rows
end Go.Proofs.Ytgibkbbabaenpaa

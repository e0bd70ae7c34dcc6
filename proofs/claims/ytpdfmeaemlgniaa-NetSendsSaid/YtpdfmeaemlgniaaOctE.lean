
import Derived.Test.YtpdfmeaemlgniaaOctD
namespace Go.Proofs.Ytpdfmeaemlgniaa
open Go.RowKit
set_option linter.unusedVariables false

/-- the document's reader as a value -/
def refR (v : Value) (r : R) : Value := .agg #[v, .int .i64 r.pos, .int .i64 r.why]

def OutPair (w : World) (r : R) (v : Value) (l : List UInt8) (e : Ending) (w' : World) : Prop :=
  ∃ v2, e = .returned (.tuple #[refR v r, v2]) ∧ NewB w w' v2 l ∧ Ext [] w w'

end Go.Proofs.Ytpdfmeaemlgniaa

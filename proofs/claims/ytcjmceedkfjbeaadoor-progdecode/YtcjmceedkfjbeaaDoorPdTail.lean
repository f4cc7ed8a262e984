import Derived.Test.YtcjmceedkfjbeaaDoorPdSt
/-! ProgDecode: the function's code from a region on. -/
namespace Go.Proofs.YtcjmceedkfjbeaaDoor
set_option linter.unusedVariables false
set_option maxRecDepth 20000

def regFirst : Code → Option Nat
  | .region n _ _ => some n
  | .seq a _ => regFirst a
  | _ => none
def tailAt (k : Nat) : Code → Option Code
  | .seq a b => if regFirst a = some k then some (.seq a b) else tailAt k b
  | _ => none
noncomputable def decTail (k : Nat) : Code := (Tryd.f4.body.bind (tailAt k)).getD .skip
end Go.Proofs.YtcjmceedkfjbeaaDoor

/- UcdNil, run on what is known by the kernel. -/
import Derived.Test.YtgoiaciamgailaaGreatDoorRRRREvW
namespace Go.Proofs.YtgoiaciamgailaaGreatDoorRRRR.ucdNil
open Go.Ev
set_option maxRecDepth 1000000 in
theorem run : good ((ev (envOf Tryz.prog cutsN glN) extN 5000 200).call 3 [] ⟨.e, 0⟩) = true := by decide +kernel
end Go.Proofs.YtgoiaciamgailaaGreatDoorRRRR.ucdNil

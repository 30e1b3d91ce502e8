/- What the bounds' answers are. -/
import Derived.Test.YtlhbnmaalhainaaBnd
namespace Go.Proofs.Ytlhbnmaalhainaa
set_option maxRecDepth 100000 in
theorem bnd1 : changeR (alL 50) [⟨[98], [120]⟩] = ([], 10) := by decide +kernel
set_option maxRecDepth 100000 in
theorem bnd2 : (changeR (alL 49) [⟨[98], [120]⟩]).2 = 0 := by decide +kernel
theorem bnd3 : changeR [] (alL 51) = ([], 2) := by decide +kernel
set_option maxRecDepth 100000 in
theorem bnd4 : mayN (as97 1000) = true := by decide +kernel
theorem bnd5 : mayN (as97 1001) = false := by decide +kernel
theorem bnd6 : mayA ⟨as97 32, []⟩ = true ∧ mayA ⟨as97 33, []⟩ = false ∧ mayA ⟨[], []⟩ = false ∧ mayA ⟨[49, 97], []⟩ = false := by decide +kernel
theorem bnd7 : mayL (alL 50) = true ∧ mayL (alL 51) = false := by decide +kernel
end Go.Proofs.Ytlhbnmaalhainaa

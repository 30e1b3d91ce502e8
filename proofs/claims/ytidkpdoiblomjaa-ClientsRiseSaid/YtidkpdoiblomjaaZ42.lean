/- The result of bytes, by the document. -/
import Derived.Test.YtidkpdoiblomjaaZ31
import Derived.Test.YtidkpdoiblomjaaZ33
import Derived.Test.YtidkpdoiblomjaaZ41
import Derived.Test.YtidkpdoiblomjaaZ37
import Derived.Test.YtidkpdoiblomjaaZ26
namespace Go.Proofs.Ytidkpdoiblomjaa.Tlv
open Go.RowKit Go.Lib Go.Sort
set_option maxRecDepth 100000
set_option linter.unusedVariables false
set_option linter.unusedSimpArgs false
theorem ownE_at {W : World} {base : Nat} {es : List En} {acc : List Eny} {v : Value} (h1 : RowK kE W base v es) (h2 : EnO W base es acc) : RdE W v acc := (ResOwn.at (r := ⟨0, false, acc, []⟩) ⟨⟨es, h1, h2⟩, nil_row kB W base⟩).e
end Go.Proofs.Ytidkpdoiblomjaa.Tlv

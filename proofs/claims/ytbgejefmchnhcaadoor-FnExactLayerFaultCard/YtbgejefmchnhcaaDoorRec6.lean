/- Records: MakeFile, MakeDir, MakeWhite, MakeLink, of the program and of its model. Condition (of the program's): its table of kinds holds what its own initialiser lays. -/
import Derived.Test.YtbgejefmchnhcaaDoorRec5
namespace Go.Proofs.YtbgejefmchnhcaaDoor.Recs
open Go.RowKit Paths

theorem makeC_short {k m : Int} {p b : ByteArray} {o : Bool} (h1 : ¬ 65536 < p.size) (h2 : ¬ 65536 < b.size) : makeC k m p b o = faultI k p.data.toList b.size m o := if_neg (by omega)
theorem empty_short : ¬ 65536 < (⟨#[]⟩ : ByteArray).size := by decide

end Go.Proofs.YtbgejefmchnhcaaDoor.Recs

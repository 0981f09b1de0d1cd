/- Several texts of mine in one file (each begins with its own remark). -/
import Derived.Test.YtjiljnfiofmpaaaDoorProg
import Derived.WalkKit
import Derived.LaidEql
import Derived.Stop.Asserts
import Derived.Below
import Derived.Stop.LaidErr
import Derived.Stop.LaidTwo
/- Errors: errors.Is at nil, at a sentinel, at the program's own error that names a record. Conditions: as each states. -/

namespace Go.Proofs.YtjiljnfiofmpaaaDoor.Errs
set_option maxRecDepth 100000
open Go.RowKit Go.Extern

/-! ### Closed facts of the types -/
theorem compE (w : World) : ((Extern.ReflectliteType.method fun t => do Extern.Rtype.noPackHeld "Comparable" t; (fun a => Value.bool a.comparable) <$> typeInfo t) #[.agg #[.pointer (some ⟨4, 121, none⟩)]]).run Tryd.prog w = .ok (.bool true) w := by kernel_rfl
theorem strComp : (Tryd.prog.info? 121).map (·.comparable) = some true := by kernel_rfl
theorem strSize : (Tryd.prog.info? 137).map (·.size) = some 1 := by kernel_rfl

/-- An error of errors.New's make. -/
def errV (a : Addr) : Value := .iface 121 (.pointer (some a))
/-- The program's error that names a record. -/
def recV (i c : Int) : Value := .iface 89 (.agg #[.int .i64 i, .int .i64 c])

end Go.Proofs.YtjiljnfiofmpaaaDoor.Errs

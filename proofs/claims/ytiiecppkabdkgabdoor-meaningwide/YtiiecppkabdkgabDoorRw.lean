/- The reference's Weight: the walk. -/
import Derived.Test.YtiiecppkabdkgabDoorRt
import Derived.Test.YtiiecppkabdkgabDoorGRlPlRj
import Derived.Test.YtiiecppkabdkgabDoorGTailScWaWoWmWwMwMe
import Derived.Test.YtiiecppkabdkgabDoorGRdMrVrOw
import Derived.Deep.DeepCutAuto
namespace Go.Proofs.YtiiecppkabdkgabDoor
open Go.RowKit
theorem wrapi64_in (n : Int) (h : -9223372036854775808 ≤ n) (h' : n ≤ 9223372036854775807) : IntKind.i64.wrap n = n := by
  simp [IntKind.wrap, IntKind.bits, IntKind.signed]; omega
end Go.Proofs.YtiiecppkabdkgabDoor

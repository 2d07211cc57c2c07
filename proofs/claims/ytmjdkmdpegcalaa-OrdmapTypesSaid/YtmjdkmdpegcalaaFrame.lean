/- What every row of this seat needs. -/
import Derived.Test.YtmjdkmdpegcalaaRows
import Derived.Test.YtmjdkmdpegcalaaChecked
import Derived.WalkKit
import Derived.ProofKit
import Derived.OpenShut
import Derived.ChangeOld
import Derived.Below
namespace Go.Proofs.Ytmjdkmdpegcalaa
open Go.ChangeShapes Go.WideShapes Go.ChangeAt Go.RowKit
theorem ownK : ownKnob Try.prog.godebug = none := by kernel_rfl
theorem laidOutK : laidOutB Try.prog = true := by kernel_rfl
end Go.Proofs.Ytmjdkmdpegcalaa

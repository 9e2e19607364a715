/-
  TEXT JsonRGet (seat's own).
-/
import Derived.Test.YtdiopfngabbkdaaGreatDoorN7
import Derived.Test.YtdiopfngabbkdaaGreatDoorCJsonRSame
import Derived.Test.YtdiopfngabbkdaaGreatDoorCJsonRCopM
set_option linter.unusedSimpArgs false
set_option linter.unusedVariables false
set_option linter.unusedVariables false
namespace Go.Proofs.YtdiopfngabbkdaaGreatDoor
open Go.RowKit
end Go.Proofs.YtdiopfngabbkdaaGreatDoor

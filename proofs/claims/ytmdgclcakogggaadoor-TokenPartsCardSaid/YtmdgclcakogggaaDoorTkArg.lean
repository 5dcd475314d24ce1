/-
  What the cards' frames take.
-/
import Derived.Test.YtmdgclcakogggaaDoorLaw
import Derived.Test.YtmdgclcakogggaaDoorTkLaid
import Derived.SevenTiedAt
import Derived.ChangeVars
import Derived.JoinedOf
import Derived.RowKitTokens
import Derived.LaidLaws
import Derived.Stop.Joined
namespace Go.Proofs.YtmdgclcakogggaaDoor
end Go.Proofs.YtmdgclcakogggaaDoor

/-
  What the cards' frames take.
-/
import Derived.Test.YtkaceghngjpemaaDoorLaw
import Derived.Test.YtkaceghngjpemaaDoorTkLaid
import Derived.SevenTiedAt
import Derived.ChangeVars
import Derived.JoinedOf
import Derived.RowKitTokens
import Derived.LaidLaws
import Derived.Stop.Joined
namespace Go.Proofs.YtkaceghngjpemaaDoor
end Go.Proofs.YtkaceghngjpemaaDoor

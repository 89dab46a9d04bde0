/-
  The reference's ring: Valid, All, Open.
-/
import Derived.Test.YtapdabebiinnnaaSe
namespace Go.Proofs.Ytapdabebiinnnaa
open Go.RowKit Go.MapKept Go.Maps Go.WideMaps

end Go.Proofs.Ytapdabebiinnnaa

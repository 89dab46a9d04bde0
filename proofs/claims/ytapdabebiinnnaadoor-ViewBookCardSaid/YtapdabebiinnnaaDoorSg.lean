/-
  The reference's ring: Valid, All, Open.
-/
import Derived.Test.YtapdabebiinnnaaDoorSe
namespace Go.Proofs.YtapdabebiinnnaaDoor
open Go.RowKit Go.MapKept Go.Maps Go.WideMaps

end Go.Proofs.YtapdabebiinnnaaDoor

/-
  What the ring's texts want beside Tg.
-/
import Derived.Test.YthppefkamklakaaDoorTg
import Derived.Test.YthppefkamklakaaDoorCm
import Derived.Test.YthppefkamklakaaDoorSm
import Derived.WalkKit
import Derived.WalkSpells
import Derived.WalkLawsBesides
import Derived.Maps.AppendAt
import Derived.Maps.Keyed
import Derived.DeepKeys4
import Derived.Lib.SmallJoins
import Derived.Lib.Hide
import Derived.IntWalk
import Derived.BigQuiet
import Derived.StillTailTactics
import Derived.Deep.RegionHeld3
import Derived.Deep.MidRow
import Derived.Deep.WholeRow
import Derived.Deep.OwnRows
import Derived.Deep.RegionLawGrows
import Derived.Deep.AppendLies
import Derived.Deep.DeepCutAuto
import Derived.Deep.CutBlock
import Derived.Laws.OwnMore
import Derived.Laws.AppendOwnNone
import Derived.Shelf.SlMaps.Clone
namespace Go.Proofs.YthppefkamklakaaDoor
open Go.RowKit Go.MapKept Go.Maps Go.WideMaps
open Go.ChangeMaps (setBlock)

theorem S_inj {s t : Txt} (h : S s = S t) : s = t := by
  have := congrArg (fun b => b.data.toList) h
  simpa [S_data] using this
end Go.Proofs.YthppefkamklakaaDoor

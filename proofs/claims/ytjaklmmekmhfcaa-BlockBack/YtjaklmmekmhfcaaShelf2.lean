/- slices.Sort and slices.Compact at numbers: contracts of the library, laid at this program (layings and applications alone). -/
import Derived.Shelf.Sort.Plain
import Derived.Ground.Names2Prog
import Derived.Shelf.Slices.CompactI
import Derived.Test.YtjaklmmekmhfcaaProg
namespace Go.Proofs
open Go.Shelf
end Go.Proofs


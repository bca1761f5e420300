/- strings.Builder's String: the library's contract, laid at this program's numbers (one laying, one application). -/
import Derived.Shelf.Strings.BuilderK
import Derived.Test.YtjaklmmekmhfcaaProg
namespace Go.Proofs
open Go.Shelf
end Go.Proofs


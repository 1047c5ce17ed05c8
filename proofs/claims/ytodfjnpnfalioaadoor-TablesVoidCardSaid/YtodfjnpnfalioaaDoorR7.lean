/-
  The document's memory of layer 2: what CAS answers and leaves; condition: at most 999 words, numbers of their kinds, fewer than 2^62 steps.
-/
import Derived.Test.YtodfjnpnfalioaaDoorR6
namespace Go.Proofs.YtodfjnpnfalioaaDoor
open Go.RowKit

end Go.Proofs.YtodfjnpnfalioaaDoor

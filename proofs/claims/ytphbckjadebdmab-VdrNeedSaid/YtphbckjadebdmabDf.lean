/-
  Whether a set may be: the document's Check.
-/
import Derived.Test.YtphbckjadebdmabDe
namespace Go.Proofs.Ytphbckjadebdmab
open Go.RowKit

end Go.Proofs.Ytphbckjadebdmab

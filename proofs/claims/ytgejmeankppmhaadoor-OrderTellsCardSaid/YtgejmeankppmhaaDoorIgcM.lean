/- What the document's image is asked, and blocks of both; images as the document's. A block of an image; an image as the document's. -/
import Derived.Test.YtgejmeankppmhaaDoorIgaM
namespace Go.Proofs.YtgejmeankppmhaaDoor
open Go.RowKit
set_option maxRecDepth 20000

def blk (i : Im) (n : Nat) : List UInt8 := if n < i.l.length / 8 then (i.l.drop (8 * n)).take 8 else []
theorem str_cut (l : List UInt8) (a b : Nat) (_ : b ≤ (str l).size) : (str l).extract a b = str ((l.drop a).take (b - a)) := str_extract l a b

end Go.Proofs.YtgejmeankppmhaaDoor

namespace Go.Proofs.YtgejmeankppmhaaDoor
open Go.RowKit
set_option maxRecDepth 20000

end Go.Proofs.YtgejmeankppmhaaDoor

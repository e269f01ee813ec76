/- What stays, and new blocks: all of it stands in Mbits. -/
import Derived.Test.YtacaonlahggdeaaDoorMbits
namespace Go.Proofs.YtacaonlahggdeaaDoor
end Go.Proofs.YtacaonlahggdeaaDoor

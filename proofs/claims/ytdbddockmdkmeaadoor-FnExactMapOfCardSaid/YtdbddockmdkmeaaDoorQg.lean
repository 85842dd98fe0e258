/- Whether a range holds an address (LiesAt's). -/
import Derived.Test.YtdbddockmdkmeaaDoorQd
namespace Go.Proofs.YtdbddockmdkmeaaDoor
open Go.RowKit Go.Shelf
attribute [local go_sem] Oper.semAt_some

end Go.Proofs.YtdbddockmdkmeaaDoor

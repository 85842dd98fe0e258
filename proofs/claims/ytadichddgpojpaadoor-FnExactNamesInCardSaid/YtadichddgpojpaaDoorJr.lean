/- impl.joinNames and impl.PathOf over paths. -/
import Derived.Test.YtadichddgpojpaaDoorPp
namespace Go.Proofs.YtadichddgpojpaaDoor
open Go.RowKit Go.Shelf
attribute [local go_sem] Oper.semAt_some

theorem keptN_from {w w' : World} {b B Bl : Nat} (h : Lib.OthersKept 5 (some b) w w') (hb : Below Bl w w') (hB : b < B) : KeepsN B w w' :=
  ⟨hb.size, fun k o hk ho hn => h k o ho (fun he => by injection he with he; omega) (fun c fz he => (hn c _ fz he).1 rfl)⟩

end Go.Proofs.YtadichddgpojpaaDoor

import Derived.Test.YtfploeefmnbpcaaGreatGLawFMay
import Derived.Test.YtfploeefmnbpcaaGreatGArgF
/- The law FaultMay: its walk, as the frame asks it. -/
namespace Go.Proofs.YtfploeefmnbpcaaGreat
open Go.RowKit Mp
theorem faultMay_walk {IsN : IsT} {Is : PlanT} (P : PlanC IsN Is) (G : Begun7) (ga gb gc : Int) (f : FtM) (a : Option Addr) (len cap : Nat) (l : List FtM) (w : World) (hlen : l.length = len) (hcap : len ≤ cap) (hmax : cap ≤ maxLen) (_ : ∀ f ∈ l, okF f) (hl : FaultsIs w a l) :
    Calls Tryz.prog 6 #[geoV ga gb gc, encF f, .slice a len cap] w fun e w' => e = .returned (.bool true) ∧ Below w.heap.size w w' := by
  subst hlen
  exact faultMay_core P G ga gb gc f a cap l w hl hcap hmax
end Go.Proofs.YtfploeefmnbpcaaGreat

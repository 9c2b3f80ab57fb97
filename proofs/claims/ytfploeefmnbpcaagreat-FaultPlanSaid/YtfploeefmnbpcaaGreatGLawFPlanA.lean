import Derived.Test.YtfploeefmnbpcaaGreatGLawFPlan
import Derived.Test.YtfploeefmnbpcaaGreatGArgF
/- The law FaultPlan: its walk, as the frame asks it. -/
namespace Go.Proofs.YtfploeefmnbpcaaGreat
open Go.RowKit Mp
theorem faultPlan_walk {IsN : IsT} {Is : PlanT} (P : PlanC IsN Is) (G : Begun7) (ga gb gc : Int) (a : Option Addr) (len cap : Nat) (l : List FtM) (a2 : Option Addr) (len2 cap2 : Nat) (zs : List Int) (w : World) (hlen : l.length = len) (hcap : len ≤ cap) (hmax : cap ≤ maxLen) (_ : ∀ f ∈ l, okF f) (hl : FaultsIs w a l) (hz : IsInts w a2 len2 cap2 zs) :
    Calls Tryz.prog 7 #[geoV ga gb gc, .slice a len cap, .slice a2 len2 cap2] w fun e w' => e = .returned (.bool true) ∧ Below w.heap.size w w' := by
  subst hlen
  exact faultPlan_core P G ga gb gc a cap l a2 len2 cap2 zs w hl hcap hmax hz
end Go.Proofs.YtfploeefmnbpcaaGreat

/- (No id is changed in this seat's statement.) -/
import Derived.Test.YthllcfmmfnaogabPqPushF
import Derived.Test.YthllcfmmfnaogabPqAbs2
namespace Go.Proofs.Ythllcfmmfnaogab
end Go.Proofs.Ythllcfmmfnaogab

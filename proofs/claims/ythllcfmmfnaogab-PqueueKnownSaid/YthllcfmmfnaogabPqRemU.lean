/- (No id is changed in this seat's statement.) -/
import Derived.Test.YthllcfmmfnaogabPqPushU
import Derived.Test.YthllcfmmfnaogabPqAbs2
namespace Go.Proofs.Ythllcfmmfnaogab
end Go.Proofs.Ythllcfmmfnaogab

/- A row of zeros as a string. -/
import Derived.Test.YtocempcoddahiabTags3
namespace Go.Proofs.Ytocempcoddahiab
open Go.RowKit

theorem zrow_str (m : Nat) (hm : m ≤ 128) (g : Nat) (w' : World) (h : w'.heap[g]? = some (.cells (zrow m) 5)) : Sem.run Try.prog (convert 31 9 (.slice (some ⟨g, 0, none⟩) m m)) w' = .ok (.string (strOfNums (List.replicate m 0))) w' :=
  str_of (zero_gen m h (by omega))

end Go.Proofs.Ytocempcoddahiab

/- The contract of region.change: what a closure makes of what pages are like. -/
import Derived.Test.YtkiamhmjkpbaiaeReg6
namespace Go.Proofs.Ytkiamhmjkpbaiae
open Go.RowKit
set_option linter.unusedSimpArgs false
set_option linter.unusedVariables false

/-- What an element is like is written over. -/
theorem row_attr {xs : List Value} {L : List R6} {k : Nat} (x : R6) (a : A4) (hk : k < L.length) (hx : L.getD k zR = x) (hxt : xs.take (L.length * 6) = flatL encR L) :
    ((((xs.set (k * 6 + 2) (.int .i64 a.1)).set (k * 6 + 3) (.int .i64 a.2.1)).set (k * 6 + 4) (.bool a.2.2.1)).set (k * 6 + 5) (.bool a.2.2.2)).take (L.length * 6) = flatL encR (L.set k (x.1, x.2.1, a)) := by
  have hg : L[k] = x := by rw [← hx, List.getD_eq_getElem?_getD, List.getElem?_eq_getElem hk]; rfl
  have hs : L = L.take k ++ x :: L.drop (k + 1) := by rw [← hg, ← List.drop_eq_getElem_cons hk, List.take_append_drop]
  have hlen : (flatL encR (L.take k)).length = k * 6 := by rw [flatL_len shR, List.length_take]; congr 1; omega
  have hs2 : L.set k (x.1, x.2.1, a) = L.take k ++ (x.1, x.2.1, a) :: L.drop (k + 1) := by
    conv => lhs; rw [hs]
    rw [List.set_append_right _ _ (by rw [List.length_take]; omega), List.length_take, show k - min k L.length = 0 by omega]
    rfl
  have hf : flatL encR L = flatL encR (L.take k) ++ (encR x ++ flatL encR (L.drop (k + 1))) := by
    conv => lhs; rw [hs]
    rw [flatL_append, flatL_cons]
  rw [List.take_set, List.take_set, List.take_set, List.take_set, hxt, hs2, flatL_append, flatL_cons, hf]
  rw [List.set_append_right _ _ (by omega), List.set_append_right _ _ (by omega), List.set_append_right _ _ (by omega), List.set_append_right _ _ (by omega), hlen]
  rw [show k * 6 + 2 - k * 6 = 2 by omega, show k * 6 + 3 - k * 6 = 3 by omega, show k * 6 + 4 - k * 6 = 4 by omega, show k * 6 + 5 - k * 6 = 5 by omega]
  rfl

end Go.Proofs.Ytkiamhmjkpbaiae

/- tags.New, Get and Set answer what the document says: framewardenlaw.TagsTell returns true at every slice of bytes within the form's own reach and at all numbers. -/
import Derived.Test.YtocempcoddahiabTagsTellLow
import Derived.Test.YtocempcoddahiabTagsTellHigh
import Derived.Test.YtocempcoddahiabTagsTellMid
namespace Go.Proofs.Ytocempcoddahiab
open Go.RowKit

theorem tagsTell_walk (v : Value) (zs : List Int) (p n t m : Int) (w : World) (h : IsBytes w v zs) (_ : (Lit.int .i64 p).wf = true) (hn : (Lit.int .i64 n).wf = true) (_ : (Lit.int .i64 t).wf = true) (_ : (Lit.int .i64 m).wf = true) :
    Calls Try.prog 4 #[v, .int .i64 p, .int .i64 n, .int .i64 t, .int .i64 m] w fun e w' => e = .returned (.bool true) ∧ Below w.heap.size w w' := by
  have hn' := (bounds_i64 hn).2
  have hmk := run_make_z (newN m) (by have := newN_le m; omega)
  by_cases h1 : m < 0
  · exact tagsTell_low v zs p n t m w h hn' (newN m) (newN_le m) hmk (tnew_any m) h1 (by rw [newN_low h1]; decide)
  by_cases h2 : 256 < m
  · exact tagsTell_high v zs p n t m w h hn' (newN m) (newN_le m) hmk (tnew_any m) h2 (by rw [newN_high h2]; decide)
  · refine tagsTell_mid v zs p n t m w h hn' (newN m) (newN_le m) hmk (tnew_any m) (by omega) (by omega) ?_
    rw [← newN_mid' (by omega) (by omega), IntKind.wrap_i64, IntKind.wrap_i64]
    rw [show (m + 1 + 9223372036854775808) % 18446744073709551616 - 9223372036854775808 = m + 1 from by omega, Int.tdiv_eq_ediv_of_nonneg (by omega)]
    omega
end Go.Proofs.Ytocempcoddahiab

/- What the bound of the second form gives: a slice that comes in has at most so many places. -/
import Derived.Test.YtidaoomhnfgckagRows
namespace Go.Proofs.Ytidaoomhnfgckag.bulks

theorem weighs {H : Type} : ∀ d : DataW H, 0 < Rows.uptoBulk d
  | .lit x => by cases x <;> simp [Rows.uptoBulk]
  | .nil | .ptr _ | .slice _ _ | .agg _ | .iface _ _ | .map _ | .held _ => by simp [Rows.uptoBulk]

theorem weigh {H : Type} : ∀ l : List (DataW H), l.length ≤ Rows.uptoBulkAll l
  | [] => by simp
  | d :: l => by
    have h := weighs d
    have k := weigh l
    rw [Rows.uptoBulkAll, List.length_cons]
    omega

/-- A slice among what came in: its places, spare ones too. -/
theorem places {H : Type} {elems spare : List (DataW H)} : ∀ {l : List (DataW H)}, DataW.slice elems spare ∈ l → elems.length + spare.length ≤ Rows.uptoBulkAll l
  | [], h => by cases h
  | d :: l, h => by
    rw [Rows.uptoBulkAll]
    rcases List.mem_cons.1 h with rfl | h
    · have a := weigh elems
      have b := weigh spare
      rw [Rows.uptoBulk]
      omega
    · have := places h
      omega

theorem few {H : Type} {l : List (DataW H)} {elems spare : List (DataW H)} (hk : Rows.uptoSmall H l = true) (h : DataW.slice elems spare ∈ l) : elems.length + spare.length ≤ 1048576 :=
  Nat.le_trans (places h) (of_decide_eq_true hk)

end Go.Proofs.Ytidaoomhnfgckag.bulks

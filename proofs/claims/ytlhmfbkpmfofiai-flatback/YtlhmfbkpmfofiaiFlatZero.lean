/- A process of nothing, and a world of such: their cells. -/
import Derived.Test.YtlhmfbkpmfofiaiFlat11
namespace Go.Proofs.Ytlhmfbkpmfofiai
set_option maxRecDepth 100000
open Go.RowKit
set_option linter.unusedSimpArgs false
set_option linter.unusedVariables false

def isU0 : Value → Bool
  | .int .u8 0 => true
  | _ => false
def isI0 : Value → Bool
  | .int .i64 0 => true
  | _ => false
def isF0 : Value → Bool
  | .bool false => true
  | _ => false
def isN0 : Value → Bool
  | .slice none 0 0 => true
  | _ => false

theorem u0_eq {v : Value} (h : isU0 v = true) : v = .int .u8 0 := by
  unfold isU0 at h
  split at h
  · rfl
  · cases h
theorem i0_eq {v : Value} (h : isI0 v = true) : v = .int .i64 0 := by
  unfold isI0 at h
  split at h
  · rfl
  · cases h
theorem f0_eq {v : Value} (h : isF0 v = true) : v = .bool false := by
  unfold isF0 at h
  split at h
  · rfl
  · cases h
theorem n0_eq {v : Value} (h : isN0 v = true) : v = .slice none 0 0 := by
  unfold isN0 at h
  split at h
  · rfl
  · cases h

/-- n cells that each meet p, and the rest. -/
def chk (p : Value → Bool) : Nat → List Value → Option (List Value)
  | 0, l => some l
  | _ + 1, [] => none
  | n + 1, v :: r => if p v then chk p n r else none

theorem chk_get {p : Value → Bool} : ∀ {n : Nat} {l r : List Value}, chk p n l = some r → (∀ i, i < n → ∃ v, l[i]? = some v ∧ p v = true) ∧ ∀ i, l[n + i]? = r[i]?
  | 0, l, r, h => by
    cases h
    exact ⟨fun i hi => absurd hi (Nat.not_lt_zero i), fun i => by rw [Nat.zero_add]⟩
  | n + 1, [], r, h => by cases h
  | n + 1, v :: l, r, h => by
    rw [chk] at h
    split at h
    · rename_i hv
      obtain ⟨h1, h2⟩ := chk_get h
      refine ⟨fun i hi => ?_, fun i => ?_⟩
      · cases i with
        | zero => exact ⟨v, rfl, hv⟩
        | succ i => exact h1 i (by omega)
      · rw [show n + 1 + i = (n + i) + 1 by omega]
        exact h2 i
    · cases h

/-- A process of nothing at the head of the list, and the rest. -/
def chkP (l : List Value) : Option (List Value) :=
  (chk isF0 1 l).bind fun a => (chk isN0 1 a).bind fun a => (chk isF0 1 a).bind fun a => (chk isI0 1 a).bind fun a => (chk isF0 1 a).bind fun a => (chk isI0 1 a).bind fun a =>
    (chk isF0 1 a).bind fun a => (chk isI0 1 a).bind fun a => (chk isF0 1 a).bind fun a => (chk isI0 1 a).bind fun a => (chk isU0 4096 a).bind fun a => chk isI0 256 a

/-- A process of nothing: its cells. -/
theorem zero_p : Try.zeroCells66.size = 4362 ∧ chkP Try.zeroCells66.toList = some [] := ⟨by kernel_rfl, by kernel_rfl⟩

end Go.Proofs.Ytlhmfbkpmfofiai

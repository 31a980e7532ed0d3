/- Plain facts on tags: four bits a granule, two granules a byte; no program is named. -/
import Derived.Test.YtocempcoddahiabRamMath
namespace Go.Proofs.Ytocempcoddahiab
open Go.RowKit

/-- Granule g's tag in the bytes zs. -/
def nib (zs : List Int) (g : Nat) : Int := if g % 2 = 0 then zs.getD (g / 2) 0 % 16 else zs.getD (g / 2) 0 / 16

/-- The byte b, in which the half of granule g is t. -/
def half (b t : Int) (g : Nat) : Int := if g % 2 = 0 then b / 16 * 16 + t else b % 16 + 16 * t

/-- The bytes zs, in which k granules from p on are t. -/
def setK (zs : List Int) (p : Nat) (t : Int) : Nat → List Int
  | 0 => zs
  | k + 1 => (setK zs p t k).set ((p + k) / 2) (half ((setK zs p t k).getD ((p + k) / 2) 0) t (p + k))

theorem length_setK (zs : List Int) (p : Nat) (t : Int) : ∀ k, (setK zs p t k).length = zs.length
  | 0 => rfl
  | k + 1 => by simp [setK, length_setK zs p t k]

theorem half_bd (b t : Int) (g : Nat) (h0 : 0 ≤ b) (h1 : b ≤ 255) (h2 : 0 ≤ t) (h3 : t ≤ 15) : 0 ≤ half b t g ∧ half b t g ≤ 255 := by
  unfold half; split <;> omega

theorem setK_bytes (zs : List Int) (hz : Bytes zs) (p : Nat) (t : Int) (h2 : 0 ≤ t) (h3 : t ≤ 15) : ∀ k, Bytes (setK zs p t k)
  | 0 => hz
  | k + 1 => by
    intro i
    have ih := setK_bytes zs hz p t h2 h3 k
    unfold setK
    rw [getD_set]
    split
    · exact half_bd _ _ _ (ih _).1 (ih _).2 h2 h3
    · exact ih i

theorem nib_set (zs : List Int) (g h : Nat) (t : Int) (hg : g < 2 * zs.length) (h2 : 0 ≤ t) (h3 : t ≤ 15) :
    nib (zs.set (g / 2) (half (zs.getD (g / 2) 0) t g)) h = if h = g then t else nib zs h := by
  unfold nib
  rw [getD_set]
  by_cases hh : g / 2 = h / 2
  · rw [if_pos (show g / 2 = h / 2 ∧ g / 2 < zs.length from ⟨hh, by omega⟩)]
    unfold half
    rw [hh]
    generalize zs.getD (h / 2) 0 = b
    have hcase : g % 2 = 0 ∨ g % 2 = 1 := by omega
    have hcase' : h % 2 = 0 ∨ h % 2 = 1 := by omega
    rcases hcase with e | e <;> rcases hcase' with e' | e'
    · have : h = g := by omega
      subst this
      simp only [e, if_true]; omega
    · have : h ≠ g := by omega
      simp only [e, e', if_true, if_neg this, Nat.one_ne_zero, if_false]; omega
    · have : h ≠ g := by omega
      simp only [e, e', if_true, if_neg this, Nat.one_ne_zero, if_false]; omega
    · have : h = g := by omega
      subst this
      simp only [e, if_true, Nat.one_ne_zero, if_false]; omega
  · have : h ≠ g := by intro x; subst x; exact hh rfl
    have hn : ¬ (g / 2 = h / 2 ∧ g / 2 < zs.length) := fun x => hh x.1
    simp only [if_neg this, if_neg hn]

theorem nib_setK (zs : List Int) (p : Nat) (t : Int) (h : Nat) (h2 : 0 ≤ t) (h3 : t ≤ 15) : ∀ k, p + k ≤ 2 * zs.length → nib (setK zs p t k) h = if p ≤ h ∧ h < p + k then t else nib zs h
  | 0, _ => by rw [if_neg (by omega)]; rfl
  | k + 1, hk => by
    have ih := nib_setK zs p t h h2 h3 k (by omega)
    show nib ((setK zs p t k).set ((p + k) / 2) (half ((setK zs p t k).getD ((p + k) / 2) 0) t (p + k))) h = _
    rw [nib_set (setK zs p t k) (p + k) h t (by rw [length_setK]; omega) h2 h3, ih]
    by_cases e : h = p + k
    · rw [if_pos e, if_pos (by omega)]
    · rw [if_neg e]
      by_cases e1 : p ≤ h ∧ h < p + k
      · rw [if_pos e1, if_pos (by omega)]
      · rw [if_neg e1, if_neg (by omega)]

theorem setK_add (zs : List Int) (p : Nat) (t : Int) (a : Nat) : ∀ b, setK zs p t (a + b) = setK (setK zs p t a) (p + a) t b
  | 0 => rfl
  | b + 1 => by
    show setK zs p t ((a + b) + 1) = _
    unfold setK
    rw [setK_add zs p t a b, Nat.add_assoc]

theorem nib_two (zs : List Int) (i : Nat) : zs.getD i 0 = 16 * nib zs (2 * i + 1) + nib zs (2 * i) := by
  unfold nib
  rw [if_neg (by omega), if_pos (by omega), show (2 * i + 1) / 2 = i from by omega, show 2 * i / 2 = i from by omega]
  omega

theorem ext_nib (l r : List Int) (h : l.length = r.length) (g : ∀ i, nib l i = nib r i) : l = r := by
  refine ext_getD l r h fun i => ?_
  rw [nib_two l i, nib_two r i, g, g]

theorem nib_bd (zs : List Int) (hz : Bytes zs) (g : Nat) : 0 ≤ nib zs g ∧ nib zs g ≤ 15 := by
  have := hz (g / 2)
  unfold nib; split <;> omega

theorem fin_byte {P : Int → Prop} (h : ∀ i : Fin 256, P ((i.val : Nat) : Int)) (b : Int) (h0 : 0 ≤ b) (h1 : b ≤ 255) : P b := by
  have := h ⟨b.toNat, by omega⟩
  rw [show ((b.toNat : Nat) : Int) = b from by omega] at this
  exact this

theorem fin_half {P : Int → Int → Prop} (h : ∀ i : Fin 256, ∀ j : Fin 16, P ((i.val : Nat) : Int) ((j.val : Nat) : Int)) (b t : Int) (h0 : 0 ≤ b) (h1 : b ≤ 255) (h2 : 0 ≤ t) (h3 : t ≤ 15) : P b t := by
  have := h ⟨b.toNat, by omega⟩ ⟨t.toNat, by omega⟩
  rw [show ((b.toNat : Nat) : Int) = b from by omega, show ((t.toNat : Nat) : Int) = t from by omega] at this
  exact this

theorem and15 (b : Int) (h0 : 0 ≤ b) (h1 : b ≤ 255) : bits .and .i64 b 15 = b % 16 :=
  fin_byte (P := fun b => bits .and .i64 b 15 = b % 16) (by decide +kernel) b h0 h1

theorem low_half (b t : Int) (h0 : 0 ≤ b) (h1 : b ≤ 255) (h2 : 0 ≤ t) (h3 : t ≤ 15) : bits .or .u8 (bits .andNot .u8 b 15) t = b / 16 * 16 + t :=
  fin_half (P := fun b t => bits .or .u8 (bits .andNot .u8 b 15) t = b / 16 * 16 + t) (by decide +kernel) b t h0 h1 h2 h3

theorem high_half (b t : Int) (h0 : 0 ≤ b) (h1 : b ≤ 255) (h2 : 0 ≤ t) (h3 : t ≤ 15) : bits .or .u8 (bits .andNot .u8 b 240) (16 * t) = b % 16 + 16 * t :=
  fin_half (P := fun b t => bits .or .u8 (bits .andNot .u8 b 240) (16 * t) = b % 16 + 16 * t) (by decide +kernel) b t h0 h1 h2 h3
end Go.Proofs.Ytocempcoddahiab

/- What the document's own answer framewardenref.HEach answers, page by page: the lists that region.Add, Cut and its kin answer. -/
import Derived.Test.YtkiamhmjkpbaiaeRegRef4
namespace Go.Proofs.Ytkiamhmjkpbaiae
open Go.RowKit
set_option linter.unusedSimpArgs false
set_option linter.unusedVariables false

/-- Pages f to t - 1 are what φ makes of them. -/
def turnO (φ : Option A4 → Option A4) (l : List R6) (f t : Int) (i : Nat) : Option A4 := if iv f t i then φ (atR l i) else atR l i

theorem ch_none {l : List R6} {f t : Int} (hw : wrE l f t = 0) (q : Nat) (hq : iv f t q = true) (h : atR l q = none) : chE l f t = 3 := by
  obtain ⟨h3, h4⟩ := wrE_iff.1 hw
  have hg := good_of_right h3
  unfold chE
  rw [if_pos hw]
  by_cases hc : cnt l f t < t - f
  · rw [if_pos hc]
  · have := (cnt_full hg h4).1 hc q hq
    rw [h] at this
    cases this

theorem span_nat {f t : Int} (h : isSp f t = true) {p : Int} (hp : iv f t p = true) : ((p.toNat : Nat) : Int) = p := by
  rw [isSp_iff] at h
  rw [iv_iff] at hp
  exact Int.toNat_of_nonneg (by omega)

theorem ch_done {φ : A4 → A4} {l : List R6} {f t : Int} (hw : wrE l f t = 0) (h : ∀ i : Nat, iv f t i = true → atR l i ≠ none) : chE l f t = 0 ∧ regs (turnO (Option.map φ) l f t) = chL φ l f t := by
  obtain ⟨h3, h4⟩ := wrE_iff.1 hw
  have hg := good_of_right h3
  have hE : chE l f t = 0 := ch_of hg h4 (fun p hp => by
    have e := span_nat h4 hp
    have := h p.toNat (by rw [e]; exact hp)
    rw [e] at this
    exact Option.isSome_iff_ne_none.2 this)
  obtain ⟨-, -, -, g4, g5⟩ := ch_pages (φ := φ) hE
  exact ⟨hE, regs_of g4 (fun i _ => g5 i)⟩

theorem cut_done {l : List R6} {f t : Int} (hw : wrE l f t = 0) : regs (turnO (fun _ => none) l f t) = cutL l f t := by
  obtain ⟨-, -, g4, g5⟩ := cut_pages hw
  exact regs_of g4 (fun i _ => g5 i)

theorem add_some {l : List R6} {x : R6} (hw : wrE l x.1 x.2.1 = 0) (q : Nat) (hq : iv x.1 x.2.1 q = true) (h : atR l q ≠ none) : addE l x = 7 := by
  obtain ⟨h3, h4⟩ := wrE_iff.1 hw
  have hg := good_of_right h3
  have hb := cnt_bd (show x.1 ≤ x.2.1 by have := isSp_iff.1 h4; omega) l
  unfold addE
  rw [if_pos hw]
  by_cases hc : 0 < cnt l x.1 x.2.1
  · rw [if_pos hc]
  · exact absurd ((cnt_zero hg h4).1 (by omega) q hq) h

theorem add_done {l : List R6} {x : R6} (hw : wrE l x.1 x.2.1 = 0) (h : ∀ i : Nat, iv x.1 x.2.1 i = true → atR l i = none) : addE l x = 0 ∧ regs (turnO (fun _ => some x.2.2) l x.1 x.2.1) = addL l x := by
  obtain ⟨h3, h4⟩ := wrE_iff.1 hw
  have hg := good_of_right h3
  have hE : addE l x = 0 := addE_iff.2 ⟨hw, by
    rw [(cnt_zero hg h4).2 (fun p hp => by
      have e := span_nat h4 hp
      have := h p.toNat (by rw [e]; exact hp)
      rwa [e] at this)]
    exact Int.le_refl _⟩
  obtain ⟨-, -, -, g4, g5⟩ := add_pages hE
  exact ⟨hE, regs_of g4 (fun i _ => g5 i)⟩

/-- Nothing of which a page's likeness is told lies among the pointers. -/
theorem AtP.ne {w : World} {G : Nat} {t : TypeId} {A : Nat → Option Addr} {p : Option Addr} {o : Option A4} (h : AtP w p o) (hr : OwnRow w G t (ptrsL A)) : ∀ b off, p = some ⟨b, off, none⟩ → b ≠ G := by
  intro b off hp hb
  subst hb
  cases o with
  | none => rw [show p = none from h] at hp; cases hp
  | some a =>
    obtain ⟨b', off', rfl, h0, -⟩ := h
    simp only [Option.some.injEq, Addr.mk.injEq] at hp
    obtain ⟨rfl, rfl, -⟩ := hp
    rw [hr.cell] at h0
    by_cases hi : off' < 64
    · rw [ptrsL_get _ _ hi] at h0
      cases h0
    · rw [List.getElem?_eq_none (by rw [ptrsL_len]; omega)] at h0
      cases h0

/-- One pointer more is laid. -/
theorem turn_put {w : World} {G q : Nat} {t : TypeId} {A : Nat → Option Addr} {φ : Option A4 → Option A4} {l : List R6} {f : Int} {p : Option Addr} (hrow : OwnRow w G t (ptrsL A)) (hp : Pts w A (turnO φ l f q)) (hq : f ≤ q) (hA : AtP w p (φ (atR l q))) :
    OwnRow (w.setCell ⟨G, q, none⟩ (.pointer p)) G t (ptrsL (updP A q p)) ∧ Pts (w.setCell ⟨G, q, none⟩ (.pointer p)) (updP A q p) (turnO φ l f ((q + 1 : Nat) : Int)) := by
  have hsp : Spare G w (w.setCell ⟨G, q, none⟩ (.pointer p)) := (Spare.refl G w).setCell q _
  have hr1 := hrow.set q (.pointer p)
  rw [ptrsL_set] at hr1
  refine ⟨hr1, fun i hi => ?_⟩
  by_cases hiq : i = q
  · subst hiq
    have e1 : updP A i p i = p := by unfold updP; rw [if_pos rfl]
    have e2 : turnO φ l f ((i + 1 : Nat) : Int) i = φ (atR l i) := by unfold turnO; rw [if_pos (by rw [iv_iff]; omega)]
    rw [e1, e2]
    exact hA.spare hsp (hA.ne hrow)
  · have e1 : updP A q p i = A i := by unfold updP; rw [if_neg hiq]
    have e2 : turnO φ l f ((q + 1 : Nat) : Int) i = turnO φ l f q i := by
      unfold turnO
      by_cases h : iv f q i = true
      · rw [if_pos h, if_pos (by rw [iv_iff] at h ⊢; omega)]
      · rw [if_neg h, if_neg (by rw [iv_iff] at h ⊢; omega)]
    rw [e1, e2]
    exact (hp i hi).spare hsp ((hp i hi).ne hrow)

end Go.Proofs.Ytkiamhmjkpbaiae

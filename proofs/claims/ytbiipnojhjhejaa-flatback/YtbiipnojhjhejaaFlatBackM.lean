/- What was stored is loaded, by the same tag; nothing else of it has changed: as plain facts on one thing done behind another. -/
import Derived.Test.YtbiipnojhjhejaaFlatMath
namespace Go.Proofs.Ytbiipnojhjhejaa
set_option maxRecDepth 100000
set_option linter.unusedSimpArgs false
set_option linter.unusedVariables false

/-- The same, as another kind. -/
def asK (o : O12) (k : Int) : O12 := { o with kind := k }

theorem tg_way {T : Bool} {zs : List Int} {t : Int} : tgF T 1 zs t = tgF T 2 zs t := by
  unfold tgF tgH
  simp

theorem pg_cases (r k d0 d1 d2 d3 y : Int) : pg r k d0 d1 d2 d3 y = 0 ∨ pg r k d0 d1 d2 d3 y = 2 ∨ pg r k d0 d1 d2 d3 y = 3 := by
  unfold pg
  repeat' split
  all_goals simp

/-- Where a store has no fault a load faults by rights alone, or a key. -/
theorem pfl_back {p q : Pr} {o : O12} {f t : Nat} (hL : q.L = p.L) (hK : q.K = p.K) (hT : q.T = p.T) (h : (pfl p (asK o 11) f t).1 = 0) :
    (pfl q (asK o 10) f t).1 = 0 ∨ (pfl q (asK o 10) f t).1 = 2 ∨ (pfl q (asK o 10) f t).1 = 3 := by
  have e1 : (asK o 11).kind = 11 := rfl
  have e2 : (asK o 10).kind = 10 := rfl
  have e3 : wayK 11 = 2 := by decide
  have e4 : wayK 10 = 1 := by decide
  have e5 : tgs q = tgs p := by funext a b; unfold tgs; rw [hT]
  unfold pfl at h ⊢
  rw [hL, hK, e5]
  rw [e1, e3] at h
  rw [e2, e4]
  cases ha : atR p.L ((f / 64 : Nat) : Int) with
  | none => rw [ha] at h; cases h
  | some a =>
    rw [ha] at h
    simp only at h ⊢
    split at h
    · rw [if_neg (by decide)] at h
      have hc : pgA a p.K 1 = 0 ∨ pgA a p.K 1 = 2 ∨ pgA a p.K 1 = 3 := pg_cases _ _ _ _ _ _ _
      rcases hc with h1 | h1 | h1
      · rw [if_pos h1, if_neg (by decide)]
        left
        rw [tg_way]
        split at h
        · rename_i h3; rw [show (asK o 10).tag = (asK o 11).tag from rfl, if_pos h3]
        · rename_i h3; exact absurd h h3
      · right; left
        rw [if_neg (by rw [h1]; decide)]; exact h1
      · right; right
        rw [if_neg (by rw [h1]; decide)]; exact h1
    · rename_i h3; exact absurd h h3

theorem flt_back {p q : Pr} {o : O12} (hL : q.L = p.L) (hK : q.K = p.K) (hT : q.T = p.T) : ∀ (n f t : Nat), (flt p (asK o 11) n f t).1 = 0 →
    (flt q (asK o 10) n f t).1 = 0 ∨ (flt q (asK o 10) n f t).1 = 2 ∨ (flt q (asK o 10) n f t).1 = 3
  | 0, _, _, _ => Or.inl rfl
  | n + 1, f, t, h => by
    rw [flt] at h ⊢
    by_cases hf : f < t
    · rw [if_pos hf] at h ⊢
      split at h
      · rename_i h1
        split
        · exact flt_back hL hK hT n _ t h
        · exact pfl_back hL hK hT h1
      · rename_i h1; exact absurd h h1
    · rw [if_neg hf]; exact Or.inl rfl

theorem numB_stored (p : Pr) (o : O12) : ∀ k, tF o + k ≤ tT o → numB (storB p o) (tF o) k = o.value % 256 ^ k
  | 0, _ => by simp [numB, Int.emod_one]
  | k + 1, h => by
    rw [numB, numB_stored p o k (by omega), ← mod_step]
    show _ + (if _ then byteK o.value _ else _) * _ = _
    rw [if_pos (by omega), Nat.add_sub_cancel_left]

/-- WHAT WAS STORED IS LOADED. -/
theorem do_back {S : W4} (o : O12) (h : (do14 S (asK o 11)).2.1 = 0) :
    (0 ≤ o.proc ∧ o.proc ≤ 3) ∧ (0 ≤ o.addr ∧ 1 ≤ o.size ∧ o.size ≤ 4 ∧ o.addr + o.size ≤ 4096) ∧ (do14 S (asK o 11)).1 = upd S o.proc.toNat (storB (S o.proc.toNat) (asK o 11)) ∧
      (do14 (do14 S (asK o 11)).1 (asK o 10)).1 = (do14 S (asK o 11)).1 ∧
      (((do14 (do14 S (asK o 11)).1 (asK o 10)).2.1 = 0 ∧ (do14 (do14 S (asK o 11)).1 (asK o 10)).2.2.1 = o.value % 256 ^ o.size.toNat) ∨
       ((do14 (do14 S (asK o 11)).1 (asK o 10)).2.1 = 8 ∧ ((do14 (do14 S (asK o 11)).1 (asK o 10)).2.2.2.1 = 2 ∨ (do14 (do14 S (asK o 11)).1 (asK o 10)).2.2.2.1 = 3))) := by
  have hd : ∀ (S : W4) (k : Int), k = 10 ∨ k = 11 → do14 S (asK o k) = if o.proc < 0 ∨ 3 < o.proc ∨ (S o.proc.toNat).live = false then (S, 3, 0, 0, 0) else (upd S o.proc.toNat (look14 (S o.proc.toNat) (asK o k)).1, (look14 (S o.proc.toNat) (asK o k)).2) := by
    intro S k hk
    unfold do14
    have e : (asK o k).kind = k := rfl
    have e2 : (asK o k).proc = o.proc := rfl
    rw [e, e2, if_neg (by omega), if_neg (by omega)]
    split
    · rfl
    · rw [if_pos (by rcases hk with rfl | rfl <;> rfl)]
  rw [hd S 11 (Or.inr rfl)] at h
  split at h
  · cases h
  rename_i hp
  have hS1 := hd S 11 (Or.inr rfl)
  rw [if_neg hp] at hS1
  have hlive : (S o.proc.toNat).live = true := by
    cases hh : (S o.proc.toNat).live with
    | true => rfl
    | false => exact absurd (Or.inr (Or.inr hh)) hp
  have hE : tchE (asK o 10) = tchE (asK o 11) := rfl
  have hF : tF (asK o 10) = tF (asK o 11) := rfl
  have hT : tT (asK o 10) = tT (asK o 11) := rfl
  have hl : look14 (S o.proc.toNat) (asK o 11) = if tchE (asK o 11) = 0 then if (flt (S o.proc.toNat) (asK o 11) 65 (tF (asK o 11)) (tT (asK o 11))).1 = 0 then (storB (S o.proc.toNat) (asK o 11), 0, 0, 0, 0) else (S o.proc.toNat, 8, 0, (flt (S o.proc.toNat) (asK o 11) 65 (tF (asK o 11)) (tT (asK o 11))).1, (flt (S o.proc.toNat) (asK o 11) 65 (tF (asK o 11)) (tT (asK o 11))).2) else (S o.proc.toNat, 2, 0, 0, 0) := rfl
  rw [hl] at h hS1
  split at h
  · rename_i h1
    split at h
    · rename_i h2
      rw [if_pos h1, if_pos h2] at hS1
      simp only at hS1
      obtain ⟨b1, b2, b3, b4, b5⟩ := tchE_ok h1
      have hm : tMany (asK o 11) = o.size := rfl
      have hz : tEach (asK o 11) = 1 := rfl
      have hm2 : tMost (asK o 11) = 4 := rfl
      rw [hm, hm2] at b2
      have b4' : o.addr ≤ 4096 - tMany (asK o 11) * tEach (asK o 11) := b4
      rw [hm, hz] at b4'
      have hFv : tF (asK o 11) = o.addr.toNat := rfl
      have hTv : tT (asK o 11) = (o.addr + o.size).toNat := by show (o.addr + o.size * 1).toNat = _; rw [Int.mul_one]
      have b3' : 0 ≤ o.addr := b3
      have hS2 := hd (do14 S (asK o 11)).1 10 (Or.inl rfl)
      rw [hS1] at hS2 ⊢
      simp only [upd_at] at hS2 ⊢
      have hl2 : look14 (storB (S o.proc.toNat) (asK o 11)) (asK o 10) = if (flt (storB (S o.proc.toNat) (asK o 11)) (asK o 10) 65 (tF (asK o 11)) (tT (asK o 11))).1 = 0 then (storB (S o.proc.toNat) (asK o 11), 0, numB (storB (S o.proc.toNat) (asK o 11)) (tF (asK o 11)) (tT (asK o 11) - tF (asK o 11)), 0, 0) else (storB (S o.proc.toNat) (asK o 11), 8, 0, (flt (storB (S o.proc.toNat) (asK o 11)) (asK o 10) 65 (tF (asK o 11)) (tT (asK o 11))).1, (flt (storB (S o.proc.toNat) (asK o 11)) (asK o 10) 65 (tF (asK o 11)) (tT (asK o 11))).2) := by
        show (if tchE (asK o 11) = 0 then _ else _) = _
        rw [if_pos h1]
        rfl
      have hlv : (storB (S o.proc.toNat) (asK o 11)).live = true := hlive
      rw [if_neg (by rw [hlv]; intro h; rcases h with h | h | h; exact hp (Or.inl h); exact hp (Or.inr (Or.inl h)); cases h), hl2] at hS2
      have hfb := flt_back (p := S o.proc.toNat) (q := storB (S o.proc.toNat) (asK o 11)) (o := o) rfl rfl rfl 65 (tF (asK o 11)) (tT (asK o 11)) h2
      refine ⟨by omega, ⟨by omega, by omega, by omega, by omega⟩, trivial, ?_, ?_⟩
      · rw [hS2]
        split
        · exact upd_self' _ _ _
        · exact upd_self' _ _ _
      · rw [hS2]
        rcases hfb with h3 | h3
        · left
          rw [if_pos h3]
          refine ⟨rfl, ?_⟩
          simp only
          have e := numB_stored (S o.proc.toNat) (asK o 11) (tT (asK o 11) - tF (asK o 11)) (by rw [hFv, hTv]; omega)
          rw [e, hFv, hTv]
          have e2 : (o.addr + o.size).toNat - o.addr.toNat = o.size.toNat := by omega
          rw [e2]
          rfl
        · right
          rw [if_neg (by omega)]
          exact ⟨rfl, h3⟩
    · cases h
  · cases h

end Go.Proofs.Ytbiipnojhjhejaa

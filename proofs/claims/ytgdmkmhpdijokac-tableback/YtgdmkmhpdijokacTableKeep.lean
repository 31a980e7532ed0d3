/- What is read behind table's writing: plain mathematics on the contracts' lists. -/
import Derived.Test.YtgdmkmhpdijokacTable4
namespace Go.Proofs.Ytgdmkmhpdijokac
open Go.RowKit

theorem num_congr {zs ys : List Int} {g k : Int} (hl : zs.length = ys.length) (hk : 0 ≤ k) (h : ∀ i : Nat, 64 * g + 4 * k ≤ i → (i : Int) < 64 * g + 4 * k + 4 → zs.getD i 0 = ys.getD i 0) :
    numE zs g k = numE ys g k ∧ numV zs g k = numV ys g k := by
  have he : numE zs g k = numE ys g k := by unfold numE errV; rw [hl]
  refine ⟨he, ?_⟩
  by_cases hn : numE zs g k = 0
  · have hf := (numE_iff hk).1 hn
    have hsp : spotV g k = 64 * g + 4 * k := by unfold spotV; rw [if_pos ⟨hf.1, hf.2.1⟩]
    have h1 := num_has.1 hn
    have h2 := num_has.1 (he ▸ hn)
    unfold numV getV
    rw [if_pos h1, if_pos h2, hsp]
    refine getN_congr _ _ _ _ fun i hi => h _ ?_ ?_ <;> omega
  · rw [numV_no hn, numV_no (he ▸ hn)]

theorem rd_congr {zs ys : List Int} {g k : Int} (h : numE zs g k = numE ys g k ∧ numV zs g k = numV ys g k) : rdE zs g k = rdE ys g k ∧ rdK zs g k = rdK ys g k ∧ rdN zs g k = rdN ys g k := by
  unfold rdE rdK rdN; rw [h.1, h.2]; exact ⟨rfl, rfl, rfl⟩

theorem lf_congr {zs ys : List Int} {f p : Int} (h : rdE zs f (p / 8) = rdE ys f (p / 8) ∧ rdK zs f (p / 8) = rdK ys f (p / 8) ∧ rdN zs f (p / 8) = rdN ys f (p / 8)) : lfE zs f p = lfE ys f p ∧ lfN zs f p = lfN ys f p := by
  have h1 : lfE zs f p = lfE ys f p := by unfold lfE; rw [h.1, h.2.1]
  exact ⟨h1, by unfold lfN; rw [h1, h.2.2]⟩

theorem gt_congr {zs ys : List Int} {f p : Int} (h : lfE zs f p = lfE ys f p ∧ lfN zs f p = lfN ys f p)
    (hr : lfE zs f p = 0 → rdE zs (lfN zs f p) (p % 8) = rdE ys (lfN zs f p) (p % 8) ∧ rdK zs (lfN zs f p) (p % 8) = rdK ys (lfN zs f p) (p % 8) ∧ rdN zs (lfN zs f p) (p % 8) = rdN ys (lfN zs f p) (p % 8)) :
    gtE zs f p = gtE ys f p ∧ gtK zs f p = gtK ys f p ∧ gtN zs f p = gtN ys f p := by
  unfold gtE gtK gtN
  rw [← h.1, ← h.2]
  by_cases h0 : lfE zs f p = 0
  · simp only [if_pos h0]; exact hr h0
  · simp only [if_neg h0]; exact ⟨trivial, trivial, trivial⟩

theorem rd_of {zs : List Int} {g k x y : Int} (hn : numE zs g k = 0) (ho : okE x y) (hv : numV zs g k = 256 * y + x) : rdE zs g k = 0 ∧ rdK zs g k = x ∧ rdN zs g k = y := by
  obtain ⟨h1, h2, h3⟩ := up_of ho
  unfold rdE rdK rdN
  rw [hv, if_pos hn, upE_ok h1, upK_ok h1, upN_ok h1, h2, h3]
  exact ⟨rfl, rfl, rfl⟩

/-- Behind the writing of a number: that number, and all others. -/
theorem num_put {zs : List Int} {g k v : Int} (hn : numE zs g k = 0) (hk : 0 ≤ k) (h0 : 0 ≤ v) (h1 : v < 4294967296) :
    numE (putK zs (64 * g + 4 * k).toNat v 4) g k = 0 ∧ numV (putK zs (64 * g + 4 * k).toNat v 4) g k = v := by
  have hf := (numE_iff hk).1 hn
  have hsp : spotV g k = 64 * g + 4 * k := by unfold spotV; rw [if_pos ⟨hf.1, hf.2.1⟩]
  have he : numE (putK zs (64 * g + 4 * k).toNat v 4) g k = 0 := by rw [← hn]; unfold numE errV; rw [length_putK]
  refine ⟨he, ?_⟩
  have h2 := num_has.1 he
  unfold numV getV
  rw [if_pos h2, hsp]
  show getN _ _ 4 = v
  rw [getN_putK _ _ _ _ (by omega)]
  exact Int.emod_eq_of_lt h0 h1

theorem num_put_apart {zs : List Int} {g k v g' k' : Int} (hg : 0 ≤ g) (hk : 0 ≤ k) (hk8 : k < 8) (hk' : 0 ≤ k') (hk8' : k' < 8) (h : g' ≠ g ∨ k' ≠ k) :
    numE (putK zs (64 * g + 4 * k).toNat v 4) g' k' = numE zs g' k' ∧ numV (putK zs (64 * g + 4 * k).toNat v 4) g' k' = numV zs g' k' := by
  refine num_congr (length_putK _ _ _ _) hk' fun i h1 h2 => ?_
  rw [putK_getD, if_neg]
  omega

/-- Put, and then Get. -/
theorem put_back {zs : List Int} {f p x y : Int} (he : ptE zs f p x y = 0) (hne : lfN zs f p ≠ f) :
    gtE (ptL zs f p x y) f p = 0 ∧ gtK (ptL zs f p x y) f p = x ∧ gtN (ptL zs f p x y) f p = y := by
  have h0 : lfE zs f p = 0 := by
    by_cases h : lfE zs f p = 0
    · exact h
    · unfold ptE at he; rw [if_neg h] at he; exact absurd he h
  have hp := lfE_page h0
  have hw : wrE zs (lfN zs f p) (p % 8) x y = 0 := by unfold ptE at he; rw [if_pos h0] at he; exact he
  obtain ⟨hpk, hn⟩ := wr_ok hw
  have hl : ptL zs f p x y = putK zs (64 * lfN zs f p + 4 * (p % 8)).toNat (256 * y + x) 4 := by unfold ptL; rw [if_pos h0]; unfold wrL; rw [if_pos hw]
  rw [hl]
  have hLb := lfN_bd zs f p
  have ho := pkE_iff.1 hpk
  have hv : 0 ≤ 256 * y + x ∧ 256 * y + x < 4294967296 := by unfold okE at ho; omega
  have hlf := lf_congr (zs := putK zs (64 * lfN zs f p + 4 * (p % 8)).toNat (256 * y + x) 4) (ys := zs) (f := f) (p := p)
    (rd_congr (num_put_apart hLb.1 (by omega) (by omega) (by omega) (by omega) (.inl (Ne.symm hne))))
  obtain ⟨h1, h2⟩ := num_put hn (by omega) hv.1 hv.2
  obtain ⟨r1, r2, r3⟩ := rd_of h1 ho h2
  unfold gtE gtK gtN
  rw [hlf.1, hlf.2, if_pos h0, if_pos h0, if_pos h0]
  exact ⟨r1, r2, r3⟩

theorem put_other {zs : List Int} {f p x y o : Int} (he : ptE zs f p x y = 0) (hne : lfN zs f p ≠ f) (hop : o ≠ p) (hfar : lfE zs f o = 0 → lfN zs f o = lfN zs f p → o / 8 = p / 8) :
    gtE (ptL zs f p x y) f o = gtE zs f o ∧ gtK (ptL zs f p x y) f o = gtK zs f o ∧ gtN (ptL zs f p x y) f o = gtN zs f o := by
  have h0 : lfE zs f p = 0 := by
    by_cases h : lfE zs f p = 0
    · exact h
    · unfold ptE at he; rw [if_neg h] at he; exact absurd he h
  have hp := lfE_page h0
  have hw : wrE zs (lfN zs f p) (p % 8) x y = 0 := by unfold ptE at he; rw [if_pos h0] at he; exact he
  have hl : ptL zs f p x y = putK zs (64 * lfN zs f p + 4 * (p % 8)).toNat (256 * y + x) 4 := by unfold ptL; rw [if_pos h0]; unfold wrL; rw [if_pos hw]
  rw [hl]
  have hLb := lfN_bd zs f p
  by_cases hpo : 0 ≤ o ∧ o < 64
  · have hlf := lf_congr (zs := putK zs (64 * lfN zs f p + 4 * (p % 8)).toNat (256 * y + x) 4) (ys := zs) (f := f) (p := o)
      (rd_congr (num_put_apart hLb.1 (by omega) (by omega) (by omega) (by omega) (.inl (Ne.symm hne))))
    refine gt_congr hlf fun hz => ?_
    rw [hlf.1] at hz
    rw [hlf.2]
    refine rd_congr (num_put_apart hLb.1 (by omega) (by omega) (by omega) (by omega) ?_)
    by_cases hsame : lfN zs f o = lfN zs f p
    · right
      have := hfar hz hsame
      omega
    · exact .inl hsame
  · have e1 := lf_page (zs := putK zs (64 * lfN zs f p + 4 * (p % 8)).toNat (256 * y + x) 4) (f := f) hpo
    have e2 := lf_page (zs := zs) (f := f) hpo
    refine gt_congr ⟨by rw [e1.1, e2.1], by rw [e1.2, e2.2]⟩ fun hz => ?_
    rw [e1.1] at hz; cases hz

/-- Put: leaves stay. -/
theorem put_lf {zs : List Int} {f p x y o : Int} (he : ptE zs f p x y = 0) (hne : lfN zs f p ≠ f) (ho : 0 ≤ o ∧ o < 64) : lfE (ptL zs f p x y) f o = lfE zs f o ∧ lfN (ptL zs f p x y) f o = lfN zs f o := by
  have h0 : lfE zs f p = 0 := by
    by_cases h : lfE zs f p = 0
    · exact h
    · unfold ptE at he; rw [if_neg h] at he; exact absurd he h
  have hp := lfE_page h0
  have hw : wrE zs (lfN zs f p) (p % 8) x y = 0 := by unfold ptE at he; rw [if_pos h0] at he; exact he
  have hl : ptL zs f p x y = putK zs (64 * lfN zs f p + 4 * (p % 8)).toNat (256 * y + x) 4 := by unfold ptL; rw [if_pos h0]; unfold wrL; rw [if_pos hw]
  rw [hl]
  have hLb := lfN_bd zs f p
  exact lf_congr (rd_congr (num_put_apart hLb.1 (by omega) (by omega) (by omega) (by omega) (.inl (Ne.symm hne))))

theorem ptE_leaf {zs : List Int} {f p x y : Int} (he : ptE zs f p x y = 0) : lfE zs f p = 0 := by
  by_cases h : lfE zs f p = 0
  · exact h
  · unfold ptE at he; rw [if_neg h] at he; exact absurd he h

theorem num_zero (n : Nat) (g k : Int) : numV (List.replicate n 0) g k = 0 := by
  unfold numV getV
  split
  · show getN _ _ 4 = 0
    rw [getN_bytes _ _ 0 4]
    · decide
    · intro i _
      rw [List.getD_eq_getElem?_getD, List.getElem?_replicate]
      split <;> simp [byteK]
  · rfl

/-- Link: the bytes. -/
theorem lk_getD {zs : List Int} {f p l : Int} (he : lkE zs f p l = 0) (i : Nat) :
    (lkL zs f p l).getD i 0 = if 64 * l.toNat ≤ i ∧ i < 64 * l.toNat + lkM zs l then 0 else (putK zs (64 * f + 4 * (p / 8)).toNat (256 * l + 1) 4).getD i 0 := by
  unfold lkL
  rw [if_pos he, zeroK_getD (by rw [length_putK]; exact lk_room he)]

theorem lk_far {zs : List Int} {f p l g k : Int} (he : lkE zs f p l = 0) (hl : 64 * l + 64 ≤ zs.length) (hg : g ≠ l) (hk : 0 ≤ k) (hk8 : k < 8) :
    numE (lkL zs f p l) g k = numE (putK zs (64 * f + 4 * (p / 8)).toNat (256 * l + 1) 4) g k ∧ numV (lkL zs f p l) g k = numV (putK zs (64 * f + 4 * (p / 8)).toNat (256 * l + 1) 4) g k := by
  obtain ⟨h1, h2, h3, h4, h5, h6, h7⟩ := lk_ok he
  refine num_congr (by rw [length_lkL he, length_putK]) hk fun i g1 g2 => ?_
  have hM : lkM zs l = 64 := by unfold lkM; rw [if_pos (by omega)]
  rw [lk_getD he, hM, if_neg]
  omega

theorem link_leaf {zs : List Int} {f p l o : Int} (he : lkE zs f p l = 0) (hl : 64 * l + 64 ≤ zs.length) (ho : 0 ≤ o ∧ o < 64) (hs : o / 8 = p / 8) : lfE (lkL zs f p l) f o = 0 ∧ lfN (lkL zs f p l) f o = l := by
  obtain ⟨h1, h2, h3, h4, h5, h6, h7⟩ := lk_ok he
  obtain ⟨e1, e2⟩ := lk_far he hl (g := f) (k := p / 8) (Ne.symm h1) (by omega) (by omega)
  obtain ⟨g1, g2⟩ := num_put (v := 256 * l + 1) h7 (by omega) (by omega) (by omega)
  rw [g1] at e1
  rw [g2] at e2
  obtain ⟨r1, r2, r3⟩ := rd_of (x := 1) (y := l) e1 (by unfold okE; omega) e2
  rw [← hs] at r1 r2 r3
  have := lf_here ho r1 r2
  rw [r3] at this
  exact this

theorem link_empty {zs : List Int} {f p l o : Int} (he : lkE zs f p l = 0) (hl : 64 * l + 64 ≤ zs.length) (ho : 0 ≤ o ∧ o < 64) (hs : o / 8 = p / 8) :
    gtE (lkL zs f p l) f o = 0 ∧ gtK (lkL zs f p l) f o = 0 ∧ gtN (lkL zs f p l) f o = 0 := by
  obtain ⟨h1, h2, h3, h4, h5, h6, h7⟩ := lk_ok he
  obtain ⟨e1, e2⟩ := link_leaf he hl ho hs
  have hn : numE (lkL zs f p l) l (o % 8) = 0 := (numE_iff (by omega)).2 (by rw [length_lkL he]; omega)
  have hM : lkM zs l = 64 := by unfold lkM; rw [if_pos (by omega)]
  have hv : numV (lkL zs f p l) l (o % 8) = 256 * 0 + 0 := by
    have hsp : spotV l (o % 8) = 64 * l + 4 * (o % 8) := by unfold spotV; rw [if_pos ⟨h4, h5⟩]
    unfold numV getV
    rw [if_pos (num_has.1 hn), hsp]
    show getN _ _ 4 = 0
    rw [getN_bytes _ _ 0 4]
    · decide
    · intro i hi
      rw [lk_getD he, hM, if_pos (by omega)]
      simp [byteK]
  obtain ⟨r1, r2, r3⟩ := rd_of (x := 0) (y := 0) hn (by unfold okE; omega) hv
  unfold gtE gtK gtN
  rw [e1, e2, if_pos rfl, if_pos rfl, if_pos rfl]
  exact ⟨r1, r2, r3⟩

theorem link_other {zs : List Int} {f p l o : Int} (he : lkE zs f p l = 0) (hl : 64 * l + 64 ≤ zs.length) (ho : 0 ≤ o ∧ o < 64) (hs : o / 8 ≠ p / 8) (hfar : lfE zs f o = 0 → lfN zs f o ≠ l ∧ lfN zs f o ≠ f) :
    gtE (lkL zs f p l) f o = gtE zs f o ∧ gtK (lkL zs f p l) f o = gtK zs f o ∧ gtN (lkL zs f p l) f o = gtN zs f o := by
  obtain ⟨h1, h2, h3, h4, h5, h6, h7⟩ := lk_ok he
  have hf := (numE_iff (by omega)).1 h7
  have key : ∀ g k, g ≠ l → 0 ≤ k → k < 8 → (g ≠ f ∨ k ≠ p / 8) → numE (lkL zs f p l) g k = numE zs g k ∧ numV (lkL zs f p l) g k = numV zs g k := by
    intro g k hg hk hk8 hd
    obtain ⟨e1, e2⟩ := lk_far he hl (g := g) (k := k) hg hk hk8
    obtain ⟨g1, g2⟩ := num_put_apart (zs := zs) (g := f) (k := p / 8) (v := 256 * l + 1) hf.1 (by omega) (by omega) hk hk8 hd
    exact ⟨e1.trans g1, e2.trans g2⟩
  have hlf := lf_congr (zs := lkL zs f p l) (ys := zs) (f := f) (p := o) (rd_congr (key f (o / 8) (Ne.symm h1) (by omega) (by omega) (.inr hs)))
  refine gt_congr hlf fun hz => ?_
  rw [hlf.1] at hz
  rw [hlf.2]
  obtain ⟨a, b⟩ := hfar hz
  exact rd_congr (key _ _ a (by omega) (by omega) (.inl b))

end Go.Proofs.Ytgdmkmhpdijokac

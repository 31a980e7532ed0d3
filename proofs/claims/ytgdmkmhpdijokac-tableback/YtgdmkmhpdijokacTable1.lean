/- The contracts of package table's reading functions (isPage, hasTable, spot, read, Leaf, Get) over the loaded program: what each call returns, and that nothing that was there is written. -/
import Derived.Test.YtgdmkmhpdijokacRam
import Derived.Test.YtgdmkmhpdijokacEntry1
namespace Go.Proofs.Ytgdmkmhpdijokac
open Go.RowKit
set_option linter.unusedSimpArgs false

/-- The place of number k of the table in frame f; -1: there is none. -/
def spotV (f k : Int) : Int := if 0 ≤ f ∧ f < 64 then 64 * f + 4 * k else -1
/-- That number, and what is wrong. -/
def numV (zs : List Int) (f k : Int) : Int := getV zs (spotV f k) 4
def numE (zs : List Int) (f k : Int) : Int := errV zs (spotV f k) 4
/-- The entry that it is, and what is wrong. -/
def rdK (zs : List Int) (f k : Int) : Int := upK (numV zs f k)
def rdN (zs : List Int) (f k : Int) : Int := upN (numV zs f k)
def rdE (zs : List Int) (f k : Int) : Int := if numE zs f k = 0 then upE (numV zs f k) else 2
/-- The page's leaf, and what is wrong. -/
def lfE (zs : List Int) (f p : Int) : Int :=
  if 0 ≤ p ∧ p < 64 then (if rdE zs f (p / 8) = 0 then (if rdK zs f (p / 8) = 1 then 0 else if rdK zs f (p / 8) = 0 then 3 else 1) else rdE zs f (p / 8)) else 2
def lfN (zs : List Int) (f p : Int) : Int := if lfE zs f p = 0 then rdN zs f (p / 8) else 0
/-- The page's entry, and what is wrong. -/
def gtK (zs : List Int) (f p : Int) : Int := if lfE zs f p = 0 then rdK zs (lfN zs f p) (p % 8) else 0
def gtN (zs : List Int) (f p : Int) : Int := if lfE zs f p = 0 then rdN zs (lfN zs f p) (p % 8) else 0
def gtE (zs : List Int) (f p : Int) : Int := if lfE zs f p = 0 then rdE zs (lfN zs f p) (p % 8) else if lfE zs f p = 3 then 0 else lfE zs f p

theorem numE_cases (zs : List Int) (f k : Int) : numE zs f k = 0 ∨ numE zs f k = 2 := by
  unfold numE errV; split <;> simp
theorem numE_iff {zs : List Int} {f k : Int} (hk : 0 ≤ k) : numE zs f k = 0 ↔ 0 ≤ f ∧ f < 64 ∧ 64 * f + 4 * k + 4 ≤ zs.length := by
  unfold numE errV spotV
  by_cases h : 0 ≤ f ∧ f < 64
  · rw [if_pos h]
    by_cases hb : hasB zs.length (64 * f + 4 * k) 4 = true
    · have := hasB_iff.1 hb
      simp [hb]; omega
    · have hn : ¬ (1 ≤ (4 : Int) ∧ (4 : Int) ≤ 4 ∧ 0 ≤ 64 * f + 4 * k ∧ 64 * f + 4 * k + 4 ≤ zs.length) := fun x => hb (hasB_iff.2 x)
      simp [hb]; omega
  · rw [if_neg h]
    have hb : hasB zs.length (-1) 4 = false := by unfold hasB; simp
    simp [hb]; omega
theorem numV_no {zs : List Int} {f k : Int} (h : numE zs f k ≠ 0) : numV zs f k = 0 := by
  unfold numE errV at h
  unfold numV getV
  split <;> simp_all
theorem numV_bd {zs : List Int} (hz : Bytes zs) (f k : Int) : 0 ≤ numV zs f k ∧ numV zs f k < 4294967296 := by
  unfold numV getV
  split
  · exact getN_bd zs _ hz 4
  · omega
theorem numV_wf {zs : List Int} (hz : Bytes zs) (f k : Int) : (Lit.int .i64 (numV zs f k)).wf = true := by
  have := numV_bd hz f k
  simp [Lit.wf, IntKind.min, IntKind.max, IntKind.signed, IntKind.bits]
  omega
theorem upE_cases (v : Int) : upE v = 0 ∨ upE v = 1 := by unfold upE; split <;> simp
theorem upE_iff {v : Int} : upE v = 0 ↔ upOk v := by unfold upE; split <;> simp_all
theorem rdE_ok {zs : List Int} {f k : Int} (h : numE zs f k = 0) : rdE zs f k = upE (numV zs f k) := by unfold rdE; rw [if_pos h]
theorem rdE_no {zs : List Int} {f k : Int} (h : numE zs f k ≠ 0) : rdE zs f k = 2 ∧ rdK zs f k = 0 ∧ rdN zs f k = 0 := by
  refine ⟨by unfold rdE; rw [if_neg h], ?_, ?_⟩
  · unfold rdK; rw [numV_no h]; decide
  · unfold rdN; rw [numV_no h]; decide
theorem rd_bd (zs : List Int) (f k : Int) : 0 ≤ rdK zs f k ∧ rdK zs f k < 3 ∧ 0 ≤ rdN zs f k ∧ rdN zs f k < 64 := by
  unfold rdK rdN
  by_cases hu : upOk (numV zs f k)
  · rw [upK_ok hu, upN_ok hu]; unfold upOk okE at hu; omega
  · rw [upK_no hu, upN_no hu]; omega
theorem lfN_bd (zs : List Int) (f p : Int) : 0 ≤ lfN zs f p ∧ lfN zs f p < 64 := by
  have := rd_bd zs f (p / 8)
  unfold lfN; split <;> omega

theorem IsBytes.bytes {w : World} {v : Value} {zs : List Int} (h : IsBytes w v zs) : Bytes zs := by
  obtain ⟨a, cap, rfl, h1, h2, h3, h4⟩ := h; exact h3

theorem IsBytes.form {w : World} {v : Value} {zs : List Int} (h : IsBytes w v zs) : ∃ a cap, v = .slice a zs.length cap ∧ zs.length ≤ 140737488351232 := by
  obtain ⟨a, cap, rfl, h1, h2, h3, h4⟩ := h; exact ⟨a, cap, rfl, h2⟩

theorem frame_ok (n : Int) (w : World) (h : 0 ≤ n ∧ n < 64) : Calls Try.prog 32 #[.int .i64 n] w fun e w' => e = .returned (.int .i64 (64 * n)) ∧ w = w' := by
  have := frame_any n w
  rw [if_pos h] at this; exact this
theorem frame_no (n : Int) (w : World) (h : ¬ (0 ≤ n ∧ n < 64)) : Calls Try.prog 32 #[.int .i64 n] w fun e w' => e = .returned (.int .i64 (-1)) ∧ w = w' := by
  have := frame_any n w
  rw [if_neg h] at this; exact this

set_option maxHeartbeats 400000 in
theorem isPage_any (p : Int) (w : World) : Calls Try.prog 16 #[.int .i64 p] w fun e w' => e = .returned (.bool (decide (0 ≤ p ∧ p < 64))) ∧ w = w' := by
  go_enter Try.func16, Try.ntmps16
  go_wp2
  all_goals
    go_ret
    refine ⟨ret_bool ?_, rfl⟩
    first
      | (rw [decide_eq_decide]; omega)
      | (symm; rw [decide_eq_false_iff_not]; omega)
      | (simp; omega)

set_option maxHeartbeats 400000 in
theorem spot_any (f k : Int) (w : World) (hk : 0 ≤ k) (hk8 : k < 8) :
    Calls Try.prog 28 #[.int .i64 f, .int .i64 k] w fun e w' => e = .returned (.int .i64 (spotV f k)) ∧ w = w' := by
  unfold spotV
  by_cases h : 0 ≤ f ∧ f < 64
  · rw [if_pos h]
    obtain ⟨h1, h2⟩ := h
    go_enter Try.func28, Try.ntmps28
    go_wp2_with (go_at_call 32; refine (frame_ok _ _ ⟨h1, h2⟩).mono ?_; rintro e w' ⟨rfl, rfl⟩)
    go_ret
    exact ⟨rfl, rfl⟩
  · rw [if_neg h]
    go_enter Try.func28, Try.ntmps28
    go_wp2_with (go_at_call 32; refine (frame_no _ _ h).mono ?_; rintro e w' ⟨rfl, rfl⟩)
    go_ret
    exact ⟨rfl, rfl⟩

set_option maxHeartbeats 400000 in
theorem tableRead_any (v : Value) (zs : List Int) (f k : Int) (w : World) (h : IsBytes w v zs) (hk : 0 ≤ k) (hk8 : k < 8) :
    Calls Try.prog 17 #[v, .int .i64 f, .int .i64 k] w fun e w' => e = .returned (entV (rdK zs f k) (rdN zs f k) (rdE zs f k)) ∧ Below w.heap.size w w' := by
  have hz := h.bytes
  by_cases hn : numE zs f k = 0
  · rw [rdE_ok hn]
    unfold rdK rdN
    have hwf := numV_wf hz f k
    have hv : getV zs (spotV f k) 4 = numV zs f k := rfl
    generalize numV zs f k = X at *
    go_enter Try.func17, Try.ntmps17
    go_wp2_with fail
    refine (spot_any f k _ hk hk8).mono ?_
    rintro e w' ⟨rfl, rfl⟩
    have h1 := h.below ((Below.refl _ _).alloc (Nat.le_refl _) (.cells #[.int .i64 0, .int .i64 0] 27))
    go_wp2_with fail
    refine (get_any v zs _ 4 _ h1).mono ?_
    rintro e w' ⟨rfl, rfl⟩
    rw [show errV zs (spotV f k) 4 = 0 from hn, hv]
    clear hn hv h1
    go_wp2_with fail
    refine (unpack_any X _ hwf).mono ?_
    rintro e w1 ⟨rfl, hb1⟩
    have ho := own_one (xs := [_, _]) hb1
    have hbw : Below w.heap.size w w1 := ((Below.refl _ _).alloc (Nat.le_refl _) _).trans (hb1.mono (by simp))
    have hlt := ho.lt
    clear hb1
    obtain ⟨⟨c0, c1⟩, f0, f1⟩ := ho.pair
    clear ho
    go_wp2
    exact bodyPost_ret (v := entV (upK X) (upN X) (upE X)) (by simp [results, Try.results17, go_sem, c0, c1, hlt]) rfl ⟨rfl, (hbw.setCell (by simp) _).setCell (by simp) _⟩
  · obtain ⟨e1, e2, e3⟩ := rdE_no hn
    rw [e1, e2, e3]
    have hn2 : errV zs (spotV f k) 4 = 2 := by
      rcases numE_cases zs f k with h | h
      · exact absurd h hn
      · exact h
    clear hn e1 e2 e3
    go_enter Try.func17, Try.ntmps17
    go_wp2_with fail
    refine (spot_any f k _ hk hk8).mono ?_
    rintro e w' ⟨rfl, rfl⟩
    have h1 := h.below ((Below.refl _ _).alloc (Nat.le_refl _) (.cells #[.int .i64 0, .int .i64 0] 27))
    go_wp2_with fail
    refine (get_any v zs _ 4 _ h1).mono ?_
    rintro e w' ⟨rfl, rfl⟩
    rw [hn2]
    generalize getV zs (spotV f k) 4 = X at *
    clear hn2 h1
    go_wp2
    exact bodyPost_ret (v := entV 0 0 2) (by simp [results, Try.results17, go_sem]) rfl ⟨rfl, (Below.refl _ _).alloc (Nat.le_refl _) _⟩

end Go.Proofs.Ytgdmkmhpdijokac

/- The contract of check.Tags: the first granule that has another tag. -/
import Derived.Test.YtkmkjngfoodehadCheck1
namespace Go.Proofs.Ytkmkjngfoodehad
open Go.RowKit
set_option linter.unusedSimpArgs false
set_option linter.unusedVariables false

/-- The place of the first one that is not t. -/
def fu (zs : List Int) (t : Int) : Nat := zs.findIdx (fun z => z != t)

theorem fu_le (zs : List Int) (t : Int) : fu zs t ≤ zs.length := List.findIdx_le_length

theorem fu_before {zs : List Int} {t : Int} {k : Nat} (h : k < fu zs t) : zs.getD k 0 = t := by
  have hl : k < zs.length := Nat.lt_of_lt_of_le h (fu_le zs t)
  have := List.not_of_lt_findIdx h
  rw [List.getD_eq_getElem?_getD, List.getElem?_eq_getElem hl]
  simpa using this

theorem fu_at {zs : List Int} {t : Int} (h : fu zs t < zs.length) : zs.getD (fu zs t) 0 ≠ t := by
  have : (zs[fu zs t]'h != t) = true := List.findIdx_getElem (xs := zs) (p := fun z => z != t) (w := h)
  rw [List.getD_eq_getElem?_getD, List.getElem?_eq_getElem h]
  simpa using this

theorem fu_hit {zs : List Int} {t : Int} {k : Nat} (h : k ≤ fu zs t) (hk : zs.getD k 0 ≠ t) : fu zs t = k := by
  rcases Nat.lt_or_ge k (fu zs t) with h1 | h1
  · exact absurd (fu_before h1) hk
  · omega

theorem fu_pass {zs : List Int} {t : Int} {k : Nat} (h : k ≤ fu zs t) (hl : k < zs.length) (hk : zs.getD k 0 = t) : k + 1 ≤ fu zs t := by
  rcases Nat.lt_or_ge k (fu zs t) with h1 | h1
  · exact h1
  · obtain rfl : k = fu zs t := by omega
    exact absurd hk (fu_at hl)

/-- Whether tags fault. -/
def tgH (T : Bool) (y : Int) (zs : List Int) (t : Int) : Prop := T = true ∧ y ≠ 4 ∧ fu zs t < zs.length
instance (T : Bool) (y : Int) (zs : List Int) (t : Int) : Decidable (tgH T y zs t) := by unfold tgH; infer_instance

def tgF (T : Bool) (y : Int) (zs : List Int) (t : Int) : Int := if tgH T y zs t then 4 else 0
def tgK (T : Bool) (y : Int) (zs : List Int) (t : Int) : Int := if tgH T y zs t then fu zs t else 0

theorem tg_no {T : Bool} {y : Int} {zs : List Int} {t : Int} (h : ¬ tgH T y zs t) : tgF T y zs t = 0 ∧ tgK T y zs t = 0 := by
  unfold tgF tgK; rw [if_neg h, if_neg h]; exact ⟨rfl, rfl⟩
theorem tg_yes {T : Bool} {y : Int} {zs : List Int} {t : Int} (h : tgH T y zs t) : tgF T y zs t = 4 ∧ tgK T y zs t = fu zs t := by
  unfold tgF tgK; rw [if_pos h, if_pos h]; exact ⟨rfl, rfl⟩

theorem IsInts.below {w w' : World} {v : Value} {zs : List Int} {B : Nat} (h : IsInts w v zs) (hb : Below B w w') (hB : B = w.heap.size) : IsInts w' v zs := by
  subst hB
  obtain ⟨a, cap, h1, h2, h3, h4, h5⟩ := h
  refine ⟨a, cap, h1, h2, h3, h4, fun hp => ?_⟩
  obtain ⟨b, off, ha, hc⟩ := h5 hp
  exact ⟨b, off, ha, fun i hi => (hb.cell (cell_lt (hc i hi))).trans (hc i hi)⟩

set_option maxHeartbeats 800000 in
theorem tags_any (r k : Int) (T s : Bool) (y : Int) (v : Value) (zs : List Int) (t : Int) (w : World) (h : IsInts w v zs) :
    Calls Try.prog 17 #[.agg #[.int .i64 r, .int .i64 k, .bool T, .bool s], .int .i64 y, v, .int .i64 t] w fun e w' => e = .returned (.tuple #[.int .i64 (tgF T y zs t), .int .i64 (tgK T y zs t)]) ∧ Below w.heap.size w w' := by
  have hbe : Hid (∀ o, Below w.heap.size w (w.alloc o)) := fun o => (Below.refl _ _).alloc (Nat.le_refl _) _
  cases T
  · obtain ⟨e1, e2⟩ := tg_no (T := false) (y := y) (zs := zs) (t := t) (by simp [tgH])
    rw [e1, e2]
    clear e1 e2
    go_enter Try.func17, Try.ntmps17
    go_wp2
    go_ret2
    exact ⟨rfl, hbe.out _⟩
  by_cases h4 : y = 4
  · obtain ⟨e1, e2⟩ := tg_no (T := true) (y := y) (zs := zs) (t := t) (by simp [tgH, h4])
    rw [e1, e2]
    clear e1 e2
    go_enter Try.func17, Try.ntmps17
    go_wp2
    go_ret2
    exact ⟨rfl, hbe.out _⟩
  obtain ⟨a, cap, rfl, hzc, hzl, -, hz'⟩ := h
  obtain ⟨n, hn⟩ : ∃ n, Hid (n = zs.length) := ⟨_, rfl⟩
  rw [← hn.out] at hzc hzl hz' ⊢
  obtain ⟨F, hF⟩ : ∃ F, Hid (F = tgF true y zs t) := ⟨_, rfl⟩
  obtain ⟨K, hK⟩ : ∃ K, Hid (K = tgK true y zs t) := ⟨_, rfl⟩
  have H4 : Hid (y ≠ 4) := h4
  rw [← hF.out, ← hK.out]
  have hy4 : (y == 4) = false := by simp [h4]
  clear h4
  go_enter Try.func17, Try.ntmps17
  go_wp2
  go_loopw [21] (fun i wr => ∃ k : Nat, k ≤ n ∧ i = .int .i64 k ∧ Hid (k ≤ fu zs t) ∧ Below w.heap.size w wr) (fun i _ => n - (intOf i).toNat)
  case atStart => exact ⟨0, Nat.zero_le _, rfl, Nat.zero_le _, hbe.out _⟩
  case round =>
    obtain ⟨j, hj, rfl, hju, hbel⟩ := hrel
    by_cases hlt : j < n
    · obtain ⟨b, off, rfl, hz⟩ := hz' (by omega)
      have hck := hz j hlt
      have HP : Hid (zs.getD j 0 = t → j + 1 ≤ fu zs t) := fun h => fu_pass hju.out (by rw [← hn.out]; exact hlt) h
      have HH : Hid (zs.getD j 0 ≠ t → fu zs t = j) := fun h => fu_hit hju.out h
      obtain ⟨o, ho⟩ : ∃ o, o = zs.getD j 0 := ⟨_, rfl⟩
      rw [← ho] at hck HP HH
      have hk0 : wr.cell? ⟨b, off + j, none⟩ = some (.int .i64 o) := (hbel.cell (cell_lt hck)).trans hck
      clear hck ho
      by_cases ht : o = t
      · have HT : Hid (j + 1 ≤ fu zs t) := HP.out ht
        subst ht
        clear HP HH
        go_wp2
        go_roundw
        case rel => exact ⟨j + 1, by omega, by go_num, HT, hbel⟩
        case measure => simp [intOf]; omega
      · have HT : Hid (fu zs t = j) := HH.out ht
        have hne : (o != t) = true := by simp [ht]
        clear HP HH ht
        obtain ⟨e1, e2⟩ := tg_yes (T := true) (y := y) (zs := zs) (t := t) ⟨rfl, H4.out, by rw [HT.out, ← hn.out]; exact hlt⟩
        obtain rfl : F = 4 := by rw [hF.out]; exact e1
        obtain rfl : K = (j : Int) := by rw [hK.out, e2, HT.out]
        clear e1 e2
        go_wp2
        go_ret2
        exact ⟨rfl, hbel⟩
    · have hno : ¬ tgH true y zs t := fun h => by have := h.2.2; have := hju.out; have := hn.out; omega
      obtain ⟨e1, e2⟩ := tg_no hno
      obtain rfl : F = 0 := by rw [hF.out]; exact e1
      obtain rfl : K = 0 := by rw [hK.out]; exact e2
      clear e1 e2 hno
      go_wp2
      go_ret2
      exact ⟨rfl, hbel⟩

end Go.Proofs.Ytkmkjngfoodehad

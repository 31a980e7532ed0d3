/- The contracts of slices.Equal and slices.Clone at api.Cached. -/
import Derived.Test.YtgkdbcafijhdiacTlb5
namespace Go.Proofs.Ytgkdbcafijhdiac
open Go.RowKit
set_option linter.unusedSimpArgs false
set_option linter.unusedVariables false

theorem take_eq_succ' {α : Type} (l m : List α) (d : α) (k : Nat) (h : l.take k = m.take k) (hl : k < l.length) (hm : k < m.length) (hd : l.getD k d = m.getD k d) : l.take (k + 1) = m.take (k + 1) := by
  rw [List.getD_eq_getElem?_getD, List.getD_eq_getElem?_getD, List.getElem?_eq_getElem hl, List.getElem?_eq_getElem hm] at hd
  rw [List.take_add_one, List.take_add_one, h, List.getElem?_eq_getElem hl, List.getElem?_eq_getElem hm]
  simp only [Option.getD_some] at hd
  rw [hd]

/-- The four cells of an element, in a later world. -/
theorem cell4 {w wr : World} {b off : Nat} {l : List C4} (hc : ∀ j u, (flatL encC l)[j]? = some u → w.cell? ⟨b, off + j, none⟩ = some u) (hbel : Below w.heap.size w wr) (k : Nat) (hk : k < l.length) {x y z u : Int} (hp : (x, y, z, u) = l.getD k (0, 0, 0, 0)) :
    wr.cell? ⟨b, off + k * 4, none⟩ = some (.int .i64 x) ∧ wr.cell? ⟨b, off + k * 4 + 1, none⟩ = some (.int .i64 y) ∧ wr.cell? ⟨b, off + k * 4 + 2, none⟩ = some (.int .i64 z) ∧ wr.cell? ⟨b, off + k * 4 + 3, none⟩ = some (.int .i64 u) := by
  have hcell := fun t u ht hu => recs_cell shC hc (0, 0, 0, 0) k t hk ht (u := u) hu
  rw [← hp] at hcell
  exact ⟨(hbel.cell (cell_lt (hcell 0 _ (by decide) rfl))).trans (hcell 0 _ (by decide) rfl), (hbel.cell (cell_lt (hcell 1 _ (by decide) rfl))).trans (hcell 1 _ (by decide) rfl),
    (hbel.cell (cell_lt (hcell 2 _ (by decide) rfl))).trans (hcell 2 _ (by decide) rfl), (hbel.cell (cell_lt (hcell 3 _ (by decide) rfl))).trans (hcell 3 _ (by decide) rfl)⟩

set_option maxHeartbeats 1600000 in
theorem cequal_any (v u : Value) (l m : List C4) (B : Nat) (w : World) (h : IsRecs encC B w v l) (hu : IsRecs encC B w u m) (hB : B ≤ 4398046511104) :
    Calls Try.prog 18 #[v, u] w fun e w' => e = .returned (.bool (decide (l = m))) ∧ Below w.heap.size w w' := by
  obtain ⟨a, cap, rfl, h1, hl, hc'⟩ := h
  obtain ⟨a', cap', rfl, h1', hl', hm'⟩ := hu
  by_cases hne : l.length = m.length
  · obtain ⟨n, hn⟩ : ∃ n, Hid (n = l.length) := ⟨_, rfl⟩
    have hn2 : Hid (n = m.length) := hn.out.trans hne
    rw [← hn.out] at hl hc' ⊢
    rw [← hn2.out] at hl' hm' ⊢
    clear hne
    go_enter Try.func18, Try.ntmps18
    go_wp2_with fail
    go_loopw [13] (fun i wr => ∃ k : Nat, k ≤ n ∧ i = .int .i64 k ∧ Hid (l.take k = m.take k) ∧ Below w.heap.size w wr) (fun i _ => n - (intOf i).toNat)
    case atStart => exact ⟨0, Nat.zero_le _, rfl, by simp [Hid], Below.refl _ _⟩
    case round =>
      obtain ⟨k, hk, rfl, hok, hbel⟩ := hrel
      by_cases hlt : k < n
      · obtain ⟨b, off, rfl, hc⟩ := hc' (by omega)
        obtain ⟨g, goff, rfl, hm⟩ := hm' (by omega)
        obtain ⟨⟨a, e, c, d⟩, hp⟩ : ∃ p, p = l.getD k (0, 0, 0, 0) := ⟨_, rfl⟩
        obtain ⟨⟨x, y, z, t⟩, hr⟩ : ∃ p, p = m.getD k (0, 0, 0, 0) := ⟨_, rfl⟩
        have HP : Hid ((a, e, c, d) = l.getD k (0, 0, 0, 0)) := hp
        have HR : Hid ((x, y, z, t) = m.getD k (0, 0, 0, 0)) := hr
        obtain ⟨hk0, hk1, hk2, hk3⟩ := cell4 hc hbel k (by rw [← hn.out]; exact hlt) hp
        obtain ⟨hr0, hr1, hr2, hr3⟩ := cell4 hm hbel k (by rw [← hn2.out]; exact hlt) hr
        clear hp hr
        have hq := neq_cached a e c d x y z t
        have hg := eqGuard_cached
        have HT := take_eq_succ' l m (0, 0, 0, 0) k hok.out (by rw [← hn.out]; exact hlt) (by rw [← hn2.out]; exact hlt)
        rw [← HP.out, ← HR.out] at HT
        have HH : Hid _ := HT
        clear HT
        obtain ⟨E, hE⟩ : ∃ E, Hid (decide ((a, e, c, d) = (x, y, z, t)) = E) := ⟨_, rfl⟩
        rw [hE.out] at hq
        cases E with
        | true =>
          go_wp2_with fail
          refine wp_region_calm (by kernel_rfl) (by kernel_rfl) (fun W hW _ => ?_)
          have hbW : Below wr.heap.size wr W := by rw [hW]; exact Below.refl _ _
          have hc0 : ∀ u : Wd W, u.w.cell? ⟨b, off + k * 4, none⟩ = some (.int .i64 a) := fun u => u.cell ((hbW.cell (cell_lt hk0)).trans hk0)
          have hc1 : ∀ u : Wd W, u.w.cell? ⟨b, off + k * 4 + 1, none⟩ = some (.int .i64 e) := fun u => u.cell ((hbW.cell (cell_lt hk1)).trans hk1)
          have hc2 : ∀ u : Wd W, u.w.cell? ⟨b, off + k * 4 + 2, none⟩ = some (.int .i64 c) := fun u => u.cell ((hbW.cell (cell_lt hk2)).trans hk2)
          have hc3 : ∀ u : Wd W, u.w.cell? ⟨b, off + k * 4 + 3, none⟩ = some (.int .i64 d) := fun u => u.cell ((hbW.cell (cell_lt hk3)).trans hk3)
          have hc4 : ∀ u : Wd W, u.w.cell? ⟨g, goff + k * 4, none⟩ = some (.int .i64 x) := fun u => u.cell ((hbW.cell (cell_lt hr0)).trans hr0)
          have hc5 : ∀ u : Wd W, u.w.cell? ⟨g, goff + k * 4 + 1, none⟩ = some (.int .i64 y) := fun u => u.cell ((hbW.cell (cell_lt hr1)).trans hr1)
          have hc6 : ∀ u : Wd W, u.w.cell? ⟨g, goff + k * 4 + 2, none⟩ = some (.int .i64 z) := fun u => u.cell ((hbW.cell (cell_lt hr2)).trans hr2)
          have hc7 : ∀ u : Wd W, u.w.cell? ⟨g, goff + k * 4 + 3, none⟩ = some (.int .i64 t) := fun u => u.cell ((hbW.cell (cell_lt hr3)).trans hr3)
          clear hW
          repeat (go_big_quiet_step (fail))
          refine wpQuiet_nil ?_
          rintro w2 ⟨⟨_, hw2⟩, rfl⟩
          have hb2 : Below wr.heap.size wr w2 := hbW.trans (hw2.mono hbW.size)
          go_wp2
          go_roundw
          case rel => exact ⟨k + 1, by omega, by go_num, HH.out (of_decide_eq_true hE.out), hbel.trans (hb2.mono hbel.size)⟩
          case measure => simp [intOf]; omega
        | false =>
          go_wp2_with fail
          refine wp_region_calm (by kernel_rfl) (by kernel_rfl) (fun W hW _ => ?_)
          have hbW : Below wr.heap.size wr W := by rw [hW]; exact Below.refl _ _
          have hc0 : ∀ u : Wd W, u.w.cell? ⟨b, off + k * 4, none⟩ = some (.int .i64 a) := fun u => u.cell ((hbW.cell (cell_lt hk0)).trans hk0)
          have hc1 : ∀ u : Wd W, u.w.cell? ⟨b, off + k * 4 + 1, none⟩ = some (.int .i64 e) := fun u => u.cell ((hbW.cell (cell_lt hk1)).trans hk1)
          have hc2 : ∀ u : Wd W, u.w.cell? ⟨b, off + k * 4 + 2, none⟩ = some (.int .i64 c) := fun u => u.cell ((hbW.cell (cell_lt hk2)).trans hk2)
          have hc3 : ∀ u : Wd W, u.w.cell? ⟨b, off + k * 4 + 3, none⟩ = some (.int .i64 d) := fun u => u.cell ((hbW.cell (cell_lt hk3)).trans hk3)
          have hc4 : ∀ u : Wd W, u.w.cell? ⟨g, goff + k * 4, none⟩ = some (.int .i64 x) := fun u => u.cell ((hbW.cell (cell_lt hr0)).trans hr0)
          have hc5 : ∀ u : Wd W, u.w.cell? ⟨g, goff + k * 4 + 1, none⟩ = some (.int .i64 y) := fun u => u.cell ((hbW.cell (cell_lt hr1)).trans hr1)
          have hc6 : ∀ u : Wd W, u.w.cell? ⟨g, goff + k * 4 + 2, none⟩ = some (.int .i64 z) := fun u => u.cell ((hbW.cell (cell_lt hr2)).trans hr2)
          have hc7 : ∀ u : Wd W, u.w.cell? ⟨g, goff + k * 4 + 3, none⟩ = some (.int .i64 t) := fun u => u.cell ((hbW.cell (cell_lt hr3)).trans hr3)
          clear hW
          repeat (go_big_quiet_step (fail))
          refine wpQuiet_nil ?_
          rintro w2 ⟨⟨_, hw2⟩, rfl⟩
          have hb2 : Below wr.heap.size wr w2 := hbW.trans (hw2.mono hbW.size)
          go_wp2
          go_ret
          refine ⟨ret_bool ?_, hbel.trans (hb2.mono hbel.size)⟩
          symm
          rw [decide_eq_false_iff_not]
          intro h
          subst h
          rw [← HR.out] at HP
          exact of_decide_eq_false hE.out HP.out
      · go_wp2
        go_ret
        refine ⟨ret_bool ?_, hbel⟩
        symm
        rw [decide_eq_true_iff]
        have := hok.out
        rwa [List.take_of_length_le (by rw [← hn.out]; omega), List.take_of_length_le (by rw [← hn2.out]; omega)] at this
  · have hd : ¬ ((l.length : Int) = (m.length : Int)) := by omega
    go_enter Try.func18, Try.ntmps18
    go_wp2
    go_ret
    refine ⟨ret_bool ?_, Below.refl _ _⟩
    symm
    rw [decide_eq_false_iff_not]
    intro h
    exact hne (by rw [h])

theorem cequal_is {f : Bool} (v u : Value) (l m : List C4) (B : Nat) (w : World) (h : IsRecs encC B w v l) (hu : IsRecs encC B w u m) (hB : B ≤ 4398046511104) (hf : decide (l = m) = f) :
    Calls Try.prog 18 #[v, u] w fun e w' => e = .returned (.bool f) ∧ Below w.heap.size w w' := hf ▸ cequal_any v u l m B w h hu hB

theorem RowC.recs {w : World} {g cap : Nat} {l : List C4} (h : RowC w g cap l) {B : Nat} (hB : l.length ≤ B) : IsRecs encC B w (.slice (some ⟨g, 0, none⟩) l.length cap) l := by
  obtain ⟨xs, hrow, h3, h1, h4⟩ := h
  refine ⟨_, _, rfl, h1, hB, fun _ => ⟨g, 0, rfl, fun j u hj => ?_⟩⟩
  rw [Nat.zero_add, hrow.cell]
  rw [← h4] at hj
  have hlt := (List.getElem?_eq_some_iff.1 hj).1
  rw [List.length_take] at hlt
  rwa [List.getElem?_take_of_lt (by omega)] at hj

/-- The place of the first of which p holds, or -1. -/
def idxP (p : C4 → Bool) (l : List C4) : Int := if l.any p then ((l.findIdx p : Nat) : Int) else -1

theorem any_succ (p : C4 → Bool) (l : List C4) (k : Nat) (hk : k < l.length) : (l.take (k + 1)).any p = ((l.take k).any p || p (l.getD k (0, 0, 0, 0))) := by
  rw [List.take_add_one, List.getElem?_eq_getElem hk, List.getD_eq_getElem?_getD, List.getElem?_eq_getElem hk, List.any_append]
  simp

theorem idxP_found {p : C4 → Bool} {l : List C4} {k : Nat} (hk : k < l.length) (h : (l.take k).any p = false) (hf : p (l.getD k (0, 0, 0, 0)) = true) : idxP p l = k := by
  rw [List.getD_eq_getElem?_getD, List.getElem?_eq_getElem hk] at hf
  simp only [Option.getD_some] at hf
  have hfi : l.findIdx p = k := by
    rw [List.findIdx_eq hk]
    refine ⟨hf, fun j hj => ?_⟩
    rw [List.any_eq_false] at h
    have := h l[j] (by rw [List.mem_take_iff_getElem]; exact ⟨j, by omega, rfl⟩)
    simpa using this
  have hany : l.any p = true := List.any_eq_true.2 ⟨l[k], List.getElem_mem hk, hf⟩
  unfold idxP
  rw [if_pos hany, hfi]

theorem idxP_none {p : C4 → Bool} {l : List C4} (h : l.any p = false) : idxP p l = -1 := by
  unfold idxP
  rw [if_neg (by rw [h]; decide)]

theorem idxP_pos (p : C4 → Bool) (l : List C4) : decide (0 ≤ idxP p l) = l.any p := by
  unfold idxP
  cases h : l.any p <;> simp [h]

end Go.Proofs.Ytgkdbcafijhdiac

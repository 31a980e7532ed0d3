/- Slices of bools as lists; the contracts of slices.Equal, slices.Index, slices.Contains and slices.Clone at bool. -/
import Derived.Test.YtidaoomhnfgckagRows
import Derived.WalkKit
import Derived.WalkLawsBesides
import Derived.WalkSpells
import Derived.Below
import Derived.OpenShut
import Derived.Test.YtidaoomhnfgckagCalm
import Derived.Test.YtidaoomhnfgckagRecs
namespace Go.Proofs.Ytidaoomhnfgckag
open Go.RowKit
set_option linter.unusedSimpArgs false
set_option linter.unusedVariables false

def encB (x : Bool) : List Value := [.bool x]

theorem shB : Shape Bool 1 encB := ⟨fun _ => rfl, fun x v hv => by
  simp only [encB, List.mem_cons, List.not_mem_nil, or_false] at hv
  subst hv
  rfl, by decide⟩

theorem info_bool : (Try.prog.info? 4).map (fun i => (i.zero, i.size, i.bytes)) = some (some (.bool false), 1, 1) := by kernel_rfl

/-- The cell of an element, in a later world. -/
theorem cellB {w wr : World} {b off : Nat} {l : List Bool} (hc : ∀ j u, (flatL encB l)[j]? = some u → w.cell? ⟨b, off + j, none⟩ = some u) (hbel : Below w.heap.size w wr) (k : Nat) (hk : k < l.length) {x : Bool} (hp : x = l.getD k false) : wr.cell? ⟨b, off + k, none⟩ = some (.bool x) := by
  have hcell := recs_cell shB hc false k 0 hk (by decide) (u := .bool x) (by rw [← hp]; rfl)
  rw [Nat.mul_one, Nat.add_zero] at hcell
  exact (hbel.cell (cell_lt hcell)).trans hcell

theorem flatB_len (l : List Bool) : (flatL encB l).length = l.length := by rw [flatL_len shB, Nat.mul_one]

theorem flatB_map (l : List Bool) : flatL encB l = l.map Value.bool := by
  induction l with
  | nil => rfl
  | cons x r ih => rw [flatL_cons, ih]; rfl

theorem flatB_set (l : List Bool) (i : Nat) (b : Bool) : flatL encB (l.set i b) = (flatL encB l).set i (.bool b) := by
  rw [flatB_map, flatB_map, List.map_set]

theorem take_eq_succB (l m : List Bool) (k : Nat) (h : l.take k = m.take k) (hl : k < l.length) (hm : k < m.length) (hd : l.getD k false = m.getD k false) : l.take (k + 1) = m.take (k + 1) := by
  rw [List.getD_eq_getElem?_getD, List.getD_eq_getElem?_getD, List.getElem?_eq_getElem hl, List.getElem?_eq_getElem hm] at hd
  rw [List.take_add_one, List.take_add_one, h, List.getElem?_eq_getElem hl, List.getElem?_eq_getElem hm]
  simp only [Option.getD_some] at hd
  rw [hd]

set_option maxHeartbeats 800000 in
theorem bequal_any (v u : Value) (l m : List Bool) (B : Nat) (w : World) (h : IsRecs encB B w v l) (hu : IsRecs encB B w u m) (hB : B ≤ 140737488355328) :
    Calls Try.prog 8 #[v, u] w fun e w' => e = .returned (.bool (decide (l = m))) ∧ Below w.heap.size w w' := by
  obtain ⟨a, cap, rfl, h1, hl, hc'⟩ := h
  obtain ⟨a', cap', rfl, h1', hl', hm'⟩ := hu
  by_cases hne : l.length = m.length
  · obtain ⟨n, hn⟩ : ∃ n, Hid (n = l.length) := ⟨_, rfl⟩
    have hn2 : Hid (n = m.length) := hn.out.trans hne
    rw [← hn.out] at hl hc' ⊢
    rw [← hn2.out] at hl' hm' ⊢
    clear hne
    go_enter Try.func8, Try.ntmps8
    go_wp2_with fail
    go_loopw [13] (fun i wr => ∃ k : Nat, k ≤ n ∧ i = .int .i64 k ∧ Hid (l.take k = m.take k) ∧ Below w.heap.size w wr) (fun i _ => n - (intOf i).toNat)
    case atStart => exact ⟨0, Nat.zero_le _, rfl, by simp [Hid], Below.refl _ _⟩
    case round =>
      obtain ⟨k, hk, rfl, hok, hbel⟩ := hrel
      by_cases hlt : k < n
      · obtain ⟨b, off, rfl, hc⟩ := hc' (by omega)
        obtain ⟨g, goff, rfl, hm⟩ := hm' (by omega)
        obtain ⟨x, hp⟩ : ∃ p, p = l.getD k false := ⟨_, rfl⟩
        obtain ⟨y, hr⟩ : ∃ p, p = m.getD k false := ⟨_, rfl⟩
        have HP : Hid (x = l.getD k false) := hp
        have HR : Hid (y = m.getD k false) := hr
        have hk0 := cellB hc hbel k (by rw [← hn.out]; exact hlt) hp
        have hr0 := cellB hm hbel k (by rw [← hn2.out]; exact hlt) hr
        clear hp hr
        have HT := take_eq_succB l m k hok.out (by rw [← hn.out]; exact hlt) (by rw [← hn2.out]; exact hlt)
        rw [← HP.out, ← HR.out] at HT
        have HH : Hid _ := HT
        clear HT
        by_cases hE : x = y
        · have hd : (!(x == y)) = false := by simpa using hE
          have HE : Hid (x = y) := hE
          clear hE
          go_wp2_with fail
          refine wp_region_calm (by kernel_rfl) (by kernel_rfl) (fun W hW _ => ?_)
          have hbW : Below wr.heap.size wr W := by rw [hW]; exact Below.refl _ _
          have hc0 : ∀ u : Wd W, u.w.cell? ⟨b, off + k, none⟩ = some (.bool x) := fun u => u.cell ((hbW.cell (cell_lt hk0)).trans hk0)
          have hc1 : ∀ u : Wd W, u.w.cell? ⟨g, goff + k, none⟩ = some (.bool y) := fun u => u.cell ((hbW.cell (cell_lt hr0)).trans hr0)
          clear hW
          repeat (go_big_quiet_step (fail))
          refine wpQuiet_nil ?_
          rintro w2 ⟨⟨_, hw2⟩, rfl⟩
          have hb2 : Below wr.heap.size wr w2 := hbW.trans (hw2.mono hbW.size)
          go_wp2
          go_roundw
          case rel => exact ⟨k + 1, by omega, by go_num, HH.out HE.out, hbel.trans (hb2.mono hbel.size)⟩
          case measure => simp [intOf]; omega
        · have hd : (!(x == y)) = true := by simpa using hE
          have HE : Hid (¬ x = y) := hE
          clear hE
          go_wp2_with fail
          refine wp_region_calm (by kernel_rfl) (by kernel_rfl) (fun W hW _ => ?_)
          have hbW : Below wr.heap.size wr W := by rw [hW]; exact Below.refl _ _
          have hc0 : ∀ u : Wd W, u.w.cell? ⟨b, off + k, none⟩ = some (.bool x) := fun u => u.cell ((hbW.cell (cell_lt hk0)).trans hk0)
          have hc1 : ∀ u : Wd W, u.w.cell? ⟨g, goff + k, none⟩ = some (.bool y) := fun u => u.cell ((hbW.cell (cell_lt hr0)).trans hr0)
          clear hW
          repeat (go_big_quiet_step (fail))
          refine wpQuiet_nil ?_
          rintro w2 ⟨⟨_, hw2⟩, rfl⟩
          have hb2 : Below wr.heap.size wr w2 := hbW.trans (hw2.mono hbW.size)
          go_wp2
          go_ret
          refine ⟨ret_bool ?_, hbel.trans (hb2.mono hbel.size)⟩
          symm
          rw [decide_eq_false_iff_not]
          intro h
          subst h
          exact HE.out (HP.out.trans HR.out.symm)
      · go_wp2
        go_ret
        refine ⟨ret_bool ?_, hbel⟩
        symm
        rw [decide_eq_true_iff]
        have := hok.out
        rwa [List.take_of_length_le (by rw [← hn.out]; omega), List.take_of_length_le (by rw [← hn2.out]; omega)] at this
  · have hd : ¬ ((l.length : Int) = (m.length : Int)) := by omega
    go_enter Try.func8, Try.ntmps8
    go_wp2
    go_ret
    refine ⟨ret_bool ?_, Below.refl _ _⟩
    symm
    rw [decide_eq_false_iff_not]
    intro h
    exact hne (by rw [h])

theorem bequal_is {f : Bool} (v u : Value) (l m : List Bool) (B : Nat) (w : World) (h : IsRecs encB B w v l) (hu : IsRecs encB B w u m) (hB : B ≤ 140737488355328) (hf : decide (l = m) = f) :
    Calls Try.prog 8 #[v, u] w fun e w' => e = .returned (.bool f) ∧ Below w.heap.size w w' := hf ▸ bequal_any v u l m B w h hu hB

theorem true_take_succ {l : List Bool} {k : Nat} (hk : k < l.length) (h : ¬ true ∈ l.take k) (hx : l.getD k false = false) : ¬ true ∈ l.take (k + 1) := by
  rw [List.take_add_one, List.getElem?_eq_getElem hk, Option.toList_some, List.mem_append, List.mem_singleton]
  rw [List.getD_eq_getElem?_getD, List.getElem?_eq_getElem hk, Option.getD_some] at hx
  rintro (h1 | h1)
  · exact h h1
  · rw [hx] at h1; cases h1

theorem true_mem {l : List Bool} {k : Nat} (hk : k < l.length) (hx : l.getD k false = true) : true ∈ l := by
  rw [List.getD_eq_getElem?_getD, List.getElem?_eq_getElem hk, Option.getD_some] at hx
  rw [← hx]
  exact List.getElem_mem _

set_option maxHeartbeats 800000 in
theorem bindex_any (v : Value) (l : List Bool) (B : Nat) (w : World) (h : IsRecs encB B w v l) (hB : B ≤ 140737488355328) :
    Calls Try.prog 13 #[v, .bool true] w fun e w' => ∃ r : Int, e = .returned (.int .i64 r) ∧ (0 ≤ r ↔ true ∈ l) ∧ Below w.heap.size w w' := by
  obtain ⟨a, cap, rfl, h1, hl, hc'⟩ := h
  obtain ⟨n, hn⟩ : ∃ n, Hid (n = l.length) := ⟨_, rfl⟩
  rw [← hn.out] at hl hc' ⊢
  go_enter Try.func13, Try.ntmps13
  go_wp2_with fail
  go_loopw [8] (fun i wr => ∃ k : Nat, k ≤ n ∧ i = .int .i64 k ∧ Hid (¬ true ∈ l.take k) ∧ Below w.heap.size w wr) (fun i _ => n - (intOf i).toNat)
  case atStart => exact ⟨0, Nat.zero_le _, rfl, by simp [Hid], Below.refl _ _⟩
  case round =>
    obtain ⟨k, hk, rfl, hno, hbel⟩ := hrel
    by_cases hlt : k < n
    · obtain ⟨b, off, rfl, hc⟩ := hc' (by omega)
      have hkl : k < l.length := by rw [← hn.out]; exact hlt
      cases hy : l.getD k false with
      | true =>
        have HM : Hid _ := true_mem hkl hy
        have hk0 := cellB hc hbel k hkl hy.symm
        clear hkl hy
        go_wp2
        go_ret
        exact ⟨_, rfl, ⟨fun _ => HM.out, fun _ => by omega⟩, hbel⟩
      | false =>
        have HS : Hid _ := true_take_succ hkl hno.out hy
        have hk0 := cellB hc hbel k hkl hy.symm
        clear hkl hy
        go_wp2
        go_roundw
        case rel => exact ⟨k + 1, by omega, by go_num, HS.out, hbel⟩
        case measure => simp [intOf]; omega
    · go_wp2
      go_ret
      have := hno.out
      rw [List.take_of_length_le (by rw [← hn.out]; omega)] at this
      exact ⟨_, rfl, ⟨fun h => by omega, fun h => absurd h this⟩, hbel⟩

set_option maxHeartbeats 400000 in
theorem bcontains_any (v : Value) (l : List Bool) (B : Nat) (w : World) (h : IsRecs encB B w v l) (hB : B ≤ 140737488355328) :
    Calls Try.prog 10 #[v, .bool true] w fun e w' => e = .returned (.bool (decide (true ∈ l))) ∧ Below w.heap.size w w' := by
  have HI : Hid (Calls Try.prog 13 #[v, .bool true] w fun e w' => ∃ r : Int, e = .returned (.int .i64 r) ∧ (0 ≤ r ↔ true ∈ l) ∧ Below w.heap.size w w') := bindex_any v l B w h hB
  obtain ⟨a, cap, rfl⟩ := h.form
  clear h
  go_enter Try.func10, Try.ntmps10
  go_wp2_with fail
  refine HI.out.mono ?_
  rintro e w' ⟨r, rfl, hr, hb⟩
  have HH : Hid _ := hr
  clear hr
  go_wp2
  go_ret
  exact ⟨ret_bool (by rw [decide_eq_decide]; exact HH.out), hb⟩

theorem bcontains_is {f : Bool} (v : Value) (l : List Bool) (B : Nat) (w : World) (h : IsRecs encB B w v l) (hB : B ≤ 140737488355328) (hf : decide (true ∈ l) = f) :
    Calls Try.prog 10 #[v, .bool true] w fun e w' => e = .returned (.bool f) ∧ Below w.heap.size w w' := hf ▸ bcontains_any v l B w h hB

set_option maxHeartbeats 400000 in
theorem bclone_any (v : Value) (l : List Bool) (B : Nat) (w : World) (h : IsRecs encB B w v l) (hB : B ≤ 140737488355328) :
    Calls Try.prog 11 #[v] w fun e w' => ∃ v', e = .returned v' ∧ OwnR 4 1 encB w.heap.size w' v' l ∧ Below w.heap.size w w' := by
  obtain ⟨a, cap, rfl, h1, hl, hc'⟩ := h
  obtain ⟨i0, hi, hz0, hz1, hz2⟩ := info_parts info_bool
  have q35 : ∀ (w : World) (a : Option Addr) (n c n' c' : Nat), (binOp .eql 22 (.slice a n c) (.slice none n' c')).run Try.prog w = .ok (.bool a.isNone) w := fun w a n c n' c' => Lib.run_eql_slice_nil w _ _ a n c n' c' Try.underlying22
  cases a with
  | none =>
    by_cases hp : 0 < l.length
    · obtain ⟨b, off, hn, -⟩ := hc' hp
      cases hn
    · obtain rfl : l = [] := List.eq_nil_of_length_eq_zero (by omega)
      go_enter Try.func11, Try.ntmps11
      go_wp2
      go_ret
      exact ⟨_, rfl, ownR_nil _ _ _, Below.refl _ _⟩
  | some ad =>
    have hnews : Hid (∀ (w' : World), Below w.heap.size w w' → ∀ j u, (flatL encB l)[j]? = some u → w'.cell? (ad.add j) = some u) := by
      intro w' hb j u hj
      have hlt : j < (flatL encB l).length := (List.getElem?_eq_some_iff.1 hj).1
      rw [flatL_len shB] at hlt
      obtain ⟨b, off, hn, hc⟩ := hc' (by omega)
      cases hn
      rw [add_none]
      have := hc j u hj
      rw [← this]
      exact hb.cell (cell_lt this)
    clear hc'
    go_enter Try.func11, Try.ntmps11
    go_wp2_with (at_builtin; refine wpList_append_own _ rfl _ _ 22 rfl w.heap.size 4 i0 _ 1 1 Try.underlying22 hi hz0 hz1 hz2 rfl (by decide) _ _ _ rfl (World.ownsRow_made w #[] 0 (Nat.le_refl _) (Nat.zero_le _) (by simp)) ad l.length cap (flatL encB l) rfl (flatL_len shB l) (hnews.out _ ((Below.refl _ _).alloc (Nat.le_refl _) _)) (flatL_ones shB l) (by unfold maxLen; omega) (by omega) (by simp) ?_; intro v' w1 hown hgrow hnil)
    go_ret
    refine ⟨v', rfl, by simpa [OwnR] using hown, ?_⟩
    exact ((Below.refl _ w).alloc (Nat.le_refl _) _).grown hgrow (by simp) (by intro k hk; cases hk; exact Nat.le_refl _)

end Go.Proofs.Ytidaoomhnfgckag

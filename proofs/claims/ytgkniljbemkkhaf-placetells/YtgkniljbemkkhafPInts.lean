/- Slices of ints as lists; the contracts of slices.Equal, slices.Index and slices.Contains at int. -/
import Derived.Test.YtgkniljbemkkhafReg3
namespace Go.Proofs.Ytgkniljbemkkhaf
open Go.RowKit
set_option linter.unusedSimpArgs false
set_option linter.unusedVariables false

def encI (x : Int) : List Value := [.int .i64 x]

theorem shI : Shape Int 1 encI := ⟨fun _ => rfl, fun x v hv => by
  simp only [encI, List.mem_cons, List.not_mem_nil, or_false] at hv
  subst hv
  rfl, by decide⟩

theorem info_int : (Try.prog.info? 3).map (fun i => (i.zero, i.size, i.bytes)) = some (some (.int .i64 0), 1, 8) := by kernel_rfl

/-- The cell of an element, in a later world. -/
theorem cell1 {w wr : World} {b off : Nat} {l : List Int} (hc : ∀ j u, (flatL encI l)[j]? = some u → w.cell? ⟨b, off + j, none⟩ = some u) (hbel : Below w.heap.size w wr) (k : Nat) (hk : k < l.length) {x : Int} (hp : x = l.getD k 0) : wr.cell? ⟨b, off + k, none⟩ = some (.int .i64 x) := by
  have hcell := recs_cell shI hc 0 k 0 hk (by decide) (u := .int .i64 x) (by rw [← hp]; rfl)
  rw [Nat.mul_one, Nat.add_zero] at hcell
  exact (hbel.cell (cell_lt hcell)).trans hcell

/-- A box that was just laid: its cell. -/
theorem box1 (W : World) (s : Nat) (hs : s = W.heap.size) (x : Int) (ty : TypeId) : ∀ j u, (encI x)[j]? = some u → (W.alloc (.cells #[.int .i64 x] ty)).cell? (Addr.add ⟨s, 0, none⟩ j) = some u := by
  intro j v hj
  subst hs
  rw [add_none, Nat.zero_add]
  have : OwnRow (W.alloc (.cells #[.int .i64 x] ty)) W.heap.size ty (encI x) := heap_alloc_new W _
  rw [this.cell, hj]

set_option maxHeartbeats 800000 in
theorem iequal_any (v u : Value) (l m : List Int) (B : Nat) (w : World) (h : IsRecs encI B w v l) (hu : IsRecs encI B w u m) (hB : B ≤ 4398046511104) :
    Calls Try.prog 8 #[v, u] w fun e w' => e = .returned (.bool (decide (l = m))) ∧ Below w.heap.size w w' := by
  obtain ⟨a, cap, rfl, h1, hl, hc'⟩ := h
  obtain ⟨a', cap', rfl, h1', hl', hm'⟩ := hu
  by_cases hne : l.length = m.length
  · obtain ⟨n, hn⟩ : ∃ n, Hid (n = l.length) := ⟨_, rfl⟩
    have hn2 : Hid (n = m.length) := hn.out.trans hne
    rw [← hn.out] at hl hc' ⊢
    rw [← hn2.out] at hl' hm' ⊢
    clear hne
    go_enter Try.func8, Try.ntmps8
    go_wp2_with fail
    go_loopw [13] (fun i wr => ∃ k : Nat, k ≤ n ∧ i = .int .i64 k ∧ Hid (l.take k = m.take k) ∧ Below w.heap.size w wr) (fun i _ => n - (intOf i).toNat)
    case atStart => exact ⟨0, Nat.zero_le _, rfl, by simp [Hid], Below.refl _ _⟩
    case round =>
      obtain ⟨k, hk, rfl, hok, hbel⟩ := hrel
      by_cases hlt : k < n
      · obtain ⟨b, off, rfl, hc⟩ := hc' (by omega)
        obtain ⟨g, goff, rfl, hm⟩ := hm' (by omega)
        obtain ⟨x, hp⟩ : ∃ p, p = l.getD k 0 := ⟨_, rfl⟩
        obtain ⟨y, hr⟩ : ∃ p, p = m.getD k 0 := ⟨_, rfl⟩
        have HP : Hid (x = l.getD k 0) := hp
        have HR : Hid (y = m.getD k 0) := hr
        have hk0 := cell1 hc hbel k (by rw [← hn.out]; exact hlt) hp
        have hr0 := cell1 hm hbel k (by rw [← hn2.out]; exact hlt) hr
        clear hp hr
        have HT := take_eq_succ' l m 0 k hok.out (by rw [← hn.out]; exact hlt) (by rw [← hn2.out]; exact hlt)
        rw [← HP.out, ← HR.out] at HT
        have HH : Hid _ := HT
        clear HT
        by_cases hE : x = y
        · have hd : (x != y) = false := by simpa using hE
          have HE : Hid (x = y) := hE
          clear hE
          go_wp2_with fail
          refine wp_region_calm (by kernel_rfl) (by kernel_rfl) (fun W hW _ => ?_)
          have hbW : Below wr.heap.size wr W := by rw [hW]; exact Below.refl _ _
          have hc0 : ∀ u : Wd W, u.w.cell? ⟨b, off + k, none⟩ = some (.int .i64 x) := fun u => u.cell ((hbW.cell (cell_lt hk0)).trans hk0)
          have hc1 : ∀ u : Wd W, u.w.cell? ⟨g, goff + k, none⟩ = some (.int .i64 y) := fun u => u.cell ((hbW.cell (cell_lt hr0)).trans hr0)
          clear hW
          repeat (go_big_quiet_step (fail))
          refine wpQuiet_nil ?_
          rintro w2 ⟨⟨_, hw2⟩, rfl⟩
          have hb2 : Below wr.heap.size wr w2 := hbW.trans (hw2.mono hbW.size)
          go_wp2
          go_roundw
          case rel => exact ⟨k + 1, by omega, by go_num, HH.out HE.out, hbel.trans (hb2.mono hbel.size)⟩
          case measure => simp [intOf]; omega
        · have hd : (x != y) = true := by simpa using hE
          have HE : Hid (¬ x = y) := hE
          clear hE
          go_wp2_with fail
          refine wp_region_calm (by kernel_rfl) (by kernel_rfl) (fun W hW _ => ?_)
          have hbW : Below wr.heap.size wr W := by rw [hW]; exact Below.refl _ _
          have hc0 : ∀ u : Wd W, u.w.cell? ⟨b, off + k, none⟩ = some (.int .i64 x) := fun u => u.cell ((hbW.cell (cell_lt hk0)).trans hk0)
          have hc1 : ∀ u : Wd W, u.w.cell? ⟨g, goff + k, none⟩ = some (.int .i64 y) := fun u => u.cell ((hbW.cell (cell_lt hr0)).trans hr0)
          clear hW
          repeat (go_big_quiet_step (fail))
          refine wpQuiet_nil ?_
          rintro w2 ⟨⟨_, hw2⟩, rfl⟩
          have hb2 : Below wr.heap.size wr w2 := hbW.trans (hw2.mono hbW.size)
          go_wp2
          go_ret
          refine ⟨ret_bool ?_, hbel.trans (hb2.mono hbel.size)⟩
          symm
          rw [decide_eq_false_iff_not]
          intro h
          subst h
          exact HE.out (HP.out.trans HR.out.symm)
      · go_wp2
        go_ret
        refine ⟨ret_bool ?_, hbel⟩
        symm
        rw [decide_eq_true_iff]
        have := hok.out
        rwa [List.take_of_length_le (by rw [← hn.out]; omega), List.take_of_length_le (by rw [← hn2.out]; omega)] at this
  · have hd : ¬ ((l.length : Int) = (m.length : Int)) := by omega
    go_enter Try.func8, Try.ntmps8
    go_wp2
    go_ret
    refine ⟨ret_bool ?_, Below.refl _ _⟩
    symm
    rw [decide_eq_false_iff_not]
    intro h
    exact hne (by rw [h])

theorem iequal_is {f : Bool} (v u : Value) (l m : List Int) (B : Nat) (w : World) (h : IsRecs encI B w v l) (hu : IsRecs encI B w u m) (hB : B ≤ 4398046511104) (hf : decide (l = m) = f) :
    Calls Try.prog 8 #[v, u] w fun e w' => e = .returned (.bool f) ∧ Below w.heap.size w w' := hf ▸ iequal_any v u l m B w h hu hB

theorem mem_take_succ {l : List Int} {k : Nat} {x : Int} (hk : k < l.length) (h : ¬ x ∈ l.take k) (hx : ¬ x = l.getD k 0) : ¬ x ∈ l.take (k + 1) := by
  rw [List.take_add_one, List.getElem?_eq_getElem hk, Option.toList_some, List.mem_append, List.mem_singleton]
  rw [List.getD_eq_getElem?_getD, List.getElem?_eq_getElem hk] at hx
  rintro (h1 | h1)
  · exact h h1
  · exact hx h1

theorem getD_mem {l : List Int} {k : Nat} (hk : k < l.length) : l.getD k 0 ∈ l := by
  rw [List.getD_eq_getElem?_getD, List.getElem?_eq_getElem hk]
  exact List.getElem_mem _

set_option maxHeartbeats 800000 in
theorem iindex_any (v : Value) (l : List Int) (x : Int) (B : Nat) (w : World) (h : IsRecs encI B w v l) (hB : B ≤ 4398046511104) :
    Calls Try.prog 24 #[v, .int .i64 x] w fun e w' => ∃ r : Int, e = .returned (.int .i64 r) ∧ (0 ≤ r ↔ x ∈ l) ∧ Below w.heap.size w w' := by
  obtain ⟨a, cap, rfl, h1, hl, hc'⟩ := h
  obtain ⟨n, hn⟩ : ∃ n, Hid (n = l.length) := ⟨_, rfl⟩
  rw [← hn.out] at hl hc' ⊢
  go_enter Try.func24, Try.ntmps24
  go_wp2_with fail
  go_loopw [8] (fun i wr => ∃ k : Nat, k ≤ n ∧ i = .int .i64 k ∧ Hid (¬ x ∈ l.take k) ∧ Below w.heap.size w wr) (fun i _ => n - (intOf i).toNat)
  case atStart => exact ⟨0, Nat.zero_le _, rfl, by simp [Hid], Below.refl _ _⟩
  case round =>
    obtain ⟨k, hk, rfl, hno, hbel⟩ := hrel
    by_cases hlt : k < n
    · obtain ⟨b, off, rfl, hc⟩ := hc' (by omega)
      have hkl : k < l.length := by rw [← hn.out]; exact hlt
      have HS : Hid _ := mem_take_succ (x := x) hkl hno.out
      have HM : Hid _ := getD_mem hkl
      obtain ⟨y, hp⟩ : ∃ p, p = l.getD k 0 := ⟨_, rfl⟩
      have hk0 := cell1 hc hbel k hkl hp
      rw [← hp] at HS HM
      clear hp hkl
      by_cases hE : x = y
      · subst hE
        go_wp2
        go_ret
        exact ⟨_, rfl, ⟨fun _ => HM.out, fun _ => by omega⟩, hbel⟩
      · go_wp2
        go_roundw
        case rel => exact ⟨k + 1, by omega, by go_num, HS.out hE, hbel⟩
        case measure => simp [intOf]; omega
    · go_wp2
      go_ret
      have := hno.out
      rw [List.take_of_length_le (by rw [← hn.out]; omega)] at this
      exact ⟨_, rfl, ⟨fun h => by omega, fun h => absurd h this⟩, hbel⟩

set_option maxHeartbeats 400000 in
theorem icontains_any (v : Value) (l : List Int) (x : Int) (B : Nat) (w : World) (h : IsRecs encI B w v l) (hB : B ≤ 4398046511104) :
    Calls Try.prog 14 #[v, .int .i64 x] w fun e w' => e = .returned (.bool (decide (x ∈ l))) ∧ Below w.heap.size w w' := by
  have HI : Hid (Calls Try.prog 24 #[v, .int .i64 x] w fun e w' => ∃ r : Int, e = .returned (.int .i64 r) ∧ (0 ≤ r ↔ x ∈ l) ∧ Below w.heap.size w w') := iindex_any v l x B w h hB
  obtain ⟨a, cap, rfl⟩ := h.form
  clear h
  go_enter Try.func14, Try.ntmps14
  go_wp2_with fail
  refine HI.out.mono ?_
  rintro e w' ⟨r, rfl, hr, hb⟩
  have HH : Hid _ := hr
  clear hr
  go_wp2
  go_ret
  exact ⟨ret_bool (by rw [decide_eq_decide]; exact HH.out), hb⟩

theorem icontains_is {f : Bool} (v : Value) (l : List Int) (x : Int) (B : Nat) (w : World) (h : IsRecs encI B w v l) (hB : B ≤ 4398046511104) (hf : decide (x ∈ l) = f) :
    Calls Try.prog 14 #[v, .int .i64 x] w fun e w' => e = .returned (.bool f) ∧ Below w.heap.size w w' := hf ▸ icontains_any v l x B w h hB

end Go.Proofs.Ytgkniljbemkkhaf

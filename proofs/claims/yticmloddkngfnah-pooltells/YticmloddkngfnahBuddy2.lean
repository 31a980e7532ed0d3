/- Slices of blocks as lists, and the contracts of package buddy's loops over them (touches, buddyOf, best, Right) and of slices.Equal: what each call returns, and that nothing that was there is written. -/
import Derived.Test.YticmloddkngfnahBuddy1
namespace Go.Proofs.Yticmloddkngfnah
open Go.RowKit

/-- The value v is a slice of the blocks l in the world w. -/
def IsBlocks (w : World) (v : Value) (l : List (Int × Int)) : Prop :=
  ∃ a cap, v = .slice a l.length cap ∧ l.length ≤ cap ∧ l.length ≤ 8796093021952 ∧
    (0 < l.length → ∃ b off, a = some ⟨b, off, none⟩ ∧ ∀ i, i < l.length → w.cell? ⟨b, off + i * 2, none⟩ = some (.int .i64 (l.getD i (0, 0)).1) ∧ w.cell? ⟨b, off + i * 2 + 1, none⟩ = some (.int .i64 (l.getD i (0, 0)).2))

theorem IsBlocks.below {w w' : World} {v : Value} {l : List (Int × Int)} (h : IsBlocks w v l) (hb : Below w.heap.size w w') : IsBlocks w' v l := by
  obtain ⟨a, cap, rfl, h1, h2, h4⟩ := h
  refine ⟨a, cap, rfl, h1, h2, fun hp => ?_⟩
  obtain ⟨b, off, rfl, hc⟩ := h4 hp
  refine ⟨b, off, rfl, fun i hi => ?_⟩
  have h := hc i hi
  rw [← h.1, ← h.2]
  exact ⟨hb.cell (cell_lt h.1), hb.cell (cell_lt h.2)⟩

/-- All of them are blocks. -/
def AllBlk (l : List (Int × Int)) : Prop := ∀ p ∈ l, isBlk p.1 p.2 = true

theorem isBlk_iff {x y : Int} : isBlk x y = true ↔ 0 ≤ y ∧ y ≤ 6 ∧ 0 ≤ x ∧ x + sz y ≤ 64 ∧ x % sz y = 0 := by simp [isBlk]

theorem AllBlk.get {l : List (Int × Int)} (h : AllBlk l) {k : Nat} (hk : k < l.length) : isBlk (l.getD k (0, 0)).1 (l.getD k (0, 0)).2 = true := by
  rw [List.getD_eq_getElem?_getD, List.getElem?_eq_getElem hk]
  exact h _ (List.getElem_mem hk)

/-- Whether the block p has a frame of the block (x, y). -/
def meets (x y : Int) (p : Int × Int) : Bool := decide (p.1 < x + sz y) && decide (x < p.1 + sz p.2)

theorem take_any {α : Type} (f : α → Bool) (l : List α) (d : α) (k : Nat) (hk : k < l.length) : (l.take (k + 1)).any f = ((l.take k).any f || f (l.getD k d)) := by
  rw [List.take_add_one, List.getElem?_eq_getElem hk, List.getD_eq_getElem?_getD, List.getElem?_eq_getElem hk, List.any_append]
  simp

theorem any_of_take {α : Type} (f : α → Bool) (l : List α) (k : Nat) (h : (l.take k).any f = true) : l.any f = true := by
  rw [List.any_eq_true] at *
  obtain ⟨x, hx, hf⟩ := h
  exact ⟨x, List.mem_of_mem_take hx, hf⟩

set_option maxHeartbeats 400000 in
theorem touches_any (v : Value) (l : List (Int × Int)) (x y : Int) (w : World) (h : IsBlocks w v l) (hb : isBlk x y = true) (hA : AllBlk l) :
    Calls Try.prog 35 #[v, .agg #[.int .i64 x, .int .i64 y]] w fun e w' => e = .returned (.bool (l.any (meets x y))) ∧ Below w.heap.size w w' := by
  obtain ⟨a, cap, rfl, h1, hl, hc'⟩ := h
  obtain ⟨n, hn⟩ : ∃ n, Hid (n = l.length) := ⟨_, rfl⟩
  obtain ⟨h0, h6, hx0, hx, -⟩ := isBlk_iff.1 hb
  have hs := sz_bd h0 h6
  rw [← hn.out] at hl hc' ⊢
  go_enter Try.func35, Try.ntmps35
  go_wp2_with fail
  go_loopw [9] (fun i wr => ∃ k : Nat, k ≤ n ∧ i = .int .i64 k ∧ Hid ((l.take k).any (meets x y) = false) ∧ wr.cell? ⟨w.heap.size, 0, none⟩ = some (.int .i64 x) ∧ wr.cell? ⟨w.heap.size, 1, none⟩ = some (.int .i64 y) ∧ Below w.heap.size w wr) (fun i _ => n - (intOf i).toNat)
  case atStart => exact ⟨0, Nat.zero_le _, rfl, by simp [Hid], by simp, by simp, (Below.refl _ _).alloc (Nat.le_refl _) _⟩
  case round =>
    obtain ⟨k, hk, rfl, hno, hb0, hb1, hbel⟩ := hrel
    by_cases hlt : k < n
    · obtain ⟨b, off, rfl, hc⟩ := hc' (by omega)
      have hck := hc k hlt
      have hA' := hA.get (k := k) (by rw [← hn.out]; exact hlt)
      have HT : Hid _ := take_any (meets x y) l (0, 0) k (by rw [← hn.out]; exact hlt)
      obtain ⟨⟨px, py⟩, hp⟩ : ∃ p, p = l.getD k (0, 0) := ⟨_, rfl⟩
      rw [← hp] at hck hA' HT
      clear hp
      obtain ⟨q0, q6, qx0, qx, -⟩ := isBlk_iff.1 hA'
      have hqs := sz_bd q0 q6
      simp only at hck q0 q6 qx0 qx hqs
      have hk0 : wr.cell? ⟨b, off + k * 2, none⟩ = some (.int .i64 px) := (hbel.cell (cell_lt hck.1)).trans hck.1
      have hk1 : wr.cell? ⟨b, off + k * 2 + 1, none⟩ = some (.int .i64 py) := (hbel.cell (cell_lt hck.2)).trans hck.2
      clear hck
      by_cases hm1 : px < x + sz y
      · by_cases hm2 : x < px + sz py
        · go_wp2_with fail
          refine wp_region_calm (by kernel_rfl) (by kernel_rfl) (fun W hW _ => ?_)
          have hbW : Below wr.heap.size wr W := by rw [hW]; exact (Below.refl _ _).alloc (Nat.le_refl _) _
          have hc0 : ∀ u : Wd W, u.w.cell? ⟨w.heap.size, 0, none⟩ = some (.int .i64 x) := fun u => u.cell ((hbW.cell (cell_lt hb0)).trans hb0)
          have hc1 : ∀ u : Wd W, u.w.cell? ⟨w.heap.size, 1, none⟩ = some (.int .i64 y) := fun u => u.cell ((hbW.cell (cell_lt hb1)).trans hb1)
          have hc2 : ∀ u : Wd W, u.w.cell? ⟨wr.heap.size, 0, none⟩ = some (.int .i64 px) := fun u => u.cell (by rw [hW]; simp)
          have hc3 : ∀ u : Wd W, u.w.cell? ⟨wr.heap.size, 1, none⟩ = some (.int .i64 py) := fun u => u.cell (by rw [hW]; simp)
          clear hW
          repeat (go_big_quiet_step (first | (go_at_call 44; exact calm_of (end_any _ _ _ (by first | exact h0 | exact q0) (by first | exact h6 | exact q6) (by first | exact hx0 | exact qx0) (by omega)))))
          refine wpQuiet_nil ?_
          rintro w2 ⟨⟨_, hw2⟩, rfl⟩
          have hb2 : Below wr.heap.size wr w2 := hbW.trans (hw2.mono hbW.size)
          go_wp2
          go_ret
          refine ⟨ret_bool ?_, hbel.trans (hb2.mono hbel.size)⟩
          rw [any_of_take _ l (k + 1)]
          rw [HT.out]
          simp [meets, hm1, hm2]
        · have hd2 : decide (x < px + sz py) = false := by simpa using hm2
          go_wp2_with fail
          refine wp_region_calm (by kernel_rfl) (by kernel_rfl) (fun W hW _ => ?_)
          have hbW : Below wr.heap.size wr W := by rw [hW]; exact (Below.refl _ _).alloc (Nat.le_refl _) _
          have hc0 : ∀ u : Wd W, u.w.cell? ⟨w.heap.size, 0, none⟩ = some (.int .i64 x) := fun u => u.cell ((hbW.cell (cell_lt hb0)).trans hb0)
          have hc1 : ∀ u : Wd W, u.w.cell? ⟨w.heap.size, 1, none⟩ = some (.int .i64 y) := fun u => u.cell ((hbW.cell (cell_lt hb1)).trans hb1)
          have hc2 : ∀ u : Wd W, u.w.cell? ⟨wr.heap.size, 0, none⟩ = some (.int .i64 px) := fun u => u.cell (by rw [hW]; simp)
          have hc3 : ∀ u : Wd W, u.w.cell? ⟨wr.heap.size, 1, none⟩ = some (.int .i64 py) := fun u => u.cell (by rw [hW]; simp)
          clear hW
          repeat (go_big_quiet_step (first | (go_at_call 44; exact calm_of (end_any _ _ _ (by first | exact h0 | exact q0) (by first | exact h6 | exact q6) (by first | exact hx0 | exact qx0) (by omega)))))
          refine wpQuiet_nil ?_
          rintro w2 ⟨⟨_, hw2⟩, rfl⟩
          have hb2 : Below wr.heap.size wr w2 := hbW.trans (hw2.mono hbW.size)
          go_wp2
          go_roundw
          case rel => exact ⟨k + 1, by omega, by go_num, by show _ = _; rw [HT.out, hno.out]; simp [meets, hd2], (hb2.cell (cell_lt hb0)).trans hb0, (hb2.cell (cell_lt hb1)).trans hb1, hbel.trans (hb2.mono hbel.size)⟩
          case measure => simp [intOf]; omega
      · have hd1 : decide (px < x + sz y) = false := by simpa using hm1
        go_wp2_with fail
        refine wp_region_calm (by kernel_rfl) (by kernel_rfl) (fun W hW _ => ?_)
        have hbW : Below wr.heap.size wr W := by rw [hW]; exact (Below.refl _ _).alloc (Nat.le_refl _) _
        have hc0 : ∀ u : Wd W, u.w.cell? ⟨w.heap.size, 0, none⟩ = some (.int .i64 x) := fun u => u.cell ((hbW.cell (cell_lt hb0)).trans hb0)
        have hc1 : ∀ u : Wd W, u.w.cell? ⟨w.heap.size, 1, none⟩ = some (.int .i64 y) := fun u => u.cell ((hbW.cell (cell_lt hb1)).trans hb1)
        have hc2 : ∀ u : Wd W, u.w.cell? ⟨wr.heap.size, 0, none⟩ = some (.int .i64 px) := fun u => u.cell (by rw [hW]; simp)
        have hc3 : ∀ u : Wd W, u.w.cell? ⟨wr.heap.size, 1, none⟩ = some (.int .i64 py) := fun u => u.cell (by rw [hW]; simp)
        clear hW
        repeat (go_big_quiet_step (first | (go_at_call 44; exact calm_of (end_any _ _ _ (by first | exact h0 | exact q0) (by first | exact h6 | exact q6) (by first | exact hx0 | exact qx0) (by omega)))))
        refine wpQuiet_nil ?_
        rintro w2 ⟨⟨_, hw2⟩, rfl⟩
        have hb2 : Below wr.heap.size wr w2 := hbW.trans (hw2.mono hbW.size)
        go_wp2
        go_roundw
        case rel => exact ⟨k + 1, by omega, by go_num, by show _ = _; rw [HT.out, hno.out]; simp [meets, hd1], (hb2.cell (cell_lt hb0)).trans hb0, (hb2.cell (cell_lt hb1)).trans hb1, hbel.trans (hb2.mono hbel.size)⟩
        case measure => simp [intOf]; omega
    · go_wp2
      go_ret
      refine ⟨ret_bool ?_, hbel⟩
      have := hno.out
      rw [List.take_of_length_le (by rw [← hn.out]; omega)] at this
      exact this.symm

/-- The place of the buddy of (x, y), or -1. -/
def budIx (x y : Int) (l : List (Int × Int)) : Int := if l.any (fun p => areB p.1 p.2 x y) then ((l.findIdx (fun p => areB p.1 p.2 x y) : Nat) : Int) else -1

theorem findIdx_of_take {α : Type} (f : α → Bool) (l : List α) (d : α) (k : Nat) (hk : k < l.length) (h : (l.take k).any f = false) (hf : f (l.getD k d) = true) : l.findIdx f = k := by
  rw [List.getD_eq_getElem?_getD, List.getElem?_eq_getElem hk] at hf
  rw [List.findIdx_eq hk]
  refine ⟨hf, fun j hj => ?_⟩
  rw [List.any_eq_false] at h
  have := h l[j] (by rw [List.mem_take_iff_getElem]; exact ⟨j, by omega, rfl⟩)
  simpa using this

set_option maxHeartbeats 400000 in
theorem buddyOf_any (v : Value) (l : List (Int × Int)) (x y : Int) (w : World) (h : IsBlocks w v l) (hA : AllBlk l) :
    Calls Try.prog 36 #[v, .agg #[.int .i64 x, .int .i64 y]] w fun e w' => e = .returned (.int .i64 (budIx x y l)) ∧ Below w.heap.size w w' := by
  obtain ⟨a, cap, rfl, h1, hl, hc'⟩ := h
  obtain ⟨n, hn⟩ : ∃ n, Hid (n = l.length) := ⟨_, rfl⟩
  rw [← hn.out] at hl hc' ⊢
  go_enter Try.func36, Try.ntmps36
  go_wp2_with fail
  go_loopw [9] (fun i wr => ∃ k : Nat, k ≤ n ∧ i = .int .i64 k ∧ Hid ((l.take k).any (fun p => areB p.1 p.2 x y) = false) ∧ wr.cell? ⟨w.heap.size, 0, none⟩ = some (.int .i64 x) ∧ wr.cell? ⟨w.heap.size, 1, none⟩ = some (.int .i64 y) ∧ Below w.heap.size w wr) (fun i _ => n - (intOf i).toNat)
  case atStart => exact ⟨0, Nat.zero_le _, rfl, by simp [Hid], by simp, by simp, (Below.refl _ _).alloc (Nat.le_refl _) _⟩
  case round =>
    obtain ⟨k, hk, rfl, hno, hb0, hb1, hbel⟩ := hrel
    by_cases hlt : k < n
    · obtain ⟨b, off, rfl, hc⟩ := hc' (by omega)
      have hck := hc k hlt
      have hA' := hA.get (k := k) (by rw [← hn.out]; exact hlt)
      have HT : Hid _ := take_any (fun p => areB p.1 p.2 x y) l (0, 0) k (by rw [← hn.out]; exact hlt)
      obtain ⟨⟨px, py⟩, hp⟩ : ∃ p, p = l.getD k (0, 0) := ⟨_, rfl⟩
      rw [← hp] at hck hA' HT
      obtain ⟨q0, q6, qx0, qx, -⟩ := isBlk_iff.1 hA'
      have hqs := sz_bd q0 q6
      simp only at hck q0 q6 qx0 qx hqs
      have hk0 : wr.cell? ⟨b, off + k * 2, none⟩ = some (.int .i64 px) := (hbel.cell (cell_lt hck.1)).trans hck.1
      have hk1 : wr.cell? ⟨b, off + k * 2 + 1, none⟩ = some (.int .i64 py) := (hbel.cell (cell_lt hck.2)).trans hck.2
      clear hck
      have HP : Hid ((px, py) = l.getD k (0, 0)) := hp
      clear hp
      obtain ⟨W, hW⟩ : ∃ W, Hid (W = wr.alloc (.cells #[.int .i64 px, .int .i64 py] 45)) := ⟨_, rfl⟩
      have hb2 : Below wr.heap.size wr W := by rw [hW.out]; exact (Below.refl _ _).alloc (Nat.le_refl _) _
      have ha0 : (wr.alloc (.cells #[.int .i64 px, .int .i64 py] 45)).cell? ⟨w.heap.size, 0, none⟩ = some (.int .i64 x) := (((Below.refl wr.heap.size wr).alloc (Nat.le_refl _) _).cell (cell_lt hb0)).trans hb0
      have ha1 : (wr.alloc (.cells #[.int .i64 px, .int .i64 py] 45)).cell? ⟨w.heap.size, 1, none⟩ = some (.int .i64 y) := (((Below.refl wr.heap.size wr).alloc (Nat.le_refl _) _).cell (cell_lt hb1)).trans hb1
      by_cases hm : areB px py x y = true
      · go_wp2_with (go_at_call 45; refine (areBuddies_any _ _ _ _ _ q0 q6).mono ?_; rintro e w2 ⟨rfl, hw2⟩)
        go_ret
        rw [← hW.out] at hw2
        have hb3 := hb2.trans (hw2.mono hb2.size)
        refine ⟨ret_int ?_, hbel.trans (hb3.mono hbel.size)⟩
        have hf := findIdx_of_take (fun p => areB p.1 p.2 x y) l (0, 0) k (by rw [← hn.out]; exact hlt) hno.out (by rw [← HP.out]; exact hm)
        unfold budIx
        rw [if_pos (any_of_take _ l (k + 1) (by rw [HT.out]; simp [hm])), hf]
      · have hm' : areB px py x y = false := by simpa using hm
        clear hm
        go_wp2_with (go_at_call 45; refine (areBuddies_any _ _ _ _ _ q0 q6).mono ?_; rintro e w2 ⟨rfl, hw2⟩)
        rw [← hW.out] at hw2
        have hb3 := hb2.trans (hw2.mono hb2.size)
        go_roundw
        case rel => exact ⟨k + 1, by omega, by go_num, by show _ = _; rw [HT.out, hno.out]; simp [hm'], (hb3.cell (cell_lt hb0)).trans hb0, (hb3.cell (cell_lt hb1)).trans hb1, hbel.trans (hb3.mono hbel.size)⟩
        case measure => simp [intOf]; omega
    · go_wp2
      go_ret
      refine ⟨ret_int ?_, hbel⟩
      have := hno.out
      rw [List.take_of_length_le (by rw [← hn.out]; omega)] at this
      simp [budIx, this]

end Go.Proofs.Yticmloddkngfnah

/- Slices of api.Cached as lists of four numbers; the contracts of tlb.touches and tlb.forget: what is forgotten is taken out in place. -/
import Derived.Test.YtgkdbcafijhdiacRows
import Derived.WalkKit
import Derived.WalkLawsBesides
import Derived.WalkSpells
import Derived.Below
import Derived.OpenShut
import Derived.Test.YtgkdbcafijhdiacCalm
import Derived.Test.YtgkdbcafijhdiacRecs
namespace Go.Proofs.Ytgkdbcafijhdiac
open Go.RowKit
set_option linter.unusedSimpArgs false
set_option linter.unusedVariables false

/-- Proc, Page, Kind, N. -/
abbrev C4 := Int × Int × Int × Int

def encC (p : C4) : List Value := [.int .i64 p.1, .int .i64 p.2.1, .int .i64 p.2.2.1, .int .i64 p.2.2.2]

theorem shC : Shape C4 4 encC := ⟨fun _ => rfl, fun x v hv => by
  simp only [encC, List.mem_cons, List.not_mem_nil, or_false] at hv
  rcases hv with rfl | rfl | rfl | rfl <;> rfl, by decide⟩

theorem info_cached : (Try.prog.info? 40).map (fun i => (i.zero, i.size, i.bytes)) = some (some (.agg #[.int .i64 0, .int .i64 0, .int .i64 0, .int .i64 0]), 4, 32) := by kernel_rfl

/-- Whether c is about what k remembers. -/
def tou (c k : C4) : Bool := decide (c.1 = k.1) && (decide (c.2.1 < 0) || decide (c.2.1 = k.2.1))

/-- What is left when c is told. -/
def fgt (l : List C4) (c : C4) : List C4 := l.filter (fun k => !tou c k)

set_option maxHeartbeats 400000 in
theorem touches_any (a b c d x y z u : Int) (w : World) :
    Calls Try.prog 47 #[.agg #[.int .i64 a, .int .i64 b, .int .i64 c, .int .i64 d], .agg #[.int .i64 x, .int .i64 y, .int .i64 z, .int .i64 u]] w fun e w' => e = .returned (.bool (tou (a, b, c, d) (x, y, z, u))) ∧ Below w.heap.size w w' := by
  have hbe : Hid (∀ o1 o2, Below w.heap.size w ((w.alloc o1).alloc o2)) := fun o1 o2 => ((Below.refl _ _).alloc (Nat.le_refl _) _).alloc (by simp) _
  by_cases h1 : a = x
  · by_cases h2 : b < 0
    · go_enter Try.func47, Try.ntmps47
      go_wp2
      go_ret
      exact ⟨ret_bool (by simp [tou, h1, h2]), hbe.out _ _⟩
    · by_cases h3 : b = y
      · go_enter Try.func47, Try.ntmps47
        go_wp2
        go_ret
        exact ⟨ret_bool (by simp [tou, h1, h2, h3]), hbe.out _ _⟩
      · go_enter Try.func47, Try.ntmps47
        go_wp2
        go_ret
        exact ⟨ret_bool (by have h2' : ¬ b < 0 := by omega
                            simp [tou, h1, h2', h3]), hbe.out _ _⟩
  · go_enter Try.func47, Try.ntmps47
    go_wp2
    go_ret
    exact ⟨ret_bool (by simp [tou, h1]), hbe.out _ _⟩

/-- Block g is a row of the call's own with room for cap, and opens with l. -/
def RowC (w : World) (g cap : Nat) (l : List C4) : Prop := ∃ xs, OwnRow w g 40 xs ∧ xs.length = cap * 4 ∧ l.length ≤ cap ∧ xs.take (l.length * 4) = flatL encC l

theorem RowC.below {w w' : World} {g cap : Nat} {l : List C4} (h : RowC w g cap l) (hb : Below w.heap.size w w') : RowC w' g cap l := by
  obtain ⟨xs, h1, h2⟩ := h
  exact ⟨xs, h1.below hb h1.lt, h2⟩

theorem fgt_succ (l : List C4) (c : C4) (k : Nat) (hk : k < l.length) : fgt (l.take (k + 1)) c = fgt (l.take k) c ++ (if tou c (l.getD k (0, 0, 0, 0)) then [] else [l.getD k (0, 0, 0, 0)]) := by
  unfold fgt
  rw [List.take_add_one, List.getElem?_eq_getElem hk, List.getD_eq_getElem?_getD, List.getElem?_eq_getElem hk, List.filter_append]
  congr 1
  simp only [Option.toList, Option.getD_some]
  cases h : tou c l[k] <;> simp [h]

theorem fgt_len_le (l : List C4) (c : C4) (k : Nat) : (fgt (l.take k) c).length ≤ k := by
  unfold fgt
  have h1 := List.length_filter_le (fun k => !tou c k) (l.take k)
  rw [List.length_take] at h1
  omega

set_option maxHeartbeats 800000 in
theorem forget_any (base g cap : Nat) (l : List C4) (a b c d : Int) (w : World) (hb : base ≤ g) (h : RowC w g cap l) (hcap : cap ≤ 1000000) :
    Calls Try.prog 43 #[.slice (some ⟨g, 0, none⟩) l.length cap, .agg #[.int .i64 a, .int .i64 b, .int .i64 c, .int .i64 d]] w fun e w' => e = .returned (.slice (some ⟨g, 0, none⟩) (fgt l (a, b, c, d)).length cap) ∧ RowC w' g cap (fgt l (a, b, c, d)) ∧ Below base w w' ∧ Spare g w w' := by
  obtain ⟨i0, hi0, hz0, hz1, hz2⟩ := info_parts info_cached
  obtain ⟨xs0, hrow0, hx0, hlc, hxt⟩ := h
  have hgw := hrow0.lt
  obtain ⟨n, hn⟩ : ∃ n, Hid (n = l.length) := ⟨_, rfl⟩
  rw [← hn.out] at hlc hxt ⊢
  have hncap : (n : Int) ≤ (cap : Int) := by omega
  go_enter Try.func43, Try.ntmps43
  go_wp2_with fail
  go_loopw [5, 12] (fun v i wr => ∃ k r : Nat, ∃ xs, k ≤ n ∧ v = .slice (some ⟨g, 0, none⟩) r cap ∧ i = .int .i64 k ∧ Hid (r = (fgt (l.take k) (a, b, c, d)).length) ∧ r ≤ k ∧ Hid (OwnRow wr g 40 xs) ∧ Hid (xs.length = cap * 4) ∧ Hid (xs.take (r * 4) = flatL encC (fgt (l.take k) (a, b, c, d))) ∧ Hid (xs.drop (k * 4) = xs0.drop (k * 4)) ∧ Hid (OwnRow wr w.heap.size 40 (encC (a, b, c, d))) ∧ Below base w wr ∧ Hid (Spare g w wr)) (fun _ i _ => n - (intOf i).toNat)
  case atStart => exact ⟨0, 0, xs0, Nat.zero_le _, rfl, rfl, by simp [Hid, fgt], Nat.le_refl _, hrow0.below ((Below.refl _ _).alloc (Nat.le_refl _) _) hgw, hx0, by simp [Hid, fgt, flatL], rfl, heap_alloc_new w _, (Below.refl _ _).alloc (by omega) _, (Spare.refl g w).alloc _⟩
  case round =>
    obtain ⟨k, r, xs, hk, rfl, rfl, hr, hrk, hrow, hxl, hxr, hxd, hbox, hbel, hsp0⟩ := hrel
    by_cases hlt : k < n
    · have hcell : ∀ t u, (encC (l.getD k (0, 0, 0, 0)))[t]? = some u → t < 4 → wr.cell? ⟨g, k * 4 + t, none⟩ = some u := by
        intro t u hu ht
        rw [hrow.out.cell, ← List.getElem?_drop, hxd.out, List.getElem?_drop]
        rw [← flatL_get shC l (0, 0, 0, 0) k t (by rw [← hn.out]; exact hlt) ht, ← hxt, List.getElem?_take_of_lt (by omega)] at hu
        exact hu
      have HF : Hid _ := fgt_succ l (a, b, c, d) k (by rw [← hn.out]; exact hlt)
      obtain ⟨⟨x, y, z, u⟩, hp⟩ : ∃ p, p = l.getD k (0, 0, 0, 0) := ⟨_, rfl⟩
      rw [← hp] at hcell HF
      clear hp
      have hk0 : wr.cell? ⟨g, k * 4, none⟩ = some (.int .i64 x) := hcell 0 _ rfl (by decide)
      have hk1 : wr.cell? ⟨g, k * 4 + 1, none⟩ = some (.int .i64 y) := hcell 1 _ rfl (by decide)
      have hk2 : wr.cell? ⟨g, k * 4 + 2, none⟩ = some (.int .i64 z) := hcell 2 _ rfl (by decide)
      have hk3 : wr.cell? ⟨g, k * 4 + 3, none⟩ = some (.int .i64 u) := hcell 3 _ rfl (by decide)
      clear hcell
      have hc0 : wr.cell? ⟨w.heap.size, 0, none⟩ = some (.int .i64 a) := by rw [hbox.out.cell]; rfl
      have hc1 : wr.cell? ⟨w.heap.size, 1, none⟩ = some (.int .i64 b) := by rw [hbox.out.cell]; rfl
      have hc2 : wr.cell? ⟨w.heap.size, 2, none⟩ = some (.int .i64 c) := by rw [hbox.out.cell]; rfl
      have hc3 : wr.cell? ⟨w.heap.size, 3, none⟩ = some (.int .i64 d) := by rw [hbox.out.cell]; rfl
      have hsz := hbox.out.lt
      obtain ⟨T, hT⟩ : ∃ T, Hid (tou (a, b, c, d) (x, y, z, u) = T) := ⟨_, rfl⟩
      have HC : Hid (∀ w1, Calls Try.prog 47 #[.agg #[.int .i64 a, .int .i64 b, .int .i64 c, .int .i64 d], .agg #[.int .i64 x, .int .i64 y, .int .i64 z, .int .i64 u]] w1 fun e w' => e = .returned (.bool T) ∧ Below w1.heap.size w1 w') := fun w1 => hT.out ▸ touches_any a b c d x y z u w1
      rw [hT.out] at HF
      cases T with
      | true =>
        go_wp2_with (go_at_call 47; refine (HC.out _).mono ?_; rintro e w2 ⟨rfl, hw2⟩)
        have hb2 := below_one hw2
        have hF := HF.out
        simp only [if_true, List.append_nil] at hF
        go_roundw
        case rel => exact ⟨k + 1, r, xs, by omega, rfl, by go_num, by show _ = _; rw [hF]; exact hr.out, by omega, hrow.out.below hb2 hrow.out.lt, hxl, by show _ = _; rw [hF]; exact hxr.out, drop_more hxd.out (by omega), hbox.out.below hb2 hbox.out.lt, hbel.trans (hb2.mono (by omega)), hsp0.out.trans (Spare.of_below hb2)⟩
        case measure => simp [intOf]; omega
      | false =>
        have hrl : r * 4 ≤ xs.length := by have := hxl.out; omega
        have hsp : Hid (∀ w2, Below wr.heap.size wr w2 → ∀ o, ∀ j, j < (encC (x, y, z, u)).length → ((w2.alloc o).cell? ⟨g, 0 + r * 4 + j, none⟩).isSome = true ∧ (w2.alloc o).frozen? ⟨g, 0 + r * 4 + j, none⟩ = false) := by
          intro w2 hb2 o j hj
          have hr2 : OwnRow (w2.alloc o) g 40 xs := (hrow.out.below hb2 hrow.out.lt).below ((Below.refl _ _).alloc (Nat.le_refl _) _) (hrow.out.below hb2 hrow.out.lt).lt
          have hj' : j < 4 := hj
          exact ⟨xs_cell' hr2 (by have := hxl.out; omega), hr2.free _⟩
        have hnw : Hid (∀ (w2 : World) (t : TypeId) j v, (encC (x, y, z, u))[j]? = some v → (w2.alloc (.cells #[.int .i64 x, .int .i64 y, .int .i64 z, .int .i64 u] t)).cell? (Addr.add ⟨w2.heap.size, 0, none⟩ j) = some v) := by
          intro w2 t j v hj
          rw [add_none, Nat.zero_add]
          have : OwnRow (w2.alloc (.cells #[.int .i64 x, .int .i64 y, .int .i64 z, .int .i64 u] t)) w2.heap.size t (encC (x, y, z, u)) := heap_alloc_new w2 _
          rw [this.cell, hj]
        go_wp2_with (first
          | (go_at_call 47; refine (HC.out _).mono ?_; rintro e w2 ⟨rfl, hw2⟩; obtain ⟨q0, q1, q2, q3⟩ := (own_one (xs := [.int .i64 x, .int .i64 y, .int .i64 z, .int .i64 u]) hw2).quad)
          | (at_builtin; go_must (refine wpList_append_fits rfl _ _ 37 rfl 40 i0 4 Try.underlying37 hi0 hz1 g 0 r cap rfl ⟨w2.heap.size, 0, none⟩ 1 1 (encC (x, y, z, u)) rfl rfl (hnw.out w2 _) (shC.one _) (by omega) (hsp.out w2 (below_one hw2) _) ?_)))
        have hb2 := below_one hw2
        have hF := HF.out
        simp only [Bool.false_eq_true, if_false] at hF
        go_roundw
        case rel =>
          have hr2 := hrow.out.below hb2 hrow.out.lt
          have hr3 : OwnRow (w2.alloc (.cells #[.int .i64 x, .int .i64 y, .int .i64 z, .int .i64 u] 40)) g 40 xs := hr2.below ((Below.refl _ _).alloc (Nat.le_refl _) _) hr2.lt
          have hs2 := hbox.out.below hb2 hbox.out.lt
          have hs3 : OwnRow (w2.alloc (.cells #[.int .i64 x, .int .i64 y, .int .i64 z, .int .i64 u] 40)) w.heap.size 40 (encC (a, b, c, d)) := hs2.below ((Below.refl _ _).alloc (Nat.le_refl _) _) hs2.lt
          have hl4 : (encC (x, y, z, u)).length = 4 := rfl
          have hxl' := hxl.out
          refine ⟨k + 1, r + 1, spl xs (r * 4) (encC (x, y, z, u)), by omega, rfl, by go_num, ?_, by omega, OwnRow.setCells (encC (x, y, z, u)) (r * 4) _ _ hr3 (by rw [hl4]; omega), ?_, ?_, ?_, hs3.other (by omega) _ _, ?_, ((hsp0.out.trans (Spare.of_below hb2)).alloc _).setCells _ _⟩
          · show _ = _
            rw [hF, List.length_append, ← hr.out]
            rfl
          · show _ = _
            rw [spl_len (by rw [hl4]; omega)]
            exact hxl'
          · show _ = _
            rw [show (r + 1) * 4 = r * 4 + (encC (x, y, z, u)).length by rw [hl4]; omega, spl_take_hi (by omega), hxr.out, hF, flatL_append, flatL_one]
          · show _ = _
            rw [spl_drop_hi (by rw [hl4]; omega) (by omega)]
            exact drop_more hxd.out (by omega)
          · exact below_setCells hb _ _ w _ ((hbel.trans (hb2.mono (by omega))).alloc (by have := hb2.size; omega) _)
        case measure => simp [intOf]; omega
    · go_wp2
      go_ret
      obtain rfl : k = n := by omega
      have hr' := hr.out
      have hxr' := hxr.out
      rw [hn.out, List.take_length] at hr' hxr'
      refine ⟨by rw [hr']; rfl, ⟨xs, hrow.out, hxl.out, by omega, by rw [← hr']; exact hxr'⟩, hbel, hsp0.out⟩

end Go.Proofs.Ytgkdbcafijhdiac

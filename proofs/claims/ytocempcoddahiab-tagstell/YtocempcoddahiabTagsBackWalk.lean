/- A tag that was set is there, and no other one has changed: framewardenkeep.TagsBack returns true at every slice of bytes within the form's own reach and at all numbers. -/
import Derived.Test.YtocempcoddahiabTags3
namespace Go.Proofs.Ytocempcoddahiab
open Go.RowKit

theorem tsetE_ok {zs : List Int} {p n t : Int} (h : tokB zs.length p n t = true) : tsetE zs p n t = 0 := by simp [tsetE, h]
theorem tsetE_bad {zs : List Int} {p n t : Int} (h : tokB zs.length p n t = false) : tsetE zs p n t = 2 := by simp [tsetE, h]
theorem tsetV_ok {zs : List Int} {p n t : Int} (h : tokB zs.length p n t = true) : tsetV zs p n t = setK zs p.toNat t n.toNat := by simp [tsetV, h]
theorem tsetV_bad {zs : List Int} {p n t : Int} (h : tokB zs.length p n t = false) : tsetV zs p n t = [] := by simp [tsetV, h]

set_option maxHeartbeats 400000 in
theorem tagsBack_bad (v : Value) (zs : List Int) (p n t g : Int) (w : World) (h : IsBytes w v zs) (hn : n ≤ 9223372036854775807) (hb : tokB zs.length p n t = false) :
    Calls Try.prog 5 #[v, .int .i64 p, .int .i64 n, .int .i64 t, .int .i64 g] w fun e w' => e = .returned (.bool true) ∧ Below w.heap.size w w' := by
  go_enter Try.func5, Try.ntmps5
  go_wp2_with fail
  refine (alive3_any w).mono ?_
  rintro e w1 ⟨rfl, hbel1⟩
  have h1 := h.below hbel1
  go_wp2_with fail
  refine (tset_any v zs p n t w1 h1 hn).mono ?_
  rintro e w2 ⟨v2, rfl, hb2, hbel2⟩
  rw [tsetV_bad hb] at hb2
  rw [tsetE_bad hb]
  obtain ⟨a2, cap2, rfl, -⟩ := hb2
  go_wp2
  go_ret
  exact ⟨rfl, hbel1.trans (hbel2.mono hbel1.size)⟩

set_option maxHeartbeats 400000 in
theorem tagsBack_ok (v : Value) (zs : List Int) (p n : Nat) (t g : Int) (w : World) (h : IsBytes w v zs) (hn : (n : Int) ≤ 9223372036854775807) (hb : tokB zs.length p n t = true) :
    Calls Try.prog 5 #[v, .int .i64 p, .int .i64 n, .int .i64 t, .int .i64 g] w fun e w' => e = .returned (.bool true) ∧ Below w.heap.size w w' := by
  obtain ⟨g1, g2, g3, g4, g5⟩ := tokB_iff.1 hb
  have hzl : zs.length ≤ 140737488351232 := by obtain ⟨_, _, _, _, hl, _⟩ := h; exact hl
  have hE : tgetE (setK zs p t n) g = tgetE zs g := by unfold tgetE; rw [length_setK]
  have hV : tgetV (setK zs p t n) g = if p ≤ g ∧ g < p + n then t else tgetV zs g := by
    unfold tgetV
    rw [length_setK]
    by_cases hg : 0 ≤ g ∧ g < 2 * zs.length
    · rw [if_pos hg, if_pos hg, nib_setK zs p t g.toNat g1 g2 n (by omega)]
      by_cases hh : (p : Int) ≤ g ∧ g < p + n
      · rw [if_pos hh, if_pos (by omega)]
      · rw [if_neg hh, if_neg (by omega)]
    · rw [if_neg hg, if_neg hg, if_neg (by omega)]
  obtain ⟨R, hR⟩ : ∃ R, Hid (R = if (p : Int) ≤ g ∧ g < p + n then t else tgetV zs g) := ⟨_, rfl⟩
  rw [← hR.out] at hV
  go_enter Try.func5, Try.ntmps5
  go_wp2_with fail
  refine (alive3_any w).mono ?_
  rintro e w1 ⟨rfl, hbel1⟩
  have h1 := h.below hbel1
  go_wp2_with fail
  refine (tset_any v zs p n t w1 h1 hn).mono ?_
  rintro e w2 ⟨v2, rfl, hb2, hbel2⟩
  rw [tsetV_ok hb, Int.toNat_natCast, Int.toNat_natCast] at hb2
  rw [tsetE_ok hb]
  have h2 := h1.below hbel2
  go_wp2_with fail
  refine (tget_any v2 _ g w2 hb2).mono ?_
  rintro e w3 ⟨rfl, hbel3⟩
  rw [hE, hV]
  have h3 := h2.below hbel3
  go_wp2_with fail
  refine (tget_any v zs g w3 h3).mono ?_
  rintro e w4 ⟨rfl, hbel4⟩
  have hB : Below w.heap.size w w4 := ((hbel1.trans (hbel2.mono hbel1.size)).trans (hbel3.mono (by have := hbel1.size; have := hbel2.size; omega))).trans (hbel4.mono (by have := hbel1.size; have := hbel2.size; have := hbel3.size; omega))
  generalize tgetE zs g = E
  generalize tgetV zs g = V at hR ⊢
  clear hE hV hb2 h1 h2 h3 hb h
  by_cases hh : (p : Int) ≤ g ∧ g < p + n
  · have hR' := hR.out
    rw [if_pos hh] at hR'
    subst hR'
    clear hR
    obtain ⟨hh1, hh2⟩ := hh
    go_wp2
    go_ret
    exact ⟨rfl, hB⟩
  · have hR' := hR.out
    rw [if_neg hh] at hR'
    subst hR'
    clear hR
    rcases (show g < p ∨ (p : Int) + n ≤ g by omega) with hh1 | hh1
    all_goals
      clear hh
      go_wp2
      all_goals first
        | (exfalso; omega)
        | (go_ret; exact ⟨rfl, hB⟩)

theorem tagsBack_walk (v : Value) (zs : List Int) (p n t g : Int) (w : World) (h : IsBytes w v zs) (_ : (Lit.int .i64 p).wf = true) (hn : (Lit.int .i64 n).wf = true) (_ : (Lit.int .i64 t).wf = true) (_ : (Lit.int .i64 g).wf = true) :
    Calls Try.prog 5 #[v, .int .i64 p, .int .i64 n, .int .i64 t, .int .i64 g] w fun e w' => e = .returned (.bool true) ∧ Below w.heap.size w w' := by
  have hn' := bounds_i64 hn
  by_cases hb : tokB zs.length p n t = true
  · obtain ⟨g1, g2, g3, g4, g5⟩ := tokB_iff.1 hb
    obtain ⟨P, rfl⟩ := Int.eq_ofNat_of_zero_le g4
    obtain ⟨N, rfl⟩ := Int.eq_ofNat_of_zero_le g3
    exact tagsBack_ok v zs P N t g w h (by omega) hb
  · exact tagsBack_bad v zs p n t g w h (by omega) (by simpa using hb)
end Go.Proofs.Ytocempcoddahiab

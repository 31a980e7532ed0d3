/- The contracts of package tags' has, shift and Get over the loaded program: what each call returns; nothing is written. -/
import Derived.Test.YtocempcoddahiabBytes
import Derived.Test.YtocempcoddahiabTagsMath
import Derived.Test.YtocempcoddahiabCalm
import Derived.Laws.Bits64
namespace Go.Proofs.Ytocempcoddahiab
open Go.RowKit

def thasB (len : Nat) (p n : Int) : Bool := decide (0 ≤ n ∧ 0 ≤ p ∧ p + n ≤ 2 * len)

theorem thasB_iff {len : Nat} {p n : Int} : thasB len p n = true ↔ 0 ≤ n ∧ 0 ≤ p ∧ p + n ≤ 2 * len := by unfold thasB; simp

set_option maxHeartbeats 400000 in
theorem thas_any (a : Option Addr) (len cap : Nat) (p n : Int) (w : World) (hl : len ≤ 140737488351232) (hn : n ≤ 9223372036854775807) :
    Calls Try.prog 26 #[.slice a len cap, .int .i64 p, .int .i64 n] w fun e w' => e = .returned (.bool (thasB len p n)) ∧ w = w' := by
  go_enter Try.func26, Try.ntmps26
  go_wp2
  all_goals
    go_ret
    refine ⟨ret_bool ?_, rfl⟩
    unfold thasB
    first
      | (rw [decide_eq_decide]; omega)
      | (symm; rw [decide_eq_false_iff_not]; omega)

set_option maxHeartbeats 400000 in
theorem shift_even (g : Nat) (w : World) (h : g % 2 = 0) : Calls Try.prog 27 #[.int .i64 (g : Int)] w fun e w' => e = .returned (.int .i64 0) ∧ w = w' := by
  have ht : Int.tmod (g : Int) 2 = 0 := by rw [Int.tmod_eq_emod_of_nonneg (by omega)]; omega
  go_enter Try.func27, Try.ntmps27
  go_wp2
  go_ret
  exact ⟨rfl, rfl⟩

set_option maxHeartbeats 400000 in
theorem shift_odd (g : Nat) (w : World) (h : g % 2 = 1) : Calls Try.prog 27 #[.int .i64 (g : Int)] w fun e w' => e = .returned (.int .i64 4) ∧ w = w' := by
  have ht : Int.tmod (g : Int) 2 = 1 := by rw [Int.tmod_eq_emod_of_nonneg (by omega)]; omega
  go_enter Try.func27, Try.ntmps27
  go_wp2
  go_ret
  exact ⟨rfl, rfl⟩

set_option maxHeartbeats 400000 in
theorem tget_even (b off len cap : Nat) (zs : List Int) (g j : Nat) (w : World) (hl : len ≤ 140737488351232) (hj : j < len) (hg : g = 2 * j + 0)
    (hz : Bytes zs) (hc : ∀ i, i < len → w.cell? ⟨b, off + i, none⟩ = some (.int .u8 (zs.getD i 0))) :
    Calls Try.prog 10 #[.slice (some ⟨b, off, none⟩) len cap, .int .i64 (g : Int)] w fun e w' => e = .returned (.tuple #[.int .i64 (zs.getD j 0 % 16), .int .i64 0]) ∧ Below w.heap.size w w' := by
  have HB : thasB len (g : Int) 1 = true := by rw [thasB_iff]; omega
  have ht : Int.tdiv (g : Int) 2 = (j : Int) := by rw [Int.tdiv_eq_ediv_of_nonneg (by omega)]; omega
  have hk := hc j hj
  have hzj := hz j
  have HG : Hid (g = 2 * j + 0) := hg
  clear hg
  have ha := and15 _ hzj.1 hzj.2
  generalize zs.getD j 0 = z at *
  clear hc hz
  go_enter Try.func10, Try.ntmps10
  go_wp2_with (go_at_call 26; refine (thas_any _ _ _ _ _ _ hl (by omega)).mono ?_; rintro e w' ⟨rfl, rfl⟩)
  refine wp_region_calm (by kernel_rfl) (by kernel_rfl) (fun W hW _ => ?_)
  have hc0 : ∀ u : Wd W, u.w.cell? ⟨b, off + j, none⟩ = some (.int .u8 z) := fun u => u.cell (by rw [hW]; exact hk)
  have hbW : Below w.heap.size w W := by rw [hW]; exact Below.refl _ _
  clear hW
  repeat (go_big_quiet_step (first | (go_at_call 27; exact calm_same (shift_even g _ (by have := HG.out; omega)))))
  refine wpQuiet_nil ?_
  rintro w2 ⟨⟨_, hw2⟩, rfl⟩
  go_wp2
  go_ret2
  exact ⟨rfl, hbW.trans (hw2.mono hbW.size)⟩

set_option maxHeartbeats 400000 in
theorem tget_odd (b off len cap : Nat) (zs : List Int) (g j : Nat) (w : World) (hl : len ≤ 140737488351232) (hj : j < len) (hg : g = 2 * j + 1)
    (hz : Bytes zs) (hc : ∀ i, i < len → w.cell? ⟨b, off + i, none⟩ = some (.int .u8 (zs.getD i 0))) :
    Calls Try.prog 10 #[.slice (some ⟨b, off, none⟩) len cap, .int .i64 (g : Int)] w fun e w' => e = .returned (.tuple #[.int .i64 (zs.getD j 0 / 16), .int .i64 0]) ∧ Below w.heap.size w w' := by
  have HB : thasB len (g : Int) 1 = true := by rw [thasB_iff]; omega
  have ht : Int.tdiv (g : Int) 2 = (j : Int) := by rw [Int.tdiv_eq_ediv_of_nonneg (by omega)]; omega
  have hk := hc j hj
  have hzj := hz j
  have HG : Hid (g = 2 * j + 1) := hg
  clear hg
  have ha : bits .and .i64 (zs.getD j 0 / 16) 15 = zs.getD j 0 / 16 := by rw [and15 _ (by omega) (by omega)]; omega
  generalize zs.getD j 0 = z at *
  clear hc hz
  go_enter Try.func10, Try.ntmps10
  go_wp2_with (go_at_call 26; refine (thas_any _ _ _ _ _ _ hl (by omega)).mono ?_; rintro e w' ⟨rfl, rfl⟩)
  refine wp_region_calm (by kernel_rfl) (by kernel_rfl) (fun W hW _ => ?_)
  have hc0 : ∀ u : Wd W, u.w.cell? ⟨b, off + j, none⟩ = some (.int .u8 z) := fun u => u.cell (by rw [hW]; exact hk)
  have hbW : Below w.heap.size w W := by rw [hW]; exact Below.refl _ _
  clear hW
  repeat (go_big_quiet_step (first | (go_at_call 27; exact calm_same (shift_odd g _ (by have := HG.out; omega)))))
  refine wpQuiet_nil ?_
  rintro w2 ⟨⟨_, hw2⟩, rfl⟩
  go_wp2
  go_ret2
  exact ⟨rfl, hbW.trans (hw2.mono hbW.size)⟩

/-- What Get answers. -/
def tgetV (zs : List Int) (g : Int) : Int := if 0 ≤ g ∧ g < 2 * zs.length then nib zs g.toNat else 0
def tgetE (zs : List Int) (g : Int) : Int := if 0 ≤ g ∧ g < 2 * zs.length then 0 else 2

set_option maxHeartbeats 400000 in
theorem tget_bad (a : Option Addr) (len cap : Nat) (g : Int) (w : World) (hl : len ≤ 140737488351232) (hb : ¬ (0 ≤ g ∧ g < 2 * len)) :
    Calls Try.prog 10 #[.slice a len cap, .int .i64 g] w fun e w' => e = .returned (.tuple #[.int .i64 0, .int .i64 2]) ∧ w = w' := by
  have HB : thasB len g 1 = false := by rw [Bool.eq_false_iff, ne_eq, thasB_iff]; omega
  clear hb
  go_enter Try.func10, Try.ntmps10
  go_wp2_with (go_at_call 26; refine (thas_any _ _ _ _ _ _ hl (by omega)).mono ?_; rintro e w' ⟨rfl, rfl⟩)
  go_ret2
  exact ⟨rfl, rfl⟩

theorem tget_any (v : Value) (zs : List Int) (g : Int) (w : World) (h : IsBytes w v zs) :
    Calls Try.prog 10 #[v, .int .i64 g] w fun e w' => e = .returned (.tuple #[.int .i64 (tgetV zs g), .int .i64 (tgetE zs g)]) ∧ Below w.heap.size w w' := by
  obtain ⟨a, cap, rfl, h1, h2, h3, h4⟩ := h
  by_cases hb : 0 ≤ g ∧ g < 2 * zs.length
  · obtain ⟨G, rfl⟩ := Int.eq_ofNat_of_zero_le hb.1
    obtain ⟨b, off, rfl, hc⟩ := h4 (by omega)
    have hv : tgetV zs G = nib zs G := by simp [tgetV]; omega
    have he : tgetE zs G = 0 := by simp [tgetE]; omega
    rw [hv, he]
    rcases (show G % 2 = 0 ∨ G % 2 = 1 by omega) with e | e
    · have := tget_even b off zs.length cap zs G (G / 2) w h2 (by omega) (by omega) h3 hc
      unfold nib; rw [if_pos e]; exact this
    · have := tget_odd b off zs.length cap zs G (G / 2) w h2 (by omega) (by omega) h3 hc
      unfold nib; rw [if_neg (by omega)]; exact this
  · refine (tget_bad a zs.length cap g w h2 hb).mono ?_
    rintro e w' ⟨rfl, rfl⟩
    exact ⟨by simp only [tgetV, tgetE, if_neg hb], Below.refl _ _⟩
end Go.Proofs.Ytocempcoddahiab

/- The contract of slices.Equal at int, where both sides read as one. -/
import Derived.Test.YtbiipnojhjhejaaJKeep
namespace Go.Proofs.Ytbiipnojhjhejaa
set_option maxRecDepth 100000
open Go.RowKit
set_option linter.unusedSimpArgs false
set_option linter.unusedVariables false

set_option maxHeartbeats 800000 in
theorem iequal_same (v u : Value) (l : List Int) (w : World) (h : IsRecs encI 17592186043904 w v l) (hu : IsRecs encI 17592186043904 w u l) :
    Calls Try.prog 14 #[v, u] w fun e w' => e = .returned (.bool true) ∧ Below w.heap.size w w' := by
  obtain ⟨a, cap, rfl, h1, hl, hc'⟩ := h
  obtain ⟨a', cap', rfl, h1', -, hm'⟩ := hu
  obtain ⟨n, hn⟩ : ∃ n, Hid (n = l.length) := ⟨_, rfl⟩
  rw [← hn.out] at hl hc' hm' h1 h1' ⊢
  go_enter Try.func14, Try.ntmps14
  go_wp2_with fail
  go_loopw [13] (fun i wr => ∃ k : Nat, k ≤ n ∧ i = .int .i64 k ∧ Below w.heap.size w wr) (fun i _ => n - (intOf i).toNat)
  case atStart => exact ⟨0, Nat.zero_le _, rfl, Below.refl _ _⟩
  case round =>
    obtain ⟨k, hk, rfl, hbel⟩ := hrel
    by_cases hlt : k < n
    · obtain ⟨b, off, rfl, hc⟩ := hc' (by omega)
      obtain ⟨g, goff, rfl, hm⟩ := hm' (by omega)
      obtain ⟨x, hp⟩ : ∃ p, p = l.getD k 0 := ⟨_, rfl⟩
      have hk0 := cell1 hc hbel k (by rw [← hn.out]; exact hlt) hp
      have hr0 := cell1 hm hbel k (by rw [← hn.out]; exact hlt) hp
      clear hp hc hm hc' hm'
      have hd : (x != x) = false := by simp
      go_wp2_with fail
      refine wp_region_calm (by kernel_rfl) (by kernel_rfl) (fun W hW _ => ?_)
      have hbW : Below wr.heap.size wr W := by rw [hW]; exact Below.refl _ _
      have hc0 : ∀ u : Wd W, u.w.cell? ⟨b, off + k, none⟩ = some (.int .i64 x) := fun u => u.cell ((hbW.cell (cell_lt hk0)).trans hk0)
      have hc1 : ∀ u : Wd W, u.w.cell? ⟨g, goff + k, none⟩ = some (.int .i64 x) := fun u => u.cell ((hbW.cell (cell_lt hr0)).trans hr0)
      clear hW
      repeat (go_big_quiet_step (fail))
      refine wpQuiet_nil ?_
      rintro w2 ⟨⟨_, hw2⟩, rfl⟩
      have hb2 : Below wr.heap.size wr w2 := hbW.trans (hw2.mono hbW.size)
      go_wp2
      go_roundw
      case rel => exact ⟨k + 1, by omega, by go_num, hbel.trans (hb2.mono hbel.size)⟩
      case measure => simp [intOf]; omega
    · go_wp2
      go_ret
      exact ⟨rfl, hbel⟩

end Go.Proofs.Ytbiipnojhjhejaa

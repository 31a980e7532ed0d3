/- The contract of framewardenkeep.others: all but one seem the same. -/
import Derived.Test.YtbiipnojhjhejaaFlatSame
import Derived.Test.YtbiipnojhjhejaaFlatShow
namespace Go.Proofs.Ytbiipnojhjhejaa
set_option maxRecDepth 100000
open Go.RowKit
set_option linter.unusedSimpArgs false
set_option linter.unusedVariables false

set_option maxRecDepth 100000 in
set_option maxHeartbeats 3200000 in
theorem others_any (base base' : Nat) (S S' : W4) (X Y : Array Value) (but : Int) (w : World) (hX : ShowX base w S X) (hY : ShowX base' w S' Y) (hI : ∀ i, PInv (S i)) (hs : ∀ i : Nat, i < 4 → (i : Int) ≠ but → S' i = S i) :
    Calls Try.prog 11 #[.agg X, .agg Y, .int .i64 but] w fun e w' => e = .returned (.bool true) ∧ Below w.heap.size w w' := by
  have HX : Hid (ShowX base w S X ∧ ShowX base' w S' Y) := ⟨hX, hY⟩
  have HI : Hid (∀ i, PInv (S i)) := hI
  have HS : Hid (∀ i : Nat, i < 4 → (i : Int) ≠ but → S' i = S i) := hs
  have HSZ : Hid ((Try.prog.info? 34).map (·.size) = some X.size ∧ (Try.prog.info? 34).map (·.size) = some Y.size) := ⟨info_procs' hX.size, info_procs' hY.size⟩
  clear hX hY hI hs
  go_enter Try.func11, Try.ntmps11
  go_wp2_with fail
  have hg1 : ((w.alloc (.cells X 34)).alloc (.cells Y 34)).heap[w.heap.size]? = some (.cells X 34 (0, 0)) := (((Below.refl _ _).alloc (Nat.le_refl _) _).block _ (by simp)).trans (heap_alloc_new w _)
  have hg2 : ((w.alloc (.cells X 34)).alloc (.cells Y 34)).heap[w.heap.size + 1]? = some (.cells Y 34 (0, 0)) := by
    have := heap_alloc_new (w.alloc (.cells X 34)) (.cells Y 34)
    rw [World.size_alloc] at this
    exact this
  have hbA : Below w.heap.size w ((w.alloc (.cells X 34)).alloc (.cells Y 34)) := ((Below.refl _ _).alloc (Nat.le_refl _) _).alloc (by simp) _
  generalize ((w.alloc (.cells X 34)).alloc (.cells Y 34)) = wA at hg1 hg2 hbA ⊢
  have HG : Hid (wA.heap[w.heap.size]? = some (.cells X 34 (0, 0)) ∧ wA.heap[w.heap.size + 1]? = some (.cells Y 34 (0, 0))) := ⟨hg1, hg2⟩
  have hl1 : w.heap.size < wA.heap.size := (Array.getElem?_eq_some_iff.1 hg1).1
  have hl2 : w.heap.size + 1 < wA.heap.size := (Array.getElem?_eq_some_iff.1 hg2).1
  clear hg1 hg2
  go_loopw [8] (fun q wr => ∃ i : Nat, i ≤ 4 ∧ q = .int .i64 i ∧ Below wA.heap.size wA wr) (fun q _ => 4 - (intOf q).toNat)
  case atStart => exact ⟨0, Nat.zero_le _, rfl, Below.refl _ _⟩
  case round =>
    obtain ⟨i, hi4, rfl, hbel⟩ := hrel
    by_cases hlt : i < 4
    · have hd4 : decide ((i : Int) < 4) = true := by simp; omega
      have hi0 : decide ((i : Int) < 0) = false := by simp
      have hbw : Below w.heap.size w wr := hbA.trans (hbel.mono hbA.size)
      by_cases hbt : (i : Int) = but
      · subst hbt
        have hbb : ((i : Int) != (i : Int)) = false := by simp
        go_wp2_with fail
        refine wp_region_calm (by kernel_rfl) (by kernel_rfl) (fun W hW _ => ?_)
        have hbW : Below wr.heap.size wr W := by rw [hW]; exact Below.refl _ _
        clear hW
        repeat (go_big_quiet_step (fail))
        refine wpQuiet_nil ?_
        rintro w3 ⟨⟨_, hw3⟩, rfl⟩
        have hbz : Below wA.heap.size wA _ := (hbel.trans (hbW.mono hbel.size)).trans (hw3.mono (hbel.trans (hbW.mono hbel.size)).size)
        go_wp2
        go_roundw
        case rel => exact ⟨i + 1, by omega, by go_num, hbz⟩
        case measure => simp [intOf]; omega
      · have hbb : decide ((i : Int) ≠ but) = true := by simpa using hbt
        have hbe : ((i : Int) == but) = false := by simpa using hbt
        have hbn : ((i : Int) != but) = true := by simpa using hbt
        obtain ⟨a, n, c, a', n', c', hs1, hc1⟩ := (HX.out.1.below hbw).at hlt
        obtain ⟨b, m, d, b', m', d', hs2, hc2⟩ := (HX.out.2.below hbw).at hlt
        rw [HS.out i hlt hbt] at hs2 hc2
        have hf := (HI.out i).few
        have HSM : Hid (∀ w1, Below wr.heap.size wr w1 → Calls Try.prog 12 #[.agg (procC (S i) (.slice a n c) (.slice a' n' c')).toArray, .agg (procC (S i) (.slice b m d) (.slice b' m' d')).toArray] w1 fun e w' => e = .returned (.bool true) ∧ Below w1.heap.size w1 w') := fun w1 hb => sameProc_any base base' (S i) a n c a' n' c' b m d b' m' d' w1 (hs1.below hb) (hs2.below hb) hf.1 hf.2
        clear hs1 hs2 hf
        obtain ⟨p, hp⟩ : ∃ p, p = S i := ⟨_, rfl⟩
        rw [← hp] at HSM hc1 hc2
        clear hp
        obtain ⟨lv, L, ⟨t0, d0, t1, d1, t2, d2, t3, d3⟩, B, T⟩ := p
        have HSM2 : Hid (∀ w1, Below wr.heap.size wr w1 → Calls Try.prog 12 #[.agg #[.bool lv, .slice a n c, .bool t0, .int .i64 d0, .bool t1, .int .i64 d1, .bool t2, .int .i64 d2, .bool t3, .int .i64 d3, .slice a' n' c'], .agg #[.bool lv, .slice b m d, .bool t0, .int .i64 d0, .bool t1, .int .i64 d1, .bool t2, .int .i64 d2, .bool t3, .int .i64 d3, .slice b' m' d']] w1 fun e w' => e = .returned (.bool true) ∧ Below w1.heap.size w1 w') := HSM
        have xC := hc1 w.heap.size wr ((hbel.block _ hl1).trans HG.out.1)
        have yC := hc2 (w.heap.size + 1) wr ((hbel.block _ hl2).trans HG.out.2)
        clear HSM hc1 hc2
        go_wp2_with fail
        refine wp_region_calm (by kernel_rfl) (by kernel_rfl) (fun W hW _ => ?_)
        have hbW : Below wr.heap.size wr W := by rw [hW]; exact Below.refl _ _
        have xWC : ∀ j u, (procC ⟨lv, L, (t0, d0, t1, d1, t2, d2, t3, d3), B, T⟩ (.slice a n c) (.slice a' n' c'))[j]? = some u → W.cell? ⟨w.heap.size, i * 11 + j, none⟩ = some u := by rw [hW]; exact xC
        have yWC : ∀ j u, (procC ⟨lv, L, (t0, d0, t1, d1, t2, d2, t3, d3), B, T⟩ (.slice b m d) (.slice b' m' d'))[j]? = some u → W.cell? ⟨w.heap.size + 1, i * 11 + j, none⟩ = some u := by rw [hW]; exact yC
        clear hW xC yC
        have xW0 : ∀ u : Wd W, u.w.cell? ⟨w.heap.size, i * 11, none⟩ = some (.bool lv) := fun u => u.cell (xWC 0 _ rfl)
        have xW1 : ∀ u : Wd W, u.w.cell? ⟨w.heap.size, i * 11 + 1, none⟩ = some (.slice a n c) := fun u => u.cell (xWC 1 _ rfl)
        have xW2 : ∀ u : Wd W, u.w.cell? ⟨w.heap.size, i * 11 + 2, none⟩ = some (.bool t0) := fun u => u.cell (xWC 2 _ rfl)
        have xW3 : ∀ u : Wd W, u.w.cell? ⟨w.heap.size, i * 11 + 3, none⟩ = some (.int .i64 d0) := fun u => u.cell (xWC 3 _ rfl)
        have xW4 : ∀ u : Wd W, u.w.cell? ⟨w.heap.size, i * 11 + 4, none⟩ = some (.bool t1) := fun u => u.cell (xWC 4 _ rfl)
        have xW5 : ∀ u : Wd W, u.w.cell? ⟨w.heap.size, i * 11 + 5, none⟩ = some (.int .i64 d1) := fun u => u.cell (xWC 5 _ rfl)
        have xW6 : ∀ u : Wd W, u.w.cell? ⟨w.heap.size, i * 11 + 6, none⟩ = some (.bool t2) := fun u => u.cell (xWC 6 _ rfl)
        have xW7 : ∀ u : Wd W, u.w.cell? ⟨w.heap.size, i * 11 + 7, none⟩ = some (.int .i64 d2) := fun u => u.cell (xWC 7 _ rfl)
        have xW8 : ∀ u : Wd W, u.w.cell? ⟨w.heap.size, i * 11 + 8, none⟩ = some (.bool t3) := fun u => u.cell (xWC 8 _ rfl)
        have xW9 : ∀ u : Wd W, u.w.cell? ⟨w.heap.size, i * 11 + 9, none⟩ = some (.int .i64 d3) := fun u => u.cell (xWC 9 _ rfl)
        have xW10 : ∀ u : Wd W, u.w.cell? ⟨w.heap.size, i * 11 + 10, none⟩ = some (.slice a' n' c') := fun u => u.cell (xWC 10 _ rfl)
        have yW0 : ∀ u : Wd W, u.w.cell? ⟨w.heap.size + 1, i * 11, none⟩ = some (.bool lv) := fun u => u.cell (yWC 0 _ rfl)
        have yW1 : ∀ u : Wd W, u.w.cell? ⟨w.heap.size + 1, i * 11 + 1, none⟩ = some (.slice b m d) := fun u => u.cell (yWC 1 _ rfl)
        have yW2 : ∀ u : Wd W, u.w.cell? ⟨w.heap.size + 1, i * 11 + 2, none⟩ = some (.bool t0) := fun u => u.cell (yWC 2 _ rfl)
        have yW3 : ∀ u : Wd W, u.w.cell? ⟨w.heap.size + 1, i * 11 + 3, none⟩ = some (.int .i64 d0) := fun u => u.cell (yWC 3 _ rfl)
        have yW4 : ∀ u : Wd W, u.w.cell? ⟨w.heap.size + 1, i * 11 + 4, none⟩ = some (.bool t1) := fun u => u.cell (yWC 4 _ rfl)
        have yW5 : ∀ u : Wd W, u.w.cell? ⟨w.heap.size + 1, i * 11 + 5, none⟩ = some (.int .i64 d1) := fun u => u.cell (yWC 5 _ rfl)
        have yW6 : ∀ u : Wd W, u.w.cell? ⟨w.heap.size + 1, i * 11 + 6, none⟩ = some (.bool t2) := fun u => u.cell (yWC 6 _ rfl)
        have yW7 : ∀ u : Wd W, u.w.cell? ⟨w.heap.size + 1, i * 11 + 7, none⟩ = some (.int .i64 d2) := fun u => u.cell (yWC 7 _ rfl)
        have yW8 : ∀ u : Wd W, u.w.cell? ⟨w.heap.size + 1, i * 11 + 8, none⟩ = some (.bool t3) := fun u => u.cell (yWC 8 _ rfl)
        have yW9 : ∀ u : Wd W, u.w.cell? ⟨w.heap.size + 1, i * 11 + 9, none⟩ = some (.int .i64 d3) := fun u => u.cell (yWC 9 _ rfl)
        have yW10 : ∀ u : Wd W, u.w.cell? ⟨w.heap.size + 1, i * 11 + 10, none⟩ = some (.slice b' m' d') := fun u => u.cell (yWC 10 _ rfl)
        clear xWC yWC
        have HR2 : Hid (∀ u : Wd W, Below wr.heap.size wr u.w) := fun u => hbW.trans (u.ok.mono hbW.size)
        repeat (go_big_quiet_step (first | (go_at_call 12; exact calm_of (HSM2.out _ (HR2.out _)))))
        refine wpQuiet_nil ?_
        rintro w3 ⟨⟨_, hw3⟩, rfl⟩
        have hbz : Below wA.heap.size wA _ := (hbel.trans (hbW.mono hbel.size)).trans (hw3.mono (hbel.trans (hbW.mono hbel.size)).size)
        go_wp2
        go_roundw
        case rel => exact ⟨i + 1, by omega, by go_num, hbz⟩
        case measure => simp [intOf]; omega
    · obtain rfl : i = 4 := by omega
      go_wp2_with fail
      go_ret
      exact ⟨rfl, hbA.trans (hbel.mono hbA.size)⟩

end Go.Proofs.Ytbiipnojhjhejaa

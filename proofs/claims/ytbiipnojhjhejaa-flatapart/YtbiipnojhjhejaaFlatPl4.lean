/- Plain memory is a memory. -/
import Derived.Test.YtbiipnojhjhejaaFlatPl3
namespace Go.Proofs.Ytbiipnojhjhejaa
set_option maxRecDepth 100000
open Go.RowKit
set_option linter.unusedSimpArgs false
set_option linter.unusedVariables false

/-- What plain memory is seen as. -/
def PlR (s V : MV) : Prop := ∀ k, k < 4 → V.lv k = true → (∀ a, s.B k a = V.B k a) ∧ ∀ t, s.T k t = V.T k t

theorem pl_mk {gm : Nat} {w w' : World} {s : MV} (h : PlOK gm w s) (hs : Spare gm w w') : MK gm (fun t => t == 71) w w' := by
  obtain ⟨xs, hr⟩ := h.row
  exact MK.of_spare hs (Nat.le_refl _) hr (by rfl)

theorem pl_ints {gm : Nat} {w : World} {s V : MV} {k f n : Nat} (h : PlOK gm w s) (hr : PlR s V) (hg : VG V) (hk : k < 4) (hl : V.lv k = true) (hn : f + n ≤ 256) : IsInts w (.slice (some ⟨gm, k * 4352 + 4096 + f, none⟩) n (256 - f)) (tgV V k f n) := by
  have hlen : (tgV V k f n).length = n := by simp [tgV]
  refine ⟨_, 256 - f, by rw [hlen], by rw [hlen]; omega, by rw [hlen]; omega, fun x hx => ?_, fun _ => ⟨gm, _, rfl, fun i hi => ?_⟩⟩
  · obtain ⟨i, -, rfl⟩ := List.mem_map.1 hx
    have := hg.tag k (f + i)
    exact wf_small this.1 this.2
  · rw [hlen] at hi
    have : (tgV V k f n).getD i 0 = V.T k (f + i) := by
      unfold tgV
      rw [List.getD_eq_getElem?_getD, List.getElem?_map, List.getElem?_range hi]
      rfl
    rw [this, ← (hr k hk hl).2, Nat.add_assoc]
    exact h.tag hk (by omega)

def plainM (gm : Nat) : Mem MV where
  pm := ⟨gm, 0, none⟩
  mty := 65
  lo := gm
  wr := fun t => t == 71
  dep := fun t => t == 71
  ok := fun w s => PlOK gm w s
  R := PlR
  fCut := 110
  fFork := 112
  fExit := 111
  fRecl := 115
  fLoad := 113
  fStore := 116
  fTags := 117
  fMark := 114
  sCut := fun s k f t => s.cut k f t
  sFork := fun s k c => s.fork k c
  sExit := fun s k => s.exit k
  sRecl := fun s _ => s
  sLoad := fun s _ _ _ => s
  sStore := fun s k a n v => s.store k a n v
  sTags := fun s _ _ _ => s
  sMark := fun s k f n y => s.mark k f n y
  hm := fun w => ⟨by kernel_rfl, by kernel_rfl, by kernel_rfl, by kernel_rfl, by kernel_rfl, by kernel_rfl, by kernel_rfl, by kernel_rfl⟩
  hf := fun args w => ⟨enters_of Try.func110 (by kernel_rfl) rfl args w, enters_of Try.func112 (by kernel_rfl) rfl args w, enters_of Try.func111 (by kernel_rfl) rfl args w, enters_of Try.func115 (by kernel_rfl) rfl args w, enters_of Try.func113 (by kernel_rfl) rfl args w, enters_of Try.func116 (by kernel_rfl) rfl args w, enters_of Try.func117 (by kernel_rfl) rfl args w, enters_of Try.func114 (by kernel_rfl) rfl args w⟩
  hwr := ⟨rfl, rfl, rfl, rfl, rfl, rfl, rfl⟩
  hdep := ⟨rfl, rfl, rfl⟩
  frame := fun {w w' s} h hsz hs => by
    obtain ⟨xs, h1, h2, h3⟩ := h
    exact ⟨xs, hs gm xs.toArray 71 (0, 0) h1 (Nat.le_refl _) rfl, h2, h3⟩
  grow := fun {s V U} h h1 _ h3 h4 _ k hk hl => by
    obtain ⟨q1, q2⟩ := h k hk (by rw [← h1 k]; exact hl)
    exact ⟨fun a => by rw [h3]; exact q1 a, fun t => by rw [h4]; exact q2 t⟩
  cut := fun {s V k f t w} h hr hg hk hl hft ht => ⟨fun j hj hlj => by
    obtain ⟨q1, q2⟩ := hr j hj hlj
    exact ⟨fun a => by simp only [MV.cut, q1], fun a => by simp only [MV.cut, q2]⟩, (plCut_any gm w s k f t hk hft ht h).mono fun e w' ⟨he, ho, hs⟩ => ⟨he, ho, pl_mk h hs⟩⟩
  fork := fun {s V k c w} h hr hg hk hc hl hlc _ => ⟨fun j hj hlj => by
    by_cases hjc : j = c
    · obtain ⟨q1, q2⟩ := hr k hk hl
      exact ⟨fun a => by simp only [MV.fork, if_pos hjc, q1], fun a => by simp only [MV.fork, if_pos hjc, q2]⟩
    · obtain ⟨q1, q2⟩ := hr j hj (by simpa [MV.fork, hjc] using hlj)
      exact ⟨fun a => by simp only [MV.fork, if_neg hjc, q1], fun a => by simp only [MV.fork, if_neg hjc, q2]⟩, (plFork_any gm w s k c hk hc h).mono fun e w' ⟨he, ho, hs⟩ => ⟨he, ho, pl_mk h hs⟩⟩
  exit := fun {s V k w} h hr hg hk hl => ⟨fun j hj hlj => by
    by_cases hjc : j = k
    · simp [MV.exit, hjc] at hlj
    · obtain ⟨q1, q2⟩ := hr j hj (by simpa [MV.exit, hjc] using hlj)
      exact ⟨fun a => by simp only [MV.exit, if_neg hjc, q1], fun a => by simp only [MV.exit, if_neg hjc, q2]⟩, (plExit_any gm w s k hk h).mono fun e w' ⟨he, ho, hs⟩ => ⟨he, ho, pl_mk h hs⟩⟩
  recl := fun {s V n w} h hr hg _ => ⟨hr, (plRecl_any gm w s n h).mono fun e w' ⟨he, ho, hs⟩ => ⟨he, ho, pl_mk h hs⟩⟩
  load := fun {s V k a n w} h hr hg hk hl ha h1 h4 hp _ => ⟨hr, by
    obtain ⟨q1, q2⟩ := hr k hk hl
    have hB : s.B k = V.B k := funext q1
    have := plLoad_any gm w s k a n hk h1 h4 (by omega) h (fun x => by rw [q1]; exact hg.byt k x)
    rw [hB] at this
    exact this.mono fun e w' ⟨he, hw⟩ => by subst hw; exact ⟨he, h, MK.refl _ _ _⟩⟩
  store := fun {s V k a n v w} h hr hg hk hl ha h1 h4 hp _ => ⟨fun j hj hlj => by
    obtain ⟨q1, q2⟩ := hr j hj hlj
    exact ⟨fun x => by simp only [MV.store, q1], q2⟩, (plStore_any gm w s k a n v hk h4 (by omega) h).mono fun e w' ⟨he, ho, hs⟩ => ⟨he, ho, pl_mk h hs⟩⟩
  tags := fun {s V k f n w} h hr hg hk hl hf h1 h4 _ => ⟨hr, (plTags_any gm w s k f n hk h1 (by omega) h).mono fun e w' ⟨he, hw⟩ => by
    subst hw
    exact ⟨_, _, he, pl_ints h hr hg hk hl (by omega), h, MK.refl _ _ _⟩⟩
  mark := fun {s V k f n y w} h hr hg hk hl hf h1 h4 _ _ _ => ⟨fun j hj hlj => by
    obtain ⟨q1, q2⟩ := hr j hj hlj
    exact ⟨q1, fun x => by simp only [MV.mark, q2]⟩, (plMark_any gm w s k f n y hk (by omega) h).mono fun e w' ⟨he, ho, hs⟩ => ⟨he, ho, pl_mk h hs⟩⟩

end Go.Proofs.Ytbiipnojhjhejaa

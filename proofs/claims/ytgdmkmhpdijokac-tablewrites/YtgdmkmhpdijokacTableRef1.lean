/- The contracts of the document's own answers, framewardenref.ENumber, ELeaf and EGet: they answer what table's spot, Leaf and Get answer. -/
import Derived.Test.YtgdmkmhpdijokacTable2
import Derived.Test.YtgdmkmhpdijokacRamRef
import Derived.Test.YtgdmkmhpdijokacEntry2
namespace Go.Proofs.Ytgdmkmhpdijokac
open Go.RowKit
set_option linter.unusedSimpArgs false

/-- The place of a number that is there; else -1. -/
def enV (zs : List Int) (f k : Int) : Int := if numE zs f k = 0 then spotV f k else -1

theorem spot_of {zs : List Int} {f k : Int} (hk : 0 ≤ k) (h : numE zs f k = 0) : spotV f k = 64 * f + 4 * k := by
  obtain ⟨h1, h2, -⟩ := (numE_iff hk).1 h
  unfold spotV; rw [if_pos ⟨h1, h2⟩]

set_option maxHeartbeats 800000 in
theorem enumber_any (v : Value) (zs : List Int) (f k : Int) (w : World) (h : IsBytes w v zs) (hk : 0 ≤ k) (hk8 : k < 8) :
    Calls Try.prog 18 #[v, .int .i64 f, .int .i64 k] w fun e w' => e = .returned (.int .i64 (enV zs f k)) ∧ w = w' := by
  obtain ⟨a, cap, rfl, hl⟩ := h.form
  clear h
  by_cases hn : numE zs f k = 0
  · have hv : enV zs f k = 64 * f + 4 * k := by unfold enV; rw [if_pos hn, spot_of hk hn]
    rw [hv]
    obtain ⟨h1, h2, h3⟩ := (numE_iff hk).1 hn
    clear hv hn
    go_enter Try.func18, Try.ntmps18
    go_wp2
    go_ret
    exact ⟨rfl, rfl⟩
  · have hv : enV zs f k = -1 := by unfold enV; rw [if_neg hn]
    rw [hv]
    have hn' : ¬ (0 ≤ f ∧ f < 64 ∧ 64 * f + 4 * k + 4 ≤ zs.length) := fun x => hn ((numE_iff hk).2 x)
    clear hv hn
    by_cases hf : 0 ≤ f ∧ f < 64
    · obtain ⟨h1, h2⟩ := hf
      have h3 : ¬ (64 * f + 4 * k + 4 ≤ zs.length) := by omega
      clear hn'
      go_enter Try.func18, Try.ntmps18
      go_wp2
      go_ret
      exact ⟨rfl, rfl⟩
    · clear hn'
      have hf' : f < 0 ∨ (0 ≤ f ∧ 63 < f) := by omega
      clear hf
      rcases hf' with hf | ⟨hf0, hf⟩
      all_goals
        go_enter Try.func18, Try.ntmps18
        go_wp2
        go_ret
        exact ⟨rfl, rfl⟩

set_option maxHeartbeats 1600000 in
theorem eleaf_any (v : Value) (zs : List Int) (f p : Int) (w : World) (h : IsBytes w v zs) :
    Calls Try.prog 8 #[v, .int .i64 f, .int .i64 p] w fun e w' => e = .returned (.tuple #[.int .i64 (lfN zs f p), .int .i64 (lfE zs f p)]) ∧ Below w.heap.size w w' := by
  by_cases hp : 0 ≤ p ∧ p < 64
  · obtain ⟨hp0, hp1⟩ := hp
    have hq : p.tdiv 8 = p / 8 := Int.tdiv_eq_ediv_of_nonneg hp0
    have hq0 : 0 ≤ p / 8 ∧ p / 8 < 8 := by omega
    have Hnum : Hid (∀ w1, IsBytes w1 v zs → Calls Try.prog 18 #[v, .int .i64 f, .int .i64 (p / 8)] w1 fun e w' => e = .returned (.int .i64 (enV zs f (p / 8))) ∧ w1 = w') := fun w1 h1 => enumber_any v zs f (p / 8) w1 h1 hq0.1 hq0.2
    by_cases hn : numE zs f (p / 8) = 0
    · have hsp := spot_of hq0.1 hn
      have hf := (numE_iff hq0.1).1 hn
      have Hget : Hid (∀ w1, IsBytes w1 v zs → Calls Try.prog 19 #[v, .int .i64 (enV zs f (p / 8)), .int .i64 4] w1 fun e w' => e = .returned (.tuple #[.int .i64 (numV zs f (p / 8)), .int .i64 0]) ∧ w1 = w') := by
        intro w1 h1
        have := aget_any v zs (spotV f (p / 8)) 4 w1 h1
        rw [show errV zs (spotV f (p / 8)) 4 = 0 from hn] at this
        unfold enV
        rw [if_pos hn]
        exact this
      have hen : 0 ≤ enV zs f (p / 8) := by unfold enV; rw [if_pos hn, hsp]; omega
      have hbd := rd_bd zs f (p / 8)
      have hrd : rdE zs f (p / 8) = upE (numV zs f (p / 8)) := rdE_ok hn
      have hup := upE_cases (numV zs f (p / 8))
      have hcase : (rdE zs f (p / 8) = 1 ∧ lfE zs f p = 1 ∧ lfN zs f p = 0) ∨ (rdE zs f (p / 8) = 0 ∧ rdK zs f (p / 8) = 1 ∧ lfE zs f p = 0 ∧ lfN zs f p = rdN zs f (p / 8))
          ∨ (rdE zs f (p / 8) = 0 ∧ rdK zs f (p / 8) = 0 ∧ lfE zs f p = 3 ∧ lfN zs f p = 0) ∨ (rdE zs f (p / 8) = 0 ∧ rdK zs f (p / 8) = 2 ∧ lfE zs f p = 1 ∧ lfN zs f p = 0) := by
        by_cases hr : rdE zs f (p / 8) = 0
        · have hk : rdK zs f (p / 8) = 1 ∨ rdK zs f (p / 8) = 0 ∨ rdK zs f (p / 8) = 2 := by omega
          rcases hk with hk | hk | hk
          · exact .inr (.inl ⟨hr, hk, lf_here ⟨hp0, hp1⟩ hr hk⟩)
          · exact .inr (.inr (.inl ⟨hr, hk, lf_none ⟨hp0, hp1⟩ hr hk⟩))
          · exact .inr (.inr (.inr ⟨hr, hk, lf_out ⟨hp0, hp1⟩ hr hk⟩))
        · have h1 : rdE zs f (p / 8) = 1 := by omega
          have := lf_read ⟨hp0, hp1⟩ hr
          exact .inl ⟨h1, by rw [this.1, h1], this.2⟩
      have Hun : Hid (∀ w1, Calls Try.prog 20 #[.int .i64 (numV zs f (p / 8))] w1 fun e w' => e = .returned (entV (rdK zs f (p / 8)) (rdN zs f (p / 8)) (rdE zs f (p / 8))) ∧ Below w1.heap.size w1 w') := by
        intro w1
        rw [hrd]
        exact dunpack_any _ w1
      clear hbd hrd hup hsp hf hn
      generalize rdE zs f (p / 8) = E at *
      generalize rdK zs f (p / 8) = K at *
      generalize rdN zs f (p / 8) = N at *
      generalize lfE zs f p = LE at *
      generalize lfN zs f p = LN at *
      generalize numV zs f (p / 8) = X at *
      generalize enV zs f (p / 8) = S at *
      generalize p / 8 = q at *
      go_enter Try.func8, Try.ntmps8
      go_wp2_with fail
      refine (Hnum.out _ h).mono ?_
      rintro e w' ⟨rfl, rfl⟩
      go_wp2_with fail
      refine (Hget.out _ h).mono ?_
      rintro e w' ⟨rfl, rfl⟩
      go_wp2_with fail
      refine (Hun.out _).mono ?_
      rintro e w1 ⟨rfl, hb1⟩
      clear Hnum Hget Hun hen hq hq0
      rcases hcase with ⟨rfl, rfl, rfl⟩ | ⟨rfl, rfl, rfl, rfl⟩ | ⟨rfl, rfl, rfl, rfl⟩ | ⟨rfl, rfl, rfl, rfl⟩
      all_goals
        go_wp2
        go_ret2
        exact ⟨rfl, hb1.alloc hb1.size _⟩
    · have hr : rdE zs f (p / 8) = 2 := (rdE_no hn).1
      obtain ⟨e1, e2⟩ := lf_read (zs := zs) (f := f) ⟨hp0, hp1⟩ (by omega)
      rw [e1, e2, hr]
      have hen : enV zs f (p / 8) = -1 := by unfold enV; rw [if_neg hn]
      rw [hen] at Hnum
      clear e1 e2 hr hen hn
      generalize p / 8 = q at *
      go_enter Try.func8, Try.ntmps8
      go_wp2_with fail
      refine (Hnum.out _ h).mono ?_
      rintro e w' ⟨rfl, rfl⟩
      go_wp2
      go_ret2
      exact ⟨rfl, Below.refl _ _⟩
  · obtain ⟨e1, e2⟩ := lf_page (zs := zs) (f := f) hp
    rw [e1, e2]
    have hp' : p < 0 ∨ (0 ≤ p ∧ 63 < p) := by omega
    clear hp
    rcases hp' with hp | ⟨hp0, hp⟩
    all_goals
      go_enter Try.func8, Try.ntmps8
      go_wp2
      go_ret2
      exact ⟨rfl, Below.refl _ _⟩

set_option maxHeartbeats 1600000 in
theorem eget_any (v : Value) (zs : List Int) (f p : Int) (w : World) (h : IsBytes w v zs) :
    Calls Try.prog 10 #[v, .int .i64 f, .int .i64 p] w fun e w' => e = .returned (entV (gtK zs f p) (gtN zs f p) (gtE zs f p)) ∧ Below w.heap.size w w' := by
  have Hleaf : Hid (∀ w1, IsBytes w1 v zs → Calls Try.prog 8 #[v, .int .i64 f, .int .i64 p] w1 fun e w' => e = .returned (.tuple #[.int .i64 (lfN zs f p), .int .i64 (lfE zs f p)]) ∧ Below w1.heap.size w1 w') := fun w1 h1 => eleaf_any v zs f p w1 h1
  by_cases h0 : lfE zs f p = 0
  · have hp := lfE_page h0
    have hm : p.tmod 8 = p % 8 := Int.tmod_eq_emod_of_nonneg hp.1
    have hq0 : 0 ≤ p % 8 ∧ p % 8 < 8 := by omega
    have e1 : gtK zs f p = rdK zs (lfN zs f p) (p % 8) := by unfold gtK; rw [if_pos h0]
    have e2 : gtN zs f p = rdN zs (lfN zs f p) (p % 8) := by unfold gtN; rw [if_pos h0]
    have e3 : gtE zs f p = rdE zs (lfN zs f p) (p % 8) := by unfold gtE; rw [if_pos h0]
    rw [e1, e2, e3]
    rw [h0] at Hleaf
    clear e1 e2 e3 h0
    generalize lfN zs f p = L at *
    have Hnum : Hid (∀ w1, IsBytes w1 v zs → Calls Try.prog 18 #[v, .int .i64 L, .int .i64 (p % 8)] w1 fun e w' => e = .returned (.int .i64 (enV zs L (p % 8))) ∧ w1 = w') := fun w1 h1 => enumber_any v zs L (p % 8) w1 h1 hq0.1 hq0.2
    by_cases hn : numE zs L (p % 8) = 0
    · have hsp := spot_of hq0.1 hn
      have hf := (numE_iff hq0.1).1 hn
      have Hget : Hid (∀ w1, IsBytes w1 v zs → Calls Try.prog 19 #[v, .int .i64 (enV zs L (p % 8)), .int .i64 4] w1 fun e w' => e = .returned (.tuple #[.int .i64 (numV zs L (p % 8)), .int .i64 0]) ∧ w1 = w') := by
        intro w1 h1
        have := aget_any v zs (spotV L (p % 8)) 4 w1 h1
        rw [show errV zs (spotV L (p % 8)) 4 = 0 from hn] at this
        unfold enV
        rw [if_pos hn]
        exact this
      have hen : 0 ≤ enV zs L (p % 8) := by unfold enV; rw [if_pos hn, hsp]; omega
      have Hun : Hid (∀ w1, Calls Try.prog 20 #[.int .i64 (numV zs L (p % 8))] w1 fun e w' => e = .returned (entV (rdK zs L (p % 8)) (rdN zs L (p % 8)) (rdE zs L (p % 8))) ∧ Below w1.heap.size w1 w') := by
        intro w1
        rw [rdE_ok hn]
        exact dunpack_any _ w1
      clear hsp hf hn
      generalize rdE zs L (p % 8) = E at *
      generalize rdK zs L (p % 8) = K at *
      generalize rdN zs L (p % 8) = N at *
      generalize numV zs L (p % 8) = X at *
      generalize enV zs L (p % 8) = S at *
      generalize p % 8 = q at *
      go_enter Try.func10, Try.ntmps10
      go_wp2_with fail
      refine (Hleaf.out _ (h.below ((Below.refl _ _).alloc (Nat.le_refl _) _))).mono ?_
      rintro e w1 ⟨rfl, hb1⟩
      have ho := own_one (xs := [_, _]) hb1
      have hbw : Below w.heap.size w w1 := ((Below.refl _ _).alloc (Nat.le_refl _) _).trans (hb1.mono (by simp))
      have h1 := h.below hbw
      clear hb1 Hleaf
      go_wp2_with fail
      refine (Hnum.out _ h1).mono ?_
      rintro e w' ⟨rfl, rfl⟩
      go_wp2_with fail
      refine (Hget.out _ h1).mono ?_
      rintro e w' ⟨rfl, rfl⟩
      go_wp2_with fail
      refine (Hun.out _).mono ?_
      rintro e w2 ⟨rfl, hb2⟩
      have ho2 := ho.below hb2 ho.lt
      have hbw2 := hbw.trans (hb2.mono hbw.size)
      obtain ⟨⟨c0, c1⟩, f0, f1⟩ := ho2.pair
      have hlt := ho2.lt
      clear ho ho2 hbw hb2 Hnum Hget Hun
      go_wp2
      exact bodyPost_ret (v := entV K N E) (by simp [results, Try.results10, go_sem, c0, c1, hlt]) rfl ⟨rfl, (hbw2.setCell (Nat.le_refl _) _).setCell (Nat.le_refl _) _⟩
    · obtain ⟨e1, e2, e3⟩ := rdE_no hn
      rw [e1, e2, e3]
      have hen : enV zs L (p % 8) = -1 := by unfold enV; rw [if_neg hn]
      rw [hen] at Hnum
      clear e1 e2 e3 hen hn
      generalize p % 8 = q at *
      go_enter Try.func10, Try.ntmps10
      go_wp2_with fail
      refine (Hleaf.out _ (h.below ((Below.refl _ _).alloc (Nat.le_refl _) _))).mono ?_
      rintro e w1 ⟨rfl, hb1⟩
      have ho := own_one (xs := [_, _]) hb1
      have hbw : Below w.heap.size w w1 := ((Below.refl _ _).alloc (Nat.le_refl _) _).trans (hb1.mono (by simp))
      have h1 := h.below hbw
      clear hb1 Hleaf
      obtain ⟨⟨c0, c1⟩, f0, f1⟩ := ho.pair
      have hlt := ho.lt
      clear ho
      go_wp2_with fail
      refine (Hnum.out _ h1).mono ?_
      rintro e w' ⟨rfl, rfl⟩
      go_wp2
      exact bodyPost_ret (v := entV 0 0 2) (by simp [results, Try.results10, go_sem, c0, c1, hlt]) rfl ⟨rfl, (hbw.setCell (Nat.le_refl _) _).setCell (Nat.le_refl _) _⟩
  · have e1 : gtK zs f p = 0 := by unfold gtK; rw [if_neg h0]
    have e2 : gtN zs f p = 0 := by unfold gtN; rw [if_neg h0]
    rw [e1, e2]
    have hcase : (lfE zs f p = 3 ∧ gtE zs f p = 0) ∨ (lfE zs f p ≠ 3 ∧ lfE zs f p ≠ 0 ∧ gtE zs f p = lfE zs f p) := by
      unfold gtE
      rw [if_neg h0]
      by_cases h3 : lfE zs f p = 3
      · left; exact ⟨h3, by rw [if_pos h3]⟩
      · right; exact ⟨h3, h0, by rw [if_neg h3]⟩
    generalize lfN zs f p = L at *
    generalize lfE zs f p = E at *
    generalize gtE zs f p = G at *
    clear h0 e1 e2
    go_enter Try.func10, Try.ntmps10
    go_wp2_with fail
    refine (Hleaf.out _ (h.below ((Below.refl _ _).alloc (Nat.le_refl _) _))).mono ?_
    rintro e w1 ⟨rfl, hb1⟩
    have ho := own_one (xs := [_, _]) hb1
    have hbw : Below w.heap.size w w1 := ((Below.refl _ _).alloc (Nat.le_refl _) _).trans (hb1.mono (by simp))
    clear hb1 Hleaf
    obtain ⟨⟨c0, c1⟩, f0, f1⟩ := ho.pair
    have hlt := ho.lt
    clear ho
    rcases hcase with ⟨rfl, rfl⟩ | ⟨h3, h0, rfl⟩
    · go_wp2
      exact bodyPost_ret (v := entV 0 0 0) (by simp [results, Try.results10, go_sem, c0, c1, hlt]) rfl ⟨rfl, (hbw.setCell (Nat.le_refl _) _).setCell (Nat.le_refl _) _⟩
    · have h3' : (G == 3) = false := by rw [beq_eq_false_iff_ne]; exact h3
      have h0' : (G != 0) = true := by rw [bne_iff_ne]; exact h0
      clear h3 h0
      go_wp2
      exact bodyPost_ret (v := entV 0 0 G) (by simp [results, Try.results10, go_sem, c0, c1, hlt]) rfl ⟨rfl, (hbw.setCell (Nat.le_refl _) _).setCell (Nat.le_refl _) _⟩

end Go.Proofs.Ytgdmkmhpdijokac

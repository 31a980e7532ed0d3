/- The contract of framewardenkeep.alive14: it returns true, and nothing that was there is written. -/
import Derived.Test.YtbiipnojhjhejaaFlatOpen
namespace Go.Proofs.Ytbiipnojhjhejaa
set_option maxRecDepth 100000
open Go.RowKit
set_option linter.unusedSimpArgs false
set_option linter.unusedVariables false

def ops14 : List O12 := [⟨1, 0, 0, 2, 3, 0, true, 0, 0, 0, 0, 0⟩, ⟨13, 0, 0, 1, 0, 0, false, 0, 48, 0, 0, 5⟩, ⟨11, 0, 0, 0, 0, 0, false, 0, 62, 2, 258, 5⟩, ⟨10, 0, 0, 0, 0, 0, false, 0, 60, 4, 0, 5⟩, ⟨10, 0, 0, 0, 0, 0, false, 0, 63, 2, 0, 5⟩]

theorem ran14 : (run14 newW ops14).2 = [(0, 0, 0, 0), (0, 0, 0, 0), (0, 0, 0, 0), (0, 16908288, 0, 0), (8, 0, 4, 64)] ∧ ((run14 newW ops14).1 0).live = true ∧ (pagesL ((run14 newW ops14).1 0) ((run14 newW ops14).1 0).L).length = 2 := by decide +kernel

/-- A row that was just laid. -/
theorem lit_ops (W : World) (s : Nat) (hs : s = W.heap.size) (l : List O12) (t : TypeId) (n B : Nat) (hn : n = l.length) (hB : n ≤ B) : IsRecs encO B (W.alloc (.cells (flatL encO l).toArray t)) (.slice (some ⟨s, 0, none⟩) n n) l := by
  subst hn
  subst hs
  refine ⟨_, _, rfl, Nat.le_refl _, hB, fun _ => ⟨W.heap.size, 0, rfl, fun j u hj => ?_⟩⟩
  have h : OwnRow (W.alloc (.cells (flatL encO l).toArray t)) W.heap.size t (flatL encO l) := heap_alloc_new W _
  rw [Nat.zero_add, h.cell, hj]

/-- All processes as they are shown, in a variable. -/
def IsW (base : Nat) (w : World) (b : Nat) (S : W4) : Prop := ∃ xs, OwnRow w b 34 xs ∧ ShownTo base w S 4 xs

theorem ShownTo.below {base k : Nat} {w w' : World} {S : W4} {xs : List Value} (h : ShownTo base w S k xs) (hb : Below w.heap.size w w') : ShownTo base w' S k xs := by
  refine ⟨h.1, h.2.1, fun i hi => ?_⟩
  obtain ⟨a, n, c, a', n', c', h1, h2⟩ := h.2.2 i hi
  exact ⟨a, n, c, a', n', c', h1.below hb, h2⟩

theorem IsW.below {base b : Nat} {w w' : World} {S : W4} (h : IsW base w b S) (hb : Below w.heap.size w w') : IsW base w' b S := by
  obtain ⟨xs, h1, h2⟩ := h
  exact ⟨xs, h1.below hb h1.lt, h2.below hb⟩

/-- A process's own cells in such a variable. -/
theorem IsW.at {base b : Nat} {w : World} {S : W4} (h : IsW base w b S) {i : Nat} (hi : i < 4) : ∃ a n c a' n' c', Seems base w (S i) (.slice a n c) (.slice a' n' c') ∧ ∀ j u, (procC (S i) (.slice a n c) (.slice a' n' c'))[j]? = some u → w.cell? ⟨b, i * 11 + j, none⟩ = some u := by
  obtain ⟨xs, h1, h2⟩ := h
  obtain ⟨a, n, c, a', n', c', h3, h4⟩ := h2.2.2 i hi
  refine ⟨a, n, c, a', n', c', h3, fun j u hj => ?_⟩
  have hj11 : j < 11 := (List.getElem?_eq_some_iff.1 hj).1
  rw [h1.cell, h4 j hj11, hj]

theorem OwnPg.len {base : Nat} {w : World} {a : Option Addr} {n c : Nat} {l : List Sl} (h : OwnPg base w (.slice a n c) l) : n = l.length := by
  obtain ⟨L, h1, h2, -⟩ := h
  obtain ⟨a', c', e⟩ := h2.form
  injection e with e1 e2 e3
  rw [e2, h1]

/-- What flat.Run answers at a list, to be laid into a variable. -/
theorem run14_keep (v : Value) (l : List O12) (B : Nat) (w : World) (h : IsRecs encO B w v l) (hB : B ≤ 2932031007400) (hwf : ∀ o ∈ l, bdI o.count ∧ bdI o.size) :
    Calls Try.prog 9 #[v] w fun e w' => ∃ a c X, e = .returned (.tuple #[.slice a l.length c, .agg X]) ∧ IsRecs encA 2932031007400 w' (.slice a l.length c) (run14 newW l).2 ∧ Below w.heap.size w w' ∧ X.size = 44 ∧ X.all (·.oneCell') = true ∧
      ∀ w2, w2 = w'.alloc (.cells X 34) → IsW w.heap.size w2 w'.heap.size (run14 newW l).1 := by
  refine (run14_any v l w (h.up (Nat.le_trans h.len hB)) hwf).mono ?_
  rintro e w' ⟨a, n, c, xs, rfl, ho, hs, hb⟩
  obtain ⟨a', c', e1⟩ := ho.form
  injection e1 with e1 e2 e3
  subst e1; subst e2; subst e3
  rw [run14_len] at *
  refine ⟨_, _, xs.toArray, rfl, ?_, hb, by simpa using hs.1, all_oneCell_toArray hs.2.1, fun w2 hw2 => ?_⟩
  · have hl := h.len
    have := ho.recs (B := 2932031007400) (by rw [run14_len]; omega)
    exact this
  · subst hw2
    refine ⟨xs, ?_, hs.below ((Below.refl _ _).alloc (Nat.le_refl _) _)⟩
    exact heap_alloc_new w' _

theorem info_procs' {X : Array Value} (h : X.size = 44) : (Try.prog.info? 34).map (·.size) = some X.size := by rw [h]; exact info_procs

set_option maxHeartbeats 1600000 in
theorem alive14_any (w : World) :
    Calls Try.prog 8 #[] w fun e w' => e = .returned (.bool true) ∧ Below w.heap.size w w' := by
  have HR : Hid (∀ (W : World) (s : Nat) (t : TypeId), s = W.heap.size → Calls Try.prog 9 #[.slice (some ⟨s, 0, none⟩) 5 5] (W.alloc (.cells (flatL encO ops14).toArray t)) fun e w' => ∃ a c X, e = .returned (.tuple #[.slice a 5 c, .agg X]) ∧ IsRecs encA 2932031007400 w' (.slice a 5 c) (run14 newW ops14).2 ∧ Below (W.alloc (.cells (flatL encO ops14).toArray t)).heap.size (W.alloc (.cells (flatL encO ops14).toArray t)) w' ∧ X.size = 44 ∧ X.all (·.oneCell') = true ∧
      ∀ w2, w2 = w'.alloc (.cells X 34) → IsW (W.alloc (.cells (flatL encO ops14).toArray t)).heap.size w2 w'.heap.size (run14 newW ops14).1) := fun W s t hs =>
    run14_keep _ _ 5 _ (lit_ops W s hs ops14 t 5 5 rfl (by decide)) (by decide) (fun o ho => by
      simp only [ops14, List.mem_cons, List.not_mem_nil, or_false] at ho
      rcases ho with rfl | rfl | rfl | rfl | rfl <;> exact ⟨⟨by decide, by decide⟩, ⟨by decide, by decide⟩⟩)
  obtain ⟨r1, r2, r3⟩ := ran14
  rw [r1] at HR
  generalize (run14 newW ops14).1 = S at *
  clear r1
  go_enter Try.func8, Try.ntmps8
  go_wp2_with fail
  refine (HR.out w _ _ (by first | rfl | simp)).mono ?_
  rintro e w1 ⟨a, c, X, rfl, ha, hb, hx1, hx2, hW⟩
  obtain ⟨a', c', e1, h1, h2, h3⟩ := ha
  injection e1 with e1 e2 e3
  subst e1; subst e3
  obtain ⟨b, off, rfl, hc⟩ := h3 (by decide)
  have HWA : Hid (∀ w2, w2 = w1.alloc (.cells X 34) → w2.cell? ⟨b, off + 13, none⟩ = some (.int .i64 16908288) ∧ w2.cell? ⟨b, off + 16, none⟩ = some (.int .i64 8) ∧ w2.cell? ⟨b, off + 17, none⟩ = some (.int .i64 0) ∧ w2.cell? ⟨b, off + 18, none⟩ = some (.int .i64 4) ∧ w2.cell? ⟨b, off + 19, none⟩ = some (.int .i64 64) ∧
      w2.cell? ⟨w1.heap.size, 0, none⟩ = some (.bool true) ∧ (∃ pa pc, w2.cell? ⟨w1.heap.size, 10, none⟩ = some (.slice pa 2 pc)) ∧ Below w.heap.size w w2) := fun w2 hw2 => by
    have hb2 : Below w1.heap.size w1 w2 := by rw [hw2]; exact (Below.refl _ _).alloc (Nat.le_refl _) _
    have go : ∀ {A : Addr} {v : Value}, w1.cell? A = some v → w2.cell? A = some v := fun hc => (hb2.cell (cell_lt hc)).trans hc
    obtain ⟨ra, rn, rc, pa, pn, pc, hs, hcl⟩ := (hW w2 hw2).at (i := 0) (by decide)
    have hpn : pn = 2 := by rw [hs.pages.len, r3]
    subst hpn
    refine ⟨go (hc 13 _ rfl), go (hc 16 _ rfl), go (hc 17 _ rfl), go (hc 18 _ rfl), go (hc 19 _ rfl), ?_, ⟨pa, pc, hcl 10 _ rfl⟩, ((Below.refl _ _).alloc (Nat.le_refl _) _).trans ((hb.mono (by simp)).trans (hb2.mono (by have := hb.size; simp at this; omega)))⟩
    have := hcl 0 _ rfl
    rw [r2] at this
    exact this
  have HX : Hid (X.size = 44 ∧ X.all (·.oneCell') = true) := ⟨hx1, hx2⟩
  clear hW hb hc h1 h2 h3 hx1 hx2 r2 r3 HR
  go_wp2_with (refine wpList_store_row rfl 34 (.tmp 2) _ rfl w1.heap.size X rfl rfl 34 _ (heap_alloc_new w1 _) (info_procs' HX.out.1) (by rw [HX.out.1]; rfl) HX.out.2 ?_; rw [World.setRow_alloc_new]; obtain ⟨wA, hA⟩ : ∃ wA, wA = w1.alloc (.cells X 34) := ⟨_, rfl⟩; rw [← hA]; obtain ⟨k0, k1, k2, k3, k4, k5, ⟨pa, pc, k6⟩, hbA⟩ := HWA.out wA hA; clear hA)
  go_ret
  exact ⟨rfl, hbA⟩

end Go.Proofs.Ytbiipnojhjhejaa

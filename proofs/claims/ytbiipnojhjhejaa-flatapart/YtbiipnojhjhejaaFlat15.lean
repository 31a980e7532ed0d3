/- The contract of flat.world.shown: all processes, in new memory. -/
import Derived.Test.YtbiipnojhjhejaaFlat14
import Derived.Test.YtbiipnojhjhejaaRegClone
namespace Go.Proofs.Ytbiipnojhjhejaa
set_option maxRecDepth 100000
open Go.RowKit
set_option linter.unusedSimpArgs false
set_option linter.unusedVariables false

/-- A process's cells as they are shown: its regions' slice, its pages' slice. -/
def procC (p : Pr) (r q : Value) : List Value := [.bool p.live, r] ++ k8L p.K ++ [q]

theorem procC_len (p : Pr) (r q : Value) : (procC p r q).length = 11 := rfl

/-- Cells that show process p: its lists are the call's own, made behind base. -/
structure Seems (base : Nat) (w : World) (p : Pr) (r q : Value) : Prop where
  regs : OwnR 50 6 encR base w r p.L
  pages : OwnPg base w q (pagesL p p.L)

theorem Seems.below {base : Nat} {w w' : World} {p : Pr} {r q : Value} (h : Seems base w p r q) (hb : Below w.heap.size w w') : Seems base w' p r q := ⟨h.regs.below hb, h.pages.below hb⟩

/-- Rows of one type alone have changed. -/
theorem keeps_setCells {w : World} {b : Nat} {e : TypeId} {xs : List Value} (hr : OwnRow w b e xs) (o : Nat) (vs : List Value) : Keeps e w (w.setCells b o vs) := by
  intro h c e' fr hh hne
  rw [heap_setCells_other ?_ vs o w]
  · exact hh
  · intro hb
    subst hb
    unfold OwnRow at hr
    rw [hr] at hh
    simp only [Option.some.injEq, Obj.cells.injEq] at hh
    exact hne hh.2.1.symm

theorem Own3.keepsAt {e : TypeId} {base : Nat} {w w' : World} {x : V3} {y : Sl} (h : Own3 base w x y) (hk : Keeps e w w') (h1 : (5 : TypeId) ≠ e) (h2 : (3 : TypeId) ≠ e) : Own3 base w' x y :=
  ⟨h.1, ⟨ownsRow_keeps h.2.1.1 hk h1, h.2.1.2⟩, ownsRow_keeps h.2.2.1 hk h2, h.2.2.2⟩

theorem Seems.keeps {base : Nat} {w w' : World} {p : Pr} {r q : Value} (h : Seems base w p r q) (hk : Keeps 34 w w') : Seems base w' p r q := by
  refine ⟨ownsRow_keeps h.regs hk (by decide), ?_⟩
  obtain ⟨L, h1, h2, h3⟩ := h.pages
  exact ⟨L, h1, ownsRow_keeps h2 hk (by decide), fun i hi => (h3 i hi).keepsAt hk (by decide) (by decide)⟩

theorem info_proc : (Try.prog.info? 33).map (·.size) = some 11 := by kernel_rfl
theorem info_procs : (Try.prog.info? 34).map (·.size) = some 44 := by kernel_rfl

theorem proc_one (p : Pr) (a : Option Addr) (n c : Nat) (a' : Option Addr) (n' c' : Nat) : ∀ v ∈ procC p (.slice a n c) (.slice a' n' c'), v.oneCell' = true := by
  intro v hv
  simp only [procC, k8L, List.mem_append, List.mem_cons, List.not_mem_nil, or_false] at hv
  rcases hv with ((rfl | rfl) | rfl | rfl | rfl | rfl | rfl | rfl | rfl | rfl) | rfl <;> rfl

/-- The first k processes are shown in the row xs. -/
def ShownTo (base : Nat) (w : World) (S : W4) (k : Nat) (xs : List Value) : Prop := xs.length = 44 ∧ (∀ v ∈ xs, v.oneCell' = true) ∧ ∀ i, i < k → ∃ a n c a' n' c', Seems base w (S i) (.slice a n c) (.slice a' n' c') ∧ ∀ j, j < 11 → xs[i * 11 + j]? = (procC (S i) (.slice a n c) (.slice a' n' c'))[j]?

theorem shown_next {base : Nat} {w w' : World} {S : W4} {k : Nat} {xs : List Value} (hk : k < 4) (h : ShownTo base w S k xs) (hs : ∀ p r q, Seems base w p r q → Seems base w' p r q) {a : Option Addr} {n c : Nat} {a' : Option Addr} {n' c' : Nat} (hn : Seems base w' (S k) (.slice a n c) (.slice a' n' c')) :
    ShownTo base w' S (k + 1) (spl xs (k * 11) (procC (S k) (.slice a n c) (.slice a' n' c'))) := by
  obtain ⟨h1, h2, h3⟩ := h
  have hl : k * 11 + (procC (S k) (.slice a n c) (.slice a' n' c')).length ≤ xs.length := by rw [procC_len]; omega
  refine ⟨by rw [spl_len hl]; exact h1, fun v hv => ?_, fun i hi => ?_⟩
  · unfold spl at hv
    rw [List.mem_append, List.mem_append] at hv
    rcases hv with (hv | hv) | hv
    · exact h2 v (List.mem_of_mem_take hv)
    · exact proc_one _ _ _ _ _ _ _ v hv
    · exact h2 v (List.mem_of_mem_drop hv)
  · by_cases hik : i = k
    · subst hik
      refine ⟨a, n, c, a', n', c', hn, fun j hj => ?_⟩
      rw [spl_get hl, if_pos (by rw [procC_len]; omega), Nat.add_sub_cancel_left]
    · obtain ⟨b, m, d, b', m', d', h4, h5⟩ := h3 i (by omega)
      refine ⟨b, m, d, b', m', d', hs _ _ _ h4, fun j hj => ?_⟩
      rw [spl_get hl, if_neg (by omega)]
      exact h5 j hj

/-- Pages that are there: memory has them as processes do. -/
theorem seen_live {S : W4} {k : Nat} (hi : Inv S) (hne : (S k).L ≠ []) : (S k).live = true := by
  cases h : (S k).live
  · exact absurd ((hi.1 k).dead h) hne
  · rfl

theorem seen_bytes {s : MV} {S : W4} (hr : PlR s (vw S)) (hi : Inv S) {k : Nat} (hk : k < 4) (hne : (S k).L ≠ []) (a : Nat) : 0 ≤ s.B k a ∧ s.B k a ≤ 255 := by
  rw [(hr k hk (by simp [vw, hk, seen_live hi hne])).1 a]
  exact (vw_good hi).byt k a

theorem at_region {l : List R6} (hg : Good 0 none l) {x : R6} (hx : x ∈ l) {n : Nat} (h1 : x.1 ≤ (n : Int)) (h2 : (n : Int) < x.2.1) : (atR l (n : Int)).isSome = true := by
  cases h : atR l (n : Int)
  · have := at_none.1 h x hx
    unfold iv at this
    simp at this
    omega
  · rfl

theorem seen_pages {s : MV} {S : W4} (hr : PlR s (vw S)) (hi : Inv S) {k : Nat} (hk : k < 4) : pagesL (withM s k (S k)) (S k).L = pagesL (S k) (S k).L := by
  have hg := (hi.1 k).good
  have hA := hg.asc (by decide)
  unfold pagesL
  rw [List.flatMap_def, List.flatMap_def]
  refine congrArg List.flatten (List.map_congr_left fun x hx => ?_)
  have hl := seen_live hi (List.ne_nil_of_mem hx)
  obtain ⟨q1, q2⟩ := hr k hk (by simp [vw, hk, hl])
  have hb := asc_mem hA x hx
  unfold pagesR
  refine List.map_congr_left fun i hi' => ?_
  rw [List.mem_range] at hi'
  have ha := at_region hg hx (n := x.1.toNat + i) (by omega) (by omega)
  unfold pageAt
  have e1 : bts (withM s k (S k)) ((x.1.toNat + i) * 64) 64 = bts (S k) ((x.1.toNat + i) * 64) 64 := by
    unfold bts
    refine List.map_congr_left fun j hj => ?_
    rw [List.mem_range] at hj
    show s.B k _ = _
    rw [q1]
    unfold vw
    dsimp only
    rw [show ((x.1.toNat + i) * 64 + j) / 64 = x.1.toNat + i by omega, if_pos ⟨hk, ha⟩]
  have e2 : tgs (withM s k (S k)) ((x.1.toNat + i) * 4) 4 = tgs (S k) ((x.1.toNat + i) * 4) 4 := by
    unfold tgs
    refine List.map_congr_left fun j hj => ?_
    rw [List.mem_range] at hj
    show s.T k _ = _
    rw [q2]
    unfold vw
    dsimp only
    rw [show ((x.1.toNat + i) * 4 + j) / 4 = x.1.toNat + i by omega, if_pos ⟨hk, ha⟩]
  rw [e1, e2]

set_option maxRecDepth 100000 in
set_option maxHeartbeats 3200000 in
theorem shown_any (mv : Value) (base g gm : Nat) (S : W4) (s : MV) (w : World) (h : WOK mv base g w S) (hi : Inv S) (hp : PlOK gm w s) (hr : PlR s (vw S)) :
    Calls Try.prog 23 #[.pointer (some ⟨g, 0, none⟩), .pointer (some ⟨gm, 0, none⟩)] w fun e w' => ∃ xs, e = .returned (.agg xs.toArray) ∧ ShownTo w.heap.size w' S 4 xs ∧ Below w.heap.size w w' := by
  have HW : Hid (∀ w1, Below w.heap.size w w1 → WOK mv base g w1 S ∧ PlOK gm w1 s) := fun w1 hb => ⟨h.below hb, hp.below hb⟩
  have HI : Hid (Inv S ∧ PlR s (vw S)) := ⟨hi, hr⟩
  have hgm := hp.lt
  have hg := h.glt
  clear h hi hp hr
  go_enter Try.func23, Try.ntmps23
  go_wp2_with fail
  have h2 := own_two (w := w) (xs := [.bool false, .slice none 0 0, .bool false, .int .i64 0, .bool false, .int .i64 0, .bool false, .int .i64 0, .bool false, .int .i64 0, .slice none 0 0, .bool false, .slice none 0 0, .bool false, .int .i64 0, .bool false, .int .i64 0, .bool false, .int .i64 0, .bool false, .int .i64 0, .slice none 0 0, .bool false, .slice none 0 0, .bool false, .int .i64 0, .bool false, .int .i64 0, .bool false, .int .i64 0, .bool false, .int .i64 0, .slice none 0 0, .bool false, .slice none 0 0, .bool false, .int .i64 0, .bool false, .int .i64 0, .bool false, .int .i64 0, .bool false, .int .i64 0, .slice none 0 0]) (ys := [.bool false, .slice none 0 0, .bool false, .int .i64 0, .bool false, .int .i64 0, .bool false, .int .i64 0, .bool false, .int .i64 0, .slice none 0 0, .bool false, .slice none 0 0, .bool false, .int .i64 0, .bool false, .int .i64 0, .bool false, .int .i64 0, .bool false, .int .i64 0, .slice none 0 0, .bool false, .slice none 0 0, .bool false, .int .i64 0, .bool false, .int .i64 0, .bool false, .int .i64 0, .bool false, .int .i64 0, .slice none 0 0, .bool false, .slice none 0 0, .bool false, .int .i64 0, .bool false, .int .i64 0, .bool false, .int .i64 0, .bool false, .int .i64 0, .slice none 0 0]) (e := 34) (e' := 34) (Below.refl _ _)
  have hbA : Below w.heap.size w ((w.alloc (.cells #[.bool false, .slice none 0 0, .bool false, .int .i64 0, .bool false, .int .i64 0, .bool false, .int .i64 0, .bool false, .int .i64 0, .slice none 0 0, .bool false, .slice none 0 0, .bool false, .int .i64 0, .bool false, .int .i64 0, .bool false, .int .i64 0, .bool false, .int .i64 0, .slice none 0 0, .bool false, .slice none 0 0, .bool false, .int .i64 0, .bool false, .int .i64 0, .bool false, .int .i64 0, .bool false, .int .i64 0, .slice none 0 0, .bool false, .slice none 0 0, .bool false, .int .i64 0, .bool false, .int .i64 0, .bool false, .int .i64 0, .bool false, .int .i64 0, .slice none 0 0] 34)).alloc (.cells #[.bool false, .slice none 0 0, .bool false, .int .i64 0, .bool false, .int .i64 0, .bool false, .int .i64 0, .bool false, .int .i64 0, .slice none 0 0, .bool false, .slice none 0 0, .bool false, .int .i64 0, .bool false, .int .i64 0, .bool false, .int .i64 0, .bool false, .int .i64 0, .slice none 0 0, .bool false, .slice none 0 0, .bool false, .int .i64 0, .bool false, .int .i64 0, .bool false, .int .i64 0, .bool false, .int .i64 0, .slice none 0 0, .bool false, .slice none 0 0, .bool false, .int .i64 0, .bool false, .int .i64 0, .bool false, .int .i64 0, .bool false, .int .i64 0, .slice none 0 0] 34)) := ((Below.refl _ _).alloc (Nat.le_refl _) _).alloc (by simp) _
  obtain ⟨hr1, hr2⟩ := h2
  change OwnRow ((w.alloc (.cells #[.bool false, .slice none 0 0, .bool false, .int .i64 0, .bool false, .int .i64 0, .bool false, .int .i64 0, .bool false, .int .i64 0, .slice none 0 0, .bool false, .slice none 0 0, .bool false, .int .i64 0, .bool false, .int .i64 0, .bool false, .int .i64 0, .bool false, .int .i64 0, .slice none 0 0, .bool false, .slice none 0 0, .bool false, .int .i64 0, .bool false, .int .i64 0, .bool false, .int .i64 0, .bool false, .int .i64 0, .slice none 0 0, .bool false, .slice none 0 0, .bool false, .int .i64 0, .bool false, .int .i64 0, .bool false, .int .i64 0, .bool false, .int .i64 0, .slice none 0 0] 34)).alloc (.cells #[.bool false, .slice none 0 0, .bool false, .int .i64 0, .bool false, .int .i64 0, .bool false, .int .i64 0, .bool false, .int .i64 0, .slice none 0 0, .bool false, .slice none 0 0, .bool false, .int .i64 0, .bool false, .int .i64 0, .bool false, .int .i64 0, .bool false, .int .i64 0, .slice none 0 0, .bool false, .slice none 0 0, .bool false, .int .i64 0, .bool false, .int .i64 0, .bool false, .int .i64 0, .bool false, .int .i64 0, .slice none 0 0, .bool false, .slice none 0 0, .bool false, .int .i64 0, .bool false, .int .i64 0, .bool false, .int .i64 0, .bool false, .int .i64 0, .slice none 0 0] 34)) _ _ _ at hr1
  change OwnRow ((w.alloc (.cells #[.bool false, .slice none 0 0, .bool false, .int .i64 0, .bool false, .int .i64 0, .bool false, .int .i64 0, .bool false, .int .i64 0, .slice none 0 0, .bool false, .slice none 0 0, .bool false, .int .i64 0, .bool false, .int .i64 0, .bool false, .int .i64 0, .bool false, .int .i64 0, .slice none 0 0, .bool false, .slice none 0 0, .bool false, .int .i64 0, .bool false, .int .i64 0, .bool false, .int .i64 0, .bool false, .int .i64 0, .slice none 0 0, .bool false, .slice none 0 0, .bool false, .int .i64 0, .bool false, .int .i64 0, .bool false, .int .i64 0, .bool false, .int .i64 0, .slice none 0 0] 34)).alloc (.cells #[.bool false, .slice none 0 0, .bool false, .int .i64 0, .bool false, .int .i64 0, .bool false, .int .i64 0, .bool false, .int .i64 0, .slice none 0 0, .bool false, .slice none 0 0, .bool false, .int .i64 0, .bool false, .int .i64 0, .bool false, .int .i64 0, .bool false, .int .i64 0, .slice none 0 0, .bool false, .slice none 0 0, .bool false, .int .i64 0, .bool false, .int .i64 0, .bool false, .int .i64 0, .bool false, .int .i64 0, .slice none 0 0, .bool false, .slice none 0 0, .bool false, .int .i64 0, .bool false, .int .i64 0, .bool false, .int .i64 0, .bool false, .int .i64 0, .slice none 0 0] 34)) _ _ _ at hr2
  generalize ((w.alloc (.cells #[.bool false, .slice none 0 0, .bool false, .int .i64 0, .bool false, .int .i64 0, .bool false, .int .i64 0, .bool false, .int .i64 0, .slice none 0 0, .bool false, .slice none 0 0, .bool false, .int .i64 0, .bool false, .int .i64 0, .bool false, .int .i64 0, .bool false, .int .i64 0, .slice none 0 0, .bool false, .slice none 0 0, .bool false, .int .i64 0, .bool false, .int .i64 0, .bool false, .int .i64 0, .bool false, .int .i64 0, .slice none 0 0, .bool false, .slice none 0 0, .bool false, .int .i64 0, .bool false, .int .i64 0, .bool false, .int .i64 0, .bool false, .int .i64 0, .slice none 0 0] 34)).alloc (.cells #[.bool false, .slice none 0 0, .bool false, .int .i64 0, .bool false, .int .i64 0, .bool false, .int .i64 0, .bool false, .int .i64 0, .slice none 0 0, .bool false, .slice none 0 0, .bool false, .int .i64 0, .bool false, .int .i64 0, .bool false, .int .i64 0, .bool false, .int .i64 0, .slice none 0 0, .bool false, .slice none 0 0, .bool false, .int .i64 0, .bool false, .int .i64 0, .bool false, .int .i64 0, .bool false, .int .i64 0, .slice none 0 0, .bool false, .slice none 0 0, .bool false, .int .i64 0, .bool false, .int .i64 0, .bool false, .int .i64 0, .bool false, .int .i64 0, .slice none 0 0] 34)) = wA at hr1 hr2 hbA ⊢
  obtain ⟨ZL, hZL⟩ : ∃ ZL : List Value, ZL = [.bool false, .slice none 0 0, .bool false, .int .i64 0, .bool false, .int .i64 0, .bool false, .int .i64 0, .bool false, .int .i64 0, .slice none 0 0, .bool false, .slice none 0 0, .bool false, .int .i64 0, .bool false, .int .i64 0, .bool false, .int .i64 0, .bool false, .int .i64 0, .slice none 0 0, .bool false, .slice none 0 0, .bool false, .int .i64 0, .bool false, .int .i64 0, .bool false, .int .i64 0, .bool false, .int .i64 0, .slice none 0 0, .bool false, .slice none 0 0, .bool false, .int .i64 0, .bool false, .int .i64 0, .bool false, .int .i64 0, .bool false, .int .i64 0, .slice none 0 0] := ⟨_, rfl⟩
  rw [← hZL] at hr1 hr2
  have HZ : Hid (ZL.length = 44 ∧ ∀ v ∈ ZL, v.oneCell' = true) := by
    rw [hZL]
    refine ⟨rfl, fun v hv => ?_⟩
    have := proc_one noP none 0 0 none 0 0
    have e : ([.bool false, .slice none 0 0, .bool false, .int .i64 0, .bool false, .int .i64 0, .bool false, .int .i64 0, .bool false, .int .i64 0, .slice none 0 0, .bool false, .slice none 0 0, .bool false, .int .i64 0, .bool false, .int .i64 0, .bool false, .int .i64 0, .bool false, .int .i64 0, .slice none 0 0, .bool false, .slice none 0 0, .bool false, .int .i64 0, .bool false, .int .i64 0, .bool false, .int .i64 0, .bool false, .int .i64 0, .slice none 0 0, .bool false, .slice none 0 0, .bool false, .int .i64 0, .bool false, .int .i64 0, .bool false, .int .i64 0, .bool false, .int .i64 0, .slice none 0 0] : List Value) = procC noP (.slice none 0 0) (.slice none 0 0) ++ (procC noP (.slice none 0 0) (.slice none 0 0) ++ (procC noP (.slice none 0 0) (.slice none 0 0) ++ procC noP (.slice none 0 0) (.slice none 0 0))) := rfl
    rw [e, List.mem_append, List.mem_append, List.mem_append] at hv
    rcases hv with hv | hv | hv | hv <;> exact this v hv
  clear hZL
  have H0 : Hid (∃ xs, OwnRow wA (w.heap.size + 1) 34 xs ∧ ShownTo w.heap.size wA S 0 xs) := ⟨ZL, hr2, HZ.out.1, HZ.out.2, fun i hi => absurd hi (Nat.not_lt_zero i)⟩
  have H1 : Hid (OwnRow wA w.heap.size 34 ZL) := hr1
  clear hr1 hr2
  go_loopw [8] (fun q wr => ∃ i : Nat, i ≤ 4 ∧ q = .int .i64 i ∧ Hid (∃ xs, OwnRow wr (w.heap.size + 1) 34 xs ∧ ShownTo w.heap.size wr S i xs) ∧ Hid (OwnRow wr w.heap.size 34 ZL) ∧ Below w.heap.size w wr) (fun q _ => 4 - (intOf q).toNat)
  case atStart => exact ⟨0, Nat.zero_le _, rfl, H0.out, H1.out, hbA⟩
  clear H0 H1 hbA
  case round =>
    obtain ⟨i, hi4, rfl, hsh, hzr, hbel⟩ := hrel
    have hsz : w.heap.size + 1 < wr.heap.size := by obtain ⟨xs, h1, -⟩ := hsh.out; exact h1.lt
    by_cases hlt : i < 4
    · have hw0 := (HW.out _ (Below.refl _ _)).1
      obtain ⟨ra, rc, hrg, hrr, -⟩ := hw0.recs HI.out.1 hlt
      have hlv := hw0.live hlt
      have hkk := hw0.keys hlt
      have HCL : Hid (∀ w1, Below w.heap.size w w1 → Calls Try.prog 33 #[.slice ra (S i).L.length rc] w1 fun e w' => ∃ a n c, e = .returned (.slice a n c) ∧ OwnR 50 6 encR w1.heap.size w' (.slice a n c) (S i).L ∧ Below w1.heap.size w1 w') := fun w1 hb => by
        refine (rclone_any _ _ w1 ((hrr.below hb).up (by have := hrr.len; omega))).mono ?_
        rintro e w2 ⟨v2, rfl, ho, hb2⟩
        obtain ⟨a, c, rfl⟩ := ho.form
        exact ⟨a, _, c, rfl, ho, hb2⟩
      have HSP : Hid (∀ w1, Below w.heap.size w w1 → Calls Try.prog 34 #[.pointer (some ⟨gm, i * 4352, none⟩), .slice ra (S i).L.length rc] w1 fun e w' => ∃ a n c, e = .returned (.slice a n c) ∧ OwnPg w1.heap.size w' (.slice a n c) (pagesL (S i) (S i).L) ∧ Below w1.heap.size w1 w') := fun w1 hb => by
        have := vshown_any gm s i hlt (S i) _ w1 (HW.out _ hb).2 (hrr.below hb) (HI.out.1.1 i).good (seen_bytes HI.out.2 HI.out.1 hlt)
        rw [seen_pages HI.out.2 HI.out.1 hlt] at this
        exact this
      have HPC : Hid (∀ r q, procC (S i) r q = [.bool (S i).live, r] ++ k8L (S i).K ++ [q]) := fun r q => rfl
      generalize (S i).L.length = rn at *
      obtain ⟨lv, hlv2⟩ : ∃ lv, lv = (S i).live := ⟨_, rfl⟩
      obtain ⟨K, hK⟩ : ∃ K, K = (S i).K := ⟨_, rfl⟩
      rw [← hlv2] at hlv HPC
      rw [← hK] at hkk HPC
      clear hlv2 hK hw0 hrr
      obtain ⟨t0, d0, t1, d1, t2, d2, t3, d3⟩ := K
      simp only at hkk
      have HNX : Hid (∀ w', Below w.heap.size w w' → w'.cell? ⟨g, i * 10, none⟩ = some (.bool lv) ∧ w'.cell? ⟨g, i * 10 + 1, none⟩ = some (.slice ra rn rc) ∧ w'.cell? ⟨g, i * 10 + 2, none⟩ = some (.bool t0) ∧ w'.cell? ⟨g, i * 10 + 2 + 1, none⟩ = some (.int .i64 d0) ∧ w'.cell? ⟨g, i * 10 + 2 + 2, none⟩ = some (.bool t1) ∧ w'.cell? ⟨g, i * 10 + 2 + 3, none⟩ = some (.int .i64 d1) ∧ w'.cell? ⟨g, i * 10 + 2 + 4, none⟩ = some (.bool t2) ∧ w'.cell? ⟨g, i * 10 + 2 + 5, none⟩ = some (.int .i64 d2) ∧ w'.cell? ⟨g, i * 10 + 2 + 6, none⟩ = some (.bool t3) ∧ w'.cell? ⟨g, i * 10 + 2 + 7, none⟩ = some (.int .i64 d3) ∧ Below w.heap.size w w') := fun w' hb => by
        obtain ⟨⟨k0, k1, k2, k3⟩, k4, k5, k6, k7⟩ := hkk
        have go : ∀ {A : Addr} {v : Value}, w.cell? A = some v → w'.cell? A = some v := fun hc => (hb.cell (cell_lt hc)).trans hc
        exact ⟨go hlv, go hrg, go k0, go k1, go k2, go k3, go k4, go k5, go k6, go k7, hb⟩
      clear hkk hlv hrg
      obtain ⟨wo, rfl⟩ : ∃ wo, wo = wr := ⟨_, rfl⟩
      go_wp2_with fail
      refine wp_region_noPanic ?_
      refine wp_region_held_drew (S := (fun w' => w'.cell? ⟨g, i * 10, none⟩ = some (.bool lv) ∧ w'.cell? ⟨g, i * 10 + 1, none⟩ = some (.slice ra rn rc) ∧ w'.cell? ⟨g, i * 10 + 2, none⟩ = some (.bool t0) ∧ w'.cell? ⟨g, i * 10 + 2 + 1, none⟩ = some (.int .i64 d0) ∧ w'.cell? ⟨g, i * 10 + 2 + 2, none⟩ = some (.bool t1) ∧ w'.cell? ⟨g, i * 10 + 2 + 3, none⟩ = some (.int .i64 d1) ∧ w'.cell? ⟨g, i * 10 + 2 + 4, none⟩ = some (.bool t2) ∧ w'.cell? ⟨g, i * 10 + 2 + 5, none⟩ = some (.int .i64 d2) ∧ w'.cell? ⟨g, i * 10 + 2 + 6, none⟩ = some (.bool t3) ∧ w'.cell? ⟨g, i * 10 + 2 + 7, none⟩ = some (.int .i64 d3) ∧ Below w.heap.size w w')) (by kernel_rfl) (HNX.out _ hbel.drew) (fun hHeld => ?_)
      refine take_to 0 (some 16) (v := ?_) rfl rfl (by kernel_rfl) (by kernel_rfl) (by kernel_rfl) (fun _ _ _ h => h) (Or.inl ⟨by rfl, ?_⟩) (by assumption) ?_
      rotate_left
      · intro w hSw
        (try dsimp only at hSw)
        go_simp
        with_reducible rfl
      simp only [Act.put, List.setIfInBounds_toArray, List.set_cons_zero, List.set_cons_succ]
      refine take_to 1 (some 17) (v := ?_) rfl rfl (by kernel_rfl) (by kernel_rfl) (by kernel_rfl) (fun _ _ _ h => h) (Or.inl ⟨by rfl, ?_⟩) (by assumption) ?_
      rotate_left
      · intro w hSw
        (try dsimp only at hSw)
        go_simp
        with_reducible rfl
      simp only [Act.put, List.setIfInBounds_toArray, List.set_cons_zero, List.set_cons_succ]
      refine take_to 2 (some 18) (v := ?_) rfl rfl (by kernel_rfl) (by kernel_rfl) (by kernel_rfl) (fun _ _ _ h => h) (Or.inl ⟨by rfl, ?_⟩) (by assumption) ?_
      rotate_left
      · intro w hSw
        (try dsimp only at hSw)
        go_simp
        with_reducible rfl
      simp only [Act.put, List.setIfInBounds_toArray, List.set_cons_zero, List.set_cons_succ]
      refine take_to 3 (some 19) (v := ?_) rfl rfl (by kernel_rfl) (by kernel_rfl) (by kernel_rfl) (fun _ _ _ h => h) (Or.inl ⟨by rfl, ?_⟩) (by assumption) ?_
      rotate_left
      · intro w hSw
        (try dsimp only at hSw)
        go_simp
        with_reducible rfl
      simp only [Act.put, List.setIfInBounds_toArray, List.set_cons_zero, List.set_cons_succ]
      refine take_to 4 (some 20) (v := ?_) rfl rfl (by kernel_rfl) (by kernel_rfl) (by kernel_rfl) (fun _ _ _ h => h) (Or.inl ⟨by rfl, ?_⟩) (by assumption) ?_
      rotate_left
      · intro w hSw
        (try dsimp only at hSw)
        go_simp
        with_reducible rfl
      simp only [Act.put, List.setIfInBounds_toArray, List.set_cons_zero, List.set_cons_succ]
      refine take_to 5 (some 21) (v := ?_) rfl rfl (by kernel_rfl) (by kernel_rfl) (by kernel_rfl) (fun _ _ _ h => h) (Or.inl ⟨by rfl, ?_⟩) (by assumption) ?_
      rotate_left
      · intro w hSw
        (try dsimp only at hSw)
        go_simp
        with_reducible rfl
      simp only [Act.put, List.setIfInBounds_toArray, List.set_cons_zero, List.set_cons_succ]
      refine take_to 6 (some 22) (v := ?_) rfl rfl (by kernel_rfl) (by kernel_rfl) (by kernel_rfl) (fun _ _ _ h => h) (Or.inl ⟨by rfl, ?_⟩) (by assumption) ?_
      rotate_left
      · intro w hSw
        (try dsimp only at hSw)
        go_simp
        with_reducible rfl
      simp only [Act.put, List.setIfInBounds_toArray, List.set_cons_zero, List.set_cons_succ]
      refine take_to 7 (some 23) (v := ?_) rfl rfl (by kernel_rfl) (by kernel_rfl) (by kernel_rfl) (fun _ _ _ h => h) (Or.inl ⟨by rfl, ?_⟩) (by assumption) ?_
      rotate_left
      · intro w hSw
        (try dsimp only at hSw)
        go_simp
        with_reducible rfl
      simp only [Act.put, List.setIfInBounds_toArray, List.set_cons_zero, List.set_cons_succ]
      refine take_to 8 (some 24) (v := ?_) rfl rfl (by kernel_rfl) (by kernel_rfl) (by kernel_rfl) (fun _ _ _ h => h) (Or.inl ⟨by rfl, ?_⟩) (by assumption) ?_
      rotate_left
      · intro w hSw
        (try dsimp only at hSw)
        go_simp
        with_reducible rfl
      simp only [Act.put, List.setIfInBounds_toArray, List.set_cons_zero, List.set_cons_succ]
      refine take_to 10 (some 26) (v := ?_) rfl rfl (by kernel_rfl) (by kernel_rfl) (by kernel_rfl) (fun _ _ _ h => h) (Or.inl ⟨by rfl, ?_⟩) (by assumption) ?_
      rotate_left
      · intro w hSw
        (try dsimp only at hSw)
        go_simp
        with_reducible rfl
      simp only [Act.put, List.setIfInBounds_toArray, List.set_cons_zero, List.set_cons_succ]
      refine take_to 11 (some 27) (v := ?_) rfl rfl (by kernel_rfl) (by kernel_rfl) (by kernel_rfl) (fun _ _ _ h => h) (Or.inl ⟨by rfl, ?_⟩) (by assumption) ?_
      rotate_left
      · intro w hSw
        (try dsimp only at hSw)
        go_simp
        with_reducible rfl
      simp only [Act.put, List.setIfInBounds_toArray, List.set_cons_zero, List.set_cons_succ]
      refine take_to 12 (some 28) (v := ?_) rfl rfl (by kernel_rfl) (by kernel_rfl) (by kernel_rfl) (fun _ _ _ h => h) (Or.inl ⟨by rfl, ?_⟩) (by assumption) ?_
      rotate_left
      · intro w hSw
        (try dsimp only at hSw)
        go_simp
        with_reducible rfl
      simp only [Act.put, List.setIfInBounds_toArray, List.set_cons_zero, List.set_cons_succ]
      refine take_to 13 (some 29) (v := ?_) rfl rfl (by kernel_rfl) (by kernel_rfl) (by kernel_rfl) (fun _ _ _ h => h) (Or.inl ⟨by rfl, ?_⟩) (by assumption) ?_
      rotate_left
      · intro w hSw
        (try dsimp only at hSw)
        go_simp
        with_reducible rfl
      simp only [Act.put, List.setIfInBounds_toArray, List.set_cons_zero, List.set_cons_succ]
      refine take_to 14 (some 30) (v := ?_) rfl rfl (by kernel_rfl) (by kernel_rfl) (by kernel_rfl) (fun _ _ _ h => h) (Or.inl ⟨by rfl, ?_⟩) (by assumption) ?_
      rotate_left
      · intro w hSw
        (try dsimp only at hSw)
        go_simp
        with_reducible rfl
      simp only [Act.put, List.setIfInBounds_toArray, List.set_cons_zero, List.set_cons_succ]
      refine take_to 15 (some 31) (v := ?_) rfl rfl (by kernel_rfl) (by kernel_rfl) (by kernel_rfl) (fun _ _ _ h => h) (Or.inl ⟨by rfl, ?_⟩) (by assumption) ?_
      rotate_left
      · intro w hSw
        (try dsimp only at hSw)
        go_simp
        with_reducible rfl
      simp only [Act.put, List.setIfInBounds_toArray, List.set_cons_zero, List.set_cons_succ]
      refine take_to 16 (some 32) (v := ?_) rfl rfl (by kernel_rfl) (by kernel_rfl) (by kernel_rfl) (fun _ _ _ h => h) (Or.inl ⟨by rfl, ?_⟩) (by assumption) ?_
      rotate_left
      · intro w hSw
        (try dsimp only at hSw)
        go_simp
        with_reducible rfl
      simp only [Act.put, List.setIfInBounds_toArray, List.set_cons_zero, List.set_cons_succ]
      refine take_to 17 (some 33) (v := ?_) rfl rfl (by kernel_rfl) (by kernel_rfl) (by kernel_rfl) (fun _ _ _ h => h) (Or.inl ⟨by rfl, ?_⟩) (by assumption) ?_
      rotate_left
      · intro w hSw
        (try dsimp only at hSw)
        go_simp
        with_reducible rfl
      simp only [Act.put, List.setIfInBounds_toArray, List.set_cons_zero, List.set_cons_succ]
      refine take_to 18 (some 34) (v := ?_) rfl rfl (by kernel_rfl) (by kernel_rfl) (by kernel_rfl) (fun _ _ _ h => h) (Or.inl ⟨by rfl, ?_⟩) (by assumption) ?_
      rotate_left
      · intro w hSw
        (try dsimp only at hSw)
        go_simp
        with_reducible rfl
      simp only [Act.put, List.setIfInBounds_toArray, List.set_cons_zero, List.set_cons_succ]
      refine take_to 19 (some 35) (v := ?_) rfl rfl (by kernel_rfl) (by kernel_rfl) (by kernel_rfl) (fun _ _ _ h => h) (Or.inl ⟨by rfl, ?_⟩) (by assumption) ?_
      rotate_left
      · intro w hSw
        (try dsimp only at hSw)
        go_simp
        with_reducible rfl
      simp only [Act.put, List.setIfInBounds_toArray, List.set_cons_zero, List.set_cons_succ]
      refine take_to 20 (some 36) (v := ?_) rfl rfl (by kernel_rfl) (by kernel_rfl) (by kernel_rfl) (fun _ _ _ h => h) (Or.inl ⟨by rfl, ?_⟩) (by assumption) ?_
      rotate_left
      · intro w hSw
        (try dsimp only at hSw)
        go_simp
        with_reducible rfl
      simp only [Act.put, List.setIfInBounds_toArray, List.set_cons_zero, List.set_cons_succ]
      refine take_to 21 (some 37) (v := ?_) rfl rfl (by kernel_rfl) (by kernel_rfl) (by kernel_rfl) (fun _ _ _ h => h) (Or.inl ⟨by rfl, ?_⟩) (by assumption) ?_
      rotate_left
      · intro w hSw
        (try dsimp only at hSw)
        go_simp
        with_reducible rfl
      simp only [Act.put, List.setIfInBounds_toArray, List.set_cons_zero, List.set_cons_succ]
      refine wpAnyH_ready (rs := [9]) (by kernel_rfl) (by simp) ?_
      refine AllReadyH.cons rfl (fun K hK => ?_) AllReadyH.nil
      go_simp
      refine Calls.mono (HCL.out _ hbel.drew) ?_
      rintro e w3 ⟨na, nn, nc, rfl, hor, hb3⟩
      have hbo3 : Below wo.heap.size wo w3 := ((Below.refl _ _).drew).trans hb3
      have hbw3 : Below w.heap.size w w3 := hbel.trans (hbo3.mono hbel.size)
      go_wp2_with fail
      refine hK.out _ _ (HNX.out _ hbw3) (fun hHeld => ?_)
      clear hK K
      try simp only [Act.put, List.setIfInBounds_toArray, List.set_cons_zero, List.set_cons_succ]
      refine wpAnyH_ready (rs := [22]) (by kernel_rfl) (by simp) ?_
      refine AllReadyH.cons rfl (fun K hK => ?_) AllReadyH.nil
      go_simp
      refine Calls.mono (HSP.out _ hbw3) ?_
      rintro e w5 ⟨pa, pn, pc, rfl, hpg, hb5⟩
      have hbo5 : Below wo.heap.size wo w5 := hbo3.trans (hb5.mono hbo3.size)
      have hbw5 : Below w.heap.size w w5 := hbel.trans (hbo5.mono hbel.size)
      go_wp2_with fail
      refine hK.out _ _ (HNX.out _ hbw5) (fun hHeld => ?_)
      clear hK K
      try simp only [Act.put, List.setIfInBounds_toArray, List.set_cons_zero, List.set_cons_succ]
      refine take_to 23 (some 39) (v := ?_) rfl rfl (by kernel_rfl) (by kernel_rfl) (by kernel_rfl) (fun _ _ _ h => h) (Or.inl ⟨by rfl, ?_⟩) (by assumption) ?_
      rotate_left
      · intro w hSw
        (try dsimp only at hSw)
        go_simp
        with_reducible rfl
      simp only [Act.put, List.setIfInBounds_toArray, List.set_cons_zero, List.set_cons_succ]
      refine take_to 24 (some 40) (v := ?_) rfl rfl (by kernel_rfl) (by kernel_rfl) (by kernel_rfl) (fun _ _ _ h => h) (Or.inl ⟨by rfl, ?_⟩) (by assumption) ?_
      rotate_left
      · intro w hSw
        (try dsimp only at hSw)
        go_simp
        with_reducible rfl
      simp only [Act.put, List.setIfInBounds_toArray, List.set_cons_zero, List.set_cons_succ]
      obtain ⟨xs, hx1, hx2⟩ := hsh.out
      have hx5 := hx1.below hbo5 hx1.lt
      have hth : w5.there (w.heap.size + 1) (i * 11) 11 := fun j hj => ⟨by rw [hx5.cell, List.getElem?_eq_getElem (by rw [hx2.1]; omega)]; rfl, hx5.free _⟩
      have hpc : procC (S i) (.slice na nn nc) (.slice pa pn pc) = [.bool lv, .slice na nn nc, .bool t0, .int .i64 d0, .bool t1, .int .i64 d1, .bool t2, .int .i64 d2, .bool t3, .int .i64 d3, .slice pa pn pc] := HPC.out (.slice na nn nc) (.slice pa pn pc)
      have hsee : Seems w.heap.size w5 (S i) (.slice na nn nc) (.slice pa pn pc) := ⟨(hor.mono hbel.size).below hb5, by obtain ⟨L, l1, l2, l3⟩ := hpg; exact ⟨L, l1, l2.mono hbw3.size, fun q hq => (l3 q hq).mono hbw3.size⟩⟩
      have hkp := keeps_setCells hx5 (i * 11) (procC (S i) (.slice na nn nc) (.slice pa pn pc))
      have hnx := shown_next hlt hx2 (fun p r q hs => (hs.below hbo5).keeps hkp) (hsee.keeps hkp)
      have hx6 := hx5.setCells (procC (S i) (.slice na nn nc) (.slice pa pn pc)) (i * 11) w5 xs (by rw [procC_len, hx2.1]; omega)
      have hz6 : OwnRow (w5.setCells (w.heap.size + 1) (i * 11) (procC (S i) (.slice na nn nc) (.slice pa pn pc))) w.heap.size 34 ZL := (hzr.out.below hbo5 (by omega)).other (by omega) _ _
      have hb6 : Below w.heap.size w (w5.setCells (w.heap.size + 1) (i * 11) (procC (S i) (.slice na nn nc) (.slice pa pn pc))) := below_setCells (by omega) _ _ _ _ hbw5
      have HEND : Hid ((∃ ys, OwnRow (w5.setCells (w.heap.size + 1) (i * 11) (procC (S i) (.slice na nn nc) (.slice pa pn pc))) (w.heap.size + 1) 34 ys ∧ ShownTo w.heap.size (w5.setCells (w.heap.size + 1) (i * 11) (procC (S i) (.slice na nn nc) (.slice pa pn pc))) S (i + 1) ys)) := ⟨_, hx6, hnx⟩
      have HZ6 : Hid _ := hz6
      rw [hpc] at HEND HZ6 hb6
      clear hx5 hx6 hnx hkp hsee hz6 hx1 hx2 xs
      have hone : (#[.bool lv, .slice na nn nc, .bool t0, .int .i64 d0, .bool t1, .int .i64 d1, .bool t2, .int .i64 d2, .bool t3, .int .i64 d3, .slice pa pn pc] : Array Value).all (·.oneCell') = true := all_oneCell_toArray (cs := [.bool lv, .slice na nn nc, .bool t0, .int .i64 d0, .bool t1, .int .i64 d1, .bool t2, .int .i64 d2, .bool t3, .int .i64 d3, .slice pa pn pc]) (by intro v hv; simp only [List.mem_cons, List.not_mem_nil, or_false] at hv; rcases hv with rfl | rfl | rfl | rfl | rfl | rfl | rfl | rfl | rfl | rfl | rfl <;> rfl)
      refine wpAnyH_ready (rs := [25]) (by kernel_rfl) (by simp) ?_
      refine AllReadyH.cons rfl (fun K hK => ?_) AllReadyH.nil
      rw [if_pos (by rfl)]
      refine wp_store_mid 33 (.tmp 40) (.tmp 39) rfl (w.heap.size + 1) (i * 11) #[.bool lv, .slice na nn nc, .bool t0, .int .i64 d0, .bool t1, .int .i64 d1, .bool t2, .int .i64 d2, .bool t3, .int .i64 d3, .slice pa pn pc] rfl rfl hth info_proc hone ?_
      refine hK.out _ _ (HNX.out _ hb6) (fun hHeld => ?_)
      clear hK K
      simp only [Act.put, List.getElem_toArray, List.getElem_cons_succ, List.getElem_cons_zero, List.setIfInBounds_toArray, List.set_cons_zero, List.set_cons_succ]
      refine wpAnyH_done (by kernel_rfl) ?_ _
      refine NoPanic.normal ?_
      generalize (w5.setCells (w.heap.size + 1) (i * 11) [.bool lv, .slice na nn nc, .bool t0, .int .i64 d0, .bool t1, .int .i64 d1, .bool t2, .int .i64 d2, .bool t3, .int .i64 d3, .slice pa pn pc]) = w6 at HEND HZ6 hb6 ⊢
      clear hHeld hth hpc hor hpg hb3 hb5 hbo3 hbo5 hbw3 hbw5 HNX HPC HCL HSP
      go_wp2
      go_roundw
      case rel => exact ⟨i + 1, by omega, by go_num, HEND.out, HZ6.out, hb6⟩
      case measure => simp [intOf]; omega
    · obtain rfl : i = 4 := by omega
      obtain ⟨xs, hx1, hx2⟩ := hsh.out
      have hxw : Hid (wr.heap[w.heap.size + 1]? = some (.cells xs.toArray 34 (0, 0))) := hx1
      have hzw : Hid (wr.heap[w.heap.size]? = some (.cells ZL.toArray 34 (0, 0))) := hzr.out
      have HX : Hid (xs.toArray.size = 44 ∧ xs.toArray.all (·.oneCell') = true) := ⟨by simpa using hx2.1, all_oneCell_toArray hx2.2.1⟩
      have HZS : Hid (ZL.toArray.size = 44) := by show _ = _; simpa using HZ.out.1
      have HSH : Hid (ShownTo w.heap.size (wr.setRow w.heap.size xs.toArray) S 4 xs) := by
        refine ⟨hx2.1, hx2.2.1, fun i hi => ?_⟩
        obtain ⟨a, n, c, a', n', c', hs, hj⟩ := hx2.2.2 i hi
        refine ⟨a, n, c, a', n', c', hs.keeps (fun h cc e' fr hh hne => ?_), hj⟩
        rw [setRow_other wr w.heap.size h xs.toArray ?_]
        · exact hh
        · intro hb
          subst hb
          rw [hzw.out] at hh
          simp only [Option.some.injEq, Obj.cells.injEq] at hh
          exact hne hh.2.1.symm
      have HB : Hid (Below w.heap.size w (wr.setRow w.heap.size xs.toArray)) := below_setRow hbel (Nat.le_refl _) _
      have HSZ : Hid ((Try.prog.info? 34).map (·.size) = some xs.toArray.size) := by show _ = _; rw [info_procs, HX.out.1]
      clear hsh hzr hx1 hx2
      obtain ⟨X, hX⟩ : ∃ X, X = xs.toArray := ⟨_, rfl⟩
      rw [← hX] at hxw HX HSH HB HSZ
      go_wp2_with (first
        | (refine wpList_load_row rfl 34 (.tmp 5) rfl (w.heap.size + 1) rfl 34 X (0, 0) _ hxw.out Try.underlying34 rfl HSZ.out ?_)
        | (refine wpList_store_row rfl 34 (.tmp 4) _ rfl w.heap.size X rfl rfl 34 _ hzw.out HSZ.out (by rw [HX.out.1, HZS.out]) HX.out.2 ?_))
      exact bodyPost_ret (v := .agg X) (results_cell_row Try.results23 _ _ w.heap.size 34 X (0, 0) _ rfl (setRow_heap _ _ _ _ _ _ hzw.out) Try.underlying34 rfl HSZ.out) rfl ⟨xs, by rw [hX], HSH.out, HB.out⟩

end Go.Proofs.Ytbiipnojhjhejaa

/- The walk of framewardenkeep.TlbLast: it returns true, and nothing that was there is written. -/
import Derived.Test.YtgkdbcafijhdiadTlb7
import Derived.Test.YtgkdbcafijhdiadTlbIndex
import Derived.Test.YtgkdbcafijhdiadAlive6
namespace Go.Proofs.Ytgkdbcafijhdiad
open Go.RowKit
set_option linter.unusedSimpArgs false
set_option linter.unusedVariables false

set_option maxHeartbeats 400000 in
theorem mine_any (B : Nat) (a b c d x y z u : Int) (w : World) (hc : OwnRow w B 26 (encC (a, b, c, d))) :
    Calls Try.prog 8 #[.agg #[.int .i64 x, .int .i64 y, .int .i64 z, .int .i64 u], .pointer (some ⟨B, 0, none⟩)] w fun e w' => e = .returned (.bool (tou (a, b, c, d) (x, y, z, u))) ∧ Below w.heap.size w w' := by
  obtain ⟨c0, c1, c2, c3⟩ := hc.quad
  have hlt := hc.lt
  have hbe : Hid (∀ o1, Below w.heap.size w (w.alloc o1)) := fun o1 => (Below.refl _ _).alloc (Nat.le_refl _) _
  clear hc
  by_cases h1 : x = a
  · by_cases h2 : b < 0
    · go_enter Try.func8, Try.ntmps8
      go_wp2
      go_ret
      exact ⟨ret_bool (by simp [tou, h1, h2]), hbe.out _⟩
    · have hd : decide (b < 0) = false := by simpa using h2
      by_cases h3 : y = b
      · go_enter Try.func8, Try.ntmps8
        go_wp2
        go_ret
        exact ⟨ret_bool (by simp [tou, h1, h3]), hbe.out _⟩
      · have hd3 : (y == b) = false := by simpa using h3
        go_enter Try.func8, Try.ntmps8
        go_wp2
        go_ret
        exact ⟨ret_bool (by have h2' : ¬ b < 0 := by omega
                            simp [tou, h1, h2', Ne.symm h3]), hbe.out _⟩
  · have hd1 : (x == a) = false := by simpa using h1
    go_enter Try.func8, Try.ntmps8
    go_wp2
    go_ret
    exact ⟨ret_bool (by simp [tou, Ne.symm h1]), hbe.out _⟩

/-- The four cells of a box, and that all that lay in W0 lies as it did. -/
def One (W0 : World) (A : Nat) (a b c d : Int) (w' : World) : Prop :=
  (w'.cell? ⟨A, 0, none⟩ = some (.int .i64 a) ∧ w'.cell? ⟨A, 1, none⟩ = some (.int .i64 b) ∧ w'.cell? ⟨A, 2, none⟩ = some (.int .i64 c) ∧ w'.cell? ⟨A, 3, none⟩ = some (.int .i64 d)) ∧ Below W0.heap.size W0 w'

theorem one_of {W0 w' : World} {A : Nat} {e : TypeId} {a b c d : Int} (hA : OwnRow W0 A e (encC (a, b, c, d))) (hb : Below W0.heap.size W0 w') : One W0 A a b c d w' :=
  ⟨(hA.below hb hA.lt).quad, hb⟩

set_option maxHeartbeats 1600000 in
theorem tlbLast_walk (v : Value) (l : List C4) (a b c d : Int) (w : World) (h : IsRecs encC 4398046510976 w v l) :
    Calls Try.prog 3 #[v, .agg #[.int .i64 a, .int .i64 b, .int .i64 c, .int .i64 d]] w fun e w' => e = .returned (.bool true) ∧ Below w.heap.size w w' := by
  obtain ⟨i0, hi0, hz0, hz1, hz2⟩ := info_parts info_cached
  have hlen := h.len
  have h' : IsRecs encC 4398046511000 w v l := by
    obtain ⟨a, cap, rfl, h1, h2, h3⟩ := h
    exact ⟨a, cap, rfl, h1, by omega, h3⟩
  obtain ⟨va, vn, rfl⟩ := h.form
  have HI : Hid (∀ w1, Below w.heap.size w w1 → IsRecs encC 4398046511000 w1 (.slice va l.length vn) l) := fun w1 hb => h'.below hb
  clear h h'
  have HCl : Hid (∀ w1, Below w.heap.size w w1 → Calls Try.prog 7 #[.slice va l.length vn] w1 fun e w' => ∃ v', e = .returned v' ∧ OwnR 26 4 encC w1.heap.size w' v' l ∧ Below w1.heap.size w1 w') := fun w1 hb => cclone_any _ l w1 (HI.out w1 hb)
  have HPl : Hid (∀ w1 v1 base, OwnR 26 4 encC base w1 v1 (l ++ [(a, b, c, d)]) → Calls Try.prog 6 #[v1] w1 fun e w' => ∃ g, e = .returned (.slice (some ⟨g, 0, none⟩) (hr (play l) (a, b, c, d)).length 9) ∧ RowC w' g 9 (hr (play l) (a, b, c, d)) ∧ Below w1.heap.size w1 w') := by
    intro w1 v1 base ho
    have := play_any v1 _ w1 (ho.recs (by simp; omega))
    rw [play_snoc] at this
    exact this.mono fun e w' ⟨he, hr, hb⟩ => ⟨_, he, hr, hb⟩
  have Hal : Hid (∀ w1, Calls Try.prog 5 #[] w1 fun e w' => e = .returned (.bool true) ∧ Below w1.heap.size w1 w') := alive6_any
  obtain ⟨n, hn⟩ : ∃ n, Hid (n = l.length) := ⟨_, rfl⟩
  rw [← hn.out] at HI HCl hlen ⊢
  go_enter Try.func3, Try.ntmps3
  go_wp2_with (go_at_call 5; refine (Hal.out _).mono ?_; rintro e W0 ⟨rfl, hW0⟩)
  have hA := own_one (xs := encC (a, b, c, d)) hW0
  have hb0 := below_one hW0
  clear hW0
  have HS0 : Hid (∀ w', Below W0.heap.size W0 w' → One W0 w.heap.size a b c d w') := fun w' hb => one_of hA hb
  have hAlt := hA.lt
  have HN : Hid (∀ w1 w2, Below W0.heap.size w1 w2 → One W0 w.heap.size a b c d w1 → One W0 w.heap.size a b c d w2) := fun w1 w2 hb hS => HS0.out _ (hS.2.trans hb)
  have HB : Hid (∀ w2 o, o = Obj.cells #[.int .i64 a, .int .i64 b, .int .i64 c, .int .i64 d] 26 → Below (W0.alloc o).drew.heap.size (W0.alloc o).drew w2 → ∀ j u, (encC (a, b, c, d))[j]? = some u → w2.cell? (Addr.add ⟨W0.heap.size, 0, none⟩ j) = some u) := by
    intro w2 o ho hb j u hj
    subst ho
    rw [add_none, Nat.zero_add]
    have h0 : OwnRow (W0.alloc (.cells #[.int .i64 a, .int .i64 b, .int .i64 c, .int .i64 d] 26)).drew W0.heap.size 26 (encC (a, b, c, d)) := heap_alloc_new W0 _
    rw [(h0.below hb h0.lt).cell, hj]
  have hl1 : (l.length + 1) * 32 ≤ 140737488355328 := by have := hn.out; omega
  have hl2 : l.length + 1 ≤ maxLen := by have := hn.out; unfold maxLen; omega
  have HL1 : Hid ((l.length + 1) * 32 ≤ 140737488355328) := hl1
  have HL2 : Hid (l.length + 1 ≤ maxLen) := hl2
  have HA : Hid (OwnRow W0 w.heap.size 26 (encC (a, b, c, d))) := hA
  have HG : Hid ((b < 0 ∨ c = 0) → (hr (play l) (a, b, c, d)).any (fun x => tou (a, b, c, d) x) = false) := fun h => by rw [hr_gone _ _ h]; exact fgt_none _ _
  have HQ : Hid (¬ (b < 0 ∨ c = 0) → ∃ q, hr (play l) (a, b, c, d) = q ++ [(a, b, c, d)]) := fun h => hr_last _ _ h
  have hR8 : (hr (play l) (a, b, c, d)).length ≤ 8 := hr_le (play_le l) _
  generalize hr (play l) (a, b, c, d) = R at HPl HG HQ hR8
  clear hA hl1 hl2
  go_region_held3 (fun w' => (w'.cell? ⟨w.heap.size, 0, none⟩ = some (.int .i64 a) ∧ w'.cell? ⟨w.heap.size, 1, none⟩ = some (.int .i64 b) ∧ w'.cell? ⟨w.heap.size, 2, none⟩ = some (.int .i64 c) ∧ w'.cell? ⟨w.heap.size, 3, none⟩ = some (.int .i64 d)) ∧ Below W0.heap.size W0 w')
    (first | exact HS0.out _ (Below.refl _ _).drew | exact HS0.out _ ((Below.refl _ _).alloc (Nat.le_refl _) _).drew | exact HS0.out _ ((Below.refl _ _).drew.trans hw2) | exact HS0.out _ (((Below.refl _ _).alloc (Nat.le_refl _) _).drew.trans (hw2.mono (by simp))) | (refine HN.out _ _ (by assumption) ?_; assumption) | (refine HN.out _ _ ((Below.refl _ _).alloc (by first | exact hbs2 | omega) _) ?_; assumption) | (refine HN.out _ _ (Below.mono (by assumption) (by first | exact hbs3 | omega)) ?_; assumption))
    (first
      | (go_at_call 7; refine (HCl.out _ (by first | exact hb0.drew | exact (hb0.alloc hb0.size _).drew)).mono ?_; rintro e w2 ⟨v2, rfl, ho2, hw2⟩; have hbs2 : W0.heap.size ≤ w2.heap.size := (by have := hw2.size; simp at this; omega))
      | (first
          | (refine step_append_rec shC (by rfl) _ _ 22 26 i0 _ 32 (by rfl) Try.underlying22 hi0 hz0 hz1 hz2 rfl W0.heap.size v2 l (by rfl) w2 (ho2.mono (by simp)) ((Below.refl _ _).alloc (Nat.le_refl _) _) hbs2 HL1.out HL2.out (a, b, c, d) _ 1 (by rfl) (box_add w2 a b c d _) ?_; intro v3 w3 hown3 hb3; have hbs3 : W0.heap.size ≤ w3.heap.size := (by have := hb3.size; simp at this; omega))
          | (refine step_append_rec shC (by rfl) _ _ 22 26 i0 _ 32 (by rfl) Try.underlying22 hi0 hz0 hz1 hz2 rfl W0.heap.size v2 l (by rfl) w2 (ho2.mono (by simp)) (Below.refl _ _) hbs2 HL1.out HL2.out (a, b, c, d) _ 1 (by rfl) (HB.out w2 _ rfl hw2) ?_; intro v3 w3 hown3 hb3; have hbs3 : W0.heap.size ≤ w3.heap.size := (by have := hb3.size; omega)))
      | (go_at_call 6; refine (HPl.out _ _ _ hown3).mono ?_; rintro e w4 ⟨g, rfl, hr4, hw4⟩))
  all_goals
    rename_i hH
    have hbb := hH.2
    obtain ⟨⟨c0, c1, c2, c3⟩, -⟩ := hH
    have hfin : Hid (∀ w5, Below w4.heap.size w4 w5 → Below w.heap.size w w5) := fun w5 h5 => (hb0.trans (hbb.mono hb0.size)).trans (h5.mono (Nat.le_trans hb0.size hbb.size))
    have HCt : Hid (Calls Try.prog 9 #[.slice (some ⟨g, 0, none⟩) R.length 9, .func (.func 8) #[] #[.pointer (some ⟨w.heap.size, 0, none⟩)]] w4 fun e w' => e = .returned (.bool (R.any (fun x => tou (a, b, c, d) x))) ∧ Below w4.heap.size w4 w') :=
      ccontains_any _ _ _ R w4 (hr4.recs (by omega)) (fun w1 x y z u hb1 => mine_any w.heap.size a b c d x y z u w1 ((HA.out.below hbb HA.out.lt).below hb1 (HA.out.below hbb HA.out.lt).lt))
    by_cases h1 : b < 0
    · rw [HG.out (Or.inl h1)] at HCt
      have hd1 : decide (b < 0) = true := by simpa using h1
      go_wp2_with (go_at_call 9; refine (HCt.out).mono ?_; rintro e w5 ⟨rfl, hw5⟩)
      go_ret
      exact ⟨rfl, hfin.out _ hw5⟩
    · have hd1 : decide (b < 0) = false := by simpa using h1
      by_cases h2 : c = 0
      · rw [HG.out (Or.inr h2)] at HCt
        have hd2 : (c == 0) = true := by simpa using h2
        clear h2
        go_wp2_with (go_at_call 9; refine (HCt.out).mono ?_; rintro e w5 ⟨rfl, hw5⟩)
        go_ret
        exact ⟨rfl, hfin.out _ hw5⟩
      · obtain ⟨q, hq⟩ := HQ.out (by omega)
        have hd2 : (c == 0) = false := by simpa using h2
        have hj : R.length = q.length + 1 := by rw [hq]; simp
        have hrec := hr4.recs (B := 8) hR8
        obtain ⟨_, _, hv, -, -, hcc⟩ := hrec
        obtain ⟨g', off, hg', hcells⟩ := hcc (by omega)
        simp only [Value.slice.injEq] at hv
        obtain ⟨rfl, -, -⟩ := hv
        simp only [Option.some.injEq, Addr.mk.injEq, and_true] at hg'
        obtain ⟨rfl, rfl⟩ := hg'
        obtain ⟨hk0, hk1, hk2, hk3⟩ := cell4 hcells (Below.refl _ _) q.length (by omega) (x := a) (y := b) (z := c) (u := d) (by rw [hq, List.getD_eq_getElem?_getD]; simp)
        rw [Nat.zero_add] at hk0 hk1 hk2 hk3
        obtain ⟨j, hjj⟩ : ∃ j, j = q.length := ⟨_, rfl⟩
        rw [← hjj] at hk0 hk1 hk2 hk3 hj
        rw [hj] at hR8 ⊢
        clear hcells hcc hq hjj HQ HG HCt hr4 HPl
        have hq := eql_cached a b c d a b c d
        have hg := eqGuard_cached
        simp only [decide_true] at hq
        go_wp2_with fail
        refine wp_region_calm (by kernel_rfl) (by kernel_rfl) (fun W hW _ => ?_)
        have hbW : Below w4.heap.size w4 W := by rw [hW]; exact Below.refl _ _
        have hc0 : ∀ u : Wd W, u.w.cell? ⟨g, j * 4, none⟩ = some (.int .i64 a) := fun u => u.cell ((hbW.cell (cell_lt hk0)).trans hk0)
        have hc1 : ∀ u : Wd W, u.w.cell? ⟨g, j * 4 + 1, none⟩ = some (.int .i64 b) := fun u => u.cell ((hbW.cell (cell_lt hk1)).trans hk1)
        have hc2 : ∀ u : Wd W, u.w.cell? ⟨g, j * 4 + 2, none⟩ = some (.int .i64 c) := fun u => u.cell ((hbW.cell (cell_lt hk2)).trans hk2)
        have hc3 : ∀ u : Wd W, u.w.cell? ⟨g, j * 4 + 3, none⟩ = some (.int .i64 d) := fun u => u.cell ((hbW.cell (cell_lt hk3)).trans hk3)
        have hc4 : ∀ u : Wd W, u.w.cell? ⟨w.heap.size, 0, none⟩ = some (.int .i64 a) := fun u => u.cell ((hbW.cell (cell_lt c0)).trans c0)
        have hc5 : ∀ u : Wd W, u.w.cell? ⟨w.heap.size, 1, none⟩ = some (.int .i64 b) := fun u => u.cell ((hbW.cell (cell_lt c1)).trans c1)
        have hc6 : ∀ u : Wd W, u.w.cell? ⟨w.heap.size, 2, none⟩ = some (.int .i64 c) := fun u => u.cell ((hbW.cell (cell_lt c2)).trans c2)
        have hc7 : ∀ u : Wd W, u.w.cell? ⟨w.heap.size, 3, none⟩ = some (.int .i64 d) := fun u => u.cell ((hbW.cell (cell_lt c3)).trans c3)
        clear hW
        repeat (go_big_quiet_step (fail))
        refine wpQuiet_nil ?_
        rintro w2 ⟨⟨_, hw2⟩, rfl⟩
        have hb2 : Below w4.heap.size w4 w2 := hbW.trans (hw2.mono hbW.size)
        go_wp2
        go_ret
        exact ⟨rfl, hfin.out _ hb2⟩

end Go.Proofs.Ytgkdbcafijhdiad

/- The walk of FlatSealed: what is sealed stays. -/
import Derived.Test.YtbiipnojhjhejaaFlatHas
namespace Go.Proofs.Ytbiipnojhjhejaa
set_option maxRecDepth 100000
open Go.RowKit
set_option linter.unusedSimpArgs false
set_option linter.unusedVariables false

theorem two_cells (W : World) (s : Nat) (hs : s = W.heap.size) (x y : Value) (t : TypeId) : (W.alloc (.cells #[x, y] t)).cell? ⟨s, 0, none⟩ = some x ∧ (W.alloc (.cells #[x, y] t)).cell? ⟨s, 1, none⟩ = some y := by
  subst hs
  have h : OwnRow (W.alloc (.cells #[x, y] t)) W.heap.size t [x, y] := heap_alloc_new W _
  exact ⟨by rw [h.cell]; rfl, by rw [h.cell]; rfl⟩

set_option maxRecDepth 100000 in
set_option maxHeartbeats 3200000 in
theorem flatSealed_walk (v0 : Value) (l0 : List O12) (v1 : Value) (l1 : List O12) (proc page : Int) (w : World) (h0 : IsRecs encO 1466015503658 w v0 l0) (hwf0 : ∀ x ∈ l0, wfO x) (h1 : IsRecs encO 1466015503658 w v1 l1) (hwf1 : ∀ x ∈ l1, wfO x) (_hp : (Lit.int .i64 proc).wf = true) (_hq : (Lit.int .i64 page).wf = true) :
    Calls Try.prog 6 #[v0, v1, .int .i64 proc, .int .i64 page] w fun e w' => e = .returned (.bool true) ∧ Below w.heap.size w w' := by
  have hlen0 := h0.len
  have hlen1 := h1.len
  obtain ⟨a0, c0, rfl⟩ := h0.form
  obtain ⟨a1, c1, rfl⟩ := h1.form
  have HHAS : Hid (∀ w1, Below w.heap.size w w1 → Calls Try.prog 15 #[.slice a1 l1.length c1, .func (.func 16) #[] #[]] w1 fun e w' => e = .returned (.bool (l1.any isX)) ∧ Below w1.heap.size w1 w') := fun w1 hb => ocontainsF_any _ l1 w1 (h1.below hb)
  have HRUN : Hid (∀ w1, Below w.heap.size w w1 → Calls Try.prog 9 #[.slice a0 l0.length c0] w1 fun e w' => ∃ a2 c2 X b2, e = .returned (.tuple #[.slice a2 l0.length c2, .agg X]) ∧ Below w1.heap.size w1 w' ∧ ShowX b2 w' (run14 newW l0).1 X) := fun w1 hb => (run14_showb _ l0 _ w1 (h0.below hb) (by decide) (fun o ho => ⟨(hwf0 o ho).count, (hwf0 o ho).size⟩)).mono fun e w' ⟨a, c, X, b4, h1, h2, h3, h4⟩ => ⟨a, c, X, b4, h1, h3, h4⟩
  have HRU2 : Hid (∀ base w1 v1, OwnR 24 12 encO base w1 v1 (l0 ++ l1) → Calls Try.prog 9 #[v1] w1 fun e w' => ∃ a2 n2 c2 X b2, e = .returned (.tuple #[.slice a2 n2 c2, .agg X]) ∧ Below w1.heap.size w1 w' ∧ ShowX b2 w' (run14 newW (l0 ++ l1)).1 X) := fun base w1 v1 h => (run14_showb _ (l0 ++ l1) 2932031007400 w1 (h.recs (by simp; omega)) (by decide) (fun x hx => by
        rcases List.mem_append.1 hx with hx | hx
        · exact ⟨(hwf0 x hx).count, (hwf0 x hx).size⟩
        · exact ⟨(hwf1 x hx).count, (hwf1 x hx).size⟩)).mono fun e w' ⟨a, c, X, b4, h1, h2, h3, h4⟩ => ⟨a, _, c, X, b4, h1, h3, h4⟩
  have HCC : Hid (∀ (W : World) (s : Nat) (t : TypeId), s = W.heap.size → Below w.heap.size w W → Calls Try.prog 17 #[.slice (some ⟨s, 0, none⟩) 2 2] (W.alloc (.cells #[.slice a0 l0.length c0, .slice a1 l1.length c1] t)) fun e w' => ∃ v', e = .returned v' ∧ OwnR 24 12 encO w.heap.size w' v' (l0 ++ l1) ∧ Below W.heap.size W w') := fun W s t hs hb => by
    have hb2 : Below W.heap.size W (W.alloc (.cells #[.slice a0 l0.length c0, .slice a1 l1.length c1] t)) := (Below.refl _ _).alloc (Nat.le_refl _) _
    have hb3 := hb.trans (hb2.mono hb.size)
    obtain ⟨k0, k1⟩ := two_cells W s hs (.slice a0 l0.length c0) (.slice a1 l1.length c1) t
    refine (oconcat_any s 2 a0 a1 c0 c1 _ _ l0 l1 rfl rfl _ k0 k1 (h0.below hb3) (h1.below hb3)).mono ?_
    rintro e w' ⟨v', he, ho, hb4⟩
    exact ⟨v', he, ho.mono hb3.size, hb2.trans (hb4.mono hb2.size)⟩
  have hI : Inv (run14 newW l0).1 := inv_run inv_new
  have hI2 : Inv (run14 newW (l0 ++ l1)).1 := inv_run inv_new
  have HI : Hid (Inv (run14 newW l0).1 ∧ Inv (run14 newW (l0 ++ l1)).1) := ⟨hI, hI2⟩
  have HSE : Hid (l1.any isX = false → ∀ (i : Nat) q a, atR ((run14 newW l0).1 i).L q = some a → a.2.2.2 = true → atR ((run14 newW (l0 ++ l1)).1 i).L q = some a) := fun hx i q a ha hs => by
    rw [run14_append]
    refine run_sealed hI (fun o ho => ?_) ha hs
    rw [List.any_eq_false] at hx
    have := hx o ho
    simpa [isX] using this
  generalize (run14 newW (l0 ++ l1)).1 = S' at *
  generalize (run14 newW l0).1 = S at *
  clear hI hI2 h0 h1 hwf0 hwf1
  obtain ⟨n0, hn0⟩ : ∃ n, n = l0.length := ⟨_, rfl⟩
  obtain ⟨n1, hn1⟩ : ∃ n, n = l1.length := ⟨_, rfl⟩
  rw [← hn0] at HRUN HCC hlen0 ⊢
  rw [← hn1] at HHAS HCC hlen1 ⊢
  clear hn0 hn1
  generalize l1.any isX = EX at *
  by_cases p0 : proc < 0
  · clear HSE HI HHAS HRUN HRU2 HCC
    have p0d : decide (proc < 0) = true := by simpa using p0
    go_enter Try.func6, Try.ntmps6
    go_wp2_with (go_at_call 8; refine (alive14_any _).mono ?_; rintro e w1 ⟨rfl, hb1⟩)
    go_ret
    exact ⟨rfl, hb1⟩
  have p0d : decide (proc < 0) = false := by simpa using p0
  by_cases p4 : 4 ≤ proc
  · clear HSE HI HHAS HRUN HRU2 HCC
    have p4d : decide (proc ≥ 4) = true := by simpa using p4
    go_enter Try.func6, Try.ntmps6
    go_wp2_with (go_at_call 8; refine (alive14_any _).mono ?_; rintro e w1 ⟨rfl, hb1⟩)
    go_ret
    exact ⟨rfl, hb1⟩
  have p4d : decide (proc ≥ 4) = false := by simpa using p4
  cases EX
  case true =>
    clear HSE HI HRUN HRU2 HCC
    go_enter Try.func6, Try.ntmps6
    go_wp2_with (first
      | (go_at_call 15; refine (HHAS.out _ hb1).mono ?_; rintro e w2 ⟨rfl, hb2⟩)
      | (go_at_call 8; refine (alive14_any _).mono ?_; rintro e w1 ⟨rfl, hb1⟩))
    go_ret
    exact ⟨rfl, hb1.trans (hb2.mono hb1.size)⟩
  obtain ⟨p, rfl⟩ : ∃ p : Nat, proc = p := ⟨proc.toNat, by omega⟩
  have hp4 : p < 4 := by omega
  have HSE2 : Hid _ := HSE.out (by first | rfl | trivial) p page
  clear HSE
  go_enter Try.func6, Try.ntmps6
  go_wp2_with (first
    | (go_at_call 15; refine (HHAS.out _ hb1).mono ?_; rintro e w2 ⟨rfl, hb2⟩; have hb2' := hb1.trans (hb2.mono hb1.size))
    | (go_at_call 8; refine (alive14_any _).mono ?_; rintro e w1 ⟨rfl, hb1⟩))
  refine (HRUN.out _ hb2').mono ?_
  rintro e w3 ⟨a3, c3, X, bX, rfl, hb3', hsX⟩
  have HX : Hid ((Try.prog.info? 34).map (·.size) = some X.size ∧ X.size = 44 ∧ X.all (·.oneCell') = true) := show_facts hsX
  have hb3 := hb2'.trans (hb3'.mono hb2'.size)
  obtain ⟨W0, hA⟩ : ∃ wA, wA = w3.alloc (.cells X 34) := ⟨_, rfl⟩
  have hgX : W0.heap[w3.heap.size]? = some (.cells X 34 (0, 0)) := by rw [hA]; exact heap_alloc_new w3 _
  have hbX : Below w.heap.size w W0 := by rw [hA]; exact hb3.alloc hb3.size _
  have HSX : Hid (ShowX bX W0 S X) := by rw [hA]; exact hsX.below ((Below.refl _ _).alloc (Nat.le_refl _) _)
  have HA0 : Hid (w3.alloc (.cells X 34) = W0) := hA.symm
  clear hA hsX hb3
  go_wp2_with (first
    | (refine wpList_store_row rfl 34 (.tmp 10) _ rfl w3.heap.size X rfl rfl 34 _ (heap_alloc_new w3 _) HX.out.1 (by rw [HX.out.2.1]; rfl) HX.out.2.2 ?_; rw [World.setRow_alloc_new, HA0.out])
    | (go_at_call 17; refine (HCC.out W0 _ _ (by first | rfl | simp) hbX).mono ?_; rintro e w4 ⟨v4, rfl, ho4, hb4⟩))
  refine (HRU2.out _ _ _ ho4).mono ?_
  rintro e w5 ⟨a5, n5, c5, Y, bY, rfl, hb5, hsY⟩
  have HY : Hid ((Try.prog.info? 34).map (·.size) = some Y.size ∧ Y.size = 44 ∧ Y.all (·.oneCell') = true) := show_facts hsY
  obtain ⟨W1, hA⟩ : ∃ wA, wA = w5.alloc (.cells Y 34) := ⟨_, rfl⟩
  have hgY : W1.heap[w5.heap.size]? = some (.cells Y 34 (0, 0)) := by rw [hA]; exact heap_alloc_new w5 _
  have hb51 : Below w5.heap.size w5 W1 := by rw [hA]; exact (Below.refl _ _).alloc (Nat.le_refl _) _
  have hbW : Below W0.heap.size W0 W1 := (hb4.trans (hb5.mono hb4.size)).trans (hb51.mono (Nat.le_trans hb4.size hb5.size))
  have HA : Hid (w5.alloc (.cells Y 34) = W1) := hA.symm
  have hbw : Below w.heap.size w W1 := hbX.trans (hbW.mono hbX.size)
  have hgX1 : W1.heap[w3.heap.size]? = some (.cells X 34 (0, 0)) := (hbW.block _ (Array.getElem?_eq_some_iff.1 hgX).1).trans hgX
  obtain ⟨ra, rn, rc, pa, pn, pc, hs1, hc1⟩ := (HSX.out.below hbW).at hp4
  obtain ⟨rb, rm, rd, qa, qn, qc, hs2, hc2⟩ := (hsY.below hb51).at hp4
  have cx := hc1 w3.heap.size W1 hgX1 1 _ rfl
  have cy := hc2 w5.heap.size W1 hgY 1 _ rfl
  have hlx := cell_lt cx
  have hly := cell_lt cy
  simp only at hlx hly
  have HFX : Hid (∀ w1, Below W1.heap.size W1 w1 → Calls Try.prog 18 #[.slice ra rn rc, .int .i64 page] w1 fun e w' => e = .returned (attO (atR (S p).L page)) ∧ Below w1.heap.size w1 w') := fun w1 hb => find_any _ _ page 64 w1 ((hs1.regs.below hb).recs (good_len (HI.out.1.1 p).good)) (by decide)
  have HFY : Hid (∀ w1, Below W1.heap.size W1 w1 → Calls Try.prog 18 #[.slice rb rm rd, .int .i64 page] w1 fun e w' => e = .returned (attO (atR (S' p).L page)) ∧ Below w1.heap.size w1 w') := fun w1 hb => find_any _ _ page 64 w1 ((hs2.regs.below hb).recs (good_len (HI.out.2.1 p).good)) (by decide)
  clear hc1 hc2 hs1 hs2 hgX1 hgY hb51 hA hsY hb5 hb4 ho4 HRUN HRU2 HCC HHAS HI HSX hgX hb2' hb1 hb2
  have hlt5 : w5.heap.size < W1.heap.size := hly
  rcases hfa : atR (S p).L page with _ | ⟨xr, xk, xt, xs⟩
  · rw [hfa] at HFX
    obtain ⟨q1, q2, q3, q4, q5, hq⟩ : ∃ q1 q2 q3 q4 q5, attO (atR (S' p).L page) = attV q1 q2 q3 q4 q5 := ⟨_, _, _, _, _, rfl⟩
    rw [hq] at HFY
    clear hq hfa HSE2
    go_wp2_with (first
      | (refine wpList_store_row rfl 34 (.tmp 12) _ rfl w5.heap.size Y rfl rfl 34 _ (heap_alloc_new w5 _) HY.out.1 (by rw [HY.out.2.1]; rfl) HY.out.2.2 ?_; rw [World.setRow_alloc_new, HA.out])
      | (go_at_call 18; refine (HFY.out _ hb7').mono ?_; rintro e w8 ⟨rfl, hb8⟩; have hb8' : Below w.heap.size w w8 := hbw.trans ((hb7'.trans (hb8.mono hb7'.size)).mono hbw.size); have hs8 : w7.heap.size < w8.heap.size := (by have := hb8.size; simp at this; omega); have e0 := (own_one (xs := [.int .i64 0, .int .i64 0, .bool false, .bool false]) hb8).quad)
      | (go_at_call 18; refine (HFX.out _ (Below.refl _ _)).mono ?_; rintro e w7 ⟨rfl, hb7⟩; have cy7 := (hb7.cell (cell_lt cy)).trans cy; have hs7 : w5.heap.size < w7.heap.size := (by have := hb7.size; omega); have hb7' : Below W1.heap.size W1 (w7.alloc (.cells #[.int .i64 0, .int .i64 0, .bool false, .bool false] 48)) := hb7.alloc hb7.size _))
    go_ret
    exact ⟨rfl, hb8'.alloc hb8'.size _⟩
  · cases xs
    · rw [hfa] at HFX
      obtain ⟨q1, q2, q3, q4, q5, hq⟩ : ∃ q1 q2 q3 q4 q5, attO (atR (S' p).L page) = attV q1 q2 q3 q4 q5 := ⟨_, _, _, _, _, rfl⟩
      rw [hq] at HFY
      clear hq hfa HSE2
      go_wp2_with (first
        | (refine wpList_store_row rfl 34 (.tmp 12) _ rfl w5.heap.size Y rfl rfl 34 _ (heap_alloc_new w5 _) HY.out.1 (by rw [HY.out.2.1]; rfl) HY.out.2.2 ?_; rw [World.setRow_alloc_new, HA.out])
        | (go_at_call 18; refine (HFY.out _ hb7').mono ?_; rintro e w8 ⟨rfl, hb8⟩; have hb8' : Below w.heap.size w w8 := hbw.trans ((hb7'.trans (hb8.mono hb7'.size)).mono hbw.size); have hs8 : w7.heap.size < w8.heap.size := (by have := hb8.size; simp at this; omega); have e0 := (own_one (xs := [.int .i64 xr, .int .i64 xk, .bool xt, .bool false]) hb8).quad)
        | (go_at_call 18; refine (HFX.out _ (Below.refl _ _)).mono ?_; rintro e w7 ⟨rfl, hb7⟩; have cy7 := (hb7.cell (cell_lt cy)).trans cy; have hs7 : w5.heap.size < w7.heap.size := (by have := hb7.size; omega); have hb7' : Below W1.heap.size W1 (w7.alloc (.cells #[.int .i64 xr, .int .i64 xk, .bool xt, .bool false] 48)) := hb7.alloc hb7.size _))
      go_ret
      exact ⟨rfl, hb8'.alloc hb8'.size _⟩
    · have hfb := HSE2.out (xr, xk, xt, true) hfa rfl
      rw [hfa] at HFX
      rw [hfb] at HFY
      clear hfa hfb HSE2
      have hqe : ∀ w : World, (binOp .eql 48 (.agg #[.int .i64 xr, .int .i64 xk, .bool xt, .bool true]) (.agg #[.int .i64 xr, .int .i64 xk, .bool xt, .bool true])).run Try.prog w = .ok (.bool true) w := fun w => by rw [eql_attr]; simp
      go_wp2_with (first
        | (refine wpList_store_row rfl 34 (.tmp 12) _ rfl w5.heap.size Y rfl rfl 34 _ (heap_alloc_new w5 _) HY.out.1 (by rw [HY.out.2.1]; rfl) HY.out.2.2 ?_; rw [World.setRow_alloc_new, HA.out])
        | (go_at_call 18; refine (HFY.out _ hb7').mono ?_; rintro e w8 ⟨rfl, hb8⟩; have hb8' : Below w.heap.size w w8 := hbw.trans ((hb7'.trans (hb8.mono hb7'.size)).mono hbw.size); have hs8 : w7.heap.size < w8.heap.size := (by have := hb8.size; simp at this; omega); have e0 := (own_one (xs := [.int .i64 xr, .int .i64 xk, .bool xt, .bool true]) hb8).quad)
        | (go_at_call 18; refine (HFX.out _ (Below.refl _ _)).mono ?_; rintro e w7 ⟨rfl, hb7⟩; have cy7 := (hb7.cell (cell_lt cy)).trans cy; have hs7 : w5.heap.size < w7.heap.size := (by have := hb7.size; omega); have hb7' : Below W1.heap.size W1 (w7.alloc (.cells #[.int .i64 xr, .int .i64 xk, .bool xt, .bool true] 48)) := hb7.alloc hb7.size _))
      go_ret
      exact ⟨rfl, hb8'.alloc hb8'.size _⟩


end Go.Proofs.Ytbiipnojhjhejaa

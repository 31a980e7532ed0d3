/- The contract of slices.DeleteFunc at a row of api.Cached that the call itself has made, the test framewardenkeep.TlbOther's. -/
import Derived.Test.YtgkdbcafijhdiadTlb7
import Derived.Test.YtgkdbcafijhdiadTlbIndexO
namespace Go.Proofs.Ytgkdbcafijhdiad
open Go.RowKit
set_option linter.unusedSimpArgs false
set_option linter.unusedVariables false

/-- Whether it is another process's. -/
def oth (pr : Int) (k : C4) : Bool := !(k.1 == pr)

set_option maxHeartbeats 400000 in
theorem other_any (B : Nat) (pr x y z u : Int) (w : World) (hc : w.cell? ⟨B, 0, none⟩ = some (.int .i64 pr)) :
    Calls Try.prog 11 #[.agg #[.int .i64 x, .int .i64 y, .int .i64 z, .int .i64 u], .pointer (some ⟨B, 0, none⟩)] w fun e w' => e = .returned (.bool (oth pr (x, y, z, u))) ∧ Below w.heap.size w w' := by
  have hlt := cell_lt hc
  go_enter Try.func11, Try.ntmps11
  go_wp2
  go_ret
  exact ⟨ret_bool rfl, (Below.refl _ _).alloc (Nat.le_refl _) _⟩

/-- What is left of the first k. -/
def keepP (p : C4 → Bool) (l : List C4) : List C4 := l.filter (fun k => !p k)

theorem keepP_succ (p : C4 → Bool) (l : List C4) (k : Nat) (hk : k < l.length) : keepP p (l.take (k + 1)) = keepP p (l.take k) ++ (if p (l.getD k (0, 0, 0, 0)) then [] else [l.getD k (0, 0, 0, 0)]) := by
  unfold keepP
  rw [List.take_add_one, List.getElem?_eq_getElem hk, List.getD_eq_getElem?_getD, List.getElem?_eq_getElem hk, List.filter_append]
  congr 1
  simp only [Option.toList, Option.getD_some]
  cases h : p l[k] <;> simp [h]

theorem keepP_none {p : C4 → Bool} {l : List C4} (h : l.any p = false) : keepP p l = l := by
  unfold keepP
  rw [List.filter_eq_self]
  intro x hx
  rw [List.any_eq_false] at h
  simpa using h x hx

theorem idxP_some {p : C4 → Bool} {l : List C4} (h : l.any p = true) : ∃ i : Nat, idxP p l = i ∧ i < l.length ∧ keepP p (l.take i) = l.take i ∧ keepP p (l.take (i + 1)) = l.take i := by
  have hlt : l.findIdx p < l.length := List.findIdx_lt_length_of_exists (by simpa using h)
  have hno : (l.take (l.findIdx p)).any p = false := by
    rw [List.any_eq_false]
    intro x hx
    obtain ⟨j, hj, rfl⟩ := List.mem_take_iff_getElem.1 hx
    have := List.not_of_lt_findIdx (p := p) (xs := l) (i := j) (by omega)
    simpa using this
  have hp : p (l.getD (l.findIdx p) (0, 0, 0, 0)) = true := by
    rw [List.getD_eq_getElem?_getD, List.getElem?_eq_getElem hlt]
    exact List.findIdx_getElem
  refine ⟨l.findIdx p, by unfold idxP; rw [if_pos h], hlt, keepP_none hno, ?_⟩
  rw [keepP_succ p l _ hlt, if_pos hp, List.append_nil, keepP_none hno]

theorem set4 {w : World} {g : Nat} {e : TypeId} {xs : List Value} {o : Nat} {x y z u : Int} (h : OwnRow w g e xs) (hl : o + 4 ≤ xs.length) :
    OwnRow ((((w.setCell ⟨g, o, none⟩ (.int .i64 x)).setCell ⟨g, o + 1, none⟩ (.int .i64 y)).setCell ⟨g, o + 2, none⟩ (.int .i64 z)).setCell ⟨g, o + 3, none⟩ (.int .i64 u)) g e (spl xs o (encC (x, y, z, u))) :=
  OwnRow.setCells (encC (x, y, z, u)) o w xs h hl

theorem zeros_one (n : Nat) : ∀ v ∈ (Builtin.zeroCells (Value.agg #[.int .i64 0, .int .i64 0, .int .i64 0, .int .i64 0]).cells n).toList, v.oneCell' = true := by
  intro v hv
  simp only [Builtin.zeroCells, Array.toList_map, List.mem_map] at hv
  obtain ⟨i, -, rfl⟩ := hv
  have h4 : i % (Value.agg #[.int .i64 0, .int .i64 0, .int .i64 0, .int .i64 0]).cells.size < 4 := Nat.mod_lt _ (by decide)
  generalize i % (Value.agg #[.int .i64 0, .int .i64 0, .int .i64 0, .int .i64 0]).cells.size = k at h4
  match k, h4 with
  | 0, _ => rfl
  | 1, _ => rfl
  | 2, _ => rfl
  | 3, _ => rfl

theorem zeros_len (n : Nat) : (Builtin.zeroCells (Value.agg #[.int .i64 0, .int .i64 0, .int .i64 0, .int .i64 0]).cells n).toList.length = n * 4 := by
  rw [Array.length_toList, size_zeroCells]
  rfl

set_option maxHeartbeats 1600000 in
theorem cdelFunc_any (base g cap B : Nat) (pr : Int) (l : List C4) (w : World) (hb : base ≤ g) (h : RowC w g cap l) (hcap : cap ≤ 1000000) (hB : B ≠ g) (hBc : w.cell? ⟨B, 0, none⟩ = some (.int .i64 pr)) :
    Calls Try.prog 10 #[.slice (some ⟨g, 0, none⟩) l.length cap, .func (.func 11) #[] #[.pointer (some ⟨B, 0, none⟩)]] w fun e w' => e = .returned (.slice (some ⟨g, 0, none⟩) (keepP (oth pr) l).length cap) ∧ RowC w' g cap (keepP (oth pr) l) ∧ Below base w w' ∧ Spare g w w' := by
  obtain ⟨i0, hi0, hz0, hz1, hz2⟩ := info_parts info_cached
  have hlc0 : l.length ≤ cap := by obtain ⟨_, _, _, h, _⟩ := h; exact h
  have HIx : Hid (Calls Try.prog 14 #[.slice (some ⟨g, 0, none⟩) l.length cap, .func (.func 11) #[] #[.pointer (some ⟨B, 0, none⟩)]] w fun e w' => e = .returned (.int .i64 (idxP (oth pr) l)) ∧ Below w.heap.size w w') :=
    cindex_any _ _ _ l w (h.recs (by omega)) (fun w1 x y z u hb1 => other_any B pr x y z u w1 ((hb1.cell (cell_lt hBc)).trans hBc))
  cases hany : l.any (oth pr) with
  | false =>
    rw [idxP_none hany] at HIx
    rw [keepP_none hany]
    have H : Hid (RowC w g cap l) := h
    clear h hany
    go_enter Try.func10, Try.ntmps10
    go_wp2_with (go_at_call 14; refine (HIx.out).mono ?_; rintro e w2 ⟨rfl, hw2⟩)
    go_ret
    have hg := H.out.choose_spec.1.lt
    exact ⟨rfl, H.out.below hw2, hw2.mono (by omega), Spare.of_below hw2⟩
  | true =>
    obtain ⟨i, hix, hil, hk0, hk1⟩ := idxP_some hany
    rw [hix] at HIx
    obtain ⟨xs0, hrow0, hx0, hlc, hxt⟩ := h
    have hgw := hrow0.lt
    obtain ⟨n, hn⟩ : ∃ n, Hid (n = l.length) := ⟨_, rfl⟩
    have HK1 : Hid (keepP (oth pr) (l.take (i + 1)) = l.take i) := hk1
    rw [← hn.out] at hil hlc hxt HIx ⊢
    clear hany hix hk0 hk1 hlc0
    have hne : ((i : Int) == -1) = false := by rw [beq_eq_false_iff_ne]; omega
    go_enter Try.func10, Try.ntmps10
    go_wp2_with (go_at_call 14; refine (HIx.out).mono ?_; rintro e w1 ⟨rfl, hw1⟩)
    go_loopw [5, 6] (fun vi vj wr => ∃ k r : Nat, ∃ xs, k ≤ n ∧ vi = .int .i64 r ∧ vj = .int .i64 k ∧ Hid (r = (keepP (oth pr) (l.take k)).length) ∧ r < k ∧ Hid (OwnRow wr g 26 xs) ∧ Hid (xs.length = cap * 4) ∧ Hid (xs.take (r * 4) = flatL encC (keepP (oth pr) (l.take k))) ∧ Hid (xs.drop (k * 4) = xs0.drop (k * 4)) ∧ Below base w wr ∧ Hid (Spare g w wr)) (fun _ j _ => n - (intOf j).toNat)
    case atStart =>
      refine ⟨i + 1, i, xs0, by omega, rfl, by go_num, ?_, by omega, hrow0.below hw1 hgw, hx0, ?_, rfl, hw1.mono (by omega), Spare.of_below hw1⟩
      · show _ = _
        rw [HK1.out, List.length_take, ← hn.out]; omega
      · show _ = _
        rw [HK1.out, ← flatL_take shC, ← hxt, List.take_take, Nat.min_eq_left (by omega)]
    case round =>
      obtain ⟨k, r, xs, hk, rfl, rfl, hr, hrk, hrow, hxl, hxr, hxd, hbel, hsp⟩ := hrel
      by_cases hlt : k < n
      · have hcell : ∀ t u, (encC (l.getD k (0, 0, 0, 0)))[t]? = some u → t < 4 → wr.cell? ⟨g, k * 4 + t, none⟩ = some u := by
          intro t u hu ht
          rw [hrow.out.cell, ← List.getElem?_drop, hxd.out, List.getElem?_drop]
          rw [← flatL_get shC l (0, 0, 0, 0) k t (by rw [← hn.out]; exact hlt) ht, ← hxt, List.getElem?_take_of_lt (by omega)] at hu
          exact hu
        have HF : Hid _ := keepP_succ (oth pr) l k (by rw [← hn.out]; exact hlt)
        obtain ⟨⟨x, y, z, u⟩, hp⟩ : ∃ p, p = l.getD k (0, 0, 0, 0) := ⟨_, rfl⟩
        rw [← hp] at hcell HF
        clear hp
        have hk0 : wr.cell? ⟨g, k * 4, none⟩ = some (.int .i64 x) := hcell 0 _ rfl (by decide)
        have hk1 : wr.cell? ⟨g, k * 4 + 1, none⟩ = some (.int .i64 y) := hcell 1 _ rfl (by decide)
        have hk2 : wr.cell? ⟨g, k * 4 + 2, none⟩ = some (.int .i64 z) := hcell 2 _ rfl (by decide)
        have hk3 : wr.cell? ⟨g, k * 4 + 3, none⟩ = some (.int .i64 u) := hcell 3 _ rfl (by decide)
        clear hcell
        have hszr := hsp.out.1
        obtain ⟨T, hT⟩ : ∃ T, Hid (oth pr (x, y, z, u) = T) := ⟨_, rfl⟩
        have HC : Hid (∀ w1, Below wr.heap.size wr w1 → Calls Try.prog 11 #[.agg #[.int .i64 x, .int .i64 y, .int .i64 z, .int .i64 u], .pointer (some ⟨B, 0, none⟩)] w1 fun e w' => e = .returned (.bool T) ∧ Below w1.heap.size w1 w') := by
          intro w1 hb1
          have hBr := hsp.out.cell hBc (by exact hB)
          have := other_any B pr x y z u w1 ((hb1.cell (cell_lt hBr)).trans hBr)
          rw [hT.out] at this
          exact this
        rw [hT.out] at HF
        cases T with
        | true =>
          go_wp2_with (go_at_call 11; refine (HC.out _ ((Below.refl _ _).alloc (Nat.le_refl _) _)).mono ?_; rintro e w2 ⟨rfl, hw2⟩)
          have hb2 := below_one hw2
          have hF := HF.out
          simp only [if_true, List.append_nil] at hF
          go_roundw
          case rel => exact ⟨k + 1, r, xs, by omega, rfl, by go_num, by show _ = _; rw [hF]; exact hr.out, by omega, hrow.out.below hb2 hrow.out.lt, hxl, by show _ = _; rw [hF]; exact hxr.out, drop_more hxd.out (by omega), hbel.trans (hb2.mono (by omega)), hsp.out.trans (Spare.of_below hb2)⟩
          case measure => simp [intOf]; omega
        | false =>
          have hxl' := hxl.out
          have HT : Hid (∀ w2, Below wr.heap.size wr w2 → ∀ t, t < 4 → (∃ v, w2.cell? ⟨g, r * 4 + t, none⟩ = some v) ∧ w2.frozen? ⟨g, r * 4 + t, none⟩ = false) := by
            intro w2 hb2 t ht
            have hr2 := hrow.out.below hb2 hrow.out.lt
            have hlt2 : r * 4 + t < xs.length := by omega
            exact ⟨⟨_, by rw [hr2.cell]; exact List.getElem?_eq_getElem hlt2⟩, hr2.free _⟩
          go_wp2_with (go_at_call 11; refine (HC.out _ ((Below.refl _ _).alloc (Nat.le_refl _) _)).mono ?_; rintro e w2 ⟨rfl, hw2⟩; obtain ⟨q0, q1, q2, q3⟩ := (own_one (xs := [.int .i64 x, .int .i64 y, .int .i64 z, .int .i64 u]) hw2).quad; obtain ⟨⟨s0, t0⟩, f0⟩ := HT.out w2 (below_one hw2) 0 (by decide); obtain ⟨⟨s1, t1⟩, f1⟩ := HT.out w2 (below_one hw2) 1 (by decide); obtain ⟨⟨s2, t2⟩, f2⟩ := HT.out w2 (below_one hw2) 2 (by decide); obtain ⟨⟨s3, t3⟩, f3⟩ := HT.out w2 (below_one hw2) 3 (by decide); rw [Nat.add_zero] at t0 f0)
          have hb2 := below_one hw2
          have hF := HF.out
          simp only [Bool.false_eq_true, if_false] at hF
          have hl4 : (encC (x, y, z, u)).length = 4 := rfl
          go_roundw
          case rel =>
            have hr2 := hrow.out.below hb2 hrow.out.lt
            refine ⟨k + 1, r + 1, spl xs (r * 4) (encC (x, y, z, u)), by omega, by go_num, by go_num, ?_, by omega, set4 hr2 (by omega), ?_, ?_, ?_, ?_, ?_⟩
            · show _ = _
              rw [hF, List.length_append, ← hr.out]
              rfl
            · show _ = _
              rw [spl_len (by rw [hl4]; omega)]
              exact hxl'
            · show _ = _
              rw [show (r + 1) * 4 = r * 4 + (encC (x, y, z, u)).length by rw [hl4]; omega, spl_take_hi (by omega), hxr.out, hF, flatL_append, flatL_one]
            · show _ = _
              rw [spl_drop_hi (by rw [hl4]; omega) (by omega)]
              exact drop_more hxd.out (by omega)
            · exact below_setCells hb (encC (x, y, z, u)) (r * 4) w _ (hbel.trans (hb2.mono (by omega)))
            · exact (hsp.out.trans (Spare.of_below hb2)).setCells (r * 4) (encC (x, y, z, u))
          case measure => simp [intOf]; omega
      · obtain rfl : k = n := by omega
        have hxl' := hxl.out
        have hzl := zeros_len (k - r)
        have hcl : ∀ ty c, (Builtin.clear_ #[22] ty #[.slice (some ⟨g, r * 4, none⟩) (k - r) c]).run Try.prog wr = .ok (.tuple #[]) (wr.setCells g (r * 4) (Builtin.zeroCells (Value.agg #[.int .i64 0, .int .i64 0, .int .i64 0, .int .i64 0]).cells (k - r)).toList) := fun ty c =>
          run_clear_recs wr 22 26 ty (.agg #[.int .i64 0, .int .i64 0, .int .i64 0, .int .i64 0]) _ g _ (k - r) c (by omega) Try.underlying22 (by simp [Try.zeroValue26]) rfl (zeros_one _)
            (fun j hj => xs_cell' hrow.out (by rw [hzl] at hj; omega)) (fun j hj => hrow.out.free _)
        generalize (Builtin.zeroCells (Value.agg #[.int .i64 0, .int .i64 0, .int .i64 0, .int .i64 0]).cells (k - r)).toList = zs at hzl hcl
        have HZ : Hid (zs.length = (k - r) * 4) := hzl
        have hcr : ¬ (cap = r) := by omega
        have hrn : (r : Int) ≤ (k : Int) := by omega
        have hrc : (r : Int) ≤ (cap : Int) := by omega
        clear hzl
        go_wp2
        go_ret
        have hr' := hr.out
        have hxr' := hxr.out
        have hzl := HZ.out
        rw [hn.out, List.take_length] at hr' hxr'
        refine ⟨by rw [← hr']; rfl, ⟨_, OwnRow.setCells zs (r * 4) wr xs hrow.out (by omega), by rw [spl_len (by omega)]; exact hxl', by omega, ?_⟩, below_setCells hb _ _ w _ hbel, hsp.out.setCells _ _⟩
        rw [← hr', spl_take_lo (by omega), hxr']

end Go.Proofs.Ytgkdbcafijhdiad

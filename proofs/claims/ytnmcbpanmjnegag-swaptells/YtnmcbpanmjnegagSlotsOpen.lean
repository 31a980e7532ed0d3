/- What comes in as a slice of api.Slot reads as a list of slots. -/
import Derived.Test.YtnmcbpanmjnegagSlots
import Derived.Test.YtnmcbpanmjnegagInts
import Derived.Test.YtnmcbpanmjnegagRecsOpen
import Derived.Deep.Strs
namespace Go.Proofs.Ytnmcbpanmjnegag
open Go.ChangeShapes Go.WideShapes Go.ChangeAt Go.RowKit Go.Deep Go.Joins
set_option linter.unusedVariables false
set_option linter.unusedSimpArgs false

theorem cells_slot : Try.prog.cellsOf 42 = 3 := by kernel_rfl
theorem cells_sint : Try.prog.cellsOf 3 = 1 := by kernel_rfl
theorem cells_sbytes : Try.prog.cellsOf 31 = 1 := by kernel_rfl
theorem cells_sints : Try.prog.cellsOf 29 = 1 := by kernel_rfl
theorem bytes_slot : Try.prog.bytesOf 42 = 56 := by kernel_rfl
theorem bytes_su8 : Try.prog.bytesOf 5 = 1 := by kernel_rfl
theorem bytes_sint : Try.prog.bytesOf 3 = 8 := by kernel_rfl

/-- No slot is meant more often than a number can say. -/
def FewRefs (l : List Sl) : Prop := ∀ i, (l.getD i z0).1 ≤ 9223372036854775807

theorem ints_recs {w : World} {v : Value} {zs : List Int} (h : IsInts w v zs) : IsRecs encI 17592186043904 w v zs := by
  obtain ⟨a, cap, rfl, h1, h2, -, h4⟩ := h
  refine ⟨a, cap, rfl, h1, h2, fun hp => ?_⟩
  obtain ⟨b, off, rfl, hc⟩ := h4 hp
  refine ⟨b, off, rfl, fun j u hj => ?_⟩
  have hlt : j < zs.length := by
    have := (List.getElem?_eq_some_iff.1 hj).1
    rw [flatL_len shI] at this
    omega
  have hg := flatL_get shI zs 0 j 0 hlt (by decide)
  rw [Nat.mul_one, Nat.add_zero, hj] at hg
  rw [hc j hlt, hg]
  rfl

theorem weights_mem_all {H : Type} {P : Program} {e : TypeId} {d : DataW H} : ∀ {l : List (DataW H)}, d ∈ l → ∀ n ∈ d.weights P e, n ∈ DataW.weightsAll P e l
  | x :: l, h, n, hn => by
    rw [DataW.weightsAll, List.mem_append]
    rcases List.mem_cons.1 h with rfl | h
    · exact Or.inl hn
    · exact Or.inr (weights_mem_all h n hn)

/-- A slice of bytes within something else. -/
theorem bytes_in {H : Type} {enc : TypeId × Value → H} {w : World} {base n : Nat} {held : Bool} {c : Value} {y : DataW H × List MemPlace}
    (h : DataW.trod enc Try.prog w base (fun _ => true) held n 31 [c] = some y) (hw : ∀ n ∈ y.1.weights Try.prog 31, n ≤ reachBytes) : ∃ (x : H3) (zs : List Int), c = hdr x ∧ IsBytes w (hdr x) zs := by
  rcases open_ints Try.underlying31 Try.underlying5 (by kernel_rfl) h with ⟨hcs, _⟩ | ⟨x, l, cp, zs, hcs, _, hl, hm, hz, hx, hcell, hwz⟩
  · simp only [List.cons.injEq, and_true] at hcs
    exact ⟨(none, 0, 0), [], hcs, isBytes_nil w⟩
  · simp only [List.cons.injEq, and_true] at hcs
    have hz' : zs.length = cp := by simpa using hz
    rw [hx] at hw
    have hre := hw ((zs.take l).length + (zs.drop l).length) (by simp [DataW.weights, Try.underlying31, bytes_su8, lits])
    simp only [List.length_take, List.length_drop, reachBytes] at hre
    exact ⟨(some x, l, cp), zs.take l, hcs, isBytes_row hl (by show cp ≤ _; omega) hz' hcell hwz⟩

/-- A slice of ints within something else. -/
theorem ints_in {H : Type} {enc : TypeId × Value → H} {w : World} {base n : Nat} {held : Bool} {c : Value} {y : DataW H × List MemPlace}
    (h : DataW.trod enc Try.prog w base (fun _ => true) held n 29 [c] = some y) (hw : ∀ n ∈ y.1.weights Try.prog 29, n ≤ reachBytes) : ∃ (x : H3) (zs : List Int), c = hdr x ∧ IsRecs encI 17592186043904 w (hdr x) zs := by
  rcases open_ints Try.underlying29 Try.underlying3 (by kernel_rfl) h with ⟨hcs, _⟩ | ⟨x, l, cp, zs, hcs, _, hl, hm, hz, hx, hcell, hwz⟩
  · simp only [List.cons.injEq, and_true] at hcs
    exact ⟨(none, 0, 0), [], hcs, isRecs_nil _ _ _ _⟩
  · simp only [List.cons.injEq, and_true] at hcs
    have hz' : zs.length = cp := by simpa using hz
    rw [hx] at hw
    have hre := hw (((zs.take l).length + (zs.drop l).length) * 8) (by simp [DataW.weights, Try.underlying29, bytes_sint, lits])
    simp only [List.length_take, List.length_drop, reachBytes] at hre
    exact ⟨(some x, l, cp), zs.take l, hcs, ints_recs (isInts_row hl (by show cp ≤ _; omega) hz' hcell hwz)⟩

theorem slot_read {H : Type} {enc : TypeId × Value → H} {w : World} {base : Nat} {held : Bool} {n : Nat} {cs : List Value} {y : DataW H × List MemPlace}
    (h : DataW.trod enc Try.prog w base (fun _ => true) held n 42 cs = some y) (hw : ∀ n ∈ y.1.weights Try.prog 42, n ≤ reachBytes) : ∃ (x : V3) (s : Sl), cs = encS x ∧ Rd w x s ∧ s.1 ≤ 9223372036854775807 := by
  obtain ⟨y0, y1, y2, k, hy, hl, h0, h1, h2⟩ := trod_struct3 Try.underlying42 h
  rw [cells_slot] at hl
  rw [hy] at hw
  have hw1 : ∀ n ∈ y1.1.weights Try.prog 31, n ≤ reachBytes := fun n hn => hw n (by
    simp only [DataW.weights, Try.underlying42]
    exact DataW.weights_mem_each (j := 1) rfl rfl n hn)
  have hw2 : ∀ n ∈ y2.1.weights Try.prog 29, n ≤ reachBytes := fun n hn => hw n (by
    simp only [DataW.weights, Try.underlying42]
    exact DataW.weights_mem_each (j := 2) rfl rfl n hn)
  match cs, hl with
  | [a, b, c], _ =>
    simp [cells_sint, cells_sbytes, cells_sints] at h0 h1 h2
    obtain ⟨x0, e0, -, wf0⟩ := DataW.trod_int Try.underlying3 h0
    obtain ⟨x1, zs, e1, hb⟩ := bytes_in h1 hw1
    obtain ⟨x2, ts, e2, ht⟩ := ints_in h2 hw2
    simp only [List.cons.injEq, and_true] at e0
    refine ⟨(x0, x1, x2), (x0, zs, ts), by rw [e0, e1, e2]; rfl, ⟨rfl, hb, ht⟩, ?_⟩
    exact (bounds_i64 wf0).2

theorem slots_open {H : Type} {ench : TypeId × Value → H} {w : World} {base : Nat} {held : Bool} {a : Option Addr} {len cap : Nat} {d : DataW H} {p : List MemPlace}
    (h : DataW.Trod ench Try.prog w base (fun _ => true) held 30 (.slice a len cap) d p) (hw : ∀ n ∈ d.weights Try.prog 30, n ≤ reachBytes) : ∃ l, IsSlots w (.slice a len cap) l ∧ FewRefs l := by
  obtain ⟨fuel, hf⟩ := h
  rcases open_slice Try.underlying30 hf with ⟨hcs, _⟩ | ⟨x, l', c, n, k, D, Pl, hcs, hb, hl, hm, hmm, hx, hcell⟩
  · simp [Value.cells] at hcs
    obtain ⟨rfl, rfl, rfl⟩ := hcs
    exact ⟨[], isSlots_nil _ _ _, fun i => by simp [z0]⟩
  · simp [Value.cells] at hcs
    obtain ⟨rfl, rfl, rfl⟩ := hcs
    have hlm : len ≤ n := by rw [hmm]; split <;> omega
    have hd : d = .slice ((List.range len).map D) ((List.range (n - len)).map fun j => D (len + j)) := congrArg Prod.fst hx
    have hlen : len ≤ 2513169434843 := by
      have := hw ((len + (n - len)) * 56) (by rw [hd]; simp [DataW.weights, Try.underlying30, bytes_slot])
      simp only [reachBytes] at this
      omega
    rw [cells_slot] at hcell
    have each : ∀ i, i < len → ∃ q : V3 × Sl, w.cells? base (x.add (i * 3)) 3 = some (encS q.1) ∧ Rd w q.1 q.2 ∧ q.2.1 ≤ 9223372036854775807 := by
      intro i hi
      obtain ⟨cs, h1, h2⟩ := hcell i (by omega)
      obtain ⟨q, s, rfl, hr, hs⟩ := slot_read h2 (fun m hmm => hw m (by
        rw [hd]
        simp only [DataW.weights, Try.underlying30, List.mem_cons, List.mem_append]
        exact Or.inr (Or.inl (weights_mem_all (List.mem_map.2 ⟨i, List.mem_range.2 hi, rfl⟩) m hmm))))
      exact ⟨(q, s), h1, hr, hs⟩
    obtain ⟨q, hqq⟩ := choose_lt each
    have hq := fun i hi => (hqq i hi).1
    have hgL : ∀ i, i < len → ((List.range len).map fun i => (q i).1).getD i v0 = (q i).1 := fun i hi => by
      rw [List.getD_eq_getElem?_getD, List.getElem?_map, List.getElem?_range hi]; rfl
    have hgl : ∀ i, i < len → ((List.range len).map fun i => (q i).2).getD i z0 = (q i).2 := fun i hi => by
      rw [List.getD_eq_getElem?_getD, List.getElem?_map, List.getElem?_range hi]; rfl
    have hl1 : ((List.range len).map fun i => (q i).1).length = len := by simp
    have hl2 : ((List.range len).map fun i => (q i).2).length = len := by simp
    refine ⟨(List.range len).map fun i => (q i).2, ⟨(List.range len).map fun i => (q i).1, by rw [hl1, hl2], ⟨some x, cap, by rw [hl1], by omega, by omega, fun hp => ?_⟩, fun i hi => ?_⟩, fun i => ?_⟩
    · rw [hl1] at hp
      obtain ⟨b, off, spot⟩ := x
      have hc0 := (World.cells?_some (hq 0 hp)).2.2 0 (by decide)
      rw [add_add, Nat.zero_mul, Nat.zero_add] at hc0
      have hspot : spot = none := by
        have e0 : (encS (q 0).1)[0]? = some (.int .i64 (q 0).1.1) := rfl
        rw [e0] at hc0
        simpa [Addr.add] using World.cell?_spot hc0
      subst hspot
      refine ⟨b, off, rfl, fun j u hj => ?_⟩
      have hjl : j < len * 3 := by
        have := (List.getElem?_eq_some_iff.1 hj).1
        rw [flatL_len shS, hl1] at this
        exact this
      have hjm : j / 3 < len := by omega
      have hjr : j % 3 < 3 := Nat.mod_lt _ (by decide)
      have hje : j / 3 * 3 + j % 3 = j := Nat.div_add_mod' j 3
      rw [← hje, flatL_get shS _ v0 (j / 3) (j % 3) (by rw [hl1]; exact hjm) hjr, hgL _ hjm] at hj
      have hcj := (World.cells?_some (hq (j / 3) hjm)).2.2 (j % 3) hjr
      rw [add_add, hje, add_none, hj] at hcj
      exact hcj
    · rw [hl2] at hi
      rw [hgL i hi, hgl i hi]
      exact (hqq i hi).2.1
    · by_cases hi : i < len
      · rw [hgl i hi]
        exact (hqq i hi).2.2
      · rw [List.getD_eq_getElem?_getD, List.getElem?_eq_none (by rw [hl2]; omega)]
        simp [z0]

end Go.Proofs.Ytnmcbpanmjnegag

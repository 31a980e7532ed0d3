/- What comes in as an api.Pool reads as a list of blocks and sixty-four numbers. -/
import Derived.Test.YticmloddkngfnahPool2
import Derived.Test.YticmloddkngfnahBlocksOpen
import Derived.OpenShut
import Derived.SizedLaws
namespace Go.Proofs.Yticmloddkngfnah
open Go.ChangeShapes Go.WideShapes Go.ChangeAt Go.RowKit Go.Deep Go.Joins
set_option linter.unusedVariables false
set_option linter.unusedSimpArgs false

theorem cells_pool : Try.prog.cellsOf 25 = 65 := by kernel_rfl
theorem cells_frees : Try.prog.cellsOf 22 = 1 := by kernel_rfl
theorem cells_nums : Try.prog.cellsOf 23 = 64 := by kernel_rfl
theorem cells_num : Try.prog.cellsOf 3 = 1 := by kernel_rfl

theorem pool_open {H : Type} {enc : TypeId × Value → H} {w : World} {base b0 : Nat} {spare : Nat → Bool} {held : Bool} {r : Reach} {v : Value} {d : DataW H} {p : List MemPlace}
    (hv : Value.okWide Try.prog w r b0 25 v) (h : DataW.Trod enc Try.prog w base spare held 25 v d p) (hw : ∀ n ∈ d.weights Try.prog 25, n ≤ reachBytes) :
    ∃ (s : Value) (l : List (Int × Int)) (R : Nat → Int), v = .agg (poolC s R).toArray ∧ IsBlocks w s l ∧ ∀ i : Nat, i < 64 → R i ≤ 9223372036854775807 := by
  simp only [Value.okWide, Try.underlying25] at hv
  obtain ⟨cs, rfl, hsz, -⟩ := hv
  obtain ⟨fuel, hf⟩ := h
  obtain ⟨y0, y1, n, hx, hl, h0, h1⟩ := trod_struct2 Try.underlying25 hf
  have hd : d = .agg [y0.1, y1.1] := congrArg Prod.fst hx
  have hw0 : ∀ m ∈ y0.1.weights Try.prog 22, m ≤ reachBytes := fun m hm => hw m (by
    rw [hd]
    simp only [DataW.weights, Try.underlying25]
    exact DataW.weights_mem_each (j := 0) rfl rfl m hm)
  rw [cells_pool] at hl
  simp only [Value.cells] at hl h0 h1
  obtain ⟨cl⟩ := cs
  simp only at hl h0 h1
  cases cl with
  | nil => simp at hl
  | cons c cr =>
    have hcr : cr.length = 64 := by simpa using hl
    simp only [List.drop_zero, cells_frees, List.take_succ_cons, List.take_zero] at h0
    have h1' : DataW.trod enc Try.prog w base spare held n 23 cr = some y1 := by
      have : (List.drop 1 (c :: cr)).take (Try.prog.cellsOf 23) = cr := by
        rw [cells_nums, List.drop_succ_cons, List.drop_zero, List.take_of_length_le (by omega)]
      rw [← this]
      exact h1
    obtain ⟨xs, m, -, -, -, hlen, hall⟩ := DataW.trod_array Try.underlying23 h1'
    have hR : ∀ i : Nat, i < 64 → ∃ z : Int, cr[i]? = some (.int .i64 z) ∧ z ≤ 9223372036854775807 := by
      intro i hi
      have hg := hall i hi
      rw [cells_num, Nat.mul_one] at hg
      have hxi : xs[i]? = some (xs[i]'(by omega)) := List.getElem?_eq_getElem (by omega)
      rw [hxi] at hg
      obtain ⟨z, e0, -, wf⟩ := DataW.trod_int Try.underlying3 hg
      refine ⟨z, ?_, (bounds_i64 wf).2⟩
      have := congrArg (fun l : List Value => l[0]?) e0
      simpa [List.getElem?_take, List.getElem?_drop] using this
    have hRR : ∃ R : Nat → Int, ∀ i : Nat, i < 64 → cr[i]? = some (.int .i64 (R i)) ∧ R i ≤ 9223372036854775807 :=
      ⟨fun i => intOf (cr.getD i undef), fun i hi => by
        obtain ⟨z, e, hz⟩ := hR i hi
        have hg : cr.getD i undef = .int .i64 z := by rw [List.getD_eq_getElem?_getD, e]; rfl
        show cr[i]? = some (.int .i64 (intOf (cr.getD i undef))) ∧ intOf (cr.getD i undef) ≤ 9223372036854775807
        rw [hg]
        exact ⟨e, hz⟩⟩
    obtain ⟨R, hR2⟩ := hRR
    have hcr2 : cr = numsL R := by
      apply List.ext_getElem?
      intro i
      by_cases hi : i < 64
      · rw [(hR2 i hi).1, numsL_get R i hi]
      · rw [List.getElem?_eq_none (by omega), List.getElem?_eq_none (by rw [numsL_len]; omega)]
    have hform : ∃ a len cap, c = .slice a len cap := by
      rcases open_slice_pairs Try.underlying22 Try.underlying45 cells_blk rfl rfl cells_int cells_int h0 with ⟨hcs, _⟩ | ⟨x, l', cp, _, _, _, _, _, _, _, _, hcs, _⟩
      · simp only [List.cons.injEq, and_true] at hcs
        exact ⟨_, _, _, hcs⟩
      · simp only [List.cons.injEq, and_true] at hcs
        exact ⟨_, _, _, hcs⟩
    obtain ⟨a, len, cap, rfl⟩ := hform
    obtain ⟨l, hb⟩ := isBlocks_open (enc := enc) (w := w) (base := base) (spare := spare) (held := held) (a := a) (len := len) (cap := cap) (d := y0.1) (p := y0.2) ⟨n, by simpa [Value.cells] using h0⟩ (fun elems sp he => by
      have hm := hw0 ((elems.length + sp.length) * 16) (by rw [he]; simp [DataW.weights, Try.underlying22, bytes_blk])
      simpa [reachBytes] using hm)
    exact ⟨.slice a len cap, l, R, by rw [hcr2]; rfl, hb, fun i hi => (hR2 i hi).2⟩

end Go.Proofs.Yticmloddkngfnah

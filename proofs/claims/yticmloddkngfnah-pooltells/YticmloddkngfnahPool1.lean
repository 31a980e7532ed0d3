/- Pools as rows of cells (a slice of blocks and sixty-four numbers), and the contracts of pool.New and pool.spread: what each call returns, and that nothing that was there is written. -/
import Derived.Test.YticmloddkngfnahPoolMath
import Derived.Test.YticmloddkngfnahBuddyRef5
import Derived.Deep.MidRow
import Derived.Deep.WholeRow
namespace Go.Proofs.Yticmloddkngfnah
open Go.RowKit
set_option linter.unusedSimpArgs false
set_option linter.unusedVariables false

/-- Sixty-four numbers as cells. -/
def numsL (R : Nat → Int) : List Value := (List.range 64).map fun i => .int .i64 (R i)

theorem numsL_len (R : Nat → Int) : (numsL R).length = 64 := by simp [numsL]

theorem numsL_get (R : Nat → Int) (i : Nat) (hi : i < 64) : (numsL R)[i]? = some (.int .i64 (R i)) := by
  unfold numsL
  rw [List.getElem?_map, List.getElem?_range hi]
  rfl

theorem numsL_set (R : Nat → Int) (i : Nat) (x : Int) : (numsL R).set i (.int .i64 x) = numsL (updR R i x) := by
  apply List.ext_getElem?
  intro j
  by_cases hj : j < 64
  · rw [numsL_get _ j hj]
    unfold updR
    by_cases h : j = i
    · subst h
      rw [List.getElem?_set_self (by rw [numsL_len]; exact hj)]
      simp
    · rw [List.getElem?_set_ne (fun e => h e.symm), numsL_get _ j hj]
      simp [h]
  · rw [List.getElem?_eq_none (by rw [List.length_set, numsL_len]; omega), List.getElem?_eq_none (by rw [numsL_len]; omega)]

theorem numsL_one (R : Nat → Int) : ∀ v ∈ numsL R, v.oneCell' = true := by
  intro v hv
  unfold numsL at hv
  obtain ⟨i, -, rfl⟩ := List.mem_map.1 hv
  rfl

/-- A pool's cells. -/
def poolC (v : Value) (R : Nat → Int) : List Value := v :: numsL R

theorem poolC_len (v : Value) (R : Nat → Int) : (poolC v R).length = 65 := by simp [poolC, numsL_len]
theorem poolC_get (v : Value) (R : Nat → Int) (i : Nat) (hi : i < 64) : (poolC v R)[1 + i]? = some (.int .i64 (R i)) := by
  rw [Nat.add_comm]
  exact numsL_get R i hi
theorem poolC_set (v : Value) (R : Nat → Int) (i : Nat) (x : Int) : (poolC v R).set (1 + i) (.int .i64 x) = poolC v (updR R i x) := by
  rw [Nat.add_comm, poolC, List.set_cons_succ, numsL_set]
  rfl
theorem poolC_free (v u : Value) (R : Nat → Int) : (poolC v R).set 0 u = poolC u R := rfl

theorem poolC_one {v : Value} (hv : v.oneCell' = true) (R : Nat → Int) : (poolC v R).toArray.all (·.oneCell') = true := by
  simp only [Array.all_eq_true_iff_forall_mem, List.mem_toArray]
  intro u hu
  rw [poolC, List.mem_cons] at hu
  rcases hu with rfl | hu
  · exact hv
  · exact numsL_one R u hu

theorem info_pool : (Try.prog.info? 25).map (·.size) = some 65 := by kernel_rfl
theorem info_nums : (Try.prog.info? 23).map (·.size) = some 64 := by kernel_rfl
theorem info_bits : (Try.prog.info? 51).map (·.size) = some 64 := by kernel_rfl

theorem pool_facts {v : Value} (hv : v.oneCell' = true) (R : Nat → Int) : (Try.prog.info? 25).map (·.size) = some (poolC v R).toArray.size ∧ (poolC v R).toArray.size = 65 ∧ (poolC v R).toArray.all (·.oneCell') = true :=
  ⟨by rw [info_pool]; simp [poolC_len], by simp [poolC_len], poolC_one hv R⟩

theorem bitsL_one (B : Nat → Bool) : (bitsL B).toArray.all (·.oneCell') = true := by
  simp only [Array.all_eq_true_iff_forall_mem, List.mem_toArray]
  intro v hv
  unfold bitsL at hv
  obtain ⟨i, -, rfl⟩ := List.mem_map.1 hv
  rfl

theorem OwnRow.beside {w : World} {g b i : Nat} {e : TypeId} {xs : List Value} (h : OwnRow w g e xs) (hne : g ≠ b) (v : Value) : OwnRow (w.setCell ⟨b, i, none⟩ v) g e xs := by
  unfold OwnRow at *
  simp only [World.setCell, Array.getElem?_modify]
  rw [if_neg (fun h => hne h.symm)]
  exact h

/-- The numbers of a pool's row. -/
theorem OwnRow.nums {w : World} {g : Nat} {e : TypeId} {v : Value} {R : Nat → Int} (h : OwnRow w g e (poolC v R)) : w.rangeAt g 1 (numsL R) := by
  intro j u hj
  rw [h.cell]
  show (v :: numsL R)[1 + j]? = some u
  rw [Nat.add_comm, List.getElem?_cons_succ]
  exact hj

theorem built_free (a : Option Addr) (n c : Nat) : Try.prog.built 25 [(0, .slice a n c)] = some (poolC (.slice a n c) fun _ => 0).toArray := by kernel_rfl
theorem built_none : Try.prog.built 25 [] = some (poolC (.slice none 0 0) fun _ => 0).toArray := by kernel_rfl

set_option maxRecDepth 100000 in
theorem built_both (a : Option Addr) (n c : Nat) (R : Nat → Int) : Try.prog.built 25 [(0, .slice a n c), (1, .agg (numsL R).toArray)] = some (poolC (.slice a n c) R).toArray := by kernel_rfl

/-- Another frame's bits, one behind the other. -/
theorem covB_snoc (l : List (Int × Int)) (k : Nat) (hk : k < l.length) (t : Int) : covB (l.take (k + 1)) t = (covB (l.take k) t || (decide ((l.getD k (0, 0)).1 ≤ t) && decide (t < (l.getD k (0, 0)).1 + sz (l.getD k (0, 0)).2))) := by
  unfold covB
  exact take_any (fun p : Int × Int => decide (p.1 ≤ t) && decide (t < p.1 + sz p.2)) l (0, 0) k hk

set_option maxRecDepth 100000 in
set_option maxHeartbeats 1600000 in
theorem spread_any (v : Value) (l : List (Int × Int)) (w : World) (h : IsBlocks w v l) (hg : Good l) :
    Calls Try.prog 26 #[v] w fun e w' => ∃ B, e = .returned (.agg (bitsL B).toArray) ∧ (∀ t : Nat, t < 64 → B t = covB l t) ∧ Below w.heap.size w w' := by
  obtain ⟨a, cap, rfl, h1, hl, hc'⟩ := h
  have hA := hg.1
  obtain ⟨n, hn⟩ : ∃ n, Hid (n = l.length) := ⟨_, rfl⟩
  rw [← hn.out] at hl hc' ⊢
  have h2 := own_two (w := w) (xs := bitsL fun _ => false) (ys := bitsL fun _ => false) (e := 51) (e' := 51) (Below.refl _ _)
  have hb2 : Below w.heap.size w ((w.alloc (.cells (bitsL fun _ => false).toArray 51)).alloc (.cells (bitsL fun _ => false).toArray 51)) := ((Below.refl _ _).alloc (Nat.le_refl _) _).alloc (by simp) _
  have H2 : Hid (_ ∧ _) := ⟨h2, hb2⟩
  clear h2 hb2 hg
  go_enter Try.func26, Try.ntmps26
  go_wp2_with fail
  go_loopw [9] (fun i wr => ∃ (k : Nat) (B : Nat → Bool), k ≤ n ∧ i = .int .i64 k ∧ Hid (OwnRow wr w.heap.size 51 (bitsL fun _ => false)) ∧ Hid (OwnRow wr (w.heap.size + 1) 51 (bitsL B)) ∧ Hid (∀ t : Nat, t < 64 → B t = covB (l.take k) t) ∧ Below w.heap.size w wr) (fun i _ => n - (intOf i).toNat)
  case atStart => exact ⟨0, fun _ => false, Nat.zero_le _, rfl, H2.out.1.1, H2.out.1.2, fun t _ => by simp [covB], H2.out.2⟩
  clear H2
  case round =>
    obtain ⟨k, B, hk, rfl, hr1, hr2, hB, hbel⟩ := hrel
    have hz2 : w.heap.size + 1 < wr.heap.size := hr2.out.lt
    by_cases hlt : k < n
    · obtain ⟨b, off, rfl, hc⟩ := hc' (by omega)
      have hkl : k < l.length := by rw [← hn.out]; exact hlt
      have hck := hc k hlt
      have hblk := hA.get hkl
      have HT : Hid _ := covB_snoc l k hkl
      obtain ⟨⟨px, py⟩, hp⟩ : ∃ p, p = l.getD k (0, 0) := ⟨_, rfl⟩
      rw [← hp] at hck HT hblk
      clear hp
      simp only at hck HT hblk
      obtain ⟨q0, q6, x0, hx, -⟩ := isBlk_iff.1 hblk
      obtain ⟨x, rfl⟩ : ∃ x : Nat, px = x := ⟨px.toNat, by omega⟩
      obtain ⟨d, rfl⟩ : ∃ d : Nat, py = d := ⟨py.toNat, by omega⟩
      have hd7 : d < 7 := by omega
      have hpb := pow_bd hd7
      have hsz := szN d
      have H1 : Hid _ := (wrapN hd7).1
      have H2 : Hid _ := (wrapN hd7).2
      have H3 : Hid _ := (wrapN2 hd7).1
      have H4 : Hid _ := (wrapN2 hd7).2
      obtain ⟨s, hs⟩ : ∃ s : Nat, s = 2 ^ d := ⟨_, rfl⟩
      rw [← hs] at H1 H2 H3 H4 hpb hsz
      clear hs hblk
      rw [hsz] at hx HT
      have hk0 : wr.cell? ⟨b, off + k * 2, none⟩ = some (.int .i64 (x : Int)) := (hbel.cell (cell_lt hck.1)).trans hck.1
      have hk1 : wr.cell? ⟨b, off + k * 2 + 1, none⟩ = some (.int .i64 (d : Int)) := (hbel.cell (cell_lt hck.2)).trans hck.2
      clear hck hsz
      obtain ⟨wo, rfl⟩ : ∃ wo, wo = wr := ⟨_, rfl⟩
      have hbx : Below wo.heap.size wo (wo.alloc (.cells #[.int .i64 (x : Int), .int .i64 (d : Int)] 45)) := (Below.refl _ _).alloc (Nat.le_refl _) _
      have hbo : OwnRow (wo.alloc (.cells #[.int .i64 (x : Int), .int .i64 (d : Int)] 45)) wo.heap.size 45 [.int .i64 (x : Int), .int .i64 (d : Int)] := heap_alloc_new wo _
      have HBX : Hid (_ ∧ _) := ⟨hbx, hbo⟩
      clear hbx hbo
      have hdk : decide ((k : Int) < (n : Int)) = true := by simp; omega
      have hw1 := H1.out
      have hw2 := H2.out
      have hw3 := H3.out
      have hw4 := H4.out
      go_wp2_with fail
      clear hw1 hw2 hw3 hw4 hdk
      go_loopw [16] (fun i ws => ∃ q : Nat, q ≤ s ∧ i = .int .i64 q ∧ Hid (OwnRow ws w.heap.size 51 (bitsL fun _ => false)) ∧ Hid (OwnRow ws (w.heap.size + 1) 51 (bitsL (setR B (x : Int) (q : Int)))) ∧ Hid (OwnRow ws wo.heap.size 45 [.int .i64 (x : Int), .int .i64 (d : Int)]) ∧ Below w.heap.size w ws) (fun i _ => s - (intOf i).toNat)
      case atStart =>
        refine ⟨0, Nat.zero_le _, rfl, hr1.out.below HBX.out.1 hr1.out.lt, ?_, HBX.out.2, hbel.trans (HBX.out.1.mono hbel.size)⟩
        show OwnRow _ _ _ _
        rw [Int.natCast_zero, setR_zero]
        exact hr2.out.below HBX.out.1 hr2.out.lt
      case round =>
        obtain ⟨q, hq, rfl, hs1, hs2, hs3, hbel2⟩ := hrel
        have z1 : w.heap.size + 1 < wr.heap.size := hs2.out.lt
        have z2 : wo.heap.size < wr.heap.size := hs3.out.lt
        have c0 : wr.cell? ⟨wo.heap.size, 0, none⟩ = some (.int .i64 (x : Int)) := by rw [hs3.out.cell]; rfl
        have c1 : wr.cell? ⟨wo.heap.size, 1, none⟩ = some (.int .i64 (d : Int)) := by rw [hs3.out.cell]; rfl
        by_cases hq3 : q < s
        · have hxq : x + q < 64 := by omega
          have e0 : wr.cell? ⟨w.heap.size + 1, x + q, none⟩ = some (.bool (setR B (x : Int) (q : Int) (x + q))) := by rw [hs2.out.cell, bitsL_get _ _ hxq]
          have e1 := hs2.out.free (x + q)
          go_wp2
          have t2 := hs2.out.set (x + q) (.bool true)
          rw [bitsL_set, setR_succ] at t2
          exact ⟨⟨q + 1, by omega, by go_num, hs1.out.beside (by omega) _, t2, hs3.out.beside (by omega) _, hbel2.setCell (by simp) _⟩, by simp [intOf]; omega⟩
        · obtain rfl : q = s := by omega
          go_wp2
          refine ⟨⟨k + 1, _, by omega, by go_num, hs1, hs2, fun t ht => ?_, hbel2⟩, by simp [intOf]; omega⟩
          rw [HT.out t, ← hB.out t ht]
          rfl
    · obtain rfl : k = n := by omega
      have HX : Hid ((bitsL B).toArray.size = 64 ∧ (bitsL B).toArray.all (·.oneCell') = true) := ⟨by simp [bitsL_len], bitsL_one B⟩
      have HF : Hid (∀ t : Nat, t < 64 → B t = covB l t) := fun t ht => by
        have := hB.out t ht
        rwa [List.take_of_length_le (by rw [← hn.out]; omega)] at this
      have HR2 : Hid (wr.heap[w.heap.size + 1]? = some (.cells (bitsL B).toArray 51 (0, 0))) := hr2.out
      have HR1 : Hid (wr.heap[w.heap.size]? = some (.cells (bitsL fun _ => false).toArray 51 (0, 0))) := hr1.out
      have HB : Hid (Below w.heap.size w (wr.setRow w.heap.size (bitsL B).toArray)) := below_setRow hbel (Nat.le_refl _) _
      obtain ⟨X, hX⟩ : ∃ X, Hid (X = (bitsL B).toArray) := ⟨_, rfl⟩
      rw [← hX.out] at HX HR2 HB
      have HSZ : Hid ((Try.prog.info? 51).map (·.size) = some X.size) := by show _ = _; rw [info_bits, HX.out.1]
      go_wp2_with (first
        | (refine wpList_load_row rfl 51 (.tmp 3) rfl (w.heap.size + 1) rfl 51 X (0, 0) _ HR2.out Try.underlying51 rfl HSZ.out ?_)
        | (refine wpList_store_row rfl 51 (.tmp 2) _ rfl w.heap.size X rfl rfl 51 _ HR1.out HSZ.out (by rw [HX.out.1]; simp [bitsL_len]) HX.out.2 ?_))
      exact bodyPost_ret (v := .agg X) (results_cell_row Try.results26 _ _ w.heap.size 51 X (0, 0) _ rfl (setRow_heap _ _ _ _ _ _ HR1.out) Try.underlying51 rfl HSZ.out) rfl ⟨B, by rw [hX.out], HF.out, HB.out⟩

end Go.Proofs.Yticmloddkngfnah

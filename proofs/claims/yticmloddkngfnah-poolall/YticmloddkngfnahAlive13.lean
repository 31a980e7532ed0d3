/- The contract of framewardenkeep.alive13: it returns true, and nothing that was there is written. -/
import Derived.Test.YticmloddkngfnahPoolSays
namespace Go.Proofs.Yticmloddkngfnah
open Go.RowKit
set_option linter.unusedSimpArgs false
set_option linter.unusedVariables false

theorem updR_max {R : Nat → Int} {x : Nat} {y : Int} (h : ∀ i : Nat, i < 64 → R i ≤ 9223372036854775807) (hy : y ≤ 9223372036854775807) : ∀ i : Nat, i < 64 → updR R x y i ≤ 9223372036854775807 := by
  intro i hi
  unfold updR
  split
  · exact hy
  · exact h i hi

theorem bel_next {w w1 w2 : World} (hc : Below w1.heap.size w1 w2) (hS : Below w.heap.size w w1) : Below w.heap.size w w2 := hS.trans (hc.mono hS.size)

/-- A whole pool is loaded, at a step of a region that draws. -/
theorem yields_pool {ops : Array Oper} {S : World → Prop} {o : Oper} {a : Act} (hw : Region.wanted o (yielded ops a.tmps) = true) (x : Operand) (ho : o.op = .load 25 x)
    (g : Nat) (hx : a.eval x = .pointer (some ⟨g, 0, none⟩)) (X : Array Value) (hS : ∀ w, S w → w.heap[g]? = some (.cells X 25 (0, 0))) (hi : (Try.prog.info? 25).map (·.size) = some X.size) : YieldsIf Try.prog ops S o (.agg X) a :=
  .inl ⟨hw, fun w hw' => by
    have hl := run_loadVar_row w g 25 25 X (0, 0) _ (hS w hw') Try.underlying25 rfl hi
    unfold execOp
    simp only [ho, hx, Instr.loadAt, Instr.sureAddr, Sem.run_bind, Sem.run_pure, Result.andThen_ok, hl]⟩

/-- An operation of such a region is taken first; the slot that it writes is told. -/
theorem take_to {P : Program} {md : Region.Mode} {ops : Array Oper} {Q : Exit → Act → World → Prop} {S : World → Prop} (i : Nat) (dst : Option Tmp) {oi : Oper} {v : Value} {fuel : Nat} {listed : Array Bool} {a : Act} {w : World} (hi : ops[i]? = some oi) (hd : oi.dst = dst)
    (hs : Region.noSelect ops = true) (hf : Region.free md ops listed i = true) (hr : (Region.ready md ops listed).contains i = true)
    (hQ : ∀ c a w, Q (.panic c) (a.put dst v) w → Q (.panic c) a w) (hy : YieldsIf P ops S oi v a) (hS : S w)
    (h : wpAnyH P md ops Q S fuel (listed.setIfInBounds i true) (a.put dst v) w) : wpAnyH P md ops Q S (fuel + 1) listed a w := by
  subst hd
  exact wpAnyH_take hi hs hf hr hQ hy hS h

set_option maxRecDepth 100000 in
set_option maxHeartbeats 3200000 in
theorem alive13_any (w : World) :
    Calls Try.prog 16 #[] w fun e w' => e = .returned (.bool true) ∧ Below w.heap.size w w' := by
  obtain ⟨m1, m2, m3⟩ := alive13_math
  have hpe : ptE [(0, 6)] (fun _ => 0) = 0 := by unfold ptE; rw [if_pos m1]; exact m2
  obtain ⟨-, -, b1, ⟨b2, b3, b4, -⟩, ⟨b5, b6, b7⟩, b8, b9, b10⟩ := back13 m1 m2 (x := 0) m3
  have hmx : ∀ y : Int, y ≤ 9223372036854775807 → ∀ i : Nat, i < 64 → updR (fun _ => 0) 0 y i ≤ 9223372036854775807 := fun y hy => updR_max (fun i hi => by decide) hy
  generalize hM : takeL [(0, 6)] 0 = M at *
  have HT : Hid (∀ X w1, IsPool w1 X [(0, 6)] (fun _ => 0) → Calls Try.prog 6 #[.agg X] w1 fun e w' => ∃ Y, e = .returned (.tuple #[.agg Y, .int .i64 0, .int .i64 0]) ∧ IsPool w' Y M (updR (fun _ => 0) 0 1) ∧ Lies w1.heap.size w'.heap.size Y M ∧ Below w1.heap.size w1 w') := fun X w1 h => by
    have := take_pool' w1 h
    simp only [ptN, ptL, ptR, hpe, if_true, m3, hM] at this
    exact this
  have HS : Hid (∀ X w1, IsPool w1 X M (updR (fun _ => 0) 0 1) → Calls Try.prog 8 #[.agg X, .int .i64 0] w1 fun e w' => ∃ Y, e = .returned (.tuple #[.agg Y, .int .i64 0]) ∧ IsPool w' Y M (updR (fun _ => 0) 0 2) ∧ Lies w1.heap.size w'.heap.size Y M ∧ Below w1.heap.size w1 w') := fun X w1 h => by
    have := share_pool' ((0 : Nat) : Int) w1 h
    rw [b2, b3, b4] at this
    exact this
  have HD : Hid (∀ X w1, IsPool w1 X M (updR (fun _ => 0) 0 2) → Calls Try.prog 10 #[.agg X, .int .i64 0] w1 fun e w' => ∃ Y, e = .returned (.tuple #[.agg Y, .int .i64 0]) ∧ IsPool w' Y M (updR (fun _ => 0) 0 1) ∧ Lies w1.heap.size w'.heap.size Y M ∧ Below w1.heap.size w1 w') := fun X w1 h => by
    have := drop_pool' ((0 : Nat) : Int) w1 h (hmx 2 (by decide))
    rw [b5, b6, b7] at this
    exact this
  have HE : Hid (∀ X w1, IsPool w1 X M (updR (fun _ => 0) 0 1) → Calls Try.prog 10 #[.agg X, .int .i64 0] w1 fun e w' => ∃ Y, e = .returned (.tuple #[.agg Y, .int .i64 0]) ∧ IsPool w' Y [(0, 6)] (fun _ => 0) ∧ Lies w1.heap.size w'.heap.size Y [(0, 6)] ∧ Below w1.heap.size w1 w') := fun X w1 h => by
    have := drop_pool' ((0 : Nat) : Int) w1 h (hmx 1 (by decide))
    rw [b8, b9, b10] at this
    exact this
  have HPB : Hid (poolB M (updR (fun _ => 0) 0 1) = true ∧ updR (fun _ => 0) 0 1 0 = 1) := ⟨b1, rfl⟩
  clear m1 m2 m3 hpe b1 b2 b3 b4 b5 b6 b7 b8 b9 b10 hM hmx
  generalize updR (fun _ => 0) 0 2 = R2 at *
  generalize updR (fun _ => 0) 0 1 = R1 at *
  have hzv := zero_value
  have hzs := zero_size
  have hzn := zero_ne
  go_enter Try.func16, Try.ntmps16
  go_wp2_with fail
  refine (new_pool w).mono ?_
  rintro e w1 ⟨X0, rfl, h0, -, hb1⟩
  go_wp2_with fail
  refine (HT.out _ _ h0).mono ?_
  rintro e w2 ⟨X1, rfl, h1, hl1, hb2⟩
  have hbb2 := hb1.trans (hb2.mono hb1.size)
  have hf1 := h1.facts
  have HF1 : Hid _ := hf1
  have hz12 : w.heap.size ≤ w2.heap.size := hbb2.size
  clear h0 hb1 hb2 hf1
  have hbA : Below w2.heap.size w2 (w2.alloc (.cells X1 25)) := (Below.refl _ _).alloc (Nat.le_refl _) _
  have H1 : Hid (IsPool (w2.alloc (.cells X1 25)) X1 M R1) := h1.below hbA
  have HG1 : Hid ((w2.alloc (.cells X1 25)).heap[w2.heap.size]? = some (.cells X1 25 (0, 0))) := heap_alloc_new w2 _
  have HBA : Hid (Below w.heap.size w (w2.alloc (.cells X1 25))) := hbb2.trans (hbA.mono hbb2.size)
  clear h1 hbA hbb2
  go_wp2_with (first
    | (refine wpList_store_row rfl 25 (.tmp 1) _ rfl w2.heap.size X1 rfl rfl 25 _ (heap_alloc_new w2 _) HF1.out.1 (by rw [HF1.out.2.1]; exact zero_size) HF1.out.2.2 ?_; rw [World.setRow_alloc_new])
    | (refine wpList_load_row rfl 25 (.tmp 1) rfl w2.heap.size rfl 25 X1 (0, 0) _ HG1.out Try.underlying25 rfl HF1.out.1 ?_))
  refine (HS.out _ _ H1.out).mono ?_
  rintro e w3 ⟨X2, rfl, h2, -, hb3⟩
  have hz23 : w2.heap.size < w3.heap.size := by have := hb3.size; simp at this; omega
  have HL1 : Hid (Lies 0 w3.heap.size X1 M) := fun hp => by obtain ⟨b, o, n, c, h1, h2, h3⟩ := hl1 hp; exact ⟨b, o, n, c, h1, by omega, by omega⟩
  clear hl1
  have hg13 := heap_below HG1.out hb3
  have h13 := H1.out.below hb3
  have hbb3 := HBA.out.trans (hb3.mono HBA.out.size)
  have HF2 : Hid _ := h2.facts
  clear hb3 HG1 H1 HBA
  have hbA : Below w3.heap.size w3 (w3.alloc (.cells X2 25)) := (Below.refl _ _).alloc (Nat.le_refl _) _
  have H2 : Hid (IsPool (w3.alloc (.cells X2 25)) X2 M R2 ∧ IsPool (w3.alloc (.cells X2 25)) X1 M R1) := ⟨h2.below hbA, h13.below hbA⟩
  have HG2 : Hid ((w3.alloc (.cells X2 25)).heap[w3.heap.size]? = some (.cells X2 25 (0, 0)) ∧ (w3.alloc (.cells X2 25)).heap[w2.heap.size]? = some (.cells X1 25 (0, 0))) := ⟨heap_alloc_new w3 _, heap_below hg13 hbA⟩
  have HBA : Hid (Below w.heap.size w (w3.alloc (.cells X2 25))) := hbb3.trans (hbA.mono hbb3.size)
  clear h2 h13 hbA hbb3 hg13
  go_wp2_with (first
    | (refine wpList_store_row rfl 25 (.tmp 4) _ rfl w3.heap.size X2 rfl rfl 25 _ (heap_alloc_new w3 _) HF2.out.1 (by rw [HF2.out.2.1]; exact zero_size) HF2.out.2.2 ?_; rw [World.setRow_alloc_new])
    | (refine wpList_load_row rfl 25 (.tmp 4) rfl w3.heap.size rfl 25 X2 (0, 0) _ HG2.out.1 Try.underlying25 rfl HF2.out.1 ?_))
  refine (HD.out _ _ H2.out.1).mono ?_
  rintro e w4 ⟨X3, rfl, h3, hl3, hb4⟩
  have hz34 : w3.heap.size < w4.heap.size := by have := hb4.size; simp at this; omega
  have hl3' : Lies (w3.heap.size + 1) w4.heap.size X3 M := fun hp => by obtain ⟨b, o, n, c, h1, h2, h3⟩ := hl3 hp; exact ⟨b, o, n, c, h1, by simp at h2; omega, h3⟩
  have HG3 : Hid (w4.heap[w3.heap.size]? = some (.cells X2 25 (0, 0)) ∧ (w4.setRow w3.heap.size X3).heap[w3.heap.size]? = some (.cells X3 25 (0, 0)) ∧ (w4.setRow w3.heap.size X3).heap[w2.heap.size]? = some (.cells X1 25 (0, 0))) := by
    have g1 := heap_below HG2.out.1 hb4
    refine ⟨g1, setRow_heap _ _ _ _ _ _ g1, ?_⟩
    rw [setRow_other _ _ _ _ (by omega)]
    exact heap_below HG2.out.2 hb4
  have H3 : Hid (IsPool (w4.setRow w3.heap.size X3) X3 M R1 ∧ IsPool (w4.setRow w3.heap.size X3) X1 M R1) := ⟨h3.setRow hl3' (Or.inl (by omega)) _, (H2.out.2.below hb4).setRow HL1.out (Or.inr (Nat.le_refl _)) _⟩
  have hbb4 := HBA.out.trans (hb4.mono HBA.out.size)
  have HBA4 : Hid (Below w.heap.size w (w4.setRow w3.heap.size X3)) := below_setRow hbb4 (by omega) _
  have HF3 : Hid _ := h3.facts
  have HSZ : Hid (X2.size = 65) := HF2.out.2.1
  clear h3 hl3 hl3' hb4 hbb4 H2 HG2 HBA HF2
  go_wp2_with (first
    | (refine wpList_store_row rfl 25 (.tmp 4) _ rfl w3.heap.size X3 rfl rfl 25 _ HG3.out.1 HF3.out.1 (by rw [HF3.out.2.1, HSZ.out]) HF3.out.2.2 ?_)
    | (refine wpList_load_row rfl 25 (.tmp 4) rfl w3.heap.size rfl 25 X3 (0, 0) _ HG3.out.2.1 Try.underlying25 rfl HF3.out.1 ?_))
  refine (HE.out _ _ H3.out.1).mono ?_
  rintro e w5 ⟨X4, rfl, h4, hl4, hb5⟩
  have hz45 : w4.heap.size ≤ w5.heap.size := by have := hb5.size; simp at this; omega
  have hl4' : Lies (w3.heap.size + 1) w5.heap.size X4 [(0, 6)] := fun hp => by obtain ⟨b, o, n, c, h1, h2, h3⟩ := hl4 hp; exact ⟨b, o, n, c, h1, by simp at h2; omega, h3⟩
  have HG4 : Hid (w5.heap[w3.heap.size]? = some (.cells X3 25 (0, 0)) ∧ (w5.setRow w3.heap.size X4).heap[w3.heap.size]? = some (.cells X4 25 (0, 0)) ∧ (w5.setRow w3.heap.size X4).heap[w2.heap.size]? = some (.cells X1 25 (0, 0))) := by
    have g1 := heap_below HG3.out.2.1 hb5
    refine ⟨g1, setRow_heap _ _ _ _ _ _ g1, ?_⟩
    rw [setRow_other _ _ _ _ (by omega)]
    exact heap_below HG3.out.2.2 hb5
  have H4 : Hid (IsPool (w5.setRow w3.heap.size X4) X4 [(0, 6)] (fun _ => 0) ∧ IsPool (w5.setRow w3.heap.size X4) X1 M R1) := ⟨h4.setRow hl4' (Or.inl (by omega)) _, (H3.out.2.below hb5).setRow HL1.out (Or.inr (Nat.le_refl _)) _⟩
  have hbb5 := HBA4.out.trans (hb5.mono HBA4.out.size)
  have HBA5 : Hid (Below w.heap.size w (w5.setRow w3.heap.size X4)) := below_setRow hbb5 (by omega) _
  have HF4 : Hid _ := h4.facts
  have HSZ3 : Hid (X3.size = 65) := HF3.out.2.1
  clear h4 hl4 hl4' hb5 hbb5 H3 HG3 HBA4 HF3 HT HS HD HE HL1 HSZ
  go_wp2_with (refine wpList_store_row rfl 25 (.tmp 4) _ rfl w3.heap.size X4 rfl rfl 25 _ HG4.out.1 HF4.out.1 (by rw [HF4.out.2.1, HSZ3.out]) HF4.out.2.2 ?_)
  obtain ⟨S, hS0, hkeep, HL1, HL4, hc1, HC⟩ : ∃ S : World → Prop, S (w5.setRow w3.heap.size X4).drew ∧ (∀ a b : World, Below a.heap.size a b → S a → S b) ∧
      Hid (∀ a : World, S a → a.heap[w2.heap.size]? = some (.cells X1 25 (0, 0))) ∧
      Hid (∀ a : World, S a → a.heap[w3.heap.size]? = some (.cells X4 25 (0, 0))) ∧
      (∀ a : World, S a → a.cell? ⟨w2.heap.size, 1, none⟩ = some (.int .i64 1)) ∧
      Hid ((∀ a : World, S a → Calls Try.prog 12 #[] a fun e b => ∃ Z, e = .returned (.agg Z) ∧ Hid (∀ c : World, Below b.heap.size b c → Calls Try.prog 11 #[.agg X4, .agg Z] c fun e d => e = .returned (.bool true) ∧ Below c.heap.size c d) ∧ Below a.heap.size a b) ∧
        (∀ a : World, S a → Calls Try.prog 14 #[.agg X1] a fun e b => e = .returned (.bool true) ∧ Below a.heap.size a b) ∧ (∀ a : World, S a → Below w.heap.size w a)) := by
    refine ⟨fun a => Below (w5.setRow w3.heap.size X4).heap.size (w5.setRow w3.heap.size X4) a, (Below.refl _ _).drew, fun a b h1 h2 => bel_next h1 h2, fun a h => heap_below HG4.out.2.2 h, fun a h => heap_below HG4.out.2.1 h, fun a h => ?_, fun a h => ?_, fun a h => ?_, fun a h => HBA5.out.trans (h.mono HBA5.out.size)⟩
    · have := H4.out.2.refs (i := 0) (heap_below HG4.out.2.2 h) (by decide)
      rw [HPB.out.2] at this
      exact this
    · refine (new_pool a).mono ?_
      rintro e b ⟨Z, rfl, hz, -, hb⟩
      exact ⟨Z, rfl, fun c hc => same_pool c ((H4.out.1.below (bel_next hb h)).below hc) (hz.below hc), hb⟩
    · have := right_pool a (H4.out.2.below h)
      rw [HPB.out.1] at this
      exact this
  clear H4 HG4 HBA5 HSZ3 HPB hz12 hz23 hz34 hz45
  refine wp_region_held_drew (S := (fun a => a.cell? ⟨w2.heap.size, 1, none⟩ = some (.int .i64 1) ∧ S a)) (by kernel_rfl) ⟨hc1 _ hS0, hS0⟩ (fun hHeld => ?_)
  refine take_to 0 (some 32) (v := ?_) rfl rfl (by kernel_rfl) (by kernel_rfl) (by kernel_rfl) (fun _ _ _ h => h) (Or.inl ⟨by rfl, ?_⟩) (by assumption) ?_
  rotate_left
  · intro w hSw
    (try dsimp only at hSw)
    go_simp
    with_reducible rfl
  simp only [Act.put, List.setIfInBounds_toArray, List.set_cons_zero, List.set_cons_succ]
  refine take_to 1 (some 33) (v := ?_) rfl rfl (by kernel_rfl) (by kernel_rfl) (by kernel_rfl) (fun _ _ _ h => h) (Or.inl ⟨by rfl, ?_⟩) (by assumption) ?_
  rotate_left
  · intro w hSw
    (try dsimp only at hSw)
    go_simp
    with_reducible rfl
  simp only [Act.put, List.setIfInBounds_toArray, List.set_cons_zero, List.set_cons_succ]
  refine take_to 2 (some 34) (v := ?_) rfl rfl (by kernel_rfl) (by kernel_rfl) (by kernel_rfl) (fun _ _ _ h => h) (Or.inl ⟨by rfl, ?_⟩) (by assumption) ?_
  rotate_left
  · intro w hSw
    (try dsimp only at hSw)
    go_simp
    with_reducible rfl
  simp only [Act.put, List.setIfInBounds_toArray, List.set_cons_zero, List.set_cons_succ]
  refine take_to 3 (some 35) (v := ?_) rfl rfl (by kernel_rfl) (by kernel_rfl) (by kernel_rfl) (fun _ _ _ h => h) (Or.inl ⟨by rfl, ?_⟩) (by assumption) ?_
  rotate_left
  · intro w hSw
    (try dsimp only at hSw)
    go_simp
    with_reducible rfl
  simp only [Act.put, List.setIfInBounds_toArray, List.set_cons_zero, List.set_cons_succ]
  refine take_to 4 (some 36) (v := ?_) rfl rfl (by kernel_rfl) (by kernel_rfl) (by kernel_rfl) (fun _ _ _ h => h) (Or.inl ⟨by rfl, ?_⟩) (by assumption) ?_
  rotate_left
  · intro w hSw
    (try dsimp only at hSw)
    go_simp
    with_reducible rfl
  simp only [Act.put, List.setIfInBounds_toArray, List.set_cons_zero, List.set_cons_succ]
  refine take_to 5 (some 37) (v := ?_) rfl rfl (by kernel_rfl) (by kernel_rfl) (by kernel_rfl) (fun _ _ _ h => h) (Or.inl ⟨by rfl, ?_⟩) (by assumption) ?_
  rotate_left
  · intro w hSw
    (try dsimp only at hSw)
    go_simp
    with_reducible rfl
  simp only [Act.put, List.setIfInBounds_toArray, List.set_cons_zero, List.set_cons_succ]
  refine take_to 6 (some 38) (v := ?_) rfl rfl (by kernel_rfl) (by kernel_rfl) (by kernel_rfl) (fun _ _ _ h => h) (Or.inl ⟨by rfl, ?_⟩) (by assumption) ?_
  rotate_left
  · intro w hSw
    (try dsimp only at hSw)
    go_simp
    with_reducible rfl
  simp only [Act.put, List.setIfInBounds_toArray, List.set_cons_zero, List.set_cons_succ]
  refine take_to 7 (some 39) (v := ?_) rfl rfl (by kernel_rfl) (by kernel_rfl) (by kernel_rfl) (fun _ _ _ h => h) (Or.inl ⟨by rfl, ?_⟩) (by assumption) ?_
  rotate_left
  · intro w hSw
    (try dsimp only at hSw)
    go_simp
    with_reducible rfl
  simp only [Act.put, List.setIfInBounds_toArray, List.set_cons_zero, List.set_cons_succ]
  refine take_to 8 (some 40) (v := ?_) rfl rfl (by kernel_rfl) (by kernel_rfl) (by kernel_rfl) (fun _ _ _ h => h) (Or.inl ⟨by rfl, ?_⟩) (by assumption) ?_
  rotate_left
  · intro w hSw
    (try dsimp only at hSw)
    go_simp
    with_reducible rfl
  simp only [Act.put, List.setIfInBounds_toArray, List.set_cons_zero, List.set_cons_succ]
  refine take_to 9 (some 41) (v := ?_) rfl rfl (by kernel_rfl) (by kernel_rfl) (by kernel_rfl) (fun _ _ _ h => h) (Or.inl ⟨by rfl, ?_⟩) (by assumption) ?_
  rotate_left
  · intro w hSw
    (try dsimp only at hSw)
    go_simp
    with_reducible rfl
  simp only [Act.put, List.setIfInBounds_toArray, List.set_cons_zero, List.set_cons_succ]
  refine take_to 10 (some 42) (v := ?_) rfl rfl (by kernel_rfl) (by kernel_rfl) (by kernel_rfl) (fun _ _ _ h => h) (Or.inl ⟨by rfl, ?_⟩) (by assumption) ?_
  rotate_left
  · intro w hSw
    (try dsimp only at hSw)
    go_simp
    with_reducible rfl
  simp only [Act.put, List.setIfInBounds_toArray, List.set_cons_zero, List.set_cons_succ]
  refine take_to 11 (some 43) (v := ?_) rfl rfl (by kernel_rfl) (by kernel_rfl) (by kernel_rfl) (fun _ _ _ h => h) (Or.inl ⟨by rfl, ?_⟩) (by assumption) ?_
  rotate_left
  · intro w hSw
    (try dsimp only at hSw)
    go_simp
    with_reducible rfl
  simp only [Act.put, List.setIfInBounds_toArray, List.set_cons_zero, List.set_cons_succ]
  refine take_to 12 (some 44) (v := ?_) rfl rfl (by kernel_rfl) (by kernel_rfl) (by kernel_rfl) (fun _ _ _ h => h) (Or.inl ⟨by rfl, ?_⟩) (by assumption) ?_
  rotate_left
  · intro w hSw
    (try dsimp only at hSw)
    go_simp
    with_reducible rfl
  simp only [Act.put, List.setIfInBounds_toArray, List.set_cons_zero, List.set_cons_succ]
  refine take_to 13 (some 45) (v := ?_) rfl rfl (by kernel_rfl) (by kernel_rfl) (by kernel_rfl) (fun _ _ _ h => h) (Or.inl ⟨by rfl, ?_⟩) (by assumption) ?_
  rotate_left
  · intro w hSw
    (try dsimp only at hSw)
    go_simp
    with_reducible rfl
  simp only [Act.put, List.setIfInBounds_toArray, List.set_cons_zero, List.set_cons_succ]
  refine take_to 14 (some 46) (v := ?_) rfl rfl (by kernel_rfl) (by kernel_rfl) (by kernel_rfl) (fun _ _ _ h => h) (Or.inl ⟨by rfl, ?_⟩) (by assumption) ?_
  rotate_left
  · intro w hSw
    (try dsimp only at hSw)
    go_simp
    with_reducible rfl
  simp only [Act.put, List.setIfInBounds_toArray, List.set_cons_zero, List.set_cons_succ]
  refine take_to 15 (some 47) (v := ?_) rfl rfl (by kernel_rfl) (by kernel_rfl) (by kernel_rfl) (fun _ _ _ h => h) (Or.inl ⟨by rfl, ?_⟩) (by assumption) ?_
  rotate_left
  · intro w hSw
    (try dsimp only at hSw)
    go_simp
    with_reducible rfl
  simp only [Act.put, List.setIfInBounds_toArray, List.set_cons_zero, List.set_cons_succ]
  refine take_to 16 (some 48) (v := ?_) rfl rfl (by kernel_rfl) (by kernel_rfl) (by kernel_rfl) (fun _ _ _ h => h) (Or.inl ⟨by rfl, ?_⟩) (by assumption) ?_
  rotate_left
  · intro w hSw
    (try dsimp only at hSw)
    go_simp
    with_reducible rfl
  simp only [Act.put, List.setIfInBounds_toArray, List.set_cons_zero, List.set_cons_succ]
  refine take_to 17 (some 49) (v := ?_) rfl rfl (by kernel_rfl) (by kernel_rfl) (by kernel_rfl) (fun _ _ _ h => h) (Or.inl ⟨by rfl, ?_⟩) (by assumption) ?_
  rotate_left
  · intro w hSw
    (try dsimp only at hSw)
    go_simp
    with_reducible rfl
  simp only [Act.put, List.setIfInBounds_toArray, List.set_cons_zero, List.set_cons_succ]
  refine take_to 18 (some 50) (v := ?_) rfl rfl (by kernel_rfl) (by kernel_rfl) (by kernel_rfl) (fun _ _ _ h => h) (Or.inl ⟨by rfl, ?_⟩) (by assumption) ?_
  rotate_left
  · intro w hSw
    (try dsimp only at hSw)
    go_simp
    with_reducible rfl
  simp only [Act.put, List.setIfInBounds_toArray, List.set_cons_zero, List.set_cons_succ]
  refine take_to 19 (some 51) (v := ?_) rfl rfl (by kernel_rfl) (by kernel_rfl) (by kernel_rfl) (fun _ _ _ h => h) (Or.inl ⟨by rfl, ?_⟩) (by assumption) ?_
  rotate_left
  · intro w hSw
    (try dsimp only at hSw)
    go_simp
    with_reducible rfl
  simp only [Act.put, List.setIfInBounds_toArray, List.set_cons_zero, List.set_cons_succ]
  refine take_to 20 (some 52) (v := ?_) rfl rfl (by kernel_rfl) (by kernel_rfl) (by kernel_rfl) (fun _ _ _ h => h) (Or.inl ⟨by rfl, ?_⟩) (by assumption) ?_
  rotate_left
  · intro w hSw
    (try dsimp only at hSw)
    go_simp
    with_reducible rfl
  simp only [Act.put, List.setIfInBounds_toArray, List.set_cons_zero, List.set_cons_succ]
  refine take_to 21 (some 53) (v := ?_) rfl rfl (by kernel_rfl) (by kernel_rfl) (by kernel_rfl) (fun _ _ _ h => h) (Or.inl ⟨by rfl, ?_⟩) (by assumption) ?_
  rotate_left
  · intro w hSw
    (try dsimp only at hSw)
    go_simp
    with_reducible rfl
  simp only [Act.put, List.setIfInBounds_toArray, List.set_cons_zero, List.set_cons_succ]
  refine take_to 22 (some 54) (v := ?_) rfl rfl (by kernel_rfl) (by kernel_rfl) (by kernel_rfl) (fun _ _ _ h => h) (Or.inl ⟨by rfl, ?_⟩) (by assumption) ?_
  rotate_left
  · intro w hSw
    (try dsimp only at hSw)
    go_simp
    with_reducible rfl
  simp only [Act.put, List.setIfInBounds_toArray, List.set_cons_zero, List.set_cons_succ]
  refine take_to 23 (some 55) (v := ?_) rfl rfl (by kernel_rfl) (by kernel_rfl) (by kernel_rfl) (fun _ _ _ h => h) (Or.inl ⟨by rfl, ?_⟩) (by assumption) ?_
  rotate_left
  · intro w hSw
    (try dsimp only at hSw)
    go_simp
    with_reducible rfl
  simp only [Act.put, List.setIfInBounds_toArray, List.set_cons_zero, List.set_cons_succ]
  refine take_to 24 (some 56) (v := ?_) rfl rfl (by kernel_rfl) (by kernel_rfl) (by kernel_rfl) (fun _ _ _ h => h) (Or.inl ⟨by rfl, ?_⟩) (by assumption) ?_
  rotate_left
  · intro w hSw
    (try dsimp only at hSw)
    go_simp
    with_reducible rfl
  simp only [Act.put, List.setIfInBounds_toArray, List.set_cons_zero, List.set_cons_succ]
  refine take_to 25 (some 57) (v := .agg X4) rfl rfl (by kernel_rfl) (by kernel_rfl) (by kernel_rfl) (fun _ _ _ h => h) (yields_pool (by rfl) _ (by rfl) w3.heap.size (by rfl) X4 (fun a h => HL4.out a h.2) HF4.out.1) (by assumption) ?_
  simp only [Act.put, List.setIfInBounds_toArray, List.set_cons_zero, List.set_cons_succ]
  refine wpAnyH_ready (rs := [26]) (by kernel_rfl) (by simp) ?_
  refine AllReadyH.cons rfl (fun K hK => ?_) AllReadyH.nil
  go_simp
  refine (HC.out.1 _ (And.right (by assumption))).mono ?_
  rintro e wa ⟨Z, rfl, HZ, hba⟩
  go_wp2_with fail
  refine hK.out _ _ (by have hSn := hkeep _ _ (by assumption) (And.right (by assumption)); exact ⟨hc1 _ hSn, hSn⟩) (fun hHeld => ?_)
  clear hK K
  try simp only [Act.put, List.setIfInBounds_toArray, List.set_cons_zero, List.set_cons_succ]
  refine wpAnyH_ready (rs := [27]) (by kernel_rfl) (by simp) ?_
  refine AllReadyH.cons rfl (fun K hK => ?_) AllReadyH.nil
  go_simp
  refine (HZ.out _ (Below.refl _ _)).mono ?_
  rintro e wb ⟨rfl, hbb⟩
  go_wp2_with fail
  refine hK.out _ _ (by have hSn := hkeep _ _ (by assumption) (And.right (by assumption)); exact ⟨hc1 _ hSn, hSn⟩) (fun hHeld => ?_)
  clear hK K
  try simp only [Act.put, List.setIfInBounds_toArray, List.set_cons_zero, List.set_cons_succ]
  refine take_to 28 (some 60) (v := ?_) rfl rfl (by kernel_rfl) (by kernel_rfl) (by kernel_rfl) (fun _ _ _ h => h) (Or.inl ⟨by rfl, ?_⟩) (by assumption) ?_
  rotate_left
  · intro w hSw
    (try dsimp only at hSw)
    go_simp
    with_reducible rfl
  simp only [Act.put, List.setIfInBounds_toArray, List.set_cons_zero, List.set_cons_succ]
  refine take_to 29 (some 61) (v := ?_) rfl rfl (by kernel_rfl) (by kernel_rfl) (by kernel_rfl) (fun _ _ _ h => h) (Or.inl ⟨by rfl, ?_⟩) (by assumption) ?_
  rotate_left
  · intro w hSw
    (try dsimp only at hSw)
    go_simp
    with_reducible rfl
  simp only [Act.put, List.setIfInBounds_toArray, List.set_cons_zero, List.set_cons_succ]
  refine take_to 30 (some 62) (v := .agg X1) rfl rfl (by kernel_rfl) (by kernel_rfl) (by kernel_rfl) (fun _ _ _ h => h) (yields_pool (by rfl) _ (by rfl) w2.heap.size (by rfl) X1 (fun a h => HL1.out a h.2) HF1.out.1) (by assumption) ?_
  simp only [Act.put, List.setIfInBounds_toArray, List.set_cons_zero, List.set_cons_succ]
  refine wpAnyH_ready (rs := [31]) (by kernel_rfl) (by simp) ?_
  refine AllReadyH.cons rfl (fun K hK => ?_) AllReadyH.nil
  go_simp
  refine (HC.out.2.1 _ (And.right (by assumption))).mono ?_
  rintro e wc ⟨rfl, hbc⟩
  go_wp2_with fail
  refine hK.out _ _ (by have hSn := hkeep _ _ (by assumption) (And.right (by assumption)); exact ⟨hc1 _ hSn, hSn⟩) (fun hHeld => ?_)
  clear hK K
  try simp only [Act.put, List.setIfInBounds_toArray, List.set_cons_zero, List.set_cons_succ]
  refine take_to 32 (some 64) (v := ?_) rfl rfl (by kernel_rfl) (by kernel_rfl) (by kernel_rfl) (fun _ _ _ h => h) (Or.inl ⟨by rfl, ?_⟩) (by assumption) ?_
  rotate_left
  · intro w hSw
    (try dsimp only at hSw)
    go_simp
    with_reducible rfl
  simp only [Act.put, List.setIfInBounds_toArray, List.set_cons_zero, List.set_cons_succ]
  refine take_to 33 (some 0) (v := ?_) rfl rfl (by kernel_rfl) (by kernel_rfl) (by kernel_rfl) (fun _ _ _ h => h) (Or.inl ⟨by rfl, ?_⟩) (by assumption) ?_
  rotate_left
  · intro w hSw
    (try dsimp only at hSw)
    go_simp
    with_reducible rfl
  simp only [Act.put, List.setIfInBounds_toArray, List.set_cons_zero, List.set_cons_succ]
  refine wpAnyH_done (by kernel_rfl) ?_ _
  have hH := HC.out.2.2 _ (And.right (by assumption))
  go_wp2
  go_ret
  exact ⟨rfl, hH⟩

end Go.Proofs.Yticmloddkngfnah

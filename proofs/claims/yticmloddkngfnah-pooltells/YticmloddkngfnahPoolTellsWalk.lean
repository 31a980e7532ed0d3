/- Package pool answers what its chapter says: framewardenlaw.PoolTells returns true at every pool within the form's own reach and at all numbers. -/
import Derived.Test.YticmloddkngfnahPoolRef4
namespace Go.Proofs.Yticmloddkngfnah
open Go.RowKit
set_option linter.unusedSimpArgs false
set_option linter.unusedVariables false

theorem mc_share (l : List (Int × Int)) (R : Nat → Int) (n : Int) : mcE l R n 1 = psE l R n ∧ mcR l R n 1 = psR l R n := by
  have h : mcE l R n 1 = psE l R n := by
    unfold mcE psE
    simp
  exact ⟨h, by unfold mcR psR; rw [h]⟩

theorem mc_drop (l : List (Int × Int)) (R : Nat → Int) (n : Int) : mcE l R n (-1) = pwE l R n ∧ mcR l R n (-1) = pdR l R n := by
  have h : mcE l R n (-1) = pwE l R n := by
    unfold mcE
    by_cases h0 : pwE l R n = 0
    · simp [h0]
    · simp [h0]
  exact ⟨h, by unfold mcR pdR; rw [h]; rfl⟩

/-! The document's own answers over pools, so said. -/
theorem mtake_pool {X : Array Value} {l : List (Int × Int)} {R : Nat → Int} (w : World) (h : IsPool w X l R) : Calls Try.prog 7 #[.agg X] w fun e w' => ∃ Y, e = .returned (.tuple #[.agg Y, .int .i64 (ptN l R), .int .i64 (ptE l R)]) ∧ IsPool w' Y (ptL l R) (ptR l R) ∧ Below w.heap.size w w' := by
  obtain ⟨v, rfl, h⟩ := h
  refine (mtake_any v l R w h).mono ?_
  rintro e w1 ⟨v, rfl, ho, hb⟩
  exact ⟨_, rfl, ⟨v, rfl, ho.blocks (by have := ptL_len l R; omega)⟩, hb⟩

theorem mshare_pool {X : Array Value} {l : List (Int × Int)} {R : Nat → Int} (n : Int) (w : World) (h : IsPool w X l R) (hR : ∀ i : Nat, i < 64 → R i ≤ 9223372036854775807) : Calls Try.prog 9 #[.agg X, .int .i64 n, .int .i64 1] w fun e w' => ∃ Y, e = .returned (.tuple #[.agg Y, .int .i64 (psE l R n)]) ∧ IsPool w' Y (psL l R n) (psR l R n) ∧ Below w.heap.size w w' := by
  obtain ⟨v, rfl, h⟩ := h
  have hl := h.len
  obtain ⟨e1, e2⟩ := mc_share l R n
  have := mchange_any v l R n 1 (psL l R n) w h hR (Or.inl rfl) (fun h0 => by rw [e2]; exact share_pool (by rw [← e1]; exact h0)) (fun h0 => (psE_bad (by rw [← e1]; exact h0)).1)
  rw [e1, e2] at this
  refine this.mono ?_
  rintro e w1 ⟨v, rfl, ho, hb⟩
  exact ⟨_, rfl, ⟨v, rfl, ho.blocks (by unfold psL; split; exact hl; simp)⟩, hb⟩

theorem mdrop_pool {X : Array Value} {l : List (Int × Int)} {R : Nat → Int} (n : Int) (w : World) (h : IsPool w X l R) (hR : ∀ i : Nat, i < 64 → R i ≤ 9223372036854775807) : Calls Try.prog 9 #[.agg X, .int .i64 n, .int .i64 (-1)] w fun e w' => ∃ Y, e = .returned (.tuple #[.agg Y, .int .i64 (pwE l R n)]) ∧ IsPool w' Y (pdL l R n) (pdR l R n) ∧ Below w.heap.size w w' := by
  obtain ⟨v, rfl, h⟩ := h
  have hl := h.len
  obtain ⟨e1, e2⟩ := mc_drop l R n
  have := mchange_any v l R n (-1) (pdL l R n) w h hR (Or.inr rfl) (fun h0 => by rw [e2]; exact drop_pool (by rw [← e1]; exact h0)) (fun h0 => (pd_bad (by rw [← e1]; exact h0)).1)
  rw [e1, e2] at this
  refine this.mono ?_
  rintro e w1 ⟨v, rfl, ho, hb⟩
  refine ⟨_, rfl, ⟨v, rfl, ho.blocks ?_⟩, hb⟩
  unfold pdL
  split
  · split
    · have := give_len l n 0; omega
    · omega
  · simp

theorem mof_none (w : World) : Calls Try.prog 13 #[.agg (numsL fun _ => 0).toArray] w fun e w' => ∃ Y, e = .returned (.agg Y) ∧ IsPool w' Y [(0, 6)] (fun _ => 0) ∧ Below w.heap.size w w' := by
  refine (mof_any (fun _ => 0) w).mono ?_
  rintro e w1 ⟨v, L, rfl, ho, hg, hc, hb⟩
  obtain rfl : L = [(0, 6)] := pool_unique alive13_math.1 hg hc
  exact ⟨_, rfl, ⟨v, rfl, ho.blocks (by simp)⟩, hb⟩

theorem mright_pool {X : Array Value} {l : List (Int × Int)} {R : Nat → Int} (w : World) (h : IsPool w X l R) : Calls Try.prog 15 #[.agg X] w fun e w' => e = .returned (.bool (poolB l R)) ∧ Below w.heap.size w w' := by
  obtain ⟨v, rfl, h⟩ := h
  exact mright_any v l R w h

theorem built_nums : Try.prog.built 23 [] = some (numsL fun _ => 0).toArray := by kernel_rfl

set_option maxRecDepth 100000 in
set_option maxHeartbeats 16000000 in
theorem poolTells_walk (v : Value) (l : List (Int × Int)) (R : Nat → Int) (n : Int) (w : World) (h : IsBlocks w v l) (hR : ∀ i : Nat, i < 64 → R i ≤ 9223372036854775807) (hn : (Lit.int .i64 n).wf = true) :
    Calls Try.prog 3 #[.agg (poolC v R).toArray, .int .i64 n] w fun e w' => e = .returned (.bool true) ∧ Below w.heap.size w w' := by
  have HIN : Hid (∀ w1, Below w.heap.size w w1 → IsPool w1 (poolC v R).toArray l R) := fun w1 hb => ⟨v, rfl, h.below hb⟩
  have HFX : Hid _ := (HIN.out w (Below.refl _ _)).facts
  obtain ⟨X, hX⟩ : ∃ X, Hid (X = (poolC v R).toArray) := ⟨_, rfl⟩
  rw [← hX.out] at HIN HFX ⊢
  clear h hX hn
  have HT : Hid (∀ w1, Below w.heap.size w w1 → _) := fun w1 hb => (take_pool' w1 (HIN.out w1 hb))
  have HMT : Hid (∀ w1, Below w.heap.size w w1 → _) := fun w1 hb => (mtake_pool w1 (HIN.out w1 hb))
  have HSH : Hid (∀ w1, Below w.heap.size w w1 → _) := fun w1 hb => (share_pool' n w1 (HIN.out w1 hb))
  have HMS : Hid (∀ w1, Below w.heap.size w w1 → _) := fun w1 hb => (mshare_pool n w1 (HIN.out w1 hb) hR)
  have HDR : Hid (∀ w1, Below w.heap.size w w1 → _) := fun w1 hb => (drop_pool' n w1 (HIN.out w1 hb) hR)
  have HMD : Hid (∀ w1, Below w.heap.size w w1 → _) := fun w1 hb => (mdrop_pool n w1 (HIN.out w1 hb) hR)
  have HRT : Hid (∀ w1, Below w.heap.size w w1 → _) := fun w1 hb => (right_pool w1 (HIN.out w1 hb))
  have HMR : Hid (∀ w1, Below w.heap.size w w1 → _) := fun w1 hb => (mright_pool w1 (HIN.out w1 hb))
  generalize ptL l R = TL at *
  generalize ptR l R = TR at *
  generalize ptN l R = TN at *
  generalize ptE l R = TE at *
  generalize psL l R n = SL at *
  generalize psR l R n = SR at *
  generalize psE l R n = SE at *
  generalize pdL l R n = DL at *
  generalize pdR l R n = DR at *
  generalize pwE l R n = DE at *
  generalize poolB l R = PB at *
  clear hR HIN
  have hbA : Below w.heap.size w (w.alloc (.cells X 25)) := (Below.refl _ _).alloc (Nat.le_refl _) _
  have HG0 : Hid ((w.alloc (.cells X 25)).heap[w.heap.size]? = some (.cells X 25 (0, 0)) ∧ Below w.heap.size w (w.alloc (.cells X 25))) := ⟨heap_alloc_new w _, hbA⟩
  clear hbA
  have hzv := zero_value
  have hzs := zero_size
  have hzn := zero_ne
  go_enter Try.func3, Try.ntmps3
  go_wp2_with (refine wpList_load_row rfl 25 (.tmp 2) rfl w.heap.size rfl 25 X (0, 0) _ HG0.out.1 Try.underlying25 rfl HFX.out.1 ?_)
  refine Calls.mono (HT.out _ HG0.out.2) ?_
  rintro e w1 ⟨A, rfl, hpA, -, hb⟩
  have HFA : Hid _ := hpA.facts
  have hbB : Below w1.heap.size w1 (w1.alloc (.cells A 25)) := (Below.refl _ _).alloc (Nat.le_refl _) _
  have hbC := hb.trans (hbB.mono hb.size)
  have HG1 : Hid (Below w.heap.size w (w1.alloc (.cells A 25)) ∧ ((w1.alloc (.cells A 25)).heap[w.heap.size]? = some (.cells X 25 (0, 0)) ∧ (w1.alloc (.cells A 25)).heap[w1.heap.size]? = some (.cells A 25 (0, 0))) ∧ (IsPool (w1.alloc (.cells A 25)) A TL TR)) := ⟨bel_next hbC HG0.out.2, ⟨heap_below HG0.out.1 hbC, heap_alloc_new w1 _⟩, hpA.below hbB⟩
  clear hb hbB hbC hpA HG0
  go_wp2_with (first
    | (refine wpList_store_row rfl 25 (.tmp 5) _ rfl w1.heap.size A rfl rfl 25 _ (heap_alloc_new w1 _) HFA.out.1 (by rw [HFA.out.2.1]; exact zero_size) HFA.out.2.2 ?_; rw [World.setRow_alloc_new])
    | (refine wpList_load_row rfl 25 (.tmp 2) rfl w.heap.size rfl 25 X (0, 0) _ HG1.out.2.1.1 Try.underlying25 rfl HFX.out.1 ?_))
  refine Calls.mono (HMT.out _ HG1.out.1) ?_
  rintro e w2 ⟨B, rfl, hpB, hb⟩
  have HFB : Hid _ := hpB.facts
  have hbB : Below w2.heap.size w2 (w2.alloc (.cells B 25)) := (Below.refl _ _).alloc (Nat.le_refl _) _
  have hbC := hb.trans (hbB.mono hb.size)
  have HG2 : Hid (Below w.heap.size w (w2.alloc (.cells B 25)) ∧ ((w2.alloc (.cells B 25)).heap[w.heap.size]? = some (.cells X 25 (0, 0)) ∧ (w2.alloc (.cells B 25)).heap[w1.heap.size]? = some (.cells A 25 (0, 0)) ∧ (w2.alloc (.cells B 25)).heap[w2.heap.size]? = some (.cells B 25 (0, 0))) ∧ (IsPool (w2.alloc (.cells B 25)) A TL TR ∧ IsPool (w2.alloc (.cells B 25)) B TL TR)) := ⟨bel_next hbC HG1.out.1, ⟨heap_below HG1.out.2.1.1 hbC, heap_below HG1.out.2.1.2 hbC, heap_alloc_new w2 _⟩, ⟨HG1.out.2.2.below hbC, hpB.below hbB⟩⟩
  clear hb hbB hbC hpB HG1
  go_wp2_with (first
    | (refine wpList_store_row rfl 25 (.tmp 8) _ rfl w2.heap.size B rfl rfl 25 _ (heap_alloc_new w2 _) HFB.out.1 (by rw [HFB.out.2.1]; exact zero_size) HFB.out.2.2 ?_; rw [World.setRow_alloc_new])
    | (refine wpList_load_row rfl 25 (.tmp 2) rfl w.heap.size rfl 25 X (0, 0) _ HG2.out.2.1.1 Try.underlying25 rfl HFX.out.1 ?_))
  refine Calls.mono (HSH.out _ HG2.out.1) ?_
  rintro e w3 ⟨C, rfl, hpC, -, hb⟩
  have HFC : Hid _ := hpC.facts
  have hbB : Below w3.heap.size w3 (w3.alloc (.cells C 25)) := (Below.refl _ _).alloc (Nat.le_refl _) _
  have hbC := hb.trans (hbB.mono hb.size)
  have HG3 : Hid (Below w.heap.size w (w3.alloc (.cells C 25)) ∧ ((w3.alloc (.cells C 25)).heap[w.heap.size]? = some (.cells X 25 (0, 0)) ∧ (w3.alloc (.cells C 25)).heap[w1.heap.size]? = some (.cells A 25 (0, 0)) ∧ (w3.alloc (.cells C 25)).heap[w2.heap.size]? = some (.cells B 25 (0, 0)) ∧ (w3.alloc (.cells C 25)).heap[w3.heap.size]? = some (.cells C 25 (0, 0))) ∧ (IsPool (w3.alloc (.cells C 25)) A TL TR ∧ IsPool (w3.alloc (.cells C 25)) B TL TR ∧ IsPool (w3.alloc (.cells C 25)) C SL SR)) := ⟨bel_next hbC HG2.out.1, ⟨heap_below HG2.out.2.1.1 hbC, heap_below HG2.out.2.1.2.1 hbC, heap_below HG2.out.2.1.2.2 hbC, heap_alloc_new w3 _⟩, ⟨HG2.out.2.2.1.below hbC, HG2.out.2.2.2.below hbC, hpC.below hbB⟩⟩
  clear hb hbB hbC hpC HG2
  go_wp2_with (first
    | (refine wpList_store_row rfl 25 (.tmp 11) _ rfl w3.heap.size C rfl rfl 25 _ (heap_alloc_new w3 _) HFC.out.1 (by rw [HFC.out.2.1]; exact zero_size) HFC.out.2.2 ?_; rw [World.setRow_alloc_new])
    | (refine wpList_load_row rfl 25 (.tmp 2) rfl w.heap.size rfl 25 X (0, 0) _ HG3.out.2.1.1 Try.underlying25 rfl HFX.out.1 ?_))
  refine Calls.mono (HMS.out _ HG3.out.1) ?_
  rintro e w4 ⟨D, rfl, hpD, hb⟩
  have HFD : Hid _ := hpD.facts
  have hbB : Below w4.heap.size w4 (w4.alloc (.cells D 25)) := (Below.refl _ _).alloc (Nat.le_refl _) _
  have hbC := hb.trans (hbB.mono hb.size)
  have HG4 : Hid (Below w.heap.size w (w4.alloc (.cells D 25)) ∧ ((w4.alloc (.cells D 25)).heap[w.heap.size]? = some (.cells X 25 (0, 0)) ∧ (w4.alloc (.cells D 25)).heap[w1.heap.size]? = some (.cells A 25 (0, 0)) ∧ (w4.alloc (.cells D 25)).heap[w2.heap.size]? = some (.cells B 25 (0, 0)) ∧ (w4.alloc (.cells D 25)).heap[w3.heap.size]? = some (.cells C 25 (0, 0)) ∧ (w4.alloc (.cells D 25)).heap[w4.heap.size]? = some (.cells D 25 (0, 0))) ∧ (IsPool (w4.alloc (.cells D 25)) A TL TR ∧ IsPool (w4.alloc (.cells D 25)) B TL TR ∧ IsPool (w4.alloc (.cells D 25)) C SL SR ∧ IsPool (w4.alloc (.cells D 25)) D SL SR)) := ⟨bel_next hbC HG3.out.1, ⟨heap_below HG3.out.2.1.1 hbC, heap_below HG3.out.2.1.2.1 hbC, heap_below HG3.out.2.1.2.2.1 hbC, heap_below HG3.out.2.1.2.2.2 hbC, heap_alloc_new w4 _⟩, ⟨HG3.out.2.2.1.below hbC, HG3.out.2.2.2.1.below hbC, HG3.out.2.2.2.2.below hbC, hpD.below hbB⟩⟩
  clear hb hbB hbC hpD HG3
  go_wp2_with (first
    | (refine wpList_store_row rfl 25 (.tmp 13) _ rfl w4.heap.size D rfl rfl 25 _ (heap_alloc_new w4 _) HFD.out.1 (by rw [HFD.out.2.1]; exact zero_size) HFD.out.2.2 ?_; rw [World.setRow_alloc_new])
    | (refine wpList_load_row rfl 25 (.tmp 2) rfl w.heap.size rfl 25 X (0, 0) _ HG4.out.2.1.1 Try.underlying25 rfl HFX.out.1 ?_))
  refine Calls.mono (HDR.out _ HG4.out.1) ?_
  rintro e w5 ⟨U, rfl, hpU, -, hb⟩
  have HFU : Hid _ := hpU.facts
  have hbB : Below w5.heap.size w5 (w5.alloc (.cells U 25)) := (Below.refl _ _).alloc (Nat.le_refl _) _
  have hbC := hb.trans (hbB.mono hb.size)
  have HG5 : Hid (Below w.heap.size w (w5.alloc (.cells U 25)) ∧ ((w5.alloc (.cells U 25)).heap[w.heap.size]? = some (.cells X 25 (0, 0)) ∧ (w5.alloc (.cells U 25)).heap[w1.heap.size]? = some (.cells A 25 (0, 0)) ∧ (w5.alloc (.cells U 25)).heap[w2.heap.size]? = some (.cells B 25 (0, 0)) ∧ (w5.alloc (.cells U 25)).heap[w3.heap.size]? = some (.cells C 25 (0, 0)) ∧ (w5.alloc (.cells U 25)).heap[w4.heap.size]? = some (.cells D 25 (0, 0)) ∧ (w5.alloc (.cells U 25)).heap[w5.heap.size]? = some (.cells U 25 (0, 0))) ∧ (IsPool (w5.alloc (.cells U 25)) A TL TR ∧ IsPool (w5.alloc (.cells U 25)) B TL TR ∧ IsPool (w5.alloc (.cells U 25)) C SL SR ∧ IsPool (w5.alloc (.cells U 25)) D SL SR ∧ IsPool (w5.alloc (.cells U 25)) U DL DR)) := ⟨bel_next hbC HG4.out.1, ⟨heap_below HG4.out.2.1.1 hbC, heap_below HG4.out.2.1.2.1 hbC, heap_below HG4.out.2.1.2.2.1 hbC, heap_below HG4.out.2.1.2.2.2.1 hbC, heap_below HG4.out.2.1.2.2.2.2 hbC, heap_alloc_new w5 _⟩, ⟨HG4.out.2.2.1.below hbC, HG4.out.2.2.2.1.below hbC, HG4.out.2.2.2.2.1.below hbC, HG4.out.2.2.2.2.2.below hbC, hpU.below hbB⟩⟩
  clear hb hbB hbC hpU HG4
  go_wp2_with (first
    | (refine wpList_store_row rfl 25 (.tmp 15) _ rfl w5.heap.size U rfl rfl 25 _ (heap_alloc_new w5 _) HFU.out.1 (by rw [HFU.out.2.1]; exact zero_size) HFU.out.2.2 ?_; rw [World.setRow_alloc_new])
    | (refine wpList_load_row rfl 25 (.tmp 2) rfl w.heap.size rfl 25 X (0, 0) _ HG5.out.2.1.1 Try.underlying25 rfl HFX.out.1 ?_))
  refine Calls.mono (HMD.out _ HG5.out.1) ?_
  rintro e w6 ⟨V, rfl, hpV, hb⟩
  have HFV : Hid _ := hpV.facts
  have hbB : Below w6.heap.size w6 (w6.alloc (.cells V 25)) := (Below.refl _ _).alloc (Nat.le_refl _) _
  have hbC := hb.trans (hbB.mono hb.size)
  have HG6 : Hid (Below w.heap.size w (w6.alloc (.cells V 25)) ∧ ((w6.alloc (.cells V 25)).heap[w.heap.size]? = some (.cells X 25 (0, 0)) ∧ (w6.alloc (.cells V 25)).heap[w1.heap.size]? = some (.cells A 25 (0, 0)) ∧ (w6.alloc (.cells V 25)).heap[w2.heap.size]? = some (.cells B 25 (0, 0)) ∧ (w6.alloc (.cells V 25)).heap[w3.heap.size]? = some (.cells C 25 (0, 0)) ∧ (w6.alloc (.cells V 25)).heap[w4.heap.size]? = some (.cells D 25 (0, 0)) ∧ (w6.alloc (.cells V 25)).heap[w5.heap.size]? = some (.cells U 25 (0, 0)) ∧ (w6.alloc (.cells V 25)).heap[w6.heap.size]? = some (.cells V 25 (0, 0))) ∧ (IsPool (w6.alloc (.cells V 25)) A TL TR ∧ IsPool (w6.alloc (.cells V 25)) B TL TR ∧ IsPool (w6.alloc (.cells V 25)) C SL SR ∧ IsPool (w6.alloc (.cells V 25)) D SL SR ∧ IsPool (w6.alloc (.cells V 25)) U DL DR ∧ IsPool (w6.alloc (.cells V 25)) V DL DR)) := ⟨bel_next hbC HG5.out.1, ⟨heap_below HG5.out.2.1.1 hbC, heap_below HG5.out.2.1.2.1 hbC, heap_below HG5.out.2.1.2.2.1 hbC, heap_below HG5.out.2.1.2.2.2.1 hbC, heap_below HG5.out.2.1.2.2.2.2.1 hbC, heap_below HG5.out.2.1.2.2.2.2.2 hbC, heap_alloc_new w6 _⟩, ⟨HG5.out.2.2.1.below hbC, HG5.out.2.2.2.1.below hbC, HG5.out.2.2.2.2.1.below hbC, HG5.out.2.2.2.2.2.1.below hbC, HG5.out.2.2.2.2.2.2.below hbC, hpV.below hbB⟩⟩
  clear hb hbB hbC hpV HG5
  go_wp2_with (refine wpList_store_row rfl 25 (.tmp 17) _ rfl w6.heap.size V rfl rfl 25 _ (heap_alloc_new w6 _) HFV.out.1 (by rw [HFV.out.2.1]; exact zero_size) HFV.out.2.2 ?_; rw [World.setRow_alloc_new])
  obtain ⟨S, hS0, hkeep, HRW, HC⟩ : ∃ S : World → Prop, S (w6.alloc (.cells V 25)).drew ∧ (∀ a b : World, Below a.heap.size a b → S a → S b) ∧
      Hid ((∀ a : World, S a → a.heap[w.heap.size]? = some (.cells X 25 (0, 0))) ∧ (∀ a : World, S a → a.heap[w1.heap.size]? = some (.cells A 25 (0, 0))) ∧ (∀ a : World, S a → a.heap[w2.heap.size]? = some (.cells B 25 (0, 0))) ∧ (∀ a : World, S a → a.heap[w3.heap.size]? = some (.cells C 25 (0, 0))) ∧ (∀ a : World, S a → a.heap[w4.heap.size]? = some (.cells D 25 (0, 0))) ∧ (∀ a : World, S a → a.heap[w5.heap.size]? = some (.cells U 25 (0, 0))) ∧ (∀ a : World, S a → a.heap[w6.heap.size]? = some (.cells V 25 (0, 0)))) ∧
      Hid ((∀ a : World, S a → Calls Try.prog 14 #[.agg X] a fun e b => e = .returned (.bool PB) ∧ Below a.heap.size a b) ∧ (∀ a : World, S a → Calls Try.prog 15 #[.agg X] a fun e b => e = .returned (.bool PB) ∧ Below a.heap.size a b) ∧
        (∀ a : World, S a → Calls Try.prog 11 #[.agg A, .agg B] a fun e b => e = .returned (.bool true) ∧ Below a.heap.size a b) ∧ (∀ a : World, S a → Calls Try.prog 11 #[.agg C, .agg D] a fun e b => e = .returned (.bool true) ∧ Below a.heap.size a b) ∧ (∀ a : World, S a → Calls Try.prog 11 #[.agg U, .agg V] a fun e b => e = .returned (.bool true) ∧ Below a.heap.size a b) ∧
        (∀ a : World, S a → Below w.heap.size w a)) := by
    refine ⟨fun a => Below (w6.alloc (.cells V 25)).heap.size (w6.alloc (.cells V 25)) a, (Below.refl _ _).drew, fun a b h1 h2 => bel_next h1 h2, ⟨fun a h => heap_below HG6.out.2.1.1 h, fun a h => heap_below HG6.out.2.1.2.1 h, fun a h => heap_below HG6.out.2.1.2.2.1 h, fun a h => heap_below HG6.out.2.1.2.2.2.1 h, fun a h => heap_below HG6.out.2.1.2.2.2.2.1 h, fun a h => heap_below HG6.out.2.1.2.2.2.2.2.1 h, fun a h => heap_below HG6.out.2.1.2.2.2.2.2.2 h⟩, fun a h => HRT.out a (bel_next h HG6.out.1), fun a h => HMR.out a (bel_next h HG6.out.1), fun a h => same_pool a (HG6.out.2.2.1.below h) (HG6.out.2.2.2.1.below h), fun a h => same_pool a (HG6.out.2.2.2.2.1.below h) (HG6.out.2.2.2.2.2.1.below h), fun a h => same_pool a (HG6.out.2.2.2.2.2.2.1.below h) (HG6.out.2.2.2.2.2.2.2.below h), fun a h => bel_next h HG6.out.1⟩
  clear HG6 HT HMT HSH HMS HDR HMD HRT HMR
  refine wp_region_held_drew (S := S) (by kernel_rfl) hS0 (fun hHeld => ?_)
  clear hS0
  refine take_to 1 (some 56) (v := .agg (numsL fun _ => 0).toArray) rfl rfl (by kernel_rfl) (by kernel_rfl) (by kernel_rfl) (fun _ _ _ h => h) (yields_build (by rfl) 23 _ (by rfl) [] (by rfl) _ built_nums) (by assumption) ?_
  simp only [Act.put, List.setIfInBounds_toArray, List.set_cons_zero, List.set_cons_succ]
  obtain ⟨N0, hN0⟩ : ∃ N0, Hid (N0 = (numsL fun _ => 0).toArray) := ⟨_, rfl⟩
  have HMO : Hid (∀ w1 : World, Calls Try.prog 13 #[.agg N0] w1 fun e w' => ∃ Y, e = .returned (.agg Y) ∧ IsPool w' Y [(0, 6)] (fun _ => 0) ∧ Below w1.heap.size w1 w') := fun w1 => by rw [hN0.out]; exact mof_none w1
  rw [← hN0.out]
  clear hN0
  refine wpAnyH_ready (rs := [0]) (by kernel_rfl) (by simp) ?_
  refine AllReadyH.cons rfl (fun K hK => ?_) AllReadyH.nil
  go_simp
  refine Calls.mono (new_pool _) ?_
  rintro e wa ⟨Z, rfl, hz, -, hba⟩
  go_wp2_with fail
  refine hK.out _ _ (hkeep _ _ (by assumption) (by assumption)) (fun hHeld => ?_)
  clear hK K
  try simp only [Act.put, List.setIfInBounds_toArray, List.set_cons_zero, List.set_cons_succ]
  have HZ : Hid _ := hz
  clear hz
  refine wpAnyH_ready (rs := [2]) (by kernel_rfl) (by simp) ?_
  refine AllReadyH.cons rfl (fun K hK => ?_) AllReadyH.nil
  go_simp
  refine Calls.mono (HMO.out _) ?_
  rintro e wb ⟨Z2, rfl, hz2, hbb⟩
  go_wp2_with fail
  refine hK.out _ _ (hkeep _ _ (by assumption) (by assumption)) (fun hHeld => ?_)
  clear hK K
  try simp only [Act.put, List.setIfInBounds_toArray, List.set_cons_zero, List.set_cons_succ]
  refine wpAnyH_ready (rs := [3]) (by kernel_rfl) (by simp) ?_
  refine AllReadyH.cons rfl (fun K hK => ?_) AllReadyH.nil
  go_simp
  refine Calls.mono (same_pool _ (IsPool.below HZ.out hbb) hz2) ?_
  rintro e wc ⟨rfl, hbc⟩
  go_wp2_with fail
  refine hK.out _ _ (hkeep _ _ (by assumption) (by assumption)) (fun hHeld => ?_)
  clear hK K
  try simp only [Act.put, List.setIfInBounds_toArray, List.set_cons_zero, List.set_cons_succ]
  clear hz2 HZ HMO
  refine take_to 4 (some 59) (v := ?_) rfl rfl (by kernel_rfl) (by kernel_rfl) (by kernel_rfl) (fun _ _ _ h => h) (Or.inl ⟨by rfl, ?_⟩) (by assumption) ?_
  rotate_left
  · intro w hSw
    go_simp
    with_reducible rfl
  simp only [Act.put, List.setIfInBounds_toArray, List.set_cons_zero, List.set_cons_succ]
  refine take_to 5 (some 60) (v := .agg X) rfl rfl (by kernel_rfl) (by kernel_rfl) (by kernel_rfl) (fun _ _ _ h => h) (yields_row (by rfl) 25 _ (by rfl) w.heap.size (by rfl) 25 X _ (fun a h => HRW.out.1 a h) Try.underlying25 rfl HFX.out.1) (by assumption) ?_
  simp only [Act.put, List.setIfInBounds_toArray, List.set_cons_zero, List.set_cons_succ]
  refine take_to 7 (some 62) (v := .agg X) rfl rfl (by kernel_rfl) (by kernel_rfl) (by kernel_rfl) (fun _ _ _ h => h) (yields_row (by rfl) 25 _ (by rfl) w.heap.size (by rfl) 25 X _ (fun a h => HRW.out.1 a h) Try.underlying25 rfl HFX.out.1) (by assumption) ?_
  simp only [Act.put, List.setIfInBounds_toArray, List.set_cons_zero, List.set_cons_succ]
  refine wpAnyH_ready (rs := [6]) (by kernel_rfl) (by simp) ?_
  refine AllReadyH.cons rfl (fun K hK => ?_) AllReadyH.nil
  go_simp
  refine Calls.mono (HC.out.1 _ (by assumption)) ?_
  rintro e wd ⟨rfl, hbd⟩
  go_wp2_with fail
  refine hK.out _ _ (hkeep _ _ (by assumption) (by assumption)) (fun hHeld => ?_)
  clear hK K
  try simp only [Act.put, List.setIfInBounds_toArray, List.set_cons_zero, List.set_cons_succ]
  refine wpAnyH_ready (rs := [8]) (by kernel_rfl) (by simp) ?_
  refine AllReadyH.cons rfl (fun K hK => ?_) AllReadyH.nil
  go_simp
  refine Calls.mono (HC.out.2.1 _ (by assumption)) ?_
  rintro e we ⟨rfl, hbe⟩
  go_wp2_with fail
  refine hK.out _ _ (hkeep _ _ (by assumption) (by assumption)) (fun hHeld => ?_)
  clear hK K
  try simp only [Act.put, List.setIfInBounds_toArray, List.set_cons_zero, List.set_cons_succ]
  refine take_to 9 (some 64) (v := ?_) rfl rfl (by kernel_rfl) (by kernel_rfl) (by kernel_rfl) (fun _ _ _ h => h) (Or.inl ⟨by rfl, ?_⟩) (by assumption) ?_
  rotate_left
  · intro w hSw
    go_simp
    with_reducible rfl
  simp only [Act.put, List.setIfInBounds_toArray, List.set_cons_zero, List.set_cons_succ]
  refine take_to 10 (some 65) (v := ?_) rfl rfl (by kernel_rfl) (by kernel_rfl) (by kernel_rfl) (fun _ _ _ h => h) (Or.inl ⟨by rfl, ?_⟩) (by assumption) ?_
  rotate_left
  · intro w hSw
    go_simp
    with_reducible rfl
  simp only [Act.put, List.setIfInBounds_toArray, List.set_cons_zero, List.set_cons_succ]
  refine take_to 11 (some 66) (v := ?_) rfl rfl (by kernel_rfl) (by kernel_rfl) (by kernel_rfl) (fun _ _ _ h => h) (Or.inl ⟨by rfl, ?_⟩) (by assumption) ?_
  rotate_left
  · intro w hSw
    go_simp
    with_reducible rfl
  simp only [Act.put, List.setIfInBounds_toArray, List.set_cons_zero, List.set_cons_succ]
  refine take_to 12 (some 67) (v := ?_) rfl rfl (by kernel_rfl) (by kernel_rfl) (by kernel_rfl) (fun _ _ _ h => h) (Or.inl ⟨by rfl, ?_⟩) (by assumption) ?_
  rotate_left
  · intro w hSw
    go_simp
    with_reducible rfl
  simp only [Act.put, List.setIfInBounds_toArray, List.set_cons_zero, List.set_cons_succ]
  refine take_to 13 (some 68) (v := ?_) rfl rfl (by kernel_rfl) (by kernel_rfl) (by kernel_rfl) (fun _ _ _ h => h) (Or.inl ⟨by rfl, ?_⟩) (by assumption) ?_
  rotate_left
  · intro w hSw
    go_simp
    with_reducible rfl
  simp only [Act.put, List.setIfInBounds_toArray, List.set_cons_zero, List.set_cons_succ]
  refine take_to 14 (some 69) (v := ?_) rfl rfl (by kernel_rfl) (by kernel_rfl) (by kernel_rfl) (fun _ _ _ h => h) (Or.inl ⟨by rfl, ?_⟩) (by assumption) ?_
  rotate_left
  · intro w hSw
    go_simp
    with_reducible rfl
  simp only [Act.put, List.setIfInBounds_toArray, List.set_cons_zero, List.set_cons_succ]
  refine take_to 15 (some 70) (v := ?_) rfl rfl (by kernel_rfl) (by kernel_rfl) (by kernel_rfl) (fun _ _ _ h => h) (Or.inl ⟨by rfl, ?_⟩) (by assumption) ?_
  rotate_left
  · intro w hSw
    go_simp
    with_reducible rfl
  simp only [Act.put, List.setIfInBounds_toArray, List.set_cons_zero, List.set_cons_succ]
  refine take_to 16 (some 71) (v := ?_) rfl rfl (by kernel_rfl) (by kernel_rfl) (by kernel_rfl) (fun _ _ _ h => h) (Or.inl ⟨by rfl, ?_⟩) (by assumption) ?_
  rotate_left
  · intro w hSw
    go_simp
    with_reducible rfl
  simp only [Act.put, List.setIfInBounds_toArray, List.set_cons_zero, List.set_cons_succ]
  refine take_to 17 (some 72) (v := ?_) rfl rfl (by kernel_rfl) (by kernel_rfl) (by kernel_rfl) (fun _ _ _ h => h) (Or.inl ⟨by rfl, ?_⟩) (by assumption) ?_
  rotate_left
  · intro w hSw
    go_simp
    with_reducible rfl
  simp only [Act.put, List.setIfInBounds_toArray, List.set_cons_zero, List.set_cons_succ]
  refine take_to 18 (some 73) (v := ?_) rfl rfl (by kernel_rfl) (by kernel_rfl) (by kernel_rfl) (fun _ _ _ h => h) (Or.inl ⟨by rfl, ?_⟩) (by assumption) ?_
  rotate_left
  · intro w hSw
    go_simp
    with_reducible rfl
  simp only [Act.put, List.setIfInBounds_toArray, List.set_cons_zero, List.set_cons_succ]
  refine take_to 19 (some 74) (v := ?_) rfl rfl (by kernel_rfl) (by kernel_rfl) (by kernel_rfl) (fun _ _ _ h => h) (Or.inl ⟨by rfl, ?_⟩) (by assumption) ?_
  rotate_left
  · intro w hSw
    go_simp
    with_reducible rfl
  simp only [Act.put, List.setIfInBounds_toArray, List.set_cons_zero, List.set_cons_succ]
  refine take_to 20 (some 75) (v := ?_) rfl rfl (by kernel_rfl) (by kernel_rfl) (by kernel_rfl) (fun _ _ _ h => h) (Or.inl ⟨by rfl, ?_⟩) (by assumption) ?_
  rotate_left
  · intro w hSw
    go_simp
    with_reducible rfl
  simp only [Act.put, List.setIfInBounds_toArray, List.set_cons_zero, List.set_cons_succ]
  refine take_to 21 (some 76) (v := ?_) rfl rfl (by kernel_rfl) (by kernel_rfl) (by kernel_rfl) (fun _ _ _ h => h) (Or.inl ⟨by rfl, ?_⟩) (by assumption) ?_
  rotate_left
  · intro w hSw
    go_simp
    with_reducible rfl
  simp only [Act.put, List.setIfInBounds_toArray, List.set_cons_zero, List.set_cons_succ]
  refine take_to 22 (some 77) (v := .agg A) rfl rfl (by kernel_rfl) (by kernel_rfl) (by kernel_rfl) (fun _ _ _ h => h) (yields_row (by rfl) 25 _ (by rfl) w1.heap.size (by rfl) 25 A _ (fun a h => HRW.out.2.1 a h) Try.underlying25 rfl HFA.out.1) (by assumption) ?_
  simp only [Act.put, List.setIfInBounds_toArray, List.set_cons_zero, List.set_cons_succ]
  refine take_to 23 (some 78) (v := .agg B) rfl rfl (by kernel_rfl) (by kernel_rfl) (by kernel_rfl) (fun _ _ _ h => h) (yields_row (by rfl) 25 _ (by rfl) w2.heap.size (by rfl) 25 B _ (fun a h => HRW.out.2.2.1 a h) Try.underlying25 rfl HFB.out.1) (by assumption) ?_
  simp only [Act.put, List.setIfInBounds_toArray, List.set_cons_zero, List.set_cons_succ]
  refine wpAnyH_ready (rs := [24]) (by kernel_rfl) (by simp) ?_
  refine AllReadyH.cons rfl (fun K hK => ?_) AllReadyH.nil
  go_simp
  refine Calls.mono (HC.out.2.2.1 _ (by assumption)) ?_
  rintro e wf ⟨rfl, hbf⟩
  go_wp2_with fail
  refine hK.out _ _ (hkeep _ _ (by assumption) (by assumption)) (fun hHeld => ?_)
  clear hK K
  try simp only [Act.put, List.setIfInBounds_toArray, List.set_cons_zero, List.set_cons_succ]
  refine take_to 25 (some 80) (v := ?_) rfl rfl (by kernel_rfl) (by kernel_rfl) (by kernel_rfl) (fun _ _ _ h => h) (Or.inl ⟨by rfl, ?_⟩) (by assumption) ?_
  rotate_left
  · intro w hSw
    go_simp
    with_reducible rfl
  simp only [Act.put, List.setIfInBounds_toArray, List.set_cons_zero, List.set_cons_succ]
  refine take_to 26 (some 81) (v := ?_) rfl rfl (by kernel_rfl) (by kernel_rfl) (by kernel_rfl) (fun _ _ _ h => h) (Or.inl ⟨by rfl, ?_⟩) (by assumption) ?_
  rotate_left
  · intro w hSw
    go_simp
    with_reducible rfl
  simp only [Act.put, List.setIfInBounds_toArray, List.set_cons_zero, List.set_cons_succ]
  refine take_to 27 (some 82) (v := ?_) rfl rfl (by kernel_rfl) (by kernel_rfl) (by kernel_rfl) (fun _ _ _ h => h) (Or.inl ⟨by rfl, ?_⟩) (by assumption) ?_
  rotate_left
  · intro w hSw
    go_simp
    with_reducible rfl
  simp only [Act.put, List.setIfInBounds_toArray, List.set_cons_zero, List.set_cons_succ]
  refine take_to 28 (some 83) (v := ?_) rfl rfl (by kernel_rfl) (by kernel_rfl) (by kernel_rfl) (fun _ _ _ h => h) (Or.inl ⟨by rfl, ?_⟩) (by assumption) ?_
  rotate_left
  · intro w hSw
    go_simp
    with_reducible rfl
  simp only [Act.put, List.setIfInBounds_toArray, List.set_cons_zero, List.set_cons_succ]
  refine take_to 29 (some 84) (v := ?_) rfl rfl (by kernel_rfl) (by kernel_rfl) (by kernel_rfl) (fun _ _ _ h => h) (Or.inl ⟨by rfl, ?_⟩) (by assumption) ?_
  rotate_left
  · intro w hSw
    go_simp
    with_reducible rfl
  simp only [Act.put, List.setIfInBounds_toArray, List.set_cons_zero, List.set_cons_succ]
  refine take_to 30 (some 85) (v := ?_) rfl rfl (by kernel_rfl) (by kernel_rfl) (by kernel_rfl) (fun _ _ _ h => h) (Or.inl ⟨by rfl, ?_⟩) (by assumption) ?_
  rotate_left
  · intro w hSw
    go_simp
    with_reducible rfl
  simp only [Act.put, List.setIfInBounds_toArray, List.set_cons_zero, List.set_cons_succ]
  refine take_to 31 (some 86) (v := ?_) rfl rfl (by kernel_rfl) (by kernel_rfl) (by kernel_rfl) (fun _ _ _ h => h) (Or.inl ⟨by rfl, ?_⟩) (by assumption) ?_
  rotate_left
  · intro w hSw
    go_simp
    with_reducible rfl
  simp only [Act.put, List.setIfInBounds_toArray, List.set_cons_zero, List.set_cons_succ]
  refine take_to 32 (some 87) (v := .agg C) rfl rfl (by kernel_rfl) (by kernel_rfl) (by kernel_rfl) (fun _ _ _ h => h) (yields_row (by rfl) 25 _ (by rfl) w3.heap.size (by rfl) 25 C _ (fun a h => HRW.out.2.2.2.1 a h) Try.underlying25 rfl HFC.out.1) (by assumption) ?_
  simp only [Act.put, List.setIfInBounds_toArray, List.set_cons_zero, List.set_cons_succ]
  refine take_to 33 (some 88) (v := .agg D) rfl rfl (by kernel_rfl) (by kernel_rfl) (by kernel_rfl) (fun _ _ _ h => h) (yields_row (by rfl) 25 _ (by rfl) w4.heap.size (by rfl) 25 D _ (fun a h => HRW.out.2.2.2.2.1 a h) Try.underlying25 rfl HFD.out.1) (by assumption) ?_
  simp only [Act.put, List.setIfInBounds_toArray, List.set_cons_zero, List.set_cons_succ]
  refine wpAnyH_ready (rs := [34]) (by kernel_rfl) (by simp) ?_
  refine AllReadyH.cons rfl (fun K hK => ?_) AllReadyH.nil
  go_simp
  refine Calls.mono (HC.out.2.2.2.1 _ (by assumption)) ?_
  rintro e wg ⟨rfl, hbg⟩
  go_wp2_with fail
  refine hK.out _ _ (hkeep _ _ (by assumption) (by assumption)) (fun hHeld => ?_)
  clear hK K
  try simp only [Act.put, List.setIfInBounds_toArray, List.set_cons_zero, List.set_cons_succ]
  refine take_to 35 (some 90) (v := ?_) rfl rfl (by kernel_rfl) (by kernel_rfl) (by kernel_rfl) (fun _ _ _ h => h) (Or.inl ⟨by rfl, ?_⟩) (by assumption) ?_
  rotate_left
  · intro w hSw
    go_simp
    with_reducible rfl
  simp only [Act.put, List.setIfInBounds_toArray, List.set_cons_zero, List.set_cons_succ]
  refine take_to 36 (some 91) (v := ?_) rfl rfl (by kernel_rfl) (by kernel_rfl) (by kernel_rfl) (fun _ _ _ h => h) (Or.inl ⟨by rfl, ?_⟩) (by assumption) ?_
  rotate_left
  · intro w hSw
    go_simp
    with_reducible rfl
  simp only [Act.put, List.setIfInBounds_toArray, List.set_cons_zero, List.set_cons_succ]
  refine take_to 37 (some 92) (v := ?_) rfl rfl (by kernel_rfl) (by kernel_rfl) (by kernel_rfl) (fun _ _ _ h => h) (Or.inl ⟨by rfl, ?_⟩) (by assumption) ?_
  rotate_left
  · intro w hSw
    go_simp
    with_reducible rfl
  simp only [Act.put, List.setIfInBounds_toArray, List.set_cons_zero, List.set_cons_succ]
  refine take_to 38 (some 93) (v := ?_) rfl rfl (by kernel_rfl) (by kernel_rfl) (by kernel_rfl) (fun _ _ _ h => h) (Or.inl ⟨by rfl, ?_⟩) (by assumption) ?_
  rotate_left
  · intro w hSw
    go_simp
    with_reducible rfl
  simp only [Act.put, List.setIfInBounds_toArray, List.set_cons_zero, List.set_cons_succ]
  refine take_to 39 (some 94) (v := ?_) rfl rfl (by kernel_rfl) (by kernel_rfl) (by kernel_rfl) (fun _ _ _ h => h) (Or.inl ⟨by rfl, ?_⟩) (by assumption) ?_
  rotate_left
  · intro w hSw
    go_simp
    with_reducible rfl
  simp only [Act.put, List.setIfInBounds_toArray, List.set_cons_zero, List.set_cons_succ]
  refine take_to 40 (some 95) (v := ?_) rfl rfl (by kernel_rfl) (by kernel_rfl) (by kernel_rfl) (fun _ _ _ h => h) (Or.inl ⟨by rfl, ?_⟩) (by assumption) ?_
  rotate_left
  · intro w hSw
    go_simp
    with_reducible rfl
  simp only [Act.put, List.setIfInBounds_toArray, List.set_cons_zero, List.set_cons_succ]
  refine take_to 41 (some 96) (v := ?_) rfl rfl (by kernel_rfl) (by kernel_rfl) (by kernel_rfl) (fun _ _ _ h => h) (Or.inl ⟨by rfl, ?_⟩) (by assumption) ?_
  rotate_left
  · intro w hSw
    go_simp
    with_reducible rfl
  simp only [Act.put, List.setIfInBounds_toArray, List.set_cons_zero, List.set_cons_succ]
  refine take_to 42 (some 97) (v := .agg U) rfl rfl (by kernel_rfl) (by kernel_rfl) (by kernel_rfl) (fun _ _ _ h => h) (yields_row (by rfl) 25 _ (by rfl) w5.heap.size (by rfl) 25 U _ (fun a h => HRW.out.2.2.2.2.2.1 a h) Try.underlying25 rfl HFU.out.1) (by assumption) ?_
  simp only [Act.put, List.setIfInBounds_toArray, List.set_cons_zero, List.set_cons_succ]
  refine take_to 43 (some 98) (v := .agg V) rfl rfl (by kernel_rfl) (by kernel_rfl) (by kernel_rfl) (fun _ _ _ h => h) (yields_row (by rfl) 25 _ (by rfl) w6.heap.size (by rfl) 25 V _ (fun a h => HRW.out.2.2.2.2.2.2 a h) Try.underlying25 rfl HFV.out.1) (by assumption) ?_
  simp only [Act.put, List.setIfInBounds_toArray, List.set_cons_zero, List.set_cons_succ]
  refine wpAnyH_ready (rs := [44]) (by kernel_rfl) (by simp) ?_
  refine AllReadyH.cons rfl (fun K hK => ?_) AllReadyH.nil
  go_simp
  refine Calls.mono (HC.out.2.2.2.2.1 _ (by assumption)) ?_
  rintro e wh ⟨rfl, hbh⟩
  go_wp2_with fail
  refine hK.out _ _ (hkeep _ _ (by assumption) (by assumption)) (fun hHeld => ?_)
  clear hK K
  try simp only [Act.put, List.setIfInBounds_toArray, List.set_cons_zero, List.set_cons_succ]
  refine take_to 45 (some 100) (v := ?_) rfl rfl (by kernel_rfl) (by kernel_rfl) (by kernel_rfl) (fun _ _ _ h => h) (Or.inl ⟨by rfl, ?_⟩) (by assumption) ?_
  rotate_left
  · intro w hSw
    go_simp
    with_reducible rfl
  simp only [Act.put, List.setIfInBounds_toArray, List.set_cons_zero, List.set_cons_succ]
  refine take_to 46 (some 4) (v := ?_) rfl rfl (by kernel_rfl) (by kernel_rfl) (by kernel_rfl) (fun _ _ _ h => h) (Or.inl ⟨by rfl, ?_⟩) (by assumption) ?_
  rotate_left
  · intro w hSw
    go_simp
    with_reducible rfl
  simp only [Act.put, List.setIfInBounds_toArray, List.set_cons_zero, List.set_cons_succ]
  refine wpAnyH_done (by kernel_rfl) ?_ _
  have hH := HC.out.2.2.2.2.2 _ (by assumption)
  go_wp2
  go_ret
  exact ⟨rfl, hH⟩

end Go.Proofs.Yticmloddkngfnah

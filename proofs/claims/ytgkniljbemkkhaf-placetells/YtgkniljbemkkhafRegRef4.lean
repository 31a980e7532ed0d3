/- The contract of the document's own answer framewardenref.HRight: it answers what region.Right answers. -/
import Derived.Test.YtgkniljbemkkhafRegRef3
import Derived.Test.YtgkniljbemkkhafReg6
import Derived.Deep.WholeRow
namespace Go.Proofs.Ytgkniljbemkkhaf
open Go.RowKit
set_option linter.unusedSimpArgs false
set_option linter.unusedVariables false

theorem wpList_load_row_g {P : Program} {ops : Array Oper} {rest : List Oper} {o : Oper} {a : Act} {w : World} {Q : Exit → Act → World → Prop} (ty : TypeId) (x : Operand) (ho : o.op = .load ty x) (hw : Region.wanted o (yielded ops a.tmps) = true)
    (g : Nat) (hx : a.eval x = .pointer (some ⟨g, 0, none⟩)) (t : TypeId) (cs : Array Value) (fr : Nat × Nat) (d : TypeDesc) (hg : w.heap[g]? = some (.cells cs t fr))
    (hu : P.underlying ty = some d) (hd : (match d with | .struct _ | .array _ _ => true | _ => false) = true) (hi : (P.info? ty).map (·.size) = some cs.size)
    (h : wpList P ops Q rest (a.put o.dst (.agg cs)) w) : wpList P ops Q (o :: rest) a w :=
  wpList_step fun K hK => by
    rw [if_pos hw]
    exact wp_load_row ty x ho g hx t cs fr d hg hu hd hi (hK _ _ h)

theorem wpList_skip_g {P : Program} {ops : Array Oper} {rest : List Oper} {o : Oper} {a : Act} {w : World} {Q : Exit → Act → World → Prop} (ty : TypeId) (x : Operand) (ho : o.op = .load ty x) (hw : Region.wanted o (yielded ops a.tmps) = false)
    (h : wpList P ops Q rest (a.put o.dst undef) w) : wpList P ops Q (o :: rest) a w :=
  wpList_step fun K hK => by
    rw [if_neg (by rw [hw]; decide)]
    exact hK _ _ h

theorem arr_facts (A : Nat → Option Addr) : (Try.prog.info? 46).map (·.size) = some (ptrsL A).toArray.size ∧ (ptrsL A).toArray.size = 64 ∧ (ptrsL A).toArray.all (·.oneCell') = true :=
  ⟨by rw [info_arr]; simp [ptrsL_len], by simp [ptrsL_len], ptrsL_one A⟩

set_option maxHeartbeats 800000 in
theorem hright_any (v : Value) (l : List R6) (B : Nat) (w : World) (h : IsRecs encR B w v l) (hB : B ≤ 4398046511104) :
    Calls Try.prog 18 #[v] w fun e w' => e = .returned (.bool (rightR l)) ∧ Below w.heap.size w w' := by
  have HP : Hid (Calls Try.prog 20 #[v] w fun e w' => ∃ A b, e = .returned (.tuple #[.agg (ptrsL A).toArray, .bool b]) ∧ (b = true ↔ Asc 0 64 l) ∧ (b = true → Pts w' A (fun i => atR l i)) ∧ Below w.heap.size w w') := hpages_any v l B w h hB
  have HR : Hid (∀ A w1, Pts w1 A (fun i => atR l i) → Calls Try.prog 28 #[.agg (ptrsL A).toArray] w1 fun e w' => ∃ v', e = .returned v' ∧ OwnR 36 6 encR w1.heap.size w' v' (regs fun i => atR l i) ∧ Below w1.heap.size w1 w') := fun A w1 hA => hregions_any A _ w1 hA
  have hlr := good_len (regs_good fun i => atR l i).1
  have HI : Hid (∀ w1, Below w.heap.size w w1 → IsRecs encR B w1 v l) := fun w1 hb => h.below hb
  have HE : Hid (∀ w1 v1 base, Asc 0 64 l → OwnR 36 6 encR base w1 v1 (regs fun i => atR l i) → Below w.heap.size w w1 → Calls Try.prog 27 #[v1, v] w1 fun e w' => e = .returned (.bool (rightR l)) ∧ Below w1.heap.size w1 w') := by
    intro w1 v1 base ha ho hb
    have hll : l.length ≤ 64 := by have := asc_len ha; omega
    have := requal_any v1 v _ l 1000 w1 (ho.recs (by omega)) ((h.below hb).up (by omega)) (by decide)
    rw [right_regs ha] at this
    exact this
  obtain ⟨va, vc, rfl⟩ := h.form
  have HN : Hid (¬ Asc 0 64 l → rightR l = false) := not_right
  obtain ⟨n, hn⟩ : ∃ n, Hid (n = l.length) := ⟨_, rfl⟩
  rw [← hn.out] at HP HE ⊢
  generalize regs (fun i => atR l i) = M at *
  generalize rightR l = RR at *
  clear h HI
  go_enter Try.func18, Try.ntmps18
  go_wp2_with fail
  refine HP.out.mono ?_
  rintro e w1 ⟨A, b, rfl, hb1, hb2, hw1⟩
  have HF : Hid _ := arr_facts A
  obtain ⟨X, hX⟩ : ∃ X, Hid (X = (ptrsL A).toArray) := ⟨_, rfl⟩
  have HRA : Hid (∀ w1, Pts w1 A (fun i => atR l i) → Calls Try.prog 28 #[.agg X] w1 fun e w' => ∃ v', e = .returned v' ∧ OwnR 36 6 encR w1.heap.size w' v' M ∧ Below w1.heap.size w1 w') := by
    intro w1 hA
    rw [hX.out]
    exact HR.out A w1 hA
  rw [← hX.out] at HF ⊢
  have hal : Hid (∀ o, Below w1.heap.size w1 (w1.alloc o)) := fun o => (Below.refl _ _).alloc (Nat.le_refl _) _
  clear HP HR
  cases b with
  | true =>
    have HP1 : Hid (Pts w1 A (fun i => atR l i)) := hb2 rfl
    have HA1 : Hid (Asc 0 64 l) := hb1.1 rfl
    clear hb1 hb2
    go_wp2_with (first
      | (refine wpList_store_row rfl 46 (.tmp 3) _ rfl w1.heap.size X rfl rfl 46 _ (heap_alloc_new w1 _) HF.out.1 (by rw [HF.out.2.1]; rfl) HF.out.2.2 ?_; rw [World.setRow_alloc_new])
      | (refine wpList_load_row_g 46 (.tmp 3) rfl (by simp [Region.wanted, yielded]) w1.heap.size rfl 46 X (0, 0) _ (heap_alloc_new w1 _) Try.underlying46 rfl HF.out.1 ?_)
      | (go_at_call 28; refine (HRA.out _ (HP1.out.below (hal.out _))).mono ?_; rintro e w2 ⟨v2, rfl, ho2, hw2⟩; obtain ⟨a2, m2, rfl⟩ := ho2.form)
      | (go_at_call 27; refine (HE.out _ _ _ HA1.out ho2 (hw1.trans ((below_one hw2).mono hw1.size))).mono ?_; rintro e w3 ⟨rfl, hw3⟩))
    go_ret
    have hx2 := hw1.trans ((below_one hw2).mono hw1.size)
    exact ⟨rfl, hx2.trans (hw3.mono hx2.size)⟩
  | false =>
    have hrf := HN.out (fun ha => by have := hb1.2 ha; cases this)
    subst hrf
    clear hb1 hb2
    go_wp2_with (first
      | (refine wpList_skip_g 46 (.tmp 3) rfl (by simp [Region.wanted, yielded]) ?_)
      | (refine wpList_store_row rfl 46 (.tmp 3) _ rfl w1.heap.size X rfl rfl 46 _ (heap_alloc_new w1 _) HF.out.1 (by rw [HF.out.2.1]; rfl) HF.out.2.2 ?_; rw [World.setRow_alloc_new]))
    go_ret
    exact ⟨rfl, hw1.trans ((hal.out _).mono hw1.size)⟩

end Go.Proofs.Ytgkniljbemkkhaf

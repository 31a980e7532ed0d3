/- The closures of framewardenlaw.RegionTurns, seal: what each makes of what a page is like. -/
import Derived.Test.YtkiamhmjkpbaiaeRegETurn
import Derived.Test.YtkiamhmjkpbaiaeReg8
namespace Go.Proofs.Ytkiamhmjkpbaiae
open Go.RowKit
set_option linter.unusedSimpArgs false
set_option linter.unusedVariables false

set_option maxHeartbeats 400000 in
theorem setc_seal  (x y : Int) (z u : Bool) (w0 : World)  :
    Calls Try.prog 26 #[.pointer (some ⟨w0.heap.size, 0, none⟩)] (w0.alloc (.cells #[.int .i64 x, .int .i64 y, .bool z, .bool u] 24)) fun e w' => (∃ v, e = .returned v) ∧ OwnRow w' w0.heap.size 24 [.int .i64 x, .int .i64 y, .bool z, .bool true] ∧ Below w0.heap.size w0 w' := by
  have HN : Hid (∀ cs : List Value, OwnRow (w0.alloc (.cells cs.toArray 24)) w0.heap.size 24 cs) := fun cs => heap_alloc_new w0 _
  have HD : Hid (∀ o, Below w0.heap.size w0 (w0.alloc o)) := fun o => (Below.refl _ _).alloc (Nat.le_refl _) _
  go_enter Try.func26, Try.ntmps26
  go_wp2
  go_end0
  exact ⟨⟨_, rfl⟩, HN.out [_, _, _, _], HD.out _⟩

set_option maxHeartbeats 400000 in
theorem one_seal (Fb : Nat)  (p : Option Addr) (a : A4) (w : World) (hF : OwnRow w Fb 41 [.func (.func 26) #[] #[]]) (ha : AtP w p (some a))  :
    Calls Try.prog 22 #[.pointer p, .pointer (some ⟨Fb, 0, none⟩)] w fun e w' => ∃ p', e = .returned (.pointer p') ∧ AtP w' p' (some (seA a)) ∧ Below w.heap.size w w' := by
  obtain ⟨x, y, z, u⟩ := a
  obtain ⟨b, off, rfl, c0, c1, c2, c3⟩ := ha
  simp only at c0 c1 c2 c3
  have hf0 : w.cell? ⟨Fb, 0, none⟩ = some (.func (.func 26) #[] #[]) := by rw [hF.cell]; rfl
  have hfl := hF.lt
  have hbl := cell_lt c0
  simp only at hbl
  have HS : Hid (Calls Try.prog 26 #[.pointer (some ⟨w.heap.size, 0, none⟩)] (w.alloc (.cells #[.int .i64 x, .int .i64 y, .bool z, .bool u] 24)) fun e w' => (∃ v, e = .returned v) ∧ OwnRow w' w.heap.size 24 [.int .i64 x, .int .i64 y, .bool z, .bool true] ∧ Below w.heap.size w w') := setc_seal  x y z u w 
  clear hF 
  go_enter Try.func22, Try.ntmps22
  go_wp2_with (go_at_call 26; refine HS.out.mono ?_; rintro e w2 ⟨⟨ve, rfl⟩, ho2, hw2⟩)
  go_ret
  obtain ⟨d0, d1, d2, d3⟩ := ho2.quad
  exact ⟨_, rfl, ⟨w.heap.size, 0, rfl, d0, d1, d2, d3⟩, hw2⟩

set_option maxHeartbeats 400000 in
theorem each_seal  (Lb Pb Qb : Nat) (v : Value) (l : List R6) (f t : Int) (BB : Nat) (w : World) (h : IsRecs encR BB w v l) (hB : BB ≤ 3518437208883) (hL : OwnRow w Lb 22 [v]) (hP : OwnRow w Pb 3 [.int .i64 f]) (hQ : OwnRow w Qb 3 [.int .i64 t])  :
    Calls Try.prog 21 #[.func (.func 26) #[] #[], .pointer (some ⟨Lb, 0, none⟩), .pointer (some ⟨Pb, 0, none⟩), .pointer (some ⟨Qb, 0, none⟩)] w fun e w' => ∃ v', e = .returned (lstV v' (chE l f t)) ∧ OwnR 31 6 encR w.heap.size w' v' (chL (seA) l f t) ∧ Below w.heap.size w w' := by
  have HE : Hid (∀ w1, Below w.heap.size w w1 → OwnRow w1 w.heap.size 41 [.func (.func 26) #[] #[]] → Calls Try.prog 16 #[v, .int .i64 f, .int .i64 t, .int .i64 1, .func (.func 22) #[] #[.pointer (some ⟨w.heap.size, 0, none⟩)]] w1 fun e w' => ∃ v', e = .returned (lstV v' (chE l f t)) ∧ OwnR 31 6 encR w1.heap.size w' v' (chL (seA) l f t) ∧ Below w1.heap.size w1 w') := by
    intro w1 hb hF
    refine heach_turn #[.pointer (some ⟨w.heap.size, 0, none⟩)] (seA) v l f t BB w1 (h.below hb) hB (fun w2 p o hb2 ha hne => ?_)
    cases o with
    | none => exact absurd rfl hne
    | some a => exact one_seal w.heap.size  p a w2 (hF.below hb2 hF.lt) ha 
  have c0 : w.cell? ⟨Lb, 0, none⟩ = some v := by rw [hL.cell]; rfl
  have c1 : w.cell? ⟨Pb, 0, none⟩ = some (.int .i64 f) := by rw [hP.cell]; rfl
  have c2 : w.cell? ⟨Qb, 0, none⟩ = some (.int .i64 t) := by rw [hQ.cell]; rfl
  have z0 := hL.lt
  have z1 := hP.lt
  have z2 := hQ.lt
  obtain ⟨va, vn, rfl⟩ := h.form
  obtain ⟨n, hn⟩ : ∃ n, Hid (n = l.length) := ⟨_, rfl⟩
  rw [← hn.out] at HE c0
  generalize chE l f t = E at *
  generalize chL (seA) l f t = M at *
  clear h hL hP hQ 
  have hal : Hid (∀ o, Below w.heap.size w (w.alloc o)) := fun o => (Below.refl _ _).alloc (Nat.le_refl _) _
  have HN : Hid (OwnRow (w.alloc (.cells #[.func (.func 26) #[] #[]] 41)) w.heap.size 41 [.func (.func 26) #[] #[]]) := heap_alloc_new w _
  go_enter Try.func21, Try.ntmps21
  go_wp2_with (go_at_call 16; refine (HE.out _ (hal.out _) HN.out).mono ?_; rintro e w1 ⟨v1, rfl, ho1, hw1⟩)
  go_ret2
  exact ⟨_, rfl, ho1.mono (by simp), below_one hw1⟩

end Go.Proofs.Ytkiamhmjkpbaiae

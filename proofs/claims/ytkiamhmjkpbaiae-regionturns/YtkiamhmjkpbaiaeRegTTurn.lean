/- The closures of framewardenlaw.RegionTurns, turn: what each makes of what a page is like. -/
import Derived.Test.YtkiamhmjkpbaiaeRegETurn
import Derived.Test.YtkiamhmjkpbaiaeReg8
namespace Go.Proofs.Ytkiamhmjkpbaiae
open Go.RowKit
set_option linter.unusedSimpArgs false
set_option linter.unusedVariables false

set_option maxHeartbeats 400000 in
theorem setc_turn (B : Nat) (r k : Int) (g s : Bool) (x y : Int) (z u : Bool) (w0 : World) (hc : OwnRow w0 B 24 [.int .i64 r, .int .i64 k, .bool g, .bool s]) :
    Calls Try.prog 24 #[.pointer (some ⟨w0.heap.size, 0, none⟩), .pointer (some ⟨B, 0, none⟩)] (w0.alloc (.cells #[.int .i64 x, .int .i64 y, .bool z, .bool u] 24)) fun e w' => (∃ v, e = .returned v) ∧ OwnRow w' w0.heap.size 24 [.int .i64 r, .int .i64 k, .bool g, .bool s] ∧ Below w0.heap.size w0 w' := by
  obtain ⟨c0, c1, c2, c3⟩ := hc.quad
  have hlt := hc.lt
  clear hc
  have HN : Hid (∀ cs : List Value, OwnRow (w0.alloc (.cells cs.toArray 24)) w0.heap.size 24 cs) := fun cs => heap_alloc_new w0 _
  have HD : Hid (∀ o, Below w0.heap.size w0 (w0.alloc o)) := fun o => (Below.refl _ _).alloc (Nat.le_refl _) _
  go_enter Try.func24, Try.ntmps24
  go_wp2
  go_end0
  exact ⟨⟨_, rfl⟩, HN.out [_, _, _, _], HD.out _⟩

set_option maxHeartbeats 400000 in
theorem one_turn (Fb : Nat) (B : Nat) (r k : Int) (g s : Bool) (p : Option Addr) (a : A4) (w : World) (hF : OwnRow w Fb 41 [.func (.func 24) #[] #[.pointer (some ⟨B, 0, none⟩)]]) (ha : AtP w p (some a)) (hoB : OwnRow w B 24 [.int .i64 r, .int .i64 k, .bool g, .bool s]) :
    Calls Try.prog 22 #[.pointer p, .pointer (some ⟨Fb, 0, none⟩)] w fun e w' => ∃ p', e = .returned (.pointer p') ∧ AtP w' p' (some (tuA (r, k, g, s) a)) ∧ Below w.heap.size w w' := by
  obtain ⟨x, y, z, u⟩ := a
  obtain ⟨b, off, rfl, c0, c1, c2, c3⟩ := ha
  simp only at c0 c1 c2 c3
  have hf0 : w.cell? ⟨Fb, 0, none⟩ = some (.func (.func 24) #[] #[.pointer (some ⟨B, 0, none⟩)]) := by rw [hF.cell]; rfl
  have hfl := hF.lt
  have hbl := cell_lt c0
  simp only at hbl
  have HS : Hid (Calls Try.prog 24 #[.pointer (some ⟨w.heap.size, 0, none⟩), .pointer (some ⟨B, 0, none⟩)] (w.alloc (.cells #[.int .i64 x, .int .i64 y, .bool z, .bool u] 24)) fun e w' => (∃ v, e = .returned v) ∧ OwnRow w' w.heap.size 24 [.int .i64 r, .int .i64 k, .bool g, .bool s] ∧ Below w.heap.size w w') := setc_turn B r k g s x y z u w hoB
  clear hF hoB
  go_enter Try.func22, Try.ntmps22
  go_wp2_with (go_at_call 24; refine HS.out.mono ?_; rintro e w2 ⟨⟨ve, rfl⟩, ho2, hw2⟩)
  go_ret
  obtain ⟨d0, d1, d2, d3⟩ := ho2.quad
  exact ⟨_, rfl, ⟨w.heap.size, 0, rfl, d0, d1, d2, d3⟩, hw2⟩

set_option maxHeartbeats 400000 in
theorem each_turn (B : Nat) (r k : Int) (g s : Bool) (Lb Pb Qb : Nat) (v : Value) (l : List R6) (f t : Int) (BB : Nat) (w : World) (h : IsRecs encR BB w v l) (hB : BB ≤ 3518437208883) (hL : OwnRow w Lb 22 [v]) (hP : OwnRow w Pb 3 [.int .i64 f]) (hQ : OwnRow w Qb 3 [.int .i64 t]) (hoB : OwnRow w B 24 [.int .i64 r, .int .i64 k, .bool g, .bool s]) :
    Calls Try.prog 21 #[.func (.func 24) #[] #[.pointer (some ⟨B, 0, none⟩)], .pointer (some ⟨Lb, 0, none⟩), .pointer (some ⟨Pb, 0, none⟩), .pointer (some ⟨Qb, 0, none⟩)] w fun e w' => ∃ v', e = .returned (lstV v' (chE l f t)) ∧ OwnR 31 6 encR w.heap.size w' v' (chL (tuA (r, k, g, s)) l f t) ∧ Below w.heap.size w w' := by
  have HE : Hid (∀ w1, Below w.heap.size w w1 → OwnRow w1 w.heap.size 41 [.func (.func 24) #[] #[.pointer (some ⟨B, 0, none⟩)]] → Calls Try.prog 16 #[v, .int .i64 f, .int .i64 t, .int .i64 1, .func (.func 22) #[] #[.pointer (some ⟨w.heap.size, 0, none⟩)]] w1 fun e w' => ∃ v', e = .returned (lstV v' (chE l f t)) ∧ OwnR 31 6 encR w1.heap.size w' v' (chL (tuA (r, k, g, s)) l f t) ∧ Below w1.heap.size w1 w') := by
    intro w1 hb hF
    refine heach_turn #[.pointer (some ⟨w.heap.size, 0, none⟩)] (tuA (r, k, g, s)) v l f t BB w1 (h.below hb) hB (fun w2 p o hb2 ha hne => ?_)
    cases o with
    | none => exact absurd rfl hne
    | some a => exact one_turn w.heap.size B r k g s p a w2 (hF.below hb2 hF.lt) ha ((hoB.below hb hoB.lt).below hb2 (hoB.below hb hoB.lt).lt)
  have c0 : w.cell? ⟨Lb, 0, none⟩ = some v := by rw [hL.cell]; rfl
  have c1 : w.cell? ⟨Pb, 0, none⟩ = some (.int .i64 f) := by rw [hP.cell]; rfl
  have c2 : w.cell? ⟨Qb, 0, none⟩ = some (.int .i64 t) := by rw [hQ.cell]; rfl
  have z0 := hL.lt
  have z1 := hP.lt
  have z2 := hQ.lt
  obtain ⟨va, vn, rfl⟩ := h.form
  obtain ⟨n, hn⟩ : ∃ n, Hid (n = l.length) := ⟨_, rfl⟩
  rw [← hn.out] at HE c0
  generalize chE l f t = E at *
  generalize chL (tuA (r, k, g, s)) l f t = M at *
  clear h hL hP hQ hoB
  have hal : Hid (∀ o, Below w.heap.size w (w.alloc o)) := fun o => (Below.refl _ _).alloc (Nat.le_refl _) _
  have HN : Hid (OwnRow (w.alloc (.cells #[.func (.func 24) #[] #[.pointer (some ⟨B, 0, none⟩)]] 41)) w.heap.size 41 [.func (.func 24) #[] #[.pointer (some ⟨B, 0, none⟩)]]) := heap_alloc_new w _
  go_enter Try.func21, Try.ntmps21
  go_wp2_with (go_at_call 16; refine (HE.out _ (hal.out _) HN.out).mono ?_; rintro e w1 ⟨v1, rfl, ho1, hw1⟩)
  go_ret2
  exact ⟨_, rfl, ho1.mono (by simp), below_one hw1⟩

end Go.Proofs.Ytkiamhmjkpbaiae

/- The walk of framewardenkeep.TlbTrue: it returns true, and nothing that was there is written. -/
import Derived.Test.YtgkdbcafijhdiacTlbTrueMath
import Derived.Test.YtgkdbcafijhdiacTlbIndexT
import Derived.Test.YtgkdbcafijhdiacAlive6
namespace Go.Proofs.Ytgkdbcafijhdiac
open Go.RowKit
set_option linter.unusedSimpArgs false
set_option linter.unusedVariables false

set_option maxHeartbeats 400000 in
theorem same_any (B : Nat) (a b c d x y z u : Int) (w : World) (hc : OwnRow w B 40 (encC (a, b, c, d))) :
    Calls Try.prog 23 #[.agg #[.int .i64 x, .int .i64 y, .int .i64 z, .int .i64 u], .pointer (some ⟨B, 0, none⟩)] w fun e w' => e = .returned (.bool (sm (a, b, c, d) (x, y, z, u))) ∧ Below w.heap.size w w' := by
  obtain ⟨c0, c1, c2, c3⟩ := hc.quad
  have hlt := hc.lt
  have hbe : Hid (∀ o1, Below w.heap.size w (w.alloc o1)) := fun o1 => (Below.refl _ _).alloc (Nat.le_refl _) _
  clear hc
  cases h1 : (x == a) with
  | true =>
    go_enter Try.func23, Try.ntmps23
    go_wp2
    go_ret
    exact ⟨ret_bool (by simp [sm, h1]), hbe.out _⟩
  | false =>
    go_enter Try.func23, Try.ntmps23
    go_wp2
    go_ret
    exact ⟨ret_bool (by simp [sm, h1]), hbe.out _⟩

theorem set4z {w : World} {g : Nat} {e : TypeId} {xs : List Value} {x y z u : Int} (h : OwnRow w g e xs) (hl : xs.length = 4) :
    OwnRow ((((w.setCell ⟨g, 0, none⟩ (.int .i64 x)).setCell ⟨g, 1, none⟩ (.int .i64 y)).setCell ⟨g, 2, none⟩ (.int .i64 z)).setCell ⟨g, 3, none⟩ (.int .i64 u)) g e (encC (x, y, z, u)) := by
  have := OwnRow.setCells (encC (x, y, z, u)) 0 w xs h (by rw [hl]; exact Nat.le_refl 4)
  have e1 : spl xs 0 (encC (x, y, z, u)) = encC (x, y, z, u) := by
    unfold spl
    rw [List.take_zero, List.nil_append, List.drop_of_length_le (by rw [hl]; exact Nat.le_refl 4), List.append_nil]
  rw [e1] at this
  exact this

theorem store4 {w W1 : World} {g : Nat} {e : TypeId} {xs : List Value} {x y z u : Int} (h : OwnRow w g e xs) (hl : xs.length = 4) (hb : Below g W1 w) (X : Obj) :
    OwnRow (((((w.setCell ⟨g, 0, none⟩ (.int .i64 x)).setCell ⟨g, 1, none⟩ (.int .i64 y)).setCell ⟨g, 2, none⟩ (.int .i64 z)).setCell ⟨g, 3, none⟩ (.int .i64 u)).alloc X) g e (encC (x, y, z, u)) ∧
    Below g W1 (((((w.setCell ⟨g, 0, none⟩ (.int .i64 x)).setCell ⟨g, 1, none⟩ (.int .i64 y)).setCell ⟨g, 2, none⟩ (.int .i64 z)).setCell ⟨g, 3, none⟩ (.int .i64 u)).alloc X) := by
  have h1 := set4z (x := x) (y := y) (z := z) (u := u) h hl
  have h2 : Below g W1 ((((w.setCell ⟨g, 0, none⟩ (.int .i64 x)).setCell ⟨g, 1, none⟩ (.int .i64 y)).setCell ⟨g, 2, none⟩ (.int .i64 z)).setCell ⟨g, 3, none⟩ (.int .i64 u)) :=
    (((hb.setCell (Nat.le_refl _) _).setCell (Nat.le_refl _) _).setCell (Nat.le_refl _) _).setCell (Nat.le_refl _) _
  exact ⟨h1.below ((Below.refl _ _).alloc (Nat.le_refl _) _) h1.lt, h2.alloc (Nat.le_of_lt h1.lt) _⟩

set_option maxHeartbeats 3200000 in
theorem tlbTrue_walk (v : Value) (l : List C4) (w : World) (h : IsRecs encC 4398046510976 w v l) :
    Calls Try.prog 8 #[v] w fun e w' => e = .returned (.bool true) ∧ Below w.heap.size w w' := by
  have h' : IsRecs encC 4398046511000 w v l := by
    obtain ⟨a, cap, rfl, h1, h2, h3⟩ := h
    exact ⟨a, cap, rfl, h1, by omega, h3⟩
  have HPl : Hid (∀ w1, Below w.heap.size w w1 → Calls Try.prog 19 #[v] w1 fun e w' => ∃ g, e = .returned (.slice (some ⟨g, 0, none⟩) (play l).length 9) ∧ RowC w' g 9 (play l) ∧ Below w1.heap.size w1 w') :=
    fun w1 hb => (play_any _ _ w1 (h'.below hb)).mono fun e w' ⟨he, hr, hb⟩ => ⟨_, he, hr, hb⟩
  have Hal : Hid (∀ w1, Calls Try.prog 21 #[] w1 fun e w' => e = .returned (.bool true) ∧ Below w1.heap.size w1 w') := alive6_any
  have HAp : Hid (∀ k, k < (play l).length → ((play l).take k).any (sm ((play l).getD k (0, 0, 0, 0))) = false) := play_apart l
  have HAt : Hid (∀ k, k < (play l).length → lastOf ((play l).getD k (0, 0, 0, 0)) l = (play l).getD k (0, 0, 0, 0)) := play_at l
  have hp8 := play_le l
  generalize play l = P at HPl HAp HAt hp8
  obtain ⟨a0, cap, rfl, h1, hl, hc'⟩ := h
  clear h'
  obtain ⟨n, hn⟩ : ∃ n, Hid (n = l.length) := ⟨_, rfl⟩
  obtain ⟨m, hm⟩ : ∃ m, Hid (m = P.length) := ⟨_, rfl⟩
  rw [← hn.out] at HPl hl hc' ⊢
  rw [← hm.out] at HPl HAp HAt hp8
  have hq9 := neq_cached
  have hg9 := eqGuard_cached
  go_enter Try.func8, Try.ntmps8
  go_wp2_with (first
    | (go_at_call 21; refine (Hal.out _).mono ?_; rintro e W0 ⟨rfl, hW0⟩)
    | (go_at_call 19; refine (HPl.out _ hW0).mono ?_; rintro e W ⟨g, rfl, hrP, hWb⟩))
  have hbw := hW0.trans (hWb.mono hW0.size)
  have HPr : Hid (∀ w1, Below W.heap.size W w1 → RowC w1 g 9 P) := fun w1 hb => hrP.below hb
  clear HPl hW0 hWb hrP
  go_loopw [15] (fun vi wr => ∃ k : Nat, k ≤ m ∧ vi = .int .i64 k ∧ Below W.heap.size W wr) (fun i _ => m - (intOf i).toNat)
  case atStart => exact ⟨0, Nat.zero_le _, rfl, Below.refl _ _⟩
  case round =>
    obtain ⟨k, hk, rfl, hbel⟩ := hrel
    obtain ⟨ws, hws⟩ : ∃ ws : World, ws = wr := ⟨_, rfl⟩
    subst hws
    by_cases hlt : k < m
    · have hrow := HPr.out ws hbel
      have hrecP := hrow.recs (B := 8) (by rw [← hm.out]; exact hp8)
      obtain ⟨_, _, hv, -, -, hcc⟩ := hrecP
      obtain ⟨g', goff, hg', hcells⟩ := hcc (by rw [← hm.out]; omega)
      simp only [Value.slice.injEq] at hv
      obtain ⟨rfl, -, -⟩ := hv
      simp only [Option.some.injEq, Addr.mk.injEq, and_true] at hg'
      obtain ⟨rfl, rfl⟩ := hg'
      obtain ⟨⟨a, b, c, d⟩, hp⟩ : ∃ q, q = P.getD k (0, 0, 0, 0) := ⟨_, rfl⟩
      obtain ⟨hk0, hk1, hk2, hk3⟩ := cell4 hcells (Below.refl _ _) k (by rw [← hm.out]; exact hlt) hp
      rw [Nat.zero_add] at hk0 hk1 hk2 hk3
      have HA1 : Hid ((P.take k).any (sm (a, b, c, d)) = false) := by have := HAp.out k hlt; rw [← hp] at this; exact this
      have HA2 : Hid (lastOf (a, b, c, d) l = (a, b, c, d)) := by have := HAt.out k hlt; rw [← hp] at this; exact this
      clear hcells hcc hp hrow
      have hdk : decide ((k : Int) < (m : Int)) = true := by simpa using hlt
      go_wp2_with fail
      have hbW : Below ws.heap.size ws ((ws.alloc (.cells #[.int .i64 a, .int .i64 b, .int .i64 c, .int .i64 d] 40)).alloc (.cells #[.int .i64 0, .int .i64 (-2), .int .i64 0, .int .i64 0] 40)) := ((Below.refl _ _).alloc (Nat.le_refl _) _).alloc (by simp) _
      have hAB : OwnRow ((ws.alloc (.cells #[.int .i64 a, .int .i64 b, .int .i64 c, .int .i64 d] 40)).alloc (.cells #[.int .i64 0, .int .i64 (-2), .int .i64 0, .int .i64 0] 40)) ws.heap.size 40 (encC (a, b, c, d)) ∧ OwnRow ((ws.alloc (.cells #[.int .i64 a, .int .i64 b, .int .i64 c, .int .i64 d] 40)).alloc (.cells #[.int .i64 0, .int .i64 (-2), .int .i64 0, .int .i64 0] 40)) (ws.heap.size + 1) 40 (encC (0, -2, 0, 0)) := own_two (w := ws) (xs := encC (a, b, c, d)) (ys := encC (0, -2, 0, 0)) (e := 40) (e' := 40) (Below.refl _ _)
      have hs1 : ((ws.alloc (.cells #[.int .i64 a, .int .i64 b, .int .i64 c, .int .i64 d] 40)).alloc (.cells #[.int .i64 0, .int .i64 (-2), .int .i64 0, .int .i64 0] 40)).heap.size = ws.heap.size + 2 := by simp
      generalize ((ws.alloc (.cells #[.int .i64 a, .int .i64 b, .int .i64 c, .int .i64 d] 40)).alloc (.cells #[.int .i64 0, .int .i64 (-2), .int .i64 0, .int .i64 0] 40)) = W1 at hbW hAB hs1 ⊢
      have HQ : Hid (OwnRow W1 ws.heap.size 40 (encC (a, b, c, d))) := hAB.1
      have HL0 : Hid (OwnRow W1 (ws.heap.size + 1) 40 (encC (0, -2, 0, 0))) := hAB.2
      have hbw1 : Below w.heap.size w W1 := (hbw.trans (hbel.mono hbw.size)).trans (hbW.mono (Nat.le_trans hbw.size hbel.size))
      have hwsz : w.heap.size ≤ ws.heap.size := Nat.le_trans hbw.size hbel.size
      clear hAB hk0 hk1 hk2 hk3
      go_loopw [23] (fun vj w2 => ∃ j : Nat, j ≤ n ∧ vj = .int .i64 j ∧ Hid (OwnRow w2 (ws.heap.size + 1) 40 (encC (lastOf (a, b, c, d) (l.take j)))) ∧ Below (ws.heap.size + 1) W1 w2) (fun i _ => n - (intOf i).toNat)
      case atStart => exact ⟨0, Nat.zero_le _, rfl, HL0.out, Below.refl _ _⟩
      case round =>
        obtain ⟨j, hj, rfl, hlast, hb1⟩ := hrel
        have hsz1 := hb1.size
        obtain ⟨c0, c1, c2, c3⟩ := (HQ.out.below hb1 (by omega)).quad
        have hwlt : ws.heap.size < wr.heap.size := by omega
        have hwlt1 : ws.heap.size + 1 < wr.heap.size := by omega
        by_cases hjn : j < n
        · obtain ⟨b0, off, rfl, hc⟩ := hc' (by omega)
          have HF : Hid _ := lastOf_succ (a, b, c, d) l j (by rw [← hn.out]; exact hjn)
          obtain ⟨⟨x, y, z, u⟩, hp⟩ : ∃ q, q = l.getD j (0, 0, 0, 0) := ⟨_, rfl⟩
          obtain ⟨hj0, hj1, hj2, hj3⟩ := cell4 hc (hbw1.trans (hb1.mono (by omega))) j (by rw [← hn.out]; exact hjn) hp
          rw [← hp] at HF
          clear hp
          have hdj : decide ((j : Int) < (n : Int)) = true := by simpa using hjn
          generalize lastOf (a, b, c, d) (l.take j) = Q at hlast HF
          obtain ⟨q0, q1, q2, q3⟩ := Q
          obtain ⟨l0, l1, l2, l3⟩ := hlast.out.quad
          have f0 := hlast.out.free 0
          have f1 := hlast.out.free 1
          have f2 := hlast.out.free 2
          have f3 := hlast.out.free 3
          cases hxa : (x == a) with
          | false =>
            have ht : mt (a, b, c, d) (x, y, z, u) = false := by simp [mt, hxa]
            rw [ht] at HF
            simp only [Bool.false_eq_true, if_false] at HF
            go_wp2
            go_roundw
            case rel => exact ⟨j + 1, by omega, by go_num, by show OwnRow _ _ _ _; rw [HF.out]; exact hlast.out.below ((Below.refl _ _).alloc (Nat.le_refl _) _) hlast.out.lt, hb1.alloc (by omega) _⟩
            case measure => simp [intOf]; omega
          | true =>
            cases hyb : (y == b) with
            | true =>
              have ht : mt (a, b, c, d) (x, y, z, u) = true := by simp [mt, hxa, hyb]
              rw [ht] at HF
              simp only [if_true] at HF
              go_wp2
              go_roundw
              case rel => exact ⟨j + 1, by omega, by go_num, by show OwnRow _ _ _ _; rw [HF.out]; exact (store4 hlast.out rfl hb1 _).1, (store4 hlast.out rfl hb1 _).2⟩
              case measure => simp [intOf]; omega
            | false =>
              cases hy0 : decide (y < 0) with
              | true =>
                have ht : mt (a, b, c, d) (x, y, z, u) = true := by simp only [mt, hxa, hyb, hy0]; rfl
                rw [ht] at HF
                simp only [if_true] at HF
                go_wp2
                go_roundw
                case rel => exact ⟨j + 1, by omega, by go_num, by show OwnRow _ _ _ _; rw [HF.out]; exact (store4 hlast.out rfl hb1 _).1, (store4 hlast.out rfl hb1 _).2⟩
                case measure => simp [intOf]; omega
              | false =>
                have ht : mt (a, b, c, d) (x, y, z, u) = false := by simp only [mt, hxa, hyb, hy0]; rfl
                rw [ht] at HF
                simp only [Bool.false_eq_true, if_false] at HF
                go_wp2
                go_roundw
                case rel => exact ⟨j + 1, by omega, by go_num, by show OwnRow _ _ _ _; rw [HF.out]; exact hlast.out.below ((Below.refl _ _).alloc (Nat.le_refl _) _) hlast.out.lt, hb1.alloc (by omega) _⟩
                case measure => simp [intOf]; omega
        · obtain rfl : j = n := by omega
          have htk : l.take j = l := by rw [hn.out, List.take_length]
          rw [htk, HA2.out] at hlast
          have hdj : decide ((j : Int) < (j : Int)) = false := by simp
          obtain ⟨l0, l1, l2, l3⟩ := hlast.out.quad
          have hqq := hq9 a b c d a b c d
          simp only [decide_true, Bool.not_true] at hqq
          have hbP : Below W.heap.size W wr := (hbel.trans (hbW.mono hbel.size)).trans (hb1.mono (by have := hbel.size; omega))
          have HCt : Hid (Calls Try.prog 22 #[.slice (some ⟨g, 0, none⟩) k 9, .func (.func 23) #[] #[.pointer (some ⟨ws.heap.size, 0, none⟩)]] wr fun e w' => e = .returned (.bool false) ∧ Below wr.heap.size wr w') := by
            have hPk : RowC wr g 9 (P.take k) := by
              obtain ⟨xs, r1, r2, r3, r4⟩ := HPr.out wr hbP
              have hkl : (P.take k).length = k := by rw [List.length_take, ← hm.out]; omega
              refine ⟨xs, r1, r2, by omega, ?_⟩
              rw [hkl, ← flatL_take shC, ← r4, List.take_take, ← hm.out, Nat.min_eq_left (by omega)]
            have hrec := hPk.recs (B := 4398046511000) (by rw [List.length_take]; omega)
            rw [show (P.take k).length = k by rw [List.length_take, ← hm.out]; omega] at hrec
            have hQw := HQ.out.below hb1 (by omega)
            have := ccontains_any #[.pointer (some ⟨ws.heap.size, 0, none⟩)] (sm (a, b, c, d)) _ _ wr hrec (fun w1 x y z u hb => same_any ws.heap.size a b c d x y z u w1 (hQw.below hb hQw.lt))
            rw [HA1.out] at this
            exact this
          have hk9 : (k : Int) ≤ 9 := by omega
          clear hq9
          go_wp2_with (go_at_call 22; refine (HCt.out).mono ?_; rintro e w5 ⟨rfl, hw5⟩)
          go_roundw
          case rel => exact ⟨k + 1, by omega, by go_num, hbP.trans (hw5.mono hbP.size)⟩
          case measure => simp [intOf]; omega
    · have hd8 : decide ((m : Int) ≤ 8) = true := by simp; omega
      go_wp2
      go_ret
      exact ⟨rfl, hbw.trans (hbel.mono hbw.size)⟩

end Go.Proofs.Ytgkdbcafijhdiac

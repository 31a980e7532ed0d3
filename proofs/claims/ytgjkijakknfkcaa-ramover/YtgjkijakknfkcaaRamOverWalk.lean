/- Who writes last is there, and apart the order is none: framewardenkeep.RamOver returns true at every slice of bytes within the form's own reach and at all numbers. -/
import Derived.Test.YtgjkijakknfkcaaAlive1
import Derived.Test.YtgjkijakknfkcaaRamBackWalk
namespace Go.Proofs.Ytgjkijakknfkcaa
open Go.RowKit

set_option maxHeartbeats 400000 in
theorem ramOver_bad (v : Value) (zs : List Int) (p n x u o m : Int) (w : World) (h : IsBytes w v zs) (hb : hasB zs.length p n = false) :
    Calls Try.prog 5 #[v, .int .i64 p, .int .i64 n, .int .i64 x, .int .i64 u, .int .i64 o, .int .i64 m] w fun e w' => e = .returned (.bool true) ∧ Below w.heap.size w w' := by
  have he := errV_bad hb
  go_enter Try.func5, Try.ntmps5
  go_wp2_with fail
  refine (alive1_any w).mono ?_
  rintro e w1 ⟨rfl, hbel1⟩
  have h1 := h.below hbel1
  go_wp2_with fail
  refine (put_any v zs p n x w1 h1).mono ?_
  rintro e w2 ⟨v2, rfl, hb2, hbel2⟩
  rw [he]
  have h2 := h1.below hbel2
  go_wp2_with fail
  refine (put_any v2 _ p n u w2 hb2).mono ?_
  rintro e w3 ⟨v3, rfl, hb3, hbel3⟩
  have h3 := h2.below hbel3
  go_wp2_with fail
  refine (put_any v zs p n u w3 h3).mono ?_
  rintro e w4 ⟨v4, rfl, hb4, hbel4⟩
  have hB : Below w.heap.size w w4 := ((hbel1.trans (hbel2.mono hbel1.size)).trans (hbel3.mono (by have := hbel1.size; have := hbel2.size; omega))).trans (hbel4.mono (by have := hbel1.size; have := hbel2.size; have := hbel3.size; omega))
  clear hb2 hb3 hb4 h1 h2 h3 h he hb
  go_wp2
  go_ret
  exact ⟨rfl, hB⟩

set_option maxHeartbeats 800000 in
theorem ramOver_ok (v : Value) (zs : List Int) (p n : Nat) (x u o m : Int) (w : World) (h : IsBytes w v zs) (hb : hasB zs.length p n = true) :
    Calls Try.prog 5 #[v, .int .i64 p, .int .i64 n, .int .i64 x, .int .i64 u, .int .i64 o, .int .i64 m] w fun e w' => e = .returned (.bool true) ∧ Below w.heap.size w w' := by
  have hzl : zs.length ≤ 140737488351232 := by obtain ⟨_, c, _, q1, q2, _⟩ := h; omega
  have he := errV_ok hb
  have hp := putV_ok (x := x) hb
  obtain ⟨g1, g2, g3, g4⟩ := hasB_iff.1 hb
  obtain ⟨ys, hys⟩ : ∃ ys, ys = putV zs p n x := ⟨_, rfl⟩
  have hlen : ys.length = zs.length := by rw [hys, hp, length_putK]
  have hb' : hasB ys.length p n = true := by rw [hlen]; exact hb
  have hov : Hid (putV ys p n u = putV zs p n u) := by
    show _ = _
    rw [putV_ok hb', putV_ok hb, hys, hp]; exact putK_over zs _ x u _
  have HE : Hid (errV ys p n = 0) := errV_ok hb'
  have herr : Hid (errV ys o m = errV zs o m) := by show _ = _; simp [errV, hlen]
  have hap : Hid (hasB zs.length o m = true → o + m ≤ p ∨ p + n ≤ o → putV ys o m u = putV (putV zs o m u) p n x) := by
    intro hom hd
    obtain ⟨k1, k2, k3, k4⟩ := hasB_iff.1 hom
    have hl2 : (putV zs o m u).length = zs.length := by rw [putV_ok hom, length_putK]
    rw [putV_ok (by rw [hlen]; exact hom), putV_ok (p := p) (by rw [hl2]; exact hb), putV_ok hom, hys, hp]
    exact putK_comm zs _ x _ _ u _ (by omega)
  have HY : Hid (ys = putV zs p n x) := hys
  clear hys hp hb'
  have HL : Hid (ys.length = zs.length) := hlen
  clear hlen
  go_enter Try.func5, Try.ntmps5
  go_wp2_with fail
  refine (alive1_any w).mono ?_
  rintro e w1 ⟨rfl, hbel1⟩
  have h1 := h.below hbel1
  go_wp2_with fail
  refine (put_any v zs p n x w1 h1).mono ?_
  rintro e w2 ⟨v2, rfl, hb2, hbel2⟩
  rw [he]
  rw [← HY.out] at hb2
  have h2 := h1.below hbel2
  go_wp2_with fail
  refine (put_any v2 ys p n u w2 hb2).mono ?_
  rintro e w3 ⟨v3, rfl, hb3, hbel3⟩
  rw [hov.out] at hb3
  rw [HE.out]
  have h3 := h2.below hbel3
  have hb2' := hb2.below hbel3
  go_wp2_with fail
  refine (put_any v zs p n u w3 h3).mono ?_
  rintro e w4 ⟨v4, rfl, hb4, hbel4⟩
  rw [he]
  have hs1 := str_of (hb3.below hbel4)
  have hs2 := str_of hb4
  have hb2'' := hb2'.below hbel4
  have h4 := h3.below hbel4
  have hB4 : Below w.heap.size w w4 := ((hbel1.trans (hbel2.mono hbel1.size)).trans (hbel3.mono (by have := hbel1.size; have := hbel2.size; omega))).trans (hbel4.mono (by have := hbel1.size; have := hbel2.size; have := hbel3.size; omega))
  clear hb3 hb4 hb2' hb2 h1 h2 h3 h hbel1 hbel2 hbel3 hbel4
  go_wp2_with fail
  refine (put_any v2 ys o m u w4 hb2'').mono ?_
  rintro e w5 ⟨v5, rfl, hb5, hbel5⟩
  rw [herr.out]
  have h5 := h4.below hbel5
  clear hb2'' h4 hs1 hs2
  go_wp2_with fail
  refine (put_any v zs o m u w5 h5).mono ?_
  rintro e w6 ⟨v6, rfl, hb6, hbel6⟩
  have hb5' := hb5.below hbel6
  clear hb5 h5
  go_wp2_with fail
  refine (put_any v6 _ p n x w6 hb6).mono ?_
  rintro e w7 ⟨v7, rfl, hb7, hbel7⟩
  have hB : Below w.heap.size w w7 := ((hB4.trans (hbel5.mono hB4.size)).trans (hbel6.mono (by have := hB4.size; have := hbel5.size; omega))).trans (hbel7.mono (by have := hB4.size; have := hbel5.size; have := hbel6.size; omega))
  have hb5'' := hb5'.below hbel7
  clear hb5' hb6 hbel5 hbel6 hbel7 hB4
  by_cases hom : hasB zs.length o m = true
  · rw [errV_ok hom]
    obtain ⟨k1, k2, k3, k4⟩ := hasB_iff.1 hom
    by_cases hd : o + m ≤ p ∨ p + n ≤ o
    · rw [hap.out hom hd] at hb5''
      have hs1 := str_of hb5''
      have hs2 := str_of hb7
      clear hb5'' hb7
      rcases hd with hd | hd
      · go_wp2
        go_ret
        exact ⟨rfl, hB⟩
      · go_wp2
        go_ret
        exact ⟨rfl, hB⟩
    · have hd1 : o < p + n := by omega
      have hd2 : p < o + m := by omega
      clear hd hb5'' hb7
      go_wp2
      go_ret
      exact ⟨rfl, hB⟩
  · rw [errV_bad (zs := zs) (p := o) (n := m) (by simpa using hom)]
    clear hb5'' hb7
    go_wp2
    go_ret
    exact ⟨rfl, hB⟩

theorem ramOver_walk (v : Value) (zs : List Int) (p n x u o m : Int) (w : World) (h : IsBytes w v zs) (_ : (Lit.int .i64 p).wf = true) (_ : (Lit.int .i64 n).wf = true) (_ : (Lit.int .i64 x).wf = true) (_ : (Lit.int .i64 u).wf = true) (_ : (Lit.int .i64 o).wf = true) (_ : (Lit.int .i64 m).wf = true) :
    Calls Try.prog 5 #[v, .int .i64 p, .int .i64 n, .int .i64 x, .int .i64 u, .int .i64 o, .int .i64 m] w fun e w' => e = .returned (.bool true) ∧ Below w.heap.size w w' := by
  by_cases hb : hasB zs.length p n = true
  · obtain ⟨g1, g2, g3, g4⟩ := hasB_iff.1 hb
    obtain ⟨P, rfl⟩ := Int.eq_ofNat_of_zero_le g3
    obtain ⟨N, rfl⟩ := Int.eq_ofNat_of_zero_le (show 0 ≤ n by omega)
    exact ramOver_ok v zs P N x u o m w h hb
  · exact ramOver_bad v zs p n x u o m w h (by simpa using hb)
end Go.Proofs.Ytgjkijakknfkcaa

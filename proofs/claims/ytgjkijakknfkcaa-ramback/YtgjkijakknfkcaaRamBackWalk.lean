/- What was written is there, and nothing else has changed: framewardenkeep.RamBack returns true at every slice of bytes within the form's own reach and at all numbers. -/
import Derived.Test.YtgjkijakknfkcaaAlive1
import Derived.Laws.Bits64
namespace Go.Proofs.Ytgjkijakknfkcaa
open Go.RowKit

theorem errV_ok {zs : List Int} {p n : Int} (h : hasB zs.length p n = true) : errV zs p n = 0 := by simp [errV, h]
theorem errV_bad {zs : List Int} {p n : Int} (h : hasB zs.length p n = false) : errV zs p n = 2 := by simp [errV, h]
theorem putV_ok {zs : List Int} {p n x : Int} (h : hasB zs.length p n = true) : putV zs p n x = putK zs p.toNat x n.toNat := by simp [putV, h]
theorem putV_bad {zs : List Int} {p n x : Int} (h : hasB zs.length p n = false) : putV zs p n x = [] := by simp [putV, h]
theorem getV_ok {zs : List Int} {p n : Int} (h : hasB zs.length p n = true) : getV zs p n = getN zs p.toNat n.toNat := by simp [getV, h]

set_option maxHeartbeats 400000 in
theorem ramBack_bad (v : Value) (zs : List Int) (p n x o m : Int) (w : World) (h : IsBytes w v zs) (hb : hasB zs.length p n = false) :
    Calls Try.prog 4 #[v, .int .i64 p, .int .i64 n, .int .i64 x, .int .i64 o, .int .i64 m] w fun e w' => e = .returned (.bool true) ∧ Below w.heap.size w w' := by
  have he := errV_bad hb
  have hp := putV_bad (x := x) hb
  go_enter Try.func4, Try.ntmps4
  go_wp2_with fail
  refine (alive1_any w).mono ?_
  rintro e w1 ⟨rfl, hbel1⟩
  have h1 := h.below hbel1
  go_wp2_with fail
  refine (put_any v zs p n x w1 h1).mono ?_
  rintro e w2 ⟨v2, rfl, hb2, hbel2⟩
  rw [hp] at hb2
  rw [he]
  obtain ⟨a2, cap2, rfl, -⟩ := hb2
  go_wp2
  go_ret
  exact ⟨rfl, hbel1.trans (hbel2.mono hbel1.size)⟩

theorem rem_form (x : Int) (n : Nat) (h1 : 1 ≤ n) (h4 : n ≤ 4) : ¬ IntKind.u64.wrap (2 ^ (8 * n)) = 0 ∧ x % 256 ^ n = wrap64 ((IntKind.u64.wrap x).tmod (IntKind.u64.wrap (2 ^ (8 * n)))) := by
  have hc : n = 1 ∨ n = 2 ∨ n = 3 ∨ n = 4 := by omega
  simp only [IntKind.wrap_u64, tmod_of_emod]
  rcases hc with rfl | rfl | rfl | rfl
  · simp only [show (2 : Int) ^ (8 * 1) = 256 from by decide, show (256 : Int) ^ 1 = 256 from by decide, show (256 : Int) % 18446744073709551616 = 256 from by decide]; unfold wrap64; omega
  · simp only [show (2 : Int) ^ (8 * 2) = 65536 from by decide, show (256 : Int) ^ 2 = 65536 from by decide, show (65536 : Int) % 18446744073709551616 = 65536 from by decide]; unfold wrap64; omega
  · simp only [show (2 : Int) ^ (8 * 3) = 16777216 from by decide, show (256 : Int) ^ 3 = 16777216 from by decide, show (16777216 : Int) % 18446744073709551616 = 16777216 from by decide]; unfold wrap64; omega
  · simp only [show (2 : Int) ^ (8 * 4) = 4294967296 from by decide, show (256 : Int) ^ 4 = 4294967296 from by decide, show (4294967296 : Int) % 18446744073709551616 = 4294967296 from by decide]; unfold wrap64; omega

set_option maxHeartbeats 400000 in
theorem ramBack_ok (v : Value) (zs : List Int) (p n : Nat) (x o m : Int) (w : World) (h : IsBytes w v zs) (hb : hasB zs.length p n = true) :
    Calls Try.prog 4 #[v, .int .i64 p, .int .i64 n, .int .i64 x, .int .i64 o, .int .i64 m] w fun e w' => e = .returned (.bool true) ∧ Below w.heap.size w w' := by
  have he := errV_ok hb
  have hp := putV_ok (x := x) hb
  obtain ⟨g1, g2, g3, g4⟩ := hasB_iff.1 hb
  have hlen : (putV zs p n x).length = zs.length := by rw [hp, length_putK]
  have hb' : hasB (putV zs p n x).length p n = true := by rw [hlen]; exact hb
  have he' := errV_ok hb'
  have hg' : getV (putV zs p n x) p n = x % 256 ^ n := by
    rw [getV_ok hb', hp]; simpa using getN_putK zs p x n (by omega)
  have hap : Hid (∀ o m : Int, hasB zs.length o m = true → o + m ≤ p ∨ p + n ≤ o → hasB (putV zs p n x).length o m = true ∧ getV (putV zs p n x) o m = getV zs o m) := by
    intro o m hom hd
    have hom' : hasB (putV zs p n x).length o m = true := by rw [hlen]; exact hom
    obtain ⟨k1, k2, k3, k4⟩ := hasB_iff.1 hom
    refine ⟨hom', ?_⟩
    rw [getV_ok hom', getV_ok hom, hp]
    exact getN_putK_apart zs p x n o.toNat m.toNat (by omega)
  obtain ⟨hq0, hq1⟩ := rem_form x n (by omega) (by omega)
  go_enter Try.func4, Try.ntmps4
  go_wp2_with fail
  refine (alive1_any w).mono ?_
  rintro e w1 ⟨rfl, hbel1⟩
  have h1 := h.below hbel1
  go_wp2_with fail
  refine (put_any v zs p n x w1 h1).mono ?_
  rintro e w2 ⟨v2, rfl, hb2, hbel2⟩
  rw [he]
  have hB : Below w.heap.size w w2 := hbel1.trans (hbel2.mono hbel1.size)
  have h2 := h1.below hbel2
  generalize putV zs p n x = ys at *
  go_wp2_with fail
  refine (get_any v2 ys p n w2 hb2).mono ?_
  rintro e w3 ⟨rfl, rfl⟩
  rw [he', hg']
  obtain ⟨a, cap, rfl, _, _, _, _⟩ := id h
  obtain ⟨a2, cap2, rfl, _, _, _, _⟩ := id hb2
  have hb3 : IsBytes w2 (.slice a2 zs.length cap2) ys := by rw [← hlen]; exact hb2
  rw [hlen]
  clear hp he he' hg' hlen hb'
  go_wp2_with fail
  all_goals first
    | (go_at_call 6; go_must (have hom : hasB zs.length o m = true := hasB_iff.2 (by omega); obtain ⟨hom', hgv⟩ := hap.out o m hom (by omega); have he1 := errV_ok hom; have he2 := errV_ok hom'; refine (get_any _ zs o m w2 h2).mono ?_; rintro e w4 ⟨rfl, rfl⟩; rw [he1]; have HG : Hid (getV ys o m = getV zs o m) := hgv; have HE : Hid (errV ys o m = 0) := he2; clear hgv he2 he1 hom' hom hap hq1 hq0; go_wp2_with fail; refine (get_any _ ys o m w2 hb3).mono ?_; rintro e w5 ⟨rfl, rfl⟩; rw [HE.out, HG.out]; go_wp2; go_ret; exact ⟨rfl, hB⟩))
    | (go_ret; exact ⟨rfl, hB⟩)

theorem ramBack_walk (v : Value) (zs : List Int) (p n x o m : Int) (w : World) (h : IsBytes w v zs) (_ : (Lit.int .i64 p).wf = true) (_ : (Lit.int .i64 n).wf = true) (_ : (Lit.int .i64 x).wf = true) (_ : (Lit.int .i64 o).wf = true) (_ : (Lit.int .i64 m).wf = true) :
    Calls Try.prog 4 #[v, .int .i64 p, .int .i64 n, .int .i64 x, .int .i64 o, .int .i64 m] w fun e w' => e = .returned (.bool true) ∧ Below w.heap.size w w' := by
  by_cases hb : hasB zs.length p n = true
  · obtain ⟨g1, g2, g3, g4⟩ := hasB_iff.1 hb
    obtain ⟨P, rfl⟩ := Int.eq_ofNat_of_zero_le g3
    obtain ⟨N, rfl⟩ := Int.eq_ofNat_of_zero_le (show 0 ≤ n by omega)
    exact ramBack_ok v zs P N x o m w h hb
  · exact ramBack_bad v zs p n x o m w h (by simpa using hb)
end Go.Proofs.Ytgjkijakknfkcaa

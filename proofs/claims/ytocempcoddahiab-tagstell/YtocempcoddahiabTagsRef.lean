/- The contracts of the document's own answers, framewardenref.CGet and CSet: they answer what tags.Get and tags.Set answer. -/
import Derived.Test.YtocempcoddahiabTagsBackWalk
namespace Go.Proofs.Ytocempcoddahiab
open Go.RowKit

set_option maxHeartbeats 400000 in
theorem cget_any (v : Value) (zs : List Int) (g : Int) (w : World) (h : IsBytes w v zs) :
    Calls Try.prog 11 #[v, .int .i64 g] w fun e w' => e = .returned (.tuple #[.int .i64 (tgetV zs g), .int .i64 (tgetE zs g)]) ∧ w = w' := by
  obtain ⟨a, cap, rfl, h1, h2, h3, h4⟩ := h
  obtain ⟨n, hn⟩ : ∃ n, Hid (n = zs.length) := ⟨_, rfl⟩
  rw [← hn.out] at h1 h2 h4 ⊢
  obtain ⟨V, hV⟩ : ∃ V, Hid (V = tgetV zs g) := ⟨_, rfl⟩
  obtain ⟨E, hE⟩ : ∃ E, Hid (E = tgetE zs g) := ⟨_, rfl⟩
  rw [← hV.out, ← hE.out]
  go_enter Try.func11, Try.ntmps11
  go_wp2
  go_loop [10] (fun i => ∃ k : Nat, k ≤ n ∧ i = .int .i64 k ∧ ¬ (0 ≤ g ∧ g < 2 * k)) (fun i => n - (intOf i).toNat)
  case atStart => exact ⟨0, Nat.zero_le _, rfl, by omega⟩
  case round =>
    obtain ⟨k, hk, rfl, hno⟩ := hrel
    by_cases hlt : k < n
    · obtain ⟨b, off, rfl, hc⟩ := h4 (by omega)
      have hck := hc k hlt
      have hzk := h3 k
      clear hc
      by_cases e1 : g = 2 * k
      · have hv : V = zs.getD k 0 % 16 := by
          rw [hV.out]; unfold tgetV; rw [if_pos (by rw [← hn.out]; omega)]; unfold nib; rw [if_pos (by omega), show g.toNat / 2 = k from by omega]
        have he : E = 0 := by rw [hE.out]; unfold tgetE; rw [if_pos (by rw [← hn.out]; omega)]
        have HV : Hid (V = zs.getD k 0 % 16) := hv
        have HE : Hid (E = 0) := he
        clear hV hE hv he
        generalize zs.getD k 0 = z at *
        have htm : z.tmod 16 = z % 16 := Int.tmod_eq_emod_of_nonneg hzk.1
        clear hno h3
        subst e1
        go_wp2
        go_ret2
        exact ⟨by rw [HV.out, HE.out]; rfl, rfl⟩
      · by_cases e2 : g = 2 * k + 1
        · have hv : V = zs.getD k 0 / 16 := by
            rw [hV.out]; unfold tgetV; rw [if_pos (by rw [← hn.out]; omega)]; unfold nib; rw [if_neg (by omega), show g.toNat / 2 = k from by omega]
          have he : E = 0 := by rw [hE.out]; unfold tgetE; rw [if_pos (by rw [← hn.out]; omega)]
          have HV : Hid (V = zs.getD k 0 / 16) := hv
          have HE : Hid (E = 0) := he
          clear hV hE hv he
          generalize zs.getD k 0 = z at *
          clear hno e1 h3
          subst e2
          go_wp2
          go_ret2
          exact ⟨by rw [HV.out, HE.out]; rfl, rfl⟩
        · have hno' : Hid (¬ (0 ≤ g ∧ g < 2 * ((k + 1 : Nat) : Int))) := by show ¬ _; omega
          clear hno
          generalize zs.getD k 0 = z at *
          go_wp2
          go_round
          case rel => exact ⟨k + 1, by omega, by go_num, hno'.out⟩
          case measure => simp [intOf]; omega
    · have hv : V = 0 := by
        rw [hV.out]; unfold tgetV; rw [if_neg (by rw [← hn.out]; omega)]
      have he : E = 2 := by rw [hE.out]; unfold tgetE; rw [if_neg (by rw [← hn.out]; omega)]
      subst hv
      subst he
      clear hV hE hno
      go_wp2
      go_ret2
      exact ⟨rfl, rfl⟩

theorem tget_in (zs : List Int) (g : Nat) (h : g < 2 * zs.length) : tgetV zs (g : Int) = nib zs g := by
  unfold tgetV; rw [if_pos (by omega)]; rfl
theorem tgetE_in (zs : List Int) (g : Nat) (h : g < 2 * zs.length) : tgetE zs (g : Int) = 0 := by
  unfold tgetE; rw [if_pos (by omega)]

theorem take_snoc (l : List Int) (k : Nat) (h : k < l.length) : l.take (k + 1) = l.take k ++ [l.getD k 0] := by
  rw [List.take_add_one, List.getD_eq_getElem?_getD, List.getElem?_eq_getElem h]; rfl

theorem setK_at (zs : List Int) (p n : Nat) (t : Int) (k : Nat) (h0 : 0 ≤ t) (h15 : t ≤ 15) (h : p + n ≤ 2 * zs.length) :
    (setK zs p t n).getD k 0 = 16 * (if p ≤ 2 * k + 1 ∧ 2 * k + 1 < p + n then t else nib zs (2 * k + 1)) + (if p ≤ 2 * k ∧ 2 * k < p + n then t else nib zs (2 * k)) := by
  rw [nib_two, nib_setK zs p t _ h0 h15 n h, nib_setK zs p t _ h0 h15 n h]

set_option maxHeartbeats 400000 in
theorem cset_bad (a : Option Addr) (len cap : Nat) (p n t : Int) (w : World) (hl : len ≤ 140737488351232) (hb : tokB len p n t = false) :
    Calls Try.prog 13 #[.slice a len cap, .int .i64 p, .int .i64 n, .int .i64 t] w fun e w' => e = .returned (.tuple #[.slice none 0 0, .int .i64 2]) ∧ w = w' := by
  have hb' : ¬ (0 ≤ t ∧ t ≤ 15 ∧ 0 ≤ n ∧ 0 ≤ p ∧ p + n ≤ 2 * len) := by rw [← tokB_iff, hb]; simp
  clear hb
  go_enter Try.func13, Try.ntmps13
  go_wp2
  all_goals first
    | (exfalso; omega)
    | (go_ret2; exact ⟨rfl, rfl⟩)

set_option maxHeartbeats 800000 in
set_option maxRecDepth 20000 in
theorem cset_ok (v : Value) (zs : List Int) (p n : Nat) (t : Int) (w : World) (h : IsBytes w v zs) (h0 : 0 ≤ t) (h15 : t ≤ 15) (hpn : p + n ≤ 2 * zs.length) :
    Calls Try.prog 13 #[v, .int .i64 p, .int .i64 n, .int .i64 t] w fun e w' => ∃ v', e = .returned (.tuple #[v', .int .i64 0]) ∧
      Below w.heap.size w w' ∧ w'.ownsRow w.heap.size 5 1 v' zs.length (vals (setK zs p t n)) := by
  obtain ⟨i0, hi, hz0, hz1, hz2⟩ := info_parts Try.infoU8
  have hbts := h
  obtain ⟨a, cap, rfl, -, hl, hz, -⟩ := h
  obtain ⟨len, HL⟩ : ∃ len, Hid (zs.length = len) := ⟨_, rfl⟩
  rw [HL.out] at hl hpn hbts ⊢
  have HP : Hid (p + n ≤ 2 * len) := hpn
  go_enter Try.func13, Try.ntmps13
  go_wp2
  go_loopw [11, 48] (fun v i wr => ∃ k : Nat, k ≤ len ∧ i = .int .i64 k ∧ wr.ownsRow w.heap.size 5 1 v k (vals ((setK zs p t n).take k)) ∧ Below w.heap.size w wr) (fun _ i _ => len - (intOf i).toNat)
  case atStart => exact ⟨0, Nat.zero_le _, rfl, World.ownsRow_nil _ _ _ _, Below.refl _ _⟩
  case round =>
    obtain ⟨k, hk, rfl, hown, hbel⟩ := hrel
    by_cases hlt : k < len
    · have hw := hbts.below hbel
      have e1 := tget_in zs (2 * k) (by rw [HL.out]; omega)
      have e2 := tget_in zs (2 * k + 1) (by rw [HL.out]; omega)
      have e3 := tgetE_in zs (2 * k) (by rw [HL.out]; omega)
      have e4 := tgetE_in zs (2 * k + 1) (by rw [HL.out]; omega)
      have n1 := nib_bd zs hz (2 * k)
      have n2 := nib_bd zs hz (2 * k + 1)
      have hat := setK_at zs p n t k h0 h15 (by rw [HL.out]; exact hpn)
      have htk := take_snoc (setK zs p t n) k (by rw [length_setK, HL.out]; exact hlt)
      rw [hat] at htk
      clear hat
      generalize nib zs (2 * k) = lo at *
      generalize nib zs (2 * k + 1) = hh at *
      push_cast at e1 e2 e3 e4
      go_wp2_with fail
      refine (cget_any _ zs (2 * (k : Int)) wr hw).mono ?_
      rintro e w1 ⟨rfl, rfl⟩
      rw [e1, e3]
      go_wp2_with fail
      refine (cget_any _ zs (2 * (k : Int) + 1) wr hw).mono ?_
      rintro e w1 ⟨rfl, rfl⟩
      rw [e2, e4]
      have HT : Hid (List.take (k + 1) (setK zs p t n) = List.take k (setK zs p t n) ++ [16 * (if p ≤ 2 * k + 1 ∧ 2 * k + 1 < p + n then t else hh) + (if p ≤ 2 * k ∧ 2 * k < p + n then t else lo)]) := htk
      clear htk e1 e2 e3 e4
      go_wp2_with (at_builtin; go_must (refine wpList_append_one rfl _ _ 31 rfl w.heap.size 5 i0 (.int .u8 0) 1 Try.underlying31 hi hz0 hz1 hz2 rfl _ k _ rfl hown _ rfl rfl (by unfold maxLen; omega) (by omega) w hbel hbel.size ?_); intro v' w' hown' hbel')
      all_goals first
        | (exfalso; omega)
        | (have HT' := HT.out
           (first | rw [if_pos (show p ≤ 2 * k + 1 ∧ 2 * k + 1 < p + n by omega)] at HT' | rw [if_neg (show ¬ (p ≤ 2 * k + 1 ∧ 2 * k + 1 < p + n) by omega)] at HT')
           (first | rw [if_pos (show p ≤ 2 * k ∧ 2 * k < p + n by omega)] at HT' | rw [if_neg (show ¬ (p ≤ 2 * k ∧ 2 * k < p + n) by omega)] at HT')
           go_roundw
           case rel =>
             refine ⟨k + 1, by omega, by go_num, ?_, hbel'⟩
             rw [HT', vals_snoc]
             exact hown'
           case measure => simp [intOf]; omega)
    · go_wp2
      go_ret2
      obtain rfl : k = len := by omega
      refine ⟨_, rfl, hbel, ?_⟩
      rw [List.take_of_length_le (by rw [length_setK, HL.out]; exact Nat.le_refl _)] at hown
      exact hown

theorem cset_any (v : Value) (zs : List Int) (p n t : Int) (w : World) (h : IsBytes w v zs) :
    Calls Try.prog 13 #[v, .int .i64 p, .int .i64 n, .int .i64 t] w fun e w' => ∃ v', e = .returned (.tuple #[v', .int .i64 (tsetE zs p n t)]) ∧ IsBytes w' v' (tsetV zs p n t) ∧ Below w.heap.size w w' := by
  by_cases hb : tokB zs.length p n t = true
  · obtain ⟨g1, g2, g3, g4, g5⟩ := tokB_iff.1 hb
    rw [tsetV_ok hb, tsetE_ok hb]
    obtain ⟨P, rfl⟩ := Int.eq_ofNat_of_zero_le g4
    obtain ⟨N, rfl⟩ := Int.eq_ofNat_of_zero_le g3
    simp only [Int.toNat_natCast]
    have hz : Bytes zs ∧ zs.length ≤ 140737488351232 := by obtain ⟨_, _, _, _, hl, hz, _⟩ := h; exact ⟨hz, hl⟩
    refine (cset_ok v zs P N t w h g1 g2 (by omega)).mono ?_
    rintro e w' ⟨v', rfl, hbel, hown⟩
    have hlen : (setK zs P t N).length = zs.length := length_setK _ _ _ _
    rw [← hlen] at hown
    exact ⟨_, rfl, isBytes_owns hown (setK_bytes zs hz.1 P t g1 g2 N) (by omega), hbel⟩
  · have hb' : tokB zs.length p n t = false := by simpa using hb
    obtain ⟨a, cap, rfl, h1, h2, h3, h4⟩ := h
    refine (cset_bad a zs.length cap p n t w h2 hb').mono ?_
    rintro e w' ⟨rfl, rfl⟩
    rw [tsetV_bad hb', tsetE_bad hb']
    exact ⟨_, rfl, isBytes_nil w, Below.refl _ _⟩
end Go.Proofs.Ytocempcoddahiab

/- What was taken and given back is as it was, and what is free stays right: framewardenkeep.BuddyBack returns true at every slice of blocks within the form's own reach and at all numbers. -/
import Derived.Test.YtflhcphdggabeaaBuddyTake
import Derived.Test.YtflhcphdggabeaaAlive2
namespace Go.Proofs.Ytflhcphdggabeaa
open Go.RowKit
set_option linter.unusedSimpArgs false
set_option linter.unusedVariables false

theorem sumSz_take (l : List (Int × Int)) (k : Nat) (hk : k < l.length) : sumSz (l.take (k + 1)) = sumSz (l.take k) + sz (l.getD k (0, 0)).2 := by
  rw [List.take_add_one, List.getElem?_eq_getElem hk, sumSz_append, List.getD_eq_getElem?_getD, List.getElem?_eq_getElem hk]
  simp [sumSz]

theorem wrap_two' {q : Int} (h0 : 0 ≤ q) (h6 : q ≤ 6) : IntKind.i64.wrap (2 ^ q.toNat) = sz q := by
  rw [IntKind.wrap_i64]
  rcases ord_cases h0 h6 with rfl | rfl | rfl | rfl | rfl | rfl | rfl <;> simp [sz]

theorem wrap_two {q : Int} (h0 : 0 ≤ q) (h6 : q ≤ 6) : wrap64 (2 ^ q.toNat) = sz q := by
  rcases ord_cases h0 h6 with rfl | rfl | rfl | rfl | rfl | rfl | rfl <;> simp [sz, wrap64]

set_option maxHeartbeats 800000 in
theorem frames_any (v : Value) (l : List (Int × Int)) (w : World) (h : IsBlocks w v l) (hA : AllBlk l) (h64 : l.length ≤ 64) :
    Calls Try.prog 25 #[v] w fun e w' => e = .returned (.int .i64 (sumSz l)) ∧ Below w.heap.size w w' := by
  obtain ⟨a, cap, rfl, h1, hl, hc'⟩ := h
  obtain ⟨n, hn⟩ : ∃ n, Hid (n = l.length) := ⟨_, rfl⟩
  rw [← hn.out] at hl hc' h64 ⊢
  go_enter Try.func25, Try.ntmps25
  go_wp2_with fail
  go_loopw [3, 8] (fun m i wr => ∃ k : Nat, k ≤ n ∧ m = .int .i64 (sumSz (l.take k)) ∧ i = .int .i64 k ∧ Below w.heap.size w wr) (fun _ i _ => n - (intOf i).toNat)
  case atStart => exact ⟨0, Nat.zero_le _, rfl, rfl, Below.refl _ _⟩
  case round =>
    obtain ⟨k, hk, rfl, rfl, hbel⟩ := hrel
    by_cases hlt : k < n
    · obtain ⟨b, off, rfl, hc⟩ := hc' (by omega)
      have hck := hc k hlt
      have hA' := hA.get (k := k) (by rw [← hn.out]; exact hlt)
      have HS : Hid (sumSz (l.take (k + 1)) = sumSz (l.take k) + sz (l.getD k (0, 0)).2) := sumSz_take l k (by rw [← hn.out]; exact hlt)
      have hbd := sumSz_bd (l := l.take k) (fun p hp => hA p (List.mem_of_mem_take hp))
      have htl : (l.take k).length ≤ 64 := by rw [List.length_take, ← hn.out]; omega
      obtain ⟨⟨px, py⟩, hp⟩ : ∃ p, p = l.getD k (0, 0) := ⟨_, rfl⟩
      rw [← hp] at hck hA' HS
      clear hp
      simp only at hck HS
      obtain ⟨q0, q6, qx0, qx, -⟩ := isBlk_iff.1 hA'
      simp only at q0 q6 qx0 qx
      have hqs := sz_bd q0 q6
      have HW : Hid (wrap64 (2 ^ py.toNat) = sz py) := wrap_two q0 q6
      have hk0 : wr.cell? ⟨b, off + k * 2, none⟩ = some (.int .i64 px) := (hbel.cell (cell_lt hck.1)).trans hck.1
      have hk1 : wr.cell? ⟨b, off + k * 2 + 1, none⟩ = some (.int .i64 py) := (hbel.cell (cell_lt hck.2)).trans hck.2
      clear hck hA'
      obtain ⟨s, hs⟩ : ∃ s, s = sumSz (l.take k) := ⟨_, rfl⟩
      rw [← hs] at hbd HS ⊢
      clear hs
      go_wp2
      go_roundw
      case rel =>
        refine ⟨k + 1, by omega, ?_, by go_num, hbel.alloc hbel.size _⟩
        rw [HS.out, ← HW.out]
        congr 1
        have := HW.out
        unfold wrap64
        unfold wrap64 at this
        omega
      case measure => simp [intOf]; omega
    · go_wp2
      go_ret
      refine ⟨ret_int ?_, hbel⟩
      rw [List.take_of_length_le (by rw [← hn.out]; omega)]

set_option maxHeartbeats 1600000 in
theorem buddyBack_any (v : Value) (l : List (Int × Int)) (o : Int) (w : World) (h : IsBlocks w v l) (ho : (Lit.int .i64 o).wf = true) :
    Calls Try.prog 7 #[v, .int .i64 o] w fun e w' => e = .returned (.bool true) ∧ Below w.heap.size w w' := by
  have HI : Hid (IsBlocks w v l) := h
  clear h
  go_enter Try.func7, Try.ntmps7
  go_wp2_with fail
  refine (alive2_any w).mono ?_
  rintro e w1 ⟨rfl, hb1⟩
  go_wp2_with fail
  refine (btake_any v l o w1 (HI.out.below hb1)).mono ?_
  rintro e w2 ⟨v2, rfl, ho2, hb2⟩
  have hbb2 := hb1.trans (hb2.mono hb1.size)
  have hl2 := take_len l o
  have hi2 := ho2.blocks (by omega)
  have hsl := ho2.slen
  obtain ⟨a2, n2, c2, rfl⟩ := ho2.form
  by_cases he : takeE l o = 0
  · have hsum := take_sum he
    obtain ⟨tg1, tg2⟩ := take_give he
    obtain ⟨hr, g1, g2, -⟩ := take_good he
    have hr2 := right_of_good g1
    obtain ⟨x, hx⟩ : ∃ x, x = takeAt l o := ⟨_, rfl⟩
    obtain ⟨m, hm⟩ : ∃ m, m = takeL l o := ⟨_, rfl⟩
    rw [he]
    rw [← hx, ← hm] at tg1 tg2
    rw [← hm] at hi2 hsum hr2 g1 hl2
    rw [← hx] at g2 ⊢
    clear hx hm ho2 hsl he
    have Hg : Hid (∀ w', IsBlocks w' (.slice a2 n2 c2) m → Calls Try.prog 18 #[.slice a2 n2 c2, .agg #[.int .i64 x, .int .i64 o]] w' fun e w2 => ∃ v', e = .returned (.tuple #[v', .int .i64 0]) ∧ OwnB w'.heap.size w2 v' l ∧ Below w'.heap.size w' w2) := by
      intro w' hw'
      have := give_any (.slice a2 n2 c2) m x o w' hw'
      rw [tg1, tg2] at this
      exact this
    have H2 : Hid (IsBlocks w2 (.slice a2 n2 c2) m) := hi2
    clear hi2 tg1 tg2
    go_wp2_with fail
    refine (Hg.out _ H2.out).mono ?_
    rintro e w3 ⟨v3, rfl, ho3, hb3⟩
    have hbb3 := hbb2.trans (hb3.mono hbb2.size)
    have hlr := right_len hr
    have hi3 := ho3.blocks (by omega)
    have H23 := H2.out.below hb3
    have HI3 := HI.out.below hbb3
    obtain ⟨o0, o6, -⟩ := isBlk_iff.1 g2
    have hos := sz_bd o0 o6
    have HA2 := g1.1
    have HAl := rightB_blk hr
    have b2 := sumSz_bd HA2
    have bl := sumSz_bd HAl
    have HW : Hid (IntKind.i64.wrap (2 ^ o.toNat) = sz o) := wrap_two' o0 o6
    obtain ⟨a3, n3, c3, rfl⟩ := ho3.form
    clear ho3
    go_wp2_with fail
    refine wp_region_calm (by kernel_rfl) (by kernel_rfl) (fun W hW _ => ?_)
    have e3 : Hid (∀ u : Wd W, IsBlocks u.w (.slice a3 n3 c3) l) := fun u => (by rw [hW]; exact hi3 : IsBlocks W _ _).below u.ok
    have e2 : Hid (∀ u : Wd W, IsBlocks u.w (.slice a2 n2 c2) m) := fun u => (by rw [hW]; exact H23 : IsBlocks W _ _).below u.ok
    have eI : Hid (∀ u : Wd W, IsBlocks u.w v l) := fun u => (by rw [hW]; exact HI3 : IsBlocks W _ _).below u.ok
    have hbW : Below w.heap.size w W := by rw [hW]; exact hbb3
    clear hW hi3 H23 HI3
    repeat (go_big_quiet_step (first | (go_at_call 20; exact calm_of (equal_is (f := true) _ _ l l _ (e3.out _) (eI.out _) (by simp))) | (go_at_call 22; exact calm_of (right_is _ m _ (e2.out _) hr2)) | (go_at_call 25; first | exact calm_of (frames_any _ m _ (e2.out _) HA2 hl2) | exact calm_of (frames_any _ l _ (eI.out _) HAl hlr))))
    refine wpQuiet_nil ?_
    rintro w9 ⟨⟨_, hw9⟩, rfl⟩
    go_wp2
    go_ret
    refine ⟨ret_bool ?_, hbW.trans (hw9.mono hbW.size)⟩
    rw [beq_iff_eq]
    have := wrap_two o0 o6
    rw [this]
    unfold wrap64
    omega
  · have hL := takeL_bad he
    rw [hL] at hsl
    obtain rfl : n2 = 0 := hsl
    have hd : (takeE l o != 0) = true := by simpa using he
    generalize takeE l o = g at *
    generalize takeAt l o = x at *
    clear ho2 hi2 hl2 hL
    go_wp2
    go_ret
    exact ⟨rfl, hbb2⟩

end Go.Proofs.Ytflhcphdggabeaa

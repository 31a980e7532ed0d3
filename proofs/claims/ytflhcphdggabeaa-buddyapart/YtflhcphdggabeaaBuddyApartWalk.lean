/- Nobody gets what somebody has: framewardenkeep.BuddyApart returns true at every slice of ints within the form's own reach. -/
import Derived.Test.YtflhcphdggabeaaBuddyApartMath
import Derived.Test.YtflhcphdggabeaaAlive2
import Derived.Test.YtflhcphdggabeaaInts
namespace Go.Proofs.Ytflhcphdggabeaa
open Go.RowKit
set_option linter.unusedSimpArgs false
set_option linter.unusedVariables false

theorem wrap_pow {q : Int} (h0 : 0 ≤ q) (h6 : q ≤ 6) : wrap64 (2 ^ q.toNat) = sz q := by
  rcases ord_cases h0 h6 with rfl | rfl | rfl | rfl | rfl | rfl | rfl <;> simp [sz, wrap64]

theorem wrap_pow' {q : Int} (h0 : 0 ≤ q) (h6 : q ≤ 6) : IntKind.i64.wrap (2 ^ q.toNat) = sz q := by
  rw [IntKind.wrap_i64]
  rcases ord_cases h0 h6 with rfl | rfl | rfl | rfl | rfl | rfl | rfl <;> simp [sz]

/-- 'out = append(out, s...)', out nil or the call's own, s a slice of blocks that is not nil; what else stands is as it was. -/
theorem wpList_append_far {w : World} {ops : Array Oper} {rest : List Oper} {o : Oper} {a : Act} {Q : Exit → Act → World → Prop} (hgd : o.guard = none) (s x : Operand)
    (ho : o.op = .call { callee := .builtin .append, args := #[s, x], argTypes := #[35, 35] })
    (base : Nat) (v : Value) (l : List (Int × Int)) (hs : a.eval s = v) (hown : OwnB base w v l) (ad : Addr) (c : Nat) (m : List (Int × Int)) (hx : a.eval x = .slice (some ad) m.length c) (hu : IsBlocks w (.slice (some ad) m.length c) m)
    (hlen : l.length + m.length ≤ 8000000000000) (hbase : base ≤ w.heap.size)
    (h : ∀ v' w', OwnB base w' v' (l ++ m) → Below base w w' → w.grownBy w' v.ownBlock → wpList Try.prog ops Q rest (a.put o.dst v') w') : wpList Try.prog ops Q (o :: rest) a w := by
  obtain ⟨i0, hi, hz0, hz1, hz2⟩ := info_parts info_block
  obtain ⟨ad', cap, he, h1, hl, hc'⟩ := hu
  simp only [Value.slice.injEq] at he
  obtain ⟨rfl, -, rfl⟩ := he
  refine wpList_append_own w hgd s x _ ho base 37 i0 _ 2 16 Try.underlying35 hi hz0 hz1 hz2 rfl (by decide) v l.length (flat l) hs hown ad m.length c (flat m) hx (flat_len m) ?_ (flat_one m) (by unfold maxLen; omega) (by omega) hbase ?_
  · intro j u hj
    have hlt : j < (flat m).length := (List.getElem?_eq_some_iff.1 hj).1
    rw [flat_len] at hlt
    obtain ⟨b, off, hn, hc⟩ := hc' (by omega)
    cases hn
    rw [add_none]
    exact flat_cells hc j u hj
  · intro v' w' hown' hgrow _
    refine h v' w' ?_ ((Below.refl _ _).grown hgrow hbase (fun k hk => (hown.lt k hk).1)) hgrow
    unfold OwnB
    rw [flat_append, List.length_append]
    exact hown'

set_option maxRecDepth 100000 in
set_option maxHeartbeats 8000000 in
theorem buddyApart_any (v : Value) (zs : List Int) (w : World) (h : IsInts w v zs) :
    Calls Try.prog 8 #[v] w fun e w' => e = .returned (.bool true) ∧ Below w.heap.size w w' := by
  obtain ⟨a, cap, rfl, hzc, hzl, -, hz'⟩ := h
  obtain ⟨n, hn⟩ : ∃ n, Hid (n = zs.length) := ⟨_, rfl⟩
  rw [← hn.out] at hzc hzl hz' ⊢
  go_enter Try.func8, Try.ntmps8
  go_wp2_with fail
  refine (alive2_any w).mono ?_
  rintro e w0 ⟨rfl, hb0⟩
  go_wp2_with fail
  refine (new_any w0).mono ?_
  rintro e w1 ⟨v1, rfl, ho1, hb1⟩
  have hbb1 := hb0.trans (hb1.mono hb0.size)
  have hi1 := ho1.blocks (by simp)
  clear ho1
  go_wp2_with fail
  go_loopw [3, 4, 28] (fun v3 v4 i wr => ∃ (k : Nat) (f H : List (Int × Int)), k ≤ n ∧ i = .int .i64 k ∧ IsBlocks wr v3 f ∧ OwnB w.heap.size wr v4 H ∧ Inv1 f H ∧ Below w.heap.size w wr) (fun _ _ i _ => n - (intOf i).toNat)
  case atStart => exact ⟨0, _, _, Nat.zero_le _, rfl, hi1, ⟨rfl, Or.inl ⟨rfl, rfl⟩⟩, inv1_start, hbb1⟩
  clear hi1 hbb1 hb0 hb1
  case round =>
    obtain ⟨k, f, H, hk, rfl, hif, hoH, hinv, hbel⟩ := hrel
    by_cases hlt : k < n
    · obtain ⟨b, off, rfl, hz⟩ := hz' (by omega)
      have hck := hz k hlt
      obtain ⟨o, ho⟩ : ∃ o, o = zs.getD k 0 := ⟨_, rfl⟩
      rw [← ho] at hck
      have hk0 : wr.cell? ⟨b, off + k, none⟩ = some (.int .i64 o) := (hbel.cell (cell_lt hck)).trans hck
      clear hck ho
      have HF : Hid (IsBlocks wr u3 f) := hif
      obtain ⟨fa, fc, rfl, -⟩ := hif
      obtain ⟨ha, hn4, hc4, rfl⟩ := hoH.form
      have h4l : Hid (hn4 = H.length) := hoH.slen
      obtain ⟨b0, hb00⟩ : ∃ b0, Hid (b0 = wr.heap.size) := ⟨_, rfl⟩
      have H4lt : Hid (∀ k, (Value.slice ha hn4 hc4).ownBlock = some k → k < b0) := fun k hk => by rw [hb00.out]; exact (hoH.lt k hk).2
      go_wp2_with fail
      refine (btake_any _ f o wr HF.out).mono ?_
      rintro e w2 ⟨v7, rfl, ho7, hb7⟩
      by_cases he : takeE f o = 0
      · obtain ⟨st1, st2, st3⟩ := inv1_step hinv he
        have hlen := inv1_len hinv
        obtain ⟨-, -, g2, -⟩ := take_good he
        have hl7 := take_len f o
        have hi7 := ho7.blocks (by omega)
        obtain ⟨x, hx⟩ : ∃ x, x = takeAt f o := ⟨_, rfl⟩
        obtain ⟨m, hm⟩ : ∃ m, m = takeL f o := ⟨_, rfl⟩
        rw [← hx] at st1 st2 st3 g2 ⊢
        rw [← hm] at st1 hi7 ho7
        rw [he]
        obtain ⟨o0, o6, ox0, ox, -⟩ := isBlk_iff.1 g2
        have hos := sz_bd o0 o6
        have HAO : Hid (wrap64 (x + sz o) = x + sz o) := by show _ = _; unfold wrap64; omega
        have HAO' : Hid (IntKind.i64.wrap (x + sz o) = x + sz o) := by show _ = _; rw [IntKind.wrap_i64]; omega
        have HWO : Hid (wrap64 (2 ^ o.toNat) = sz o) := wrap_pow o0 o6
        have HWO' : Hid (IntKind.i64.wrap (2 ^ o.toNat) = sz o) := wrap_pow' o0 o6
        obtain ⟨ma, mn, mc, rfl⟩ := ho7.form
        have HMl : Hid (m.length ≤ 64) := by rw [hm]; exact hl7
        clear hx hm he hl7
        have hoH2 := hoH.below hb7
        have hA := hinv.2.1
        obtain ⟨W2, hW2⟩ : ∃ W2, Hid (W2 = w2.alloc (.cells #[.int .i64 x, .int .i64 o] 37)) := ⟨_, rfl⟩
        have hbW2 : Below w2.heap.size w2 W2 := by rw [hW2.out]; exact (Below.refl _ _).alloc (Nat.le_refl _) _
        have hBX : OwnRow W2 w2.heap.size 37 [.int .i64 x, .int .i64 o] := by rw [hW2.out]; exact heap_alloc_new w2 _
        have hoHW := hoH2.below hbW2
        have HO : Hid (∀ w', Below W2.heap.size W2 w' → OwnB w.heap.size w' (.slice ha hn4 hc4) H) := fun w' hb => hoHW.below hb
        have HFW : Hid (∀ w', Below W2.heap.size W2 w' → IsBlocks w' (.slice fa f.length fc) f) := fun w' hb => ((HF.out.below hb7).below hbW2).below hb
        have HMW : Hid (∀ w', Below W2.heap.size W2 w' → OwnB b0 w' (.slice ma mn mc) m) := fun w' hb => by rw [hb00.out]; exact (ho7.below hbW2).below hb
        have HBX : Hid (∀ w', Below W2.heap.size W2 w' → w'.cell? ⟨w2.heap.size, 0, none⟩ = some (.int .i64 x) ∧ w'.cell? ⟨w2.heap.size, 1, none⟩ = some (.int .i64 o)) := fun w' hb => by
          have h1 := hBX.below hb hBX.lt
          exact ⟨by rw [h1.cell]; rfl, by rw [h1.cell]; rfl⟩
        have hwW2 : Below w.heap.size w W2 := (hbel.trans (hb7.mono hbel.size)).trans (hbW2.mono (Nat.le_trans hbel.size hb7.size))
        obtain ⟨c1, hc1, he1, hl1, hle1, hcH'⟩ := hoHW.blocks (by omega)
        simp only [Value.slice.injEq] at he1
        obtain ⟨rfl, -, rfl⟩ := he1
        have ST1 : Hid (Inv1 m (H ++ [(x, o)])) := st1
        have ST2 : Hid (giveE f x o = 7) := st2
        have ST3 : Hid (∀ p ∈ H, meets x o p = false) := st3
        rw [← h4l.out] at hlen hl1 hcH'
        have h4w : hn4 ≤ 64 := hlen
        clear hoHW hoH2 hi7 ho7 hoH hBX hbel hb7 hk0 st1 st2 st3 g2 HF hz hz' hinv hle1
        go_wp2_with fail
        rw [← hW2.out]
        clear hW2 hbW2
        go_loopw [46] (fun i wr2 => ∃ j : Nat, j ≤ hn4 ∧ i = .int .i64 j ∧ Below W2.heap.size W2 wr2) (fun i _ => hn4 - (intOf i).toNat)
        case atStart => exact ⟨0, Nat.zero_le _, rfl, Below.refl _ _⟩
        case round =>
          obtain ⟨j, hj, rfl, hbj⟩ := hrel
          obtain ⟨hB0, hB1⟩ := HBX.out wr hbj
          by_cases hjl : j < hn4
          · obtain ⟨hb, hoff, rfl, hcH⟩ := hcH' (by omega)
            have hck := hcH j hjl
            have hA' := hA.get (k := j) (by rw [← h4l.out]; exact hjl)
            have hmt := ST3.out (H.getD j (0, 0)) (by rw [List.getD_eq_getElem?_getD, List.getElem?_eq_getElem (by rw [← h4l.out]; exact hjl)]; exact List.getElem_mem _)
            obtain ⟨⟨px, py⟩, hp⟩ : ∃ p, p = H.getD j (0, 0) := ⟨_, rfl⟩
            rw [← hp] at hck hA' hmt
            clear hp
            obtain ⟨q0, q6, qx0, qx, -⟩ := isBlk_iff.1 hA'
            simp only at hck q0 q6 qx0 qx
            have hqs := sz_bd q0 q6
            have HAQ : Hid (wrap64 (px + sz py) = px + sz py) := by show _ = _; unfold wrap64; omega
            have HAQ' : Hid (IntKind.i64.wrap (px + sz py) = px + sz py) := by show _ = _; rw [IntKind.wrap_i64]; omega
            have HWQ : Hid (wrap64 (2 ^ py.toNat) = sz py) := wrap_pow q0 q6
            have HWQ' : Hid (IntKind.i64.wrap (2 ^ py.toNat) = sz py) := wrap_pow' q0 q6
            have hk0 : wr.cell? ⟨hb, hoff + j * 2, none⟩ = some (.int .i64 px) := (hbj.cell (cell_lt hck.1)).trans hck.1
            have hk1 : wr.cell? ⟨hb, hoff + j * 2 + 1, none⟩ = some (.int .i64 py) := (hbj.cell (cell_lt hck.2)).trans hck.2
            clear hck hA' hcH hcH'
            by_cases hm1 : px < x + sz o
            · have hd2 : decide (x < px + sz py) = false := by
                unfold meets at hmt
                simp only [Bool.and_eq_false_iff, decide_eq_false_iff_not] at hmt
                rw [decide_eq_false_iff_not]
                omega
              clear hmt
              go_wp2_with fail
              refine wp_region_calm (by kernel_rfl) (by kernel_rfl) (fun W hW _ => ?_)
              have hbW : Below wr.heap.size wr W := by rw [hW]; exact (Below.refl _ _).alloc (Nat.le_refl _) _
              have hc0 : ∀ u : Wd W, u.w.cell? ⟨w2.heap.size, 0, none⟩ = some (.int .i64 x) := fun u => u.cell ((hbW.cell (cell_lt hB0)).trans hB0)
              have hc1 : ∀ u : Wd W, u.w.cell? ⟨w2.heap.size, 1, none⟩ = some (.int .i64 o) := fun u => u.cell ((hbW.cell (cell_lt hB1)).trans hB1)
              have hc2 : ∀ u : Wd W, u.w.cell? ⟨wr.heap.size, 0, none⟩ = some (.int .i64 px) := fun u => u.cell (by rw [hW]; simp)
              have hc3 : ∀ u : Wd W, u.w.cell? ⟨wr.heap.size, 1, none⟩ = some (.int .i64 py) := fun u => u.cell (by rw [hW]; simp)
              clear hW
              have hwo := HWO.out
              have hwo' := HWO'.out
              have hwq := HWQ.out
              have hwq' := HWQ'.out
              have hao := HAO.out
              have hao' := HAO'.out
              have haq := HAQ.out
              have haq' := HAQ'.out
              repeat (go_big_quiet_step (fail))
              refine wpQuiet_nil ?_
              rintro w2 ⟨⟨_, hw2⟩, rfl⟩
              have hb2 : Below wr.heap.size wr w2 := hbW.trans (hw2.mono hbW.size)
              clear hwo hwo' hwq hwq' hao hao' haq haq' hc0 hc1 hc2 hc3
              go_wp2
              exact ⟨⟨j + 1, by omega, by go_num, hbj.trans (hb2.mono hbj.size)⟩, by simp [intOf]; omega⟩
            · have hd1 : decide (px < x + sz o) = false := by simpa using hm1
              clear hmt
              go_wp2_with fail
              refine wp_region_calm (by kernel_rfl) (by kernel_rfl) (fun W hW _ => ?_)
              have hbW : Below wr.heap.size wr W := by rw [hW]; exact (Below.refl _ _).alloc (Nat.le_refl _) _
              have hc0 : ∀ u : Wd W, u.w.cell? ⟨w2.heap.size, 0, none⟩ = some (.int .i64 x) := fun u => u.cell ((hbW.cell (cell_lt hB0)).trans hB0)
              have hc1 : ∀ u : Wd W, u.w.cell? ⟨w2.heap.size, 1, none⟩ = some (.int .i64 o) := fun u => u.cell ((hbW.cell (cell_lt hB1)).trans hB1)
              have hc2 : ∀ u : Wd W, u.w.cell? ⟨wr.heap.size, 0, none⟩ = some (.int .i64 px) := fun u => u.cell (by rw [hW]; simp)
              have hc3 : ∀ u : Wd W, u.w.cell? ⟨wr.heap.size, 1, none⟩ = some (.int .i64 py) := fun u => u.cell (by rw [hW]; simp)
              clear hW
              have hwo := HWO.out
              have hwo' := HWO'.out
              have hwq := HWQ.out
              have hwq' := HWQ'.out
              have hao := HAO.out
              have hao' := HAO'.out
              have haq := HAQ.out
              have haq' := HAQ'.out
              repeat (go_big_quiet_step (fail))
              refine wpQuiet_nil ?_
              rintro w2 ⟨⟨_, hw2⟩, rfl⟩
              have hb2 : Below wr.heap.size wr w2 := hbW.trans (hw2.mono hbW.size)
              clear hwo hwo' hwq hwq' hao hao' haq haq' hc0 hc1 hc2 hc3
              go_wp2
              exact ⟨⟨j + 1, by omega, by go_num, hbj.trans (hb2.mono hbj.size)⟩, by simp [intOf]; omega⟩
          · obtain rfl : j = hn4 := by omega
            have HG : Hid (∀ w', IsBlocks w' (.slice fa f.length fc) f → Calls Try.prog 18 #[.slice fa f.length fc, .agg #[.int .i64 x, .int .i64 o]] w' fun e w2 => ∃ v', e = .returned (.tuple #[v', .int .i64 7]) ∧ Below w'.heap.size w' w2) := by
              intro w' hw'
              have := give_any (.slice fa f.length fc) f x o w' hw'
              rw [ST2.out] at this
              refine this.mono ?_
              rintro e w2 ⟨v', rfl, -, hb⟩
              exact ⟨v', rfl, hb⟩
            go_wp2_with fail
            refine (HG.out wr (HFW.out wr hbj)).mono ?_
            rintro e w3 ⟨v13, rfl, hb3⟩
            have hbj3 := hbj.trans (hb3.mono hbj.size)
            obtain ⟨hC0, hC1⟩ := HBX.out w3 hbj3
            have hbA : Below w3.heap.size w3 (w3.alloc (.cells #[.int .i64 x, .int .i64 o] 37)) := (Below.refl _ _).alloc (Nat.le_refl _) _
            have hbjA := hbj3.trans (hbA.mono hbj3.size)
            have HOA : Hid (OwnB w.heap.size (w3.alloc (.cells #[.int .i64 x, .int .i64 o] 37)) (.slice ha j hc4) H) := HO.out _ hbjA
            have HXA : Hid (IsBlocks (w3.alloc (.cells #[.int .i64 x, .int .i64 o] 37)) (.slice (some ⟨w3.heap.size, 0, none⟩) 1 1) [(x, o)]) := by
              refine ⟨_, _, rfl, by simp, by simp, fun _ => ⟨w3.heap.size, 0, rfl, fun i hi => ?_⟩⟩
              obtain rfl : i = 0 := by simp at hi; omega
              exact ⟨by simp, by simp⟩
            have hlenA : Hid (H.length + [(x, o)].length ≤ 8000000000000) := by show _ ≤ _; rw [← h4l.out]; simp; omega
            have hbsA : Hid (w.heap.size ≤ (w3.alloc (.cells #[.int .i64 x, .int .i64 o] 37)).heap.size) := Nat.le_trans hwW2.size hbjA.size
            go_wp2_with (at_builtin; go_must (refine wpList_append_far rfl _ _ rfl w.heap.size _ H rfl HOA.out ⟨w3.heap.size, 0, none⟩ 1 [(x, o)] rfl HXA.out hlenA.out hbsA.out ?_); intro v' w' hown' hbw' hgrow)
            have hbw2 : Below w.heap.size w w' := (hwW2.trans (hbjA.mono hwW2.size)).trans hbw'
            have hmw : IsBlocks w' (.slice ma mn mc) m := ((HMW.out _ hbjA).kept (fun g hg hgl => hgrow.block g hgl (fun e => by have := H4lt.out g e.symm; omega))).blocks (by have := HMl.out; omega)
            exact ⟨⟨k + 1, m, H ++ [(x, o)], by omega, by go_num, hmw, hown', ST1.out, hbw2⟩, by simp [intOf]; omega⟩
      · have hd : (takeE f o != 0) = true := by simpa using he
        generalize takeE f o = g at *
        generalize takeAt f o = x at *
        go_wp2
        exact ⟨⟨k + 1, f, H, by omega, by go_num, HF.out.below hb7, hoH.below hb7, hinv, hbel.trans (hb7.mono hbel.size)⟩, by simp [intOf]; omega⟩
    · obtain rfl : k = n := by omega
      have hlen := inv1_len hinv
      have hA := hinv.2.1
      have HI2 : Hid (Inv2 f H) := inv2_of hinv
      obtain ⟨ha, hn4, hc4, rfl⟩ := hoH.form
      have h4l : Hid (hn4 = H.length) := hoH.slen
      obtain ⟨c1, hc1, he1, hl1, hle1, hcH'⟩ := hoH.blocks (by omega)
      simp only [Value.slice.injEq] at he1
      obtain ⟨rfl, -, rfl⟩ := he1
      rw [← h4l.out] at hlen hl1 hcH'
      obtain ⟨W3, hW3⟩ : ∃ W3, Hid (W3 = wr) := ⟨_, rfl⟩
      have hwW3 : Below w.heap.size w W3 := by rw [hW3.out]; exact hbel
      have hcW : 0 < hn4 → ∃ b off, ha = some ⟨b, off, none⟩ ∧ ∀ i, i < hn4 → W3.cell? ⟨b, off + i * 2, none⟩ = some (.int .i64 (H.getD i (0, 0)).1) ∧ W3.cell? ⟨b, off + i * 2 + 1, none⟩ = some (.int .i64 (H.getD i (0, 0)).2) := by rw [hW3.out]; exact hcH'
      have hb33 : Below W3.heap.size W3 wr := by rw [hW3.out]; exact Below.refl _ _
      clear hcH' hoH hinv hbel hle1 hz' hlt hW3
      have HF : Hid (IsBlocks wr u3 f) := hif
      obtain ⟨fa, fc, rfl, -⟩ := hif
      go_wp2_with fail
      go_loopw [3, 87] (fun v3 i wr => ∃ (j : Nat) (g : List (Int × Int)), j ≤ hn4 ∧ i = .int .i64 j ∧ IsBlocks wr v3 g ∧ Inv2 g H ∧ Below W3.heap.size W3 wr) (fun _ i _ => hn4 - (intOf i).toNat)
      case atStart => exact ⟨0, f, Nat.zero_le _, rfl, HF.out, HI2.out, hb33⟩
      clear HF HI2 hb33
      case round =>
        obtain ⟨j, g, hj, rfl, hig, hinv, hbj⟩ := hrel
        by_cases hjl : j < hn4
        · obtain ⟨hb, hoff, rfl, hcH⟩ := hcW (by omega)
          obtain ⟨r, hr⟩ : ∃ r, Hid (r = (j * 7 + 3) % hn4) := ⟨_, rfl⟩
          have hrl : r < hn4 := by rw [hr.out]; exact Nat.mod_lt _ (by omega)
          have htm : ((j : Int) * 7 + 3).tmod (hn4 : Int) = (r : Int) := by
            rw [hr.out, Int.tmod_eq_emod_of_nonneg (by omega)]
            push_cast
            rfl
          have hn0 : ¬ ((hn4 : Int) = 0) := by omega
          have hAx := hA.get (k := r) (by rw [← h4l.out]; exact hrl)
          have hxH : H.getD r (0, 0) ∈ H := by rw [List.getD_eq_getElem?_getD, List.getElem?_eq_getElem (by rw [← h4l.out]; exact hrl)]; exact List.getElem_mem _
          have hck := hcH r hrl
          obtain ⟨⟨px, py⟩, hp⟩ : ∃ p, p = H.getD r (0, 0) := ⟨_, rfl⟩
          rw [← hp] at hck hxH
          simp only at hck
          have hk0 : wr.cell? ⟨hb, hoff + r * 2, none⟩ = some (.int .i64 px) := (hbj.cell (cell_lt hck.1)).trans hck.1
          have hk1 : wr.cell? ⟨hb, hoff + r * 2 + 1, none⟩ = some (.int .i64 py) := (hbj.cell (cell_lt hck.2)).trans hck.2
          have HP : Hid ((px, py) = H.getD r (0, 0)) := hp
          have HG : Hid (IsBlocks wr u3 g) := hig
          obtain ⟨ga, gc, rfl, -⟩ := hig
          clear hck hAx hp
          have hbA : Below wr.heap.size wr (wr.alloc (.cells #[.int .i64 px, .int .i64 py] 37)) := (Below.refl _ _).alloc (Nat.le_refl _) _
          have HGA : Hid (IsBlocks (wr.alloc (.cells #[.int .i64 px, .int .i64 py] 37)) (.slice ga g.length gc) g) := HG.out.below hbA
          have hbjA := hbj.trans (hbA.mono hbj.size)
          have hgl := give_len g px py
          by_cases he : giveE g px py = 0
          · obtain ⟨t1, -, -⟩ := inv2_give hinv hxH he
            have HE : Hid (∀ w', IsBlocks w' (.slice ga g.length gc) g → Calls Try.prog 18 #[.slice ga g.length gc, .agg #[.int .i64 px, .int .i64 py]] w' fun e w2 => ∃ v', e = .returned (.tuple #[v', .int .i64 0]) ∧ OwnB w'.heap.size w2 v' (giveL g px py) ∧ Below w'.heap.size w' w2) := fun w' hw' => he ▸ give_any _ g px py w' hw'
            clear he
            go_wp2_with fail
            refine (HE.out _ HGA.out).mono ?_
            rintro e w3 ⟨v13, rfl, ho3, hb3⟩
            go_wp2
            exact ⟨⟨j + 1, _, by omega, by go_num, ho3.blocks (by omega), t1, hbjA.trans (hb3.mono hbjA.size)⟩, by simp [intOf]; omega⟩
          · have hd : (giveE g px py == 0) = false := by simpa using he
            have HE : Hid (∀ w', IsBlocks w' (.slice ga g.length gc) g → Calls Try.prog 18 #[.slice ga g.length gc, .agg #[.int .i64 px, .int .i64 py]] w' fun e w2 => ∃ v', e = .returned (.tuple #[v', .int .i64 (giveE g px py)]) ∧ Below w'.heap.size w' w2) := fun w' hw' => (give_any _ g px py w' hw').mono fun e w2 ⟨v', he, _, hb⟩ => ⟨v', he, hb⟩
            generalize giveE g px py = q at *
            go_wp2_with fail
            refine (HE.out _ HGA.out).mono ?_
            rintro e w3 ⟨v13, rfl, hb3⟩
            go_wp2
            exact ⟨⟨j + 1, g, by omega, by go_num, (HGA.out.below hb3), hinv, hbjA.trans (hb3.mono hbjA.size)⟩, by simp [intOf]; omega⟩
        · have HG3 : Hid (IsBlocks wr u3 g) := hig
          obtain ⟨ga3, gc3, rfl, -⟩ := hig
          have HI3 : Hid (Inv2 g H) := hinv
          clear hinv
          obtain rfl : hn4 = j := by omega
          clear hjl hj
          go_wp2_with fail
          go_loopw [3, 111] (fun v3 i wr => ∃ (i' : Nat) (g : List (Int × Int)), i' ≤ hn4 ∧ i = .int .i64 i' ∧ IsBlocks wr v3 g ∧ Inv2 g H ∧ (∀ q, q < i' → Full g (H.getD q (0, 0))) ∧ Below W3.heap.size W3 wr) (fun _ i _ => hn4 - (intOf i).toNat)
          case atStart => exact ⟨0, g, Nat.zero_le _, rfl, HG3.out, HI3.out, fun q hq => by omega, hbj⟩
          clear HG3 HI3 hbj
          case round =>
            obtain ⟨i, g, hi, rfl, hig, hinv, hful, hbj⟩ := hrel
            by_cases hil : i < hn4
            · obtain ⟨hb, hoff, rfl, hcH⟩ := hcW (by omega)
              have hAx := hA.get (k := i) (by rw [← h4l.out]; exact hil)
              have hxH : H.getD i (0, 0) ∈ H := by rw [List.getD_eq_getElem?_getD, List.getElem?_eq_getElem (by rw [← h4l.out]; exact hil)]; exact List.getElem_mem _
              have hck := hcH i hil
              obtain ⟨⟨px, py⟩, hp⟩ : ∃ p, p = H.getD i (0, 0) := ⟨_, rfl⟩
              rw [← hp] at hck hxH
              simp only at hck
              have hk0 : wr.cell? ⟨hb, hoff + i * 2, none⟩ = some (.int .i64 px) := (hbj.cell (cell_lt hck.1)).trans hck.1
              have hk1 : wr.cell? ⟨hb, hoff + i * 2 + 1, none⟩ = some (.int .i64 py) := (hbj.cell (cell_lt hck.2)).trans hck.2
              have HP : Hid ((px, py) = H.getD i (0, 0)) := hp
              have HG : Hid (IsBlocks wr u3 g) := hig
              obtain ⟨ga, gc, rfl, -⟩ := hig
              clear hck hAx hp
              have hbA : Below wr.heap.size wr (wr.alloc (.cells #[.int .i64 px, .int .i64 py] 37)) := (Below.refl _ _).alloc (Nat.le_refl _) _
              have HGA : Hid (IsBlocks (wr.alloc (.cells #[.int .i64 px, .int .i64 py] 37)) (.slice ga g.length gc) g) := HG.out.below hbA
              have hbjA := hbj.trans (hbA.mono hbj.size)
              have hgl := give_len g px py
              have HFU : Hid (∀ q, q < i → Full g (H.getD q (0, 0))) := hful
              clear hful
              by_cases he : giveE g px py = 0
              · obtain ⟨t1, t2, t3⟩ := inv2_give hinv hxH he
                have T2 : Hid (∀ q, q < i + 1 → Full (giveL g px py) (H.getD q (0, 0))) := by
                  intro q hq
                  by_cases hqi : q = i
                  · rw [hqi, ← HP.out]; exact t2
                  · exact t3 _ (HFU.out q (by omega))
                have HE : Hid (∀ w', IsBlocks w' (.slice ga g.length gc) g → Calls Try.prog 18 #[.slice ga g.length gc, .agg #[.int .i64 px, .int .i64 py]] w' fun e w2 => ∃ v', e = .returned (.tuple #[v', .int .i64 0]) ∧ OwnB w'.heap.size w2 v' (giveL g px py) ∧ Below w'.heap.size w' w2) := fun w' hw' => he ▸ give_any _ g px py w' hw'
                clear he t2 t3
                go_wp2_with fail
                refine (HE.out _ HGA.out).mono ?_
                rintro e w3 ⟨v13, rfl, ho3, hb3⟩
                go_wp2
                refine ⟨?_, ?_⟩
                · exact ⟨i + 1, _, by omega, by go_num, ho3.blocks (by omega), t1, T2.out, hbjA.trans (hb3.mono hbjA.size)⟩
                · simp [intOf]; omega
              · have hd : (giveE g px py == 0) = false := by simpa using he
                have T2 : Hid (∀ q, q < i + 1 → Full g (H.getD q (0, 0))) := by
                  intro q hq
                  by_cases hqi : q = i
                  · rw [hqi, ← HP.out]; exact inv2_held hinv hxH he
                  · exact HFU.out q (by omega)
                have HE : Hid (∀ w', IsBlocks w' (.slice ga g.length gc) g → Calls Try.prog 18 #[.slice ga g.length gc, .agg #[.int .i64 px, .int .i64 py]] w' fun e w2 => ∃ v', e = .returned (.tuple #[v', .int .i64 (giveE g px py)]) ∧ Below w'.heap.size w' w2) := fun w' hw' => (give_any _ g px py w' hw').mono fun e w2 ⟨v', he, _, hb⟩ => ⟨v', he, hb⟩
                generalize giveE g px py = q at *
                go_wp2_with fail
                refine (HE.out _ HGA.out).mono ?_
                rintro e w3 ⟨v13, rfl, hb3⟩
                go_wp2
                refine ⟨?_, ?_⟩
                · exact ⟨i + 1, g, by omega, by go_num, (HGA.out.below hb3), hinv, T2.out, hbjA.trans (hb3.mono hbjA.size)⟩
                · simp [intOf]; omega
            · have hend : g = [(0, 6)] := inv2_end hinv (fun x hx => by
                obtain ⟨q, hq, rfl⟩ := List.getElem_of_mem hx
                have := hful q (by rw [← h4l.out] at hq; omega)
                rw [List.getD_eq_getElem?_getD, List.getElem?_eq_getElem hq] at this
                exact this)
              subst hend
              have HG4 : Hid (IsBlocks wr u3 [(0, 6)]) := hig
              obtain ⟨ga4, gc4, rfl, -⟩ := hig
              have hin : hn4 ≤ i := by omega
              have hdl2 : decide ((i : Int) < (hn4 : Int)) = false := by simp; omega
              have hfin := hwW3.trans (hbj.mono hwW3.size)
              clear hful hinv hil
              go_wp2_with fail
              refine (new_any wr).mono ?_
              rintro e w5 ⟨v5, rfl, ho5, hb5⟩
              have hfin5 := hfin.trans (hb5.mono hfin.size)
              go_wp2_with fail
              refine (equal_is (f := true) _ _ _ _ _ (HG4.out.below hb5) (ho5.blocks (by simp)) (by decide)).mono ?_
              rintro e w6 ⟨rfl, hb6⟩
              go_wp2
              go_ret
              exact ⟨rfl, hfin5.trans (hb6.mono hfin5.size)⟩

end Go.Proofs.Ytflhcphdggabeaa

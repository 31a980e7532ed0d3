/- The contract of flat.Run: things done, one behind the other, over plain memory, and all processes then. -/
import Derived.Test.YtbiipnojhjhejaaFlat15
import Derived.Test.YtbiipnojhjhejaaFlatBegin
namespace Go.Proofs.Ytbiipnojhjhejaa
set_option maxRecDepth 100000
open Go.RowKit
set_option linter.unusedSimpArgs false
set_option linter.unusedVariables false

theorem results_tmp_row {P : Program} {fn : Func} {p q : Tmp} {ty : TypeId} (h : fn.results = #[.tmp p, .cell q ty]) (tmps : Array Value) (w : World) (g : Nat) (t : TypeId) (cs : Array Value) (fr : Nat × Nat) (d : TypeDesc) (Y : Value)
    (hp : tmps.getD p undef = Y) (hq : tmps.getD q undef = .pointer (some ⟨g, 0, none⟩)) (hg : w.heap[g]? = some (.cells cs t fr))
    (hu : P.underlying ty = some d) (hd : (match d with | .struct _ | .array _ _ => true | _ => false) = true) (hi : (P.info? ty).map (·.size) = some cs.size) : (results fn tmps).run P w = .ok (.tuple #[Y, .agg cs]) w := by
  have hp' : tmps[p]?.getD undef = Y := by simpa using hp
  have hq' : tmps[q]?.getD undef = .pointer (some ⟨g, 0, none⟩) := by simpa using hq
  simp [results, h, hp', hq', asAddr, run_loadVar_row w g t ty cs fr d hg hu hd hi]

theorem wpList_build_is {P : Program} {ops : Array Oper} {rest : List Oper} {o : Oper} {a : Act} {w : World} {Q : Exit → Act → World → Prop} (hg : o.guard = none) (t : TypeId) (parts : Array (Nat × Operand)) (ho : o.op = .build t parts)
    (vs : List (Nat × Value)) (hvs : (parts.map fun (i, x) => (i, a.eval x)).toList = vs) (cells : Array Value) (hc : P.built t vs = some cells)
    (h : wpList P ops Q rest (a.put o.dst (.agg cells)) w) : wpList P ops Q (o :: rest) a w := by
  refine wpList_build hg t parts ho (by rw [hvs, hc]; rfl) ?_
  rw [hvs, hc]
  exact h

/-- 'T{..}': what is laid together, given ahead; the parts as a list. -/
theorem wpList_built {P : Program} {ops : Array Oper} {rest : List Oper} {o : Oper} {a : Act} {w : World} {Q : Exit → Act → World → Prop} (hg : o.guard = none) (t : TypeId) (parts : Array (Nat × Operand)) (ho : o.op = .build t parts)
    (vs : List (Nat × Value)) (hvs : parts.toList.map (fun (i, x) => (i, a.eval x)) = vs) (cells : Array Value) (hc : P.built t vs = some cells)
    (h : wpList P ops Q rest (a.put o.dst (.agg cells)) w) : wpList P ops Q (o :: rest) a w :=
  wpList_build_is hg t parts ho vs (by rw [Array.toList_map]; exact hvs) cells hc h

theorem built_array {P : Program} {t e : TypeId} {n : Nat} {it ie : TypeInfo} {z : Value} (h1 : P.info? t = some it) (h2 : P.underlying t = some (.array n e)) (h3 : it.zero = some z)
    (h4 : P.info? e = some ie) (parts : List (Nat × Value)) : P.built t parts = Instr.fill (fun i => some (i * ie.size, ie.size)) z.cells parts := by
  unfold Program.built
  rw [h1, h2]
  simp only [h3, h4]

theorem zero_info_pl : (Try.prog.info? 71).map (fun i => (i.zero, i.size)) = some (some (.agg Try.zeroCells71), 17408) := by kernel_rfl

theorem built_pl : Try.prog.built 71 [] = some Try.zeroCells71 := by
  obtain ⟨ip, hip, z1, -⟩ : ∃ ip, Try.prog.info? 71 = some ip ∧ ip.zero = some (.agg Try.zeroCells71) ∧ ip.size = 17408 := by
    have := zero_info_pl
    cases hq : Try.prog.info? 71 with
    | none => rw [hq] at this; cases this
    | some ip => rw [hq] at this; simp only [Option.map_some, Option.some.injEq, Prod.mk.injEq] at this; exact ⟨ip, rfl, this⟩
  obtain ⟨iv, hiv⟩ : ∃ iv, Try.prog.info? 69 = some iv := by
    have := info_view
    cases hq : Try.prog.info? 69 with
    | none => rw [hq] at this; cases this
    | some iv => exact ⟨iv, rfl⟩
  rw [built_array hip Try.underlying71 z1 hiv]
  rfl

/-- Memory of nothing. -/
def zMV : MV := { lv := fun _ => false, P := fun _ _ => false, B := fun _ _ => 0, T := fun _ _ => 0 }

theorem plR_new : PlR zMV (vw newW) := fun k hk hl => by
  have e : (newW k).L = [] := by unfold newW; split <;> rfl
  have hn : ∀ q, (atR (newW k).L q).isSome = false := fun q => by rw [e]; rfl
  exact ⟨fun a => by simp [vw, zMV, hn], fun a => by simp [vw, zMV, hn]⟩

set_option maxRecDepth 100000 in
set_option maxHeartbeats 3200000 in
theorem run14_any (v : Value) (l : List O12) (w : World) (h : IsRecs encO 2932031007400 w v l) (hwf : ∀ o ∈ l, bdI o.count ∧ bdI o.size) :
    Calls Try.prog 9 #[v] w fun e w' => ∃ a n c xs, e = .returned (.tuple #[.slice a n c, .agg xs.toArray]) ∧ OwnR 40 4 encA w.heap.size w' (.slice a n c) (run14 newW l).2 ∧ ShownTo w.heap.size w' (run14 newW l).1 4 xs ∧ Below w.heap.size w w' := by
  have HBU : Hid (Try.prog.built 71 [] = some Try.zeroCells71) := built_pl
  have HZC : Hid (Try.zeroCells71.size = 17408 ∧ ∀ k, k < 4 → VC Try.zeroCells71.toList (k * 4352) (fun _ => 0) (fun _ => 0)) := ⟨zero_pl.1, chk4_vc zero_pl.2⟩
  generalize Try.zeroCells71 = Z0 at HBU HZC
  obtain ⟨zl, rfl⟩ : ∃ zl : List Value, Z0 = zl.toArray := ⟨Z0.toList, by simp⟩
  have HR : Hid (IsRecs encO 2932031007400 w v l ∧ ∀ o ∈ l, bdI o.count ∧ bdI o.size) := ⟨h, hwf⟩
  clear h hwf
  obtain ⟨ZL, hZL⟩ : ∃ ZL : List Value, Hid (ZL = [.bool false, .slice none 0 0, .bool false, .int .i64 0, .bool false, .int .i64 0, .bool false, .int .i64 0, .bool false, .int .i64 0, .slice none 0 0, .bool false, .slice none 0 0, .bool false, .int .i64 0, .bool false, .int .i64 0, .bool false, .int .i64 0, .bool false, .int .i64 0, .slice none 0 0, .bool false, .slice none 0 0, .bool false, .int .i64 0, .bool false, .int .i64 0, .bool false, .int .i64 0, .bool false, .int .i64 0, .slice none 0 0, .bool false, .slice none 0 0, .bool false, .int .i64 0, .bool false, .int .i64 0, .bool false, .int .i64 0, .bool false, .int .i64 0, .slice none 0 0]) := ⟨_, rfl⟩
  have hzl : Hid (ZL.toArray.size = 44) := by rw [hZL.out]; rfl
  go_enter Try.func9, Try.ntmps9
  go_wp2_with (first
    | (refine wpList_built rfl 71 #[] rfl [] rfl zl.toArray HBU.out ?_)
    | (go_at_call 21; refine (begin_any _ _ _).mono ?_; rintro e w2 ⟨g, rfl, hgs, hwk, hb2⟩; have hgs : Hid _ := hgs; have hwk : Hid _ := hwk; have hb2 : Hid _ := hb2))
  have hsz : w.heap.size + 2 ≤ g := by have := hgs.out; simp at this; omega
  have hb2' : Below ((w.alloc (.cells ZL.toArray 34)).alloc (.cells zl.toArray 71)).heap.size ((w.alloc (.cells ZL.toArray 34)).alloc (.cells zl.toArray 71)) w2 := by rw [hZL.out]; exact hb2.out
  obtain ⟨hr1, hr2⟩ := own_two hb2'
  have hb0 : Below w.heap.size w ((w.alloc (.cells ZL.toArray 34)).alloc (.cells zl.toArray 71)) := ((Below.refl _ _).alloc (Nat.le_refl _) _).alloc (by simp) _
  have hbw2 : Below w.heap.size w w2 := hb0.trans (hb2'.mono hb0.size)
  clear hb2' hb0
  clear hb2 hgs
  have hwm : WM (plainM (w.heap.size + 1)) (g + 1) g w2 newW zMV := ⟨hwk.out, ⟨zl, hr2, HZC.out.1, HZC.out.2⟩, plR_new⟩
  refine (doAll_any (plainM (w.heap.size + 1)) (g + 1) g zMV v l w w2 HR.out.1 hbw2 (by show _ ≤ w.heap.size + 1; omega) (by omega) HR.out.2 hwm).mono ?_
  rintro e w3 ⟨a, n, c, rfl, hoa, hw3, hk3⟩
  have hz : OwnRow w3 w.heap.size 34 ZL := hk3.row hr1 (by omega) rfl
  have hbel : Below w.heap.size w w3 := hbw2.trans (hk3.to_below (by show _ ≤ w.heap.size + 1; omega) hbw2.size (by omega))
  have HOW : Hid (OwnR 40 4 encA w.heap.size w3 (.slice a n c) (run14 newW l).2) := hoa.mono hbw2.size
  have HSH : Hid (Calls Try.prog 23 #[.pointer (some ⟨g, 0, none⟩), .pointer (some ⟨w.heap.size + 1, 0, none⟩)] w3 fun e w' => ∃ ys, e = .returned (.agg ys.toArray) ∧ ShownTo w3.heap.size w' (run14 newW l).1 4 ys ∧ Below w3.heap.size w3 w') := shown_any _ (g + 1) g (w.heap.size + 1) _ _ w3 hw3.wok (inv_run inv_new) hw3.ok hw3.rel
  have hlt3 : w.heap.size < w3.heap.size := hz.lt
  have HFIN : Hid (∀ w5 ys, Below w3.heap.size w3 w5 → ShownTo w3.heap.size w5 (run14 newW l).1 4 ys → w5.heap[w.heap.size]? = some (.cells ZL.toArray 34 (0, 0)) ∧
      OwnR 40 4 encA w.heap.size (w5.setRow w.heap.size ys.toArray) (.slice a n c) (run14 newW l).2 ∧ ShownTo w.heap.size (w5.setRow w.heap.size ys.toArray) (run14 newW l).1 4 ys ∧ Below w.heap.size w (w5.setRow w.heap.size ys.toArray)) := fun w5 ys hb hs => by
    have hzw : OwnRow w5 w.heap.size 34 ZL := hz.below hb (by omega)
    have hkp : Keeps 34 w5 (w5.setRow w.heap.size ys.toArray) := fun h cc e' fr hh hne => by
      rw [setRow_other w5 w.heap.size h ys.toArray ?_]
      · exact hh
      · intro hbb
        subst hbb
        rw [hzw] at hh
        simp only [Option.some.injEq, Obj.cells.injEq] at hh
        exact hne hh.2.1.symm
    refine ⟨hzw, ownsRow_keeps (HOW.out.below hb) hkp (by decide), ⟨hs.1, hs.2.1, fun i hi => ?_⟩, below_setRow (hbel.trans (hb.mono (by omega))) (Nat.le_refl _) _⟩
    obtain ⟨a, n, c, a', n', c', hss, hj⟩ := hs.2.2 i hi
    refine ⟨a, n, c, a', n', c', (Seems.keeps ⟨hss.regs.mono hbel.size, by obtain ⟨L, l1, l2, l3⟩ := hss.pages; exact ⟨L, l1, l2.mono hbel.size, fun q hq => (l3 q hq).mono hbel.size⟩⟩ hkp), hj⟩
  have HYS : Hid (∀ (w5 : World) ys, ShownTo w3.heap.size w5 (run14 newW l).1 4 ys → (Try.prog.info? 34).map (·.size) = some ys.toArray.size ∧ ZL.toArray.size = ys.toArray.size ∧ ys.toArray.all (·.oneCell') = true) := fun w5 ys hs => by
    have e : ys.toArray.size = 44 := by simpa using hs.1
    exact ⟨by rw [info_procs, e], by rw [hzl.out, e], all_oneCell_toArray hs.2.1⟩
  clear hwk hr1 hr2 hwm hoa hw3 hk3 hz hbel HOW hbw2 HR HZC HBU hZL
  go_wp2_with (first
    | (go_at_call 23; refine (HSH.out).mono ?_; rintro e w5 ⟨ys, rfl, hs5, hb5⟩; have HF : Hid _ := HFIN.out w5 ys hb5 hs5; have HY : Hid _ := HYS.out w5 ys hs5; obtain ⟨Y, hY⟩ : ∃ Y, Hid (Y = ys.toArray) := ⟨_, rfl⟩; rw [← hY.out] at HF HY ⊢; clear hs5 hb5)
    | (refine wpList_store_row rfl 34 (.tmp 3) _ rfl w.heap.size Y rfl rfl 34 _ HF.out.1 HY.out.1 HY.out.2.1 HY.out.2.2 ?_))
  exact bodyPost_ret (v := .tuple #[.slice a n c, .agg Y]) (results_tmp_row Try.results9 _ _ w.heap.size 34 Y (0, 0) _ _ rfl rfl (setRow_heap _ _ _ _ _ _ HF.out.1) Try.underlying34 rfl HY.out.1) rfl ⟨_, _, _, ys, by rw [hY.out], HF.out.2.1, HF.out.2.2.1, HF.out.2.2.2⟩

end Go.Proofs.Ytbiipnojhjhejaa

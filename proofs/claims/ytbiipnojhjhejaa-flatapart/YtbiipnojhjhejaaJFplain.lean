/- Memory as it seems: bytes and tags of four processes in one variable; what reading and writing of its cells makes of them. -/
import Derived.Test.YtbiipnojhjhejaaJFmem
import Derived.Test.YtbiipnojhjhejaaFlat7
import Derived.Test.YtbiipnojhjhejaaFlat9
import Derived.Test.YtbiipnojhjhejaaFlatLd
import Derived.Deep.WholeRow
namespace Go.Proofs.Ytbiipnojhjhejaa
set_option maxRecDepth 100000
open Go.RowKit
set_option linter.unusedSimpArgs false
set_option linter.unusedVariables false

/-- Block gm is memory as s tells. -/
def PlOK (gm : Nat) (w : World) (s : MV) : Prop := ∃ xs, OwnRow w gm 71 xs ∧ xs.length = 17408 ∧ ∀ k, k < 4 → VC xs (k * 4352) (s.B k) (s.T k)

theorem PlOK.byte {gm : Nat} {w : World} {s : MV} (h : PlOK gm w s) {k : Nat} (hk : k < 4) {a : Nat} (ha : a < 4096) : w.cell? ⟨gm, k * 4352 + a, none⟩ = some (.int .u8 (s.B k a)) := by
  obtain ⟨xs, h1, h2, h3⟩ := h
  rw [h1.cell]; exact (h3 k hk).byt a ha
theorem PlOK.tag {gm : Nat} {w : World} {s : MV} (h : PlOK gm w s) {k : Nat} (hk : k < 4) {t : Nat} (ht : t < 256) : w.cell? ⟨gm, k * 4352 + 4096 + t, none⟩ = some (.int .i64 (s.T k t)) := by
  obtain ⟨xs, h1, h2, h3⟩ := h
  rw [h1.cell]; exact (h3 k hk).tag t ht
theorem PlOK.free {gm : Nat} {w : World} {s : MV} (h : PlOK gm w s) (i : Nat) : w.frozen? ⟨gm, i, none⟩ = false := by
  obtain ⟨xs, h1, h2, h3⟩ := h
  exact h1.free i
theorem PlOK.lt {gm : Nat} {w : World} {s : MV} (h : PlOK gm w s) : gm < w.heap.size := by
  obtain ⟨xs, h1, h2, h3⟩ := h
  exact h1.lt
theorem PlOK.row {gm : Nat} {w : World} {s : MV} (h : PlOK gm w s) : ∃ xs, OwnRow w gm 71 xs := by
  obtain ⟨xs, h1, h2, h3⟩ := h
  exact ⟨xs, h1⟩
theorem PlOK.below {gm : Nat} {w w' : World} {s : MV} (h : PlOK gm w s) (hb : Below w.heap.size w w') : PlOK gm w' s := by
  obtain ⟨xs, h1, h2, h3⟩ := h
  exact ⟨xs, h1.below hb h1.lt, h2, h3⟩
theorem PlOK.there {gm : Nat} {w : World} {s : MV} (h : PlOK gm w s) {o n : Nat} (ho : o + n ≤ 17408) : w.there gm o n := by
  obtain ⟨xs, h1, h2, h3⟩ := h
  intro j hj
  refine ⟨?_, h1.free _⟩
  rw [h1.cell, List.getElem?_eq_getElem (by omega)]
  rfl

/-- Cells of process k's memory are written. -/
theorem PlOK.splice {gm : Nat} {w : World} {s s' : MV} (h : PlOK gm w s) {k : Nat} (hk : k < 4) {i : Nat} {vs : List Value} (hi : i + vs.length ≤ 4352) (ho : ∀ j, j ≠ k → s'.B j = s.B j ∧ s'.T j = s.T j)
    (hp : ∀ xs, k * 4352 + i + vs.length ≤ xs.length → VC xs (k * 4352) (s.B k) (s.T k) → VC (spl xs (k * 4352 + i) vs) (k * 4352) (s'.B k) (s'.T k)) : PlOK gm (w.setCells gm (k * 4352 + i) vs) s' := by
  obtain ⟨xs, h1, h2, h3⟩ := h
  have hl : k * 4352 + i + vs.length ≤ xs.length := by omega
  refine ⟨_, h1.setCells vs _ _ _ hl, by rw [spl_len hl]; exact h2, fun j hj => ?_⟩
  by_cases hjk : j = k
  · subst hjk; exact hp xs hl (h3 j hj)
  · obtain ⟨e1, e2⟩ := ho j hjk
    rw [e1, e2]
    have := h3 j hj
    exact ⟨fun a ha => by rw [spl_get hl, if_neg (by omega)]; exact this.byt a ha, fun t ht => by rw [spl_get hl, if_neg (by omega)]; exact this.tag t ht⟩

theorem PlOK.setByte {gm : Nat} {w : World} {s : MV} (h : PlOK gm w s) {k : Nat} (hk : k < 4) {a : Nat} (ha : a < 4096) (u : Int) : PlOK gm (w.setCell ⟨gm, k * 4352 + a, none⟩ (.int .u8 (byteK u 0))) (s.store k a 1 u) := by
  refine h.splice (vs := [.int .u8 (byteK u 0)]) hk (by simp <;> omega) (fun j hj => ⟨funext fun x => by simp [MV.store, hj], rfl⟩) (fun xs hl hv => ⟨fun x hx => ?_, fun t ht => ?_⟩)
  · rw [spl_get hl]
    by_cases he : x = a
    · subst he
      rw [if_pos (by simp), show k * 4352 + x - (k * 4352 + x) = 0 by omega]
      simp [MV.store]
    · rw [if_neg (by simp <;> omega)]
      simp only [MV.store]
      rw [if_neg (by omega)]
      exact hv.byt x hx
  · rw [spl_get hl, if_neg (by simp <;> omega)]; exact hv.tag t ht

theorem PlOK.setTag {gm : Nat} {w : World} {s : MV} (h : PlOK gm w s) {k : Nat} (hk : k < 4) {a : Nat} (ha : a < 256) (y : Int) : PlOK gm (w.setCell ⟨gm, k * 4352 + 4096 + a, none⟩ (.int .i64 y)) (s.mark k a 1 y) := by
  rw [Nat.add_assoc]
  refine h.splice (vs := [.int .i64 y]) hk (by simp <;> omega) (fun j hj => ⟨rfl, funext fun x => by simp [MV.mark, hj]⟩) (fun xs hl hv => ⟨fun x hx => ?_, fun t ht => ?_⟩)
  · rw [spl_get hl, if_neg (by simp <;> omega)]; exact hv.byt x hx
  · rw [spl_get hl]
    by_cases he : t = a
    · subst he
      rw [if_pos (by simp <;> omega), show k * 4352 + 4096 + t - (k * 4352 + (4096 + t)) = 0 by omega]
      simp [MV.mark]
    · rw [if_neg (by simp <;> omega)]
      simp only [MV.mark]
      rw [if_neg (by omega)]
      exact hv.tag t ht

/-- Pages f to t - 1 are zero. -/
theorem PlOK.cutted {gm : Nat} {w : World} {s : MV} (h : PlOK gm w s) {k : Nat} (hk : k < 4) {f t : Nat} (hft : f < t) (ht : t ≤ 64) :
    PlOK gm ((w.setCells gm (k * 4352 + f * 64) (List.replicate ((t - f) * 64) (.int .u8 0))).setCells gm (k * 4352 + 4096 + f * 4) (List.replicate ((t - f) * 4) (.int .i64 0))) (s.cut k f t) := by
  have h1 : PlOK gm (w.setCells gm (k * 4352 + f * 64) (List.replicate ((t - f) * 64) (.int .u8 0))) { s with B := (s.cut k f t).B } := by
    refine h.splice hk (by simp <;> omega) (fun j hj => ⟨funext fun x => by simp [MV.cut, hj], rfl⟩) (fun xs hl hv => ⟨fun x hx => ?_, fun t' ht' => ?_⟩)
    · rw [spl_get hl]
      simp only [MV.cut]
      by_cases he : f ≤ x / 64 ∧ x / 64 < t
      · rw [if_pos (by simp <;> omega), if_pos ⟨by trivial, he⟩, List.getElem?_replicate_of_lt (by omega)]
      · rw [if_neg (by simp <;> omega), if_neg (fun h => he h.2)]
        exact hv.byt x hx
    · rw [spl_get hl, if_neg (by simp <;> omega)]; exact hv.tag t' ht'
  rw [Nat.add_assoc]
  refine h1.splice hk (by simp <;> omega) (fun j hj => ⟨rfl, funext fun x => by simp [MV.cut, hj]⟩) (fun xs hl hv => ⟨fun x hx => ?_, fun t' ht' => ?_⟩)
  · rw [spl_get hl, if_neg (by simp <;> omega)]; exact hv.byt x hx
  · rw [spl_get hl]
    simp only [MV.cut]
    by_cases he : f ≤ t' / 4 ∧ t' / 4 < t
    · rw [if_pos (by simp <;> omega), if_pos ⟨by trivial, he⟩, List.getElem?_replicate_of_lt (by omega)]
    · rw [if_neg (by simp <;> omega), if_neg (fun h => he h.2)]
      exact hv.tag t' ht'

/-- The whole of process k's memory as it lies; laid where c's is. -/
theorem PlOK.whole {gm : Nat} {w : World} {s : MV} (h : PlOK gm w s) {k : Nat} (hk : k < 4) :
    ∃ X : List Value, X.length = 4352 ∧ (∀ v ∈ X, v.oneCell' = true) ∧ w.rangeAt gm (k * 4352) X ∧ ∀ c, c < 4 → PlOK gm (w.setCells gm (c * 4352) X) (s.fork k c) := by
  have hh := h
  obtain ⟨xs, h1, h2, h3⟩ := h
  have hv := h3 k hk
  have hX : ∀ j, j < 4352 → ((xs.drop (k * 4352)).take 4352)[j]? = xs[k * 4352 + j]? := fun j hj => by rw [List.getElem?_take_of_lt hj, List.getElem?_drop]
  have hl : ((xs.drop (k * 4352)).take 4352).length = 4352 := by rw [List.length_take, List.length_drop]; omega
  refine ⟨(xs.drop (k * 4352)).take 4352, hl, fun u hu => ?_, fun j u hj => ?_, fun c hc => ?_⟩
  · obtain ⟨j, hj, he⟩ := List.getElem_of_mem hu
    have he' : xs[k * 4352 + j]? = some u := by rw [← hX j (by omega), List.getElem?_eq_getElem hj, he]
    exact hv.one (by omega) he'
  · have hlt := (List.getElem?_eq_some_iff.1 hj).1
    rw [h1.cell, ← hX j (by omega)]
    exact hj
  · have := hh.splice (k := c) (i := 0) (vs := (xs.drop (k * 4352)).take 4352) (s' := s.fork k c) hc (by omega) (fun j hj => ⟨by simp [MV.fork, hj], by simp [MV.fork, hj]⟩) ?_
    · rw [Nat.add_zero] at this; exact this
    · intro ys hly hp
      refine ⟨fun a ha => ?_, fun t ht => ?_⟩
      · rw [spl_get hly, if_pos (by omega), show c * 4352 + a - (c * 4352 + 0) = a by omega, hX a (by omega)]
        simp only [MV.fork, if_pos]
        exact hv.byt a ha
      · rw [spl_get hly, if_pos (by omega), show c * 4352 + 4096 + t - (c * 4352 + 0) = 4096 + t by omega, hX (4096 + t) (by omega), ← Nat.add_assoc]
        simp only [MV.fork, if_pos]
        exact hv.tag t ht

theorem PlOK.gone {gm : Nat} {w : World} {s : MV} (h : PlOK gm w s) {k : Nat} (hk : k < 4) {Z : List Value} (hz : Z.length = 4352) (hc : VC Z 0 (fun _ => 0) (fun _ => 0)) : PlOK gm (w.setCells gm (k * 4352) Z) (s.exit k) := by
  have := h.splice (k := k) (i := 0) (vs := Z) (s' := s.exit k) hk (by omega) (fun j hj => ⟨by simp [MV.exit, hj], by simp [MV.exit, hj]⟩) ?_
  · rw [Nat.add_zero] at this; exact this
  · intro ys hly hp
    refine ⟨fun a ha => ?_, fun t ht => ?_⟩
    · rw [spl_get hly, if_pos (by omega), show k * 4352 + a - (k * 4352 + 0) = a by omega]
      have := hc.byt a ha
      rw [Nat.zero_add] at this
      rw [this]; simp [MV.exit]
    · rw [spl_get hly, if_pos (by omega), show k * 4352 + 4096 + t - (k * 4352 + 0) = 4096 + t by omega]
      have := hc.tag t ht
      rw [Nat.zero_add] at this
      rw [this]; simp [MV.exit]

end Go.Proofs.Ytbiipnojhjhejaa

/- The contracts of package flat's plain memory: Cut, Fork, Exit, Reclaim. -/
namespace Go.Proofs.Ytbiipnojhjhejaa
set_option maxRecDepth 100000
open Go.RowKit
set_option linter.unusedSimpArgs false
set_option linter.unusedVariables false

theorem clear_bytes {gm : Nat} {w : World} {s : MV} (h : PlOK gm w s) {k : Nat} (hk : k < 4) {j n : Nat} (hn : 0 < n) (hj : j + n ≤ 4096) (ty : TypeId) (c : Nat) :
    (Builtin.clear_ #[51] ty #[.slice (some ⟨gm, k * 4352 + j, none⟩) n c]).run Try.prog w = .ok (.tuple #[]) (w.setCells gm (k * 4352 + j) (List.replicate n (.int .u8 0))) := by
  have ht := h.there (o := k * 4352 + j) (n := n) (by omega)
  exact run_clear_recs w 51 5 ty (.int .u8 0) _ gm _ n c hn Try.underlying51 (by simp [Try.zeroValue5]) (zeroCells_one _ n) (fun v hv => by rw [List.eq_of_mem_replicate hv]; rfl)
    (fun i hi => (ht i (by simpa using hi)).1) (fun i hi => (ht i (by simpa using hi)).2)

theorem clear_tags {gm : Nat} {w : World} {s : MV} (h : PlOK gm w s) {k : Nat} (hk : k < 4) {j n : Nat} (hn : 0 < n) (hj : j + n ≤ 256) (ty : TypeId) (c : Nat) (o : Nat) (vs : List Value) :
    (Builtin.clear_ #[52] ty #[.slice (some ⟨gm, k * 4352 + 4096 + j, none⟩) n c]).run Try.prog (w.setCells gm o vs) = .ok (.tuple #[]) ((w.setCells gm o vs).setCells gm (k * 4352 + 4096 + j) (List.replicate n (.int .i64 0))) := by
  have ht : (w.setCells gm o vs).there gm (k * 4352 + 4096 + j) n := World.there_setCells (h.there (o := k * 4352 + 4096 + j) (n := n) (by omega)) gm o vs
  exact run_clear_recs _ 52 3 ty (.int .i64 0) _ gm _ n c hn Try.underlying52 (by simp [Try.zeroValue3]) (zeroCells_one _ n) (fun v hv => by rw [List.eq_of_mem_replicate hv]; rfl)
    (fun i hi => (ht i (by simpa using hi)).1) (fun i hi => (ht i (by simpa using hi)).2)

set_option maxHeartbeats 1600000 in
theorem plCut_any (gm : Nat) (w : World) (s : MV) (k f t : Nat) (hk : k < 4) (hft : f < t) (ht : t ≤ 64) (h : PlOK gm w s) :
    Calls Try.prog 110 #[.pointer (some ⟨gm, 0, none⟩), .int .i64 k, .int .i64 f, .int .i64 t] w fun e w' => (∃ v, e = .returned v) ∧ PlOK gm w' (s.cut k f t) ∧ Spare gm w w' := by
  have hg := h.lt
  have e1 : wrap64 ((f : Int) * 64) = ((f * 64 : Nat) : Int) := by unfold wrap64; omega
  have e2 : wrap64 ((t : Int) * 64) = ((t * 64 : Nat) : Int) := by unfold wrap64; omega
  have e3 : wrap64 ((f : Int) * 4) = ((f * 4 : Nat) : Int) := by unfold wrap64; omega
  have e4 : wrap64 ((t : Int) * 4) = ((t * 4 : Nat) : Int) := by unfold wrap64; omega
  have s1 := fun w => slice_bytes w gm (k * 4352) (f * 64) ((t - f) * 64) (by omega) (by omega) ((f : Int) * 64) ((t : Int) * 64) (by omega) (by omega)
  have s2 := fun w => slice_tags w gm (k * 4352 + 4096) (f * 4) ((t - f) * 4) (by omega) (by omega) ((f : Int) * 4) ((t : Int) * 4) (by omega) (by omega)
  have c1 := fun ty cc => clear_bytes h hk (j := f * 64) (n := (t - f) * 64) (by omega) (by omega) ty cc
  have c2 := fun ty cc => clear_tags h hk (j := f * 4) (n := (t - f) * 4) (by omega) (by omega) ty cc (k * 4352 + f * 64) (List.replicate ((t - f) * 64) (.int .u8 0))
  have HF : Hid (PlOK gm ((w.setCells gm (k * 4352 + f * 64) (List.replicate ((t - f) * 64) (.int .u8 0))).setCells gm (k * 4352 + 4096 + f * 4) (List.replicate ((t - f) * 4) (.int .i64 0))) (s.cut k f t)) := h.cutted hk hft ht
  clear h
  go_enter Try.func110, Try.ntmps110
  go_wp2
  go_end0
  exact ⟨⟨_, rfl⟩, HF.out, ((Spare.refl _ _).setCells _ _).setCells _ _⟩

set_option maxHeartbeats 1600000 in
theorem plRecl_any (gm : Nat) (w : World) (s : MV) (n : Int) (h : PlOK gm w s) :
    Calls Try.prog 115 #[.pointer (some ⟨gm, 0, none⟩), .int .i64 n] w fun e w' => (∃ v, e = .returned v) ∧ PlOK gm w' s ∧ Spare gm w w' := by
  go_enter Try.func115, Try.ntmps115
  go_wp2
  go_end0
  exact ⟨⟨_, rfl⟩, h, Spare.refl _ _⟩

theorem info_view : (Try.prog.info? 69).map (·.size) = some 4352 := by kernel_rfl

set_option maxHeartbeats 1600000 in
theorem plExit_any (gm : Nat) (w : World) (s : MV) (k : Nat) (hk : k < 4) (h : PlOK gm w s) :
    Calls Try.prog 111 #[.pointer (some ⟨gm, 0, none⟩), .int .i64 k] w fun e w' => (∃ v, e = .returned v) ∧ PlOK gm w' (s.exit k) ∧ Spare gm w w' := by
  obtain ⟨Z, hZ⟩ : ∃ Z, Z = Try.zeroCells69 := ⟨_, rfl⟩
  have HZ : Hid (Z.size = 4352 ∧ VC Z.toList 0 (fun _ => 0) (fun _ => 0) ∧ Z.all (·.oneCell') = true) := by
    obtain ⟨z2, z3⟩ := zero_v
    rw [← hZ] at z2 z3
    obtain ⟨v1, -⟩ := chkV_vc z3
    refine ⟨z2, v1, Array.all_eq_true_iff_forall_mem.2 (fun v hv => ?_)⟩
    obtain ⟨j, hj, he⟩ := List.getElem_of_mem (show v ∈ Z.toList by simpa using hv)
    have hj' : j < 4352 := by have : Z.toList.length = 4352 := by simpa using z2
                              omega
    exact v1.one hj' (by rw [Nat.zero_add, List.getElem?_eq_getElem hj, he])
  have hzv : ∀ w : World, (zeroValue 69).run Try.prog w = .ok (.agg Z) w := fun w => by rw [hZ]; exact Try.zeroValue69 w
  have hg := h.lt
  have HT : Hid (w.there gm (k * 4352) Z.size) := h.there (by rw [HZ.out.1]; omega)
  have HSZ : Hid ((Try.prog.info? 69).map (·.size) = some Z.size) := by show _ = _; rw [HZ.out.1]; exact info_view
  have HG : Hid (PlOK gm (w.setCells gm (k * 4352) Z.toList) (s.exit k)) := h.gone hk (by simpa using HZ.out.1) HZ.out.2.1
  clear h
  go_enter Try.func111, Try.ntmps111
  go_wp2_with (refine wpList_store_mid rfl 69 (.tmp 8) (.tmp 6) rfl gm (k * 4352) Try.zeroCells69 rfl rfl (hZ ▸ HT.out) (hZ ▸ HSZ.out) (hZ ▸ HZ.out.2.2) ?_)
  go_end0
  refine ⟨⟨_, rfl⟩, ?_, (Spare.refl _ _).setCells _ _⟩
  rw [← hZ]
  exact HG.out

end Go.Proofs.Ytbiipnojhjhejaa

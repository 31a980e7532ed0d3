/- A round of a range over a function, whose body has a region that draws its order: what holds of the region as everywhere holds in the round; package flat's iterator over pages. -/
import Derived.Test.YtbiipnojhjhejaaJFmem
import Derived.Test.YtbiipnojhjhejaaCalm
import Derived.Deep.RegionHeld3
import Derived.RangeFuncNested
import Derived.RangeFuncBound
import Derived.RangeFuncCalls
import Derived.RangeFuncLeaves
import Derived.Shelf.Abstract
import Derived.Shelf.RegionOpen
import Derived.OwnWalkIn
import Derived.TacticsInMore
import Derived.LoopNIn
import Derived.LoopIn
import Derived.Test.YtbiipnojhjhejaaFlat9
namespace Go.Proofs.Ytbiipnojhjhejaa
set_option maxRecDepth 100000
open Go.RowKit
set_option linter.unusedSimpArgs false
set_option linter.unusedVariables false

theorem opIn_of_op {l n : Nat} {P : Program} {o : Oper} {a : Act} {w : World} {K : Act → World → Prop} {Q : Exit → Act → World → Prop} (hd : ∀ c, o.op ≠ .defer c) (h : o.wp P a w K Q) : o.wpIn (Fence.wide.inRound l) n P a w K Q := by
  refine ⟨fun f _ => trivial, ?_⟩
  unfold Oper.wp at h
  rw [Oper.semAt_eq _ _ _ hd]
  generalize (execOp a.eval o).run P w = r at *
  cases r with
  | ok x w' =>
    cases x <;> simp only [Oper.upon, Oper.uponIn] at h ⊢
    case enter => exact ⟨fun hh => (by cases hh), CallsIn.inRound l ((callsIn_wide.2 h).mono (fun e w'' he => by cases e <;> exact he))⟩
    case row => exact ⟨fun hh => (by cases hh), fun c cs _ => by obtain ⟨v, w2, hr, hs⟩ := h c cs; exact ⟨v, w2, hr, stepsIn_wide.2 hs⟩⟩
    all_goals exact h
  | halt x w' => cases x <;> simp only [Oper.upon, Oper.uponIn] at h ⊢ <;> exact h

theorem wpOpIn_of {l n : Nat} {P : Program} {ops : Array Oper} {Q : Exit → Act → World → Prop} (hnd : ∀ (i : Nat) (o : Oper) c, ops[i]? = some o → o.op ≠ .defer c) (hq : ¬ LetsOut Q) {i : Nat} {K : Act → World → Prop} {a : Act} {w : World}
    (h : wpOp P ops Q i K a w) : wpOpIn (Fence.wide.inRound l) n P ops Q i K a w := by
  unfold wpOp at h
  unfold wpOpIn
  cases ho : ops[i]? with
  | none => rw [ho] at h; exact h
  | some o =>
    rw [ho] at h
    simp only at h ⊢
    split
    · rename_i hw
      rw [if_pos hw] at h
      rcases h with h | ⟨-, h⟩
      · exact opIn_of_op (fun c => hnd i o c ho) h
      · exact absurd h hq
    · rename_i hw
      rw [if_neg hw] at h
      exact ⟨fun f _ => trivial, h⟩

theorem wpAnyIn_of {l n : Nat} {P : Program} {md : Region.Mode} {ops : Array Oper} {Q : Exit → Act → World → Prop} (hnd : ∀ (i : Nat) (o : Oper) c, ops[i]? = some o → o.op ≠ .defer c) (hq : ¬ LetsOut Q) :
    ∀ (fuel : Nat) (listed : Array Bool) (a : Act) (w : World), wpAny P md ops Q fuel listed a w → wpAnyIn (Fence.wide.inRound l) n P md ops Q fuel listed a w
  | 0, _, _, _, h => h
  | fuel + 1, _, _, _, h => ⟨h.1, fun i hi => wpOpIn_mono (fun a' w' h' => wpAnyIn_of hnd hq fuel _ a' w' h') (wpOpIn_of hnd hq (h.2 i hi))⟩

def noDefer (ops : Array Oper) : Bool := ops.all fun o => match o.op with | .defer _ => false | _ => true

theorem noDefer_spec {ops : Array Oper} (h : noDefer ops = true) (i : Nat) (o : Oper) (c : Call) (ho : ops[i]? = some o) : o.op ≠ .defer c := by
  unfold noDefer at h
  rw [Array.all_eq_true] at h
  obtain ⟨hi, he⟩ := Array.getElem?_eq_some_iff.1 ho
  have := h i hi
  rw [he] at this
  intro hc
  rw [hc] at this
  cases this

/-- A region of a round that draws its order: as a region anywhere. -/
theorem round_region_held {l n : Nat} {P : Program} {id : Nat} {ops : Array Oper} {Q : Exit → Act → World → Prop} {S : World → Prop} {a : Act} {w : World} (hm : P.follows .mixedOrders = true) (hnd : noDefer ops = true) (hq : ¬ LetsOut Q) (hS : S w.drew)
    (h : S w.drew → wpAnyH P .any ops Q S ops.size (Array.replicate ops.size false) a w.drew) : (Code.region id ops true).wpIn (Fence.wide.inRound l) n P Q a w :=
  wpIn_region_any hm (wpAnyIn_of (noDefer_spec hnd) hq _ _ _ _ (wpAny_of_held _ _ _ _ (h hS)))

/-! The pages of addresses f to t - 1. -/
def segs : Nat → Nat → Nat → List (Nat × Nat)
  | 0, _, _ => []
  | n + 1, f, t => if f < t then (f, min t ((f / 64 + 1) * 64)) :: segs n (min t ((f / 64 + 1) * 64)) t else []

/-- Such a piece: addresses of one page. -/
abbrev Seg (f t : Nat) := { x : Nat × Nat // f ≤ x.1 ∧ x.1 < x.2 ∧ x.2 ≤ t ∧ x.2 ≤ (x.1 / 64 + 1) * 64 ∧ (x.1 = f ∨ x.1 % 64 = 0) ∧ (x.2 = t ∨ x.2 % 64 = 0) }

def encG {f t : Nat} (x : Seg f t) : Array Value := #[.int .i64 (x.1.1 : Int), .int .i64 (x.1.2 : Int)]

/-- What lies in the iterator's two boxes stays. -/
def KpB (bf bt : Nat) (W W' : World) : Prop := W'.heap[bf]? = W.heap[bf]? ∧ W'.heap[bt]? = W.heap[bt]?

theorem byPage_any (f t : Int) (w : World) :
    Calls Try.prog 54 #[.int .i64 f, .int .i64 t] w fun e w' => e = .returned (.func (.func 72) #[] #[.pointer (some ⟨w.heap.size, 0, none⟩), .pointer (some ⟨w.heap.size + 1, 0, none⟩)]) ∧ w' = (w.alloc (.cells #[.int .i64 f] 3)).alloc (.cells #[.int .i64 t] 3) := by
  have hmf : ∀ (fn : Fn) (first cap : Array Value) (w : World), (Instr.makeFunc fn first cap).run Try.prog w = .ok (.func fn first cap) w := fun _ _ _ _ => rfl
  go_enter Try.func54, Try.ntmps54
  go_wp2
  go_ret
  exact ⟨rfl, rfl⟩

set_option maxHeartbeats 1600000 in
/-- The iterator's contract: the pieces come in turn. -/
theorem byPage_stops (f t : Nat) (ht : t ≤ 4096) (bf bt : Nat) (w : World) (hbf : w.cell? ⟨bf, 0, none⟩ = some (.int .i64 f)) (hbt : w.cell? ⟨bt, 0, none⟩ = some (.int .i64 t)) (n : Nat) :
    SeqStopsK Fence.wide n Try.prog 72 #[.pointer (some ⟨bf, 0, none⟩), .pointer (some ⟨bt, 0, none⟩)] (encG (f := f) (t := t)) (KpB bf bt) (fun xs => xs.map (·.1) = segs 65 f t) (fun pre => pre.map (·.1) <+: segs 65 f t) 66 w := fun l J Jx W hW hJ hJx hY h0 => by
  have hcf : W.cell? ⟨bf, 0, none⟩ = some (.int .i64 f) := (hW.cell (cell_lt hbf)).trans hbf
  have hct : W.cell? ⟨bt, 0, none⟩ = some (.int .i64 t) := (hW.cell (cell_lt hbt)).trans hbt
  refine callsIn_of_wp Try.func72 rfl trivial ?_ rfl
  simp only [Try.ntmps72, List.size_toArray, List.length_cons, List.length_nil, Nat.reduceAdd, Nat.reduceSub, Array.replicate_succ, Array.replicate_zero, List.push_toArray, List.append_toArray, List.nil_append, List.cons_append]
  gi_wp2
  gi_loopw [4] (fun p wr => ∃ (pre : List (Seg f t)) (c : Nat), p = .int .i64 c ∧ f ≤ c ∧ Hid (c = f ∨ c % 64 = 0 ∨ t ≤ c) ∧ Hid (c < t → pre.length * 64 ≤ c) ∧ Hid (pre.map (·.1) ++ segs (65 - pre.length) c t = segs 65 f t) ∧ wr.cell? ⟨bf, 0, none⟩ = some (.int .i64 f) ∧ wr.cell? ⟨bt, 0, none⟩ = some (.int .i64 t) ∧ J pre wr)
    (fun p _ => t - (intOf p).toNat)
  case atStart => exact ⟨[], f, rfl, Nat.le_refl _, Or.inl rfl, fun _ => Nat.zero_le _, rfl, hcf, hct, h0⟩
  case round =>
    obtain ⟨pre, c, rfl, hfc, hcm, hlen, hseg, hc1, hc2, hJs⟩ := hrel
    by_cases hlt : c < t
    · have hk := hlen.out hlt
      obtain ⟨e, he⟩ : ∃ e, e = min t ((c / 64 + 1) * 64) := ⟨_, rfl⟩
      have hce : c < e ∧ e ≤ t ∧ e ≤ (c / 64 + 1) * 64 ∧ (e < t → (c / 64 + 1) * 64 ≤ e) := by omega
      have hcf2 : c = f ∨ c % 64 = 0 := by rcases hcm.out with h | h | h <;> omega
      have hef : e = t ∨ e % 64 = 0 := by omega
      obtain ⟨fn, tmps, assign, body, hy, hR⟩ := hY pre ⟨(c, e), hfc, hce.1, hce.2.1, hce.2.2.1, hcf2, hef⟩ wr hJs (by omega)
      dsimp only [encG] at hy
      rw [show ((e : Nat) : Int) = min (t : Int) (((c : Int) / 64 + 1) * 64) by omega] at hy
      have q1 : decide ((c : Int) < (t : Int)) = true := by simpa using hlt
      clear hcf hct
      gi_wp2
      refine ⟨fun hh => (by cases hh), hR.mono ?_⟩
      rintro e' W3 (⟨rfl, hJ3, hk3⟩ | ⟨rfl, hJx3⟩)
      · have hc1' : W3.cell? ⟨bf, 0, none⟩ = some (.int .i64 f) := (World.cell?_of_block hk3.1).trans hc1
        have hc2' : W3.cell? ⟨bt, 0, none⟩ = some (.int .i64 t) := (World.cell?_of_block hk3.2).trans hc2
        have HR : Hid (e < t → (pre ++ [⟨(c, e), hfc, hce.1, hce.2.1, hce.2.2.1, hcf2, hef⟩] : List (Seg f t)).length * 64 ≤ e) := fun h => by
          have := hce.2.2.2 h
          rw [List.length_append, List.length_singleton]
          omega
        have HS : Hid ((pre ++ [⟨(c, e), hfc, hce.1, hce.2.1, hce.2.2.1, hcf2, hef⟩] : List (Seg f t)).map (·.1) ++ segs (65 - (pre ++ [⟨(c, e), hfc, hce.1, hce.2.1, hce.2.2.1, hcf2, hef⟩] : List (Seg f t)).length) e t = segs 65 f t) := by
          show _ = _
          have h2 := hseg.out
          rw [List.length_append, List.length_singleton]
          obtain ⟨m, hm⟩ : ∃ m, 65 - pre.length = m + 1 := ⟨64 - pre.length, by omega⟩
          rw [hm, segs, if_pos hlt, ← he] at h2
          rw [show 65 - (pre.length + 1) = m by omega, List.map_append, List.append_assoc]
          exact h2
        clear hy hR
        gi_wp2
        go_roundw
        case rel => exact ⟨_, e, by rw [show ((e : Nat) : Int) = min (t : Int) (((c : Int) / 64 + 1) * 64) by omega], by omega, (by rcases hef with h | h <;> show _ ∨ _ ∨ _ <;> omega), HR, HS, hc1', hc2', hJ3⟩
        case measure => simp [intOf]; omega
      · clear hy hR
        gi_wp2
        refine bodyPost_ret (results_none rfl _ _ _) rfl ?_
        refine ⟨⟨_, rfl⟩, .inr ⟨_, ?_, hJx3⟩⟩
        have h2 := hseg.out
        obtain ⟨m, hm⟩ : ∃ m, 65 - pre.length = m + 1 := ⟨64 - pre.length, by omega⟩
        rw [hm, segs, if_pos hlt, ← he] at h2
        rw [← h2, List.map_append]
        exact ⟨segs m e t, by rw [List.append_assoc]; rfl⟩
    · have q1 : decide ((c : Int) < (t : Int)) = false := by simp; omega
      have h2 := hseg.out
      rw [show segs (65 - pre.length) c t = [] by cases (65 - pre.length) with | zero => rfl | succ n => rw [segs, if_neg hlt], List.append_nil] at h2
      gi_wp2
      go_end0
      exact ⟨⟨_, rfl⟩, .inl ⟨pre, h2, hJs⟩⟩

end Go.Proofs.Ytbiipnojhjhejaa

/- Between two rounds of a loop over pages: processes, memory, and the variables that the loop looks at. -/
namespace Go.Proofs.Ytbiipnojhjhejaa
set_option maxRecDepth 100000
open Go.RowKit
set_option linter.unusedSimpArgs false
set_option linter.unusedVariables false

/-- What the law of the loop asks of it: blocks that are no cells may be others. -/
theorem row_grown {A B : World} {row : Option Nat} (hg : A.grownBy B row) (hr : ∀ r, row = some r → ∃ o : Obj, A.heap[r]? = some o ∧ o.isCells = false) {i : Nat} {c : Array Value} {e : TypeId} {fr : Nat × Nat} (h : A.heap[i]? = some (.cells c e fr)) : B.heap[i]? = some (.cells c e fr) := by
  refine (hg.block i (Array.getElem?_eq_some_iff.1 h).1 (fun he => ?_)).trans h
  obtain ⟨o, ho, hc⟩ := hr i he.symm
  rw [h] at ho
  cases ho
  cases hc

theorem wok_grown {mv : Value} {base g : Nat} {S : W4} {A B : World} {row : Option Nat} (hg : A.grownBy B row) (hr : ∀ r, row = some r → ∃ o : Obj, A.heap[r]? = some o ∧ o.isCells = false) (h : WOK mv base g A S) : WOK mv base g B S := by
  obtain ⟨h1, h2, xs, h3, h4, h40, h5⟩ := h
  refine ⟨h1, Nat.le_trans h2 hg.size, xs, row_grown hg hr h3, h4, h40, fun k hk => ?_⟩
  obtain ⟨v, hv, ho⟩ := h5 k hk
  refine ⟨v, hv, ?_⟩
  obtain ⟨q1, q2 | ⟨g', cap, cur, rfl, hbg, hg', hr'⟩⟩ := ho
  · exact ⟨q1, Or.inl q2⟩
  · exact ⟨q1, Or.inr ⟨g', cap, cur, rfl, hbg, row_grown hg hr hg', hr'⟩⟩

theorem ok_grown {σ : Type} {M : Mem σ} {s : σ} {A B : World} {row : Option Nat} (hg : A.grownBy B row) (hr : ∀ r, row = some r → ∃ o : Obj, A.heap[r]? = some o ∧ o.isCells = false) (h : M.ok A s) : M.ok B s :=
  M.frame h hg.size fun i c e fr hi _ _ => row_grown hg hr hi

theorem mkg_grown {σ : Type} {M : Mem σ} {g B0 : Nat} {w A B : World} {row : Option Nat} (hB : w.heap.size ≤ B0) (hg : A.grownBy B row) (hr : ∀ r, row = some r → B0 ≤ r) (h : MKg M g w A) : MKg M g w B :=
  ⟨hg.os.trans h.os, hg.tape.trans h.tape, hg.output.trans h.output, Nat.le_trans h.size hg.size, fun i o hi hn hc => by
    have h1 := h.same i o hi hn hc
    refine (hg.block i (Array.getElem?_eq_some_iff.1 h1).1 (fun he => ?_)).trans h1
    have := hr i he.symm
    have := (Array.getElem?_eq_some_iff.1 hi).1
    omega⟩

/-- Between two rounds: memory is st, and seen as V; the rows rs lie there. -/
structure LoopI {σ : Type} (M : Mem σ) (base g : Nat) (S : W4) (w : World) (rs : List (Nat × TypeId × List Value)) (st : σ) (V : MV) (W : World) : Prop where
  wok : WOK M.mv base g W S
  ok : M.ok W st
  rel : M.R st V
  keep : MKg M g w W
  rows : ∀ r ∈ rs, OwnRow W r.1 r.2.1 r.2.2

theorem LoopI.own {σ : Type} {M : Mem σ} {base g : Nat} {S : W4} {w : World} {rs : List (Nat × TypeId × List Value)} {B0 : Nat} {α : Type} (f : α → σ) (h : α → MV) (hB : w.heap.size ≤ B0) : OwnFrom B0 (fun pre W => LoopI M base g S w rs (f pre) (h pre) W) :=
  fun pre A B row hh hg hr => ⟨wok_grown hg (fun r e => (hr r e).2) hh.wok, ok_grown hg (fun r e => (hr r e).2) hh.ok, hh.rel, mkg_grown hB hg (fun r e => (hr r e).1) hh.keep, fun r h => row_grown hg (fun r e => (hr r e).2) (hh.rows r h)⟩

theorem MKg.keepsOthers {σ : Type} {M : Mem σ} {g : Nat} {w w' : World} (h : MKg M g w w') {e : TypeId} {xs : List Value} (hr : OwnRow w g e xs) : KeepsOthers w w' :=
  ⟨h.size, fun i o hi hc => h.same i o hi (fun he => by subst he; rw [show w.heap[i]? = _ from hr] at hi; cases hi; cases hc) (Or.inr fun c e' fr he => by rw [he] at hc; cases hc)⟩

/-- A call of memory's within a round. -/
theorem LoopI.step {σ : Type} {M : Mem σ} {base g : Nat} {S : W4} {w : World} {rs : List (Nat × TypeId × List Value)} {st st' : σ} {V V' : MV} {W w' : World} (h : LoopI M base g S w rs st V W) (hrs : ∀ r ∈ rs, r.1 ≠ g ∧ M.wr r.2.1 = false) (hok : M.ok w' st') (hr : M.R st' V') (hmk : MK M.lo M.wr W.drew w') :
    LoopI M base g S w rs st' V' w' ∧ KeepsOthers W w' ∧ MKg M g W w' ∧ ∀ r ∈ rs, w'.heap[r.1]? = W.heap[r.1]? := by
  have hmk2 : MKg M g W w' := (MKg.of_below (Below.refl _ _).drew).trans (MKg.of_mk hmk)
  have hrow : ∀ r ∈ rs, OwnRow w' r.1 r.2.1 r.2.2 := fun r hr => hmk2.row (h.rows r hr) (hrs r hr).1 (hrs r hr).2
  obtain ⟨-, -, xs, hrg, -⟩ := h.wok
  exact ⟨⟨(h.wok.below (Below.refl _ _).drew).byMK hmk M.hwr.1 M.hwr.2.1, hok, hr, h.keep.trans hmk2, hrow⟩, hmk2.keepsOthers hrg, hmk2, fun r hr => (hrow r hr).trans (h.rows r hr).symm⟩

/-- Four variables laid ahead of a loop. -/
theorem boxes4 (w : World) (o1 o2 o3 o4 : Obj) : ∃ W, (((w.alloc o1).alloc o2).alloc o3).alloc o4 = W ∧ W.heap[w.heap.size]? = some o1 ∧ W.heap[w.heap.size + 1]? = some o2 ∧ W.heap[w.heap.size + 1 + 1]? = some o3 ∧ W.heap[w.heap.size + 1 + 1 + 1]? = some o4 ∧ Below w.heap.size w W ∧ W.heap.size = w.heap.size + 4 := by
  refine ⟨_, rfl, ?_, ?_, ?_, ?_, ?_, ?_⟩
  · exact (Below.heap_alloc _ _ _ (by simp <;> omega)).trans ((Below.heap_alloc _ _ _ (by simp <;> omega)).trans ((Below.heap_alloc _ _ _ (by simp <;> omega)).trans (World.alloc_heap_new w o1)))
  · have := World.alloc_heap_new (w.alloc o1) o2
    rw [World.size_alloc] at this
    exact (Below.heap_alloc _ _ _ (by simp <;> omega)).trans ((Below.heap_alloc _ _ _ (by simp <;> omega)).trans this)
  · have := World.alloc_heap_new ((w.alloc o1).alloc o2) o3
    rw [World.size_alloc, World.size_alloc] at this
    exact (Below.heap_alloc _ _ _ (by simp <;> omega)).trans this
  · have := World.alloc_heap_new (((w.alloc o1).alloc o2).alloc o3) o4
    rwa [World.size_alloc, World.size_alloc, World.size_alloc] at this
  · exact ((((Below.refl _ w).alloc (Nat.le_refl _) _).alloc (by simp) _).alloc (by simp <;> omega) _).alloc (by simp <;> omega) _
  · simp

end Go.Proofs.Ytbiipnojhjhejaa

/- The contract of flat.world.mark: granules of pages that are there have a tag, page by page. -/
namespace Go.Proofs.Ytbiipnojhjhejaa
set_option maxRecDepth 100000
open Go.RowKit
set_option linter.unusedSimpArgs false
set_option linter.unusedVariables false

/-- What memory is, behind a piece that was marked; and how it is seen. -/
def mkS {σ : Type} (M : Mem σ) (k : Nat) (y : Int) (s : σ) (x : Nat × Nat) : σ := M.sMark s k (x.1 / 16) ((x.2 - x.1) / 16) y
def mkV (k : Nat) (y : Int) (V : MV) (x : Nat × Nat) : MV := V.mark k (x.1 / 16) ((x.2 - x.1) / 16) y
def marS {σ : Type} (M : Mem σ) (s : σ) (k : Nat) (o : O12) : σ := (segs 65 (tF o) (tT o)).foldl (mkS M k o.tag) s

theorem mkV_keep (k : Nat) (y : Int) (h0 : 0 ≤ y) (h1 : y ≤ 15) : ∀ (l : List (Nat × Nat)) (V : MV), VG V → VG (l.foldl (mkV k y) V) ∧ (l.foldl (mkV k y) V).lv = V.lv ∧ (l.foldl (mkV k y) V).P = V.P
  | [], V, h => ⟨h, rfl, rfl⟩
  | x :: r, V, h => mkV_keep k y h0 h1 r (mkV k y V x) (h.mark _ _ _ h0 h1)

theorem mkV_segs (k : Nat) (y : Int) (V : MV) : ∀ (n f t : Nat), f % 16 = 0 → t % 16 = 0 → f ≤ t → (f < t → t ≤ f / 64 * 64 + n * 64) → (segs n f t).foldl (mkV k y) V = V.mark k (f / 16) ((t - f) / 16) y
  | 0, f, t, hf, ht, hle, hn => by
    have : t = f := by omega
    subst this
    rw [segs, Nat.sub_self, Nat.zero_div, mark_none]
    rfl
  | n + 1, f, t, hf, ht, hle, hn => by
    rw [segs]
    by_cases h : f < t
    · rw [if_pos h]
      obtain ⟨e, he⟩ : ∃ e, e = min t ((f / 64 + 1) * 64) := ⟨_, rfl⟩
      rw [← he]
      have hfe : f < e ∧ e ≤ t ∧ e % 16 = 0 := by omega
      -- the piece ahead is marked last: it is no matter in which order
      have key : ∀ (V : MV), (segs n e t).foldl (mkV k y) V = V.mark k (e / 16) ((t - e) / 16) y := fun V => mkV_segs k y V n e t hfe.2.2 ht hfe.2.1 (by omega)
      rw [List.foldl_cons, key]
      unfold mkV
      have h1 := mark_next V k (f / 16) ((e - f) / 16) ((t - e) / 16) y
      rw [show f / 16 + (e - f) / 16 = e / 16 by omega, show (e - f) / 16 + (t - e) / 16 = (t - f) / 16 by omega] at h1
      exact h1
    · rw [if_neg h]
      have : t = f := by omega
      subst this
      rw [Nat.sub_self, Nat.zero_div, mark_none]
      rfl

set_option maxHeartbeats 3200000 in
theorem mark_any {σ : Type} (M : Mem σ) (base g : Nat) (S : W4) (s : σ) (k : Nat) (hk : k < 4) (hlk : (S k).live = true) (o : O12) (hp : o.proc = k) (hy0 : 0 ≤ o.tag) (hy1 : o.tag ≤ 15) (hF : tF o % 16 = 0) (hT : tT o % 16 = 0) (hle : tF o < tT o) (hT2 : tT o ≤ 4096)
    (hpg : ∀ a, tF o ≤ a → a < tT o → (atR (S k).L ((a / 64 : Nat) : Int)).isSome = true) (w : World) (h : WM M base g w S s) (hi : Inv S) :
    Calls Try.prog 43 #[.pointer (some ⟨g, 0, none⟩), opV o, .int .i64 (tF o), .int .i64 (tT o)] w fun e w' => (∃ v, e = .returned v) ∧ WM M base g w' (upd S k (markT (S k) o)) (marS M s k o) ∧ MKg M g w w' := by
  have hg := h.wok.glt
  have HFIN : Hid ((segs 65 (tF o) (tT o)).foldl (mkV k o.tag) (vw S) = vw (upd S k (markT (S k) o))) := by
    show _ = _
    rw [mkV_segs k o.tag (vw S) 65 (tF o) (tT o) hF hT (by omega) (by omega)]
    have := vw_mark S hk (tF o / 16) ((tT o - tF o) / 16) o.tag (fun x h1 h2 => by
      have := hpg (x * 16) (by omega) (by omega)
      rwa [show x * 16 / 64 = x / 4 by omega] at this)
    rw [← this]
    refine congrArg (fun T => vw (upd S k ({ S k with T := T } : Pr))) (funext fun x => ?_)
    by_cases hx : tF o / 16 ≤ x ∧ x < tT o / 16
    · rw [if_pos hx, if_pos (by omega)]
    · rw [if_neg hx, if_neg (by omega)]
  have HS : Hid (marS M s k o = (segs 65 (tF o) (tT o)).foldl (mkS M k o.tag) s) := rfl
  generalize marS M s k o = Z at *
  obtain ⟨A, hA⟩ : ∃ A, A = tF o := ⟨_, rfl⟩
  obtain ⟨B, hB⟩ : ∃ B, B = tT o := ⟨_, rfl⟩
  rw [← hA] at hF hle hpg HFIN HS
  rw [← hB] at hT hle hT2 hpg HFIN HS
  rw [← hA, ← hB]
  have HW : Hid (∀ w1, WOK M.mv base g w1 S → WOK M.mv base g w1 (upd S k (markT (S k) o))) := fun w1 hw => hw.alike (fun i => by
    by_cases hik : i = k
    · subst hik; rw [upd_at]; exact ⟨rfl, rfl, rfl⟩
    · rw [upd_ne hik]; exact ⟨rfl, rfl, rfl⟩)
  generalize upd S k (markT (S k) o) = S' at *
  clear hA hB
  obtain ⟨kind, proc, page, count, rights, key, tagged, draw, addr, size, value, tag⟩ := o
  simp only at hp hy0 hy1 HFIN HS ⊢
  subst hp
  refine (callsIn_wide (n := 3)).1 ?_
  refine callsIn_of_wp_marks Try.func43 rfl trivial ?_ rfl
  simp only [Try.ntmps43, List.size_toArray, List.length_cons, List.length_nil, Nat.reduceAdd, Nat.reduceSub, Array.replicate_succ, Array.replicate_zero, List.push_toArray, List.append_toArray, List.nil_append, List.cons_append]
  gi_wp2_with (refine ⟨trivial, ?_⟩; gi_at_call 54; refine (callsIn_wide.2 (byPage_any _ _ _)).mono ?_; rintro e w1 ⟨rfl, rfl⟩)
  obtain ⟨W0, hW0, hbw, hbo, hbf, hbt, hbel, hsz⟩ := boxes4 w (.cells #[.pointer (some ⟨g, 0, none⟩)] 72) (.cells #[.int .i64 kind, .int .i64 (k : Int), .int .i64 page, .int .i64 count, .int .i64 rights, .int .i64 key, .bool tagged, .int .i64 draw, .int .i64 addr, .int .i64 size, .int .i64 value, .int .i64 tag] 24) (.cells #[.int .i64 A] 3) (.cells #[.int .i64 B] 3)
  rw [hW0]
  obtain ⟨n0, hn0⟩ : ∃ n0, n0 = w.heap.size := ⟨_, rfl⟩
  have hwm := h.below hbel
  clear hW0
  rw [← hn0] at hbw hbo hsz hbf hbt ⊢
  have HRS : Hid (∀ r ∈ ([(n0, 72, [.pointer (some ⟨g, 0, none⟩)]), (n0 + 1, 24, [.int .i64 kind, .int .i64 (k : Int), .int .i64 page, .int .i64 count, .int .i64 rights, .int .i64 key, .bool tagged, .int .i64 draw, .int .i64 addr, .int .i64 size, .int .i64 value, .int .i64 tag]), (n0 + 1 + 1, 3, [.int .i64 A]), (n0 + 1 + 1 + 1, 3, [.int .i64 B])] : List (Nat × TypeId × List Value)), OwnRow W0 r.1 r.2.1 r.2.2) := by
    intro r hr
    simp only [List.mem_cons, List.not_mem_nil, or_false] at hr
    rcases hr with rfl | rfl | rfl | rfl
    · exact hbw
    · exact hbo
    · exact hbf
    · exact hbt
  have HN : Hid (n0 = w.heap.size) := hn0
  have hgn : g < n0 := by omega
  clear hn0
  have HRG : Hid (∀ r ∈ ([(n0, 72, [.pointer (some ⟨g, 0, none⟩)]), (n0 + 1, 24, [.int .i64 kind, .int .i64 (k : Int), .int .i64 page, .int .i64 count, .int .i64 rights, .int .i64 key, .bool tagged, .int .i64 draw, .int .i64 addr, .int .i64 size, .int .i64 value, .int .i64 tag]), (n0 + 1 + 1, 3, [.int .i64 A]), (n0 + 1 + 1 + 1, 3, [.int .i64 B])] : List (Nat × TypeId × List Value)), r.1 ≠ g ∧ M.wr r.2.1 = false) := by
    intro r hr
    simp only [List.mem_cons, List.not_mem_nil, or_false] at hr
    rcases hr with rfl | rfl | rfl | rfl
    · exact ⟨Nat.ne_of_gt hgn, M.hwr.2.2.2.2.2.2⟩
    · exact ⟨by show n0 + 1 ≠ g; omega, M.hwr.2.2.1⟩
    · exact ⟨by show n0 + 1 + 1 ≠ g; omega, M.hwr.2.2.2.2.1⟩
    · exact ⟨by show n0 + 1 + 1 + 1 ≠ g; omega, M.hwr.2.2.2.2.1⟩
  refine wpIn_rangeFunc_ownF (F := Fence.wide) (n := 3) rfl (by decide) (gf := 72) (lb := #[.pointer (some ⟨n0 + 1 + 1, 0, none⟩), .pointer (some ⟨n0 + 1 + 1 + 1, 0, none⟩)]) rfl trivial (enters_of Try.func72 (by kernel_rfl) rfl)
    (byPage_stops A B hT2 (n0 + 1 + 1) (n0 + 1 + 1 + 1) W0 (by rw [OwnRow.cell (HRS.out _ (List.mem_cons_of_mem _ (List.mem_cons_of_mem _ List.mem_cons_self)))]; rfl) (by rw [OwnRow.cell (HRS.out _ (List.mem_cons_of_mem _ (List.mem_cons_of_mem _ (List.mem_cons_of_mem _ List.mem_cons_self))))]; rfl) _)
    (fun h k => ⟨k.1.trans h.1, k.2.trans h.2⟩) (fun W l o o' hl _ _ _ => ⟨World.putObj_heap_other (by omega), World.putObj_heap_other (by omega)⟩) (Below.refl _ _) (fun _ => rfl)
    (fun pre W => LoopI M base g S w [(n0, 72, [.pointer (some ⟨g, 0, none⟩)]), (n0 + 1, 24, [.int .i64 kind, .int .i64 (k : Int), .int .i64 page, .int .i64 count, .int .i64 rights, .int .i64 key, .bool tagged, .int .i64 draw, .int .i64 addr, .int .i64 size, .int .i64 value, .int .i64 tag]), (n0 + 1 + 1, 3, [.int .i64 A]), (n0 + 1 + 1 + 1, 3, [.int .i64 B])] ((pre.map (·.1)).foldl (mkS M k tag) s) ((pre.map (·.1)).foldl (mkV k tag) (vw S)) W) (fun _ _ _ => False)
    (LoopI.own (fun (pre : List (Seg A B)) => (pre.map (·.1)).foldl (mkS M k tag) s) (fun (pre : List (Seg A B)) => (pre.map (·.1)).foldl (mkV k tag) (vw S)) (by have := HN.out; omega)) (fun _ _ _ _ _ hs _ _ => hs)
    ⟨hwm.wok, hwm.ok, hwm.rel, MKg.of_below hbel, HRS.out⟩
    (fun x => { tmps := #[.pointer (some ⟨g, 0, none⟩), opV { kind := kind, proc := k, page := page, count := count, rights := rights, key := key, tagged := tagged, draw := draw, addr := addr, size := size, value := value, tag := tag }, .int .i64 A, .int .i64 B, .pointer (some ⟨n0, 0, none⟩), .pointer (some ⟨n0 + 1, 0, none⟩), undef, undef, .int .i64 (x.1.1 : Int), .int .i64 (x.1.2 : Int), .int .i64 A, .int .i64 B,
      .func (.func 72) #[] #[.pointer (some ⟨n0 + 1 + 1, 0, none⟩), .pointer (some ⟨n0 + 1 + 1 + 1, 0, none⟩)], .int .i64 (x.1.1 : Int), .int .i64 (x.1.2 : Int), undef, undef, undef, undef, undef, undef, undef, undef, undef, undef, undef, undef, undef, undef, undef], defers := [] }) ?assign ?body ?done ?stop
  case assign =>
    intro l x W K hK
    unfold encG
    gi_wp2_with (rw [Oper.semAt_eq _ _ _ (fun c h => by cases h)]; go_simp; try go_bits)
    exact hK
  case body =>
    rintro l pre ⟨⟨f, e⟩, hx1, hx2, hx3, hx4, hx5, hx6⟩ W hI _
    dsimp only
    have hr0 := hI.rows _ List.mem_cons_self
    have hr1 := hI.rows _ (List.mem_cons_of_mem _ List.mem_cons_self)
    have hcp : W.cell? ⟨n0, 0, none⟩ = some (.pointer (some ⟨g, 0, none⟩)) := by rw [OwnRow.cell hr0]; rfl
    have hc1 : W.cell? ⟨n0 + 1, 1, none⟩ = some (.int .i64 (k : Int)) := by rw [OwnRow.cell hr1]; rfl
    have hc11 : W.cell? ⟨n0 + 1, 11, none⟩ = some (.int .i64 tag) := by rw [OwnRow.cell hr1]; rfl
    clear hr0 hr1
    have hcm := hI.wok.mem
    have hm := fun w => (M.hm w).2.2.2.2.2.2.2
    have hcf := fun args w => (M.hf args w).2.2.2.2.2.2.2
    have HMM : Hid (∀ x z, x = ((f / 16 : Nat) : Int) → z = (((e - f) / 16 : Nat) : Int) → Calls Try.prog M.fMark #[.pointer (some M.pm), .int .i64 k, .int .i64 x, .int .i64 z, .int .i64 tag] W.drew fun e' w' => (∃ v, e' = .returned v) ∧ LoopI M base g S w [(n0, 72, [.pointer (some ⟨g, 0, none⟩)]), (n0 + 1, 24, [.int .i64 kind, .int .i64 (k : Int), .int .i64 page, .int .i64 count, .int .i64 rights, .int .i64 key, .bool tagged, .int .i64 draw, .int .i64 addr, .int .i64 size, .int .i64 value, .int .i64 tag]), (n0 + 1 + 1, 3, [.int .i64 A]), (n0 + 1 + 1 + 1, 3, [.int .i64 B])] (((pre ++ [(⟨(f, e), hx1, hx2, hx3, hx4, hx5, hx6⟩ : Seg A B)]).map (·.1)).foldl (mkS M k tag) s) (((pre ++ [(⟨(f, e), hx1, hx2, hx3, hx4, hx5, hx6⟩ : Seg A B)]).map (·.1)).foldl (mkV k tag) (vw S)) w' ∧ KeepsOthers W w' ∧ MKg M g W w' ∧ ∀ r ∈ ([(n0, 72, [.pointer (some ⟨g, 0, none⟩)]), (n0 + 1, 24, [.int .i64 kind, .int .i64 (k : Int), .int .i64 page, .int .i64 count, .int .i64 rights, .int .i64 key, .bool tagged, .int .i64 draw, .int .i64 addr, .int .i64 size, .int .i64 value, .int .i64 tag]), (n0 + 1 + 1, 3, [.int .i64 A]), (n0 + 1 + 1 + 1, 3, [.int .i64 B])] : List (Nat × TypeId × List Value)), w'.heap[r.1]? = W.heap[r.1]?) := fun x z hx hz => by
      subst hx; subst hz
      obtain ⟨v1, v2, v3⟩ := mkV_keep k tag hy0 hy1 (pre.map (·.1)) (vw S) (vw_good hi)
      have hp1 := hpg f hx1 (by omega)
      obtain ⟨r1, r2⟩ := M.mark (k := k) (f := f / 16) (n := (e - f) / 16) (y := tag) (w := W.drew) (M.below hI.ok (Below.refl _ _).drew) hI.rel v1 hk (by rw [v2]; simp [vw, hk, hlk]) (by omega) (by omega) (by omega) (by rw [v3]; simp only [vw, hk, show f / 16 / 4 = f / 64 by omega, hp1]; rfl) hy0 hy1
      refine r2.mono ?_
      rintro e' w' ⟨hv, hok, hmk⟩
      refine ⟨hv, ?_⟩
      rw [List.map_append, List.foldl_append, List.foldl_append]
      exact hI.step HRG.out hok r1 hmk
    refine wpIn_block ?_
    refine round_region_held (S := (fun w' => w'.cell? ⟨n0, 0, none⟩ = some (.pointer (some ⟨g, 0, none⟩)) ∧ w'.cell? ⟨n0 + 1, 1, none⟩ = some (.int .i64 (k : Int)) ∧ w'.cell? ⟨n0 + 1, 11, none⟩ = some (.int .i64 tag) ∧ w'.cell? ⟨g, 40, none⟩ = some (.iface M.mty (.pointer (some M.pm))))) (by kernel_rfl) (by kernel_rfl) (fun ⟨_, _, h⟩ => h) ⟨hcp, hc1, hc11, hcm⟩ (fun hHeld => ?_)
    refine take_to 0 (some 15) (v := ?_) rfl rfl (by kernel_rfl) (by kernel_rfl) (by kernel_rfl) (fun _ _ _ h => h) (Or.inl ⟨by rfl, ?_⟩) (by assumption) ?_
    rotate_left
    · intro w hSw
      (try dsimp only at hSw)
      go_simp
      with_reducible rfl
    simp only [Act.put, List.setIfInBounds_toArray, List.set_cons_zero, List.set_cons_succ]
    refine take_to 1 (some 16) (v := ?_) rfl rfl (by kernel_rfl) (by kernel_rfl) (by kernel_rfl) (fun _ _ _ h => h) (Or.inl ⟨by rfl, ?_⟩) (by assumption) ?_
    rotate_left
    · intro w hSw
      (try dsimp only at hSw)
      go_simp
      with_reducible rfl
    simp only [Act.put, List.setIfInBounds_toArray, List.set_cons_zero, List.set_cons_succ]
    refine take_to 2 (some 17) (v := ?_) rfl rfl (by kernel_rfl) (by kernel_rfl) (by kernel_rfl) (fun _ _ _ h => h) (Or.inl ⟨by rfl, ?_⟩) (by assumption) ?_
    rotate_left
    · intro w hSw
      (try dsimp only at hSw)
      go_simp
      with_reducible rfl
    simp only [Act.put, List.setIfInBounds_toArray, List.set_cons_zero, List.set_cons_succ]
    refine take_to 3 (some 18) (v := ?_) rfl rfl (by kernel_rfl) (by kernel_rfl) (by kernel_rfl) (fun _ _ _ h => h) (Or.inl ⟨by rfl, ?_⟩) (by assumption) ?_
    rotate_left
    · intro w hSw
      (try dsimp only at hSw)
      go_simp
      with_reducible rfl
    simp only [Act.put, List.setIfInBounds_toArray, List.set_cons_zero, List.set_cons_succ]
    refine take_to 4 (some 19) (v := ?_) rfl rfl (by kernel_rfl) (by kernel_rfl) (by kernel_rfl) (fun _ _ _ h => h) (Or.inl ⟨by rfl, ?_⟩) (by assumption) ?_
    rotate_left
    · intro w hSw
      (try dsimp only at hSw)
      go_simp
      with_reducible rfl
    simp only [Act.put, List.setIfInBounds_toArray, List.set_cons_zero, List.set_cons_succ]
    refine take_to 5 (some 20) (v := ?_) rfl rfl (by kernel_rfl) (by kernel_rfl) (by kernel_rfl) (fun _ _ _ h => h) (Or.inl ⟨by rfl, ?_⟩) (by assumption) ?_
    rotate_left
    · intro w hSw
      (try dsimp only at hSw)
      go_simp
      with_reducible rfl
    simp only [Act.put, List.setIfInBounds_toArray, List.set_cons_zero, List.set_cons_succ]
    refine take_to 6 (some 21) (v := ?_) rfl rfl (by kernel_rfl) (by kernel_rfl) (by kernel_rfl) (fun _ _ _ h => h) (Or.inl ⟨by rfl, ?_⟩) (by assumption) ?_
    rotate_left
    · intro w hSw
      (try dsimp only at hSw)
      go_simp
      with_reducible rfl
    simp only [Act.put, List.setIfInBounds_toArray, List.set_cons_zero, List.set_cons_succ]
    refine take_to 7 (some 22) (v := ?_) rfl rfl (by kernel_rfl) (by kernel_rfl) (by kernel_rfl) (fun _ _ _ h => h) (Or.inl ⟨by rfl, ?_⟩) (by assumption) ?_
    rotate_left
    · intro w hSw
      (try dsimp only at hSw)
      go_simp
      with_reducible rfl
    simp only [Act.put, List.setIfInBounds_toArray, List.set_cons_zero, List.set_cons_succ]
    refine take_to 8 (some 23) (v := ?_) rfl rfl (by kernel_rfl) (by kernel_rfl) (by kernel_rfl) (fun _ _ _ h => h) (Or.inl ⟨by rfl, ?_⟩) (by assumption) ?_
    rotate_left
    · intro w hSw
      (try dsimp only at hSw)
      go_simp
      with_reducible rfl
    simp only [Act.put, List.setIfInBounds_toArray, List.set_cons_zero, List.set_cons_succ]
    refine take_to 9 (some 24) (v := ?_) rfl rfl (by kernel_rfl) (by kernel_rfl) (by kernel_rfl) (fun _ _ _ h => h) (Or.inl ⟨by rfl, ?_⟩) (by assumption) ?_
    rotate_left
    · intro w hSw
      (try dsimp only at hSw)
      go_simp
      with_reducible rfl
    simp only [Act.put, List.setIfInBounds_toArray, List.set_cons_zero, List.set_cons_succ]
    refine take_to 10 (some 25) (v := ?_) rfl rfl (by kernel_rfl) (by kernel_rfl) (by kernel_rfl) (fun _ _ _ h => h) (Or.inl ⟨by rfl, ?_⟩) (by assumption) ?_
    rotate_left
    · intro w hSw
      (try dsimp only at hSw)
      go_simp
      with_reducible rfl
    simp only [Act.put, List.setIfInBounds_toArray, List.set_cons_zero, List.set_cons_succ]
    refine take_to 11 (some 26) (v := ?_) rfl rfl (by kernel_rfl) (by kernel_rfl) (by kernel_rfl) (fun _ _ _ h => h) (Or.inl ⟨by rfl, ?_⟩) (by assumption) ?_
    rotate_left
    · intro w hSw
      (try dsimp only at hSw)
      go_simp
      with_reducible rfl
    simp only [Act.put, List.setIfInBounds_toArray, List.set_cons_zero, List.set_cons_succ]
    refine take_to 12 (some 27) (v := ?_) rfl rfl (by kernel_rfl) (by kernel_rfl) (by kernel_rfl) (fun _ _ _ h => h) (Or.inl ⟨by rfl, ?_⟩) (by assumption) ?_
    rotate_left
    · intro w hSw
      (try dsimp only at hSw)
      go_simp
      with_reducible rfl
    simp only [Act.put, List.setIfInBounds_toArray, List.set_cons_zero, List.set_cons_succ]
    refine take_to 13 (some 28) (v := ?_) rfl rfl (by kernel_rfl) (by kernel_rfl) (by kernel_rfl) (fun _ _ _ h => h) (Or.inl ⟨by rfl, ?_⟩) (by assumption) ?_
    rotate_left
    · intro w hSw
      (try dsimp only at hSw)
      go_simp
      with_reducible rfl
    simp only [Act.put, List.setIfInBounds_toArray, List.set_cons_zero, List.set_cons_succ]
    refine wpAnyH_ready (rs := [14]) (by kernel_rfl) (by simp) ?_
    refine AllReadyH.cons rfl (fun K hK => ?_) AllReadyH.nil
    go_simp
    refine Calls.mono (HMM.out _ _ ?ex ?ez) ?_
    case ex => rw [IntKind.wrap_i64]; omega
    case ez =>
      rw [show IntKind.i64.wrap ((e : Int) - (f : Int)) = ((e - f : Nat) : Int) by rw [IntKind.wrap_i64]; omega, Int.tdiv_eq_ediv_of_nonneg (by omega), IntKind.wrap_i64]
      omega
    rintro e' w4 ⟨⟨v, rfl⟩, hI4, hko, hmk4, hsm⟩
    have hr0 := hI4.rows _ List.mem_cons_self
    have hr1 := hI4.rows _ (List.mem_cons_of_mem _ List.mem_cons_self)
    go_wp2_with fail
    refine hK.out _ _ (by exact ⟨by rw [OwnRow.cell hr0]; rfl, by rw [OwnRow.cell hr1]; rfl, by rw [OwnRow.cell hr1]; rfl, hI4.wok.mem⟩) (fun hHeld => ?_)
    clear hK K
    try simp only [Act.put, List.setIfInBounds_toArray, List.set_cons_zero, List.set_cons_succ]
    refine wpAnyH_done (by kernel_rfl) ?_ _
    exact ⟨hko, ⟨hsm _ (List.mem_cons_of_mem _ (List.mem_cons_of_mem _ List.mem_cons_self)), hsm _ (List.mem_cons_of_mem _ (List.mem_cons_of_mem _ (List.mem_cons_of_mem _ List.mem_cons_self)))⟩, hI4⟩
  case done =>
    rintro D xs W hD hxs hI hK
    gi_wp2
    refine ⟨by simp, .inl ⟨_, _, rfl, run_takeDeferred hK, ?_⟩⟩
    have hN := HN.out
    rw [hxs, HFIN.out, ← HS.out] at hI
    have hI2 := (LoopI.own (B0 := W0.heap.size) (α := Unit) (fun _ => Z) (fun _ => vw S') (by omega)) () W _ (some D) hI (grownBy_putObj' W D (.deferred none)) (fun r e => by cases e; exact ⟨hD, _, hK, rfl⟩)
    exact ⟨_, results_none rfl _ _ _, ⟨_, rfl⟩, ⟨HW.out _ hI2.wok, hI2.ok, hI2.rel⟩, hI2.keep⟩
  case stop =>
    rintro D c pre W _ _ h _
    exact h.elim

end Go.Proofs.Ytbiipnojhjhejaa

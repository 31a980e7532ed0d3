/- The contract of flat.world.load: the number that bytes of pages that are there are, page by page. -/
import Derived.Test.YtbiipnojhjhejaaFlatSt
namespace Go.Proofs.Ytbiipnojhjhejaa
set_option maxRecDepth 100000
open Go.RowKit
set_option linter.unusedSimpArgs false
set_option linter.unusedVariables false

/-- What memory is, behind a piece that was loaded; and the number so far. -/
def ldS {σ : Type} (M : Mem σ) (k : Nat) (s : σ) (x : Nat × Nat) : σ := M.sLoad s k x.1 (x.2 - x.1)
def ldN (B : Nat → Int) (A : Nat) (v : Int) (x : Nat × Nat) : Int := bits .or .i64 v (IntKind.i64.wrap (numF B x.1 (x.2 - x.1) * 2 ^ min (((x.1 - A : Nat) : Int) * 8).toNat 64))
def loaS {σ : Type} (M : Mem σ) (s : σ) (k : Nat) (o : O12) : σ := (segs 65 (tF o) (tT o)).foldl (ldS M k) s

theorem or_join_case (x z m c : Int) (M j : Nat) (hm : m = (M : Int)) (hM : M = 2 ^ j) (hs : c * m ≤ 4294967296) (h0 : 0 ≤ x) (h1 : x < m) (h4 : m ≤ 4294967296) (h2 : 0 ≤ z) (h3 : z < c) :
    bits .or .i64 x (IntKind.i64.wrap (z * m)) = x + z * m := by
  obtain ⟨X, rfl⟩ := Int.eq_ofNat_of_zero_le h0
  obtain ⟨Z, rfl⟩ := Int.eq_ofNat_of_zero_le h2
  have hz : (Z : Int) * m ≤ c * m := Int.mul_le_mul_of_nonneg_right (by omega) (by omega)
  subst hm
  have e3 : (Z : Int) * (M : Int) = ((Z * M : Nat) : Int) := by rw [Int.natCast_mul]
  rw [e3] at hz ⊢
  have e2 : IntKind.i64.wrap ((Z * M : Nat) : Int) = ((Z * M : Nat) : Int) := by
    generalize Z * M = q at *
    rw [IntKind.wrap_i64]
    omega
  rw [e2, or_gen X Z M j hM (by omega) (by omega) (by omega)]
  simp

theorem or_join (x z : Int) (m n : Nat) (hmn : m + n ≤ 4) (hn : 1 ≤ n) (h0 : 0 ≤ x) (h1 : x < 256 ^ m) (h2 : 0 ≤ z) (h3 : z < 256 ^ n) :
    bits .or .i64 x (IntKind.i64.wrap (z * 2 ^ min (((m : Nat) : Int) * 8).toNat 64)) = x + z * 256 ^ m := by
  rw [pow_8 m (by omega)]
  have hc : z < 256 ^ (4 - m) := by
    have : (256 : Int) ^ n ≤ 256 ^ (4 - m) := by
      have h5 : n = 1 ∨ n = 2 ∨ n = 3 ∨ n = 4 := by omega
      have h6 : 4 - m = 1 ∨ 4 - m = 2 ∨ 4 - m = 3 ∨ 4 - m = 4 := by omega
      rcases h5 with rfl | rfl | rfl | rfl <;> rcases h6 with h | h | h | h <;> rw [h] <;> first | omega | decide
    omega
  have hm : m = 0 ∨ m = 1 ∨ m = 2 ∨ m = 3 := by omega
  rcases hm with rfl | rfl | rfl | rfl
  · exact or_join_case x z 1 4294967296 1 0 rfl rfl (by decide) h0 h1 (by decide) h2 hc
  · exact or_join_case x z 256 16777216 256 8 rfl rfl (by decide) h0 h1 (by decide) h2 hc
  · exact or_join_case x z 65536 65536 65536 16 rfl rfl (by decide) h0 h1 (by decide) h2 hc
  · exact or_join_case x z 16777216 256 16777216 24 rfl rfl (by decide) h0 h1 (by decide) h2 hc

theorem ld_segs (B : Nat → Int) (hB : ∀ a, 0 ≤ B a ∧ B a ≤ 255) (A : Nat) : ∀ (n f t : Nat), A ≤ f → f ≤ t → t ≤ A + 4 → (f < t → t ≤ f / 64 * 64 + n * 64) → (segs n f t).foldl (ldN B A) (numF B A (f - A)) = numF B A (t - A)
  | 0, f, t, hA, hle, h4, hn => by
    have : t = f := by omega
    subst this
    rfl
  | n + 1, f, t, hA, hle, h4, hn => by
    rw [segs]
    by_cases h : f < t
    · rw [if_pos h]
      obtain ⟨e, he⟩ : ∃ e, e = min t ((f / 64 + 1) * 64) := ⟨_, rfl⟩
      rw [← he]
      have hfe : f < e ∧ e ≤ t := by omega
      have b1 := numF_bd (B := B) A (f - A) (fun i _ => hB _)
      have b2 := numF_bd (B := B) f (e - f) (fun i _ => hB _)
      have h1 : ldN B A (numF B A (f - A)) (f, e) = numF B A (e - A) := by
        unfold ldN
        rw [or_join _ _ (f - A) (e - f) (by omega) (by omega) b1.1 b1.2 b2.1 b2.2]
        have := numF_join B A (f - A) (e - f)
        rw [show f - A + (e - f) = e - A by omega, show A + (f - A) = f by omega] at this
        exact this.symm
      rw [List.foldl_cons, h1]
      exact ld_segs B hB A n e t (by omega) hfe.2 h4 (by omega)
    · rw [if_neg h]
      have : t = f := by omega
      subst this
      rfl

theorem shl_8 (v : Int) (f A : Nat) (h : A ≤ f) (h4 : f ≤ A + 4) (w : World) : (Op.shift BinOp.shl IntKind.i64 v IntKind.i64 (IntKind.i64.wrap (8 * IntKind.i64.wrap ((f : Int) - (A : Int))))).run Try.prog w = .ok (.int .i64 (IntKind.i64.wrap (v * 2 ^ min (((f - A : Nat) : Int) * 8).toNat 64))) w := by
  rw [wrap_8 f A h h4, shift_shl_any _ _ _ _ (by omega), show IntKind.i64.bits = 64 from rfl]
  rfl

theorem rowG {A B : World} {row : Option Nat} (hg : A.grownBy B row) (hr : ∀ r, row = some r → ∃ o : Obj, A.heap[r]? = some o ∧ o.isCells = false) {i : Nat} {e : TypeId} {xs : List Value} (h : OwnRow A i e xs) : OwnRow B i e xs := row_grown hg hr h

/-- Six variables laid ahead of a loop. -/
theorem boxes6 (w : World) (o1 o2 o3 o4 o5 o6 : Obj) : ∃ W, (((((w.alloc o1).alloc o2).alloc o3).alloc o4).alloc o5).alloc o6 = W ∧ W.heap[w.heap.size]? = some o1 ∧ W.heap[w.heap.size + 1]? = some o2 ∧ W.heap[w.heap.size + 1 + 1]? = some o3 ∧ W.heap[w.heap.size + 1 + 1 + 1]? = some o4 ∧ W.heap[w.heap.size + 1 + 1 + 1 + 1]? = some o5 ∧ W.heap[w.heap.size + 1 + 1 + 1 + 1 + 1]? = some o6 ∧ Below w.heap.size w W ∧ W.heap.size = w.heap.size + 6 := by
  obtain ⟨W, hW, h1, h2, h3, h4, h5, hb, hs⟩ := boxes5 w o1 o2 o3 o4 o5
  rw [hW]
  refine ⟨_, rfl, (Below.heap_alloc _ _ _ (by omega)).trans h1, (Below.heap_alloc _ _ _ (by omega)).trans h2, (Below.heap_alloc _ _ _ (by omega)).trans h3, (Below.heap_alloc _ _ _ (by omega)).trans h4, (Below.heap_alloc _ _ _ (by omega)).trans h5, ?_, hb.alloc hb.size _, by simp [hs]⟩
  have := World.alloc_heap_new W o6
  rwa [hs] at this

/-- A variable of an int is written, within a round. -/
theorem LoopI.poke {σ : Type} {M : Mem σ} {base g : Nat} {S : W4} {w : World} {rs : List (Nat × TypeId × List Value)} {st : σ} {V : MV} {W : World} (h : LoopI M base g S w rs st V W) {b : Nat} {u : Value} (hu : OwnRow W b 3 [u]) (hb : w.heap.size ≤ b) (hrs : ∀ r ∈ rs, r.1 ≠ b) (x : Value) :
    LoopI M base g S w rs st V (W.setCell ⟨b, 0, none⟩ x) ∧ OwnRow (W.setCell ⟨b, 0, none⟩ x) b 3 [x] := by
  have hs : Spare b W (W.setCell ⟨b, 0, none⟩ x) := (Spare.refl _ _).set 0 x
  have hm : MK 0 (fun t => t == 3) W (W.setCell ⟨b, 0, none⟩ x) := MK.of_spare hs (Nat.zero_le _) hu (by rfl)
  refine ⟨⟨h.wok.byMK hm (by rfl) (by rfl), M.spare h.ok hs hu M.hdep.2.2, h.rel, ?_, fun r hr => hs.row (h.rows r hr) (hrs r hr)⟩, hu.set 0 x⟩
  refine ⟨hs.2.2.1.trans h.keep.os, hs.2.2.2.1.trans h.keep.tape, hs.2.2.2.2.trans h.keep.output, Nat.le_trans h.keep.size hs.1, fun i o hi hn hc => ?_⟩
  have h1 := h.keep.same i o hi hn hc
  have := (Array.getElem?_eq_some_iff.1 hi).1
  exact (hs.2.1 i (Array.getElem?_eq_some_iff.1 h1).1 (by omega)).trans h1

set_option maxHeartbeats 3200000 in
theorem load_any {σ : Type} (M : Mem σ) (base g : Nat) (S : W4) (s : σ) (k : Nat) (hk : k < 4) (hlk : (S k).live = true) (o : O12) (hp : o.proc = k) (hle : tF o < tT o) (h4 : tT o ≤ tF o + 4) (hT2 : tT o ≤ 4096)
    (hpg : ∀ a, tF o ≤ a → a < tT o → (atR (S k).L ((a / 64 : Nat) : Int)).isSome = true) (w : World) (h : WM M base g w S s) (hi : Inv S) :
    Calls Try.prog 45 #[.pointer (some ⟨g, 0, none⟩), opV o, .int .i64 (tF o), .int .i64 (tT o)] w fun e w' => e = .returned (.int .i64 (numB (S k) (tF o) (tT o - tF o))) ∧ WM M base g w' S (loaS M s k o) ∧ MKg M g w w' := by
  have hg := h.wok.glt
  have HFIN : Hid ((segs 65 (tF o) (tT o)).foldl (ldN ((vw S).B k) (tF o)) 0 = numB (S k) (tF o) (tT o - tF o)) := by
    show _ = _
    have := ld_segs ((vw S).B k) (fun a => (vw_good hi).byt k a) (tF o) 65 (tF o) (tT o) (Nat.le_refl _) (by omega) h4 (by omega)
    rw [Nat.sub_self, numF] at this
    rw [this]
    refine numF_numB _ _ _ _ (fun i hii => ?_)
    have := hpg (tF o + i) (by omega) (by omega)
    simp only [vw]
    rw [if_pos ⟨hk, this⟩]
  have HS : Hid (loaS M s k o = (segs 65 (tF o) (tT o)).foldl (ldS M k) s) := rfl
  generalize loaS M s k o = Z at *
  obtain ⟨A, hA⟩ : ∃ A, A = tF o := ⟨_, rfl⟩
  obtain ⟨B, hB⟩ : ∃ B, B = tT o := ⟨_, rfl⟩
  rw [← hA] at hle hpg HFIN HS h4
  rw [← hB] at hle hT2 hpg HFIN HS h4
  rw [← hA, ← hB]
  generalize numB (S k) A (B - A) = NB at *
  clear hA hB
  obtain ⟨kind, proc, page, count, rights, key, tagged, draw, addr, size, value, tag⟩ := o
  simp only at hp HFIN HS ⊢
  subst hp
  refine (callsIn_wide (n := 3)).1 ?_
  refine callsIn_of_wp_marks Try.func45 rfl trivial ?_ rfl
  simp only [Try.ntmps45, List.size_toArray, List.length_cons, List.length_nil, Nat.reduceAdd, Nat.reduceSub, Array.replicate_succ, Array.replicate_zero, List.push_toArray, List.append_toArray, List.nil_append, List.cons_append]
  gi_wp2_with (refine ⟨trivial, ?_⟩; gi_at_call 54; refine (callsIn_wide.2 (byPage_any _ _ _)).mono ?_; rintro e w1 ⟨rfl, rfl⟩)
  obtain ⟨W0, hW0, hbw, hbo, hbx, hbv, hbf, hbt, hbel, hsz⟩ := boxes6 w (.cells #[.pointer (some ⟨g, 0, none⟩)] 72) (.cells #[.int .i64 kind, .int .i64 (k : Int), .int .i64 page, .int .i64 count, .int .i64 rights, .int .i64 key, .bool tagged, .int .i64 draw, .int .i64 addr, .int .i64 size, .int .i64 value, .int .i64 tag] 24) (.cells #[.int .i64 A] 3) (.cells #[.int .i64 0] 3) (.cells #[.int .i64 A] 3) (.cells #[.int .i64 B] 3)
  rw [hW0]
  obtain ⟨n0, hn0⟩ : ∃ n0, n0 = w.heap.size := ⟨_, rfl⟩
  have hwm := h.below hbel
  clear hW0
  rw [← hn0] at hbw hbo hbx hbv hsz hbf hbt ⊢
  have HRS : Hid (∀ r ∈ ([(n0, 72, [.pointer (some ⟨g, 0, none⟩)]), (n0 + 1, 24, [.int .i64 kind, .int .i64 (k : Int), .int .i64 page, .int .i64 count, .int .i64 rights, .int .i64 key, .bool tagged, .int .i64 draw, .int .i64 addr, .int .i64 size, .int .i64 value, .int .i64 tag]), (n0 + 1 + 1, 3, [.int .i64 A]), (n0 + 1 + 1 + 1 + 1, 3, [.int .i64 A]), (n0 + 1 + 1 + 1 + 1 + 1, 3, [.int .i64 B])] : List (Nat × TypeId × List Value)), OwnRow W0 r.1 r.2.1 r.2.2) := by
    intro r hr
    simp only [List.mem_cons, List.not_mem_nil, or_false] at hr
    rcases hr with rfl | rfl | rfl | rfl | rfl
    · exact hbw
    · exact hbo
    · exact hbx
    · exact hbf
    · exact hbt
  have HN : Hid (n0 = w.heap.size) := hn0
  have hgn : g < n0 := by omega
  clear hn0
  have HRG : Hid (∀ r ∈ ([(n0, 72, [.pointer (some ⟨g, 0, none⟩)]), (n0 + 1, 24, [.int .i64 kind, .int .i64 (k : Int), .int .i64 page, .int .i64 count, .int .i64 rights, .int .i64 key, .bool tagged, .int .i64 draw, .int .i64 addr, .int .i64 size, .int .i64 value, .int .i64 tag]), (n0 + 1 + 1, 3, [.int .i64 A]), (n0 + 1 + 1 + 1 + 1, 3, [.int .i64 A]), (n0 + 1 + 1 + 1 + 1 + 1, 3, [.int .i64 B])] : List (Nat × TypeId × List Value)), r.1 ≠ g ∧ M.wr r.2.1 = false) := by
    intro r hr
    simp only [List.mem_cons, List.not_mem_nil, or_false] at hr
    rcases hr with rfl | rfl | rfl | rfl | rfl
    · exact ⟨Nat.ne_of_gt hgn, M.hwr.2.2.2.2.2.2⟩
    · exact ⟨by show n0 + 1 ≠ g; omega, M.hwr.2.2.1⟩
    · exact ⟨by show n0 + 1 + 1 ≠ g; omega, M.hwr.2.2.2.2.1⟩
    · exact ⟨by show n0 + 1 + 1 + 1 + 1 ≠ g; omega, M.hwr.2.2.2.2.1⟩
    · exact ⟨by show n0 + 1 + 1 + 1 + 1 + 1 ≠ g; omega, M.hwr.2.2.2.2.1⟩
  refine wpIn_rangeFunc_ownF (F := Fence.wide) (n := 3) rfl (by decide) (gf := 72) (lb := #[.pointer (some ⟨n0 + 1 + 1 + 1 + 1, 0, none⟩), .pointer (some ⟨n0 + 1 + 1 + 1 + 1 + 1, 0, none⟩)]) rfl trivial (enters_of Try.func72 (by kernel_rfl) rfl)
    (byPage_stops A B hT2 (n0 + 1 + 1 + 1 + 1) (n0 + 1 + 1 + 1 + 1 + 1) W0 (by rw [OwnRow.cell (HRS.out _ (List.mem_cons_of_mem _ (List.mem_cons_of_mem _ (List.mem_cons_of_mem _ List.mem_cons_self))))]; rfl) (by rw [OwnRow.cell (HRS.out _ (List.mem_cons_of_mem _ (List.mem_cons_of_mem _ (List.mem_cons_of_mem _ (List.mem_cons_of_mem _ List.mem_cons_self)))))]; rfl) _)
    (fun h k => ⟨k.1.trans h.1, k.2.trans h.2⟩) (fun W l o o' hl _ _ _ => ⟨World.putObj_heap_other (by omega), World.putObj_heap_other (by omega)⟩) (Below.refl _ _) (fun _ => rfl)
    (fun (pre : List (Seg A B)) W => LoopI M base g S w [(n0, 72, [.pointer (some ⟨g, 0, none⟩)]), (n0 + 1, 24, [.int .i64 kind, .int .i64 (k : Int), .int .i64 page, .int .i64 count, .int .i64 rights, .int .i64 key, .bool tagged, .int .i64 draw, .int .i64 addr, .int .i64 size, .int .i64 value, .int .i64 tag]), (n0 + 1 + 1, 3, [.int .i64 A]), (n0 + 1 + 1 + 1 + 1, 3, [.int .i64 A]), (n0 + 1 + 1 + 1 + 1 + 1, 3, [.int .i64 B])] ((pre.map (·.1)).foldl (ldS M k) s) (vw S) W ∧ OwnRow W (n0 + 1 + 1 + 1) 3 [.int .i64 ((pre.map (·.1)).foldl (ldN ((vw S).B k) A) 0)]) (fun _ _ _ => False)
    (OwnFrom.and (LoopI.own (fun (pre : List (Seg A B)) => (pre.map (·.1)).foldl (ldS M k) s) (fun _ => vw S) (by have := HN.out; omega)) (show OwnFrom W0.heap.size (fun (pre : List (Seg A B)) W => OwnRow W (n0 + 1 + 1 + 1) 3 [.int .i64 ((pre.map (·.1)).foldl (ldN ((vw S).B k) A) 0)]) from fun pre A' B' row hh hg hr => rowG hg (fun r e => (hr r e).2) hh)) (fun _ _ _ _ _ hs _ _ => hs)
    ⟨⟨hwm.wok, hwm.ok, hwm.rel, MKg.of_below hbel, HRS.out⟩, hbv⟩
    (fun x => { tmps := #[.pointer (some ⟨g, 0, none⟩), opV { kind := kind, proc := k, page := page, count := count, rights := rights, key := key, tagged := tagged, draw := draw, addr := addr, size := size, value := value, tag := tag }, .int .i64 A, .int .i64 B, .pointer (some ⟨n0, 0, none⟩), .pointer (some ⟨n0 + 1, 0, none⟩), .pointer (some ⟨n0 + 1 + 1, 0, none⟩), undef, .int .i64 0, .pointer (some ⟨n0 + 1 + 1 + 1, 0, none⟩), .int .i64 (x.1.1 : Int), .int .i64 (x.1.2 : Int), .int .i64 A, .int .i64 B,
      .func (.func 72) #[] #[.pointer (some ⟨n0 + 1 + 1 + 1 + 1, 0, none⟩), .pointer (some ⟨n0 + 1 + 1 + 1 + 1 + 1, 0, none⟩)], .int .i64 (x.1.1 : Int), .int .i64 (x.1.2 : Int), undef, undef, undef, undef, undef, undef, undef, undef, undef, undef, undef, undef, undef, undef, undef, undef, undef, undef, undef], defers := [] }) ?assign ?body ?done ?stop
  case assign =>
    intro l x W K hK
    unfold encG
    gi_wp2_with (rw [Oper.semAt_eq _ _ _ (fun c h => by cases h)]; go_simp; try go_bits)
    exact hK
  case body =>
    rintro l pre ⟨⟨f, e⟩, hx1, hx2, hx3, hx4, hx5, hx6⟩ W ⟨hI, hv⟩ _
    dsimp only
    have hr0 := hI.rows _ List.mem_cons_self
    have hr1 := hI.rows _ (List.mem_cons_of_mem _ List.mem_cons_self)
    have hcp : W.cell? ⟨n0, 0, none⟩ = some (.pointer (some ⟨g, 0, none⟩)) := by rw [OwnRow.cell hr0]; rfl
    have hc1 : W.cell? ⟨n0 + 1, 1, none⟩ = some (.int .i64 (k : Int)) := by rw [OwnRow.cell hr1]; rfl
    obtain ⟨u, hu⟩ : ∃ u, u = (pre.map (·.1)).foldl (ldN ((vw S).B k) A) 0 := ⟨_, rfl⟩
    rw [← hu] at hv
    have hc11 : W.cell? ⟨n0 + 1 + 1 + 1, 0, none⟩ = some (.int .i64 u) := by rw [OwnRow.cell hv]; rfl
    have HU : Hid _ := hu
    clear hu
    have hr2 := hI.rows _ (List.mem_cons_of_mem _ (List.mem_cons_of_mem _ List.mem_cons_self))
    have hc2 : W.cell? ⟨n0 + 1 + 1, 0, none⟩ = some (.int .i64 A) := by rw [OwnRow.cell hr2]; rfl
    clear hr0 hr1 hr2
    have hcm := hI.wok.mem
    have hm := fun w => (M.hm w).2.2.2.2.1
    have hcf := fun args w => (M.hf args w).2.2.2.2.1
    have HMM : Hid (∀ z, z = ((e - f : Nat) : Int) → Calls Try.prog M.fLoad #[.pointer (some M.pm), .int .i64 k, .int .i64 f, .int .i64 z] W.drew fun e' w' => e' = .returned (.int .i64 (numF ((vw S).B k) f (e - f))) ∧ LoopI M base g S w [(n0, 72, [.pointer (some ⟨g, 0, none⟩)]), (n0 + 1, 24, [.int .i64 kind, .int .i64 (k : Int), .int .i64 page, .int .i64 count, .int .i64 rights, .int .i64 key, .bool tagged, .int .i64 draw, .int .i64 addr, .int .i64 size, .int .i64 value, .int .i64 tag]), (n0 + 1 + 1, 3, [.int .i64 A]), (n0 + 1 + 1 + 1 + 1, 3, [.int .i64 A]), (n0 + 1 + 1 + 1 + 1 + 1, 3, [.int .i64 B])] (((pre ++ [(⟨(f, e), hx1, hx2, hx3, hx4, hx5, hx6⟩ : Seg A B)]).map (·.1)).foldl (ldS M k) s) (vw S) w' ∧ KeepsOthers W w' ∧ MKg M g W w' ∧ (∀ r ∈ ([(n0, 72, [.pointer (some ⟨g, 0, none⟩)]), (n0 + 1, 24, [.int .i64 kind, .int .i64 (k : Int), .int .i64 page, .int .i64 count, .int .i64 rights, .int .i64 key, .bool tagged, .int .i64 draw, .int .i64 addr, .int .i64 size, .int .i64 value, .int .i64 tag]), (n0 + 1 + 1, 3, [.int .i64 A]), (n0 + 1 + 1 + 1 + 1, 3, [.int .i64 A]), (n0 + 1 + 1 + 1 + 1 + 1, 3, [.int .i64 B])] : List (Nat × TypeId × List Value)), w'.heap[r.1]? = W.heap[r.1]?) ∧ OwnRow w' (n0 + 1 + 1 + 1) 3 [.int .i64 u]) := fun z hz => by
      subst hz
      have hp1 := hpg f hx1 (by omega)
      obtain ⟨r1, r2⟩ := M.load (k := k) (a := f) (n := e - f) (w := W.drew) (M.below hI.ok (Below.refl _ _).drew) hI.rel (vw_good hi) hk (by simp [vw, hk, hlk]) (by omega) (by omega) (by omega) (by omega) (by simp only [vw, hk, hp1]; rfl)
      refine r2.mono ?_
      rintro e' w' ⟨hv2, hok, hmk⟩
      refine ⟨hv2, ?_⟩
      rw [List.map_append, List.foldl_append]
      have hst := hI.step HRG.out hok r1 hmk
      exact ⟨hst.1, hst.2.1, hst.2.2.1, hst.2.2.2, hst.2.2.1.row hv (by omega) M.hwr.2.2.2.2.1⟩
    have HRV : Hid (∀ r ∈ ([(n0, 72, [.pointer (some ⟨g, 0, none⟩)]), (n0 + 1, 24, [.int .i64 kind, .int .i64 (k : Int), .int .i64 page, .int .i64 count, .int .i64 rights, .int .i64 key, .bool tagged, .int .i64 draw, .int .i64 addr, .int .i64 size, .int .i64 value, .int .i64 tag]), (n0 + 1 + 1, 3, [.int .i64 A]), (n0 + 1 + 1 + 1 + 1, 3, [.int .i64 A]), (n0 + 1 + 1 + 1 + 1 + 1, 3, [.int .i64 B])] : List (Nat × TypeId × List Value)), r.1 ≠ n0 + 1 + 1 + 1) := by
      intro r hr
      simp only [List.mem_cons, List.not_mem_nil, or_false] at hr
      rcases hr with rfl | rfl | rfl | rfl | rfl <;> (dsimp only; omega)
    have HV : Hid (OwnRow W (n0 + 1 + 1 + 1) 3 [.int .i64 u]) := hv
    clear hv
    have hsh := shl_8 (numF ((vw S).B k) f (e - f)) f A hx1 (by omega)
    refine wpIn_block ?_
    refine round_region_held (S := (fun w' => w'.cell? ⟨n0, 0, none⟩ = some (.pointer (some ⟨g, 0, none⟩)) ∧ w'.cell? ⟨n0 + 1, 1, none⟩ = some (.int .i64 (k : Int)) ∧ w'.cell? ⟨n0 + 1 + 1, 0, none⟩ = some (.int .i64 A) ∧ w'.cell? ⟨g, 40, none⟩ = some (.iface M.mty (.pointer (some M.pm))))) (by kernel_rfl) (by kernel_rfl) (fun ⟨_, _, h⟩ => h) ⟨hcp, hc1, hc2, hcm⟩ (fun hHeld => ?_)
    refine take_to 1 (some 18) (v := ?_) rfl rfl (by kernel_rfl) (by kernel_rfl) (by kernel_rfl) (fun _ _ _ h => h) (Or.inl ⟨by rfl, ?_⟩) (by assumption) ?_
    rotate_left
    · intro w hSw
      (try dsimp only at hSw)
      go_simp
      with_reducible rfl
    simp only [Act.put, List.setIfInBounds_toArray, List.set_cons_zero, List.set_cons_succ]
    refine take_to 2 (some 19) (v := ?_) rfl rfl (by kernel_rfl) (by kernel_rfl) (by kernel_rfl) (fun _ _ _ h => h) (Or.inl ⟨by rfl, ?_⟩) (by assumption) ?_
    rotate_left
    · intro w hSw
      (try dsimp only at hSw)
      go_simp
      with_reducible rfl
    simp only [Act.put, List.setIfInBounds_toArray, List.set_cons_zero, List.set_cons_succ]
    refine take_to 3 (some 20) (v := ?_) rfl rfl (by kernel_rfl) (by kernel_rfl) (by kernel_rfl) (fun _ _ _ h => h) (Or.inl ⟨by rfl, ?_⟩) (by assumption) ?_
    rotate_left
    · intro w hSw
      (try dsimp only at hSw)
      go_simp
      with_reducible rfl
    simp only [Act.put, List.setIfInBounds_toArray, List.set_cons_zero, List.set_cons_succ]
    refine take_to 4 (some 21) (v := ?_) rfl rfl (by kernel_rfl) (by kernel_rfl) (by kernel_rfl) (fun _ _ _ h => h) (Or.inl ⟨by rfl, ?_⟩) (by assumption) ?_
    rotate_left
    · intro w hSw
      (try dsimp only at hSw)
      go_simp
      with_reducible rfl
    simp only [Act.put, List.setIfInBounds_toArray, List.set_cons_zero, List.set_cons_succ]
    refine take_to 5 (some 22) (v := ?_) rfl rfl (by kernel_rfl) (by kernel_rfl) (by kernel_rfl) (fun _ _ _ h => h) (Or.inl ⟨by rfl, ?_⟩) (by assumption) ?_
    rotate_left
    · intro w hSw
      (try dsimp only at hSw)
      go_simp
      with_reducible rfl
    simp only [Act.put, List.setIfInBounds_toArray, List.set_cons_zero, List.set_cons_succ]
    refine take_to 6 (some 23) (v := ?_) rfl rfl (by kernel_rfl) (by kernel_rfl) (by kernel_rfl) (fun _ _ _ h => h) (Or.inl ⟨by rfl, ?_⟩) (by assumption) ?_
    rotate_left
    · intro w hSw
      (try dsimp only at hSw)
      go_simp
      with_reducible rfl
    simp only [Act.put, List.setIfInBounds_toArray, List.set_cons_zero, List.set_cons_succ]
    refine take_to 7 (some 24) (v := ?_) rfl rfl (by kernel_rfl) (by kernel_rfl) (by kernel_rfl) (fun _ _ _ h => h) (Or.inl ⟨by rfl, ?_⟩) (by assumption) ?_
    rotate_left
    · intro w hSw
      (try dsimp only at hSw)
      go_simp
      with_reducible rfl
    simp only [Act.put, List.setIfInBounds_toArray, List.set_cons_zero, List.set_cons_succ]
    refine take_to 8 (some 25) (v := ?_) rfl rfl (by kernel_rfl) (by kernel_rfl) (by kernel_rfl) (fun _ _ _ h => h) (Or.inl ⟨by rfl, ?_⟩) (by assumption) ?_
    rotate_left
    · intro w hSw
      (try dsimp only at hSw)
      go_simp
      with_reducible rfl
    simp only [Act.put, List.setIfInBounds_toArray, List.set_cons_zero, List.set_cons_succ]
    refine take_to 9 (some 26) (v := ?_) rfl rfl (by kernel_rfl) (by kernel_rfl) (by kernel_rfl) (fun _ _ _ h => h) (Or.inl ⟨by rfl, ?_⟩) (by assumption) ?_
    rotate_left
    · intro w hSw
      (try dsimp only at hSw)
      go_simp
      with_reducible rfl
    simp only [Act.put, List.setIfInBounds_toArray, List.set_cons_zero, List.set_cons_succ]
    refine take_to 10 (some 27) (v := ?_) rfl rfl (by kernel_rfl) (by kernel_rfl) (by kernel_rfl) (fun _ _ _ h => h) (Or.inl ⟨by rfl, ?_⟩) (by assumption) ?_
    rotate_left
    · intro w hSw
      (try dsimp only at hSw)
      go_simp
      with_reducible rfl
    simp only [Act.put, List.setIfInBounds_toArray, List.set_cons_zero, List.set_cons_succ]
    refine take_to 12 (some 29) (v := ?_) rfl rfl (by kernel_rfl) (by kernel_rfl) (by kernel_rfl) (fun _ _ _ h => h) (Or.inl ⟨by rfl, ?_⟩) (by assumption) ?_
    rotate_left
    · intro w hSw
      (try dsimp only at hSw)
      go_simp
      with_reducible rfl
    simp only [Act.put, List.setIfInBounds_toArray, List.set_cons_zero, List.set_cons_succ]
    refine take_to 13 (some 30) (v := ?_) rfl rfl (by kernel_rfl) (by kernel_rfl) (by kernel_rfl) (fun _ _ _ h => h) (Or.inl ⟨by rfl, ?_⟩) (by assumption) ?_
    rotate_left
    · intro w hSw
      (try dsimp only at hSw)
      go_simp
      with_reducible rfl
    simp only [Act.put, List.setIfInBounds_toArray, List.set_cons_zero, List.set_cons_succ]
    refine take_to 14 (some 31) (v := ?_) rfl rfl (by kernel_rfl) (by kernel_rfl) (by kernel_rfl) (fun _ _ _ h => h) (Or.inl ⟨by rfl, ?_⟩) (by assumption) ?_
    rotate_left
    · intro w hSw
      (try dsimp only at hSw)
      go_simp
      with_reducible rfl
    simp only [Act.put, List.setIfInBounds_toArray, List.set_cons_zero, List.set_cons_succ]
    refine take_to 15 (some 32) (v := ?_) rfl rfl (by kernel_rfl) (by kernel_rfl) (by kernel_rfl) (fun _ _ _ h => h) (Or.inl ⟨by rfl, ?_⟩) (by assumption) ?_
    rotate_left
    · intro w hSw
      (try dsimp only at hSw)
      go_simp
      with_reducible rfl
    simp only [Act.put, List.setIfInBounds_toArray, List.set_cons_zero, List.set_cons_succ]
    refine wpAnyH_ready (rs := [0, 11]) (by kernel_rfl) (by simp) ?_
    refine AllReadyH.cons rfl (fun K hK => ?_) (AllReadyH.cons rfl (fun K hK => ?_) AllReadyH.nil)
    · go_simp
      refine hK.out _ _ (by exact ⟨hcp, hc1, hc2, hcm⟩) (fun hHeld => ?_)
      clear hK K
      try simp only [Act.put, List.setIfInBounds_toArray, List.set_cons_zero, List.set_cons_succ]
      refine wpAnyH_ready (rs := [11]) (by kernel_rfl) (by simp) ?_
      refine AllReadyH.cons rfl (fun K hK => ?_) AllReadyH.nil
      go_simp
      refine Calls.mono (HMM.out _ ?ex) ?_
      case ex => rw [IntKind.wrap_i64]; omega
      rintro e' w4 ⟨rfl, hI4, hko, hmk4, hsm, hv4⟩
      have hr0 := hI4.rows _ List.mem_cons_self
      have hr1 := hI4.rows _ (List.mem_cons_of_mem _ List.mem_cons_self)
      have hr2 := hI4.rows _ (List.mem_cons_of_mem _ (List.mem_cons_of_mem _ List.mem_cons_self))
      go_wp2_with fail
      refine hK.out _ _ (by exact ⟨by rw [OwnRow.cell hr0]; rfl, by rw [OwnRow.cell hr1]; rfl, by rw [OwnRow.cell hr2]; rfl, hI4.wok.mem⟩) (fun hHeld => ?_)
      clear hK K
      try simp only [Act.put, List.setIfInBounds_toArray, List.set_cons_zero, List.set_cons_succ]
      refine take_to 16 (some 33) (v := ?_) rfl rfl (by kernel_rfl) (by kernel_rfl) (by kernel_rfl) (fun _ _ _ h => h) (Or.inl ⟨by rfl, ?_⟩) (by assumption) ?_
      rotate_left
      · intro w hSw
        (try dsimp only at hSw)
        go_simp
        with_reducible rfl
      simp only [Act.put, List.setIfInBounds_toArray, List.set_cons_zero, List.set_cons_succ]
      refine take_to 17 (some 34) (v := ?_) rfl rfl (by kernel_rfl) (by kernel_rfl) (by kernel_rfl) (fun _ _ _ h => h) (Or.inl ⟨by rfl, ?_⟩) (by assumption) ?_
      rotate_left
      · intro w hSw
        (try dsimp only at hSw)
        go_simp
        with_reducible rfl
      simp only [Act.put, List.setIfInBounds_toArray, List.set_cons_zero, List.set_cons_succ]
      refine wpAnyH_ready (rs := [18]) (by kernel_rfl) (by simp) ?_
      refine AllReadyH.cons rfl (fun K hK => ?_) AllReadyH.nil
      have hc4 : w4.cell? ⟨n0 + 1 + 1 + 1, 0, none⟩ = some (.int .i64 u) := by rw [OwnRow.cell hv4]; rfl
      have hf4 : w4.frozen? ⟨n0 + 1 + 1 + 1, 0, none⟩ = false := OwnRow.free hv4 0
      go_simp
      obtain ⟨hI5, hv5⟩ := hI4.poke hv4 (by have := HN.out; omega) HRV.out (.int .i64 (bits .or .i64 u (IntKind.i64.wrap (numF ((vw S).B k) f (e - f) * 2 ^ min (((f - A : Nat) : Int) * 8).toNat 64))))
      have hr0 := hI5.rows _ List.mem_cons_self
      have hr1 := hI5.rows _ (List.mem_cons_of_mem _ List.mem_cons_self)
      have hr2 := hI5.rows _ (List.mem_cons_of_mem _ (List.mem_cons_of_mem _ List.mem_cons_self))
      refine hK.out _ _ (by exact ⟨by rw [OwnRow.cell hr0]; rfl, by rw [OwnRow.cell hr1]; rfl, by rw [OwnRow.cell hr2]; rfl, hI5.wok.mem⟩) (fun hHeld => ?_)
      refine wpAnyH_done (by kernel_rfl) ?_ _
      have hne : ∀ b, b ≠ n0 + 1 + 1 + 1 → (w4.setCell ⟨n0 + 1 + 1 + 1, 0, none⟩ (.int .i64 (bits .or .i64 u (IntKind.i64.wrap (numF ((vw S).B k) f (e - f) * 2 ^ min (((f - A : Nat) : Int) * 8).toNat 64))))).heap[b]? = w4.heap[b]? := fun b hb => Below.heap_setCell w4 ⟨n0 + 1 + 1 + 1, 0, none⟩ _ b (by exact hb)
      refine ⟨hko.trans (KeepsOthers.setCell _ _ _), ⟨(hne _ (by omega)).trans (hsm _ (List.mem_cons_of_mem _ (List.mem_cons_of_mem _ (List.mem_cons_of_mem _ List.mem_cons_self)))), (hne _ (by omega)).trans (hsm _ (List.mem_cons_of_mem _ (List.mem_cons_of_mem _ (List.mem_cons_of_mem _ (List.mem_cons_of_mem _ List.mem_cons_self)))))⟩, hI5, ?_⟩
      have hu := HU.out
      rw [List.map_append, List.foldl_append, ← hu]
      exact hv5
    · go_simp
      refine Calls.mono (HMM.out _ ?ex) ?_
      case ex => rw [IntKind.wrap_i64]; omega
      rintro e' w4 ⟨rfl, hI4, hko, hmk4, hsm, hv4⟩
      have hr0 := hI4.rows _ List.mem_cons_self
      have hr1 := hI4.rows _ (List.mem_cons_of_mem _ List.mem_cons_self)
      have hr2 := hI4.rows _ (List.mem_cons_of_mem _ (List.mem_cons_of_mem _ List.mem_cons_self))
      go_wp2_with fail
      refine hK.out _ _ (by exact ⟨by rw [OwnRow.cell hr0]; rfl, by rw [OwnRow.cell hr1]; rfl, by rw [OwnRow.cell hr2]; rfl, hI4.wok.mem⟩) (fun hHeld => ?_)
      clear hK K
      try simp only [Act.put, List.setIfInBounds_toArray, List.set_cons_zero, List.set_cons_succ]
      refine take_to 16 (some 33) (v := ?_) rfl rfl (by kernel_rfl) (by kernel_rfl) (by kernel_rfl) (fun _ _ _ h => h) (Or.inl ⟨by rfl, ?_⟩) (by assumption) ?_
      rotate_left
      · intro w hSw
        (try dsimp only at hSw)
        go_simp
        with_reducible rfl
      simp only [Act.put, List.setIfInBounds_toArray, List.set_cons_zero, List.set_cons_succ]
      refine wpAnyH_ready (rs := [0]) (by kernel_rfl) (by simp) ?_
      refine AllReadyH.cons rfl (fun K hK => ?_) AllReadyH.nil
      have hc4 : w4.cell? ⟨n0 + 1 + 1 + 1, 0, none⟩ = some (.int .i64 u) := by rw [OwnRow.cell hv4]; rfl
      go_simp
      clear hc4
      refine hK.out _ _ (by exact ⟨by rw [OwnRow.cell hr0]; rfl, by rw [OwnRow.cell hr1]; rfl, by rw [OwnRow.cell hr2]; rfl, hI4.wok.mem⟩) (fun hHeld => ?_)
      clear hK K
      try simp only [Act.put, List.setIfInBounds_toArray, List.set_cons_zero, List.set_cons_succ]
      refine take_to 17 (some 34) (v := ?_) rfl rfl (by kernel_rfl) (by kernel_rfl) (by kernel_rfl) (fun _ _ _ h => h) (Or.inl ⟨by rfl, ?_⟩) (by assumption) ?_
      rotate_left
      · intro w hSw
        (try dsimp only at hSw)
        go_simp
        with_reducible rfl
      simp only [Act.put, List.setIfInBounds_toArray, List.set_cons_zero, List.set_cons_succ]
      refine wpAnyH_ready (rs := [18]) (by kernel_rfl) (by simp) ?_
      refine AllReadyH.cons rfl (fun K hK => ?_) AllReadyH.nil
      have hc4 : w4.cell? ⟨n0 + 1 + 1 + 1, 0, none⟩ = some (.int .i64 u) := by rw [OwnRow.cell hv4]; rfl
      have hf4 : w4.frozen? ⟨n0 + 1 + 1 + 1, 0, none⟩ = false := OwnRow.free hv4 0
      go_simp
      obtain ⟨hI5, hv5⟩ := hI4.poke hv4 (by have := HN.out; omega) HRV.out (.int .i64 (bits .or .i64 u (IntKind.i64.wrap (numF ((vw S).B k) f (e - f) * 2 ^ min (((f - A : Nat) : Int) * 8).toNat 64))))
      have hr0 := hI5.rows _ List.mem_cons_self
      have hr1 := hI5.rows _ (List.mem_cons_of_mem _ List.mem_cons_self)
      have hr2 := hI5.rows _ (List.mem_cons_of_mem _ (List.mem_cons_of_mem _ List.mem_cons_self))
      refine hK.out _ _ (by exact ⟨by rw [OwnRow.cell hr0]; rfl, by rw [OwnRow.cell hr1]; rfl, by rw [OwnRow.cell hr2]; rfl, hI5.wok.mem⟩) (fun hHeld => ?_)
      refine wpAnyH_done (by kernel_rfl) ?_ _
      have hne : ∀ b, b ≠ n0 + 1 + 1 + 1 → (w4.setCell ⟨n0 + 1 + 1 + 1, 0, none⟩ (.int .i64 (bits .or .i64 u (IntKind.i64.wrap (numF ((vw S).B k) f (e - f) * 2 ^ min (((f - A : Nat) : Int) * 8).toNat 64))))).heap[b]? = w4.heap[b]? := fun b hb => Below.heap_setCell w4 ⟨n0 + 1 + 1 + 1, 0, none⟩ _ b (by exact hb)
      refine ⟨hko.trans (KeepsOthers.setCell _ _ _), ⟨(hne _ (by omega)).trans (hsm _ (List.mem_cons_of_mem _ (List.mem_cons_of_mem _ (List.mem_cons_of_mem _ List.mem_cons_self)))), (hne _ (by omega)).trans (hsm _ (List.mem_cons_of_mem _ (List.mem_cons_of_mem _ (List.mem_cons_of_mem _ (List.mem_cons_of_mem _ List.mem_cons_self)))))⟩, hI5, ?_⟩
      have hu := HU.out
      rw [List.map_append, List.foldl_append, ← hu]
      exact hv5
  case done =>
    rintro D xs W hD hxs hI hK
    rw [hxs, ← HS.out, HFIN.out] at hI
    have hcv : W.cell? ⟨n0 + 1 + 1 + 1, 0, none⟩ = some (.int .i64 NB) := by rw [OwnRow.cell hI.2]; rfl
    gi_wp2
    have hI2 := (LoopI.own (B0 := W0.heap.size) (α := Unit) (fun _ => Z) (fun _ => vw S) (by have := HN.out; omega)) () W _ (some D) hI.1 (grownBy_putObj' W D (.deferred none)) (fun r e => by cases e; exact ⟨hD, _, hK, rfl⟩)
    refine ⟨by simp, .inl ⟨_, _, rfl, run_takeDeferred hK, ?_⟩⟩
    exact ⟨_, results_tmp rfl _ _ _, rfl, ⟨hI2.wok, hI2.ok, hI2.rel⟩, hI2.keep⟩
  case stop =>
    rintro D c pre W _ _ h _
    exact h.elim

end Go.Proofs.Ytbiipnojhjhejaa

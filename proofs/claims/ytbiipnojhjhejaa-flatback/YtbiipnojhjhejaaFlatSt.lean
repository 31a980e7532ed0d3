/- The contract of flat.world.store: bytes of pages that are there, page by page. -/
import Derived.Test.YtbiipnojhjhejaaJFloop
namespace Go.Proofs.Ytbiipnojhjhejaa
set_option maxRecDepth 100000
open Go.RowKit
set_option linter.unusedSimpArgs false
set_option linter.unusedVariables false

/-- What memory is, behind a piece that was stored; and how it is seen. -/
def stS {σ : Type} (M : Mem σ) (k A : Nat) (v : Int) (s : σ) (x : Nat × Nat) : σ := M.sStore s k x.1 (x.2 - x.1) (v / 256 ^ (x.1 - A))
def stV (k A : Nat) (v : Int) (V : MV) (x : Nat × Nat) : MV := V.store k x.1 (x.2 - x.1) (v / 256 ^ (x.1 - A))
def stoS {σ : Type} (M : Mem σ) (s : σ) (k : Nat) (o : O12) : σ := (segs 65 (tF o) (tT o)).foldl (stS M k (tF o) o.value) s

theorem stV_keep (k A : Nat) (v : Int) : ∀ (l : List (Nat × Nat)) (V : MV), VG V → VG (l.foldl (stV k A v) V) ∧ (l.foldl (stV k A v) V).lv = V.lv ∧ (l.foldl (stV k A v) V).P = V.P
  | [], V, h => ⟨h, rfl, rfl⟩
  | x :: r, V, h => stV_keep k A v r (stV k A v V x) (h.store _ _ _ _)

theorem byteK_div (v : Int) (m i : Nat) : byteK (v / 256 ^ m) i = byteK v (m + i) := by
  unfold byteK
  rw [Int.pow_add, Int.ediv_ediv_of_nonneg (Int.le_of_lt (Int.pow_pos (by decide)))]

theorem stV_segs (k A : Nat) (v : Int) (V : MV) : ∀ (n f t : Nat), A ≤ f → f ≤ t → (f < t → t ≤ f / 64 * 64 + n * 64) → (segs n f t).foldl (stV k A v) V = V.store k f (t - f) (v / 256 ^ (f - A))
  | 0, f, t, hA, hle, hn => by
    have : t = f := by omega
    subst this
    rw [segs, Nat.sub_self, store_none]
    rfl
  | n + 1, f, t, hA, hle, hn => by
    rw [segs]
    by_cases h : f < t
    · rw [if_pos h]
      obtain ⟨e, he⟩ : ∃ e, e = min t ((f / 64 + 1) * 64) := ⟨_, rfl⟩
      rw [← he]
      have hfe : f < e ∧ e ≤ t := by omega
      have key : ∀ (V : MV), (segs n e t).foldl (stV k A v) V = V.store k e (t - e) (v / 256 ^ (e - A)) := fun V => stV_segs k A v V n e t (by omega) hfe.2 (by omega)
      rw [List.foldl_cons, key]
      unfold stV
      have h1 := store_next V k f (e - f) (t - e) (v / 256 ^ (f - A)) (v / 256 ^ (e - A)) (fun i hi => by rw [byteK_div, byteK_div, show e - A + i = f - A + (e - f + i) by omega])
      rw [show f + (e - f) = e by omega, show (e - f) + (t - e) = t - f by omega] at h1
      exact h1
    · rw [if_neg h]
      have : t = f := by omega
      subst this
      rw [Nat.sub_self, store_none]
      rfl

theorem pow_8 (m : Nat) (h : m ≤ 4) : (2 : Int) ^ min (((m : Nat) : Int) * 8).toNat 64 = 256 ^ m := by
  have : m = 0 ∨ m = 1 ∨ m = 2 ∨ m = 3 ∨ m = 4 := by omega
  rcases this with rfl | rfl | rfl | rfl | rfl <;> rfl

theorem wrap_8 (f A : Nat) (h : A ≤ f) (h4 : f ≤ A + 4) : IntKind.i64.wrap (8 * IntKind.i64.wrap ((f : Int) - (A : Int))) = ((f - A : Nat) : Int) * 8 := by
  rw [show IntKind.i64.wrap ((f : Int) - (A : Int)) = ((f - A : Nat) : Int) by rw [IntKind.wrap_i64]; omega, IntKind.wrap_i64]
  omega

theorem shr_8 (v : Int) (f A : Nat) (h : A ≤ f) (h4 : f ≤ A + 4) (w : World) : (Op.shift BinOp.shr IntKind.i64 v IntKind.i64 (IntKind.i64.wrap (8 * IntKind.i64.wrap ((f : Int) - (A : Int))))).run Try.prog w = .ok (.int .i64 (v / 256 ^ (f - A))) w := by
  rw [wrap_8 f A h h4, shift_shr_any _ _ _ _ (by omega), show IntKind.i64.bits = 64 from rfl, pow_8 _ (by omega)]
  rfl

/-- Five variables laid ahead of a loop. -/
theorem boxes5 (w : World) (o1 o2 o3 o4 o5 : Obj) : ∃ W, ((((w.alloc o1).alloc o2).alloc o3).alloc o4).alloc o5 = W ∧ W.heap[w.heap.size]? = some o1 ∧ W.heap[w.heap.size + 1]? = some o2 ∧ W.heap[w.heap.size + 1 + 1]? = some o3 ∧ W.heap[w.heap.size + 1 + 1 + 1]? = some o4 ∧ W.heap[w.heap.size + 1 + 1 + 1 + 1]? = some o5 ∧ Below w.heap.size w W ∧ W.heap.size = w.heap.size + 5 := by
  obtain ⟨W, hW, h1, h2, h3, h4, hb, hs⟩ := boxes4 w o1 o2 o3 o4
  rw [hW]
  refine ⟨_, rfl, (Below.heap_alloc _ _ _ (by omega)).trans h1, (Below.heap_alloc _ _ _ (by omega)).trans h2, (Below.heap_alloc _ _ _ (by omega)).trans h3, (Below.heap_alloc _ _ _ (by omega)).trans h4, ?_, hb.alloc hb.size _, by simp [hs]⟩
  have := World.alloc_heap_new W o5
  rwa [hs] at this

set_option maxHeartbeats 3200000 in
theorem store_any {σ : Type} (M : Mem σ) (base g : Nat) (S : W4) (s : σ) (k : Nat) (hk : k < 4) (hlk : (S k).live = true) (o : O12) (hp : o.proc = k) (hle : tF o < tT o) (h4 : tT o ≤ tF o + 4) (hT2 : tT o ≤ 4096)
    (hpg : ∀ a, tF o ≤ a → a < tT o → (atR (S k).L ((a / 64 : Nat) : Int)).isSome = true) (w : World) (h : WM M base g w S s) (hi : Inv S) :
    Calls Try.prog 44 #[.pointer (some ⟨g, 0, none⟩), opV o, .int .i64 (tF o), .int .i64 (tT o)] w fun e w' => (∃ v, e = .returned v) ∧ WM M base g w' (upd S k (storB (S k) o)) (stoS M s k o) ∧ MKg M g w w' := by
  have hg := h.wok.glt
  have HFIN : Hid ((segs 65 (tF o) (tT o)).foldl (stV k (tF o) o.value) (vw S) = vw (upd S k (storB (S k) o))) := by
    show _ = _
    rw [stV_segs k (tF o) o.value (vw S) 65 (tF o) (tT o) (Nat.le_refl _) (by omega) (by omega), Nat.sub_self, Int.pow_zero, Int.ediv_one]
    rw [← vw_store S hk (tF o) (tT o - tF o) o.value (fun x h1 h2 => hpg x h1 (by omega))]
    refine congrArg (fun B => vw (upd S k ({ S k with B := B } : Pr))) (funext fun x => ?_)
    by_cases hx : tF o ≤ x ∧ x < tT o
    · rw [if_pos hx, if_pos (by omega)]
    · rw [if_neg hx, if_neg (by omega)]
  have HS : Hid (stoS M s k o = (segs 65 (tF o) (tT o)).foldl (stS M k (tF o) o.value) s) := rfl
  generalize stoS M s k o = Z at *
  obtain ⟨A, hA⟩ : ∃ A, A = tF o := ⟨_, rfl⟩
  obtain ⟨B, hB⟩ : ∃ B, B = tT o := ⟨_, rfl⟩
  rw [← hA] at hle hpg HFIN HS h4
  rw [← hB] at hle hT2 hpg HFIN HS h4
  rw [← hA, ← hB]
  have HW : Hid (∀ w1, WOK M.mv base g w1 S → WOK M.mv base g w1 (upd S k (storB (S k) o))) := fun w1 hw => hw.alike (fun i => by
    by_cases hik : i = k
    · subst hik; rw [upd_at]; exact ⟨rfl, rfl, rfl⟩
    · rw [upd_ne hik]; exact ⟨rfl, rfl, rfl⟩)
  generalize upd S k (storB (S k) o) = S' at *
  clear hA hB
  obtain ⟨kind, proc, page, count, rights, key, tagged, draw, addr, size, value, tag⟩ := o
  simp only at hp HFIN HS ⊢
  subst hp
  refine (callsIn_wide (n := 3)).1 ?_
  refine callsIn_of_wp_marks Try.func44 rfl trivial ?_ rfl
  simp only [Try.ntmps44, List.size_toArray, List.length_cons, List.length_nil, Nat.reduceAdd, Nat.reduceSub, Array.replicate_succ, Array.replicate_zero, List.push_toArray, List.append_toArray, List.nil_append, List.cons_append]
  gi_wp2_with (refine ⟨trivial, ?_⟩; gi_at_call 54; refine (callsIn_wide.2 (byPage_any _ _ _)).mono ?_; rintro e w1 ⟨rfl, rfl⟩)
  obtain ⟨W0, hW0, hbw, hbo, hbx, hbf, hbt, hbel, hsz⟩ := boxes5 w (.cells #[.pointer (some ⟨g, 0, none⟩)] 72) (.cells #[.int .i64 kind, .int .i64 (k : Int), .int .i64 page, .int .i64 count, .int .i64 rights, .int .i64 key, .bool tagged, .int .i64 draw, .int .i64 addr, .int .i64 size, .int .i64 value, .int .i64 tag] 24) (.cells #[.int .i64 A] 3) (.cells #[.int .i64 A] 3) (.cells #[.int .i64 B] 3)
  rw [hW0]
  obtain ⟨n0, hn0⟩ : ∃ n0, n0 = w.heap.size := ⟨_, rfl⟩
  have hwm := h.below hbel
  clear hW0
  rw [← hn0] at hbw hbo hbx hsz hbf hbt ⊢
  have HRS : Hid (∀ r ∈ ([(n0, 72, [.pointer (some ⟨g, 0, none⟩)]), (n0 + 1, 24, [.int .i64 kind, .int .i64 (k : Int), .int .i64 page, .int .i64 count, .int .i64 rights, .int .i64 key, .bool tagged, .int .i64 draw, .int .i64 addr, .int .i64 size, .int .i64 value, .int .i64 tag]), (n0 + 1 + 1, 3, [.int .i64 A]), (n0 + 1 + 1 + 1, 3, [.int .i64 A]), (n0 + 1 + 1 + 1 + 1, 3, [.int .i64 B])] : List (Nat × TypeId × List Value)), OwnRow W0 r.1 r.2.1 r.2.2) := by
    intro r hr
    simp only [List.mem_cons, List.not_mem_nil, or_false] at hr
    rcases hr with rfl | rfl | rfl | rfl | rfl
    · exact hbw
    · exact hbo
    · exact hbx
    · exact hbf
    · exact hbt
  have HN : Hid (n0 = w.heap.size) := hn0
  have hgn : g < n0 := by omega
  clear hn0
  have HRG : Hid (∀ r ∈ ([(n0, 72, [.pointer (some ⟨g, 0, none⟩)]), (n0 + 1, 24, [.int .i64 kind, .int .i64 (k : Int), .int .i64 page, .int .i64 count, .int .i64 rights, .int .i64 key, .bool tagged, .int .i64 draw, .int .i64 addr, .int .i64 size, .int .i64 value, .int .i64 tag]), (n0 + 1 + 1, 3, [.int .i64 A]), (n0 + 1 + 1 + 1, 3, [.int .i64 A]), (n0 + 1 + 1 + 1 + 1, 3, [.int .i64 B])] : List (Nat × TypeId × List Value)), r.1 ≠ g ∧ M.wr r.2.1 = false) := by
    intro r hr
    simp only [List.mem_cons, List.not_mem_nil, or_false] at hr
    rcases hr with rfl | rfl | rfl | rfl | rfl
    · exact ⟨Nat.ne_of_gt hgn, M.hwr.2.2.2.2.2.2⟩
    · exact ⟨by show n0 + 1 ≠ g; omega, M.hwr.2.2.1⟩
    · exact ⟨by show n0 + 1 + 1 ≠ g; omega, M.hwr.2.2.2.2.1⟩
    · exact ⟨by show n0 + 1 + 1 + 1 ≠ g; omega, M.hwr.2.2.2.2.1⟩
    · exact ⟨by show n0 + 1 + 1 + 1 + 1 ≠ g; omega, M.hwr.2.2.2.2.1⟩
  refine wpIn_rangeFunc_ownF (F := Fence.wide) (n := 3) rfl (by decide) (gf := 72) (lb := #[.pointer (some ⟨n0 + 1 + 1 + 1, 0, none⟩), .pointer (some ⟨n0 + 1 + 1 + 1 + 1, 0, none⟩)]) rfl trivial (enters_of Try.func72 (by kernel_rfl) rfl)
    (byPage_stops A B hT2 (n0 + 1 + 1 + 1) (n0 + 1 + 1 + 1 + 1) W0 (by rw [OwnRow.cell (HRS.out _ (List.mem_cons_of_mem _ (List.mem_cons_of_mem _ (List.mem_cons_of_mem _ List.mem_cons_self))))]; rfl) (by rw [OwnRow.cell (HRS.out _ (List.mem_cons_of_mem _ (List.mem_cons_of_mem _ (List.mem_cons_of_mem _ (List.mem_cons_of_mem _ List.mem_cons_self)))))]; rfl) _)
    (fun h k => ⟨k.1.trans h.1, k.2.trans h.2⟩) (fun W l o o' hl _ _ _ => ⟨World.putObj_heap_other (by omega), World.putObj_heap_other (by omega)⟩) (Below.refl _ _) (fun _ => rfl)
    (fun pre W => LoopI M base g S w [(n0, 72, [.pointer (some ⟨g, 0, none⟩)]), (n0 + 1, 24, [.int .i64 kind, .int .i64 (k : Int), .int .i64 page, .int .i64 count, .int .i64 rights, .int .i64 key, .bool tagged, .int .i64 draw, .int .i64 addr, .int .i64 size, .int .i64 value, .int .i64 tag]), (n0 + 1 + 1, 3, [.int .i64 A]), (n0 + 1 + 1 + 1, 3, [.int .i64 A]), (n0 + 1 + 1 + 1 + 1, 3, [.int .i64 B])] ((pre.map (·.1)).foldl (stS M k A value) s) ((pre.map (·.1)).foldl (stV k A value) (vw S)) W) (fun _ _ _ => False)
    (LoopI.own (fun (pre : List (Seg A B)) => (pre.map (·.1)).foldl (stS M k A value) s) (fun (pre : List (Seg A B)) => (pre.map (·.1)).foldl (stV k A value) (vw S)) (by have := HN.out; omega)) (fun _ _ _ _ _ hs _ _ => hs)
    ⟨hwm.wok, hwm.ok, hwm.rel, MKg.of_below hbel, HRS.out⟩
    (fun x => { tmps := #[.pointer (some ⟨g, 0, none⟩), opV { kind := kind, proc := k, page := page, count := count, rights := rights, key := key, tagged := tagged, draw := draw, addr := addr, size := size, value := value, tag := tag }, .int .i64 A, .int .i64 B, .pointer (some ⟨n0, 0, none⟩), .pointer (some ⟨n0 + 1, 0, none⟩), .pointer (some ⟨n0 + 1 + 1, 0, none⟩), undef, .int .i64 (x.1.1 : Int), .int .i64 (x.1.2 : Int), .int .i64 A, .int .i64 B,
      .func (.func 72) #[] #[.pointer (some ⟨n0 + 1 + 1 + 1, 0, none⟩), .pointer (some ⟨n0 + 1 + 1 + 1 + 1, 0, none⟩)], .int .i64 (x.1.1 : Int), .int .i64 (x.1.2 : Int), undef, undef, undef, undef, undef, undef, undef, undef, undef, undef, undef, undef, undef, undef, undef, undef, undef, undef, undef, undef], defers := [] }) ?assign ?body ?done ?stop
  case assign =>
    intro l x W K hK
    unfold encG
    gi_wp2_with (rw [Oper.semAt_eq _ _ _ (fun c h => by cases h)]; go_simp; try go_bits)
    exact hK
  case body =>
    rintro l pre ⟨⟨f, e⟩, hx1, hx2, hx3, hx4, hx5, hx6⟩ W hI _
    dsimp only
    have hr0 := hI.rows _ List.mem_cons_self
    have hr1 := hI.rows _ (List.mem_cons_of_mem _ List.mem_cons_self)
    have hcp : W.cell? ⟨n0, 0, none⟩ = some (.pointer (some ⟨g, 0, none⟩)) := by rw [OwnRow.cell hr0]; rfl
    have hc1 : W.cell? ⟨n0 + 1, 1, none⟩ = some (.int .i64 (k : Int)) := by rw [OwnRow.cell hr1]; rfl
    have hc11 : W.cell? ⟨n0 + 1, 10, none⟩ = some (.int .i64 value) := by rw [OwnRow.cell hr1]; rfl
    have hr2 := hI.rows _ (List.mem_cons_of_mem _ (List.mem_cons_of_mem _ List.mem_cons_self))
    have hc2 : W.cell? ⟨n0 + 1 + 1, 0, none⟩ = some (.int .i64 A) := by rw [OwnRow.cell hr2]; rfl
    clear hr0 hr1 hr2
    have hcm := hI.wok.mem
    have hm := fun w => (M.hm w).2.2.2.2.2.1
    have hcf := fun args w => (M.hf args w).2.2.2.2.2.1
    have HMM : Hid (∀ z u, z = ((e - f : Nat) : Int) → u = value / 256 ^ (f - A) → Calls Try.prog M.fStore #[.pointer (some M.pm), .int .i64 k, .int .i64 f, .int .i64 z, .int .i64 u] W.drew fun e' w' => (∃ v, e' = .returned v) ∧ LoopI M base g S w [(n0, 72, [.pointer (some ⟨g, 0, none⟩)]), (n0 + 1, 24, [.int .i64 kind, .int .i64 (k : Int), .int .i64 page, .int .i64 count, .int .i64 rights, .int .i64 key, .bool tagged, .int .i64 draw, .int .i64 addr, .int .i64 size, .int .i64 value, .int .i64 tag]), (n0 + 1 + 1, 3, [.int .i64 A]), (n0 + 1 + 1 + 1, 3, [.int .i64 A]), (n0 + 1 + 1 + 1 + 1, 3, [.int .i64 B])] (((pre ++ [(⟨(f, e), hx1, hx2, hx3, hx4, hx5, hx6⟩ : Seg A B)]).map (·.1)).foldl (stS M k A value) s) (((pre ++ [(⟨(f, e), hx1, hx2, hx3, hx4, hx5, hx6⟩ : Seg A B)]).map (·.1)).foldl (stV k A value) (vw S)) w' ∧ KeepsOthers W w' ∧ MKg M g W w' ∧ ∀ r ∈ ([(n0, 72, [.pointer (some ⟨g, 0, none⟩)]), (n0 + 1, 24, [.int .i64 kind, .int .i64 (k : Int), .int .i64 page, .int .i64 count, .int .i64 rights, .int .i64 key, .bool tagged, .int .i64 draw, .int .i64 addr, .int .i64 size, .int .i64 value, .int .i64 tag]), (n0 + 1 + 1, 3, [.int .i64 A]), (n0 + 1 + 1 + 1, 3, [.int .i64 A]), (n0 + 1 + 1 + 1 + 1, 3, [.int .i64 B])] : List (Nat × TypeId × List Value)), w'.heap[r.1]? = W.heap[r.1]?) := fun z u hz hu => by
      subst hz; subst hu
      obtain ⟨v1, v2, v3⟩ := stV_keep k A value (pre.map (·.1)) (vw S) (vw_good hi)
      have hp1 := hpg f hx1 (by omega)
      obtain ⟨r1, r2⟩ := M.store (k := k) (a := f) (n := e - f) (v := value / 256 ^ (f - A)) (w := W.drew) (M.below hI.ok (Below.refl _ _).drew) hI.rel v1 hk (by rw [v2]; simp [vw, hk, hlk]) (by omega) (by omega) (by omega) (by omega) (by rw [v3]; simp only [vw, hk, hp1]; rfl)
      refine r2.mono ?_
      rintro e' w' ⟨hv, hok, hmk⟩
      refine ⟨hv, ?_⟩
      rw [List.map_append, List.foldl_append, List.foldl_append]
      exact hI.step HRG.out hok r1 hmk
    have hsh := shr_8 value f A hx1 (by omega)
    refine wpIn_block ?_
    refine round_region_held (S := (fun w' => w'.cell? ⟨n0, 0, none⟩ = some (.pointer (some ⟨g, 0, none⟩)) ∧ w'.cell? ⟨n0 + 1, 1, none⟩ = some (.int .i64 (k : Int)) ∧ w'.cell? ⟨n0 + 1, 10, none⟩ = some (.int .i64 value) ∧ w'.cell? ⟨n0 + 1 + 1, 0, none⟩ = some (.int .i64 A) ∧ w'.cell? ⟨g, 40, none⟩ = some (.iface M.mty (.pointer (some M.pm))))) (by kernel_rfl) (by kernel_rfl) (fun ⟨_, _, h⟩ => h) ⟨hcp, hc1, hc11, hc2, hcm⟩ (fun hHeld => ?_)
    refine take_to 0 (some 15) (v := ?_) rfl rfl (by kernel_rfl) (by kernel_rfl) (by kernel_rfl) (fun _ _ _ h => h) (Or.inl ⟨by rfl, ?_⟩) (by assumption) ?_
    rotate_left
    · intro w hSw
      (try dsimp only at hSw)
      go_simp
      with_reducible rfl
    simp only [Act.put, List.setIfInBounds_toArray, List.set_cons_zero, List.set_cons_succ]
    refine take_to 1 (some 16) (v := ?_) rfl rfl (by kernel_rfl) (by kernel_rfl) (by kernel_rfl) (fun _ _ _ h => h) (Or.inl ⟨by rfl, ?_⟩) (by assumption) ?_
    rotate_left
    · intro w hSw
      (try dsimp only at hSw)
      go_simp
      with_reducible rfl
    simp only [Act.put, List.setIfInBounds_toArray, List.set_cons_zero, List.set_cons_succ]
    refine take_to 2 (some 17) (v := ?_) rfl rfl (by kernel_rfl) (by kernel_rfl) (by kernel_rfl) (fun _ _ _ h => h) (Or.inl ⟨by rfl, ?_⟩) (by assumption) ?_
    rotate_left
    · intro w hSw
      (try dsimp only at hSw)
      go_simp
      with_reducible rfl
    simp only [Act.put, List.setIfInBounds_toArray, List.set_cons_zero, List.set_cons_succ]
    refine take_to 3 (some 18) (v := ?_) rfl rfl (by kernel_rfl) (by kernel_rfl) (by kernel_rfl) (fun _ _ _ h => h) (Or.inl ⟨by rfl, ?_⟩) (by assumption) ?_
    rotate_left
    · intro w hSw
      (try dsimp only at hSw)
      go_simp
      with_reducible rfl
    simp only [Act.put, List.setIfInBounds_toArray, List.set_cons_zero, List.set_cons_succ]
    refine take_to 4 (some 19) (v := ?_) rfl rfl (by kernel_rfl) (by kernel_rfl) (by kernel_rfl) (fun _ _ _ h => h) (Or.inl ⟨by rfl, ?_⟩) (by assumption) ?_
    rotate_left
    · intro w hSw
      (try dsimp only at hSw)
      go_simp
      with_reducible rfl
    simp only [Act.put, List.setIfInBounds_toArray, List.set_cons_zero, List.set_cons_succ]
    refine take_to 5 (some 20) (v := ?_) rfl rfl (by kernel_rfl) (by kernel_rfl) (by kernel_rfl) (fun _ _ _ h => h) (Or.inl ⟨by rfl, ?_⟩) (by assumption) ?_
    rotate_left
    · intro w hSw
      (try dsimp only at hSw)
      go_simp
      with_reducible rfl
    simp only [Act.put, List.setIfInBounds_toArray, List.set_cons_zero, List.set_cons_succ]
    refine take_to 6 (some 21) (v := ?_) rfl rfl (by kernel_rfl) (by kernel_rfl) (by kernel_rfl) (fun _ _ _ h => h) (Or.inl ⟨by rfl, ?_⟩) (by assumption) ?_
    rotate_left
    · intro w hSw
      (try dsimp only at hSw)
      go_simp
      with_reducible rfl
    simp only [Act.put, List.setIfInBounds_toArray, List.set_cons_zero, List.set_cons_succ]
    refine take_to 7 (some 22) (v := ?_) rfl rfl (by kernel_rfl) (by kernel_rfl) (by kernel_rfl) (fun _ _ _ h => h) (Or.inl ⟨by rfl, ?_⟩) (by assumption) ?_
    rotate_left
    · intro w hSw
      (try dsimp only at hSw)
      go_simp
      with_reducible rfl
    simp only [Act.put, List.setIfInBounds_toArray, List.set_cons_zero, List.set_cons_succ]
    refine take_to 8 (some 23) (v := ?_) rfl rfl (by kernel_rfl) (by kernel_rfl) (by kernel_rfl) (fun _ _ _ h => h) (Or.inl ⟨by rfl, ?_⟩) (by assumption) ?_
    rotate_left
    · intro w hSw
      (try dsimp only at hSw)
      go_simp
      with_reducible rfl
    simp only [Act.put, List.setIfInBounds_toArray, List.set_cons_zero, List.set_cons_succ]
    refine take_to 9 (some 24) (v := ?_) rfl rfl (by kernel_rfl) (by kernel_rfl) (by kernel_rfl) (fun _ _ _ h => h) (Or.inl ⟨by rfl, ?_⟩) (by assumption) ?_
    rotate_left
    · intro w hSw
      (try dsimp only at hSw)
      go_simp
      with_reducible rfl
    simp only [Act.put, List.setIfInBounds_toArray, List.set_cons_zero, List.set_cons_succ]
    refine take_to 10 (some 25) (v := ?_) rfl rfl (by kernel_rfl) (by kernel_rfl) (by kernel_rfl) (fun _ _ _ h => h) (Or.inl ⟨by rfl, ?_⟩) (by assumption) ?_
    rotate_left
    · intro w hSw
      (try dsimp only at hSw)
      go_simp
      with_reducible rfl
    simp only [Act.put, List.setIfInBounds_toArray, List.set_cons_zero, List.set_cons_succ]
    refine take_to 11 (some 26) (v := ?_) rfl rfl (by kernel_rfl) (by kernel_rfl) (by kernel_rfl) (fun _ _ _ h => h) (Or.inl ⟨by rfl, ?_⟩) (by assumption) ?_
    rotate_left
    · intro w hSw
      (try dsimp only at hSw)
      go_simp
      with_reducible rfl
    simp only [Act.put, List.setIfInBounds_toArray, List.set_cons_zero, List.set_cons_succ]
    refine take_to 12 (some 27) (v := ?_) rfl rfl (by kernel_rfl) (by kernel_rfl) (by kernel_rfl) (fun _ _ _ h => h) (Or.inl ⟨by rfl, ?_⟩) (by assumption) ?_
    rotate_left
    · intro w hSw
      (try dsimp only at hSw)
      go_simp
      with_reducible rfl
    simp only [Act.put, List.setIfInBounds_toArray, List.set_cons_zero, List.set_cons_succ]
    refine take_to 13 (some 28) (v := ?_) rfl rfl (by kernel_rfl) (by kernel_rfl) (by kernel_rfl) (fun _ _ _ h => h) (Or.inl ⟨by rfl, ?_⟩) (by assumption) ?_
    rotate_left
    · intro w hSw
      (try dsimp only at hSw)
      go_simp
      with_reducible rfl
    simp only [Act.put, List.setIfInBounds_toArray, List.set_cons_zero, List.set_cons_succ]
    refine take_to 14 (some 29) (v := ?_) rfl rfl (by kernel_rfl) (by kernel_rfl) (by kernel_rfl) (fun _ _ _ h => h) (Or.inl ⟨by rfl, ?_⟩) (by assumption) ?_
    rotate_left
    · intro w hSw
      (try dsimp only at hSw)
      go_simp
      with_reducible rfl
    simp only [Act.put, List.setIfInBounds_toArray, List.set_cons_zero, List.set_cons_succ]
    refine take_to 15 (some 30) (v := ?_) rfl rfl (by kernel_rfl) (by kernel_rfl) (by kernel_rfl) (fun _ _ _ h => h) (Or.inl ⟨by rfl, ?_⟩) (by assumption) ?_
    rotate_left
    · intro w hSw
      (try dsimp only at hSw)
      go_simp
      with_reducible rfl
    simp only [Act.put, List.setIfInBounds_toArray, List.set_cons_zero, List.set_cons_succ]
    refine take_to 16 (some 31) (v := ?_) rfl rfl (by kernel_rfl) (by kernel_rfl) (by kernel_rfl) (fun _ _ _ h => h) (Or.inl ⟨by rfl, ?_⟩) (by assumption) ?_
    rotate_left
    · intro w hSw
      (try dsimp only at hSw)
      go_simp
      with_reducible rfl
    simp only [Act.put, List.setIfInBounds_toArray, List.set_cons_zero, List.set_cons_succ]
    refine take_to 17 (some 32) (v := ?_) rfl rfl (by kernel_rfl) (by kernel_rfl) (by kernel_rfl) (fun _ _ _ h => h) (Or.inl ⟨by rfl, ?_⟩) (by assumption) ?_
    rotate_left
    · intro w hSw
      (try dsimp only at hSw)
      go_simp
      with_reducible rfl
    simp only [Act.put, List.setIfInBounds_toArray, List.set_cons_zero, List.set_cons_succ]
    refine take_to 18 (some 33) (v := ?_) rfl rfl (by kernel_rfl) (by kernel_rfl) (by kernel_rfl) (fun _ _ _ h => h) (Or.inl ⟨by rfl, ?_⟩) (by assumption) ?_
    rotate_left
    · intro w hSw
      (try dsimp only at hSw)
      go_simp
      with_reducible rfl
    simp only [Act.put, List.setIfInBounds_toArray, List.set_cons_zero, List.set_cons_succ]
    refine wpAnyH_ready (rs := [19]) (by kernel_rfl) (by simp) ?_
    refine AllReadyH.cons rfl (fun K hK => ?_) AllReadyH.nil
    go_simp
    refine Calls.mono (HMM.out _ _ ?ex ?ez) ?_
    case ex => rw [IntKind.wrap_i64]; omega
    case ez => rfl
    rintro e' w4 ⟨⟨v, rfl⟩, hI4, hko, hmk4, hsm⟩
    have hr0 := hI4.rows _ List.mem_cons_self
    have hr1 := hI4.rows _ (List.mem_cons_of_mem _ List.mem_cons_self)
    have hr2 := hI4.rows _ (List.mem_cons_of_mem _ (List.mem_cons_of_mem _ List.mem_cons_self))
    go_wp2_with fail
    refine hK.out _ _ (by exact ⟨by rw [OwnRow.cell hr0]; rfl, by rw [OwnRow.cell hr1]; rfl, by rw [OwnRow.cell hr1]; rfl, by rw [OwnRow.cell hr2]; rfl, hI4.wok.mem⟩) (fun hHeld => ?_)
    clear hK K
    try simp only [Act.put, List.setIfInBounds_toArray, List.set_cons_zero, List.set_cons_succ]
    refine wpAnyH_done (by kernel_rfl) ?_ _
    exact ⟨hko, ⟨hsm _ (List.mem_cons_of_mem _ (List.mem_cons_of_mem _ (List.mem_cons_of_mem _ List.mem_cons_self))), hsm _ (List.mem_cons_of_mem _ (List.mem_cons_of_mem _ (List.mem_cons_of_mem _ (List.mem_cons_of_mem _ List.mem_cons_self))))⟩, hI4⟩
  case done =>
    rintro D xs W hD hxs hI hK
    gi_wp2
    refine ⟨by simp, .inl ⟨_, _, rfl, run_takeDeferred hK, ?_⟩⟩
    have hN := HN.out
    rw [hxs, HFIN.out, ← HS.out] at hI
    have hI2 := (LoopI.own (B0 := W0.heap.size) (α := Unit) (fun _ => Z) (fun _ => vw S') (by omega)) () W _ (some D) hI (grownBy_putObj' W D (.deferred none)) (fun r e => by cases e; exact ⟨hD, _, hK, rfl⟩)
    exact ⟨_, results_none rfl _ _ _, ⟨_, rfl⟩, ⟨HW.out _ hI2.wok, hI2.ok, hI2.rel⟩, hI2.keep⟩
  case stop =>
    rintro D c pre W _ _ h _
    exact h.elim

end Go.Proofs.Ytbiipnojhjhejaa

/- The contracts of flat.process.pageFault and fault: the fault of a page, the first fault of all. -/
import Derived.Test.YtlhmfbkpmfofiaiFlat8
namespace Go.Proofs.Ytlhmfbkpmfofiai
set_option maxRecDepth 100000
open Go.RowKit
set_option linter.unusedSimpArgs false
set_option linter.unusedVariables false

theorem wf_small {x : Int} (h0 : 0 ≤ x) (h1 : x ≤ 15) : (Lit.int .i64 x).wf = true := by
  have : x = 0 ∨ x = 1 ∨ x = 2 ∨ x = 3 ∨ x = 4 ∨ x = 5 ∨ x = 6 ∨ x = 7 ∨ x = 8 ∨ x = 9 ∨ x = 10 ∨ x = 11 ∨ x = 12 ∨ x = 13 ∨ x = 14 ∨ x = 15 := by omega
  rcases this with rfl | rfl | rfl | rfl | rfl | rfl | rfl | rfl | rfl | rfl | rfl | rfl | rfl | rfl | rfl | rfl <;> decide

theorem bound_le (f t : Nat) (hft : f < t) (ht : t ≤ 4096) : f / 16 + ((t - 1) / 16 + 1 - f / 16) ≤ 256 ∧ 0 < (t - 1) / 16 + 1 - f / 16 := by
  have q1 : f / 16 ≤ (t - 1) / 16 := Nat.div_le_div_right (by omega)
  have q2 : (t - 1) / 16 < 256 := by clear q1; omega
  generalize f / 16 = a at *
  generalize (t - 1) / 16 = b at *
  omega

theorem bound_eq (f t : Nat) (hft : f < t) (ht : t ≤ 4096) : IntKind.i64.wrap (IntKind.i64.wrap ((IntKind.i64.wrap ((t : Int) - 1)).tdiv 16) + 1) = ((f / 16 + ((t - 1) / 16 + 1 - f / 16) : Nat) : Int) := by
  have q1 : f / 16 ≤ (t - 1) / 16 := Nat.div_le_div_right (by omega)
  have q2 : (t - 1) / 16 < 256 := by clear q1; omega
  have q3 : IntKind.i64.wrap ((t : Int) - 1) = ((t - 1 : Nat) : Int) := by clear q1 q2; rw [IntKind.wrap_i64]; omega
  have q4 : ((t - 1 : Nat) : Int).tdiv 16 = (((t - 1) / 16 : Nat) : Int) := by rw [Int.tdiv_eq_ediv_of_nonneg (by omega)]; rfl
  rw [q3, q4]
  clear q3 q4
  generalize f / 16 = a at *
  generalize (t - 1) / 16 = b at *
  have q5 : IntKind.i64.wrap (b : Int) = b := by rw [IntKind.wrap_i64]; omega
  rw [q5, IntKind.wrap_i64]
  omega

theorem tgs_len (p : Pr) (f n : Nat) : (tgs p f n).length = n := by simp [tgs]

theorem tgs_get (p : Pr) (f n i : Nat) (hi : i < n) : (tgs p f n).getD i 0 = p.T (f + i) := by
  unfold tgs
  rw [List.getD_eq_getElem?_getD, List.getElem?_map, List.getElem?_range hi]
  rfl

/-- Tags of a process as a slice of ints. -/
theorem WOK.ints {base g : Nat} {w : World} {S : W4} (h : WOK base g w S) (hi : Inv S) {k : Nat} (hk : k < 4) {f n : Nat} (hn : f + n ≤ 256) (c : Nat) (hc : n ≤ c) : IsInts w (.slice (some ⟨g, k * 4362 + 4106 + f, none⟩) n c) (tgs (S k) f n) := by
  refine ⟨_, c, by rw [tgs_len], by rw [tgs_len]; exact hc, by rw [tgs_len]; omega, fun x hx => ?_, fun _ => ⟨g, _, rfl, fun i hi' => ?_⟩⟩
  · unfold tgs at hx
    obtain ⟨i, -, rfl⟩ := List.mem_map.1 hx
    have := (hi.1 k).tag (f + i)
    exact wf_small this.1 this.2
  · rw [tgs_len] at hi'
    rw [tgs_get _ _ _ _ hi', Nat.add_assoc]
    exact h.tag hk (by omega)

theorem tgK_bd (T : Bool) (y : Int) (zs : List Int) (t : Int) : 0 ≤ tgK T y zs t ∧ tgK T y zs t ≤ zs.length := by
  unfold tgK
  have := fu_le zs t
  split <;> omega

theorem OwnRow.att {w b : World} {B : Nat} {u v u' v' : Value} (h : OwnRow w B 44 [u, v, u', v']) (hb : Below w.heap.size w b) :
    b.cell? ⟨B, 0, none⟩ = some u ∧ b.cell? ⟨B, 1, none⟩ = some v ∧ b.cell? ⟨B, 2, none⟩ = some u' ∧ b.cell? ⟨B, 3, none⟩ = some v' := by
  have ho := h.below hb h.lt
  exact ⟨by rw [ho.cell]; rfl, by rw [ho.cell]; rfl, by rw [ho.cell]; rfl, by rw [ho.cell]; rfl⟩

set_option maxHeartbeats 3200000 in
theorem pageFault_any (base g : Nat) (S : W4) (k : Nat) (hk : k < 4) (o : O12) (f t : Nat) (hft : f < t) (hpg : t ≤ (f / 64 + 1) * 64) (ht : t ≤ 4096) (w : World) (h : WOK base g w S) (hi : Inv S) :
    Calls Try.prog 46 #[.pointer (some ⟨g, k * 4362, none⟩), opV o, .int .i64 f, .int .i64 t] w fun e w' => e = .returned (.tuple #[.int .i64 (pfl (S k) o f t).1, .int .i64 (pfl (S k) o f t).2]) ∧ Below w.heap.size w w' := by
  have HW : Hid (∀ w1, Below w.heap.size w w1 → WOK base g w1 S) := fun w1 hb => h.below hb
  have HI : Hid (Inv S) := hi
  obtain ⟨a, cap, h1, h2, -⟩ := h.recs hi hk
  have HKC : Hid _ := h.keys hk
  have hg := h.glt
  -- numbers
  obtain ⟨P, hP⟩ : ∃ P, P = f / 64 := ⟨_, rfl⟩
  obtain ⟨G, hG⟩ : ∃ G, G = f / 16 := ⟨_, rfl⟩
  obtain ⟨H, hH⟩ : ∃ H, H = (t - 1) / 16 + 1 - f / 16 := ⟨_, rfl⟩
  have e1 : wrap64 ((f : Int) / 64) = (P : Int) := by clear hpg hG hH; unfold wrap64; omega
  have E2 : Hid (wrap64 ((f : Int) / 16) = (G : Int)) := by clear hpg hP hH; show _ = _; unfold wrap64; omega
  have HGH : Hid (G + H ≤ 256 ∧ 0 < H) := by show _ ∧ _; rw [hG, hH]; exact bound_le f t hft ht
  have E3 : Hid (IntKind.i64.wrap (IntKind.i64.wrap ((IntKind.i64.wrap ((t : Int) - 1)).tdiv 16) + 1) = ((G + H : Nat) : Int)) := by show _ = _; rw [hG, hH]; exact bound_eq f t hft ht
  have HP : Hid (pfl (S k) o f t = match atR (S k).L (P : Int) with
    | none => (1, (f : Int))
    | some a => if pgA a (S k).K (wayK o.kind) = 0 then if o.kind = 13 then if a.2.2.1 then (0, 0) else (4, (f : Int))
        else if tgF a.2.2.1 (wayK o.kind) (tgs (S k) G H) o.tag = 0 then (0, 0) else (tgF a.2.2.1 (wayK o.kind) (tgs (S k) G H) o.tag, max (f : Int) (((G : Int) + tgK a.2.2.1 (wayK o.kind) (tgs (S k) G H) o.tag) * 16))
      else (pgA a (S k).K (wayK o.kind), (f : Int))) := by
    show _ = _
    rw [hP, hH, hG]
    rfl
  have HIN : Hid (∀ w1, Below w.heap.size w w1 → ∀ c, H ≤ c → IsInts w1 (.slice (some ⟨g, k * 4362 + 4106 + G, none⟩) H c) (tgs (S k) G H)) := fun w1 hb c hc => (HW.out _ hb).ints HI.out hk HGH.out.1 c hc
  have HZL : Hid ((tgs (S k) G H).length = H) := tgs_len _ _ _
  have HF : Hid (∀ w1 v, v = .slice a (S k).L.length cap → Below w.heap.size w w1 → Calls Try.prog 14 #[v, .int .i64 (P : Int)] w1 fun e w' => e = .returned (attO (atR (S k).L (P : Int))) ∧ Below w1.heap.size w1 w') := fun w1 v hv hb => hv ▸ find_any _ _ P 64 w1 (h2.below hb) (by decide)
  have HY : Hid (∀ w1, Calls Try.prog 63 #[.int .i64 o.kind] w1 fun e w' => e = .returned (.int .i64 (wayK o.kind)) ∧ w1 = w') := fun w1 => wayOf_any o.kind w1
  have HPG : Hid (∀ w1 (a : A4), Calls Try.prog 64 #[.agg #[.int .i64 a.1, .int .i64 a.2.1, .bool a.2.2.1, .bool a.2.2.2], kv (S k).K, .int .i64 (wayK o.kind)] w1 fun e w' => e = .returned (.int .i64 (pgA a (S k).K (wayK o.kind))) ∧ Below w1.heap.size w1 w') := fun w1 a => page_any _ _ _ _ _ _ _ _ _ _ _ _ _ w1
  generalize pfl (S k) o f t = X at *
  generalize tgs (S k) G H = Z at *
  have HFT : Hid (f < t ∧ t ≤ 4096) := ⟨hft, ht⟩
  clear h h2 hi hpg hP hG hH hft ht
  obtain ⟨A, hA⟩ : ∃ A, A = atR (S k).L (P : Int) := ⟨_, rfl⟩
  rw [← hA] at HP HF
  clear hA
  generalize (S k).L.length = m at *
  generalize (S k).K = K at *
  generalize wayK o.kind = way at *
  obtain ⟨t0, d0, t1, d1, t2, d2, t3, d3⟩ := K
  obtain ⟨kind, proc, page, count, rights, key, tagged, draw, addr, size, value, tag⟩ := o
  simp only at HP HKC HY HPG ⊢
  have hbA : Below w.heap.size w (w.alloc (.cells #[.int .i64 kind, .int .i64 proc, .int .i64 page, .int .i64 count, .int .i64 rights, .int .i64 key, .bool tagged, .int .i64 draw, .int .i64 addr, .int .i64 size, .int .i64 value, .int .i64 tag] 24)) := (Below.refl _ _).alloc (Nat.le_refl _) _
  have HC : Hid (∀ w1, Below (w.alloc (.cells #[.int .i64 kind, .int .i64 proc, .int .i64 page, .int .i64 count, .int .i64 rights, .int .i64 key, .bool tagged, .int .i64 draw, .int .i64 addr, .int .i64 size, .int .i64 value, .int .i64 tag] 24)).heap.size (w.alloc (.cells #[.int .i64 kind, .int .i64 proc, .int .i64 page, .int .i64 count, .int .i64 rights, .int .i64 key, .bool tagged, .int .i64 draw, .int .i64 addr, .int .i64 size, .int .i64 value, .int .i64 tag] 24)) w1 → OwnRow w1 w.heap.size 24 [.int .i64 kind, .int .i64 proc, .int .i64 page, .int .i64 count, .int .i64 rights, .int .i64 key, .bool tagged, .int .i64 draw, .int .i64 addr, .int .i64 size, .int .i64 value, .int .i64 tag] ∧ Below w.heap.size w w1 ∧ w.heap.size < w1.heap.size) := fun w1 hb => ⟨box12 hb, hbA.trans (hb.mono hbA.size), (box12 hb).lt⟩
  have HBA : Hid (Below w.heap.size w (w.alloc (.cells #[.int .i64 kind, .int .i64 proc, .int .i64 page, .int .i64 count, .int .i64 rights, .int .i64 key, .bool tagged, .int .i64 draw, .int .i64 addr, .int .i64 size, .int .i64 value, .int .i64 tag] 24))) := hbA
  clear hbA
  cases A with
  | none =>
    obtain rfl : X = (1, (f : Int)) := HP.out
    clear HP HPG
    go_enter Try.func46, Try.ntmps46
    go_wp2_with (first | (go_at_call 14; refine (HF.out _ _ rfl HBA.out).mono ?_; rintro e w1 ⟨rfl, hb1⟩; obtain ⟨hbx, hbw, hlt⟩ := HC.out _ hb1; clear hbx))
    go_ret2
    exact ⟨rfl, below_al hbw _⟩
  | some A =>
    obtain ⟨r, y, T, s⟩ := A
    simp only at HP
    have HPG2 : Hid (∀ w1, Calls Try.prog 64 #[.agg #[.int .i64 r, .int .i64 y, .bool T, .bool s], .agg #[.bool t0, .int .i64 d0, .bool t1, .int .i64 d1, .bool t2, .int .i64 d2, .bool t3, .int .i64 d3], .int .i64 way] w1 fun e w' => e = .returned (.int .i64 (pgA (r, y, T, s) (t0, d0, t1, d1, t2, d2, t3, d3) way)) ∧ Below w1.heap.size w1 w') := fun w1 => HPG.out w1 (r, y, T, s)
    have HTG : Hid (∀ w1, Below w.heap.size w w1 → ∀ c, H ≤ c → Calls Try.prog 65 #[.agg #[.int .i64 r, .int .i64 y, .bool T, .bool s], .int .i64 way, .slice (some ⟨g, k * 4362 + 4106 + G, none⟩) H c, .int .i64 tag] w1 fun e w' => e = .returned (.tuple #[.int .i64 (tgF T way Z tag), .int .i64 (tgK T way Z tag)]) ∧ Below w1.heap.size w1 w') := fun w1 hb c hc => tags_any r y T s way _ Z tag w1 (HIN.out w1 hb c hc)
    have HKB : Hid _ := tgK_bd T way Z tag
    generalize pgA (r, y, T, s) (t0, d0, t1, d1, t2, d2, t3, d3) way = PG at *
    generalize tgF T way Z tag = TF at *
    generalize tgK T way Z tag = TK at *
    clear HPG HIN
    go_enter Try.func46, Try.ntmps46
    go_wp2_with (first | (go_at_call 14; refine (HF.out _ _ rfl HBA.out).mono ?_; rintro e w1 ⟨rfl, hb1⟩; obtain ⟨hbx, hbw, hlt⟩ := HC.out _ hb1; obtain ⟨⟨b0, b1, b2, b3, b4, b5⟩, b6, b7, b8, b9, b10, b11⟩ := hbx.twelve) | (go_at_call 63; refine (HY.out _).mono ?_; rintro e w3 ⟨rfl, rfl⟩))
    have hoA : OwnRow (w1.alloc (.cells #[.int .i64 r, .int .i64 y, .bool T, .bool s] 44)) w1.heap.size 44 [.int .i64 r, .int .i64 y, .bool T, .bool s] := heap_alloc_new w1 _
    have hbB : Below w.heap.size w (w1.alloc (.cells #[.int .i64 r, .int .i64 y, .bool T, .bool s] 44)) := below_al hbw _
    have hbx2 := hbx.below ((Below.refl _ _).alloc (Nat.le_refl _) (.cells #[.int .i64 r, .int .i64 y, .bool T, .bool s] 44)) hbx.lt
    clear b0 b1 b2 b3 b4 b5 b6 b7 b8 b9 b10 b11 hbx HC hb1
    generalize (w1.alloc (.cells #[.int .i64 r, .int .i64 y, .bool T, .bool s] 44)) = wB at hoA hbB hbx2 ⊢
    have HNX : Hid (∀ w', Below wB.heap.size wB w' → w'.cell? ⟨w1.heap.size, 0, none⟩ = some (.int .i64 r) ∧ w'.cell? ⟨w1.heap.size, 1, none⟩ = some (.int .i64 y) ∧ w'.cell? ⟨w1.heap.size, 2, none⟩ = some (.bool T) ∧ w'.cell? ⟨w1.heap.size, 3, none⟩ = some (.bool s) ∧ w'.cell? ⟨g, k * 4362 + 2, none⟩ = some (.bool t0) ∧ w'.cell? ⟨g, k * 4362 + 2 + 1, none⟩ = some (.int .i64 d0) ∧ w'.cell? ⟨g, k * 4362 + 2 + 2, none⟩ = some (.bool t1) ∧ w'.cell? ⟨g, k * 4362 + 2 + 3, none⟩ = some (.int .i64 d1) ∧ w'.cell? ⟨g, k * 4362 + 2 + 4, none⟩ = some (.bool t2) ∧ w'.cell? ⟨g, k * 4362 + 2 + 5, none⟩ = some (.int .i64 d2) ∧ w'.cell? ⟨g, k * 4362 + 2 + 6, none⟩ = some (.bool t3) ∧ w'.cell? ⟨g, k * 4362 + 2 + 7, none⟩ = some (.int .i64 d3) ∧ w'.cell? ⟨w.heap.size, 0, none⟩ = some (.int .i64 kind) ∧ w'.cell? ⟨w.heap.size, 11, none⟩ = some (.int .i64 tag) ∧ Below wB.heap.size wB w') := fun w' hb => by
      obtain ⟨⟨c0, c1, c2, c3⟩, c4, c5, c6, c7⟩ := HKC.out
      have hbw' := hbB.trans (hb.mono hbB.size)
      have go : ∀ {A : Addr} {v : Value}, w.cell? A = some v → w'.cell? A = some v := fun hc => (hbw'.cell (cell_lt hc)).trans hc
      obtain ⟨u0, u1, u2, u3⟩ := hoA.att hb
      have ho := hbx2.below hb hbx2.lt
      exact ⟨u0, u1, u2, u3, go c0, go c1, go c2, go c3, go c4, go c5, go c6, go c7, by rw [ho.cell]; rfl, by rw [ho.cell]; rfl, hb⟩
    have hltB : w1.heap.size < wB.heap.size := hoA.lt
    have HBB : Hid (Below w.heap.size w wB) := hbB
    clear hbB hoA hbx2 HKC HF HY hbw
    refine wp_region_noPanic ?_
    refine wp_region_held_drew (S := (fun w' => w'.cell? ⟨w1.heap.size, 0, none⟩ = some (.int .i64 r) ∧ w'.cell? ⟨w1.heap.size, 1, none⟩ = some (.int .i64 y) ∧ w'.cell? ⟨w1.heap.size, 2, none⟩ = some (.bool T) ∧ w'.cell? ⟨w1.heap.size, 3, none⟩ = some (.bool s) ∧ w'.cell? ⟨g, k * 4362 + 2, none⟩ = some (.bool t0) ∧ w'.cell? ⟨g, k * 4362 + 2 + 1, none⟩ = some (.int .i64 d0) ∧ w'.cell? ⟨g, k * 4362 + 2 + 2, none⟩ = some (.bool t1) ∧ w'.cell? ⟨g, k * 4362 + 2 + 3, none⟩ = some (.int .i64 d1) ∧ w'.cell? ⟨g, k * 4362 + 2 + 4, none⟩ = some (.bool t2) ∧ w'.cell? ⟨g, k * 4362 + 2 + 5, none⟩ = some (.int .i64 d2) ∧ w'.cell? ⟨g, k * 4362 + 2 + 6, none⟩ = some (.bool t3) ∧ w'.cell? ⟨g, k * 4362 + 2 + 7, none⟩ = some (.int .i64 d3) ∧ w'.cell? ⟨w.heap.size, 0, none⟩ = some (.int .i64 kind) ∧ w'.cell? ⟨w.heap.size, 11, none⟩ = some (.int .i64 tag) ∧ Below wB.heap.size wB w')) (by kernel_rfl) (HNX.out _ (Below.refl _ _).drew) (fun hHeld => ?_)
    refine take_to 0 (some 33) (v := ?_) rfl rfl (by kernel_rfl) (by kernel_rfl) (by kernel_rfl) (fun _ _ _ h => h) (Or.inl ⟨by rfl, ?_⟩) (by assumption) ?_
    rotate_left
    · intro w hSw
      (try dsimp only at hSw)
      go_simp
      with_reducible rfl
    simp only [Act.put, List.setIfInBounds_toArray, List.set_cons_zero, List.set_cons_succ]
    refine take_to 1 (some 34) (v := ?_) rfl rfl (by kernel_rfl) (by kernel_rfl) (by kernel_rfl) (fun _ _ _ h => h) (Or.inl ⟨by rfl, ?_⟩) (by assumption) ?_
    rotate_left
    · intro w hSw
      (try dsimp only at hSw)
      go_simp
      with_reducible rfl
    simp only [Act.put, List.setIfInBounds_toArray, List.set_cons_zero, List.set_cons_succ]
    refine take_to 2 (some 35) (v := ?_) rfl rfl (by kernel_rfl) (by kernel_rfl) (by kernel_rfl) (fun _ _ _ h => h) (Or.inl ⟨by rfl, ?_⟩) (by assumption) ?_
    rotate_left
    · intro w hSw
      (try dsimp only at hSw)
      go_simp
      with_reducible rfl
    simp only [Act.put, List.setIfInBounds_toArray, List.set_cons_zero, List.set_cons_succ]
    refine take_to 3 (some 36) (v := ?_) rfl rfl (by kernel_rfl) (by kernel_rfl) (by kernel_rfl) (fun _ _ _ h => h) (Or.inl ⟨by rfl, ?_⟩) (by assumption) ?_
    rotate_left
    · intro w hSw
      (try dsimp only at hSw)
      go_simp
      with_reducible rfl
    simp only [Act.put, List.setIfInBounds_toArray, List.set_cons_zero, List.set_cons_succ]
    refine take_to 4 (some 37) (v := ?_) rfl rfl (by kernel_rfl) (by kernel_rfl) (by kernel_rfl) (fun _ _ _ h => h) (Or.inl ⟨by rfl, ?_⟩) (by assumption) ?_
    rotate_left
    · intro w hSw
      (try dsimp only at hSw)
      go_simp
      with_reducible rfl
    simp only [Act.put, List.setIfInBounds_toArray, List.set_cons_zero, List.set_cons_succ]
    refine take_to 5 (some 38) (v := ?_) rfl rfl (by kernel_rfl) (by kernel_rfl) (by kernel_rfl) (fun _ _ _ h => h) (Or.inl ⟨by rfl, ?_⟩) (by assumption) ?_
    rotate_left
    · intro w hSw
      (try dsimp only at hSw)
      go_simp
      with_reducible rfl
    simp only [Act.put, List.setIfInBounds_toArray, List.set_cons_zero, List.set_cons_succ]
    refine wpAnyH_ready (rs := [6]) (by kernel_rfl) (by simp) ?_
    refine AllReadyH.cons rfl (fun K hK => ?_) AllReadyH.nil
    go_simp
    refine Calls.mono (HPG2.out _) ?_
    rintro e w2 ⟨rfl, hb2⟩
    have hbB2 : Below wB.heap.size wB w2 := ((Below.refl _ _).drew).trans hb2
    go_wp2_with fail
    refine hK.out _ _ (HNX.out _ hbB2) (fun hHeld => ?_)
    clear hK K
    try simp only [Act.put, List.setIfInBounds_toArray, List.set_cons_zero, List.set_cons_succ]
    refine take_to 7 (some 13) (v := ?_) rfl rfl (by kernel_rfl) (by kernel_rfl) (by kernel_rfl) (fun _ _ _ h => h) (Or.inl ⟨by rfl, ?_⟩) (by assumption) ?_
    rotate_left
    · intro w hSw
      (try dsimp only at hSw)
      go_simp
      with_reducible rfl
    simp only [Act.put, List.setIfInBounds_toArray, List.set_cons_zero, List.set_cons_succ]
    refine wpAnyH_done (by kernel_rfl) ?_ _
    refine NoPanic.normal ?_
    have hbw2 := HBB.out.trans (hbB2.mono HBB.out.size)
    by_cases hPG : PG = 0
    case neg =>
      obtain rfl : X = (PG, (f : Int)) := HP.out.trans (if_neg hPG)
      have hd : (PG != 0) = true := by simpa using hPG
      clear HP
      go_wp2
      go_ret2
      exact ⟨rfl, hbw2⟩
    subst hPG
    have HP2 : Hid (X = if kind = 13 then if T = true then (0, 0) else (4, (f : Int)) else if TF = 0 then (0, 0) else (TF, max (f : Int) (((G : Int) + TK) * 16))) := HP.out.trans (if_pos rfl)
    clear HP
    obtain ⟨u0, u1, u2, u3, v0, v1, v2, v3, v4, v5, v6, v7, x0, x11, -⟩ := hHeld
    by_cases hK : kind = 13
    · subst hK
      cases T
      · obtain rfl : X = (4, (f : Int)) := HP2.out
        clear HP2
        go_wp2
        go_ret2
        exact ⟨rfl, hbw2⟩
      · obtain rfl : X = (0, 0) := HP2.out
        clear HP2
        go_wp2
        go_ret2
        exact ⟨rfl, hbw2⟩
    have hKd : (kind == 13) = false := by simpa using hK
    have HP3 : Hid (X = if TF = 0 then (0, 0) else (TF, max (f : Int) (((G : Int) + TK) * 16))) := HP2.out.trans (if_neg hK)
    clear HP2 hK
    have e2 := E2.out
    go_wp2_with fail
    clear e2
    clear u0 u1 u2 u3 v0 v1 v2 v3 v4 v5 v6 v7 x0 x11
    have HTG2 : Hid (∀ w', Below w2.heap.size w2 w' → Calls Try.prog 65 #[.agg #[.int .i64 r, .int .i64 y, .bool T, .bool s], .int .i64 way, .slice (some ⟨g, k * 4362 + 4106 + G, none⟩) H (256 - G), .int .i64 tag] w' fun e w' => e = .returned (.tuple #[.int .i64 TF, .int .i64 TK]) ∧ Below wB.heap.size wB w') := fun w' hb => by
      have hb3 := hbB2.trans (hb.mono hbB2.size)
      refine (HTG.out w' (HBB.out.trans (hb3.mono HBB.out.size)) (256 - G) (by have := HGH.out; omega)).mono ?_
      rintro e w4 ⟨he, hb4⟩
      exact ⟨he, hb3.trans (hb4.mono hb3.size)⟩
    refine wp_region_noPanic ?_
    refine wp_region_held_drew (S := (fun w' => w'.cell? ⟨w1.heap.size, 0, none⟩ = some (.int .i64 r) ∧ w'.cell? ⟨w1.heap.size, 1, none⟩ = some (.int .i64 y) ∧ w'.cell? ⟨w1.heap.size, 2, none⟩ = some (.bool T) ∧ w'.cell? ⟨w1.heap.size, 3, none⟩ = some (.bool s) ∧ w'.cell? ⟨g, k * 4362 + 2, none⟩ = some (.bool t0) ∧ w'.cell? ⟨g, k * 4362 + 2 + 1, none⟩ = some (.int .i64 d0) ∧ w'.cell? ⟨g, k * 4362 + 2 + 2, none⟩ = some (.bool t1) ∧ w'.cell? ⟨g, k * 4362 + 2 + 3, none⟩ = some (.int .i64 d1) ∧ w'.cell? ⟨g, k * 4362 + 2 + 4, none⟩ = some (.bool t2) ∧ w'.cell? ⟨g, k * 4362 + 2 + 5, none⟩ = some (.int .i64 d2) ∧ w'.cell? ⟨g, k * 4362 + 2 + 6, none⟩ = some (.bool t3) ∧ w'.cell? ⟨g, k * 4362 + 2 + 7, none⟩ = some (.int .i64 d3) ∧ w'.cell? ⟨w.heap.size, 0, none⟩ = some (.int .i64 kind) ∧ w'.cell? ⟨w.heap.size, 11, none⟩ = some (.int .i64 tag) ∧ Below wB.heap.size wB w')) (by kernel_rfl) (HNX.out _ hbB2.drew) (fun hHeld => ?_)
    refine take_to 0 (some 54) (v := ?_) rfl rfl (by kernel_rfl) (by kernel_rfl) (by kernel_rfl) (fun _ _ _ h => h) (Or.inl ⟨by rfl, ?_⟩) (by assumption) ?_
    rotate_left
    · intro w hSw
      (try dsimp only at hSw)
      go_simp
      with_reducible rfl
    simp only [Act.put, List.setIfInBounds_toArray, List.set_cons_zero, List.set_cons_succ]
    refine take_to 1 (some 55) (v := ?_) rfl rfl (by kernel_rfl) (by kernel_rfl) (by kernel_rfl) (fun _ _ _ h => h) (Or.inl ⟨by rfl, ?_⟩) (by assumption) ?_
    rotate_left
    · intro w hSw
      (try dsimp only at hSw)
      go_simp
      with_reducible rfl
    simp only [Act.put, List.setIfInBounds_toArray, List.set_cons_zero, List.set_cons_succ]
    refine take_to 2 (some 56) (v := ?_) rfl rfl (by kernel_rfl) (by kernel_rfl) (by kernel_rfl) (fun _ _ _ h => h) (Or.inl ⟨by rfl, ?_⟩) (by assumption) ?_
    rotate_left
    · intro w hSw
      (try dsimp only at hSw)
      go_simp
      with_reducible rfl
    simp only [Act.put, List.setIfInBounds_toArray, List.set_cons_zero, List.set_cons_succ]
    refine take_to 3 (some 57) (v := ?_) rfl rfl (by kernel_rfl) (by kernel_rfl) (by kernel_rfl) (fun _ _ _ h => h) (Or.inl ⟨by rfl, ?_⟩) (by assumption) ?_
    rotate_left
    · intro w hSw
      (try dsimp only at hSw)
      go_simp
      with_reducible rfl
    simp only [Act.put, List.setIfInBounds_toArray, List.set_cons_zero, List.set_cons_succ]
    refine take_to 4 (some 58) (v := ?_) rfl rfl (by kernel_rfl) (by kernel_rfl) (by kernel_rfl) (fun _ _ _ h => h) (Or.inl ⟨by rfl, ?_⟩) (by assumption) ?_
    rotate_left
    · intro w hSw
      (try dsimp only at hSw)
      go_simp
      with_reducible rfl
    simp only [Act.put, List.setIfInBounds_toArray, List.set_cons_zero, List.set_cons_succ]
    refine take_to 5 (some 59) (v := ?_) rfl rfl (by kernel_rfl) (by kernel_rfl) (by kernel_rfl) (fun _ _ _ h => h) (Or.inl ⟨by rfl, ?_⟩) (by assumption) ?_
    rotate_left
    · intro w hSw
      (try dsimp only at hSw)
      go_simp
      with_reducible rfl
    simp only [Act.put, List.setIfInBounds_toArray, List.set_cons_zero, List.set_cons_succ]
    refine take_to 6 (some 60) (v := ?_) rfl rfl (by kernel_rfl) (by kernel_rfl) (by kernel_rfl) (fun _ _ _ h => h) (Or.inl ⟨by rfl, ?_⟩) (by assumption) ?_
    rotate_left
    · intro w hSw
      (try dsimp only at hSw)
      go_simp
      with_reducible rfl
    simp only [Act.put, List.setIfInBounds_toArray, List.set_cons_zero, List.set_cons_succ]
    refine take_to 7 (some 61) (v := ?_) rfl rfl (by kernel_rfl) (by kernel_rfl) (by kernel_rfl) (fun _ _ _ h => h) (Or.inl ⟨by rfl, ?_⟩) (by assumption) ?_
    rotate_left
    · intro w hSw
      (try dsimp only at hSw)
      go_simp
      with_reducible rfl
    simp only [Act.put, List.setIfInBounds_toArray, List.set_cons_zero, List.set_cons_succ]
    refine take_to 8 (some 62) (v := ?_) rfl rfl (by kernel_rfl) (by kernel_rfl) (by kernel_rfl) (fun _ _ _ h => h) (Or.inl ⟨by rfl, ?_⟩) (by assumption) ?_
    rotate_left
    · intro w hSw
      (try dsimp only at hSw)
      go_simp
      with_reducible rfl
    simp only [Act.put, List.setIfInBounds_toArray, List.set_cons_zero, List.set_cons_succ]
    refine take_to 9 (some 63) (v := ?_) rfl rfl (by kernel_rfl) (by kernel_rfl) (by kernel_rfl) (fun _ _ _ h => h) (Or.inl ⟨by rfl, ?_⟩) (by assumption) ?_
    rotate_left
    · intro w hSw
      (try dsimp only at hSw)
      go_simp
      with_reducible rfl
    simp only [Act.put, List.setIfInBounds_toArray, List.set_cons_zero, List.set_cons_succ]
    refine take_to 10 (some 64) (v := .slice (some ⟨g, k * 4362 + 4106 + G, none⟩) H (256 - G)) rfl rfl (by kernel_rfl) (by kernel_rfl) (by kernel_rfl) (fun _ _ _ h => h) (Or.inl ⟨by rfl, ?_⟩) (by assumption) ?_
    · intro w hSw
      have s1 := slice_tags w g (k * 4362 + 4106) G H HGH.out.2 HGH.out.1 (wrap64 ((f : Int) / 16)) _ E2.out E3.out
      go_simp
    simp only [Act.put, List.setIfInBounds_toArray, List.set_cons_zero, List.set_cons_succ]
    refine take_to 11 (some 65) (v := ?_) rfl rfl (by kernel_rfl) (by kernel_rfl) (by kernel_rfl) (fun _ _ _ h => h) (Or.inl ⟨by rfl, ?_⟩) (by assumption) ?_
    rotate_left
    · intro w hSw
      (try dsimp only at hSw)
      go_simp
      with_reducible rfl
    simp only [Act.put, List.setIfInBounds_toArray, List.set_cons_zero, List.set_cons_succ]
    refine take_to 12 (some 66) (v := ?_) rfl rfl (by kernel_rfl) (by kernel_rfl) (by kernel_rfl) (fun _ _ _ h => h) (Or.inl ⟨by rfl, ?_⟩) (by assumption) ?_
    rotate_left
    · intro w hSw
      (try dsimp only at hSw)
      go_simp
      with_reducible rfl
    simp only [Act.put, List.setIfInBounds_toArray, List.set_cons_zero, List.set_cons_succ]
    refine wpAnyH_ready (rs := [13]) (by kernel_rfl) (by simp) ?_
    refine AllReadyH.cons rfl (fun K hK => ?_) AllReadyH.nil
    go_simp
    refine Calls.mono (HTG2.out _ (Below.refl _ _).drew) ?_
    rintro e w4 ⟨rfl, hbB4⟩
    go_wp2_with fail
    refine hK.out _ _ (HNX.out _ hbB4) (fun hHeld => ?_)
    clear hK K
    try simp only [Act.put, List.setIfInBounds_toArray, List.set_cons_zero, List.set_cons_succ]
    refine take_to 14 (some 53) (v := ?_) rfl rfl (by kernel_rfl) (by kernel_rfl) (by kernel_rfl) (fun _ _ _ h => h) (Or.inl ⟨by rfl, ?_⟩) (by assumption) ?_
    rotate_left
    · intro w hSw
      (try dsimp only at hSw)
      go_simp
      with_reducible rfl
    simp only [Act.put, List.setIfInBounds_toArray, List.set_cons_zero, List.set_cons_succ]
    refine take_to 15 (some 68) (v := ?_) rfl rfl (by kernel_rfl) (by kernel_rfl) (by kernel_rfl) (fun _ _ _ h => h) (Or.inl ⟨by rfl, ?_⟩) (by assumption) ?_
    rotate_left
    · intro w hSw
      (try dsimp only at hSw)
      go_simp
      with_reducible rfl
    simp only [Act.put, List.setIfInBounds_toArray, List.set_cons_zero, List.set_cons_succ]
    refine take_to 16 (some 69) (v := ?_) rfl rfl (by kernel_rfl) (by kernel_rfl) (by kernel_rfl) (fun _ _ _ h => h) (Or.inl ⟨by rfl, ?_⟩) (by assumption) ?_
    rotate_left
    · intro w hSw
      (try dsimp only at hSw)
      go_simp
      with_reducible rfl
    simp only [Act.put, List.setIfInBounds_toArray, List.set_cons_zero, List.set_cons_succ]
    refine take_to 17 (some 15) (v := ?_) rfl rfl (by kernel_rfl) (by kernel_rfl) (by kernel_rfl) (fun _ _ _ h => h) (Or.inl ⟨by rfl, ?_⟩) (by assumption) ?_
    rotate_left
    · intro w hSw
      (try dsimp only at hSw)
      go_simp
      with_reducible rfl
    simp only [Act.put, List.setIfInBounds_toArray, List.set_cons_zero, List.set_cons_succ]
    refine take_to 18 (some 16) (v := ?_) rfl rfl (by kernel_rfl) (by kernel_rfl) (by kernel_rfl) (fun _ _ _ h => h) (Or.inl ⟨by rfl, ?_⟩) (by assumption) ?_
    rotate_left
    · intro w hSw
      (try dsimp only at hSw)
      go_simp
      with_reducible rfl
    simp only [Act.put, List.setIfInBounds_toArray, List.set_cons_zero, List.set_cons_succ]
    refine wpAnyH_done (by kernel_rfl) ?_ _
    refine NoPanic.normal ?_
    have hbw4 := HBB.out.trans (hbB4.mono HBB.out.size)
    by_cases hTF : TF = 0
    · obtain rfl : X = (0, 0) := HP3.out.trans (if_pos hTF)
      subst hTF
      clear HP3
      go_wp2
      go_ret2
      exact ⟨rfl, hbw4⟩
    · obtain rfl : X = (TF, max (f : Int) (((G : Int) + TK) * 16)) := HP3.out.trans (if_neg hTF)
      have hd : (TF == 0) = false := by simpa using hTF
      have hkb := HKB.out
      have hgh := HGH.out
      have hzl := HZL.out
      have e4 : wrap64 ((G : Int) + TK) = (G : Int) + TK := by unfold wrap64; omega
      have e5 : wrap64 (((G : Int) + TK) * 16) = ((G : Int) + TK) * 16 := by unfold wrap64; omega
      have e2 := E2.out
      clear HP3 hkb hzl hgh
      go_wp2
      go_ret2
      exact ⟨rfl, hbw4⟩

end Go.Proofs.Ytlhmfbkpmfofiai

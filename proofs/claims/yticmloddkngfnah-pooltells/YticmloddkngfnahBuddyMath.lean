/- Plain facts on blocks: lists of what is free, which frames they cover, that those frames tell the list, and what Take and Give make of them; no program is walked. -/
import Derived.Test.YticmloddkngfnahBuddy8
namespace Go.Proofs.Yticmloddkngfnah
open Go.RowKit
set_option linter.unusedSimpArgs false
set_option linter.unusedVariables false

theorem sz0 : sz 0 = 1 := by decide
theorem sz1 : sz 1 = 2 := by decide
theorem sz2 : sz 2 = 4 := by decide
theorem sz3 : sz 3 = 8 := by decide
theorem sz4 : sz 4 = 16 := by decide
theorem sz5 : sz 5 = 32 := by decide
theorem sz6 : sz 6 = 64 := by decide
theorem sz7 : sz 7 = 128 := by decide

theorem sz_succ {y : Int} (h0 : 0 ≤ y) : sz (y + 1) = 2 * sz y := by
  unfold sz
  rw [show (y + 1).toNat = y.toNat + 1 by omega, Int.pow_succ]
  omega

theorem xor_tab : ∀ a b : Fin 64, ∀ o : Fin 7, a.val % 2 ^ o.val = 0 → b.val % 2 ^ o.val = 0 →
    ((a.val ^^^ b.val = 2 ^ o.val) ↔ (a.val % (2 * 2 ^ o.val) = 0 ∧ b.val = a.val + 2 ^ o.val) ∨ (b.val % (2 * 2 ^ o.val) = 0 ∧ a.val = b.val + 2 ^ o.val)) := by decide +kernel

theorem i64_xor_nat (a b : Nat) (ha : a < 9223372036854775808) (hb : b < 9223372036854775808) : bits .xor .i64 (a : Int) (b : Int) = ((a ^^^ b : Nat) : Int) := by
  have hx : a ^^^ b < 2 ^ 63 := Nat.xor_lt_two_pow (by omega) (by omega)
  show IntKind.i64.wrap ((BitVec.ofInt 64 (a : Int) ^^^ BitVec.ofInt 64 (b : Int)).toNat : Int) = _
  rw [BitVec.toNat_xor, ofInt_u64 a (by omega), ofInt_u64 b (by omega), IntKind.wrap_i64]
  omega

/-- What buddies are. -/
theorem bud_iff {xa ya xb yb : Int} (ha : isBlk xa ya = true) (hb : isBlk xb yb = true) :
    areB xa ya xb yb = true ↔ ya = yb ∧ ((xa % (2 * sz ya) = 0 ∧ xb = xa + sz ya) ∨ (xb % (2 * sz ya) = 0 ∧ xa = xb + sz ya)) := by
  obtain ⟨a0, a6, ax0, ax, am⟩ := isBlk_iff.1 ha
  obtain ⟨b0, b6, bx0, bx, bm⟩ := isBlk_iff.1 hb
  have sa := sz_bd a0 a6
  have sb := sz_bd b0 b6
  unfold areB
  simp only [Bool.and_eq_true, beq_iff_eq]
  constructor
  · rintro ⟨rfl, h⟩
    refine ⟨rfl, ?_⟩
    obtain ⟨a, rfl⟩ : ∃ a : Nat, xa = a := ⟨xa.toNat, by omega⟩
    obtain ⟨b, rfl⟩ : ∃ b : Nat, xb = b := ⟨xb.toNat, by omega⟩
    obtain ⟨o, rfl⟩ : ∃ o : Nat, ya = o := ⟨ya.toNat, by omega⟩
    rw [i64_xor_nat a b (by omega) (by omega)] at h
    have hs : sz (o : Int) = ((2 ^ o : Nat) : Int) := by simp [sz]
    rw [hs] at h am bm ⊢
    have key := xor_tab ⟨a, by omega⟩ ⟨b, by omega⟩ ⟨o, by omega⟩ (by simp only; exact_mod_cast am) (by simp only; exact_mod_cast bm)
    simp only at key
    rcases key.1 (by exact_mod_cast h) with ⟨h1, h2⟩ | ⟨h1, h2⟩
    · left; exact ⟨by exact_mod_cast h1, by exact_mod_cast h2⟩
    · right; exact ⟨by exact_mod_cast h1, by exact_mod_cast h2⟩
  · rintro ⟨rfl, h⟩
    refine ⟨rfl, ?_⟩
    obtain ⟨a, rfl⟩ : ∃ a : Nat, xa = a := ⟨xa.toNat, by omega⟩
    obtain ⟨b, rfl⟩ : ∃ b : Nat, xb = b := ⟨xb.toNat, by omega⟩
    obtain ⟨o, rfl⟩ : ∃ o : Nat, ya = o := ⟨ya.toNat, by omega⟩
    rw [i64_xor_nat a b (by omega) (by omega)]
    have hs : sz (o : Int) = ((2 ^ o : Nat) : Int) := by simp [sz]
    rw [hs] at h am bm ⊢
    have key := xor_tab ⟨a, by omega⟩ ⟨b, by omega⟩ ⟨o, by omega⟩ (by simp only; exact_mod_cast am) (by simp only; exact_mod_cast bm)
    simp only at key
    have := key.2 (by
      rcases h with ⟨h1, h2⟩ | ⟨h1, h2⟩
      · left; exact ⟨by exact_mod_cast h1, by exact_mod_cast h2⟩
      · right; exact ⟨by exact_mod_cast h1, by exact_mod_cast h2⟩)
    exact_mod_cast this

theorem bud_symm {xa ya xb yb : Int} (ha : isBlk xa ya = true) (hb : isBlk xb yb = true) (h : areB xa ya xb yb = false) : areB xb yb xa ya = false := by
  rw [Bool.eq_false_iff] at *
  intro h'
  refine h ((bud_iff ha hb).2 ?_)
  obtain ⟨rfl, h2⟩ := (bud_iff hb ha).1 h'
  exact ⟨rfl, h2.symm⟩

/-- p ends ahead of q, and they are no buddies. -/
def Rel (p q : Int × Int) : Prop := p.1 + sz p.2 ≤ q.1 ∧ areB p.1 p.2 q.1 q.2 = false

/-- A list of what is free. -/
def Good (l : List (Int × Int)) : Prop := AllBlk l ∧ l.Pairwise Rel

theorem blk_pos {p : Int × Int} (h : isBlk p.1 p.2 = true) : 1 ≤ sz p.2 := by
  obtain ⟨a0, a6, -⟩ := isBlk_iff.1 h
  exact (sz_bd a0 a6).1

theorem good_of_right {l : List (Int × Int)} (h : rightB l = true) : Good l := by
  have hA := rightB_blk h
  refine ⟨hA, ?_⟩
  have hstep : ∀ i, i + 1 < l.length → (l.getD i (0, 0)).1 + sz (l.getD i (0, 0)).2 ≤ (l.getD (i + 1) (0, 0)).1 ∧ areB (l.getD i (0, 0)).1 (l.getD i (0, 0)).2 (l.getD (i + 1) (0, 0)).1 (l.getD (i + 1) (0, 0)).2 = false := by
    intro i hi
    have := rightB_iff.1 h (i + 1) hi
    unfold okAt fol at this
    simp only [Nat.add_sub_cancel, Bool.and_eq_true, Bool.or_eq_true, decide_eq_true_eq, Bool.not_eq_true'] at this
    rcases this.2 with h' | h'
    · omega
    · exact h'
  have hlt : ∀ d i, i + 1 + d < l.length → (l.getD i (0, 0)).1 + sz (l.getD i (0, 0)).2 ≤ (l.getD (i + 1 + d) (0, 0)).1 ∧ (0 < d → (l.getD i (0, 0)).1 + sz (l.getD i (0, 0)).2 < (l.getD (i + 1 + d) (0, 0)).1) := by
    intro d
    induction d with
    | zero => intro i hi; exact ⟨(hstep i hi).1, fun h => by omega⟩
    | succ d ih =>
      intro i hi
      have h1 := (ih i (by omega)).1
      have h2 := (hstep (i + 1 + d) (by omega)).1
      have h3 := blk_pos (hA.get (show i + 1 + d < l.length by omega))
      rw [show i + 1 + (d + 1) = i + 1 + d + 1 by omega]
      exact ⟨by omega, fun _ => by omega⟩
  rw [List.pairwise_iff_getElem]
  intro i j hi hj hij
  obtain ⟨d, rfl⟩ : ∃ d, j = i + 1 + d := ⟨j - i - 1, by omega⟩
  have h1 := hlt d i hj
  have hgi : l.getD i (0, 0) = l[i] := by rw [List.getD_eq_getElem?_getD, List.getElem?_eq_getElem hi]; rfl
  have hgj : l.getD (i + 1 + d) (0, 0) = l[i + 1 + d] := by rw [List.getD_eq_getElem?_getD, List.getElem?_eq_getElem hj]; rfl
  have hbi := hA.get hi
  have hbj := hA.get hj
  rw [hgi] at hbi
  rw [hgj] at hbj
  rw [hgi, hgj] at h1
  refine ⟨h1.1, ?_⟩
  cases d with
  | zero =>
    have e := (hstep i hj).2
    have hgj' : l.getD (i + 1) (0, 0) = l[i + 1 + 0] := hgj
    rw [hgi, hgj'] at e
    exact e
  | succ d =>
    rw [Bool.eq_false_iff]
    intro hbud
    have h2 := h1.2 (by omega)
    have hp := blk_pos hbi
    obtain ⟨-, ⟨-, h3⟩ | ⟨-, h3⟩⟩ := (bud_iff hbi hbj).1 hbud
    · omega
    · omega

theorem right_of_good {l : List (Int × Int)} (h : Good l) : rightB l = true := by
  rw [rightB_iff]
  intro i hi
  unfold okAt
  rw [h.1.get hi]
  cases i with
  | zero => simp
  | succ i =>
    have hp := List.pairwise_iff_getElem.1 h.2 i (i + 1) (by omega) hi (by omega)
    have hgi : l.getD i (0, 0) = l[i] := by rw [List.getD_eq_getElem?_getD, List.getElem?_eq_getElem (by omega)]; rfl
    have hgj : l.getD (i + 1) (0, 0) = l[i + 1] := by rw [List.getD_eq_getElem?_getD, List.getElem?_eq_getElem hi]; rfl
    rw [Nat.add_sub_cancel, hgi, hgj]
    unfold fol
    rw [hp.2]
    simp [hp.1]

/-- Frame k is in the block p; in one of l. -/
def cov (p : Int × Int) (k : Int) : Prop := p.1 ≤ k ∧ k < p.1 + sz p.2
def covL (l : List (Int × Int)) (k : Int) : Prop := ∃ p ∈ l, cov p k

theorem nest {p q : Int × Int} (hp : isBlk p.1 p.2 = true) (hq : isBlk q.1 q.2 = true) {k : Int} (hk : cov p k) (hk' : cov q k) (h : p.2 ≤ q.2) : q.1 ≤ p.1 ∧ p.1 + sz p.2 ≤ q.1 + sz q.2 := by
  obtain ⟨px, py⟩ := p
  obtain ⟨qx, qy⟩ := q
  obtain ⟨a0, a6, ax0, ax, am⟩ := isBlk_iff.1 hp
  obtain ⟨b0, b6, bx0, bx, bm⟩ := isBlk_iff.1 hq
  obtain ⟨k1, k2⟩ := hk
  obtain ⟨k3, k4⟩ := hk'
  simp only at *
  rcases ord_cases a0 a6 with rfl | rfl | rfl | rfl | rfl | rfl | rfl <;> rcases ord_cases b0 b6 with rfl | rfl | rfl | rfl | rfl | rfl | rfl <;>
    first
      | (exfalso; omega)
      | (simp only [sz0, sz1, sz2, sz3, sz4, sz5, sz6] at *; omega)

theorem good_lt {l : List (Int × Int)} (h : Good l) {p q : Int × Int} (hp : p ∈ l) (hq : q ∈ l) (hlt : p.1 < q.1) : Rel p q := by
  obtain ⟨i, hi, rfl⟩ := List.getElem_of_mem hp
  obtain ⟨j, hj, rfl⟩ := List.getElem_of_mem hq
  rcases Nat.lt_trichotomy i j with h' | h' | h'
  · exact List.pairwise_iff_getElem.1 h.2 i j hi hj h'
  · subst h'; omega
  · have := (List.pairwise_iff_getElem.1 h.2 j i hj hi h').1
    have := blk_pos (h.1 _ hq)
    omega

theorem good_same {l : List (Int × Int)} (h : Good l) {p q : Int × Int} (hp : p ∈ l) (hq : q ∈ l) {k : Int} (h1 : cov p k) (h2 : cov q k) : p = q := by
  obtain ⟨i, hi, rfl⟩ := List.getElem_of_mem hp
  obtain ⟨j, hj, rfl⟩ := List.getElem_of_mem hq
  obtain ⟨k1, k2⟩ := h1
  obtain ⟨k3, k4⟩ := h2
  rcases Nat.lt_trichotomy i j with h' | h' | h'
  · have := (List.pairwise_iff_getElem.1 h.2 i j hi hj h').1; omega
  · subst h'; rfl
  · have := (List.pairwise_iff_getElem.1 h.2 j i hj hi h').1; omega

theorem sz_inj {a b : Int} (a0 : 0 ≤ a) (a6 : a ≤ 6) (b0 : 0 ≤ b) (b6 : b ≤ 6) (h : sz a = sz b) : a = b := by
  rcases ord_cases a0 a6 with rfl | rfl | rfl | rfl | rfl | rfl | rfl <;> rcases ord_cases b0 b6 with rfl | rfl | rfl | rfl | rfl | rfl | rfl <;> simp only [sz0, sz1, sz2, sz3, sz4, sz5, sz6] at h <;> omega

theorem sz_le {a b : Int} (a0 : 0 ≤ a) (b6 : b ≤ 6) (h : a ≤ b) : sz a ≤ sz b := by
  rcases ord_cases a0 (by omega) with rfl | rfl | rfl | rfl | rfl | rfl | rfl <;> rcases ord_cases (show 0 ≤ b by omega) b6 with rfl | rfl | rfl | rfl | rfl | rfl | rfl <;> simp only [sz0, sz1, sz2, sz3, sz4, sz5, sz6] <;> omega

/-- A block all of whose frames are free lies in one that is free. -/
theorem cover {l : List (Int × Int)} (h : Good l) : ∀ (n : Nat) (x : Int), isBlk x n = true → (∀ k, x ≤ k → k < x + sz n → covL l k) → ∃ p ∈ l, p.1 ≤ x ∧ x + sz n ≤ p.1 + sz p.2
  | 0, x, hb, hc => by
    obtain ⟨p, hp, h1, h2⟩ := hc x (by omega) (by simp [sz0]; omega)
    exact ⟨p, hp, h1, by simp only [Int.ofNat_zero, Int.natCast_zero, sz0]; omega⟩
  | n + 1, x, hb, hc => by
    obtain ⟨b0, b6, bx0, bx, bm⟩ := isBlk_iff.1 hb
    have hss : sz ((n + 1 : Nat) : Int) = 2 * sz (n : Int) := sz_succ (y := (n : Int)) (by omega)
    have hn := sz_bd (show (0 : Int) ≤ n by omega) (by omega)
    rw [hss] at bx bm hc ⊢
    have hm1 : x % sz (n : Int) = 0 := by
      obtain ⟨c, hc'⟩ := Int.dvd_of_emod_eq_zero bm
      rw [hc', Int.mul_comm 2, Int.mul_assoc]
      exact Int.mul_emod_right _ _
    have hm2 : (x + sz (n : Int)) % sz (n : Int) = 0 := by rw [Int.add_emod_right]; exact hm1
    have hb1 : isBlk x n = true := isBlk_iff.2 ⟨by omega, by omega, bx0, by omega, hm1⟩
    have hb2 : isBlk (x + sz (n : Int)) n = true := isBlk_iff.2 ⟨by omega, by omega, by omega, by omega, hm2⟩
    obtain ⟨p, hp, p1, p2⟩ := cover h n x hb1 (fun k h1 h2 => hc k h1 (by omega))
    obtain ⟨q, hq, q1, q2⟩ := cover h n (x + sz (n : Int)) hb2 (fun k h1 h2 => hc k (by omega) (by omega))
    have hpb := h.1 p hp
    have hqb := h.1 q hq
    obtain ⟨c0, c6, cx0, cx, cm⟩ := isBlk_iff.1 hpb
    obtain ⟨d0, d6, dx0, dx, dm⟩ := isBlk_iff.1 hqb
    have hB : isBlk ((x, ((n + 1 : Nat) : Int)) : Int × Int).1 ((x, ((n + 1 : Nat) : Int)) : Int × Int).2 = true := hb
    by_cases hpo : ((n + 1 : Nat) : Int) ≤ p.2
    · have := nest hB hpb (k := x) ⟨by simp, by simp only; rw [hss]; omega⟩ ⟨p1, by omega⟩ hpo
      simp only [hss] at this
      exact ⟨p, hp, this⟩
    · by_cases hqo : ((n + 1 : Nat) : Int) ≤ q.2
      · have := nest hB hqb (k := x + sz (n : Int)) ⟨by simp only; omega, by simp only; rw [hss]; omega⟩ ⟨q1, by omega⟩ hqo
        simp only [hss] at this
        exact ⟨q, hq, this⟩
      · exfalso
        have hpl := sz_le c0 (show (n : Int) ≤ 6 by omega) (show p.2 ≤ n by omega)
        have hql := sz_le d0 (show (n : Int) ≤ 6 by omega) (show q.2 ≤ n by omega)
        have e1 : p.2 = n := sz_inj c0 c6 (by omega) (by omega) (by omega)
        have e2 : q.2 = n := sz_inj d0 d6 (by omega) (by omega) (by omega)
        have hr := good_lt h hp hq (by omega)
        have : areB p.1 p.2 q.1 q.2 = true := (bud_iff hpb hqb).2 ⟨by omega, Or.inl ⟨by rw [e1, show p.1 = x by rw [e1] at p2; omega]; exact bm, by rw [e1]; rw [e1] at p2; rw [e2] at q2; omega⟩⟩
        rw [hr.2] at this
        cases this

theorem sorted_ext : ∀ (l m : List (Int × Int)), l.Pairwise (fun p q => p.1 < q.1) → m.Pairwise (fun p q => p.1 < q.1) → (∀ p, p ∈ l ↔ p ∈ m) → l = m
  | [], [], _, _, _ => rfl
  | [], b :: m, _, _, h => by have := (h b).2 (by simp); simp at this
  | a :: l, [], _, _, h => by have := (h a).1 (by simp); simp at this
  | a :: l, b :: m, hl, hm, h => by
    rw [List.pairwise_cons] at hl hm
    have hab : a = b := by
      have h1 := (h a).1 (by simp)
      have h2 := (h b).2 (by simp)
      rw [List.mem_cons] at h1 h2
      rcases h1 with h1 | h1
      · exact h1
      · rcases h2 with h2 | h2
        · exact h2.symm
        · have := hl.1 b h2
          have := hm.1 a h1
          omega
    subst hab
    congr 1
    refine sorted_ext l m hl.2 hm.2 (fun p => ⟨fun hp => ?_, fun hp => ?_⟩)
    · have h1 := (h p).1 (by simp [hp])
      rw [List.mem_cons] at h1
      rcases h1 with rfl | h1
      · have := hl.1 p hp; omega
      · exact h1
    · have h1 := (h p).2 (by simp [hp])
      rw [List.mem_cons] at h1
      rcases h1 with rfl | h1
      · have := hm.1 p hp; omega
      · exact h1

theorem good_sorted {l : List (Int × Int)} (h : Good l) : l.Pairwise (fun p q => p.1 < q.1) := by
  rw [List.pairwise_iff_getElem]
  intro i j hi hj hij
  have h1 := (List.pairwise_iff_getElem.1 h.2 i j hi hj hij).1
  have h2 := blk_pos (h.1 _ (List.getElem_mem hi))
  omega

theorem mem_of_cov {l m : List (Int × Int)} (hl : Good l) (hm : Good m) (h : ∀ k, covL l k ↔ covL m k) {p : Int × Int} (hp : p ∈ l) : p ∈ m := by
  have hpb := hl.1 p hp
  obtain ⟨c0, c6, -⟩ := isBlk_iff.1 hpb
  have cs := sz_bd c0 c6
  obtain ⟨n, hn⟩ : ∃ n : Nat, p.2 = n := ⟨p.2.toNat, by omega⟩
  obtain ⟨q, hq, q1, q2⟩ := cover hm n p.1 (by rw [← hn]; exact hpb) (fun k h1 h2 => (h k).1 ⟨p, hp, h1, by rw [hn]; exact h2⟩)
  have hqb := hm.1 q hq
  obtain ⟨d0, d6, -⟩ := isBlk_iff.1 hqb
  have ds := sz_bd d0 d6
  obtain ⟨m', hm'⟩ : ∃ n : Nat, q.2 = n := ⟨q.2.toNat, by omega⟩
  obtain ⟨r, hr, r1, r2⟩ := cover hl m' q.1 (by rw [← hm']; exact hqb) (fun k h1 h2 => (h k).2 ⟨q, hq, h1, by rw [hm']; exact h2⟩)
  rw [← hn] at q2
  rw [← hm'] at r2
  have e := good_same hl hp hr (k := p.1) ⟨by omega, by omega⟩ ⟨by omega, by omega⟩
  subst e
  have e1 : p.1 = q.1 := by omega
  have e2 : p.2 = q.2 := sz_inj c0 c6 d0 d6 (by omega)
  have : p = q := Prod.ext e1 e2
  rw [this]
  exact hq

/-- The frames that are free tell the list. -/
theorem good_unique {l m : List (Int × Int)} (hl : Good l) (hm : Good m) (h : ∀ k, covL l k ↔ covL m k) : l = m :=
  sorted_ext l m (good_sorted hl) (good_sorted hm) (fun p => ⟨mem_of_cov hl hm h, mem_of_cov hm hl (fun k => (h k).symm)⟩)

theorem meets_iff {x y : Int} {l : List (Int × Int)} (hb : isBlk x y = true) (hA : AllBlk l) : l.any (meets x y) = true ↔ ∃ k, covL l k ∧ cov (x, y) k := by
  have hp := blk_pos (p := (x, y)) hb
  simp only at hp
  rw [List.any_eq_true]
  constructor
  · rintro ⟨p, hp', hm⟩
    have hq := blk_pos (hA p hp')
    unfold meets at hm
    simp only [Bool.and_eq_true, decide_eq_true_eq] at hm
    refine ⟨max p.1 x, ⟨p, hp', by omega, by omega⟩, ?_, ?_⟩
    · simp only; omega
    · simp only; omega
  · rintro ⟨k, ⟨p, hp', h1, h2⟩, h3, h4⟩
    simp only at h3 h4
    refine ⟨p, hp', ?_⟩
    unfold meets
    simp only [Bool.and_eq_true, decide_eq_true_eq]
    omega

theorem meets_false {x y : Int} {l : List (Int × Int)} (hb : isBlk x y = true) (hA : AllBlk l) (h : l.any (meets x y) = false) {k : Int} (h1 : covL l k) (h2 : cov (x, y) k) : False := by
  have := (meets_iff hb hA).2 ⟨k, h1, h2⟩
  rw [h] at this
  cases this

theorem good_sublist {l m : List (Int × Int)} (h : Good l) (hs : m.Sublist l) : Good m := ⟨fun p hp => h.1 p (hs.subset hp), h.2.sublist hs⟩

theorem mem_split {l : List (Int × Int)} {i : Nat} (hi : i < l.length) (p : Int × Int) : p ∈ l ↔ p = l.getD i (0, 0) ∨ p ∈ l.eraseIdx i := by
  have hg : l.getD i (0, 0) = l[i] := by rw [List.getD_eq_getElem?_getD, List.getElem?_eq_getElem hi]; rfl
  rw [hg, List.eraseIdx_eq_take_drop_succ, List.mem_append]
  conv => lhs; rw [← List.take_append_drop i l, List.mem_append, List.drop_eq_getElem_cons hi, List.mem_cons]
  constructor
  · rintro (h | h | h)
    · exact Or.inr (Or.inl h)
    · exact Or.inl h
    · exact Or.inr (Or.inr h)
  · rintro (h | h | h)
    · exact Or.inr (Or.inl h)
    · exact Or.inl h
    · exact Or.inr (Or.inr h)

/-- Two buddies are a block. -/
theorem join_blk {x y : Int} {p : Int × Int} (hp : isBlk p.1 p.2 = true) (hb : isBlk x y = true) (h : areB p.1 p.2 x y = true) :
    isBlk (min x p.1) (y + 1) = true ∧ ∀ k, cov (min x p.1, y + 1) k ↔ cov (x, y) k ∨ cov p k := by
  obtain ⟨h1, h2⟩ := (bud_iff hp hb).1 h
  obtain ⟨px, py⟩ := p
  obtain ⟨a0, a6, ax0, ax, am⟩ := isBlk_iff.1 hp
  obtain ⟨b0, b6, bx0, bx, bm⟩ := isBlk_iff.1 hb
  simp only at *
  subst h1
  have hs := sz_bd a0 a6
  have hss := sz_succ a0
  have hy : py + 1 ≤ 6 := by
    rcases ord_cases a0 a6 with rfl | rfl | rfl | rfl | rfl | rfl | rfl
    all_goals first
      | omega
      | (rw [sz6] at *; omega)
  constructor
  · refine isBlk_iff.2 ⟨by omega, hy, by omega, ?_, ?_⟩
    · rw [hss]; omega
    · rw [hss]
      rcases h2 with ⟨h3, h4⟩ | ⟨h3, h4⟩
      · rw [show min x px = px by omega]; exact h3
      · rw [show min x px = x by omega]; exact h3
  · intro k
    unfold cov
    simp only [hss]
    omega

/-- Joining goes on as it should. -/
theorem join_good : ∀ (n : Nat) (f : List (Int × Int)) (x y : Int), n = f.length → Good f → isBlk x y = true → f.any (meets x y) = false →
    Good (joinF n f x y).1 ∧ isBlk (joinF n f x y).2.1 (joinF n f x y).2.2 = true ∧ (joinF n f x y).1.any (meets (joinF n f x y).2.1 (joinF n f x y).2.2) = false ∧
    (∀ p ∈ (joinF n f x y).1, areB p.1 p.2 (joinF n f x y).2.1 (joinF n f x y).2.2 = false) ∧ (∀ k, covL (joinF n f x y).1 k ∨ cov ((joinF n f x y).2.1, (joinF n f x y).2.2) k ↔ covL f k ∨ cov (x, y) k)
  | 0, f, x, y, hn, hg, hb, hm => by
    obtain rfl : f = [] := List.eq_nil_of_length_eq_zero hn.symm
    exact ⟨hg, hb, hm, by simp [joinF], fun k => Iff.rfl⟩
  | n + 1, f, x, y, hn, hg, hb, hm => by
    have hbd := budIx_bd x y f
    by_cases hpos : 0 ≤ budIx x y f
    · have hget := budIx_get hpos
      obtain ⟨i, hi⟩ : ∃ i : Nat, budIx x y f = i := ⟨_, (Int.toNat_of_nonneg hpos).symm⟩
      have hif : i < f.length := by omega
      rw [hi, Int.toNat_natCast] at hget
      rw [joinF, if_pos hpos, hi, Int.toNat_natCast]
      obtain ⟨p, hp⟩ : ∃ p, p = f.getD i (0, 0) := ⟨_, rfl⟩
      rw [← hp] at hget ⊢
      have hpf : p ∈ f := by rw [hp, List.getD_eq_getElem?_getD, List.getElem?_eq_getElem hif]; exact List.getElem_mem hif
      have hpb := hg.1 p hpf
      obtain ⟨j1, j2⟩ := join_blk hpb hb hget
      have hge := good_sublist hg (List.eraseIdx_sublist f i)
      have hsplit : ∀ k, covL f k ↔ cov p k ∨ covL (f.eraseIdx i) k := by
        intro k
        constructor
        · rintro ⟨q, hq, hc⟩
          rcases (mem_split hif q).1 hq with h | h
          · left; rw [hp, ← h]; exact hc
          · right; exact ⟨q, h, hc⟩
        · rintro (h | ⟨q, hq, hc⟩)
          · exact ⟨p, hpf, h⟩
          · exact ⟨q, (mem_split hif q).2 (Or.inr hq), hc⟩
      have hmm : (f.eraseIdx i).any (meets (min x p.1) (y + 1)) = false := by
        rw [Bool.eq_false_iff]
        intro hc
        obtain ⟨k, hk1, hk2⟩ := (meets_iff j1 hge.1).1 hc
        rcases (j2 k).1 hk2 with h | h
        · exact meets_false hb hg.1 hm ((hsplit k).2 (Or.inr hk1)) h
        · obtain ⟨q, hq, hqc⟩ := hk1
          have hqf := (mem_split hif q).2 (Or.inr hq)
          have e := good_same hg hpf hqf h hqc
          have hlen := hg.2
          rw [List.pairwise_iff_getElem] at hlen
          obtain ⟨j, hj, hjq⟩ := List.getElem_of_mem hq
          rw [List.getElem_eraseIdx] at hjq
          have hpi : p = f[i] := by rw [hp, List.getD_eq_getElem?_getD, List.getElem?_eq_getElem hif]; rfl
          have hps := blk_pos hpb
          have hl2 := List.length_eraseIdx_of_lt hif
          split at hjq
          · have := (hlen j i (by omega) hif (by omega)).1
            rw [hjq, ← hpi, ← e] at this
            omega
          · have := (hlen i (j + 1) hif (by omega) (by omega)).1
            rw [hjq, ← hpi, ← e] at this
            omega
      obtain ⟨r1, r2, r3, r4, r5⟩ := join_good n (f.eraseIdx i) (min x p.1) (y + 1) (by rw [List.length_eraseIdx_of_lt hif]; omega) hge j1 hmm
      refine ⟨r1, r2, r3, r4, fun k => ?_⟩
      rw [r5 k, j2 k, hsplit k]
      constructor
      · rintro (h | h | h)
        · exact Or.inl (Or.inr h)
        · exact Or.inr h
        · exact Or.inl (Or.inl h)
      · rintro ((h | h) | h)
        · exact Or.inr (Or.inr h)
        · exact Or.inl h
        · exact Or.inr (Or.inl h)
    · rw [joinF, if_neg hpos]
      refine ⟨hg, hb, hm, ?_, fun k => Iff.rfl⟩
      intro p hp
      unfold budIx at hpos
      split at hpos
      · omega
      · rename_i hany
        rw [Bool.not_eq_true, List.any_eq_false] at hany
        simpa using hany p hp

theorem covL_append {l m : List (Int × Int)} {k : Int} : covL (l ++ m) k ↔ covL l k ∨ covL m k := by
  unfold covL
  simp only [List.mem_append]
  constructor
  · rintro ⟨p, hp | hp, hc⟩
    · exact Or.inl ⟨p, hp, hc⟩
    · exact Or.inr ⟨p, hp, hc⟩
  · rintro (⟨p, hp, hc⟩ | ⟨p, hp, hc⟩)
    · exact ⟨p, Or.inl hp, hc⟩
    · exact ⟨p, Or.inr hp, hc⟩

theorem covL_one {p : Int × Int} {k : Int} : covL [p] k ↔ cov p k := by simp [covL]

theorem ins_good {f : List (Int × Int)} {x y : Int} (hg : Good f) (hb : isBlk x y = true) (hm : f.any (meets x y) = false) (hn : ∀ p ∈ f, areB p.1 p.2 x y = false) :
    Good (f.take (insIx x f) ++ [(x, y)] ++ f.drop (insIx x f)) ∧ ∀ k, covL (f.take (insIx x f) ++ [(x, y)] ++ f.drop (insIx x f)) k ↔ covL f k ∨ cov (x, y) k := by
  have hbp := blk_pos (p := (x, y)) hb
  simp only at hbp
  have hlo : ∀ p ∈ f.take (insIx x f), p.1 < x := by
    intro p hp
    rw [List.mem_take_iff_getElem] at hp
    obtain ⟨j, hj, rfl⟩ := hp
    have := List.not_of_lt_findIdx (p := fun p => !decide (p.1 < x)) (xs := f) (i := j) (by unfold insIx at hj; omega)
    simpa using this
  have hhi : ∀ p ∈ f.drop (insIx x f), x ≤ p.1 := by
    intro p hp
    obtain ⟨j, hj, rfl⟩ := List.getElem_of_mem hp
    rw [List.getElem_drop]
    rw [List.length_drop] at hj
    have hlt : f.findIdx (fun p => !decide (p.1 < x)) < f.length := by unfold insIx at hj; omega
    have h0 := List.findIdx_getElem (w := hlt)
    simp only [Bool.not_eq_true', decide_eq_false_iff_not] at h0
    by_cases hj0 : j = 0
    · subst hj0
      simp only [insIx, Nat.add_zero]
      omega
    · have := List.pairwise_iff_getElem.1 (good_sorted hg) (insIx x f) (insIx x f + j) hlt (by omega) (by omega)
      have e : f[insIx x f] = f[f.findIdx (fun p => !decide (p.1 < x))] := rfl
      rw [e] at this
      omega
  have hdis : ∀ p ∈ f, p.1 + sz p.2 ≤ x ∨ x + sz y ≤ p.1 := by
    intro p hp
    rw [List.any_eq_false] at hm
    have := hm p hp
    unfold meets at this
    simp only [Bool.and_eq_true, decide_eq_true_eq] at this
    omega
  have hsub1 : ∀ p ∈ f.take (insIx x f), p ∈ f := fun p hp => List.mem_of_mem_take hp
  have hsub2 : ∀ p ∈ f.drop (insIx x f), p ∈ f := fun p hp => List.mem_of_mem_drop hp
  refine ⟨⟨?_, ?_⟩, fun k => ?_⟩
  · intro p hp
    rw [List.mem_append, List.mem_append, List.mem_singleton] at hp
    rcases hp with (hp | rfl) | hp
    · exact hg.1 p (hsub1 p hp)
    · exact hb
    · exact hg.1 p (hsub2 p hp)
  · have hpw := hg.2
    rw [← List.take_append_drop (insIx x f) f, List.pairwise_append] at hpw
    obtain ⟨w1, w2, w3⟩ := hpw
    rw [List.pairwise_append, List.pairwise_append]
    refine ⟨⟨w1, List.pairwise_singleton _ _, ?_⟩, w2, ?_⟩
    · intro p hp q hq
      rw [List.mem_singleton] at hq
      subst hq
      have h1 := hlo p hp
      have h2 := hdis p (hsub1 p hp)
      have h3 := blk_pos (hg.1 p (hsub1 p hp))
      exact ⟨by simp only; omega, hn p (hsub1 p hp)⟩
    · intro p hp q hq
      rw [List.mem_append, List.mem_singleton] at hp
      rcases hp with hp | rfl
      · exact w3 p hp q hq
      · have h1 := hhi q hq
        have h2 := hdis q (hsub2 q hq)
        have h3 := blk_pos (hg.1 q (hsub2 q hq))
        exact ⟨by simp only; omega, bud_symm (hg.1 q (hsub2 q hq)) hb (hn q (hsub2 q hq))⟩
  · rw [covL_append, covL_append, covL_one]
    have : covL f k ↔ covL (f.take (insIx x f)) k ∨ covL (f.drop (insIx x f)) k := by
      rw [← covL_append, List.take_append_drop]
    rw [this]
    constructor
    · rintro ((h | h) | h)
      · exact Or.inl (Or.inl h)
      · exact Or.inr h
      · exact Or.inl (Or.inr h)
    · rintro ((h | h) | h)
      · exact Or.inl (Or.inl h)
      · exact Or.inr h
      · exact Or.inl (Or.inr h)

/-- What Give leaves free is right, and its frames are those of the list and of the block. -/
theorem give_good {l : List (Int × Int)} {x y : Int} (hr : rightB l = true) (hb : isBlk x y = true) (hm : l.any (meets x y) = false) :
    Good (giveL l x y) ∧ ∀ k, covL (giveL l x y) k ↔ covL l k ∨ cov (x, y) k := by
  have hL : giveL l x y = giveIn (giveJ l x y) := by simp [giveL, hr, hb, hm]
  obtain ⟨r1, r2, r3, r4, r5⟩ := join_good l.length l x y rfl (good_of_right hr) hb hm
  obtain ⟨s1, s2⟩ := ins_good r1 r2 r3 r4
  rw [hL]
  unfold giveIn giveJ
  exact ⟨s1, fun k => (s2 k).trans (r5 k)⟩

end Go.Proofs.Yticmloddkngfnah

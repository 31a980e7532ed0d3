/- Processes as they seem: what one thing done makes of them and answers; that rights hold, that nobody changes but who does it, that a child is like its parent, that what is sealed stays, that what was stored is loaded. -/
import Derived.Test.YtbiipnojhjhejaaJMath
import Derived.Test.YtbiipnojhjhejaaJCheck
namespace Go.Proofs.Ytbiipnojhjhejaa
set_option maxRecDepth 100000
set_option linter.unusedSimpArgs false
set_option linter.unusedVariables false

/-- A process: whether it lives, its regions, its keys, and what stands at each address and granule. -/
structure Pr where
  live : Bool
  L : List R6
  K : K8
  B : Nat → Int
  T : Nat → Int

def noP : Pr := ⟨false, [], no8, fun _ => 0, fun _ => 0⟩
def firstP : Pr := ⟨true, [], (true, 0, false, 0, false, 0, false, 0), fun _ => 0, fun _ => 0⟩

/-- All processes: those from 0 to 3. -/
abbrev W4 := Nat → Pr
def newW : W4 := fun k => if k = 0 then firstP else noP
def upd (S : W4) (k : Nat) (p : Pr) : W4 := fun i => if i = k then p else S i

theorem upd_self (S : W4) (k : Nat) : upd S k (S k) = S := by
  funext i
  unfold upd
  split
  · rename_i h; rw [h]
  · rfl
theorem upd_self' (S : W4) (k : Nat) (p : Pr) : upd (upd S k p) k p = upd S k p := by
  funext i
  unfold upd
  split <;> rfl
theorem upd_at (S : W4) (k : Nat) (p : Pr) : upd S k p k = p := by simp [upd]
theorem upd_ne {S : W4} {k i : Nat} {p : Pr} (h : i ≠ k) : upd S k p i = S i := by simp [upd, h]

/-- What is done. -/
structure O12 where
  kind : Int
  proc : Int
  page : Int
  count : Int
  rights : Int
  key : Int
  tagged : Bool
  draw : Int
  addr : Int
  size : Int
  value : Int
  tag : Int

/-- What comes of it: Err, Value, Fault, At. -/
abbrev An := Int × Int × Int × Int

def allC (S : W4) : Int := cnt (S 0).L 0 64 + cnt (S 1).L 0 64 + cnt (S 2).L 0 64 + cnt (S 3).L 0 64
def room (S : W4) (c : Int) : Bool := decide (allC S + c ≤ 64)

/-- Why no page may have such rights and key. -/
def wgE (p : Pr) (o : O12) : Int := if wrg o.rights = 0 then if tk p.K o.key then 0 else 3 else wrg o.rights

def mapE (S : W4) (p : Pr) (o : O12) : Int := if o.count < 1 ∨ 64 < o.count then 2 else if wgE p o = 0 then if room S o.count then choE p.L o.count else 4 else wgE p o
def mapF (p : Pr) (o : O12) : Int := choV p.L o.count o.draw
def mapP (p : Pr) (o : O12) : Pr :=
  { p with
    L := addL p.L (mapF p o, mapF p o + o.count, o.rights, o.key, o.tagged, false)
    B := fun a => if mapF p o * 64 ≤ (a : Int) ∧ (a : Int) < (mapF p o + o.count) * 64 then 0 else p.B a
    T := fun a => if mapF p o * 4 ≤ (a : Int) ∧ (a : Int) < (mapF p o + o.count) * 4 then 0 else p.T a }

/-- Whether the pages are some that there can be; are all there; one of them is sealed. -/
def isS (o : O12) : Bool := decide (0 ≤ o.page) && decide (1 ≤ o.count) && decide (o.page + o.count ≤ 64)
def thr (p : Pr) (o : O12) : Bool := (List.range o.count.toNat).all fun i => (atR p.L (o.page + (i : Int))).isSome
def sld (p : Pr) (o : O12) : Bool := (List.range o.count.toNat).any fun i => ((atR p.L (o.page + (i : Int))).getD zA).2.2.2

def unmE (p : Pr) (o : O12) : Int := if isS o then if sld p o then 7 else wrE p.L o.page (o.page + o.count) else 2
def proE (p : Pr) (o : O12) : Int := if isS o then if wgE p o = 0 then if thr p o then if sld p o then 7 else chE p.L o.page (o.page + o.count) else 1 else wgE p o else 2
def seaE (p : Pr) (o : O12) : Int := if isS o then if thr p o then chE p.L o.page (o.page + o.count) else 1 else 2

def unmP (p : Pr) (o : O12) : Pr := { p with L := cutL p.L o.page (o.page + o.count) }
def proP (p : Pr) (o : O12) : Pr := { p with L := chL (guA o.rights o.key) p.L o.page (o.page + o.count) }
def seaP (p : Pr) (o : O12) : Pr := { p with L := chL seA p.L o.page (o.page + o.count) }

def heldK (p : Pr) (k : Int) : Bool := p.L.any fun x => decide (x.2.2.2.1 = k)
def kfE (p : Pr) (o : O12) : Int := if frE p.K o.key = 0 then if heldK p o.key then 7 else 0 else frE p.K o.key

/-- The least one that does not live (4: all live). -/
def ded (S : W4) : Nat := if (S 0).live then if (S 1).live then if (S 2).live then if (S 3).live then 4 else 3 else 2 else 1 else 0
def forE (S : W4) (p : Pr) : Int := if room S (cnt p.L 0 64) then if ded S = 4 then 4 else 0 else 4

/-- How many are touched, how many there may be, how large each is. -/
def tMany (o : O12) : Int := if o.kind = 13 then o.count else o.size
def tMost (o : O12) : Int := if o.kind = 13 then 256 else 4
def tEach (o : O12) : Int := if o.kind = 13 then 16 else 1
def tchE (o : O12) : Int :=
  if o.tag < 0 ∨ 15 < o.tag ∨ tMany o < 1 ∨ tMost o < tMany o then 2
  else if o.addr < 0 ∨ 4096 - tMany o * tEach o < o.addr ∨ o.addr % tEach o ≠ 0 then 2 else 0
/-- The first address that is touched, and the one behind the last. -/
def tF (o : O12) : Nat := o.addr.toNat
def tT (o : O12) : Nat := (o.addr + tMany o * tEach o).toNat

def wayK (k : Int) : Int := if k = 10 then 1 else if k = 12 then 4 else 2

/-- The tags of granules f to f + n - 1. -/
def tgs (p : Pr) (f n : Nat) : List Int := (List.range n).map fun i => p.T (f + i)

def pgA (a : A4) (K : K8) (y : Int) : Int := pg a.1 a.2.1 K.2.1 K.2.2.2.1 K.2.2.2.2.2.1 K.2.2.2.2.2.2.2 y

/-- The fault at addresses f to t - 1, of one page, and where. -/
def pfl (p : Pr) (o : O12) (f t : Nat) : Int × Int :=
  match atR p.L ((f / 64 : Nat) : Int) with
  | none => (1, f)
  | some a =>
    if pgA a p.K (wayK o.kind) = 0 then
      if o.kind = 13 then if a.2.2.1 then (0, 0) else (4, f)
      else if tgF a.2.2.1 (wayK o.kind) (tgs p (f / 16) ((t - 1) / 16 + 1 - f / 16)) o.tag = 0 then (0, 0)
        else (tgF a.2.2.1 (wayK o.kind) (tgs p (f / 16) ((t - 1) / 16 + 1 - f / 16)) o.tag, max f (((f / 16 : Nat) + tgK a.2.2.1 (wayK o.kind) (tgs p (f / 16) ((t - 1) / 16 + 1 - f / 16)) o.tag) * 16))
    else (pgA a p.K (wayK o.kind), f)

/-- The first fault, page by page, of n pages at most. -/
def flt (p : Pr) (o : O12) : Nat → Nat → Nat → Int × Int
  | 0, _, _ => (0, 0)
  | n + 1, f, t => if f < t then if (pfl p o f (min t ((f / 64 + 1) * 64))).1 = 0 then flt p o n (min t ((f / 64 + 1) * 64)) t else pfl p o f (min t ((f / 64 + 1) * 64)) else (0, 0)

def markT (p : Pr) (o : O12) : Pr := { p with T := fun g => if tF o / 16 ≤ g ∧ g < tT o / 16 then o.tag else p.T g }
def storB (p : Pr) (o : O12) : Pr := { p with B := fun a => if tF o ≤ a ∧ a < tT o then byteK o.value (a - tF o) else p.B a }

/-- The number that k bytes from f on are. -/
def numB (p : Pr) (f : Nat) : Nat → Int
  | 0 => 0
  | k + 1 => numB p f k + p.B (f + k) * 256 ^ k

/-- What a look makes of p, and answers. -/
def lookP (p : Pr) (o : O12) : Pr := if o.kind = 13 then markT p o else if o.kind = 11 then storB p o else p
def lookV (p : Pr) (o : O12) : Int := if o.kind = 13 ∨ o.kind = 11 then 0 else numB p (tF o) (tT o - tF o)
def look14 (p : Pr) (o : O12) : Pr × An :=
  if tchE o = 0 then
    if (flt p o 65 (tF o) (tT o)).1 = 0 then (lookP p o, 0, lookV p o, 0, 0)
    else (p, 8, 0, (flt p o 65 (tF o) (tT o)).1, (flt p o 65 (tF o) (tT o)).2)
  else (p, 2, 0, 0, 0)

/-- What else a process does to itself: what it is then, Value, and Err. -/
def own14 (S : W4) (p : Pr) (o : O12) : Pr × Int × Int :=
  if o.kind = 1 then if mapE S p o = 0 then (mapP p o, mapF p o, 0) else (p, 0, mapE S p o)
  else if o.kind = 2 then if unmE p o = 0 then (unmP p o, 0, 0) else (p, 0, unmE p o)
  else if o.kind = 3 then if proE p o = 0 then (proP p o, 0, 0) else (p, 0, proE p o)
  else if o.kind = 4 then if seaE p o = 0 then (seaP p o, 0, 0) else (p, 0, seaE p o)
  else if o.kind = 5 then if nwE p.K = 0 then ({ p with K := nwL p.K }, nwN p.K, 0) else (p, 0, nwE p.K)
  else if o.kind = 6 then if kfE p o = 0 then ({ p with K := frL p.K o.key }, 0, 0) else (p, 0, kfE p o)
  else if o.kind = 7 then if stE p.K o.key o.rights = 0 then ({ p with K := stL p.K o.key o.rights }, 0, 0) else (p, 0, stE p.K o.key o.rights)
  else if o.kind = 9 then (noP, 0, 0)
  else (p, 0, 0)

def fork14 (S : W4) (p : Pr) : W4 × Int × Int := if forE S p = 0 then (upd S (ded S) p, ded S, 0) else (S, 0, 4)

def isLk (k : Int) : Bool := decide (k = 10) || decide (k = 11) || decide (k = 12) || decide (k = 13)

/-- One thing done: all processes then, and the answer. -/
def do14 (S : W4) (o : O12) : W4 × An :=
  if o.kind < 1 ∨ 14 < o.kind then (S, 5, 0, 0, 0)
  else if o.kind = 14 then (S, 0, 0, 0, 0)
  else if o.proc < 0 ∨ 3 < o.proc ∨ (S o.proc.toNat).live = false then (S, 3, 0, 0, 0)
  else if isLk o.kind then (upd S o.proc.toNat (look14 (S o.proc.toNat) o).1, (look14 (S o.proc.toNat) o).2)
  else if o.kind = 8 then ((fork14 S (S o.proc.toNat)).1, (fork14 S (S o.proc.toNat)).2.2, (fork14 S (S o.proc.toNat)).2.1, 0, 0)
  else (upd S o.proc.toNat (own14 S (S o.proc.toNat) o).1, (own14 S (S o.proc.toNat) o).2.2, (own14 S (S o.proc.toNat) o).2.1, 0, 0)

/-- One behind the other. -/
def run14 : W4 → List O12 → W4 × List An
  | S, [] => (S, [])
  | S, o :: r => ((run14 (do14 S o).1 r).1, (do14 S o).2 :: (run14 (do14 S o).1 r).2)

theorem run14_len : ∀ (l : List O12) (S : W4), (run14 S l).2.length = l.length
  | [], _ => rfl
  | o :: r, S => by simp [run14, run14_len r]

theorem run14_append : ∀ (l m : List O12) (S : W4), run14 S (l ++ m) = ((run14 (run14 S l).1 m).1, (run14 S l).2 ++ (run14 (run14 S l).1 m).2)
  | [], m, S => rfl
  | o :: r, m, S => by rw [List.cons_append, run14, run14, run14_append r m]; rfl

theorem run14_snoc (l : List O12) (o : O12) (S : W4) : run14 S (l ++ [o]) = ((do14 (run14 S l).1 o).1, (run14 S l).2 ++ [(do14 (run14 S l).1 o).2]) := run14_append l [o] S

/-- What holds of a process at each time. -/
structure PInv (p : Pr) : Prop where
  good : Good 0 none p.L
  just : ∀ q a, atR p.L q = some a → wrg a.1 = 0 ∧ tk p.K a.2.1 = true
  dead : p.live = false → p.L = []
  byt : ∀ a, 0 ≤ p.B a ∧ p.B a ≤ 255
  tag : ∀ g, 0 ≤ p.T g ∧ p.T g ≤ 15

def Inv (S : W4) : Prop := (∀ k, PInv (S k)) ∧ allC S ≤ 64

theorem pn_mono {g h : Int → Bool} : ∀ n, (∀ p : Nat, p < n → g p = true → h p = true) → pn g n ≤ pn h n
  | 0, _ => Int.le_refl _
  | n + 1, hh => by
    have ih := pn_mono n (fun p hp => hh p (by omega))
    have := hh n (by omega)
    rw [pn, pn]
    split
    · rename_i h1; rw [if_pos (this h1)]; omega
    · split <;> omega

theorem cnt_cut {l : List R6} {f t : Int} (h : wrE l f t = 0) : cnt (cutL l f t) 0 64 ≤ cnt l 0 64 := by
  obtain ⟨h1, h2, h3, h4⟩ := cut_pages h
  rw [cnt_all h1, cnt_all h3]
  refine pn_mono 64 (fun p _ hp => ?_)
  rw [h4] at hp
  split at hp
  · cases hp
  · exact hp

theorem cnt_pos {l : List R6} : 0 ≤ cnt l 0 64 := (cnt_bd (by decide) l).1

theorem allC_upd (S : W4) {k : Nat} (hk : k < 4) (p : Pr) : allC (upd S k p) = allC S - cnt (S k).L 0 64 + cnt p.L 0 64 := by
  match k, hk with
  | 0, _ => simp [allC, upd] <;> omega
  | 1, _ => simp [allC, upd] <;> omega
  | 2, _ => simp [allC, upd] <;> omega
  | 3, _ => simp [allC, upd] <;> omega

theorem ite_bd {c : Prop} [Decidable c] {x y lo hi : Int} (hx : lo ≤ x ∧ x ≤ hi) (hy : lo ≤ y ∧ y ≤ hi) : lo ≤ (if c then x else y) ∧ (if c then x else y) ≤ hi := by
  split
  · exact hx
  · exact hy

theorem inv_upd {S : W4} (h : Inv S) {k : Nat} (hk : k < 4) {p : Pr} (hp : PInv p) (hc : allC S - cnt (S k).L 0 64 + cnt p.L 0 64 ≤ 64) : Inv (upd S k p) := by
  refine ⟨fun i => ?_, by rw [allC_upd S hk]; exact hc⟩
  unfold upd
  split
  · exact hp
  · exact h.1 i

theorem pinv_no : PInv noP := ⟨trivial, fun q a h => (by cases h), fun _ => rfl, fun _ => ⟨Int.le_refl 0, (by decide : (0 : Int) ≤ 255)⟩, fun _ => ⟨Int.le_refl 0, (by decide : (0 : Int) ≤ 15)⟩⟩

theorem inv_new : Inv newW := by
  refine ⟨fun k => ?_, by decide⟩
  unfold newW
  split
  · exact ⟨trivial, fun q a h => (by cases h), fun h => (by cases h), fun _ => ⟨Int.le_refl 0, (by decide : (0 : Int) ≤ 255)⟩, fun _ => ⟨Int.le_refl 0, (by decide : (0 : Int) ≤ 15)⟩⟩
  · exact pinv_no

theorem wgE_ok {p : Pr} {o : O12} (h : wgE p o = 0) : wrg o.rights = 0 ∧ tk p.K o.key = true := by
  unfold wgE at h
  split at h
  · rename_i h1
    split at h
    · rename_i h2; exact ⟨h1, h2⟩
    · cases h
  · rename_i h1; exact absurd h h1

/-- What OpMap does. -/
theorem mapE_ok {S : W4} {p : Pr} {o : O12} (h : mapE S p o = 0) :
    (1 ≤ o.count ∧ o.count ≤ 64) ∧ wgE p o = 0 ∧ allC S + o.count ≤ 64 ∧ choE p.L o.count = 0 := by
  unfold mapE at h
  split at h
  · cases h
  · rename_i h1
    split at h
    · rename_i h2
      split at h
      · rename_i h3
        exact ⟨by omega, h2, by simpa [room] using h3, h⟩
      · cases h
    · rename_i h2; exact absurd h h2

theorem map_said {S : W4} {p : Pr} {o : O12} (h : mapE S p o = 0) :
    (0 ≤ mapF p o ∧ mapF p o + o.count ≤ 64 ∧ 1 ≤ o.count) ∧ addE p.L (mapF p o, mapF p o + o.count, o.rights, o.key, o.tagged, false) = 0 ∧ Good 0 none (mapP p o).L ∧
      (∀ q, iv (mapF p o) (mapF p o + o.count) q = true → atR p.L q = none) ∧
      (∀ q, atR (mapP p o).L q = if iv (mapF p o) (mapF p o + o.count) q then some (o.rights, o.key, o.tagged, false) else atR p.L q) ∧ cnt (mapP p o).L 0 64 = cnt p.L 0 64 + o.count := by
  obtain ⟨h1, h2, h3, h4⟩ := mapE_ok h
  obtain ⟨g1, -, -, -, g2, g3, g4⟩ := guard_said (d := o.draw) h4 (o.rights, o.key, o.tagged, false)
  obtain ⟨a1, a2, a3, a4, a5⟩ := add_pages g1
  have b := (back_said g1).2.2.2
  refine ⟨⟨g2, g3, g4⟩, g1, a4, a3, a5, ?_⟩
  show cnt (addL p.L _) 0 64 = _
  unfold mapF
  rw [b]
  simp only
  omega

theorem isS_iff {o : O12} : isS o = true ↔ 0 ≤ o.page ∧ 1 ≤ o.count ∧ o.page + o.count ≤ 64 := by simp [isS, and_assoc]

theorem unmE_ok {p : Pr} {o : O12} (h : unmE p o = 0) : isS o = true ∧ sld p o = false ∧ wrE p.L o.page (o.page + o.count) = 0 := by
  unfold unmE at h
  split at h
  · rename_i h1
    split at h
    · cases h
    · rename_i h2; exact ⟨h1, by simpa using h2, h⟩
  · cases h

theorem proE_ok {p : Pr} {o : O12} (h : proE p o = 0) : isS o = true ∧ wgE p o = 0 ∧ thr p o = true ∧ sld p o = false ∧ chE p.L o.page (o.page + o.count) = 0 := by
  unfold proE at h
  split at h
  · rename_i h1
    split at h
    · rename_i h2
      split at h
      · rename_i h3
        split at h
        · cases h
        · rename_i h4; exact ⟨h1, h2, h3, by simpa using h4, h⟩
      · cases h
    · rename_i h2; exact absurd h h2
  · cases h

theorem seaE_ok {p : Pr} {o : O12} (h : seaE p o = 0) : isS o = true ∧ thr p o = true ∧ chE p.L o.page (o.page + o.count) = 0 := by
  unfold seaE at h
  split at h
  · rename_i h1
    split at h
    · rename_i h2; exact ⟨h1, h2, h⟩
    · cases h
  · cases h

theorem sld_no {p : Pr} {o : O12} (h : sld p o = false) {q : Int} (h1 : o.page ≤ q) (h2 : q < o.page + o.count) {a : A4} (ha : atR p.L q = some a) : a.2.2.2 = false := by
  unfold sld at h
  rw [List.any_eq_false] at h
  have := h (q - o.page).toNat (by rw [List.mem_range]; omega)
  rw [show o.page + ((q - o.page).toNat : Int) = q from by omega, ha] at this
  simpa using this

/-! Keys: those that are taken stay so, but one that is given back. -/
theorem tk_put_ne {l : K8} {k j : Int} {t : Bool} {d : Int} (h : j ≠ k) : tk (put l k t d) j = tk l j := by
  obtain ⟨t0, d0, t1, d1, t2, d2, t3, d3⟩ := l
  unfold put
  repeat' split
  all_goals (try subst_vars)
  all_goals (unfold tk; simp [h])

theorem tk_put_at {l : K8} {k : Int} {t : Bool} {d : Int} (h : k = 0 ∨ k = 1 ∨ k = 2 ∨ k = 3) : tk (put l k t d) k = t := by
  obtain ⟨t0, d0, t1, d1, t2, d2, t3, d3⟩ := l
  rcases h with rfl | rfl | rfl | rfl <;> simp [tk, put]

theorem nw_keeps {l : K8} (h : nwE l = 0) {j : Int} (hj : tk l j = true) : tk (nwL l) j = true := by
  unfold nwE at h
  unfold nwL
  split at h
  · cases h
  · rename_i h4
    rw [if_neg h4]
    rcases fst4_cases l with h1 | ⟨h1, h2⟩
    · exact absurd h1.1 h4
    · rw [tk_put_ne (fun e => by rw [e, h2] at hj; cases hj)]; exact hj

theorem fr_keeps {l : K8} {k : Int} (h : frE l k = 0) {j : Int} (hj : tk l j = true) (hne : j ≠ k) : tk (frL l k) j = true := by
  unfold frE at h
  unfold frL
  split at h
  · cases h
  · rename_i h4
    rw [if_neg h4, tk_put_ne hne]; exact hj

theorem st_keeps {l : K8} {k d : Int} (h : stE l k d = 0) {j : Int} (hj : tk l j = true) : tk (stL l k d) j = true := by
  rw [stL_ok h, tk_put (stE_zero.1 h).1]; exact hj

theorem held_no {p : Pr} {k : Int} (h : heldK p k = false) {q : Int} {a : A4} (ha : atR p.L q = some a) : a.2.1 ≠ k := by
  unfold heldK at h
  rw [List.any_eq_false] at h
  have hm : ∀ (l : List R6), atR l q = some a → ∃ x ∈ l, x.2.2 = a := by
    intro l
    induction l with
    | nil => intro h; cases h
    | cons y s ih =>
      intro h
      rw [atR] at h
      split at h
      · exact ⟨y, List.mem_cons_self, Option.some.inj h⟩
      · obtain ⟨x, hx, he⟩ := ih h
        exact ⟨x, List.mem_cons_of_mem _ hx, he⟩
  obtain ⟨x, hx, rfl⟩ := hm _ ha
  simpa using h x hx

theorem kfE_ok {p : Pr} {o : O12} (h : kfE p o = 0) : frE p.K o.key = 0 ∧ heldK p o.key = false := by
  unfold kfE at h
  split at h
  · rename_i h1
    split at h
    · cases h
    · rename_i h2; exact ⟨h1, by simpa using h2⟩
  · rename_i h1; exact absurd h h1

theorem tchE_ok {o : O12} (h : tchE o = 0) : (0 ≤ o.tag ∧ o.tag ≤ 15) ∧ (1 ≤ tMany o ∧ tMany o ≤ tMost o) ∧ 0 ≤ o.addr ∧ o.addr ≤ 4096 - tMany o * tEach o ∧ o.addr % tEach o = 0 := by
  unfold tchE at h
  split at h
  · cases h
  · split at h
    · cases h
    · rename_i h1 h2
      exact ⟨by omega, by omega, by omega, by omega, Decidable.byContradiction fun h3 => h2 (Or.inr (Or.inr h3))⟩

/-- All that a process does to itself keeps what holds. -/
theorem pinv_look {p : Pr} (h : PInv p) (o : O12) : PInv (look14 p o).1 ∧ (look14 p o).1.L = p.L := by
  unfold look14
  split
  · rename_i ht
    split
    · unfold lookP
      split
      · refine ⟨⟨h.good, h.just, h.dead, h.byt, fun g => ?_⟩, rfl⟩
        exact ite_bd (tchE_ok ht).1 (h.tag g)
      · split
        · refine ⟨⟨h.good, h.just, h.dead, fun a => ?_, h.tag⟩, rfl⟩
          exact ite_bd (byteK_bd _ _) (h.byt a)
        · exact ⟨h, rfl⟩
    · exact ⟨h, rfl⟩
  · exact ⟨h, rfl⟩

theorem live_false {p : Pr} {l : List R6} (hl : p.live = true) : p.live = false → l = [] := fun h => by rw [hl] at h; cases h

theorem pinv_own {S : W4} {p : Pr} (h : PInv p) (hl : p.live = true) (o : O12) (hs : allC S ≤ 64) :
    PInv (own14 S p o).1 ∧ allC S - cnt p.L 0 64 + cnt (own14 S p o).1.L 0 64 ≤ 64 := by
  have hz : allC S - cnt p.L 0 64 + cnt p.L 0 64 ≤ 64 := by omega
  unfold own14
  split
  · split
    · rename_i he
      obtain ⟨⟨f1, f2, f3⟩, -, m1, m2, m3, m4⟩ := map_said he
      obtain ⟨-, w1, w2, -⟩ := mapE_ok he
      have hw := wgE_ok w1
      refine ⟨⟨m1, fun q a ha => ?_, live_false hl, fun a => ?_, fun g => ?_⟩, by simp only; rw [m4]; omega⟩
      · simp only at ha
        rw [m3] at ha
        split at ha
        · cases ha; exact hw
        · exact h.just q a ha
      · exact ite_bd ⟨by decide, by decide⟩ (h.byt a)
      · exact ite_bd ⟨by decide, by decide⟩ (h.tag g)
    · exact ⟨h, hz⟩
  split
  · split
    · rename_i he
      obtain ⟨u1, u2, u3⟩ := unmE_ok he
      obtain ⟨c1, c2, c3, c4⟩ := cut_pages u3
      have := cnt_cut u3
      refine ⟨⟨c3, fun q a ha => ?_, live_false hl, h.byt, h.tag⟩, by simp only [unmP]; omega⟩
      simp only [unmP] at ha
      rw [c4] at ha
      split at ha
      · cases ha
      · exact h.just q a ha
    · exact ⟨h, hz⟩
  split
  · split
    · rename_i he
      obtain ⟨u1, u2, u3, u4, u5⟩ := proE_ok he
      obtain ⟨c1, c2, c3, c4, c5⟩ := ch_pages (φ := guA o.rights o.key) u5
      have := (pages_said (φ := guA o.rights o.key) u5).2
      have hw := wgE_ok u2
      refine ⟨⟨c4, fun q a ha => ?_, live_false hl, h.byt, h.tag⟩, by simp only [proP]; omega⟩
      simp only [proP] at ha
      rw [c5] at ha
      split at ha
      · cases hq : atR p.L q with
        | none => rw [hq] at ha; cases ha
        | some b => rw [hq] at ha; cases ha; exact hw
      · exact h.just q a ha
    · exact ⟨h, hz⟩
  split
  · split
    · rename_i he
      obtain ⟨u1, u2, u5⟩ := seaE_ok he
      obtain ⟨c1, c2, c3, c4, c5⟩ := ch_pages (φ := seA) u5
      have := (pages_said (φ := seA) u5).2
      refine ⟨⟨c4, fun q a ha => ?_, live_false hl, h.byt, h.tag⟩, by simp only [seaP]; omega⟩
      simp only [seaP] at ha
      rw [c5] at ha
      split at ha
      · cases hq : atR p.L q with
        | none => rw [hq] at ha; cases ha
        | some b => rw [hq] at ha; cases ha; exact h.just q b hq
      · exact h.just q a ha
    · exact ⟨h, hz⟩
  split
  · split
    · rename_i he
      exact ⟨⟨h.good, fun q a ha => ⟨(h.just q a ha).1, nw_keeps he (h.just q a ha).2⟩, h.dead, h.byt, h.tag⟩, hz⟩
    · exact ⟨h, hz⟩
  split
  · split
    · rename_i he
      obtain ⟨k1, k2⟩ := kfE_ok he
      exact ⟨⟨h.good, fun q a ha => ⟨(h.just q a ha).1, fr_keeps k1 (h.just q a ha).2 (held_no k2 ha)⟩, h.dead, h.byt, h.tag⟩, hz⟩
    · exact ⟨h, hz⟩
  split
  · split
    · rename_i he
      exact ⟨⟨h.good, fun q a ha => ⟨(h.just q a ha).1, st_keeps he (h.just q a ha).2⟩, h.dead, h.byt, h.tag⟩, hz⟩
    · exact ⟨h, hz⟩
  split
  · have := cnt_pos (l := p.L)
    refine ⟨pinv_no, ?_⟩
    show _ + cnt [] 0 64 ≤ 64
    rw [cnt]
    omega
  · exact ⟨h, hz⟩

theorem ded_lt {S : W4} (h : ded S ≠ 4) : ded S < 4 ∧ (S (ded S)).live = false := by
  unfold ded at *
  split
  · split
    · split
      · split
        · simp_all
        · rename_i h; exact ⟨by decide, by simpa using h⟩
      · rename_i h; exact ⟨by decide, by simpa using h⟩
    · rename_i h; exact ⟨by decide, by simpa using h⟩
  · rename_i h; exact ⟨by decide, by simpa using h⟩

theorem forE_ok {S : W4} {p : Pr} (h : forE S p = 0) : allC S + cnt p.L 0 64 ≤ 64 ∧ ded S < 4 ∧ (S (ded S)).live = false := by
  unfold forE at h
  split at h
  · rename_i h1
    split at h
    · cases h
    · rename_i h2; exact ⟨by simpa [room] using h1, ded_lt h2⟩
  · cases h

theorem inv_do {S : W4} (h : Inv S) (o : O12) : Inv (do14 S o).1 := by
  unfold do14
  split
  · exact h
  split
  · exact h
  split
  · exact h
  rename_i hp
  have hk : o.proc.toNat < 4 := by omega
  have hl : (S o.proc.toNat).live = true := by
    cases hh : (S o.proc.toNat).live with
    | true => rfl
    | false => exact absurd (Or.inr (Or.inr hh)) hp
  split
  · obtain ⟨h1, h2⟩ := pinv_look (h.1 o.proc.toNat) o
    have := h.2
    exact inv_upd h hk h1 (by rw [h2]; omega)
  split
  · unfold fork14
    split
    · rename_i hf
      obtain ⟨f1, f2, f3⟩ := forE_ok hf
      have hd := (h.1 (ded S)).dead f3
      exact inv_upd h f2 (h.1 _) (by rw [hd, cnt]; omega)
    · exact h
  · obtain ⟨h1, h2⟩ := pinv_own (h.1 o.proc.toNat) hl o h.2
    exact inv_upd h hk h1 h2

theorem inv_run : ∀ {l : List O12} {S : W4}, Inv S → Inv (run14 S l).1
  | [], _, h => h
  | o :: r, S, h => inv_run (l := r) (inv_do h o)

/-- NOBODY SEES WHAT ANOTHER ONE DOES. -/
theorem look_err {p : Pr} {o : O12} (h : (look14 p o).2.1 ≠ 0) : (look14 p o).1 = p := by
  unfold look14 at *
  split
  · rename_i h1
    rw [if_pos h1] at h
    split
    · rename_i h2
      rw [if_pos h2] at h
      exact absurd rfl h
    · rfl
  · rfl

theorem own_err {S : W4} {p : Pr} {o : O12} (h : (own14 S p o).2.2 ≠ 0) : (own14 S p o).1 = p := by
  revert h
  unfold own14
  repeat' split
  all_goals (intro h; first | rfl | exact absurd rfl h)

theorem do_err {S : W4} {o : O12} (h : (do14 S o).2.1 ≠ 0) : (do14 S o).1 = S := by
  revert h
  unfold do14
  split
  · intro _; rfl
  split
  · intro _; rfl
  split
  · intro _; rfl
  split
  · intro h
    simp only
    rw [look_err h, upd_self]
  split
  · unfold fork14
    split
    · intro h; exact absurd rfl h
    · intro _; rfl
  · intro h
    simp only
    rw [own_err h, upd_self]

theorem do_apart {S : W4} {o : O12} (hk : o.kind ≠ 8) {i : Nat} (hi : (i : Int) ≠ o.proc) : (do14 S o).1 i = S i := by
  unfold do14
  split
  · rfl
  split
  · rfl
  split
  · rfl
  split
  · exact upd_ne (by omega)
  exact upd_ne (by omega)

/-- A CHILD IS LIKE ITS PARENT. -/
theorem do_fork {S : W4} {o : O12} (hk : o.kind = 8) (h : (do14 S o).2.1 = 0) :
    0 ≤ o.proc ∧ o.proc ≤ 3 ∧ ∃ c : Nat, c < 4 ∧ (do14 S o).2.2.1 = c ∧ (S c).live = false ∧ (do14 S o).1 c = S o.proc.toNat ∧ ∀ i, i ≠ c → (do14 S o).1 i = S i := by
  have hd : do14 S o = if o.proc < 0 ∨ 3 < o.proc ∨ (S o.proc.toNat).live = false then (S, 3, 0, 0, 0) else ((fork14 S (S o.proc.toNat)).1, (fork14 S (S o.proc.toNat)).2.2, (fork14 S (S o.proc.toNat)).2.1, 0, 0) := by
    unfold do14
    rw [hk, if_neg (by decide), if_neg (by decide), if_neg (by decide : ¬ isLk 8 = true), if_pos rfl]
  rw [hd] at h ⊢
  split at h
  · cases h
  rename_i hp
  rw [if_neg hp]
  unfold fork14 at *
  split at h
  · rename_i hf
    obtain ⟨f1, f2, f3⟩ := forE_ok hf
    rw [if_pos hf]
    exact ⟨by omega, by omega, ded S, f2, rfl, f3, upd_at _ _ _, fun i hi => upd_ne hi⟩
  · cases h

/-- WHAT IS SEALED STAYS. -/
theorem own_sealed {S : W4} {p : Pr} {o : O12} (h : PInv p) (hk : o.kind ≠ 9) {q : Int} {a : A4} (ha : atR p.L q = some a) (hs : a.2.2.2 = true) : atR (own14 S p o).1.L q = some a := by
  unfold own14
  split
  · split
    · rename_i he
      obtain ⟨-, -, m1, m2, m3, m4⟩ := map_said he
      simp only
      rw [m3]
      split
      · rename_i hq; rw [m2 q hq] at ha; cases ha
      · exact ha
    · exact ha
  split
  · split
    · rename_i he
      obtain ⟨u1, u2, u3⟩ := unmE_ok he
      obtain ⟨c1, c2, c3, c4⟩ := cut_pages u3
      simp only [unmP]
      rw [c4]
      split
      · rename_i hq
        rw [iv_iff] at hq
        have := sld_no u2 hq.1 hq.2 ha
        rw [hs] at this
        cases this
      · exact ha
    · exact ha
  split
  · split
    · rename_i he
      obtain ⟨u1, u2, u3, u4, u5⟩ := proE_ok he
      obtain ⟨c1, c2, c3, c4, c5⟩ := ch_pages (φ := guA o.rights o.key) u5
      simp only [proP]
      rw [c5]
      split
      · rename_i hq
        rw [iv_iff] at hq
        have := sld_no u4 hq.1 hq.2 ha
        rw [hs] at this
        cases this
      · exact ha
    · exact ha
  split
  · split
    · rename_i he
      obtain ⟨u1, u2, u5⟩ := seaE_ok he
      obtain ⟨c1, c2, c3, c4, c5⟩ := ch_pages (φ := seA) u5
      simp only [seaP]
      rw [c5]
      split
      · rw [ha]
        obtain ⟨r, k, t, s⟩ := a
        simp only at hs
        subst hs
        rfl
      · exact ha
    · exact ha
  repeat' split
  all_goals (first | exact ha | (rename_i h9; exact absurd h9 hk))

theorem do_sealed {S : W4} {o : O12} (h : Inv S) (hk : o.kind ≠ 9) {i : Nat} {q : Int} {a : A4} (ha : atR (S i).L q = some a) (hs : a.2.2.2 = true) : atR ((do14 S o).1 i).L q = some a := by
  unfold do14
  split
  · exact ha
  split
  · exact ha
  split
  · exact ha
  split
  · simp only [upd]
    split
    · rename_i hi; rw [(pinv_look (h.1 _) o).2, ← hi]; exact ha
    · exact ha
  split
  · unfold fork14
    split
    · rename_i hf
      obtain ⟨f1, f2, f3⟩ := forE_ok hf
      simp only [upd]
      split
      · rename_i hi
        have := (h.1 i).dead (by rw [hi]; exact f3)
        rw [this] at ha
        cases ha
      · exact ha
    · exact ha
  · simp only [upd]
    split
    · rename_i hi
      exact own_sealed (h.1 _) hk (by rw [← hi]; exact ha) hs
    · exact ha

theorem run_sealed : ∀ {l : List O12} {S : W4} {i : Nat} {q : Int} {a : A4}, Inv S → (∀ o ∈ l, o.kind ≠ 9) → atR (S i).L q = some a → a.2.2.2 = true → atR ((run14 S l).1 i).L q = some a
  | [], _, _, _, _, _, _, ha, _ => ha
  | o :: r, S, i, q, a, h, hk, ha, hs => run_sealed (l := r) (inv_do h o) (fun x hx => hk x (List.mem_cons_of_mem _ hx)) (do_sealed h (hk o List.mem_cons_self) ha hs) hs

end Go.Proofs.Ytbiipnojhjhejaa

/- Texts of this proof, joined: Bg, Ib, Nb. -/
import Derived.Test.YtmooddbhcccicaaGreatDoorMgAN
import Derived.Test.YtmooddbhcccicaaGreatDoorMgAA
import Derived.Test.YtmooddbhcccicaaGreatDoorMgAB
/- What stands on a ring, and what is read of it (plain). -/
namespace Go.Proofs.YtmooddbhcccicaaGreatDoor
set_option linter.unusedVariables false
set_option linter.unusedSimpArgs false
open Go.RowKit Go.Deep

theorem mod_inj {s e i j : Nat} (hi : i < s) (hj : j < s) (h : (e + i) % s = (e + j) % s) : i = j := by
  rcases Nat.le_total i j with h1 | h1
  · have h2 := Nat.sub_mod_eq_zero_of_mod_eq h.symm
    rw [show e + j - (e + i) = j - i by omega, Nat.mod_eq_of_lt (by omega)] at h2
    omega
  · have h2 := Nat.sub_mod_eq_zero_of_mod_eq h
    rw [show e + i - (e + j) = i - j by omega, Nat.mod_eq_of_lt (by omega)] at h2
    omega
/-- how many sectors a record has, and how many some have -/
def needW (ys : List Nat) : Nat := (ys.length + 39) / 40
def totW : List (List Nat) → Nat
  | [] => 0
  | ys :: l => needW ys + totW l
theorem totW_app : ∀ l m : List (List Nat), totW (l ++ m) = totW l + totW m
  | [], m => by simp [totW]
  | ys :: l, m => by
    show needW ys + totW (l ++ m) = needW ys + totW l + totW m
    rw [totW_app l m, Nat.add_assoc]
theorem totW_one (ys : List Nat) : totW [ys] = needW ys := rfl
def FineW (recs : List (List Nat)) : Prop := ∀ ys ∈ recs, 1 ≤ ys.length ∧ ys.length ≤ 2000 ∧ ∀ x ∈ ys, x < 256
theorem FineW.len {recs : List (List Nat)} (h : FineW recs) : recs.length ≤ totW recs := by
  induction recs with
  | nil => exact Nat.le_refl _
  | cons ys l ih =>
    have h1 := (h ys (List.mem_cons_self ..)).1
    have := ih (fun z hz => h z (List.mem_cons_of_mem _ hz))
    show l.length + 1 ≤ needW ys + totW l
    unfold needW
    omega
theorem FineW.app {l m : List (List Nat)} (h1 : FineW l) (h2 : FineW m) : FineW (l ++ m) := fun ys hy => (List.mem_append.1 hy).elim (h1 ys) (h2 ys)
/-- records stand on the ring from place c on, with numbers from e on -/
def RingW (rd : Nat → List Nat) (s : Nat) : Nat → Nat → List (List Nat) → Prop
  | _, _, [] => True
  | c, e, ys :: l => (∀ j, j < needW ys → rd (2 + (c + j) % s) = secJ e ys (needW ys) j) ∧ RingW rd s (c + needW ys) (e + 1) l
theorem RingW.congr {rd rd' : Nat → List Nat} {s : Nat} : ∀ {c e : Nat} {recs : List (List Nat)}, RingW rd s c e recs → (∀ t, t < totW recs → rd' (2 + (c + t) % s) = rd (2 + (c + t) % s)) → RingW rd' s c e recs
  | c, e, [], h, hc => trivial
  | c, e, ys :: l, ⟨h1, h2⟩, hc => ⟨fun j hj => (hc j (by show j < needW ys + totW l; omega)).trans (h1 j hj), RingW.congr h2 fun t ht => by
      have := hc (needW ys + t) (by show needW ys + t < needW ys + totW l; omega)
      rw [← Nat.add_assoc] at this
      exact this⟩
theorem RingW.app {rd : Nat → List Nat} {s : Nat} : ∀ {c e : Nat} {recs : List (List Nat)} {ys : List Nat}, RingW rd s c e recs → (∀ j, j < needW ys → rd (2 + (c + totW recs + j) % s) = secJ (e + recs.length) ys (needW ys) j) → RingW rd s c e (recs ++ [ys])
  | c, e, [], ys, h, hj => ⟨hj, trivial⟩
  | c, e, zs :: l, ys, ⟨h1, h2⟩, hj => ⟨h1, RingW.app h2 fun j hj' => by
      have := hj j hj'
      show rd (2 + (c + needW zs + totW l + j) % s) = secJ (e + 1 + l.length) ys (needW ys) j
      rw [show c + needW zs + totW l + j = c + (needW zs + totW l) + j by omega, show e + 1 + l.length = e + (l.length + 1) by omega]
      exact this⟩
theorem chunk_len {ys : List Nat} {i : Nat} (hi : i < needW ys) : 1 ≤ ((ys.drop (40 * i)).take 40).length ∧ ((ys.drop (40 * i)).take 40).length ≤ 40 ∧ (i = needW ys - 1 ∨ ((ys.drop (40 * i)).take 40).length = 40) := by
  unfold needW at *
  rw [List.length_take, List.length_drop]
  omega
theorem secJ_ok {u : Nat} {ys : List Nat} {i : Nat} (hu : u < 9223372036854775808) (hi : i < needW ys) : okR (secJ u ys (needW ys) i) (u : Int) i = true ∧ bytP (secJ u ys (needW ys) i) = (ys.drop (40 * i)).take 40 ∧ lstP (secJ u ys (needW ys) i) = decide (i = needW ys - 1) := by
  obtain ⟨h1, h2, h3⟩ := chunk_len hi
  obtain ⟨e1, e2, e3, e4⟩ := pcB_say (f := decide (i = 0)) (l := decide (i = needW ys - 1)) hu h2
  exact ⟨okR_pcB hu ⟨h1, h2⟩ (h3.elim (fun e => Or.inl (decide_eq_true e)) Or.inr) i rfl, e2, e4⟩
theorem take_40 (ys : List Nat) (i : Nat) : ys.take (40 * i) ++ (ys.drop (40 * i)).take 40 = ys.take (40 * (i + 1)) := by
  rw [show 40 * (i + 1) = 40 * i + 40 by omega, List.take_add]
theorem recW_read {rd : Nat → List Nat} {s place u : Nat} {ys : List Nat} (hu : u < 9223372036854775808) (hall : ∀ j, j < needW ys → rd (2 + (place + j) % s) = secJ u ys (needW ys) j) : ∀ r i, i < needW ys → needW ys ≤ i + r → recW rd s place (u : Int) r i (ys.take (40 * i)) = some ys
  | 0, i, hi, hr => by omega
  | r + 1, i, hi, hr => by
    obtain ⟨h1, h2, h3⟩ := secJ_ok hu hi
    unfold recW
    rw [hall i hi, if_pos h1, h3, h2]
    by_cases hl : i = needW ys - 1
    · rw [if_pos (decide_eq_true hl), take_40, List.take_of_length_le (by unfold needW at *; omega)]
    · rw [if_neg (by rw [decide_eq_false hl]; decide), take_40]
      exact recW_read hu hall r (i + 1) (by omega) (by omega)
theorem recW_bad {rd : Nat → List Nat} {s place u : Nat} {ys : List Nat} (hu : u < 9223372036854775808) (hall : ∀ j, j < needW ys → rd (2 + (place + j) % s) = secJ u ys (needW ys) j ∨ Bad (rd (2 + (place + j) % s))) : ∀ r i acc, (∃ j, i ≤ j ∧ j < needW ys ∧ Bad (rd (2 + (place + j) % s))) → recW rd s place (u : Int) r i acc = none
  | 0, i, acc, h => rfl
  | r + 1, i, acc, ⟨j, hij, hj, hb⟩ => by
    unfold recW
    by_cases hbi : Bad (rd (2 + (place + i) % s))
    · rw [if_neg (by rw [hbi]; decide)]
    · have hi : i < needW ys := by omega
      have hne : i ≠ j := fun e => hbi (by rw [e]; exact hb)
      obtain ⟨h1, h2, h3⟩ := secJ_ok hu hi
      rw [(hall i hi).resolve_right hbi, if_pos h1, h3, if_neg (by rw [decide_eq_false (by omega)]; decide)]
      exact recW_bad hu hall r (i + 1) _ ⟨j, by omega, hj, hb⟩
theorem recW_none {rd : Nat → List Nat} {s place : Nat} {num : Int} {r : Nat} {acc : List Nat} (h : 0 < r → Bad (rd (2 + place % s))) : recW rd s place num r 0 acc = none := by
  cases r with
  | zero => rfl
  | succ r =>
    unfold recW
    rw [Nat.add_zero, if_neg (by rw [h (by omega)]; decide)]
/-- what is read: a beginning of the records, up to the first one that is not all there -/
theorem recsW_read {rd rdW : Nat → List Nat} {s c e : Nat} : ∀ (recs : List (List Nat)) (f used : Nat) (acc : List (List Nat)), FineW recs → RingW rdW s (c + used) (e + acc.length) recs → used + totW recs ≤ s → recs.length < f → e + acc.length + recs.length < 9223372036854775808 → (∀ t, used ≤ t → t < used + totW recs → rd (2 + (c + t) % s) = rdW (2 + (c + t) % s) ∨ Bad (rd (2 + (c + t) % s))) → (∀ t, used + totW recs ≤ t → t < s → Bad (rd (2 + (c + t) % s))) →
    ∃ m, m ≤ recs.length ∧ recsW rd s c e f used acc = (acc ++ recs.take m, used + totW (recs.take m)) ∧ (∀ t, used ≤ t → t < used + totW (recs.take m) → rd (2 + (c + t) % s) = rdW (2 + (c + t) % s)) ∧ ∀ m', m' ≤ recs.length → (∀ t, used ≤ t → t < used + totW (recs.take m') → rd (2 + (c + t) % s) = rdW (2 + (c + t) % s)) → m' ≤ m
  | recs, 0, used, acc, hF, hR, hs, hf, he, h1, h2 => absurd hf (Nat.not_lt_zero _)
  | [], f + 1, used, acc, hF, hR, hs, hf, he, h1, h2 => by
    refine ⟨0, Nat.le_refl _, ?_, fun t ht1 ht2 => absurd ht2 (by show ¬ t < used + 0; omega), fun m' hm' _ => hm'⟩
    rw [recsW_succ, recW_none (fun h0 => h2 used (Nat.le_refl _) (by omega))]
    show (acc, used) = _
    rw [List.take_nil, List.append_nil]
    rfl
  | ys :: l, f + 1, used, acc, hF, ⟨hR1, hR2⟩, hs, hf, he, h1, h2 => by
    have hy := hF ys (List.mem_cons_self ..)
    have hs' : used + (needW ys + totW l) ≤ s := hs
    have he' : e + acc.length + (l.length + 1) < 9223372036854775808 := he
    have hf' : l.length + 1 < f + 1 := hf
    have hK : 1 ≤ needW ys ∧ needW ys ≤ 50 := by have h1 := hy.1; have h2 := hy.2.1; unfold needW; omega
    have hin : ∀ j, j < needW ys → used + j < used + totW (ys :: l) := fun j hj => by show used + j < used + (needW ys + totW l); omega
    have hor : ∀ j, j < needW ys → rd (2 + (c + used + j) % s) = secJ (e + acc.length) ys (needW ys) j ∨ Bad (rd (2 + (c + used + j) % s)) := fun j hj => by
      have := h1 (used + j) (by omega) (hin j hj)
      rw [← Nat.add_assoc] at this
      exact this.imp (fun h => h.trans (hR1 j hj)) id
    by_cases hall : ∀ j, j < needW ys → rd (2 + (c + used + j) % s) = secJ (e + acc.length) ys (needW ys) j
    · have hr := recW_read (place := c + used) (by omega) hall (min (s - used) 50) 0 (by omega) (by omega)
      rw [Nat.mul_zero, List.take_zero] at hr
      obtain ⟨m, hm, hres, hsame, hmax⟩ := recsW_read l f (used + needW ys) (acc ++ [ys]) (fun z hz => hF z (List.mem_cons_of_mem _ hz)) (by
        rw [List.length_append, ← Nat.add_assoc c, ← Nat.add_assoc e]; exact hR2) (by omega) (by omega) (by rw [List.length_append]; show e + (acc.length + 1) + l.length < _; omega) (fun t ht1 ht2 => h1 t (by omega) (by show t < used + (needW ys + totW l); omega)) (fun t ht1 ht2 => h2 t (by show used + (needW ys + totW l) ≤ t; omega) ht2)
      refine ⟨m + 1, by show m + 1 ≤ l.length + 1; omega, ?_, fun t ht1 ht2 => ?_, fun m' hm' hk => ?_⟩
      · rw [recsW_succ, hr]
        show recsW rd s c e f (used + needW ys) (acc ++ [ys]) = _
        rw [hres, List.append_assoc]
        show (acc ++ ([ys] ++ l.take m), used + needW ys + totW (l.take m)) = (acc ++ (ys :: l.take m), used + (needW ys + totW (l.take m)))
        rw [Nat.add_assoc]
        rfl
      · have ht3 : t < used + (needW ys + totW (l.take m)) := ht2
        by_cases htk : t < used + needW ys
        · have h9 := hall (t - used) (by omega)
          have h8 := hR1 (t - used) (by omega)
          rw [show c + used + (t - used) = c + t by omega] at h9 h8
          rw [h9, h8]
        · exact hsame t (by omega) (by omega)
      · cases m' with
        | zero => omega
        | succ m' =>
          have := hmax m' (by have : m' + 1 ≤ l.length + 1 := hm'; omega) (fun t ht1 ht2 => hk t (by omega) (by show t < used + (needW ys + totW (l.take m')); omega))
          omega
    · have hex : ∃ j, j < needW ys ∧ rd (2 + (c + used + j) % s) ≠ secJ (e + acc.length) ys (needW ys) j := Classical.byContradiction fun hn => hall fun j hj => Classical.byContradiction fun h => hn ⟨j, hj, h⟩
      obtain ⟨j, hj, hne⟩ := hex
      refine ⟨0, Nat.zero_le _, ?_, fun t ht1 ht2 => absurd ht2 (by show ¬ t < used + 0; omega), fun m' hm' hk => ?_⟩
      · rw [recsW_succ, recW_bad (by omega) hor _ 0 [] ⟨j, Nat.zero_le _, hj, (hor j hj).resolve_left hne⟩]
        show (acc, used) = _
        rw [List.take_zero, List.append_nil]
        rfl
      · cases m' with
        | zero => exact Nat.le_refl _
        | succ m' =>
          have := hk (used + j) (by omega) (by show used + j < used + (needW ys + totW (l.take m')); omega)
          rw [← Nat.add_assoc] at this
          exact absurd (this.trans (hR1 j hj)) hne
  termination_by recs f => (recs.length, f)

/-- what a record's writing leaves -/
theorem wrT_at {T : Nat → Option (List Nat)} {s e u : Nat} {ys : List Nat} {K : Nat} : ∀ (k : Nat), k ≤ s → (∀ j, j < k → wrT T s e u ys K k (2 + (e + j) % s) = some (secJ u ys K j)) ∧ ∀ i, (∀ j, j < k → i ≠ 2 + (e + j) % s) → wrT T s e u ys K k i = T i
  | 0, hk => ⟨fun j hj => absurd hj (Nat.not_lt_zero _), fun i _ => rfl⟩
  | k + 1, hk => by
    obtain ⟨h1, h2⟩ := wrT_at (T := T) (s := s) (e := e) (u := u) (ys := ys) (K := K) k (Nat.le_of_succ_le hk)
    refine ⟨fun j hj => ?_, fun i hi => ?_⟩
    · unfold wrT
      by_cases hjk : j = k
      · subst hjk
        rw [if_pos rfl]
      · rw [if_neg (fun h => hjk (mod_inj (s := s) (e := e) (i := j) (j := k) (by omega) (by omega) (by omega))), h1 j (by omega)]
    · unfold wrT
      rw [if_neg (hi k (Nat.lt_succ_self k)), h2 i (fun j hj => hi j (Nat.lt_succ_of_lt hj))]

/-- what a log's plate has: the head that counts, the records, noughts behind them -/
structure LogN (now : Nat → List Nat) (s a b c e : Nat) (recs : List (List Nat)) : Prop where
  hd : now (a % 2) = hdB a b c e
  oth : ∀ i, i < 2 → i ≠ a % 2 → okH (now i) i s = true → (sayH (now i)).a < (a : Int)
  ring : RingW now s c e recs
  fits : totW recs ≤ s
  free : ∀ t, totW recs ≤ t → t < s → now (2 + (c + t) % s) = nouW 64
  fine : FineW recs
theorem LogN.congr {now now' : Nat → List Nat} {s a b c e : Nat} {recs : List (List Nat)} (h : LogN now s a b c e recs) (hs : 1 ≤ s) (hc : ∀ i, i < 2 + s → now' i = now i) : LogN now' s a b c e recs := by
  have hr : ∀ t, now' (2 + (c + t) % s) = now (2 + (c + t) % s) := fun t => hc _ (by have := Nat.mod_lt (c + t) (show 0 < s by omega); omega)
  exact ⟨by rw [hc _ (by omega)]; exact h.hd, fun i hi hne => by rw [hc i (by omega)]; exact h.oth i hi hne, h.ring.congr (fun t _ => hr t), h.fits, fun t h1 h2 => by rw [hr t]; exact h.free t h1 h2, h.fine⟩
theorem LogN.put {dur : List Nat} {T : Nat → Option (List Nat)} {s a b c e : Nat} {recs : List (List Nat)} {ys : List Nat} (h : LogN (nowOf dur T) s a b c e recs) (hs : 1 ≤ s) (hy : 1 ≤ ys.length ∧ ys.length ≤ 2000 ∧ ∀ x ∈ ys, x < 256) (hf : totW recs + needW ys ≤ s) : LogN (nowOf dur (wrT T s (c + totW recs) (e + recs.length) ys (needW ys) (needW ys))) s a b c e (recs ++ [ys]) := by
  obtain ⟨h1, h2⟩ := wrT_at (T := T) (s := s) (e := c + totW recs) (u := e + recs.length) (ys := ys) (K := needW ys) (needW ys) (by omega)
  have hold : ∀ i, (∀ j, j < needW ys → i ≠ 2 + (c + totW recs + j) % s) → nowOf dur (wrT T s (c + totW recs) (e + recs.length) ys (needW ys) (needW ys)) i = nowOf dur T i := fun i hi => by unfold nowOf; rw [h2 i hi]
  have hhead : ∀ i, i < 2 → nowOf dur (wrT T s (c + totW recs) (e + recs.length) ys (needW ys) (needW ys)) i = nowOf dur T i := fun i hi => hold i (fun j _ => by omega)
  have hring : ∀ t, t < s → (t < totW recs ∨ totW recs + needW ys ≤ t) → nowOf dur (wrT T s (c + totW recs) (e + recs.length) ys (needW ys) (needW ys)) (2 + (c + t) % s) = nowOf dur T (2 + (c + t) % s) := fun t hts ht => hold _ (fun j hj he => by
    have := mod_inj (e := c) (i := t) (j := totW recs + j) hts (by omega) (by rw [← Nat.add_assoc]; omega)
    omega)
  refine ⟨by rw [hhead _ (by omega)]; exact h.hd, fun i hi hne => by rw [hhead i hi]; exact h.oth i hi hne, ?_, by rw [totW_app]; exact hf, fun t ht1 ht2 => ?_, h.fine.app (fun z hz => by rw [List.mem_singleton] at hz; rw [hz]; exact hy)⟩
  · refine RingW.app (h.ring.congr fun t ht => hring t (by omega) (Or.inl ht)) fun j hj => ?_
    unfold nowOf
    rw [h1 j hj]
    rfl
  · rw [totW_app, totW_one] at ht1
    rw [hring t ht2 (Or.inr ht1)]
    exact h.free t (by omega) ht2
end Go.Proofs.YtmooddbhcccicaaGreatDoor

/- A shelf's records and what they come to (plain). -/
namespace Go.Proofs.YtmooddbhcccicaaGreatDoor
set_option linter.unusedVariables false
set_option linter.unusedSimpArgs false
open Go.RowKit Go.Deep

/-- a shelf's record: kind, number, index, epoch, bytes -/
structure Rc where
  (k n i e : Nat)
  b : List Nat
/-- its bytes in the log -/
def wrS (r : Rc) : List Nat := [r.k] ++ numB r.n ++ (if r.k = 4 then [] else numB r.i) ++ (if r.k = 3 then numB r.e else []) ++ r.b
/-- the thing that it has be otherwise -/
def subS (r : Rc) : K3 := ⟨((if r.k = 2 then 1 else r.k : Nat) : Int), (r.n : Int), (r.i : Int)⟩
def staysS (r : Rc) : Bool := decide (r.k ≠ 2) && (decide (r.k ≠ 3) || decide (0 < r.e))
def secS (r : Rc) : Nat := needW (wrS r)
/-- what a shelf has behind a record -/
def putS (M : K3 → Option Rc) (r : Rc) : K3 → Option Rc := fun x => if x = subS r then (if staysS r = true then some r else none) else M x
/-- how many sectors all have behind a record -/
def behS (M : K3 → Option Rc) (t : Int) (r : Rc) : Int := t - (match M (subS r) with | some o => (secS o : Int) | none => 0) + (if staysS r = true then (secS r : Int) else 0)
/-- what records come to, and how many sectors they have -/
def stS (h : List Rc) : (K3 → Option Rc) × Int := h.foldl (fun x r => (putS x.1 r, behS x.1 x.2 r)) (fun _ => none, 0)
theorem stS_nil : stS [] = (fun _ => none, 0) := rfl
theorem stS_snoc (h : List Rc) (r : Rc) : stS (h ++ [r]) = (putS (stS h).1 r, behS (stS h).1 (stS h).2 r) := by
  unfold stS
  rw [List.foldl_append]
  rfl
theorem behS_le (M : K3 → Option Rc) (t : Int) (r : Rc) : behS M t r ≤ t + (secS r : Int) := by
  unfold behS
  cases hM : M (subS r) with
  | none => dsimp only; split <;> omega
  | some o =>
    dsimp only
    have h1 : (0 : Int) ≤ (secS o : Int) := Int.natCast_nonneg _
    have h2 : (0 : Int) ≤ (secS r : Int) := Int.natCast_nonneg _
    split <;> omega
theorem stS_le (h : List Rc) : (stS h).2 ≤ (totW (h.map wrS) : Int) := by
  suffices H : ∀ n, ∀ h : List Rc, h.length = n → (stS h).2 ≤ (totW (h.map wrS) : Int) from H _ h rfl
  intro n
  induction n with
  | zero =>
    intro h hl
    rw [List.eq_nil_of_length_eq_zero hl]
    exact Int.le_refl _
  | succ n ih =>
    intro h hl
    obtain ⟨l, r, rfl⟩ : ∃ l r, h = l ++ [r] := ⟨h.dropLast, h.getLast (by intro e; subst e; simp at hl), (List.dropLast_concat_getLast _).symm⟩
    have h1 := ih l (by simpa using hl)
    have h2 := behS_le (stS l).1 (stS l).2 r
    rw [stS_snoc, List.map_append, totW_app]
    show behS _ _ _ ≤ ((totW (l.map wrS) + needW (wrS r) : Nat) : Int)
    have : secS r = needW (wrS r) := rfl
    omega
/-- the least that it can be -/
theorem stS_ge (h : List Rc) (hb : ∀ r ∈ h, secS r ≤ 50) : (-50 * (h.length : Int)) ≤ (stS h).2 ∧ ∀ x o, (stS h).1 x = some o → o ∈ h := by
  suffices H : ∀ n, ∀ h : List Rc, h.length = n → (∀ r ∈ h, secS r ≤ 50) → (-50 * (h.length : Int)) ≤ (stS h).2 ∧ ∀ x o, (stS h).1 x = some o → o ∈ h from H _ h rfl hb
  intro n
  induction n with
  | zero =>
    intro h hl _
    rw [List.eq_nil_of_length_eq_zero hl]
    exact ⟨by simp [stS], fun x o e => by cases e⟩
  | succ n ih =>
    intro h hl hb
    obtain ⟨l, r, rfl⟩ : ∃ l r, h = l ++ [r] := ⟨h.dropLast, h.getLast (by intro e; subst e; simp at hl), (List.dropLast_concat_getLast _).symm⟩
    obtain ⟨h1, h2⟩ := ih l (by simpa using hl) (fun z hz => hb z (List.mem_append_left _ hz))
    rw [stS_snoc]
    refine ⟨?_, fun x o e => ?_⟩
    · show _ ≤ behS _ _ _
      unfold behS
      rw [List.length_append]
      cases hM : (stS l).1 (subS r) with
      | none => simp; split <;> omega
      | some o =>
        have := hb o (List.mem_append_left _ (h2 _ _ hM))
        simp
        split <;> omega
    · have e' : putS (stS l).1 r x = some o := e
      unfold putS at e'
      split at e'
      · split at e'
        · cases e'; simp
        · cases e'
      · exact List.mem_append_left _ (h2 _ _ e')
/-- a record that a shelf may have -/
structure GoodR (r : Rc) : Prop where
  k1 : 1 ≤ r.k ∧ r.k ≤ 4
  n1 : r.n ≤ 1152921504606846976
  i1 : r.i ≤ 1152921504606846976
  e1 : r.e ≤ 1152921504606846976
  by_ : ∀ x ∈ r.b, x < 256
  bl : r.b.length ≤ 1980
  b23 : r.k = 2 ∨ r.k = 3 → r.b = []
theorem numB_len {n : Nat} (h : n ≤ 1152921504606846976) : 1 ≤ (numB n).length ∧ (numB n).length ≤ 9 := by
  have h8 : numW n ≤ 8 := numW_le (show n < 256 ^ 8 by have : (256 : Nat) ^ 8 = 18446744073709551616 := rfl; omega)
  have : (numB n).length = numW n + 1 := by show (_ :: digs _ _).length = _; rw [List.length_cons, digs_len]
  omega
theorem wrS_len {r : Rc} (h : GoodR r) : 1 ≤ (wrS r).length ∧ (wrS r).length ≤ 2000 ∧ (wrS r).length ≤ 28 + r.b.length := by
  obtain ⟨n1, n2⟩ := numB_len h.n1
  obtain ⟨i1, i2⟩ := numB_len h.i1
  obtain ⟨e1, e2⟩ := numB_len h.e1
  have hbl := h.bl
  unfold wrS
  by_cases h4 : r.k = 4
  · rw [if_pos h4, if_neg (by omega)]
    simp only [List.length_append, List.length_cons, List.length_nil]
    omega
  · rw [if_neg h4]
    by_cases h3 : r.k = 3
    · rw [if_pos h3, h.b23 (Or.inr h3)]
      simp only [List.length_append, List.length_cons, List.length_nil]
      omega
    · rw [if_neg h3]
      simp only [List.length_append, List.length_cons, List.length_nil]
      omega
theorem wrS_b {r : Rc} (h : GoodR r) : ∀ x ∈ wrS r, x < 256 := by
  have hn : ∀ n, n ≤ 1152921504606846976 → ∀ x ∈ numB n, x < 256 := fun n hn x hx => by
    have h8 : numW n ≤ 8 := numW_le (show n < 256 ^ 8 by have : (256 : Nat) ^ 8 = 18446744073709551616 := rfl; omega)
    rcases List.mem_cons.1 (show x ∈ numW n :: digs (numW n) n from hx) with rfl | h1
    · omega
    · exact digs_lt _ _ x h1
  intro x hx
  unfold wrS at hx
  rcases List.mem_append.1 hx with hx | hx
  · rcases List.mem_append.1 hx with hx | hx
    · rcases List.mem_append.1 hx with hx | hx
      · rcases List.mem_append.1 hx with hx | hx
        · have := h.k1
          have : x = r.k := by simpa using hx
          omega
        · exact hn _ h.n1 x hx
      · split at hx
        · cases hx
        · exact hn _ h.i1 x hx
    · split at hx
      · exact hn _ h.e1 x hx
      · cases hx
  · exact h.by_ x hx
theorem secS_le {r : Rc} (h : GoodR r) : 1 ≤ secS r ∧ secS r ≤ 50 := by
  have := wrS_len h
  unfold secS needW
  omega
theorem wf_n60 {n : Nat} (h : n ≤ 1152921504606846976) : (Lit.int .i64 (n : Int)).wf = true := WalkArith.wf_i64 (by omega)
theorem subS_wf {r : Rc} (h : GoodR r) : wf3 (subS r) := by
  have := h.k1
  refine ⟨?_, wf_n60 h.n1, wf_n60 h.i1⟩
  show (Lit.int .i64 ((if r.k = 2 then 1 else r.k : Nat) : Int)).wf = true
  split <;> exact wf_n60 (by omega)
end Go.Proofs.YtmooddbhcccicaaGreatDoor

/- Commands as bytes, plain. -/
namespace Go.Proofs.YtmooddbhcccicaaGreatDoor
set_option linter.unusedVariables false

/-- a command, plain: all numbers from 0 on -/
structure Cp where
  (id kind blob other index node size sum k m : Nat) (key nodes : List Nat)
/-- numbers, one behind the other -/
def numsB (l : List Nat) : List Nat := l.flatMap numB
def cmdB (c : Cp) : List Nat := numsB [c.id, c.kind, c.blob, c.other, c.index, c.node, c.size, c.sum, c.k, c.m, c.key.length] ++ (c.key ++ (numB c.nodes.length ++ numsB c.nodes))
/-- so many numbers -/
def rdNums (most : Nat) : Nat → List Nat → Option (List Nat × List Nat)
  | 0, xs => some ([], xs)
  | k + 1, xs => match rdNum most xs with
    | none => none
    | some (n, t) => match rdNums most k t with
      | none => none
      | some (l, u) => some (n :: l, u)
/-- so many bytes -/
def rdText (most : Nat) (xs : List Nat) : Option (List Nat × List Nat) := match rdNum most xs with
  | none => none
  | some (n, t) => if n ≤ t.length then some (t.take n, t.drop n) else none
/-- the greatest number -/
abbrev mx : Nat := 1152921504606846976
theorem rdNums_num {most : Nat} (hm : most < 256 ^ 8) : ∀ (l t : List Nat), (∀ n ∈ l, n ≤ most) → rdNums most l.length (numsB l ++ t) = some (l, t)
  | [], t, _ => rfl
  | n :: l, t, h => by
    have h1 := h n (List.mem_cons_self ..)
    have h2 := rdNums_num hm l t (fun y hy => h y (List.mem_cons_of_mem _ hy))
    show rdNums most (l.length + 1) (numB n ++ numsB l ++ t) = _
    rw [List.append_assoc]
    unfold rdNums
    rw [rdNum_num h1 (by omega)]
    dsimp only
    rw [h2]
theorem rdNums_back {most : Nat} : ∀ (k : Nat) (xs l t : List Nat), (∀ x ∈ xs, x < 256) → rdNums most k xs = some (l, t) → xs = numsB l ++ t ∧ l.length = k ∧ (∀ n ∈ l, n ≤ most ∧ n < 256 ^ 8) ∧ ∀ x ∈ t, x < 256
  | 0, xs, l, t, hb, h => by
    injection h with h
    injection h with h1 h2
    subst h1 h2
    exact ⟨rfl, rfl, fun n hn => (by cases hn), hb⟩
  | k + 1, xs, l, t, hb, h => by
    unfold rdNums at h
    cases hq : rdNum most xs with
    | none => rw [hq] at h; cases h
    | some p =>
      obtain ⟨n, u⟩ := p
      rw [hq] at h
      dsimp only at h
      obtain ⟨e1, e2, e3, e4⟩ := rdNum_back hb hq
      cases hr : rdNums most k u with
      | none => rw [hr] at h; cases h
      | some p =>
        obtain ⟨m, v⟩ := p
        rw [hr] at h
        injection h with h
        injection h with h1 h2
        subst h1 h2
        obtain ⟨f1, f2, f3, f4⟩ := rdNums_back k u m v e4 hr
        refine ⟨?_, by simp [f2], fun y hy => ?_, f4⟩
        · rw [e1, f1]
          show _ = (numB n ++ numsB m) ++ v
          rw [List.append_assoc]
        · rcases List.mem_cons.1 hy with e | e
          · rw [e]; exact ⟨e2, e3⟩
          · exact f3 y e
end Go.Proofs.YtmooddbhcccicaaGreatDoor

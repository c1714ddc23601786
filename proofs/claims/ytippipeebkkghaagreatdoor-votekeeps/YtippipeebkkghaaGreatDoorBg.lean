/- What stands on a ring, and what is read of it (plain). -/
import Derived.Test.YtippipeebkkghaaGreatDoorBf
namespace Go.Proofs.YtippipeebkkghaaGreatDoor
set_option linter.unusedVariables false
set_option linter.unusedSimpArgs false
open Go.RowKit Go.Deep

theorem mod_inj {s e i j : Nat} (hi : i < s) (hj : j < s) (h : (e + i) % s = (e + j) % s) : i = j := by
  rcases Nat.le_total i j with h1 | h1
  · have h2 := Nat.sub_mod_eq_zero_of_mod_eq h.symm
    rw [show e + j - (e + i) = j - i by omega, Nat.mod_eq_of_lt (by omega)] at h2
    omega
  · have h2 := Nat.sub_mod_eq_zero_of_mod_eq h
    rw [show e + i - (e + j) = i - j by omega, Nat.mod_eq_of_lt (by omega)] at h2
    omega
/-- how many sectors a record has, and how many some have -/
def needW (ys : List Nat) : Nat := (ys.length + 39) / 40
def totW : List (List Nat) → Nat
  | [] => 0
  | ys :: l => needW ys + totW l
theorem totW_app : ∀ l m : List (List Nat), totW (l ++ m) = totW l + totW m
  | [], m => by simp [totW]
  | ys :: l, m => by
    show needW ys + totW (l ++ m) = needW ys + totW l + totW m
    rw [totW_app l m, Nat.add_assoc]
theorem totW_one (ys : List Nat) : totW [ys] = needW ys := rfl
def FineW (recs : List (List Nat)) : Prop := ∀ ys ∈ recs, 1 ≤ ys.length ∧ ys.length ≤ 2000 ∧ ∀ x ∈ ys, x < 256
theorem FineW.len {recs : List (List Nat)} (h : FineW recs) : recs.length ≤ totW recs := by
  induction recs with
  | nil => exact Nat.le_refl _
  | cons ys l ih =>
    have h1 := (h ys (List.mem_cons_self ..)).1
    have := ih (fun z hz => h z (List.mem_cons_of_mem _ hz))
    show l.length + 1 ≤ needW ys + totW l
    unfold needW
    omega
theorem FineW.app {l m : List (List Nat)} (h1 : FineW l) (h2 : FineW m) : FineW (l ++ m) := fun ys hy => (List.mem_append.1 hy).elim (h1 ys) (h2 ys)
/-- records stand on the ring from place c on, with numbers from e on -/
def RingW (rd : Nat → List Nat) (s : Nat) : Nat → Nat → List (List Nat) → Prop
  | _, _, [] => True
  | c, e, ys :: l => (∀ j, j < needW ys → rd (2 + (c + j) % s) = secJ e ys (needW ys) j) ∧ RingW rd s (c + needW ys) (e + 1) l
theorem RingW.congr {rd rd' : Nat → List Nat} {s : Nat} : ∀ {c e : Nat} {recs : List (List Nat)}, RingW rd s c e recs → (∀ t, t < totW recs → rd' (2 + (c + t) % s) = rd (2 + (c + t) % s)) → RingW rd' s c e recs
  | c, e, [], h, hc => trivial
  | c, e, ys :: l, ⟨h1, h2⟩, hc => ⟨fun j hj => (hc j (by show j < needW ys + totW l; omega)).trans (h1 j hj), RingW.congr h2 fun t ht => by
      have := hc (needW ys + t) (by show needW ys + t < needW ys + totW l; omega)
      rw [← Nat.add_assoc] at this
      exact this⟩
theorem RingW.app {rd : Nat → List Nat} {s : Nat} : ∀ {c e : Nat} {recs : List (List Nat)} {ys : List Nat}, RingW rd s c e recs → (∀ j, j < needW ys → rd (2 + (c + totW recs + j) % s) = secJ (e + recs.length) ys (needW ys) j) → RingW rd s c e (recs ++ [ys])
  | c, e, [], ys, h, hj => ⟨hj, trivial⟩
  | c, e, zs :: l, ys, ⟨h1, h2⟩, hj => ⟨h1, RingW.app h2 fun j hj' => by
      have := hj j hj'
      show rd (2 + (c + needW zs + totW l + j) % s) = secJ (e + 1 + l.length) ys (needW ys) j
      rw [show c + needW zs + totW l + j = c + (needW zs + totW l) + j by omega, show e + 1 + l.length = e + (l.length + 1) by omega]
      exact this⟩
theorem chunk_len {ys : List Nat} {i : Nat} (hi : i < needW ys) : 1 ≤ ((ys.drop (40 * i)).take 40).length ∧ ((ys.drop (40 * i)).take 40).length ≤ 40 ∧ (i = needW ys - 1 ∨ ((ys.drop (40 * i)).take 40).length = 40) := by
  unfold needW at *
  rw [List.length_take, List.length_drop]
  omega
theorem secJ_ok {u : Nat} {ys : List Nat} {i : Nat} (hu : u < 9223372036854775808) (hi : i < needW ys) : okR (secJ u ys (needW ys) i) (u : Int) i = true ∧ bytP (secJ u ys (needW ys) i) = (ys.drop (40 * i)).take 40 ∧ lstP (secJ u ys (needW ys) i) = decide (i = needW ys - 1) := by
  obtain ⟨h1, h2, h3⟩ := chunk_len hi
  obtain ⟨e1, e2, e3, e4⟩ := pcB_say (f := decide (i = 0)) (l := decide (i = needW ys - 1)) hu h2
  exact ⟨okR_pcB hu ⟨h1, h2⟩ (h3.elim (fun e => Or.inl (decide_eq_true e)) Or.inr) i rfl, e2, e4⟩
theorem take_40 (ys : List Nat) (i : Nat) : ys.take (40 * i) ++ (ys.drop (40 * i)).take 40 = ys.take (40 * (i + 1)) := by
  rw [show 40 * (i + 1) = 40 * i + 40 by omega, List.take_add]
theorem recW_read {rd : Nat → List Nat} {s place u : Nat} {ys : List Nat} (hu : u < 9223372036854775808) (hall : ∀ j, j < needW ys → rd (2 + (place + j) % s) = secJ u ys (needW ys) j) : ∀ r i, i < needW ys → needW ys ≤ i + r → recW rd s place (u : Int) r i (ys.take (40 * i)) = some ys
  | 0, i, hi, hr => by omega
  | r + 1, i, hi, hr => by
    obtain ⟨h1, h2, h3⟩ := secJ_ok hu hi
    unfold recW
    rw [hall i hi, if_pos h1, h3, h2]
    by_cases hl : i = needW ys - 1
    · rw [if_pos (decide_eq_true hl), take_40, List.take_of_length_le (by unfold needW at *; omega)]
    · rw [if_neg (by rw [decide_eq_false hl]; decide), take_40]
      exact recW_read hu hall r (i + 1) (by omega) (by omega)
theorem recW_bad {rd : Nat → List Nat} {s place u : Nat} {ys : List Nat} (hu : u < 9223372036854775808) (hall : ∀ j, j < needW ys → rd (2 + (place + j) % s) = secJ u ys (needW ys) j ∨ Bad (rd (2 + (place + j) % s))) : ∀ r i acc, (∃ j, i ≤ j ∧ j < needW ys ∧ Bad (rd (2 + (place + j) % s))) → recW rd s place (u : Int) r i acc = none
  | 0, i, acc, h => rfl
  | r + 1, i, acc, ⟨j, hij, hj, hb⟩ => by
    unfold recW
    by_cases hbi : Bad (rd (2 + (place + i) % s))
    · rw [if_neg (by rw [hbi]; decide)]
    · have hi : i < needW ys := by omega
      have hne : i ≠ j := fun e => hbi (by rw [e]; exact hb)
      obtain ⟨h1, h2, h3⟩ := secJ_ok hu hi
      rw [(hall i hi).resolve_right hbi, if_pos h1, h3, if_neg (by rw [decide_eq_false (by omega)]; decide)]
      exact recW_bad hu hall r (i + 1) _ ⟨j, by omega, hj, hb⟩
theorem recW_none {rd : Nat → List Nat} {s place : Nat} {num : Int} {r : Nat} {acc : List Nat} (h : 0 < r → Bad (rd (2 + place % s))) : recW rd s place num r 0 acc = none := by
  cases r with
  | zero => rfl
  | succ r =>
    unfold recW
    rw [Nat.add_zero, if_neg (by rw [h (by omega)]; decide)]
/-- what is read: a beginning of the records, up to the first one that is not all there -/
theorem recsW_read {rd rdW : Nat → List Nat} {s c e : Nat} : ∀ (recs : List (List Nat)) (f used : Nat) (acc : List (List Nat)), FineW recs → RingW rdW s (c + used) (e + acc.length) recs → used + totW recs ≤ s → recs.length < f → e + acc.length + recs.length < 9223372036854775808 → (∀ t, used ≤ t → t < used + totW recs → rd (2 + (c + t) % s) = rdW (2 + (c + t) % s) ∨ Bad (rd (2 + (c + t) % s))) → (∀ t, used + totW recs ≤ t → t < s → Bad (rd (2 + (c + t) % s))) →
    ∃ m, m ≤ recs.length ∧ recsW rd s c e f used acc = (acc ++ recs.take m, used + totW (recs.take m)) ∧ (∀ t, used ≤ t → t < used + totW (recs.take m) → rd (2 + (c + t) % s) = rdW (2 + (c + t) % s)) ∧ ∀ m', m' ≤ recs.length → (∀ t, used ≤ t → t < used + totW (recs.take m') → rd (2 + (c + t) % s) = rdW (2 + (c + t) % s)) → m' ≤ m
  | recs, 0, used, acc, hF, hR, hs, hf, he, h1, h2 => absurd hf (Nat.not_lt_zero _)
  | [], f + 1, used, acc, hF, hR, hs, hf, he, h1, h2 => by
    refine ⟨0, Nat.le_refl _, ?_, fun t ht1 ht2 => absurd ht2 (by show ¬ t < used + 0; omega), fun m' hm' _ => hm'⟩
    rw [recsW_succ, recW_none (fun h0 => h2 used (Nat.le_refl _) (by omega))]
    show (acc, used) = _
    rw [List.take_nil, List.append_nil]
    rfl
  | ys :: l, f + 1, used, acc, hF, ⟨hR1, hR2⟩, hs, hf, he, h1, h2 => by
    have hy := hF ys (List.mem_cons_self ..)
    have hs' : used + (needW ys + totW l) ≤ s := hs
    have he' : e + acc.length + (l.length + 1) < 9223372036854775808 := he
    have hf' : l.length + 1 < f + 1 := hf
    have hK : 1 ≤ needW ys ∧ needW ys ≤ 50 := by have h1 := hy.1; have h2 := hy.2.1; unfold needW; omega
    have hin : ∀ j, j < needW ys → used + j < used + totW (ys :: l) := fun j hj => by show used + j < used + (needW ys + totW l); omega
    have hor : ∀ j, j < needW ys → rd (2 + (c + used + j) % s) = secJ (e + acc.length) ys (needW ys) j ∨ Bad (rd (2 + (c + used + j) % s)) := fun j hj => by
      have := h1 (used + j) (by omega) (hin j hj)
      rw [← Nat.add_assoc] at this
      exact this.imp (fun h => h.trans (hR1 j hj)) id
    by_cases hall : ∀ j, j < needW ys → rd (2 + (c + used + j) % s) = secJ (e + acc.length) ys (needW ys) j
    · have hr := recW_read (place := c + used) (by omega) hall (min (s - used) 50) 0 (by omega) (by omega)
      rw [Nat.mul_zero, List.take_zero] at hr
      obtain ⟨m, hm, hres, hsame, hmax⟩ := recsW_read l f (used + needW ys) (acc ++ [ys]) (fun z hz => hF z (List.mem_cons_of_mem _ hz)) (by
        rw [List.length_append, ← Nat.add_assoc c, ← Nat.add_assoc e]; exact hR2) (by omega) (by omega) (by rw [List.length_append]; show e + (acc.length + 1) + l.length < _; omega) (fun t ht1 ht2 => h1 t (by omega) (by show t < used + (needW ys + totW l); omega)) (fun t ht1 ht2 => h2 t (by show used + (needW ys + totW l) ≤ t; omega) ht2)
      refine ⟨m + 1, by show m + 1 ≤ l.length + 1; omega, ?_, fun t ht1 ht2 => ?_, fun m' hm' hk => ?_⟩
      · rw [recsW_succ, hr]
        show recsW rd s c e f (used + needW ys) (acc ++ [ys]) = _
        rw [hres, List.append_assoc]
        show (acc ++ ([ys] ++ l.take m), used + needW ys + totW (l.take m)) = (acc ++ (ys :: l.take m), used + (needW ys + totW (l.take m)))
        rw [Nat.add_assoc]
        rfl
      · have ht3 : t < used + (needW ys + totW (l.take m)) := ht2
        by_cases htk : t < used + needW ys
        · have h9 := hall (t - used) (by omega)
          have h8 := hR1 (t - used) (by omega)
          rw [show c + used + (t - used) = c + t by omega] at h9 h8
          rw [h9, h8]
        · exact hsame t (by omega) (by omega)
      · cases m' with
        | zero => omega
        | succ m' =>
          have := hmax m' (by have : m' + 1 ≤ l.length + 1 := hm'; omega) (fun t ht1 ht2 => hk t (by omega) (by show t < used + (needW ys + totW (l.take m')); omega))
          omega
    · have hex : ∃ j, j < needW ys ∧ rd (2 + (c + used + j) % s) ≠ secJ (e + acc.length) ys (needW ys) j := Classical.byContradiction fun hn => hall fun j hj => Classical.byContradiction fun h => hn ⟨j, hj, h⟩
      obtain ⟨j, hj, hne⟩ := hex
      refine ⟨0, Nat.zero_le _, ?_, fun t ht1 ht2 => absurd ht2 (by show ¬ t < used + 0; omega), fun m' hm' hk => ?_⟩
      · rw [recsW_succ, recW_bad (by omega) hor _ 0 [] ⟨j, Nat.zero_le _, hj, (hor j hj).resolve_left hne⟩]
        show (acc, used) = _
        rw [List.take_zero, List.append_nil]
        rfl
      · cases m' with
        | zero => exact Nat.le_refl _
        | succ m' =>
          have := hk (used + j) (by omega) (by show used + j < used + (needW ys + totW (l.take m')); omega)
          rw [← Nat.add_assoc] at this
          exact absurd (this.trans (hR1 j hj)) hne
  termination_by recs f => (recs.length, f)

/-- what a record's writing leaves -/
theorem wrT_at {T : Nat → Option (List Nat)} {s e u : Nat} {ys : List Nat} {K : Nat} : ∀ (k : Nat), k ≤ s → (∀ j, j < k → wrT T s e u ys K k (2 + (e + j) % s) = some (secJ u ys K j)) ∧ ∀ i, (∀ j, j < k → i ≠ 2 + (e + j) % s) → wrT T s e u ys K k i = T i
  | 0, hk => ⟨fun j hj => absurd hj (Nat.not_lt_zero _), fun i _ => rfl⟩
  | k + 1, hk => by
    obtain ⟨h1, h2⟩ := wrT_at (T := T) (s := s) (e := e) (u := u) (ys := ys) (K := K) k (Nat.le_of_succ_le hk)
    refine ⟨fun j hj => ?_, fun i hi => ?_⟩
    · unfold wrT
      by_cases hjk : j = k
      · subst hjk
        rw [if_pos rfl]
      · rw [if_neg (fun h => hjk (mod_inj (s := s) (e := e) (i := j) (j := k) (by omega) (by omega) (by omega))), h1 j (by omega)]
    · unfold wrT
      rw [if_neg (hi k (Nat.lt_succ_self k)), h2 i (fun j hj => hi j (Nat.lt_succ_of_lt hj))]

/-- what a log's plate has: the head that counts, the records, noughts behind them -/
structure LogN (now : Nat → List Nat) (s a b c e : Nat) (recs : List (List Nat)) : Prop where
  hd : now (a % 2) = hdB a b c e
  oth : ∀ i, i < 2 → i ≠ a % 2 → okH (now i) i s = true → (sayH (now i)).a < (a : Int)
  ring : RingW now s c e recs
  fits : totW recs ≤ s
  free : ∀ t, totW recs ≤ t → t < s → now (2 + (c + t) % s) = nouW 64
  fine : FineW recs
theorem LogN.congr {now now' : Nat → List Nat} {s a b c e : Nat} {recs : List (List Nat)} (h : LogN now s a b c e recs) (hs : 1 ≤ s) (hc : ∀ i, i < 2 + s → now' i = now i) : LogN now' s a b c e recs := by
  have hr : ∀ t, now' (2 + (c + t) % s) = now (2 + (c + t) % s) := fun t => hc _ (by have := Nat.mod_lt (c + t) (show 0 < s by omega); omega)
  exact ⟨by rw [hc _ (by omega)]; exact h.hd, fun i hi hne => by rw [hc i (by omega)]; exact h.oth i hi hne, h.ring.congr (fun t _ => hr t), h.fits, fun t h1 h2 => by rw [hr t]; exact h.free t h1 h2, h.fine⟩
theorem LogN.put {dur : List Nat} {T : Nat → Option (List Nat)} {s a b c e : Nat} {recs : List (List Nat)} {ys : List Nat} (h : LogN (nowOf dur T) s a b c e recs) (hs : 1 ≤ s) (hy : 1 ≤ ys.length ∧ ys.length ≤ 2000 ∧ ∀ x ∈ ys, x < 256) (hf : totW recs + needW ys ≤ s) : LogN (nowOf dur (wrT T s (c + totW recs) (e + recs.length) ys (needW ys) (needW ys))) s a b c e (recs ++ [ys]) := by
  obtain ⟨h1, h2⟩ := wrT_at (T := T) (s := s) (e := c + totW recs) (u := e + recs.length) (ys := ys) (K := needW ys) (needW ys) (by omega)
  have hold : ∀ i, (∀ j, j < needW ys → i ≠ 2 + (c + totW recs + j) % s) → nowOf dur (wrT T s (c + totW recs) (e + recs.length) ys (needW ys) (needW ys)) i = nowOf dur T i := fun i hi => by unfold nowOf; rw [h2 i hi]
  have hhead : ∀ i, i < 2 → nowOf dur (wrT T s (c + totW recs) (e + recs.length) ys (needW ys) (needW ys)) i = nowOf dur T i := fun i hi => hold i (fun j _ => by omega)
  have hring : ∀ t, t < s → (t < totW recs ∨ totW recs + needW ys ≤ t) → nowOf dur (wrT T s (c + totW recs) (e + recs.length) ys (needW ys) (needW ys)) (2 + (c + t) % s) = nowOf dur T (2 + (c + t) % s) := fun t hts ht => hold _ (fun j hj he => by
    have := mod_inj (e := c) (i := t) (j := totW recs + j) hts (by omega) (by rw [← Nat.add_assoc]; omega)
    omega)
  refine ⟨by rw [hhead _ (by omega)]; exact h.hd, fun i hi hne => by rw [hhead i hi]; exact h.oth i hi hne, ?_, by rw [totW_app]; exact hf, fun t ht1 ht2 => ?_, h.fine.app (fun z hz => by rw [List.mem_singleton] at hz; rw [hz]; exact hy)⟩
  · refine RingW.app (h.ring.congr fun t ht => hring t (by omega) (Or.inl ht)) fun j hj => ?_
    unfold nowOf
    rw [h1 j hj]
    rfl
  · rw [totW_app, totW_one] at ht1
    rw [hring t ht2 (Or.inr ht1)]
    exact h.free t (by omega) ht2
end Go.Proofs.YtippipeebkkghaaGreatDoor

/- A log's plate behind a crash, and behind an opening (plain). -/
import Derived.Test.YtippipeebkkghaaGreatDoorBg
import Derived.Test.YtippipeebkkghaaGreatDoorBc
import Derived.Test.YtippipeebkkghaaGreatDoorSc0
namespace Go.Proofs.YtippipeebkkghaaGreatDoor
set_option linter.unusedVariables false
set_option linter.unusedSimpArgs false
open Go.RowKit Go.Deep

/-- what is read behind a crash: each sector of the ring is as it was written, or is none of a record's -/
structure Aft (rd rdW : Nat → List Nat) (s a b c e : Nat) (recs : List (List Nat)) : Prop where
  log : LogN rdW s a b c e recs
  hds : ∀ i, i < 2 → rd i = rdW i
  ring : ∀ t, t < s → rd (2 + (c + t) % s) = rdW (2 + (c + t) % s) ∨ Bad (rd (2 + (c + t) % s))
theorem Aft.same {rd : Nat → List Nat} {s a b c e : Nat} {recs : List (List Nat)} (h : LogN rd s a b c e recs) : Aft rd rd s a b c e recs := ⟨h, fun _ _ => rfl, fun _ _ => Or.inl rfl⟩
theorem Aft.newest {dur : List Nat} {T : Nat → Option (List Nat)} {rdW : Nat → List Nat} {s a b c e : Nat} {recs : List (List Nat)} (h : Aft (nowOf dur T) rdW s a b c e recs) (ha : 1 ≤ a ∧ a ≤ 1152921504606846976) (hb : 1 ≤ b ∧ b ≤ 1152921504606846976) (hc : c < s) (hs : s ≤ 8192) (he : 1 ≤ e ∧ e ≤ 1152921504606846976) : newH dur T s 2 = ⟨a, b, c, e⟩ :=
  newH_of ha hb hc hs he (by rw [h.hds _ (by omega)]; exact h.log.hd) (fun i hi hne => by rw [h.hds i hi]; exact h.log.oth i hi hne)
theorem Aft.read {rd rdW : Nat → List Nat} {s a b c e : Nat} {recs : List (List Nat)} (h : Aft rd rdW s a b c e recs) (hs : s ≤ 8192) (he : e ≤ 1152921504606846976) : ∃ m, m ≤ recs.length ∧ recsW rd s c e (s + 1) 0 [] = (recs.take m, totW (recs.take m)) ∧ (∀ t, t < totW (recs.take m) → rd (2 + (c + t) % s) = rdW (2 + (c + t) % s)) ∧ ∀ m', m' ≤ recs.length → (∀ t, t < totW (recs.take m') → rd (2 + (c + t) % s) = rdW (2 + (c + t) % s)) → m' ≤ m := by
  have hl := h.log.fine.len
  have hf := h.log.fits
  obtain ⟨m, h1, h2, h4, h3⟩ := recsW_read (rd := rd) (rdW := rdW) (s := s) (c := c) (e := e) recs (s + 1) 0 [] h.log.fine (by rw [Nat.add_zero]; exact h.log.ring) (by omega) (by omega) (by show e + 0 + recs.length < _; omega) (fun t _ ht => h.ring t (by omega)) (fun t ht1 ht2 => by
    rcases h.ring t ht2 with hr | hr
    · rw [hr, h.log.free t (by omega) ht2]; exact bad_nou
    · exact hr)
  refine ⟨m, h1, ?_, fun t ht => h4 t (Nat.zero_le _) (by omega), fun m' hm' hk => h3 m' hm' (fun t _ ht => hk t (by omega))⟩
  rw [h2, List.nil_append, Nat.zero_add]
theorem totW_take (recs : List (List Nat)) (m : Nat) : totW (recs.take m) ≤ totW recs := by
  have := totW_app (recs.take m) (recs.drop m)
  rw [List.take_append_drop] at this
  omega
theorem RingW.take {rd : Nat → List Nat} {s : Nat} : ∀ {c e : Nat} {recs : List (List Nat)} (m : Nat), RingW rd s c e recs → RingW rd s c e (recs.take m)
  | c, e, recs, 0, h => trivial
  | c, e, [], m + 1, h => trivial
  | c, e, ys :: l, m + 1, ⟨h1, h2⟩ => ⟨h1, RingW.take m h2⟩
/-- what the plate has when it was opened: X is its sectors behind cleaning, now those behind the new head -/
theorem Aft.opened {dur : List Nat} {T : Nat → Option (List Nat)} {rdW X now : Nat → List Nat} {s a b c e : Nat} {recs : List (List Nat)} (h : Aft (nowOf dur T) rdW s a b c e recs) (ha : 1 ≤ a ∧ a ≤ 1152921504606846976) (hb : 1 ≤ b ∧ b ≤ 1152921504606846976) (hc : c < s) (hs : s ≤ 8192) (he : 1 ≤ e ∧ e ≤ 1152921504606846976) {m : Nat} (hm : m ≤ recs.length) (hk : ∀ t, t < totW (recs.take m) → nowOf dur T (2 + (c + t) % s) = rdW (2 + (c + t) % s)) (hX : Cln dur T s (c + totW (recs.take m)) (s - totW (recs.take m)) (2 + s) X) (hn : ∀ i, i < 2 + s → now i = if i = (a + 1) % 2 then hdB (a + 1) (b + 1) c e else X i) : LogN now s (a + 1) (b + 1) c e (recs.take m) := by
  have htt := totW_take recs m
  have hft := h.log.fits
  have hX2 : ∀ i, i < 2 → X i = nowOf dur T i := fun i hi => (hX i (by omega)).2.2 (fun t ht => by omega)
  have hlt : ∀ t, 2 + (c + t) % s < 2 + s := fun t => by have := Nat.mod_lt (c + t) (show 0 < s by omega); omega
  have hnr : ∀ t, now (2 + (c + t) % s) = X (2 + (c + t) % s) := fun t => by rw [hn _ (hlt t), if_neg (by omega)]
  refine ⟨by rw [hn _ (by omega), if_pos rfl], fun i hi hne hok => ?_, ?_, by omega, fun t h1 h2 => ?_, fun ys hy => h.log.fine ys (List.mem_of_mem_take hy)⟩
  · have hia : i = a % 2 := by omega
    have : now i = hdB a b c e := by rw [hn i (by omega), if_neg hne, hX2 i hi, h.hds i hi, hia]; exact h.log.hd
    rw [this, sayH_hdB (by omega) (by omega) (by omega) (by omega)]
    show (a : Int) < ((a + 1 : Nat) : Int)
    omega
  · refine (RingW.take m h.log.ring).congr fun t ht => ?_
    rw [hnr t, ← hk t ht]
    refine (hX _ (hlt t)).2.2 fun t' ht' heq => ?_
    have := mod_inj (s := s) (e := c) (i := t) (j := totW (recs.take m) + t') (by omega) (by omega) (by rw [← Nat.add_assoc]; omega)
    omega
  · rw [hnr t]
    refine (hX _ (hlt t)).2.1 ⟨t - totW (recs.take m), by omega, ?_⟩
    rw [show c + totW (recs.take m) + (t - totW (recs.take m)) = c + t by omega]

/-- no sector of a record's is bad -/
theorem RingW.not_bad {rd : Nat → List Nat} {s : Nat} : ∀ {c e : Nat} {recs : List (List Nat)}, RingW rd s c e recs → e + recs.length < 9223372036854775808 → ∀ t, t < totW recs → ¬ Bad (rd (2 + (c + t) % s))
  | c, e, [], h, he, t, ht => absurd ht (Nat.not_lt_zero _)
  | c, e, ys :: l, ⟨h1, h2⟩, he, t, ht => by
    have he' : e + (l.length + 1) < 9223372036854775808 := he
    have ht' : t < needW ys + totW l := ht
    by_cases h : t < needW ys
    · intro hb
      rw [h1 t h] at hb
      have := (secJ_ok (u := e) (by omega) h).1
      rw [hb] at this
      cases this
    · have := RingW.not_bad h2 (by omega) (t - needW ys) (by omega)
      rw [show c + needW ys + (t - needW ys) = c + t by omega] at this
      exact this
/-- what is dirty stands on free sectors, which were noughts -/
def DirtW (dur : List Nat) (T : Nat → Option (List Nat)) : Prop := ∀ j xs, T j = some xs → 2 ≤ j ∧ secOf dur j = nouW 64
theorem DirtW.none (dur : List Nat) : DirtW dur (fun _ => Option.none) := fun j xs h => by cases h
theorem DirtW.put {dur : List Nat} {T : Nat → Option (List Nat)} {s a b c e : Nat} {recs : List (List Nat)} {ys : List Nat} (hD : DirtW dur T) (h : LogN (nowOf dur T) s a b c e recs) (hs : 1 ≤ s) (hf : totW recs + needW ys ≤ s) : DirtW dur (wrT T s (c + totW recs) (e + recs.length) ys (needW ys) (needW ys)) := by
  intro i xs hi
  obtain ⟨h1, h2⟩ := wrT_at (T := T) (s := s) (e := c + totW recs) (u := e + recs.length) (ys := ys) (K := needW ys) (needW ys) (by omega)
  by_cases hj : ∃ j, j < needW ys ∧ i = 2 + (c + totW recs + j) % s
  · obtain ⟨j, hj, rfl⟩ := hj
    refine ⟨by omega, ?_⟩
    cases hT : T (2 + (c + totW recs + j) % s) with
    | some zs => exact (hD _ zs hT).2
    | none =>
      have h9 := h.free (totW recs + j) (by omega) (by omega)
      rw [← Nat.add_assoc] at h9
      unfold nowOf at h9
      rw [hT] at h9
      exact h9
  · rw [h2 i (fun j hj' e => hj ⟨j, hj', e⟩)] at hi
    exact hD i xs hi
/-- behind a crash -/
theorem Aft.crash {dur : List Nat} {T : Nat → Option (List Nat)} {s a b c e n : Nat} {recs : List (List Nat)} {zs : List Int} {i x : Int} (h : LogN (nowOf dur T) s a b c e recs) (hD : DirtW dur T) (hn : n = 2 + s) (hs : 1 ≤ s) (hl : dur.length = n * 64) (hT : ∀ i xs, T i = some xs → xs.length = 64) : Aft (nowOf (crashD dur T zs i x) (fun _ => none)) (nowOf dur T) s a b c e recs ∧ (∀ j, j < n → T j = none → nowOf (crashD dur T zs i x) (fun _ => none) j = nowOf dur T j) ∧ (zs = [] → torn64 x ≤ 63 → ∀ j xs, j < n → T j = some xs → Bad (nowOf (crashD dur T zs i x) (fun _ => none) j)) := by
  have hj : ∀ j, j < n → nowOf (crashD dur T zs i x) (fun _ => none) j = if (j : Int) = i ∧ ¬ (j : Int) ∈ zs then mixS T j (torn64 x) (secOf dur j) else if (j : Int) ∈ zs then nowOf dur T j else secOf dur j := fun j hj => secOf_crash hl hj hT
  have h0 : ∀ j, j < n → T j = none → nowOf (crashD dur T zs i x) (fun _ => none) j = nowOf dur T j := fun j hjn hTj => by
    have e1 : nowOf dur T j = secOf dur j := by unfold nowOf; rw [hTj]; rfl
    rw [hj j hjn, e1]
    unfold mixS
    rw [hTj]
    split
    · rfl
    · split <;> rfl
  refine ⟨⟨h, fun j hj2 => ?_, fun t ht => ?_⟩, h0, fun hz ht j xs hjn hTj => ?_⟩
  · refine h0 j (by omega) ?_
    cases hTj : T j with
    | none => rfl
    | some xs => have := (hD j xs hTj).1; omega
  · have hlt : 2 + (c + t) % s < n := by have := Nat.mod_lt (c + t) (show 0 < s by omega); omega
    obtain ⟨j, hjj⟩ : ∃ j, j = 2 + (c + t) % s := ⟨_, rfl⟩
    rw [← hjj] at hlt ⊢
    cases hTj : T j with
    | none => exact Or.inl (h0 j hlt hTj)
    | some xs =>
      have hx := hT j xs hTj
      obtain ⟨_, hd⟩ := hD j xs hTj
      have e1 : nowOf dur T j = xs := by unfold nowOf; rw [hTj]; rfl
      rw [hj j hlt, e1]
      by_cases c1 : (j : Int) = i ∧ ¬ (j : Int) ∈ zs
      · rw [if_pos c1]
        unfold mixS
        rw [hTj, hd]
        by_cases h64 : torn64 x = 64
        · left
          show xs.take (torn64 x) ++ (nouW 64).drop (torn64 x) = xs
          rw [h64, List.take_of_length_le (by omega), List.drop_of_length_le (Nat.le_of_eq (nouW_len 64)), List.append_nil]
        · right
          exact bad_torn (by have := torn64_le x; omega) hx
      · rw [if_neg c1]
        by_cases c2 : (j : Int) ∈ zs
        · rw [if_pos c2]
          exact Or.inl rfl
        · rw [if_neg c2, hd]
          exact Or.inr bad_nou
  · have hx := hT j xs hTj
    obtain ⟨_, hd⟩ := hD j xs hTj
    rw [hj j hjn, hz]
    by_cases c1 : (j : Int) = i ∧ ¬ (j : Int) ∈ ([] : List Int)
    · rw [if_pos c1]
      unfold mixS
      rw [hTj, hd]
      exact bad_torn ht hx
    · rw [if_neg c1, if_neg (by simp), hd]
      exact bad_nou
end Go.Proofs.YtippipeebkkghaaGreatDoor

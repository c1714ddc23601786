/- A stock written anew: the records that count, as a history of their own (plain). -/
import Derived.Test.YtippipeebkkghaaGreatDoorIz
namespace Go.Proofs.YtippipeebkkghaaGreatDoor
set_option linter.unusedVariables false
set_option linter.unusedSimpArgs false

/-- a thing's sectors -/
def fS (h : List Rc) (x : K3) : Int := match (stS h).1 x with | some o => (secS o : Int) | none => 0

def sumI (l : List Int) : Int := l.foldr (· + ·) 0

theorem sumI_cons (a : Int) (l : List Int) : sumI (a :: l) = a + sumI l := rfl

theorem sumI_zero : ∀ l : List K3, sumI (l.map fun _ => (0 : Int)) = 0
  | [] => rfl
  | a :: l => by rw [List.map_cons, sumI_cons, sumI_zero l]; rfl

/-- two sums that differ at one place alone -/
theorem sum_at {f g : K3 → Int} {z : K3} : ∀ (l : List K3), l.Nodup → z ∈ l → (∀ x ∈ l, x ≠ z → f x = g x) → sumI (l.map f) = sumI (l.map g) - g z + f z
  | [], _, h, _ => absurd h List.not_mem_nil
  | x :: l, hn, hz, he => by
    rw [List.map_cons, List.map_cons, sumI_cons, sumI_cons]
    have hn2 := List.nodup_cons.1 hn
    by_cases e : x = z
    · subst e
      have hsame : l.map f = l.map g := List.map_congr_left (fun y hy => he y (List.mem_cons_of_mem _ hy) (fun e2 => hn2.1 (e2 ▸ hy)))
      rw [hsame]
      omega
    · have hz2 : z ∈ l := (List.mem_cons.1 hz).resolve_left (fun e2 => e e2.symm)
      rw [sum_at l hn2.2 hz2 (fun y hy hne => he y (List.mem_cons_of_mem _ hy) hne), he x List.mem_cons_self e]
      omega

theorem sum_same {f g : K3 → Int} (l : List K3) (he : ∀ x ∈ l, f x = g x) : sumI (l.map f) = sumI (l.map g) := by rw [List.map_congr_left he]

theorem fS_at (h : List Rc) (r : Rc) (x : K3) : fS (h ++ [r]) x = if x = subS r then (if staysS r = true then (secS r : Int) else 0) else fS h x := by
  unfold fS
  rw [stS_at]
  by_cases h1 : x = subS r
  · rw [if_pos h1, if_pos h1]
    by_cases h2 : staysS r = true
    · rw [if_pos h2, if_pos h2]
    · rw [if_neg h2, if_neg h2]
  · rw [if_neg h1, if_neg h1]

/-- the sectors of all that counts -/
theorem stS_sum (h : List Rc) : ∀ ks : List K3, ks.Nodup → (∀ x o, (stS h).1 x = some o → x ∈ ks) → (stS h).2 = sumI (ks.map (fS h)) := by
  suffices H : ∀ n, ∀ h : List Rc, h.length = n → ∀ ks : List K3, ks.Nodup → (∀ x o, (stS h).1 x = some o → x ∈ ks) → (stS h).2 = sumI (ks.map (fS h)) from H _ h rfl
  intro n
  induction n with
  | zero =>
    intro h hl ks _ _
    rw [List.eq_nil_of_length_eq_zero hl, stS_nil]
    have e : ks.map (fS []) = ks.map (fun _ => (0 : Int)) := List.map_congr_left (fun x _ => by unfold fS; rw [stS_nil])
    rw [e, sumI_zero]
  | succ n ih =>
    intro h hl ks hk hs
    obtain ⟨l, r, rfl⟩ : ∃ l r, h = l ++ [r] := ⟨h.dropLast, h.getLast (by intro e; subst e; simp at hl), (List.dropLast_concat_getLast _).symm⟩
    have hll : l.length = n := by simpa using hl
    have hsup : ∀ x o, (stS l).1 x = some o → x = subS r ∨ x ∈ ks := fun x o ho => by
      by_cases e : x = subS r
      · exact Or.inl e
      · refine Or.inr (hs x o ?_)
        rw [stS_at, if_neg e]
        exact ho
    have hbeh : (stS (l ++ [r])).2 = (stS l).2 - fS l (subS r) + fS (l ++ [r]) (subS r) := by
      rw [stS_snoc, fS_at, if_pos rfl]
      show behS _ _ _ = _
      unfold behS fS
      rfl
    have hne : ∀ x, x ≠ subS r → fS (l ++ [r]) x = fS l x := fun x hx => by rw [fS_at, if_neg hx]
    by_cases hz : subS r ∈ ks
    · have h1 := ih l hll ks hk (fun x o ho => (hsup x o ho).elim (fun e => e ▸ hz) id)
      rw [hbeh, h1, sum_at ks hk hz (fun x _ hx => hne x hx)]
    · have h1 := ih l hll (subS r :: ks) (List.nodup_cons.2 ⟨hz, hk⟩) (fun x o ho => (hsup x o ho).elim (fun e => e ▸ List.mem_cons_self) (List.mem_cons_of_mem _))
      have h2 : fS (l ++ [r]) (subS r) = 0 := by
        unfold fS
        cases hx : (stS (l ++ [r])).1 (subS r) with
        | none => rfl
        | some o => exact absurd (hs _ _ hx) hz
      rw [hbeh, h1, h2, List.map_cons, sumI_cons, sum_same ks (fun x hx => hne x (fun e => hz (e ▸ hx)))]
      omega

/-- records of different things that all stay -/
def Dst3 (l : List Rc) : Prop := (l.map subS).Nodup ∧ ∀ r ∈ l, staysS r = true

theorem dst_at {l : List Rc} : Dst3 l → ∀ x o, (stS l).1 x = some o ↔ o ∈ l ∧ x = subS o := by
  suffices H : ∀ n, ∀ l : List Rc, l.length = n → Dst3 l → ∀ x o, (stS l).1 x = some o ↔ o ∈ l ∧ x = subS o from H _ l rfl
  intro n
  induction n with
  | zero =>
    intro l hl _ x o
    rw [List.eq_nil_of_length_eq_zero hl, stS_nil]
    simp
  | succ n ih =>
    intro h hl hd x o
    obtain ⟨l, r, rfl⟩ : ∃ l r, h = l ++ [r] := ⟨h.dropLast, h.getLast (by intro e; subst e; simp at hl), (List.dropLast_concat_getLast _).symm⟩
    have hd1 : (l.map subS).Nodup ∧ subS r ∉ l.map subS := by
      have h1 := hd.1
      rw [List.map_append] at h1
      have h2 := List.nodup_append.1 h1
      exact ⟨h2.1, fun hm => h2.2.2 _ hm _ (List.mem_singleton.2 rfl) rfl⟩
    have hi := ih l (by simpa using hl) ⟨hd1.1, fun q hq => hd.2 q (List.mem_append_left _ hq)⟩ x o
    rw [stS_at]
    by_cases e : x = subS r
    · rw [if_pos e, if_pos (hd.2 r (List.mem_append_right _ (List.mem_singleton.2 rfl)))]
      constructor
      · intro h1
        cases h1
        exact ⟨List.mem_append_right _ (List.mem_singleton.2 rfl), e⟩
      · rintro ⟨h1, h2⟩
        rcases List.mem_append.1 h1 with h1 | h1
        · exact absurd (List.mem_map.2 ⟨o, h1, by rw [← h2, e]⟩) hd1.2
        · rw [List.mem_singleton.1 h1]
    · rw [if_neg e, hi]
      constructor
      · rintro ⟨h1, h2⟩
        exact ⟨List.mem_append_left _ h1, h2⟩
      · rintro ⟨h1, h2⟩
        rcases List.mem_append.1 h1 with h1 | h1
        · exact ⟨h1, h2⟩
        · rw [List.mem_singleton.1 h1] at h2
          exact absurd h2 e

/-- all that counts, in order -/
def ckL (h : List Rc) (ss : List K3) : List Rc := (srt3 ss).filterMap (stS h).1

theorem ckL_mem {h : List Rc} {ss : List K3} (hs : Ths h ss) {o : Rc} : o ∈ ckL h ss → (stS h).1 (subS o) = some o ∧ staysS o = true ∧ subS o ∈ ss := fun ho => by
  obtain ⟨x, hx, hxo⟩ := List.mem_filterMap.1 ho
  obtain ⟨e1, e2⟩ := stS_sub h x o hxo
  rw [← e1]
  exact ⟨hxo, e2, (srt3_mem ss x).1 hx⟩

theorem ckL_sub {h : List Rc} : ∀ (l : List K3), (∀ x ∈ l, ∃ o, (stS h).1 x = some o) → (l.filterMap (stS h).1).map subS = l
  | [], _ => rfl
  | x :: l, hs => by
    obtain ⟨o, ho⟩ := hs x List.mem_cons_self
    rw [List.filterMap_cons_some ho, List.map_cons, ← (stS_sub h x o ho).1, ckL_sub l (fun y hy => hs y (List.mem_cons_of_mem _ hy))]

theorem ckL_dst {h : List Rc} {ss : List K3} (hs : Ths h ss) : Dst3 (ckL h ss) ∧ (ckL h ss).map subS = srt3 ss := by
  have h1 : (ckL h ss).map subS = srt3 ss := ckL_sub (srt3 ss) (fun x hx => ((hs.2 x).1 ((srt3_mem ss x).1 hx)).2)
  refine ⟨⟨?_, fun r hr => (ckL_mem hs hr).2.1⟩, h1⟩
  rw [h1]
  exact (List.mergeSort_perm ss _).nodup_iff.2 hs.1

/-- what is written anew comes to the same -/
theorem ckL_same {h : List Rc} {ss : List K3} (hs : Ths h ss) (hw : ∀ x o, (stS h).1 x = some o → wf3 x) : (stS (ckL h ss)).1 = (stS h).1 ∧ (stS (ckL h ss)).2 = (stS h).2 := by
  have h1 : (stS (ckL h ss)).1 = (stS h).1 := by
    funext x
    have hd := dst_at (ckL_dst hs).1 x
    cases hx : (stS h).1 x with
    | none =>
      cases hy : (stS (ckL h ss)).1 x with
      | none => rfl
      | some o =>
        obtain ⟨h2, h3⟩ := (hd o).1 hy
        have := (ckL_mem hs h2).1
        rw [← h3, hx] at this
        cases this
    | some o =>
      refine (hd o).2 ⟨List.mem_filterMap.2 ⟨x, (srt3_mem ss x).2 ((hs.2 x).2 ⟨hw x o hx, o, hx⟩), hx⟩, (stS_sub h x o hx).1⟩
  refine ⟨h1, ?_⟩
  rw [stS_sum (ckL h ss) ss hs.1 (fun x o ho => (hs.2 x).2 ⟨hw x o (h1 ▸ ho), o, h1 ▸ ho⟩), stS_sum h ss hs.1 (fun x o ho => (hs.2 x).2 ⟨hw x o ho, o, ho⟩)]
  refine sum_same ss (fun x _ => ?_)
  unfold fS
  rw [h1]

/-- and takes so many sectors -/
theorem dst_tot : ∀ {l : List Rc}, Dst3 l → (totW (l.map wrS) : Int) = (stS l).2 := by
  intro l
  suffices H : ∀ n, ∀ l : List Rc, l.length = n → Dst3 l → (totW (l.map wrS) : Int) = (stS l).2 from H _ l rfl
  intro n
  induction n with
  | zero =>
    intro l hl _
    rw [List.eq_nil_of_length_eq_zero hl, stS_nil]
    rfl
  | succ n ih =>
    intro h hl hd
    obtain ⟨l, r, rfl⟩ : ∃ l r, h = l ++ [r] := ⟨h.dropLast, h.getLast (by intro e; subst e; simp at hl), (List.dropLast_concat_getLast _).symm⟩
    have hd1 : (l.map subS).Nodup ∧ subS r ∉ l.map subS := by
      have h1 := hd.1
      rw [List.map_append] at h1
      have h2 := List.nodup_append.1 h1
      exact ⟨h2.1, fun hm => h2.2.2 _ hm _ (List.mem_singleton.2 rfl) rfl⟩
    have hdl : Dst3 l := ⟨hd1.1, fun q hq => hd.2 q (List.mem_append_left _ hq)⟩
    have h1 := ih l (by simpa using hl) hdl
    rw [List.map_append, totW_app, stS_snoc]
    show ((totW (l.map wrS) + secS r : Nat) : Int) = behS _ _ _
    unfold behS
    have hno : (stS l).1 (subS r) = none := by
      cases hx : (stS l).1 (subS r) with
      | none => rfl
      | some o =>
        obtain ⟨h2, h3⟩ := (dst_at hdl _ _).1 hx
        exact absurd (List.mem_map.2 ⟨o, h2, h3.symm⟩) hd1.2
    rw [hno, if_pos (hd.2 r (List.mem_append_right _ (List.mem_singleton.2 rfl)))]
    dsimp only
    omega
end Go.Proofs.YtippipeebkkghaaGreatDoor

/- Each key's lines of a journal are a journal, and as right as its calls are, plain. -/
import Derived.Test.YtbbgplnenbkfeaaVi
namespace Go.Proofs.Ytbbgplnenbkfeaa
set_option linter.unusedVariables false
set_option linter.unusedSimpArgs false
open Go.RowKit Go.Deep Go.Maps

/-- times that fit, moved -/
theorem Fit.move {g g' : List Hc} {L L' : Int} {pt er : Nat} {W E : Int} {B : List Nat} (σ : Int → Int) (f : Fit g L pt er W E B) (hl : g'.length = g.length)
    (h : ∀ i, i < g.length → (g'.getD i hc0).e = (g.getD i hc0).e ∧ (g'.getD i hc0).says = (g.getD i hc0).says ∧ (g'.getD i hc0).g = (g.getD i hc0).g ∧ ∀ T, ((g.getD i hc0).fr < T → (g'.getD i hc0).fr < σ T) ∧ (T ≤ (g.getD i hc0).to → σ T ≤ (g'.getD i hc0).to))
    (hL : ∀ T, L < T → L' < σ T) (hm : σ W ≤ σ E) (hu : σ E ≤ never) : Fit g' L' pt er (σ W) (σ E) B := by
  refine ⟨hm, hu, fun hp => ?_, fun hp => hL W (f.pn (by omega)), fun hd => ?_, fun hd => hL E (f.dn (by omega)), fun i hi n1 n2 => ?_⟩
  · have hp' : pt < g.length := by omega
    obtain ⟨h1, h2, h3, h4⟩ := h pt hp'
    obtain ⟨f1, f2, f3, f4, f5⟩ := f.p hp'
    rw [h1, h2]
    exact ⟨f1, f2, (h4 W).1 f3, (h4 W).2 f4, f5⟩
  · have hd' : er < g.length := by omega
    obtain ⟨h1, h2, h3, h4⟩ := h er hd'
    obtain ⟨f1, f2, f3, f4⟩ := f.d hd'
    rw [h1, h2]
    exact ⟨f1, f2, (h4 E).1 f3, (h4 E).2 f4⟩
  · have hi' : i < g.length := by omega
    obtain ⟨h1, h2, h3, h4⟩ := h i hi'
    have hrd : readsP (g'.getD i hc0) = readsP (g.getD i hc0) := by unfold readsP; rw [h1, h2]
    unfold Rst
    rw [h2, h3, hrd]
    rcases f.r i hi' n1 n2 with q | q | q | q
    · exact Or.inl q
    · exact Or.inr (Or.inl ⟨q.1, (h4 W).2 q.2⟩)
    · refine Or.inr (Or.inr (Or.inl ⟨q.1, ?_⟩))
      rcases q.2 with r | r
      · exact Or.inl ((h4 W).1 r)
      · exact Or.inr ((h4 E).2 r)
    · exact Or.inr (Or.inr (Or.inr ⟨q.1, (h4 E).1 q.2.1, (h4 W).2 q.2.2.1, q.2.2.2⟩))
/-- a call among all lines, and among its key's: τ tells where a line of the key stands -/
structure Cor (τ : Nat → Nat) (m : Nat) (c d : Hc) : Prop where
  e : d.e = c.e
  s : d.says = c.says
  t : d.told = c.told
  g : d.g = c.g
  f : ∃ a, a < m ∧ d.fr = (a : Int) ∧ c.fr = (τ a : Int)
  o : (c.to = never ∧ d.to = never) ∨ ∃ a, a < m ∧ d.to = (a : Int) ∧ c.to = (τ a : Int)
def Corr (τ : Nat → Nat) (m : Nat) : List Hc → List Hc → Prop
  | [], [] => True
  | c :: cs, d :: ds => Cor τ m c d ∧ Corr τ m cs ds
  | _, _ => False
theorem Corr.get {τ : Nat → Nat} {m : Nat} : ∀ {cs ds : List Hc}, Corr τ m cs ds → ds.length = cs.length ∧ ∀ i, i < cs.length → Cor τ m (cs.getD i hc0) (ds.getD i hc0)
  | [], [], _ => ⟨rfl, fun i hi => absurd hi (Nat.not_lt_zero _)⟩
  | c :: cs, d :: ds, h => by
    obtain ⟨h1, h2⟩ := Corr.get h.2
    refine ⟨by simp [h1], fun i hi => ?_⟩
    cases i with
    | zero => exact h.1
    | succ i => simpa using h2 i (by simpa using hi)
theorem Cor.mono {τ τ' : Nat → Nat} {m m' : Nat} {c d : Hc} (h : Cor τ m c d) (hm : m ≤ m') (ht : ∀ a, a < m → τ' a = τ a) : Cor τ' m' c d := by
  obtain ⟨a, h1, h2, h3⟩ := h.f
  refine ⟨h.e, h.s, h.t, h.g, ⟨a, by omega, h2, by rw [ht a h1]; exact h3⟩, ?_⟩
  rcases h.o with q | ⟨b, q1, q2, q3⟩
  · exact Or.inl q
  · exact Or.inr ⟨b, by omega, q2, by rw [ht b q1]; exact q3⟩
theorem Corr.mono {τ τ' : Nat → Nat} {m m' : Nat} (hm : m ≤ m') (ht : ∀ a, a < m → τ' a = τ a) : ∀ {cs ds : List Hc}, Corr τ m cs ds → Corr τ' m' cs ds
  | [], [], _ => trivial
  | c :: cs, d :: ds, h => ⟨h.1.mono hm ht, Corr.mono hm ht h.2⟩
theorem Corr.snoc {τ : Nat → Nat} {m : Nat} {c d : Hc} (h2 : Cor τ m c d) : ∀ (cs ds : List Hc), Corr τ m cs ds → Corr τ m (cs ++ [c]) (ds ++ [d])
  | [], [], _ => by
    show Cor τ m c d ∧ True
    exact ⟨h2, trivial⟩
  | [], y :: ds, h => by cases h
  | x :: cs, [], h => by cases h
  | x :: cs, y :: ds, h => by
    show Cor τ m x y ∧ Corr τ m (cs ++ [c]) (ds ++ [d])
    exact ⟨h.1, Corr.snoc h2 cs ds h.2⟩
/-- one call told, by its number -/
def updC (z : Int) (f : Hc → Hc) (cs : List Hc) : List Hc := cs.map (fun c => if c.e.id = z then f c else c)
theorem upd_set {cs : List Hc} (h : Dst cs) {i : Nat} {c : Hc} (hi : cs[i]? = some c) (f : Hc → Hc) : cs.set i (f c) = updC c.e.id f cs := by
  apply List.ext_getElem?
  intro j
  unfold updC
  rw [List.getElem?_map]
  have hil := (List.getElem?_eq_some_iff.1 hi).1
  by_cases e : i = j
  · subst e
    rw [List.getElem?_set_self hil, hi]
    simp
  · rw [List.getElem?_set_ne e]
    cases hj : cs[j]? with
    | none => rfl
    | some d =>
      have : d.e.id ≠ c.e.id := fun e2 => e (h j i d c hj hi e2).symm
      simp [this]
theorem upd_grp {z : Int} {f : Hc → Hc} (hf : ∀ c, (f c).e = c.e) (k : List UInt8) : ∀ cs : List Hc, grpOf (updC z f cs) k = updC z f (grpOf cs k)
  | [] => rfl
  | c :: cs => by
    have ih := upd_grp (z := z) hf k cs
    unfold grpOf updC at ih ⊢
    rw [List.map_cons, List.filter_cons, List.filter_cons]
    have hk : (if c.e.id = z then f c else c).e = c.e := by
      split
      · exact hf c
      · rfl
    rw [hk]
    split
    · rw [List.map_cons, ih]
    · exact ih
theorem upd_none {z : Int} {f : Hc → Hc} : ∀ {cs : List Hc}, (∀ c ∈ cs, c.e.id ≠ z) → updC z f cs = cs
  | [], _ => rfl
  | c :: cs, h => by
    unfold updC
    rw [List.map_cons, if_neg (h c (by simp))]
    have := upd_none (z := z) (f := f) (cs := cs) (fun d hd => h d (List.mem_cons_of_mem _ hd))
    unfold updC at this
    rw [this]
theorem Cor.hear {τ : Nat → Nat} {m : Nat} {c d : Hc} (h : Cor τ m c d) (e : Ev) (a : Nat) (ha : a < m) : Cor τ m (hearP c e (τ a : Int)) (hearP d e (a : Int)) := by
  obtain ⟨b, h1, h2, h3⟩ := h.f
  unfold hearP
  split
  · exact ⟨h.e, rfl, rfl, rfl, ⟨b, h1, h2, h3⟩, Or.inr ⟨a, ha, rfl, rfl⟩⟩
  · exact ⟨h.e, h.s, rfl, h.g, ⟨b, h1, h2, h3⟩, h.o⟩
theorem Corr.upd {τ : Nat → Nat} {m : Nat} (z : Int) (e : Ev) (a : Nat) (ha : a < m) : ∀ {cs ds : List Hc}, Corr τ m cs ds → Corr τ m (updC z (fun c => hearP c e (τ a : Int)) cs) (updC z (fun c => hearP c e (a : Int)) ds)
  | [], [], _ => trivial
  | c :: cs, d :: ds, h => by
    refine ⟨?_, Corr.upd z e a ha h.2⟩
    show Cor τ m (if c.e.id = z then hearP c e (τ a : Int) else c) (if d.e.id = z then hearP d e (a : Int) else d)
    rw [h.1.e]
    split
    · exact h.1.hear e a ha
    · exact h.1
/-- a key's lines, as a journal -/
structure Sub (es : List Ev) (cs : List Hc) (k : List UInt8) (ek : List Ev) (ck : List Hc) (τ : Nat → Nat) : Prop where
  r : rd ek = some ck
  d : Dst ck
  c : Corr τ ek.length (grpOf cs k) ck
  m : ∀ a b, a < b → b < ek.length → τ a < τ b
  u : ∀ a, a < ek.length → τ a < es.length
  l : ek.length ≤ es.length
theorem Sub.nil (k : List UInt8) : Sub [] [] k [] [] (fun a => a) := ⟨rfl, fun i j a b h => (by simp at h), trivial, fun a b _ h => absurd h (Nat.not_lt_zero _), fun a h => absurd h (Nat.not_lt_zero _), Nat.le_refl _⟩
def tau (τ : Nat → Nat) (m v : Nat) : Nat → Nat := fun a => if a = m then v else τ a
theorem tau_lt {τ : Nat → Nat} {m v a : Nat} (h : a < m) : tau τ m v a = τ a := by unfold tau; rw [if_neg (by omega)]
theorem tau_eq {τ : Nat → Nat} {m v : Nat} : tau τ m v m = v := by unfold tau; rw [if_pos rfl]
theorem Corr.ids {τ : Nat → Nat} {m : Nat} : ∀ {cs ds : List Hc}, Corr τ m cs ds → ∀ d ∈ ds, ∃ c ∈ cs, d.e = c.e
  | [], [], _, d, hd => by cases hd
  | c :: cs, d' :: ds, h, d, hd => by
    rcases List.mem_cons.1 hd with rfl | q
    · exact ⟨c, by simp, h.1.e⟩
    · obtain ⟨c', h1, h2⟩ := Corr.ids h.2 d q
      exact ⟨c', List.mem_cons_of_mem _ h1, h2⟩
theorem Corr.ids2 {τ : Nat → Nat} {m : Nat} : ∀ {cs ds : List Hc}, Corr τ m cs ds → ∀ c ∈ cs, ∃ d ∈ ds, Cor τ m c d
  | [], [], _, d, hd => by cases hd
  | c' :: cs, d :: ds, h, c, hc => by
    rcases List.mem_cons.1 hc with rfl | q
    · exact ⟨d, by simp, h.1⟩
    · obtain ⟨d', h1, h2⟩ := Corr.ids2 h.2 c q
      exact ⟨d', List.mem_cons_of_mem _ h1, h2⟩
/-- a line of another key -/
theorem Sub.other {es : List Ev} {cs cs' : List Hc} {k : List UInt8} {ek : List Ev} {ck : List Hc} {τ : Nat → Nat} (h : Sub es cs k ek ck τ) (e : Ev) (hg : grpOf cs' k = grpOf cs k) : Sub (es ++ [e]) cs' k ek ck τ := by
  refine ⟨h.r, h.d, by rw [hg]; exact h.c, h.m, fun a ha => ?_, ?_⟩
  · have := h.u a ha
    simp; omega
  · have := h.l
    simp; omega
theorem Sub.ext {es : List Ev} {cs : List Hc} {k : List UInt8} {ek : List Ev} {ck : List Hc} {τ : Nat → Nat} (h : Sub es cs k ek ck τ) (e : Ev) : (∀ a b, a < b → b < (ek ++ [e]).length → tau τ ek.length es.length a < tau τ ek.length es.length b) ∧ (∀ a, a < (ek ++ [e]).length → tau τ ek.length es.length a < (es ++ [e]).length) ∧ (ek ++ [e]).length ≤ (es ++ [e]).length := by
  have hl := h.l
  refine ⟨fun a b hab hb => ?_, fun a ha => ?_, by simp; omega⟩
  · simp at hb
    rcases Nat.lt_or_ge b ek.length with q | q
    · rw [tau_lt q, tau_lt (by omega)]; exact h.m a b hab q
    · have : b = ek.length := by omega
      subst this
      rw [tau_eq, tau_lt hab]
      exact h.u a hab
  · simp at ha ⊢
    rcases Nat.lt_or_ge a ek.length with q | q
    · rw [tau_lt q]; have := h.u a q; omega
    · have : a = ek.length := by omega
      subst this
      rw [tau_eq]; omega
/-- a call of the key -/
theorem Sub.call {es : List Ev} {cs : List Hc} {k : List UInt8} {ek : List Ev} {ck : List Hc} {τ : Nat → Nat} (h : Sub es cs k ek ck τ) (e : Ev) (ha : e.ans = false) (hn : findC cs e.id = none) (hm : mayAskP e = true) (hk : e.key.data.toList = k) : Sub (es ++ [e]) (cs ++ [newC e es.length]) k (ek ++ [e]) (ck ++ [newC e ek.length]) (tau τ ek.length es.length) := by
  obtain ⟨x1, x2, x3⟩ := h.ext e
  have hn2 : findC ck e.id = none := find_none (fun d hd e2 => by
    obtain ⟨c, hc, he⟩ := h.c.ids d hd
    unfold findC at hn
    rw [List.findIdx?_eq_none_iff] at hn
    have := hn c (List.mem_filter.1 hc).1
    rw [← he, e2] at this
    simp at this)
  refine ⟨?_, h.d.snoc hn2, ?_, x1, x2, x3⟩
  · rw [rd_snoc, h.r]
    show stp ck ek.length e = _
    unfold stp
    rw [ha, hn2]
    simp [hm]
  · rw [grpOf_snoc]
    have : (newC e es.length).e.key.data.toList = k := hk
    rw [if_pos this]
    have hc := h.c.mono (τ' := tau τ ek.length es.length) (m' := (ek ++ [e]).length) (by simp) (fun a ha => tau_lt ha)
    have hcor : Cor (tau τ ek.length es.length) (ek ++ [e]).length (newC e es.length) (newC e ek.length) := ⟨rfl, rfl, rfl, rfl, ⟨ek.length, by simp, rfl, by rw [tau_eq]; rfl⟩, Or.inl ⟨rfl, rfl⟩⟩
    exact Corr.snoc hcor _ _ hc
/-- an answer of the key -/
theorem Sub.tell {es : List Ev} {cs : List Hc} {k : List UInt8} {ek : List Ev} {ck : List Hc} {τ : Nat → Nat} (h : Sub es cs k ek ck τ) (hd : Dst cs) (e : Ev) (ha : e.ans = true) {i : Nat} {c : Hc} (hi : cs[i]? = some c) (hid : c.e.id = e.id) (hm : mayHearP c e = true) (hk : c.e.key.data.toList = k) :
    ∃ ck', Sub (es ++ [e]) (cs.set i (hearP c e es.length)) k (ek ++ [e]) ck' (tau τ ek.length es.length) := by
  obtain ⟨x1, x2, x3⟩ := h.ext e
  have hcm : c ∈ grpOf cs k := by
    unfold grpOf
    exact List.mem_filter.2 ⟨List.mem_of_getElem? hi, by simpa using hk⟩
  obtain ⟨d, hdm, hcd⟩ := h.c.ids2 c hcm
  obtain ⟨j, hj⟩ := List.getElem?_of_mem hdm
  have hjl := (List.getElem?_eq_some_iff.1 hj).1
  have hde : d.e = c.e := hcd.e
  have hf : findC ck e.id = some j := by
    have := h.d.find hj
    rw [hde, hid] at this
    exact this
  have hgd : ck.getD j hc0 = d := by rw [List.getD_eq_getElem?_getD, hj]; rfl
  have hm2 : mayHearP d e = true := by
    unfold mayHearP at hm ⊢
    rw [hde, hcd.t]
    exact hm
  refine ⟨ck.set j (hearP d e ek.length), ?_, h.d.set j hj (hearP_e _ _ _), ?_, x1, x2, x3⟩
  · rw [rd_snoc, h.r]
    show stp ck ek.length e = _
    unfold stp
    rw [ha, hf]
    simp only [hgd, hm2, if_true]
  · have hc := h.c.mono (τ' := tau τ ek.length es.length) (m' := (ek ++ [e]).length) (by simp) (fun a ha => tau_lt ha)
    have h1 := upd_set hd hi (fun c => hearP c e es.length)
    have h2 := upd_set h.d hj (fun c => hearP c e ek.length)
    try dsimp only at h1 h2
    rw [h1, h2, upd_grp (fun c => hearP_e c e _) k cs, hde]
    have := Corr.upd c.e.id e ek.length (by simp) hc
    rw [tau_eq] at this
    exact this
/-- where a time of all lines stands among the key's, and back -/
theorem Sub.right {es : List Ev} {cs : List Hc} {k : List UInt8} {ek : List Ev} {ck : List Hc} {τ : Nat → Nat} (h : Sub es cs k ek ck τ) (hr : rd es = some cs) (hl : es.length ≤ 900) : rightP (grpOf cs k) es.length = true ↔ rightP (grpOf ck k) ek.length = true := by
  have hkl := h.l
  have hI := rd_inv hr hl
  have hI' := rd_inv h.r (by omega)
  have hall : grpOf ck k = ck := by
    unfold grpOf
    rw [List.filter_eq_self]
    intro d hd
    obtain ⟨c, hc, he⟩ := h.c.ids d hd
    rw [he]
    exact (List.mem_filter.1 hc).2
  rw [right_iff (hI.wfg hl k) (by omega), right_iff (hI'.wfg (by omega) k) (by omega), hall]
  obtain ⟨g1, g2⟩ := h.c.get
  have hle : ∀ a b, a ≤ b → b < ek.length → τ a ≤ τ b := fun a b hab hb => by
    rcases Nat.lt_or_eq_of_le hab with q | q
    · exact Nat.le_of_lt (h.m a b q hb)
    · subst q; exact Nat.le_refl _
  constructor
  · rintro ⟨pt, er, W, E, B, f⟩
    -- how many of the key's lines stand ahead of a time
    obtain ⟨cnt, hcnt⟩ : ∃ cnt : Int → Nat, ∀ T, cnt T ≤ ek.length ∧ (∀ a, a < ek.length → (a < cnt T ↔ (τ a : Int) < T)) := by
      have hex : ∀ T : Int, ∃ c : Nat, c ≤ ek.length ∧ (∀ a, a < ek.length → (a < c ↔ (τ a : Int) < T)) := fun T => by
        have hind : ∀ m, m ≤ ek.length → ∃ c : Nat, c ≤ m ∧ (∀ a, a < m → (a < c ↔ (τ a : Int) < T)) := by
          intro m
          induction m with
          | zero => intro _; exact ⟨0, Nat.le_refl _, fun a ha => absurd ha (Nat.not_lt_zero _)⟩
          | succ m ih =>
            intro hm
            obtain ⟨c, c1, c2⟩ := ih (by omega)
            by_cases q : (τ m : Int) < T
            · refine ⟨m + 1, Nat.le_refl _, fun a ha => ⟨fun _ => ?_, fun _ => ha⟩⟩
              have := hle a m (by omega) (by omega)
              omega
            · refine ⟨c, by omega, fun a ha => ?_⟩
              rcases Nat.lt_or_ge a m with r | r
              · exact c2 a r
              · have : a = m := by omega
                subst this
                exact ⟨fun h9 => by omega, fun h9 => absurd h9 q⟩
        exact hind ek.length (Nat.le_refl _)
      exact ⟨fun T => (hex T).choose, fun T => (hex T).choose_spec⟩
    refine ⟨pt, er, _, _, B, f.move (fun T => (cnt T : Int) + (if (es.length : Int) < T then 1 else 0)) g1 (fun i hi => ?_) (fun T hT => ?_) ?_ ?_⟩
    · have hc := g2 i hi
      obtain ⟨a, a1, a2, a3⟩ := hc.f
      refine ⟨hc.e, hc.s, hc.g, fun T => ⟨fun hT => ?_, fun hT => ?_⟩⟩
      · have := ((hcnt T).2 a a1).2 (by omega)
        show _ < (cnt T : Int) + _
        split <;> omega
      · show (cnt T : Int) + _ ≤ _
        rcases hc.o with ⟨q1, q2⟩ | ⟨b, b1, b2, b3⟩
        · rw [q2]
          have := (hcnt T).1
          unfold never
          split <;> omega
        · have hb := (hcnt T).2 b b1
          have hbu := h.u b b1
          have : ¬ (b < cnt T) := fun q => by have := hb.1 q; omega
          rw [if_neg (by omega)]
          omega
    · show (ek.length : Int) < (cnt T : Int) + _
      rw [if_pos hT]
      have h1 : cnt T = ek.length := by
        have := (hcnt T).1
        rcases Nat.lt_or_ge (cnt T) ek.length with q | q
        · have h9 := ((hcnt T).2 (cnt T) q).2 (by have := h.u _ q; omega)
          omega
        · omega
      omega
    · show (cnt W : Int) + _ ≤ (cnt E : Int) + _
      have h1 : cnt W ≤ cnt E := by
        rcases Nat.lt_or_ge (cnt E) (cnt W) with q | q
        · have hc1 := (hcnt W).1
          have h8 := ((hcnt W).2 (cnt E) (by omega)).1 q
          have h9 := ((hcnt E).2 (cnt E) (by omega)).2 (by have := f.le; omega)
          omega
        · exact q
      have := f.le
      split <;> split <;> omega
    · show (cnt E : Int) + _ ≤ never
      have := (hcnt E).1
      unfold never
      split <;> omega
  · rintro ⟨pt, er, W, E, B, f⟩
    have hfle := f.le
    refine ⟨pt, er, _, _, B, f.move (fun T => if (ek.length : Int) < T then (es.length : Int) + 1 else if T < 1 then 0 else (τ (T.toNat - 1) : Int) + 1) g1.symm (fun i hi => ?_) (fun T hT => ?_) ?_ ?_⟩
    · have hi' : i < (grpOf cs k).length := by omega
      have hc := g2 i hi'
      obtain ⟨a, a1, a2, a3⟩ := hc.f
      have hua := h.u a a1
      refine ⟨hc.e.symm, hc.s.symm, hc.g.symm, fun T => ⟨fun hT => ?_, fun hT => ?_⟩⟩
      · rw [a2] at hT
        show _ < ite _ _ _
        rw [a3]
        split
        · omega
        · rw [if_neg (by omega)]
          have := hle a (T.toNat - 1) (by omega) (by omega)
          omega
      · show ite _ _ _ ≤ _
        rcases hc.o with ⟨q1, q2⟩ | ⟨b, b1, b2, b3⟩
        · rw [q1]
          unfold never
          split
          · omega
          · split
            · omega
            · have := h.u (T.toNat - 1) (by omega)
              omega
        · rw [b2] at hT
          rw [b3, if_neg (by omega)]
          split
          · omega
          · have := h.m (T.toNat - 1) b (by omega) b1
            omega
    · show _ < ite _ _ _
      rw [if_pos hT]
      omega
    · show ite _ _ _ ≤ ite _ _ _
      by_cases q1 : (ek.length : Int) < E
      · rw [if_pos q1]
        split
        · omega
        · split
          · omega
          · have := h.u (W.toNat - 1) (by omega)
            omega
      · rw [if_neg q1, if_neg (by omega)]
        by_cases q2 : W < 1
        · rw [if_pos q2]
          split <;> omega
        · rw [if_neg q2, if_neg (by omega)]
          have := hle (W.toNat - 1) (E.toNat - 1) (by omega) (by omega)
          omega
    · show ite _ _ _ ≤ never
      unfold never
      split
      · omega
      · split
        · omega
        · have := h.u (E.toNat - 1) (by omega)
          omega
end Go.Proofs.Ytbbgplnenbkfeaa

/- A journal is right just if each key's lines are, plain. -/
import Derived.Test.YtbbgplnenbkfeaaVr
namespace Go.Proofs.Ytbbgplnenbkfeaa
set_option linter.unusedVariables false
set_option linter.unusedSimpArgs false
open Go.RowKit Go.Deep Go.Maps

/-- a journal, its calls, each key's lines -/
structure Prt (es : List Ev) (cs : List Hc) (ap : List UInt8 → List Ev) : Prop where
  r : rd es = some cs
  d : Dst cs
  s : ∀ k, ∃ ck τ, Sub es cs k (ap k) ck τ
theorem Prt.nil : Prt [] [] (fun _ => []) := ⟨rfl, fun i j a b h => (by simp at h), fun k => ⟨[], _, Sub.nil k⟩⟩
theorem grp_set_other {cs : List Hc} (h : Dst cs) {i : Nat} {c : Hc} (hi : cs[i]? = some c) (f : Hc → Hc) (hf : ∀ c, (f c).e = c.e) {k : List UInt8} (hk : c.e.key.data.toList ≠ k) : grpOf (cs.set i (f c)) k = grpOf cs k := by
  rw [upd_set h hi f, upd_grp hf, upd_none]
  intro d hd e
  unfold grpOf at hd
  obtain ⟨h1, h2⟩ := List.mem_filter.1 hd
  obtain ⟨j, hj⟩ := List.getElem?_of_mem h1
  have := h j i d c hj hi e
  subst this
  rw [hj] at hi
  cases hi
  exact hk (by simpa using h2)
/-- whose key a line is -/
def lineKey (cs : List Hc) (e : Ev) : ByteArray := match findC cs e.id with | some i => (cs.getD i hc0).e.key | none => e.key
theorem Prt.step {es : List Ev} {cs cs' : List Hc} {ap : List UInt8 → List Ev} (h : Prt es cs ap) (e : Ev) (hs : stp cs es.length e = some cs') : Prt (es ++ [e]) cs' (setI ap (lineKey cs e).data.toList (ap (lineKey cs e).data.toList ++ [e])) := by
  have hr : rd (es ++ [e]) = some cs' := by rw [rd_snoc, h.r]; exact hs
  rcases stp_cases hs with ⟨ha, hn, hm, rfl⟩ | ⟨i, ha, hf, hi, hm, rfl⟩
  · have hk : lineKey cs e = e.key := by unfold lineKey; rw [hn]
    rw [hk]
    refine ⟨hr, h.d.snoc hn, fun k => ?_⟩
    obtain ⟨ck, τ, hS⟩ := h.s k
    unfold setI
    by_cases e1 : k = e.key.data.toList
    · rw [if_pos e1, ← e1]
      exact ⟨_, _, hS.call e ha hn hm e1.symm⟩
    · rw [if_neg e1]
      refine ⟨ck, τ, hS.other e ?_⟩
      rw [grpOf_snoc]
      have : ¬ (newC e es.length).e.key.data.toList = k := fun q => e1 q.symm
      rw [if_neg this]
  · have hk : lineKey cs e = (cs.getD i hc0).e.key := by unfold lineKey; rw [hf]
    rw [hk]
    obtain ⟨c, hc⟩ : ∃ c, c = cs.getD i hc0 := ⟨_, rfl⟩
    rw [← hc] at hm hr ⊢
    have hci : cs[i]? = some c := by rw [hc, List.getD_eq_getElem?_getD, List.getElem?_eq_getElem hi]; rfl
    have hid : c.e.id = e.id := by
      unfold findC at hf
      rw [List.findIdx?_eq_some_iff_getElem] at hf
      obtain ⟨h1, h2, _⟩ := hf
      have : cs[i] = c := by rw [List.getElem?_eq_getElem h1] at hci; exact Option.some.inj hci
      rw [this] at h2
      simpa using h2
    refine ⟨hr, h.d.set i hci (hearP_e _ _ _), fun k => ?_⟩
    obtain ⟨ck, τ, hS⟩ := h.s k
    unfold setI
    by_cases e1 : k = c.e.key.data.toList
    · rw [if_pos e1, ← e1]
      obtain ⟨ck', hS'⟩ := hS.tell h.d e ha hci hid hm e1.symm
      exact ⟨ck', _, hS'⟩
    · rw [if_neg e1]
      exact ⟨ck, τ, hS.other e (grp_set_other h.d hci (fun c => hearP c e es.length) (fun c => hearP_e c e _) (fun q => e1 q.symm))⟩
theorem Sub.chk {es : List Ev} {cs : List Hc} {k : List UInt8} {ek : List Ev} {ck : List Hc} {τ : Nat → Nat} (h : Sub es cs k ek ck τ) (hr : rd es = some cs) (hl : es.length ≤ 900) : chk ek = true ↔ rightP (grpOf cs k) es.length = true := by
  have hkl := h.l
  rw [chk_iff h.r (by omega), h.right hr hl]
  refine ⟨fun q => q k, fun q t => ?_⟩
  by_cases e : t = k
  · subst e; exact q
  · have : grpOf ck t = [] := by
      unfold grpOf
      rw [List.filter_eq_nil_iff]
      intro d hd
      obtain ⟨c, hc, he⟩ := h.c.ids d hd
      rw [he]
      have := (List.mem_filter.1 hc).2
      simp at this ⊢
      intro q2
      exact e (by rw [← q2]; exact this)
    rw [this]
    exact right_nil _ (by omega)
theorem Prt.chk {es : List Ev} {cs : List Hc} {ap : List UInt8 → List Ev} (h : Prt es cs ap) (hl : es.length ≤ 900) : Go.Proofs.Ytbbgplnenbkfeaa.chk es = true ↔ ∀ k, Go.Proofs.Ytbbgplnenbkfeaa.chk (ap k) = true := by
  rw [chk_iff h.r hl]
  refine forall_congr' fun k => ?_
  obtain ⟨ck, τ, hS⟩ := h.s k
  exact (hS.chk h.r hl).symm
/-- beginnings may be -/
theorem rd_take : ∀ (m : Nat) (es : List Ev) (n : Nat), es.length ≤ n + m → (∃ cs, rd es = some cs) → ∃ cs, rd (es.take n) = some cs
  | 0, es, n, h, hc => by rw [List.take_of_length_le (by omega)]; exact hc
  | m + 1, es, n, h, ⟨cs, hc⟩ => by
    rcases Nat.lt_or_ge n es.length with q | q
    · have hne : es ≠ [] := fun e => by subst e; simp at q
      have hs := List.dropLast_concat_getLast hne
      obtain ⟨c1, h1, _⟩ := rd_less (es := es.dropLast) (e := es.getLast hne) (cs' := cs) (by rw [hs]; exact hc)
      have h2 := rd_take m es.dropLast n (by rw [List.length_dropLast]; omega) ⟨c1, h1⟩
      have h3 : es.dropLast.take n = es.take n := by rw [List.dropLast_eq_take, List.take_take, Nat.min_eq_left (by omega)]
      rw [h3] at h2
      exact h2
    · rw [List.take_of_length_le q]; exact ⟨cs, hc⟩
theorem take_line {es : List Ev} {k : Nat} {e : Ev} (hk : es[k]? = some e) : es.take (k + 1) = es.take k ++ [e] := by rw [List.take_add_one, hk]; rfl
/-- one line more -/
theorem Prt.line {es : List Ev} {csA : List Hc} (hA : rd es = some csA) {k : Nat} {e : Ev} (hk : es[k]? = some e) {cs : List Hc} {ap : List UInt8 → List Ev} (h : Prt (es.take k) cs ap) : ∃ cs', stp cs k e = some cs' ∧ Prt (es.take (k + 1)) cs' (setI ap (lineKey cs e).data.toList (ap (lineKey cs e).data.toList ++ [e])) := by
  have hkl := (List.getElem?_eq_some_iff.1 hk).1
  have hlen : (es.take k).length = k := by rw [List.length_take]; omega
  obtain ⟨c1, h1⟩ := rd_take es.length es (k + 1) (by omega) ⟨csA, hA⟩
  rw [take_line hk] at h1
  obtain ⟨c0, h2, h3⟩ := rd_less h1
  rw [h.r] at h2
  cases h2
  have := h.step e h3
  rw [hlen] at h3
  rw [take_line hk]
  exact ⟨c1, h3, this⟩
/-- the map of keys -/
def keysT (cs : List Hc) : Int → Option Value := fun z => (findC cs z).map (fun i => .string (cs.getD i hc0).e.key)
theorem keysT_new (cs : List Hc) (c : Hc) (h : findC cs c.e.id = none) : upd (keysT cs) c.e.id (.string c.e.key) = keysT (cs ++ [c]) := by
  funext z
  unfold upd keysT findC
  rw [List.findIdx?_append]
  by_cases hz : z = c.e.id
  · subst hz
    unfold findC at h
    rw [if_pos rfl, h]
    simp [List.getD_eq_getElem?_getD]
  · rw [if_neg hz]
    cases hf : cs.findIdx? (fun c => c.e.id == z) with
    | some i =>
      have hi := (List.findIdx?_eq_some_iff_getElem.1 hf).1
      simp [List.getD_eq_getElem?_getD, List.getElem?_append_left hi]
    | none =>
      have : (c.e.id == z) = false := by simpa using fun e => hz e.symm
      simp [this]
theorem keysT_set (cs : List Hc) (i : Nat) (c d : Hc) (hi : cs[i]? = some c) (hd : d.e = c.e) : keysT (cs.set i d) = keysT cs := by
  have hil := (List.getElem?_eq_some_iff.1 hi).1
  have hg : ∀ j, ((cs.set i d).getD j hc0).e = (cs.getD j hc0).e := fun j => by
    rw [List.getD_eq_getElem?_getD, List.getD_eq_getElem?_getD]
    by_cases e : i = j
    · subst e
      rw [List.getElem?_set_self hil, hi]
      exact hd
    · rw [List.getElem?_set_ne e]
  have hf : ∀ z, findC (cs.set i d) z = findC cs z := fun z => by
    have e : ∀ (l : List Hc), findC l z = (l.map (fun c => c.e.id)).findIdx? (fun x => x == z) := fun l => by unfold findC; rw [List.findIdx?_map]; rfl
    rw [e, e]
    congr 1
    rw [List.map_set]
    have h2 : d.e.id = (cs.map (fun c => c.e.id))[i]'(by simpa using hil) := by
      rw [List.getElem_map, hd]
      have : cs[i] = c := by rw [List.getElem?_eq_getElem hil] at hi; exact Option.some.inj hi
      rw [this]
    rw [h2, List.set_getElem_self]
  funext z
  unfold keysT
  rw [hf]
  cases findC cs z with
  | none => rfl
  | some j => simp only [Option.map_some]; rw [hg]
end Go.Proofs.Ytbbgplnenbkfeaa

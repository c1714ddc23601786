/- Both lists of shards that wait, beside each other. -/
import Derived.Test.YtnpaoppfhffoiaaKh
import Derived.Test.YtnpaoppfhffoiaaJv
namespace Go.Proofs.Ytnpaoppfhffoiaa
set_option linter.unusedVariables false
set_option linter.unusedSimpArgs false
open Go.RowKit Go.Deep Go.Maps Go.Shelf Go.Lib Go.Sort

theorem wtNe : 65 ≠ 67 := by decide
theorem tyB_one {w : World} {b : Nat} {e e' : TypeId} (h : tyB w b e) (h' : tyB w b e') : e = e' := by
  obtain ⟨c, hc⟩ := h
  obtain ⟨c', hc'⟩ := h'
  rw [hc] at hc'
  injection hc' with h1
  injection h1

/-- the program's list at L, h, m, and the document's at t, with the same shards -/
structure Pw (w : World) (base L h m t : Nat) (v : Value) (l lx : List Wt) : Prop where
  z : Lz w L h m v l
  x : Xl w base t lx
  p : l.Perm lx
  d : (lx.map key).Nodup
  b : L < base ∧ h < base ∧ m < base ∧ base ≤ t
  ne : v.ownBlock ≠ some t

section
variable {w w' : World} {base L h m t : Nat} {v v' : Value} {l l' lx lx' : List Wt}
theorem Pw.len (P : Pw w base L h m t v l lx) : l.length = lx.length := P.p.length_eq
theorem Pw.keep0 (P : Pw w base L h m t v l lx) (k : Kp (fun _ => False) w w') : Pw w' base L h m t v l lx :=
  ⟨P.z.keep0 k, P.x.keep k (fun _ _ _ e => e), P.p, P.d, P.b, P.ne⟩
/-- behind a call of the program's list the document's is as it was -/
theorem Pw.xkeep (P : Pw w base L h m t v l lx) (k : Kp (Hs h m v) w w') : Xl w' base t lx := by
  obtain ⟨vx, lv, own, ne, bt⟩ := P.x
  have hb := P.b
  refine ⟨vx, lv.keep k (fun e => ?_), ownsRow_keep own k (fun g hg e => ?_), ne, bt⟩
  · rcases e with e | e | e
    · omega
    · omega
    · exact P.ne e
  · have h1 := (ownBlock_lt own hg).1
    rcases e with e | e | e
    · omega
    · omega
    · exact wtNe (tyB_one (tyB_own P.z.x.o e) (tyB_own own hg))
theorem Pw.zkeep (P : Pw w base L h m t v l lx) (k : Kp (fun b => b = t ∨ (base ≤ b ∧ tyB w b 67)) w w') : Lz w' L h m v l := by
  have hb := P.b
  refine P.z.keep k (fun b hb2 e => ?_)
  rcases hb2 with e2 | e2 | e2 | e2
  · rcases e with e | e <;> omega
  · rcases e with e | e <;> omega
  · rcases e with e | e <;> omega
  · rcases e with e | e
    · exact P.ne (by rw [e2, e])
    · exact wtNe (tyB_one (tyB_own P.z.x.o e2) e.2)
theorem Pw.ne' (P : Pw w base L h m t v l lx) (hb : v'.ownBlock = v.ownBlock ∨ ∃ g, v'.ownBlock = some g ∧ w.heap.size ≤ g) : v'.ownBlock ≠ some t := by
  rcases hb with hb | ⟨g, hg, hl⟩
  · rw [hb]; exact P.ne
  · intro e
    rw [hg] at e
    have : g = t := Option.some.inj e
    have := P.x.lt
    omega
end

theorem keepX_dropW (l : List Wt) (a b : Int) : keepX l a b = dropW l a b := by
  unfold keepX dropW
  congr 1
  funext x
  by_cases h : key x = (a, b)
  · have h1 : x.b = a ∧ x.i = b := by unfold key at h; injection h with h1 h2; exact ⟨h1, h2⟩
    simp [h, h1.1, h1.2]
  · have h1 : ¬ (x.b = a ∧ x.i = b) := fun e => h (by unfold key; rw [e.1, e.2])
    rw [decide_eq_false h]
    by_cases h2 : x.b = a
    · have : ¬ x.i = b := fun e => h1 ⟨h2, e⟩
      simp [h2, this]
    · simp [h2]
theorem dropW_p {l lx : List Wt} (h : l.Perm lx) (a b : Int) : (dropW l a b).Perm (keepX lx a b) := by
  rw [keepX_dropW]
  exact h.filter _
theorem nodup_filter {l : List Wt} (f : Wt → Bool) (h : (l.map key).Nodup) : ((l.filter f).map key).Nodup :=
  h.sublist ((List.filter_sublist).map key)
theorem addW_old {l lx : List Wt} (h : l.Perm lx) {e : Wt} (hk : key e ∈ lx.map key) : (addW l e).Perm lx := by
  unfold addW
  rw [if_pos ((h.map key).mem_iff.2 hk)]
  exact h
theorem addW_new {l lx : List Wt} (h : l.Perm lx) {e : Wt} (hk : key e ∉ lx.map key) : (addW l e).Perm (lx ++ [e]) := by
  unfold addW
  rw [if_neg (fun hm => hk ((h.map key).mem_iff.1 hm))]
  exact h.append_right _
theorem nodup_add {lx : List Wt} {e : Wt} (hd : (lx.map key).Nodup) (hk : key e ∉ lx.map key) : ((lx ++ [e]).map key).Nodup := by
  rw [List.map_append, List.nodup_append]
  refine ⟨hd, by simp, fun a ha b hb => ?_⟩
  have : b = key e := by simpa using hb
  intro e2
  subst e2
  rw [this] at ha
  exact hk ha
theorem due_p {l lx ds l' : List Wt} {T : Int} (h : l.Perm lx) (hp : (ds ++ l').Perm l) (h1 : ∀ e ∈ ds, e.t ≤ T) (h2 : ∀ e ∈ l', T < e.t) : ds.Perm (dueX lx T) ∧ l'.Perm (leftX lx T) := by
  have hq := hp.trans h
  have f1 : ds.filter (fun x => decide (x.t ≤ T)) = ds := List.filter_eq_self.2 (fun a ha => decide_eq_true (h1 a ha))
  have f2 : l'.filter (fun x => decide (x.t ≤ T)) = [] := List.filter_eq_nil_iff.2 (fun a ha => by have := h2 a ha; simp; omega)
  have f3 : ds.filter (fun x => !decide (x.t ≤ T)) = [] := List.filter_eq_nil_iff.2 (fun a ha => by have := h1 a ha; simp; omega)
  have f4 : l'.filter (fun x => !decide (x.t ≤ T)) = l' := List.filter_eq_self.2 (fun a ha => by have := h2 a ha; simp; omega)
  constructor
  · have := hq.filter (fun x => decide (x.t ≤ T))
    rw [List.filter_append, f1, f2, List.append_nil] at this
    exact this
  · have := hq.filter (fun x => !decide (x.t ≤ T))
    rw [List.filter_append, f3, f4, List.nil_append] at this
    exact this
end Go.Proofs.Ytnpaoppfhffoiaa

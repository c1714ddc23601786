/- Shards that wait, on a heap, in memory. -/
import Derived.Test.YtnpaoppfhffoiaaJb
import Derived.BigRegion
namespace Go.Proofs.Ytnpaoppfhffoiaa
set_option linter.unusedVariables false
open Go.RowKit Go.Deep Go.Maps

/-- a shard that waits until t -/
structure Wt where
  b : Int
  i : Int
  t : Int
def wt0 : Wt := ⟨0, 0, 0⟩
def wflat : List Wt → List Value
  | [] => []
  | e :: l => .int .i64 e.b :: .int .i64 e.i :: .int .i64 e.t :: wflat l
theorem wflat_len : ∀ l, (wflat l).length = l.length * 3
  | [] => rfl
  | e :: l => by show (wflat l).length + 1 + 1 + 1 = (l.length + 1) * 3; rw [wflat_len l]; omega
theorem wflat_append : ∀ l m, wflat (l ++ m) = wflat l ++ wflat m
  | [], _ => rfl
  | e :: l, m => by show _ :: _ :: _ :: wflat (l ++ m) = _; rw [wflat_append l m]; rfl
theorem wflat_take : ∀ l n, (wflat l).take (n * 3) = wflat (l.take n)
  | [], n => by simp [wflat]
  | e :: l, 0 => rfl
  | e :: l, n + 1 => by
    show (_ :: _ :: _ :: wflat l).take ((n + 1) * 3) = _
    rw [show (n + 1) * 3 = (n * 3) + 1 + 1 + 1 by omega, List.take_succ_cons, List.take_succ_cons, List.take_succ_cons, wflat_take l n]; rfl
theorem wflat_get : ∀ l j, j < l.length → (wflat l)[j * 3]? = some (.int .i64 (l.getD j wt0).b) ∧ (wflat l)[j * 3 + 1]? = some (.int .i64 (l.getD j wt0).i) ∧ (wflat l)[j * 3 + 2]? = some (.int .i64 (l.getD j wt0).t)
  | [], j, h => absurd h (Nat.not_lt_zero _)
  | e :: l, 0, _ => ⟨rfl, rfl, rfl⟩
  | e :: l, j + 1, h => by
    have := wflat_get l j (by simpa using h)
    refine ⟨?_, ?_, ?_⟩
    · show (_ :: _ :: _ :: wflat l)[(j + 1) * 3]? = _
      rw [show (j + 1) * 3 = j * 3 + 1 + 1 + 1 by omega, List.getElem?_cons_succ, List.getElem?_cons_succ, List.getElem?_cons_succ, this.1]; rfl
    · show (_ :: _ :: _ :: wflat l)[(j + 1) * 3 + 1]? = _
      rw [show (j + 1) * 3 + 1 = (j * 3 + 1) + 1 + 1 + 1 by omega, List.getElem?_cons_succ, List.getElem?_cons_succ, List.getElem?_cons_succ, this.2.1]; rfl
    · show (_ :: _ :: _ :: wflat l)[(j + 1) * 3 + 2]? = _
      rw [show (j + 1) * 3 + 2 = (j * 3 + 2) + 1 + 1 + 1 by omega, List.getElem?_cons_succ, List.getElem?_cons_succ, List.getElem?_cons_succ, this.2.2]; rfl
theorem wflat_set : ∀ l j x, j < l.length → wflat (l.set j x) = (((wflat l).set (j * 3) (.int .i64 x.b)).set (j * 3 + 1) (.int .i64 x.i)).set (j * 3 + 2) (.int .i64 x.t)
  | [], j, x, h => absurd h (Nat.not_lt_zero _)
  | e :: l, 0, x, _ => rfl
  | e :: l, j + 1, x, h => by
    have := wflat_set l j x (by simpa using h)
    show _ :: _ :: _ :: wflat (l.set j x) = (((_ :: _ :: _ :: wflat l).set ((j + 1) * 3) _).set ((j + 1) * 3 + 1) _).set ((j + 1) * 3 + 2) _
    rw [this, show (j + 1) * 3 = j * 3 + 1 + 1 + 1 by omega]; rfl
theorem own_set0 {w : World} {base g n cap sz : Nat} {e : TypeId} {xs : List Value} (h : w.ownsRow base e sz (.slice (some ⟨g, 0, none⟩) n cap) n xs) (j : Nat) (u : Value) (hj : j < xs.length) : (w.setCell ⟨g, j, none⟩ u).ownsRow base e sz (.slice (some ⟨g, 0, none⟩) n cap) n (xs.set j u) := by
  obtain ⟨h1, h2⟩ := h
  rcases h2 with ⟨h0, _⟩ | ⟨g', cap', cur, hv, hg, hh, hn, hcap, hsz, htake⟩
  · cases h0
  · cases hv
    refine ⟨by rw [List.length_set]; exact h1, .inr ⟨g, cap, cur.setIfInBounds j u, rfl, hg, ?_, hn, hcap, by simpa using hsz, ?_⟩⟩
    · exact heap_setCell_same w g j cur e u hh
    · rw [Array.toList_setIfInBounds, List.take_set, htake]
theorem own_sub0 {w : World} {base g n cap sz k : Nat} {e : TypeId} {xs : List Value} (h : w.ownsRow base e sz (.slice (some ⟨g, 0, none⟩) n cap) n xs) (hk : k ≤ n) : w.ownsRow base e sz (.slice (some ⟨g, 0, none⟩) k cap) k (xs.take (k * sz)) := by
  obtain ⟨h1, h2⟩ := h
  rcases h2 with ⟨h0, _⟩ | ⟨g', cap', cur, hv, hg, hh, hn, hcap, hsz, htake⟩
  · cases h0
  · cases hv
    have hm := Nat.mul_le_mul_right sz hk
    refine ⟨by rw [List.length_take, h1]; omega, .inr ⟨g, cap, cur, rfl, hg, hh, by omega, hcap, hsz, ?_⟩⟩
    rw [← htake, List.take_take, Nat.min_eq_left hm]
theorem own_frz0 {w : World} {base g n cap sz : Nat} {e : TypeId} {xs : List Value} (h : w.ownsRow base e sz (.slice (some ⟨g, 0, none⟩) n cap) n xs) (j : Nat) : w.frozen? ⟨g, j, none⟩ = false := by
  obtain ⟨h1, h2⟩ := h
  rcases h2 with ⟨h0, _⟩ | ⟨g', cap', cur, hv, hg, hh, hn, hcap, hsz, htake⟩
  · cases h0
  · cases hv
    exact frozen_of_row _ _ _ cur _ hh
def swW (l : List Wt) (i j : Nat) : List Wt := (l.set i (l.getD j wt0)).set j (l.getD i wt0)
theorem swW_len (l : List Wt) (i j : Nat) : (swW l i j).length = l.length := by unfold swW; simp
theorem getD_set_self (l : List Wt) (i : Nat) (x : Wt) (h : i < l.length) : (l.set i x).getD i wt0 = x := by
  rw [List.getD_eq_getElem?_getD, List.getElem?_set_self h]; rfl
theorem getD_set_ne (l : List Wt) {i k : Nat} (x : Wt) (h : i ≠ k) : (l.set i x).getD k wt0 = l.getD k wt0 := by
  rw [List.getD_eq_getElem?_getD, List.getElem?_set_ne h, ← List.getD_eq_getElem?_getD]
theorem swW_getD (l : List Wt) (i j k : Nat) (hi : i < l.length) (hj : j < l.length) : (swW l i j).getD k wt0 = if k = j then l.getD i wt0 else if k = i then l.getD j wt0 else l.getD k wt0 := by
  unfold swW
  by_cases h1 : k = j
  · subst h1; rw [if_pos rfl, getD_set_self _ _ _ (by rw [List.length_set]; exact hj)]
  · rw [if_neg h1, getD_set_ne _ _ (fun e => h1 e.symm)]
    by_cases h2 : k = i
    · subst h2; rw [if_pos rfl, getD_set_self _ _ _ hi]
    · rw [if_neg h2, getD_set_ne _ _ (fun e => h2 e.symm)]
/-- T tells where each of l stands -/
def Pos (l : List Wt) (T : Int → Int → Option Value) : Prop := (∀ k, k < l.length → T (l.getD k wt0).b (l.getD k wt0).i = some (.int .i64 (k : Int))) ∧ ∀ a b, (∀ k, k < l.length → ¬ ((l.getD k wt0).b = a ∧ (l.getD k wt0).i = b)) → T a b = none
/-- no shard twice -/
def Onc (l : List Wt) : Prop := ∀ j k, j < l.length → k < l.length → (l.getD j wt0).b = (l.getD k wt0).b → (l.getD j wt0).i = (l.getD k wt0).i → j = k
/-- the heap at block h, its map at m, its row v -/
structure Hw (w : World) (h m : Nat) (v : Value) (l : List Wt) : Prop where
  lv : Lv w h [v, .map (some m)]
  o : w.ownsRow 0 65 3 v l.length (wflat l)
  mp : ∃ T, Px w m l.length T ∧ Pos l T
  nd : Onc l
  wf : ∀ k, k < l.length → wf2 (l.getD k wt0).b (l.getD k wt0).i
  hm : h ≠ m
  ne : ∀ g, v.ownBlock = some g → g ≠ h ∧ g ≠ m
/-- the blocks that are a heap's -/
def Hs (h m : Nat) (v : Value) : Nat → Prop := fun b => b = h ∨ b = m ∨ v.ownBlock = some b
section
variable {w : World} {h m : Nat} {v : Value} {l : List Wt}
theorem Hw.keep {S : Nat → Prop} {w' : World} (x : Hw w h m v l) (k : Kp S w w') (hS : ∀ b, Hs h m v b → ¬ S b) : Hw w' h m v l := by
  obtain ⟨T, h1, h2⟩ := x.mp
  exact ⟨x.lv.keep k (hS h (Or.inl rfl)), ownsRow_keep x.o k (fun g e => hS g (Or.inr (Or.inr e))), ⟨T, h1.keep k (hS m (Or.inr (Or.inl rfl))), h2⟩, x.nd, x.wf, x.hm, x.ne⟩
theorem Hw.keep0 {w' : World} (x : Hw w h m v l) (k : Kp (fun _ => False) w w') : Hw w' h m v l := x.keep k (fun _ _ => id)
theorem Hw.c0 (x : Hw w h m v l) : w.cell? ⟨h, 0, none⟩ = some v := x.lv.cell (j := 0) rfl
theorem Hw.c1 (x : Hw w h m v l) : w.cell? ⟨h, 1, none⟩ = some (.map (some m)) := x.lv.cell (j := 1) rfl
theorem Hw.form (x : Hw w h m v l) : (v = .slice none 0 0 ∧ l.length = 0) ∨ ∃ g cap, v = .slice (some ⟨g, 0, none⟩) l.length cap := by
  rcases Joins.ownsRow_forms x.o with ⟨e1, e2⟩ | ⟨g', cap', e⟩
  · exact Or.inl ⟨e1, e2⟩
  · exact Or.inr ⟨g', cap', e⟩
theorem Hw.form1 (x : Hw w h m v l) (hl : 0 < l.length) : ∃ g cap, v = .slice (some ⟨g, 0, none⟩) l.length cap := by
  rcases x.form with ⟨_, e⟩ | e
  · omega
  · exact e
theorem Hw.hlt (x : Hw w h m v l) : h < w.heap.size := x.lv.lt (by simp)
theorem Hw.mlt (x : Hw w h m v l) : m < w.heap.size := by obtain ⟨T, h1, _⟩ := x.mp; exact h1.lt
end
theorem Hw.cn {w : World} {h m g cap n : Nat} {l : List Wt} (x : Hw w h m (.slice (some ⟨g, 0, none⟩) n cap) l) {j : Nat} (hj : j < l.length) : w.cell? ⟨g, j * 3, none⟩ = some (.int .i64 (l.getD j wt0).b) ∧ w.cell? ⟨g, j * 3 + 1, none⟩ = some (.int .i64 (l.getD j wt0).i) ∧ w.cell? ⟨g, j * 3 + 2, none⟩ = some (.int .i64 (l.getD j wt0).t) := by
  obtain ⟨e1, e2, e3⟩ := wflat_get l j hj
  have h1 := x.o.cells (g := g) rfl (j * 3) _ e1
  have h2 := x.o.cells (g := g) rfl (j * 3 + 1) _ e2
  have h3 := x.o.cells (g := g) rfl (j * 3 + 2) _ e3
  rw [Addr.add_mid, Nat.zero_add] at h1 h2 h3
  exact ⟨h1, h2, h3⟩

set_option maxRecDepth 100000 in
theorem wlen_ok {w : World} {h m : Nat} {v : Value} {l : List Wt} (x : Hw w h m v l) : Calls Try.prog 44 #[.pointer (some ⟨h, 0, none⟩)] w fun e w' => e = .returned (.int .i64 l.length) ∧ w' = w := by
  have c0 := x.c0
  have hf := x.form
  obtain ⟨n, hn⟩ : ∃ n, n = l.length := ⟨_, rfl⟩
  rw [← hn] at hf ⊢
  clear x hn
  rcases hf with ⟨rfl, rfl⟩ | ⟨g, cap, rfl⟩
  · go_enter Try.func44, Try.ntmps44
    go_wp2
    go_ret
    exact ⟨rfl, rfl⟩
  · go_enter Try.func44, Try.ntmps44
    go_wp2
    go_ret
    exact ⟨rfl, rfl⟩

set_option maxRecDepth 100000 in
set_option maxHeartbeats 1600000 in
theorem wless_ok {w : World} {h m : Nat} {v : Value} {l : List Wt} (x : Hw w h m v l) (i j : Nat) (hi : i < l.length) (hj : j < l.length) :
    Calls Try.prog 90 #[.pointer (some ⟨h, 0, none⟩), .int .i64 i, .int .i64 j] w fun e w' => e = .returned (.bool (decide ((l.getD i wt0).t < (l.getD j wt0).t))) ∧ Kp (fun _ => False) w w' := by
  obtain ⟨g, cap, rfl⟩ := x.form1 (by omega)
  have ci := (x.cn hi).2.2
  have cj := (x.cn hj).2.2
  have c0 := x.c0
  obtain ⟨a, ha⟩ : ∃ a, a = (l.getD i wt0).t := ⟨_, rfl⟩
  obtain ⟨b, hb⟩ : ∃ b, b = (l.getD j wt0).t := ⟨_, rfl⟩
  rw [← ha] at ci ⊢
  rw [← hb] at cj ⊢
  obtain ⟨n, hn⟩ : ∃ n, n = l.length := ⟨_, rfl⟩
  rw [← hn] at hi hj c0
  have hi2 : (i : Int) < (n : Int) := by omega
  have hj2 : (j : Int) < (n : Int) := by omega
  clear x ha hb hn
  go_enter Try.func90, Try.ntmps90
  go_wp2
  go_quiet (fail)
  go_wp2
  go_ret
  exact ⟨rfl, (Kp.refl _ _).drewN _⟩

end Go.Proofs.Ytnpaoppfhffoiaa

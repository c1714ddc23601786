/- Two matrices that are eliminated side by side, their rows' blocks with spare room: what the reference's Invert works on. -/
import Derived.Test.YtmncocmeafcpfaaDoorMfM14
import Derived.Test.YtmncocmeafcpfaaDoorMfM13
import Derived.Test.YtmncocmeafcpfaaDoorMfTx
namespace Go.Proofs.YtmncocmeafcpfaaDoor.Mf
open Go.RowKit Go.Deep

/-- headers in a block that may be longer -/
def TopB (w : World) (t n : Nat) (h : Nat → Value) : Prop := ∃ nt g, w.rowIs t 22 nt g ∧ n ≤ nt ∧ ∀ j, j < n → g j = h j
namespace TopB
variable {w w' : World} {t n : Nat} {h h' : Nat → Value}
theorem cell (H : TopB w t n h) {i : Nat} (hi : i < n) : w.cell? ⟨t, i, none⟩ = some (h i) := by
  obtain ⟨nt, g, h1, h2, h3⟩ := H
  rw [h1.cell (by omega), h3 i hi]
theorem frozen (H : TopB w t n h) (i : Nat) : w.frozen? ⟨t, i, none⟩ = false := by
  obtain ⟨nt, g, h1, _, _⟩ := H
  exact h1.frozen i
theorem lt (H : TopB w t n h) : t < w.heap.size := by
  obtain ⟨nt, g, h1, _, _⟩ := H
  exact h1.lt
theorem keep {S : Nat → Prop} (H : TopB w t n h) (k : Kp S w w') (hS : ¬ S t) : TopB w' t n h := by
  obtain ⟨nt, g, h1, h2, h3⟩ := H
  exact ⟨nt, g, k.row h1 hS, h2, h3⟩
theorem set (H : TopB w t n h) (i : Nat) (v : Value) : TopB (w.setCell ⟨t, i, none⟩ v) t n (fun j => if j = i then v else h j) := by
  obtain ⟨nt, g, h1, h2, h3⟩ := H
  exact ⟨nt, _, h1.set i v, h2, fun j hj => by dsimp only; rw [h3 j hj]⟩
theorem congr (H : TopB w t n h) (e : ∀ j, j < n → h j = h' j) : TopB w t n h' := by
  obtain ⟨nt, g, h1, h2, h3⟩ := H
  exact ⟨nt, g, h1, h2, fun j hj => (h3 j hj).trans (e j hj)⟩
theorem drew (H : TopB w t n h) : TopB w.drew t n h := H
theorem of_own {base : Nat} {v : Value} {xs : List Value} (ho : w.ownsRow base 22 1 v n xs) (hn : 0 < n) (hx : ∀ j, j < n → xs[j]? = some (h j)) : ∃ g cap, v = .slice (some ⟨g, 0, none⟩) n cap ∧ base ≤ g ∧ TopB w g n h := by
  rcases ho.2 with ⟨_, h0⟩ | ⟨g, cap, cur, rfl, hb, hh, hc, _, hcs, htk⟩
  · omega
  · refine ⟨g, cap, rfl, hb, cap, fun j => cur.getD j (.slice none 0 0), ⟨cur, hh, by omega, fun i hi => ?_⟩, hc, fun j hj => ?_⟩
    · show cur[i]? = some (cur.getD i (.slice none 0 0))
      rw [Array.getD_eq_getD_getElem?, Array.getElem?_eq_getElem (by omega)]; rfl
    · have h1 : (cur.toList.take (n * 1))[j]? = some (h j) := by rw [htk]; exact hx j hj
      rw [List.getElem?_take_of_lt (by omega), Array.getElem?_toList] at h1
      show cur.getD j (.slice none 0 0) = _
      rw [Array.getD_eq_getD_getElem?, h1]; rfl
end TopB

/-- two exchanged -/
def swp {α : Type} (f : Nat → α) (i j : Nat) : Nat → α := fun r => if r = i then f j else if r = j then f i else f r

/-- a matrix whose blocks may be longer -/
structure Mo (w : World) (t : Nat) (B C : Nat → Nat) (n : Nat) (M : Nat → Nat → Nat) : Prop where
  top : TopB w t n (fun i => .slice (some ⟨B i, 0, none⟩) n (C i))
  row : ∀ i, i < n → RowB w (B i) (C i) n (M i)
  inj : ∀ i j, i < n → j < n → B i = B j → i = j
  ne : ∀ i, i < n → B i ≠ t
theorem Mo.keep {S : Nat → Prop} {w w' : World} {t n : Nat} {B C : Nat → Nat} {M : Nat → Nat → Nat} (h : Mo w t B C n M) (k : Kp S w w') (ht : ¬ S t) (hB : ∀ i, i < n → ¬ S (B i)) : Mo w' t B C n M :=
  ⟨h.top.keep k ht, fun i hi => (h.row i hi).keep k (hB i hi), h.inj, h.ne⟩
theorem Mo.congr {w : World} {t n : Nat} {B C : Nat → Nat} {M M' : Nat → Nat → Nat} (h : Mo w t B C n M) (e : ∀ i, i < n → ∀ c, c < n → M i c = M' i c) : Mo w t B C n M' :=
  ⟨h.top, fun i hi => (h.row i hi).congr (e i hi), h.inj, h.ne⟩
theorem Mo.upd {w w' : World} {t n i : Nat} {B C : Nat → Nat} {M : Nat → Nat → Nat} {f : Nat → Nat} (h : Mo w t B C n M) (hi : i < n) (k : Kp (fun b => b = B i) w w') (hr : RowB w' (B i) (C i) n f) : Mo w' t B C n (fun r => if r = i then f else M r) := by
  refine ⟨h.top.keep k (fun e => h.ne i hi e.symm), fun r hr' => ?_, h.inj, h.ne⟩
  by_cases e : r = i
  · subst e; simp only [if_true]; exact hr
  · simp only [if_neg e]; exact (h.row r hr').keep k (fun e' => e (h.inj r i hr' hi e'))
theorem swp_mem {α : Type} (f : Nat → α) {i j n r : Nat} (hi : i < n) (hj : j < n) (hr : r < n) : ∃ q, q < n ∧ swp f i j r = f q ∧ (∀ (g : Nat → Nat), swp g i j r = g q) := by
  unfold swp
  by_cases e1 : r = i
  · exact ⟨j, hj, by simp [e1], fun g => by simp [e1]⟩
  · by_cases e2 : r = j
    · exact ⟨i, hi, by simp only [if_neg e1, if_pos e2], fun g => by simp only [if_neg e1, if_pos e2]⟩
    · exact ⟨r, hr, by simp [e1, e2], fun g => by simp [e1, e2]⟩
theorem Mo.exch {w : World} {t n i j : Nat} {B C : Nat → Nat} {M : Nat → Nat → Nat} (h : Mo w t B C n M) (hi : i < n) (hj : j < n) :
    Mo ((w.setCell ⟨t, i, none⟩ (.slice (some ⟨B j, 0, none⟩) n (C j))).setCell ⟨t, j, none⟩ (.slice (some ⟨B i, 0, none⟩) n (C i))) t (swp B i j) (swp C i j) n (swp M i j) := by
  have k : Kp (fun b => b = t) w ((w.setCell ⟨t, i, none⟩ (.slice (some ⟨B j, 0, none⟩) n (C j))).setCell ⟨t, j, none⟩ (.slice (some ⟨B i, 0, none⟩) n (C i))) := ((Kp.refl (fun b => b = t) w).setCell (a := ⟨t, i, none⟩) (fun _ => rfl) _).setCell (a := ⟨t, j, none⟩) (fun _ => rfl) _
  refine ⟨((h.top.set i _).set j _).congr (fun r _ => ?_), fun r hr => ?_, fun a b ha hb e => ?_, fun r hr => ?_⟩
  · unfold swp
    by_cases e1 : r = j
    · by_cases e2 : r = i
      · subst e1; subst e2; simp
      · simp only [if_pos e1, if_neg e2]
    · by_cases e2 : r = i
      · simp only [if_neg e1, if_pos e2]
      · simp only [if_neg e1, if_neg e2]
  · have hq : ∃ q, q < n ∧ swp B i j r = B q ∧ swp C i j r = C q ∧ swp M i j r = M q := by
      unfold swp
      by_cases e1 : r = i
      · exact ⟨j, hj, by simp [e1], by simp [e1], by simp [e1]⟩
      · by_cases e2 : r = j
        · exact ⟨i, hi, by simp only [if_neg e1, if_pos e2], by simp only [if_neg e1, if_pos e2], by simp only [if_neg e1, if_pos e2]⟩
        · exact ⟨r, hr, by simp only [if_neg e1, if_neg e2], by simp only [if_neg e1, if_neg e2], by simp only [if_neg e1, if_neg e2]⟩
    obtain ⟨q, hqn, e1, e2, e3⟩ := hq
    rw [e1, e2, e3]
    exact (h.row q hqn).keep k (h.ne q hqn)
  · unfold swp at e
    by_cases a1 : a = i <;> by_cases b1 : b = i
    · omega
    · simp only [if_pos a1, if_neg b1] at e
      by_cases b2 : b = j
      · simp only [if_pos b2] at e
        have := h.inj j i hj hi e
        omega
      · simp only [if_neg b2] at e
        have := h.inj j b hj hb e
        omega
    · simp only [if_neg a1, if_pos b1] at e
      by_cases a2 : a = j
      · simp only [if_pos a2] at e
        have := h.inj i j hi hj e
        omega
      · simp only [if_neg a2] at e
        have := h.inj a j ha hj e
        omega
    · simp only [if_neg a1, if_neg b1] at e
      by_cases a2 : a = j <;> by_cases b2 : b = j
      · omega
      · simp only [if_pos a2, if_neg b2] at e
        have := h.inj i b hi hb e
        omega
      · simp only [if_neg a2, if_pos b2] at e
        have := h.inj a i ha hi e
        omega
      · simp only [if_neg a2, if_neg b2] at e
        exact h.inj a b ha hb e
  · obtain ⟨q, hqn, e1, _⟩ := swp_mem B hi hj hr
    rw [e1]; exact h.ne q hqn
theorem Mo.drew {w : World} {t n : Nat} {B C : Nat → Nat} {M : Nat → Nat → Nat} (h : Mo w t B C n M) : Mo w.drew t B C n M := ⟨h.top, h.row, h.inj, h.ne⟩

/-- both halves of the wide matrix W, in memory of their own -/
structure Two (w wr : World) (tl to : Nat) (Bl Cl Bo Co : Nat → Nat) (n : Nat) (W : Nat → Nat → Nat) : Prop where
  kept : Kp (fun _ => False) w wr
  left : Mo wr tl Bl Cl n (fun r c => W r c)
  out : Mo wr to Bo Co n (fun r c => W r (n + c))
  ll : w.heap.size ≤ tl ∧ ∀ i, i < n → w.heap.size ≤ Bl i
  lo : w.heap.size ≤ to ∧ ∀ i, i < n → w.heap.size ≤ Bo i
  ap : tl ≠ to ∧ (∀ i, i < n → Bl i ≠ to ∧ Bo i ≠ tl) ∧ ∀ i j, i < n → j < n → Bl i ≠ Bo j
theorem Two.congr {w wr : World} {tl to n : Nat} {Bl Cl Bo Co : Nat → Nat} {W W' : Nat → Nat → Nat} (h : Two w wr tl to Bl Cl Bo Co n W) (e : ∀ r, r < n → ∀ c, c < 2 * n → W r c = W' r c) : Two w wr tl to Bl Cl Bo Co n W' :=
  ⟨h.kept, h.left.congr (fun i hi c hc => e i hi c (by omega)), h.out.congr (fun i hi c hc => e i hi (n + c) (by omega)), h.ll, h.lo, h.ap⟩
theorem Two.updL {w wr w' : World} {tl to n i : Nat} {Bl Cl Bo Co : Nat → Nat} {W : Nat → Nat → Nat} {f : Nat → Nat} (h : Two w wr tl to Bl Cl Bo Co n W) (hi : i < n) (k : Kp (fun b => b = Bl i) wr w') (hr : RowB w' (Bl i) (Cl i) n f) :
    Two w w' tl to Bl Cl Bo Co n (fun r c => if r = i ∧ c < n then f c else W r c) := by
  refine ⟨h.kept.trans k (fun b hb e => by have := h.ll.2 i hi; omega), (h.left.upd hi k hr).congr (fun r _ c hc => ?_), (h.out.keep k (fun e => (h.ap.2.1 i hi).1 e.symm) (fun r hr' e => h.ap.2.2 i r hi hr' e.symm)).congr (fun r _ c _ => ?_), h.ll, h.lo, h.ap⟩
  · by_cases e : r = i
    · simp [e, hc]
    · simp [e]
  · rw [if_neg (by omega)]
theorem Two.updO {w wr w' : World} {tl to n i : Nat} {Bl Cl Bo Co : Nat → Nat} {W : Nat → Nat → Nat} {f : Nat → Nat} (h : Two w wr tl to Bl Cl Bo Co n W) (hi : i < n) (k : Kp (fun b => b = Bo i) wr w') (hr : RowB w' (Bo i) (Co i) n f) :
    Two w w' tl to Bl Cl Bo Co n (fun r c => if r = i ∧ n ≤ c then f (c - n) else W r c) := by
  refine ⟨h.kept.trans k (fun b hb e => by have := h.lo.2 i hi; omega), (h.left.keep k (fun e => (h.ap.2.1 i hi).2 e.symm) (fun r hr' e => h.ap.2.2 r i hr' hi e)).congr (fun r _ c hc => ?_), (h.out.upd hi k hr).congr (fun r _ c hc => ?_), h.ll, h.lo, h.ap⟩
  · rw [if_neg (by omega)]
  · by_cases e : r = i
    · simp [e]
    · simp [e]
theorem Two.exchL {w wr : World} {tl to n i j : Nat} {Bl Cl Bo Co : Nat → Nat} {W : Nat → Nat → Nat} (h : Two w wr tl to Bl Cl Bo Co n W) (hi : i < n) (hj : j < n) :
    Two w ((wr.setCell ⟨tl, i, none⟩ (.slice (some ⟨Bl j, 0, none⟩) n (Cl j))).setCell ⟨tl, j, none⟩ (.slice (some ⟨Bl i, 0, none⟩) n (Cl i))) tl to (swp Bl i j) (swp Cl i j) Bo Co n (fun r c => if c < n then swp W i j r c else W r c) := by
  have k : Kp (fun b => b = tl) wr ((wr.setCell ⟨tl, i, none⟩ (.slice (some ⟨Bl j, 0, none⟩) n (Cl j))).setCell ⟨tl, j, none⟩ (.slice (some ⟨Bl i, 0, none⟩) n (Cl i))) := ((Kp.refl (fun b => b = tl) wr).setCell (a := ⟨tl, i, none⟩) (fun _ => rfl) _).setCell (a := ⟨tl, j, none⟩) (fun _ => rfl) _
  refine ⟨h.kept.trans k (fun b hb e => by have := h.ll.1; omega), (h.left.exch hi hj).congr (fun r _ c hc => ?_), (h.out.keep k (fun e => h.ap.1 e.symm) (fun r hr' => (h.ap.2.1 r hr').2)).congr (fun r _ c _ => ?_), ⟨h.ll.1, fun r hr => ?_⟩, h.lo, h.ap.1, fun r hr => ⟨?_, (h.ap.2.1 r hr).2⟩, fun a b ha hb => ?_⟩
  · rw [if_pos hc]
  · rw [if_neg (by omega)]
  · obtain ⟨q, hq, e, _⟩ := swp_mem Bl hi hj hr
    rw [e]; exact h.ll.2 q hq
  · obtain ⟨q, hq, e, _⟩ := swp_mem Bl hi hj hr
    rw [e]; exact (h.ap.2.1 q hq).1
  · obtain ⟨q, hq, e, _⟩ := swp_mem Bl hi hj ha
    rw [e]; exact h.ap.2.2 q b hq hb
theorem Two.exchO {w wr : World} {tl to n i j : Nat} {Bl Cl Bo Co : Nat → Nat} {W : Nat → Nat → Nat} (h : Two w wr tl to Bl Cl Bo Co n W) (hi : i < n) (hj : j < n) :
    Two w ((wr.setCell ⟨to, i, none⟩ (.slice (some ⟨Bo j, 0, none⟩) n (Co j))).setCell ⟨to, j, none⟩ (.slice (some ⟨Bo i, 0, none⟩) n (Co i))) tl to Bl Cl (swp Bo i j) (swp Co i j) n (fun r c => if n ≤ c then swp W i j r c else W r c) := by
  have k : Kp (fun b => b = to) wr ((wr.setCell ⟨to, i, none⟩ (.slice (some ⟨Bo j, 0, none⟩) n (Co j))).setCell ⟨to, j, none⟩ (.slice (some ⟨Bo i, 0, none⟩) n (Co i))) := ((Kp.refl (fun b => b = to) wr).setCell (a := ⟨to, i, none⟩) (fun _ => rfl) _).setCell (a := ⟨to, j, none⟩) (fun _ => rfl) _
  refine ⟨h.kept.trans k (fun b hb e => by have := h.lo.1; omega), (h.left.keep k h.ap.1 (fun r hr' => (h.ap.2.1 r hr').1)).congr (fun r _ c hc => ?_), (h.out.exch hi hj).congr (fun r _ c _ => ?_), h.ll, ⟨h.lo.1, fun r hr => ?_⟩, h.ap.1, fun r hr => ⟨(h.ap.2.1 r hr).1, ?_⟩, fun a b ha hb => ?_⟩
  · rw [if_neg (by omega)]
  · rw [if_pos (by omega)]; unfold swp
    by_cases a1 : r = i
    · simp only [if_pos a1]
    · by_cases a2 : r = j
      · simp only [if_neg a1, if_pos a2]
      · simp only [if_neg a1, if_neg a2]
  · obtain ⟨q, hq, e, _⟩ := swp_mem Bo hi hj hr
    rw [e]; exact h.lo.2 q hq
  · obtain ⟨q, hq, e, _⟩ := swp_mem Bo hi hj hr
    rw [e]; exact (h.ap.2.1 q hq).2
  · obtain ⟨q, hq, e, _⟩ := swp_mem Bo hi hj hb
    rw [e]; exact h.ap.2.2 a q ha hq
theorem Two.drew {w wr : World} {tl to n : Nat} {Bl Cl Bo Co : Nat → Nat} {W : Nat → Nat → Nat} (h : Two w wr tl to Bl Cl Bo Co n W) : Two w wr.drew tl to Bl Cl Bo Co n W := ⟨h.kept.drew, h.left.drew, h.out.drew, h.ll, h.lo, h.ap⟩
end Go.Proofs.YtmncocmeafcpfaaDoor.Mf

/- Texts of this proof, joined: MfTx, MfM15, MfM16, MfM17. -/
import Derived.Test.YtmncocmeafcpfaaDoorMgAH
import Derived.Test.YtmncocmeafcpfaaDoorMgAI
import Derived.Maps.AppendAt
import Derived.Test.YtmncocmeafcpfaaDoorMgAG
import Derived.RegionTactic
import Derived.BigRegion
import Derived.StillTailTactics
/- The walks of bytes.Clone and of the verifier's Texts. -/
namespace Go.Proofs.YtmncocmeafcpfaaDoor.Mf
open Go.RowKit Go.Deep

set_option maxRecDepth 100000 in
theorem bytes_not_nil (p : Addr) (n c : Nat) (w : World) : (binOp .eql 22 (.slice (some p) n c) (.slice none 0 0)).run Tryd.prog w = .ok (.bool false) w := by rfl
set_option maxRecDepth 100000 in
theorem bytes_nil (n c : Nat) (w : World) : (binOp .eql 22 (.slice none n c) (.slice none 0 0)).run Tryd.prog w = .ok (.bool true) w := by rfl
theorem empty_own (w : World) : (w.alloc (.cells #[] 5)).ownsRow w.heap.size 5 1 (.slice (some ⟨w.heap.size, 0, none⟩) 0 0) 0 [] := by
  obtain ⟨c0, hc1, hc2, _⟩ := World.rowIs_alloc w #[] 5 (fun _ => .nilFunc) (fun i hi => by simp at hi)
  refine ⟨rfl, Or.inr ⟨w.heap.size, 0, c0, rfl, Nat.le_refl _, hc1, Nat.le_refl _, by unfold maxLen; omega, by simpa using hc2, by simp⟩⟩

set_option maxRecDepth 100000 in
set_option maxHeartbeats 800000 in
theorem clone_some (p : Addr) (n c : Nat) (f : Nat → Nat) (w : World) (hc : ∀ k, k < n → w.cell? (p.add k) = some (.int .u8 ((f k : Nat) : Int))) (hn : Hid (n ≤ 140737488355328)) :
    Calls Tryd.prog 17 #[.slice (some p) n c] w fun e w' => ∃ v, e = .returned v ∧ Kp (fun _ => False) w w' ∧ w'.ownsRow w.heap.size 5 1 v n (vals f n) := by
  obtain ⟨ti, hi0, hz0, hz1, hz2⟩ := info_parts info5
  have hnn := bytes_not_nil p n c
  have HC : Hid (∀ j u, (vals f n)[j]? = some u → (w.alloc (.cells #[] 5)).cell? (p.add j) = some u) := fun j u hj => by
    obtain ⟨hj', rfl⟩ := vals_get hj
    exact ((Kp.refl (fun _ => False) w).alloc _).cellv (hc j hj') id
  clear hc
  go_enter Tryd.func17, Tryd.ntmps17
  go_wp2_with (at_builtin; go_must (refine wpList_append_own_at _ rfl _ _ 22 rfl w.heap.size 5 ti (.int .u8 0) 1 1 Tryd.underlying22 hi0 hz0 hz1 hz2 rfl (by decide) _ _ _ rfl (empty_own w) p n c (vals f n) rfl (by simp [vals_length]) HC.out (vals_one f n) (by have := hn.out; unfold maxLen; omega) (by have := hn.out; omega) (by simp) ?_); intro v' w3 hown' hgrow3 hnil3 hblk3)
  go_ret
  refine ⟨_, rfl, Kp.trans ((Kp.refl _ _).alloc _) (grownBy_kp hgrow3) (fun b hb e => ?_), by simpa using hown'⟩
  have e' : some w.heap.size = some b := e
  have := Option.some.inj e'
  omega

set_option maxRecDepth 100000 in
set_option maxHeartbeats 800000 in
theorem clone_none (c : Nat) (w : World) : Calls Tryd.prog 17 #[.slice none 0 c] w fun e w' => e = .returned (.slice none 0 0) ∧ w' = w := by
  have hnn := bytes_nil 0 c
  go_enter Tryd.func17, Tryd.ntmps17
  go_wp2
  go_ret
  exact ⟨rfl, rfl⟩

/-- a row of n bytes that the call owns: nothing, or a block of its own -/
theorem own_row {w : World} {base n : Nat} {v : Value} {f : Nat → Nat} (h : w.ownsRow base 5 1 v n (vals f n)) : ∃ p c b, v = .slice p n c ∧ (0 < n → p = some ⟨b, 0, none⟩ ∧ base ≤ b ∧ n ≤ c ∧ RowB w b c n f) := by
  rcases h.2 with ⟨rfl, h0⟩ | ⟨g, cap, cur, rfl, hb, hh, hn, _, hcs, htk⟩
  · exact ⟨none, 0, 0, by rw [h0], fun hx => by omega⟩
  · refine ⟨_, cap, g, rfl, fun _ => ⟨rfl, hb, hn, fun j => cur.getD j (.int .u8 0), ⟨cur, hh, by omega, fun i hi => ?_⟩, hn, fun j hj => ?_⟩⟩
    · show cur[i]? = some (cur.getD i (.int .u8 0))
      rw [Array.getD_eq_getD_getElem?, Array.getElem?_eq_getElem (by omega)]; rfl
    · have h1 : (cur.toList.take (n * 1))[j]? = some (.int .u8 ((f j : Nat) : Int)) := by rw [htk]; exact vals_at f hj
      rw [List.getElem?_take_of_lt (by omega), Array.getElem?_toList] at h1
      show cur.getD j (.int .u8 0) = _
      rw [Array.getD_eq_getD_getElem?, h1]; rfl

/-- whatever the text: a copy that the call owns -/
theorem clone_own (s : Sh) (r c : Nat) (w : World) (hs : Rd w s) (hr : r < s.G) (hn : Hid (s.L r ≤ 140737488355328)) :
    Calls Tryd.prog 17 #[.slice (s.A r) (s.L r) c] w fun e w' => ∃ v, e = .returned v ∧ Kp (fun _ => False) w w' ∧ w'.ownsRow w.heap.size 5 1 v (s.L r) (vals (s.M r) (s.L r)) := by
  cases hA : s.A r with
  | none =>
    have h0 : s.L r = 0 := by
      rcases Nat.eq_zero_or_pos (s.L r) with h | h
      · exact h
      · have := hs.to r hr 0 h; rw [hA] at this; simp at this
    rw [h0]
    refine (clone_none c w).mono ?_
    rintro e w' ⟨rfl, rfl⟩
    exact ⟨_, rfl, Kp.refl _ _, World.ownsRow_nil _ _ _ _⟩
  | some p =>
    refine clone_some p (s.L r) c (s.M r) w (fun k hk => ?_) hn
    have e := hs.to r hr k hk
    rw [hA] at e
    obtain rfl := Option.some.inj e
    rw [addr_add]
    exact hs.cell r hr k hk

/-- whatever the text: a copy in memory of its own -/
theorem clone_any (s : Sh) (r c : Nat) (w : World) (hs : Rd w s) (hr : r < s.G) (hn : Hid (s.L r ≤ 140737488355328)) :
    Calls Tryd.prog 17 #[.slice (s.A r) (s.L r) c] w fun e w' => ∃ p c' b, e = .returned (.slice p (s.L r) c') ∧ Kp (fun _ => False) w w' ∧ (0 < s.L r → p = some ⟨b, 0, none⟩ ∧ w.heap.size ≤ b ∧ s.L r ≤ c' ∧ RowB w' b c' (s.L r) (s.M r)) := by
  cases hA : s.A r with
  | none =>
    have h0 : s.L r = 0 := by
      rcases Nat.eq_zero_or_pos (s.L r) with h | h
      · exact h
      · have := hs.to r hr 0 h; rw [hA] at this; simp at this
    rw [h0]
    refine (clone_none c w).mono ?_
    rintro e w' ⟨rfl, rfl⟩
    exact ⟨_, _, 0, rfl, Kp.refl _ _, fun h => by omega⟩
  | some p =>
    refine (clone_some p (s.L r) c (s.M r) w (fun k hk => ?_) hn).mono ?_
    · have e := hs.to r hr k hk
      rw [hA] at e
      obtain rfl := Option.some.inj e
      rw [addr_add]
      exact hs.cell r hr k hk
    · rintro e w' ⟨v, rfl, k, ho⟩
      obtain ⟨p', c', b, rfl, h⟩ := own_row ho
      exact ⟨p', c', b, rfl, k, h⟩

/-- headers of whatever rows -/
def hdrs3 (A : Nat → Option Addr) (L C : Nat → Nat) (r : Nat) : List Value := (List.range r).map fun j => .slice (A j) (L j) (C j)
theorem hdrs3_succ (A : Nat → Option Addr) (L C : Nat → Nat) (r : Nat) (p : Option Addr) (c : Nat) : hdrs3 (fun j => if j = r then p else A j) L (fun j => if j = r then c else C j) (r + 1) = hdrs3 A L C r ++ [.slice p (L r) c] := by
  unfold hdrs3
  rw [List.range_succ, List.map_append]
  congr 1
  · refine List.map_congr_left (fun j hj => ?_)
    have hj' := List.mem_range.1 hj
    simp only []
    rw [if_neg (by omega), if_neg (by omega)]
  · simp
theorem hdrs3_at (A : Nat → Option Addr) (L C : Nat → Nat) {r j : Nat} (h : j < r) : (hdrs3 A L C r)[j]? = some (.slice (A j) (L j) (C j)) := by
  unfold hdrs3
  rw [List.getElem?_map, List.getElem?_range h]; rfl

/-- copies of the first k texts, gathered -/
structure TxA (w wr : World) (s : Sh) (v : Value) (k : Nat) (A : Nat → Option Addr) (C RB : Nat → Nat) : Prop where
  kept : Kp (fun _ => False) w wr
  own : wr.ownsRow w.heap.size 22 1 v k (hdrs3 A s.L C k)
  row : ∀ j, j < k → 0 < s.L j → A j = some ⟨RB j, 0, none⟩ ∧ w.heap.size ≤ RB j ∧ s.L j ≤ C j ∧ RowB wr (RB j) (C j) (s.L j) (s.M j)
  inj : ∀ i j, i < k → j < k → 0 < s.L i → 0 < s.L j → RB i = RB j → i = j
  ne : ∀ j, j < k → 0 < s.L j → v.ownBlock ≠ some (RB j)
theorem TxA.start (w : World) (s : Sh) : TxA w w s (.slice none 0 0) 0 (fun _ => none) (fun _ => 0) (fun _ => 0) :=
  ⟨Kp.refl _ _, World.ownsRow_nil _ _ _ _, fun _ h => absurd h (Nat.not_lt_zero _), fun _ _ h => absurd h (Nat.not_lt_zero _), fun _ h => absurd h (Nat.not_lt_zero _)⟩
theorem TxA.step {w wr wq wn : World} {s : Sh} {v v' : Value} {k : Nat} {A : Nat → Option Addr} {C RB : Nat → Nat} {o : Obj} {p : Option Addr} {c b : Nat} (h : TxA w wr s v k A C RB) (kk : Kp (fun _ => False) wr wq)
    (hrow : 0 < s.L k → p = some ⟨b, 0, none⟩ ∧ wr.heap.size ≤ b ∧ s.L k ≤ c ∧ RowB wq b c (s.L k) (s.M k))
    (hown : wn.ownsRow w.heap.size 22 1 v' (k + 1) (hdrs3 A s.L C k ++ [.slice p (s.L k) c])) (hg : (wq.alloc o).grownBy wn v.ownBlock)
    (hv : v'.ownBlock = v.ownBlock ∨ v'.ownBlock = some (wq.alloc o).heap.size) : TxA w wn s v' (k + 1) (fun j => if j = k then p else A j) (fun j => if j = k then c else C j) (fun j => if j = k then b else RB j) := by
  have hsz : (wq.alloc o).heap.size = wq.heap.size + 1 := by simp
  have hwr := h.kept.size
  have hqs := kk.size
  refine ⟨?_, by rw [hdrs3_succ]; exact hown, fun j hj hL => ?_, fun i j hi hj h1 h2 e => ?_, fun j hj hL => ?_⟩
  · refine Kp.trans (h.kept.trans (kk.alloc o) (fun _ _ e => e.elim)) (grownBy_kp hg) (fun b hb e => ?_)
    have := ownBlock_lt h.own e
    omega
  · by_cases e : j = k
    · subst e
      simp only [if_true]
      obtain ⟨h1, h2, h3, h4⟩ := hrow hL
      exact ⟨h1, by omega, h3, (h4.alloc o).keep (grownBy_kp hg) (fun e => by have := ownBlock_lt h.own e; omega)⟩
    · simp only [if_neg e]
      obtain ⟨h1, h2, h3, h4⟩ := h.row j (by omega) hL
      exact ⟨h1, h2, h3, ((h4.keep kk id).alloc o).keep (grownBy_kp hg) (h.ne j (by omega) hL)⟩
  · by_cases e1 : i = k <;> by_cases e2 : j = k
    · omega
    · simp only [if_pos e1, if_neg e2] at e
      have := (h.row j (by omega) h2).2.2.2.lt
      have := (hrow (by rw [← e1]; exact h1)).2.1
      omega
    · simp only [if_neg e1, if_pos e2] at e
      have := (h.row i (by omega) h1).2.2.2.lt
      have := (hrow (by rw [← e2]; exact h2)).2.1
      omega
    · simp only [if_neg e1, if_neg e2] at e
      exact h.inj i j (by omega) (by omega) h1 h2 e
  · intro e
    by_cases e1 : j = k
    · subst e1
      simp only [if_true] at e
      obtain ⟨_, h2, _, h4⟩ := hrow hL
      have hl := h4.lt
      rcases hv with hv | hv
      · rw [hv] at e; have := ownBlock_lt h.own e; omega
      · rw [hv] at e; have := Option.some.inj e; omega
    · simp only [if_neg e1] at e
      rcases hv with hv | hv
      · rw [hv] at e; exact h.ne j (by omega) hL e
      · rw [hv] at e
        have := Option.some.inj e
        have := (h.row j (by omega) hL).2.2.2.lt
        omega

/-- texts in memory of their own, newer than w's: they may be written -/
structure Own (w w' : World) (s : Sh) : Prop where
  rd : Rd w' s
  lc : ∀ r, r < s.G → 0 < s.L r → s.L r ≤ s.C r
  cap : s.G ≤ s.cap
  off : s.go = 0
  top : 0 < s.G → w.heap.size ≤ s.gb
  row : ∀ j, j < s.G → 0 < s.L j → s.RO j = 0 ∧ w.heap.size ≤ s.RB j ∧ RowB w' (s.RB j) (s.C j) (s.L j) (s.M j)
  inj : ∀ i j, i < s.G → j < s.G → 0 < s.L i → 0 < s.L j → s.RB i = s.RB j → i = j
  ne : ∀ j, j < s.G → 0 < s.L j → s.RB j ≠ s.gb
theorem TxA.done {w wr : World} {s : Sh} {v : Value} {A : Nat → Option Addr} {C RB : Nat → Nat} (h : TxA w wr s v s.G A C RB) (hb : ∀ r c, s.M r c < 256) : ∃ g cap gb, v = .slice g s.G cap ∧ Own w wr ⟨g, s.G, cap, gb, 0, A, s.L, C, RB, fun _ => 0, s.M⟩ := by
  have key : ∀ g cap gb, (0 < s.G → g = some ⟨gb, 0, none⟩ ∧ w.heap.size ≤ gb) → s.G ≤ cap → (∀ r, r < s.G → wr.cell? ⟨gb, r, none⟩ = some (.slice (A r) (s.L r) (C r))) → (∀ j, j < s.G → 0 < s.L j → RB j ≠ gb) → Own w wr ⟨g, s.G, cap, gb, 0, A, s.L, C, RB, fun _ => 0, s.M⟩ := fun g cap gb h1 h2 h3 h4 =>
    ⟨⟨fun h0 => (h1 h0).1, fun r hr => by have := h3 r hr; simpa using this, fun r hr c hc => (h.row r hr (by simp only at hc; omega)).1, fun r hr c hc => by
      have := (h.row r hr (by simp only at hc; omega)).2.2.2.cell hc; simpa using this, hb⟩, fun r hr hL => (h.row r hr hL).2.2.1, h2, rfl, fun h0 => (h1 h0).2, fun j hj hL => ⟨rfl, (h.row j hj hL).2.1, (h.row j hj hL).2.2.2⟩, h.inj, h4⟩
  rcases h.own.2 with ⟨rfl, h0⟩ | ⟨g, cap, cur, rfl, hbb, hh, hn, _, hcs, htk⟩
  · exact ⟨none, 0, 0, by rw [h0], key none 0 0 (fun hx => by omega) (by omega) (fun r hr => by omega) (fun j hj => by omega)⟩
  · refine ⟨some ⟨g, 0, none⟩, cap, g, rfl, key _ cap g (fun _ => ⟨rfl, hbb⟩) hn (fun i hi => ?_) (fun j hj hL e => h.ne j hj hL (by simp [Value.ownBlock, e]))⟩
    have h1 : (cur.toList.take (s.G * 1))[i]? = some (.slice (A i) (s.L i) (C i)) := by rw [htk]; exact hdrs3_at A s.L C hi
    rw [List.getElem?_take_of_lt (by omega), Array.getElem?_toList] at h1
    simp [World.cell?, hh, h1]

end Go.Proofs.YtmncocmeafcpfaaDoor.Mf

/- Two matrices that are eliminated side by side, their rows' blocks with spare room: what the reference's Invert works on. -/
namespace Go.Proofs.YtmncocmeafcpfaaDoor.Mf
open Go.RowKit Go.Deep

/-- headers in a block that may be longer -/
def TopB (w : World) (t n : Nat) (h : Nat → Value) : Prop := ∃ nt g, w.rowIs t 22 nt g ∧ n ≤ nt ∧ ∀ j, j < n → g j = h j
namespace TopB
variable {w w' : World} {t n : Nat} {h h' : Nat → Value}
theorem cell (H : TopB w t n h) {i : Nat} (hi : i < n) : w.cell? ⟨t, i, none⟩ = some (h i) := by
  obtain ⟨nt, g, h1, h2, h3⟩ := H
  rw [h1.cell (by omega), h3 i hi]
theorem frozen (H : TopB w t n h) (i : Nat) : w.frozen? ⟨t, i, none⟩ = false := by
  obtain ⟨nt, g, h1, _, _⟩ := H
  exact h1.frozen i
theorem lt (H : TopB w t n h) : t < w.heap.size := by
  obtain ⟨nt, g, h1, _, _⟩ := H
  exact h1.lt
theorem keep {S : Nat → Prop} (H : TopB w t n h) (k : Kp S w w') (hS : ¬ S t) : TopB w' t n h := by
  obtain ⟨nt, g, h1, h2, h3⟩ := H
  exact ⟨nt, g, k.row h1 hS, h2, h3⟩
theorem set (H : TopB w t n h) (i : Nat) (v : Value) : TopB (w.setCell ⟨t, i, none⟩ v) t n (fun j => if j = i then v else h j) := by
  obtain ⟨nt, g, h1, h2, h3⟩ := H
  exact ⟨nt, _, h1.set i v, h2, fun j hj => by dsimp only; rw [h3 j hj]⟩
theorem congr (H : TopB w t n h) (e : ∀ j, j < n → h j = h' j) : TopB w t n h' := by
  obtain ⟨nt, g, h1, h2, h3⟩ := H
  exact ⟨nt, g, h1, h2, fun j hj => (h3 j hj).trans (e j hj)⟩
theorem drew (H : TopB w t n h) : TopB w.drew t n h := H
theorem of_own {base : Nat} {v : Value} {xs : List Value} (ho : w.ownsRow base 22 1 v n xs) (hn : 0 < n) (hx : ∀ j, j < n → xs[j]? = some (h j)) : ∃ g cap, v = .slice (some ⟨g, 0, none⟩) n cap ∧ base ≤ g ∧ TopB w g n h := by
  rcases ho.2 with ⟨_, h0⟩ | ⟨g, cap, cur, rfl, hb, hh, hc, _, hcs, htk⟩
  · omega
  · refine ⟨g, cap, rfl, hb, cap, fun j => cur.getD j (.slice none 0 0), ⟨cur, hh, by omega, fun i hi => ?_⟩, hc, fun j hj => ?_⟩
    · show cur[i]? = some (cur.getD i (.slice none 0 0))
      rw [Array.getD_eq_getD_getElem?, Array.getElem?_eq_getElem (by omega)]; rfl
    · have h1 : (cur.toList.take (n * 1))[j]? = some (h j) := by rw [htk]; exact hx j hj
      rw [List.getElem?_take_of_lt (by omega), Array.getElem?_toList] at h1
      show cur.getD j (.slice none 0 0) = _
      rw [Array.getD_eq_getD_getElem?, h1]; rfl
end TopB

/-- two exchanged -/
def swp {α : Type} (f : Nat → α) (i j : Nat) : Nat → α := fun r => if r = i then f j else if r = j then f i else f r

/-- a matrix whose blocks may be longer -/
structure Mo (w : World) (t : Nat) (B C : Nat → Nat) (n : Nat) (M : Nat → Nat → Nat) : Prop where
  top : TopB w t n (fun i => .slice (some ⟨B i, 0, none⟩) n (C i))
  row : ∀ i, i < n → RowB w (B i) (C i) n (M i)
  inj : ∀ i j, i < n → j < n → B i = B j → i = j
  ne : ∀ i, i < n → B i ≠ t
theorem Mo.keep {S : Nat → Prop} {w w' : World} {t n : Nat} {B C : Nat → Nat} {M : Nat → Nat → Nat} (h : Mo w t B C n M) (k : Kp S w w') (ht : ¬ S t) (hB : ∀ i, i < n → ¬ S (B i)) : Mo w' t B C n M :=
  ⟨h.top.keep k ht, fun i hi => (h.row i hi).keep k (hB i hi), h.inj, h.ne⟩
theorem Mo.congr {w : World} {t n : Nat} {B C : Nat → Nat} {M M' : Nat → Nat → Nat} (h : Mo w t B C n M) (e : ∀ i, i < n → ∀ c, c < n → M i c = M' i c) : Mo w t B C n M' :=
  ⟨h.top, fun i hi => (h.row i hi).congr (e i hi), h.inj, h.ne⟩
theorem Mo.upd {w w' : World} {t n i : Nat} {B C : Nat → Nat} {M : Nat → Nat → Nat} {f : Nat → Nat} (h : Mo w t B C n M) (hi : i < n) (k : Kp (fun b => b = B i) w w') (hr : RowB w' (B i) (C i) n f) : Mo w' t B C n (fun r => if r = i then f else M r) := by
  refine ⟨h.top.keep k (fun e => h.ne i hi e.symm), fun r hr' => ?_, h.inj, h.ne⟩
  by_cases e : r = i
  · subst e; simp only [if_true]; exact hr
  · simp only [if_neg e]; exact (h.row r hr').keep k (fun e' => e (h.inj r i hr' hi e'))
theorem swp_mem {α : Type} (f : Nat → α) {i j n r : Nat} (hi : i < n) (hj : j < n) (hr : r < n) : ∃ q, q < n ∧ swp f i j r = f q ∧ (∀ (g : Nat → Nat), swp g i j r = g q) := by
  unfold swp
  by_cases e1 : r = i
  · exact ⟨j, hj, by simp [e1], fun g => by simp [e1]⟩
  · by_cases e2 : r = j
    · exact ⟨i, hi, by simp only [if_neg e1, if_pos e2], fun g => by simp only [if_neg e1, if_pos e2]⟩
    · exact ⟨r, hr, by simp [e1, e2], fun g => by simp [e1, e2]⟩
theorem Mo.exch {w : World} {t n i j : Nat} {B C : Nat → Nat} {M : Nat → Nat → Nat} (h : Mo w t B C n M) (hi : i < n) (hj : j < n) :
    Mo ((w.setCell ⟨t, i, none⟩ (.slice (some ⟨B j, 0, none⟩) n (C j))).setCell ⟨t, j, none⟩ (.slice (some ⟨B i, 0, none⟩) n (C i))) t (swp B i j) (swp C i j) n (swp M i j) := by
  have k : Kp (fun b => b = t) w ((w.setCell ⟨t, i, none⟩ (.slice (some ⟨B j, 0, none⟩) n (C j))).setCell ⟨t, j, none⟩ (.slice (some ⟨B i, 0, none⟩) n (C i))) := ((Kp.refl (fun b => b = t) w).setCell (a := ⟨t, i, none⟩) (fun _ => rfl) _).setCell (a := ⟨t, j, none⟩) (fun _ => rfl) _
  refine ⟨((h.top.set i _).set j _).congr (fun r _ => ?_), fun r hr => ?_, fun a b ha hb e => ?_, fun r hr => ?_⟩
  · unfold swp
    by_cases e1 : r = j
    · by_cases e2 : r = i
      · subst e1; subst e2; simp
      · simp only [if_pos e1, if_neg e2]
    · by_cases e2 : r = i
      · simp only [if_neg e1, if_pos e2]
      · simp only [if_neg e1, if_neg e2]
  · have hq : ∃ q, q < n ∧ swp B i j r = B q ∧ swp C i j r = C q ∧ swp M i j r = M q := by
      unfold swp
      by_cases e1 : r = i
      · exact ⟨j, hj, by simp [e1], by simp [e1], by simp [e1]⟩
      · by_cases e2 : r = j
        · exact ⟨i, hi, by simp only [if_neg e1, if_pos e2], by simp only [if_neg e1, if_pos e2], by simp only [if_neg e1, if_pos e2]⟩
        · exact ⟨r, hr, by simp only [if_neg e1, if_neg e2], by simp only [if_neg e1, if_neg e2], by simp only [if_neg e1, if_neg e2]⟩
    obtain ⟨q, hqn, e1, e2, e3⟩ := hq
    rw [e1, e2, e3]
    exact (h.row q hqn).keep k (h.ne q hqn)
  · unfold swp at e
    by_cases a1 : a = i <;> by_cases b1 : b = i
    · omega
    · simp only [if_pos a1, if_neg b1] at e
      by_cases b2 : b = j
      · simp only [if_pos b2] at e
        have := h.inj j i hj hi e
        omega
      · simp only [if_neg b2] at e
        have := h.inj j b hj hb e
        omega
    · simp only [if_neg a1, if_pos b1] at e
      by_cases a2 : a = j
      · simp only [if_pos a2] at e
        have := h.inj i j hi hj e
        omega
      · simp only [if_neg a2] at e
        have := h.inj a j ha hj e
        omega
    · simp only [if_neg a1, if_neg b1] at e
      by_cases a2 : a = j <;> by_cases b2 : b = j
      · omega
      · simp only [if_pos a2, if_neg b2] at e
        have := h.inj i b hi hb e
        omega
      · simp only [if_neg a2, if_pos b2] at e
        have := h.inj a i ha hi e
        omega
      · simp only [if_neg a2, if_neg b2] at e
        exact h.inj a b ha hb e
  · obtain ⟨q, hqn, e1, _⟩ := swp_mem B hi hj hr
    rw [e1]; exact h.ne q hqn
theorem Mo.drew {w : World} {t n : Nat} {B C : Nat → Nat} {M : Nat → Nat → Nat} (h : Mo w t B C n M) : Mo w.drew t B C n M := ⟨h.top, h.row, h.inj, h.ne⟩

/-- both halves of the wide matrix W, in memory of their own -/
structure Two (w wr : World) (tl to : Nat) (Bl Cl Bo Co : Nat → Nat) (n : Nat) (W : Nat → Nat → Nat) : Prop where
  kept : Kp (fun _ => False) w wr
  left : Mo wr tl Bl Cl n (fun r c => W r c)
  out : Mo wr to Bo Co n (fun r c => W r (n + c))
  ll : w.heap.size ≤ tl ∧ ∀ i, i < n → w.heap.size ≤ Bl i
  lo : w.heap.size ≤ to ∧ ∀ i, i < n → w.heap.size ≤ Bo i
  ap : tl ≠ to ∧ (∀ i, i < n → Bl i ≠ to ∧ Bo i ≠ tl) ∧ ∀ i j, i < n → j < n → Bl i ≠ Bo j
theorem Two.congr {w wr : World} {tl to n : Nat} {Bl Cl Bo Co : Nat → Nat} {W W' : Nat → Nat → Nat} (h : Two w wr tl to Bl Cl Bo Co n W) (e : ∀ r, r < n → ∀ c, c < 2 * n → W r c = W' r c) : Two w wr tl to Bl Cl Bo Co n W' :=
  ⟨h.kept, h.left.congr (fun i hi c hc => e i hi c (by omega)), h.out.congr (fun i hi c hc => e i hi (n + c) (by omega)), h.ll, h.lo, h.ap⟩
theorem Two.updL {w wr w' : World} {tl to n i : Nat} {Bl Cl Bo Co : Nat → Nat} {W : Nat → Nat → Nat} {f : Nat → Nat} (h : Two w wr tl to Bl Cl Bo Co n W) (hi : i < n) (k : Kp (fun b => b = Bl i) wr w') (hr : RowB w' (Bl i) (Cl i) n f) :
    Two w w' tl to Bl Cl Bo Co n (fun r c => if r = i ∧ c < n then f c else W r c) := by
  refine ⟨h.kept.trans k (fun b hb e => by have := h.ll.2 i hi; omega), (h.left.upd hi k hr).congr (fun r _ c hc => ?_), (h.out.keep k (fun e => (h.ap.2.1 i hi).1 e.symm) (fun r hr' e => h.ap.2.2 i r hi hr' e.symm)).congr (fun r _ c _ => ?_), h.ll, h.lo, h.ap⟩
  · by_cases e : r = i
    · simp [e, hc]
    · simp [e]
  · rw [if_neg (by omega)]
theorem Two.updO {w wr w' : World} {tl to n i : Nat} {Bl Cl Bo Co : Nat → Nat} {W : Nat → Nat → Nat} {f : Nat → Nat} (h : Two w wr tl to Bl Cl Bo Co n W) (hi : i < n) (k : Kp (fun b => b = Bo i) wr w') (hr : RowB w' (Bo i) (Co i) n f) :
    Two w w' tl to Bl Cl Bo Co n (fun r c => if r = i ∧ n ≤ c then f (c - n) else W r c) := by
  refine ⟨h.kept.trans k (fun b hb e => by have := h.lo.2 i hi; omega), (h.left.keep k (fun e => (h.ap.2.1 i hi).2 e.symm) (fun r hr' e => h.ap.2.2 r i hr' hi e)).congr (fun r _ c hc => ?_), (h.out.upd hi k hr).congr (fun r _ c hc => ?_), h.ll, h.lo, h.ap⟩
  · rw [if_neg (by omega)]
  · by_cases e : r = i
    · simp [e]
    · simp [e]
theorem Two.exchL {w wr : World} {tl to n i j : Nat} {Bl Cl Bo Co : Nat → Nat} {W : Nat → Nat → Nat} (h : Two w wr tl to Bl Cl Bo Co n W) (hi : i < n) (hj : j < n) :
    Two w ((wr.setCell ⟨tl, i, none⟩ (.slice (some ⟨Bl j, 0, none⟩) n (Cl j))).setCell ⟨tl, j, none⟩ (.slice (some ⟨Bl i, 0, none⟩) n (Cl i))) tl to (swp Bl i j) (swp Cl i j) Bo Co n (fun r c => if c < n then swp W i j r c else W r c) := by
  have k : Kp (fun b => b = tl) wr ((wr.setCell ⟨tl, i, none⟩ (.slice (some ⟨Bl j, 0, none⟩) n (Cl j))).setCell ⟨tl, j, none⟩ (.slice (some ⟨Bl i, 0, none⟩) n (Cl i))) := ((Kp.refl (fun b => b = tl) wr).setCell (a := ⟨tl, i, none⟩) (fun _ => rfl) _).setCell (a := ⟨tl, j, none⟩) (fun _ => rfl) _
  refine ⟨h.kept.trans k (fun b hb e => by have := h.ll.1; omega), (h.left.exch hi hj).congr (fun r _ c hc => ?_), (h.out.keep k (fun e => h.ap.1 e.symm) (fun r hr' => (h.ap.2.1 r hr').2)).congr (fun r _ c _ => ?_), ⟨h.ll.1, fun r hr => ?_⟩, h.lo, h.ap.1, fun r hr => ⟨?_, (h.ap.2.1 r hr).2⟩, fun a b ha hb => ?_⟩
  · rw [if_pos hc]
  · rw [if_neg (by omega)]
  · obtain ⟨q, hq, e, _⟩ := swp_mem Bl hi hj hr
    rw [e]; exact h.ll.2 q hq
  · obtain ⟨q, hq, e, _⟩ := swp_mem Bl hi hj hr
    rw [e]; exact (h.ap.2.1 q hq).1
  · obtain ⟨q, hq, e, _⟩ := swp_mem Bl hi hj ha
    rw [e]; exact h.ap.2.2 q b hq hb
theorem Two.exchO {w wr : World} {tl to n i j : Nat} {Bl Cl Bo Co : Nat → Nat} {W : Nat → Nat → Nat} (h : Two w wr tl to Bl Cl Bo Co n W) (hi : i < n) (hj : j < n) :
    Two w ((wr.setCell ⟨to, i, none⟩ (.slice (some ⟨Bo j, 0, none⟩) n (Co j))).setCell ⟨to, j, none⟩ (.slice (some ⟨Bo i, 0, none⟩) n (Co i))) tl to Bl Cl (swp Bo i j) (swp Co i j) n (fun r c => if n ≤ c then swp W i j r c else W r c) := by
  have k : Kp (fun b => b = to) wr ((wr.setCell ⟨to, i, none⟩ (.slice (some ⟨Bo j, 0, none⟩) n (Co j))).setCell ⟨to, j, none⟩ (.slice (some ⟨Bo i, 0, none⟩) n (Co i))) := ((Kp.refl (fun b => b = to) wr).setCell (a := ⟨to, i, none⟩) (fun _ => rfl) _).setCell (a := ⟨to, j, none⟩) (fun _ => rfl) _
  refine ⟨h.kept.trans k (fun b hb e => by have := h.lo.1; omega), (h.left.keep k h.ap.1 (fun r hr' => (h.ap.2.1 r hr').1)).congr (fun r _ c hc => ?_), (h.out.exch hi hj).congr (fun r _ c _ => ?_), h.ll, ⟨h.lo.1, fun r hr => ?_⟩, h.ap.1, fun r hr => ⟨(h.ap.2.1 r hr).1, ?_⟩, fun a b ha hb => ?_⟩
  · rw [if_neg (by omega)]
  · rw [if_pos (by omega)]; unfold swp
    by_cases a1 : r = i
    · simp only [if_pos a1]
    · by_cases a2 : r = j
      · simp only [if_neg a1, if_pos a2]
      · simp only [if_neg a1, if_neg a2]
  · obtain ⟨q, hq, e, _⟩ := swp_mem Bo hi hj hr
    rw [e]; exact h.lo.2 q hq
  · obtain ⟨q, hq, e, _⟩ := swp_mem Bo hi hj hr
    rw [e]; exact (h.ap.2.1 q hq).2
  · obtain ⟨q, hq, e, _⟩ := swp_mem Bo hi hj hb
    rw [e]; exact h.ap.2.2 a q ha hq
theorem Two.drew {w wr : World} {tl to n : Nat} {Bl Cl Bo Co : Nat → Nat} {W : Nat → Nat → Nat} (h : Two w wr tl to Bl Cl Bo Co n W) : Two w wr.drew tl to Bl Cl Bo Co n W := ⟨h.kept.drew, h.left.drew, h.out.drew, h.ll, h.lo, h.ap⟩
end Go.Proofs.YtmncocmeafcpfaaDoor.Mf

/- The walk of the reference's Invert. -/
namespace Go.Proofs.YtmncocmeafcpfaaDoor.Mf
open Go.RowKit Go.Deep

/-- the row c, of which k of each half are multiplied -/
def scl (V : Nat → Nat → Nat) (n c b k : Nat) : Nat → Nat → Nat := fun r q => if r = c ∧ (q < k ∨ (n ≤ q ∧ q < n + k)) then Gf.mul (V c q) b else V r q
theorem scl_zero (V : Nat → Nat → Nat) (n c b : Nat) : scl V n c b 0 = V := by
  funext r q; unfold scl; rw [if_neg (by omega)]
theorem scl_lt {V : Nat → Nat → Nat} (h : ∀ r q, V r q < 256) (n c b k r q : Nat) : scl V n c b k r q < 256 := by
  unfold scl; split
  · exact Gf.mul_lt _ _
  · exact h _ _
theorem scl_here (V : Nat → Nat → Nat) (n c b k : Nat) (hk : k < n) : scl V n c b k c k = V c k := by unfold scl; rw [if_neg (by omega)]
theorem scl_here2 (V : Nat → Nat → Nat) (n c b k : Nat) : scl V n c b k c (n + k) = V c (n + k) := by
  unfold scl
  by_cases h : c = c ∧ (n + k < k ∨ n ≤ n + k ∧ n + k < n + k)
  · omega
  · rw [if_neg h]
/-- the rows, of which the first k are cleared -/
def clr (U : Nat → Nat → Nat) (c k : Nat) : Nat → Nat → Nat := fun r q => if r < k ∧ r ≠ c then U r q ^^^ Gf.mul (U c q) (U r c) else U r q
theorem clr_zero (U : Nat → Nat → Nat) (c : Nat) : clr U c 0 = U := by funext r q; unfold clr; rw [if_neg (by omega)]
theorem clr_here (U : Nat → Nat → Nat) (c k q : Nat) : clr U c k k q = U k q := by unfold clr; rw [if_neg (by omega)]
theorem clr_piv (U : Nat → Nat → Nat) (c k q : Nat) : clr U c k c q = U c q := by unfold clr; rw [if_neg (by omega)]
theorem clr_skip {U : Nat → Nat → Nat} {c k : Nat} (h : k = c ∨ U k c = 0) (r q : Nat) : clr U c k r q = clr U c (k + 1) r q := by
  unfold clr
  by_cases e : r = k
  · subst e
    rw [if_neg (by omega)]
    rcases h with h | h
    · rw [if_neg (by omega)]
    · split
      · rw [h, Gf.mul_zero, Nat.xor_zero]
      · rfl
  · by_cases h2 : r < k ∧ r ≠ c
    · rw [if_pos h2, if_pos (by omega)]
    · rw [if_neg h2, if_neg (by omega)]
theorem clr_cleared {U : Nat → Nat → Nat} {c n : Nat} (h0 : ∀ q, q < c → U c q = 0) (r : Nat) (hr : r < n) (q : Nat) : clr U c n r q = cleared U c r q := by
  rw [cleared_all h0]
  unfold clr
  by_cases e : r = c
  · rw [if_neg (by omega), if_pos e, e]
  · rw [if_pos (by omega), if_neg e]

/-- what the scaling and the exchange come to -/
theorem scl_brought {W : Nat → Nat → Nat} {n c p : Nat} (r q : Nat) (hq : q < 2 * n) : scl (swp W c p) n c (Gf.inv (W p c)) n r q = brought W c p r q := by
  unfold scl brought swp
  by_cases e : r = c
  · rw [if_pos ⟨e, by omega⟩, if_pos e, if_pos rfl]
  · rw [if_neg (by omega), if_neg e, if_neg e]
    by_cases e2 : r = p
    · rw [if_pos e2, if_pos e2]
    · rw [if_neg e2, if_neg e2]

end Go.Proofs.YtmncocmeafcpfaaDoor.Mf

/- The walks of the reference's Mul and Rows, of the errors of both sides on whatever texts, and of the verifier's Spoil. -/
namespace Go.Proofs.YtmncocmeafcpfaaDoor.Mf
open Go.RowKit Go.Deep

/-- a row of the product, k entries done and j terms of the next -/
def rowAt (a b : Nat → Nat → Nat) (n r k j : Nat) : Nat → Nat := fun q => if q < k then prodTo a b n r q else if q = k then prodTo a b j r q else 0
theorem rowAt_lt (a b : Nat → Nat → Nat) (n r k j q : Nat) : rowAt a b n r k j q < 256 := by
  unfold rowAt; split
  · exact prodTo_lt _ _ _ _ _
  · split
    · exact prodTo_lt _ _ _ _ _
    · omega
theorem rowAt_start (a b : Nat → Nat → Nat) (n r : Nat) : rowAt a b n r 0 0 = fun _ => 0 := by
  funext q; unfold rowAt; rw [if_neg (by omega)]
  split <;> rfl
theorem rowAt_here (a b : Nat → Nat → Nat) (n r k j : Nat) : rowAt a b n r k j k = prodTo a b j r k := by unfold rowAt; rw [if_neg (by omega), if_pos rfl]
theorem rowAt_step (a b : Nat → Nat → Nat) (n r k j q : Nat) : (if q = k then prodTo a b j r k ^^^ Gf.mul (b j k) (a r j) else rowAt a b n r k j q) = rowAt a b n r k (j + 1) q := by
  unfold rowAt
  by_cases e : q = k
  · subst e; rw [if_pos rfl, if_neg (by omega), if_pos rfl]; rfl
  · rw [if_neg e, if_neg e, if_neg e]
theorem rowAt_next (a b : Nat → Nat → Nat) (n r k q : Nat) : rowAt a b n r k n q = rowAt a b n r (k + 1) 0 q := by
  unfold rowAt
  by_cases h : q < k
  · rw [if_pos h, if_pos (by omega)]
  · rw [if_neg h]
    by_cases e : q = k
    · rw [if_pos e, if_pos (by omega)]
    · rw [if_neg e, if_neg (by omega)]
      split
      · rfl
      · rfl

set_option maxRecDepth 100000 in
set_option maxHeartbeats 3200000 in
theorem refMul_ok (s t : Sh) (w : World) (hs : Rd w s) (ht : Rd w t) (ms : isM s = true) (mt : isM t = true) (hst : s.L 0 = t.G) :
    Calls Tryd.prog 88 #[.slice s.g s.G s.cap, .slice t.g t.G t.cap] w fun e w' => ∃ v B, e = .returned (.tuple #[v, .int .i64 0]) ∧ Gath w w' v (t.L 0) s.G B (fun r k => prodTo s.M t.M t.G r k) := by
  obtain ⟨a1, a2, a3, a4, a5⟩ := isM_true ms
  obtain ⟨b1, b2, b3, b4, b5⟩ := isM_true mt
  have HS : Hid (Calls _ _ _ w _) := refIs_any s w hs
  have HT : Hid (Calls _ _ _ w _) := refIs_any t w ht
  rw [ms] at HS
  rw [mt] at HT
  have HG1 := hs.at0 (by omega)
  have HG2 := ht.at0 (by omega)
  rw [HG1] at HS ⊢
  rw [HG2] at HT ⊢
  have c1 := hs.hd 0 (by omega)
  have c2 := ht.hd 0 (by omega)
  simp only [Nat.add_zero] at c1 c2
  have hq : ((s.L 0 : Int) != (t.G : Int)) = false := by rw [hst]; exact bne_self_eq_false _
  have HB : Hid (∀ r, r < t.G → t.L r = t.L 0) := b5
  have HA : Hid (∀ r, r < s.G → s.L r = t.G) := fun r hr => (a5 r hr).trans hst
  obtain ⟨ti, hi0, hz0, hz1, hz2⟩ := info_parts info42
  have hmk := run_make_row' (P := Tryd.prog) 22 5 (.int .u8 0) 1 Tryd.underlying22 info5 rfl .i64 .i64 (t.L 0) (by omega) (by omega)
  clear ms mt hst HG1 HG2 a5 b5
  go_enter Tryd.func88, Tryd.ntmps88
  go_wp2_with fail
  refine HS.out.mono ?_
  rintro e w' ⟨rfl, hw⟩
  obtain rfl := hw.symm
  go_wp2_with fail
  refine HT.out.mono ?_
  rintro e w' ⟨rfl, hw⟩
  obtain rfl := hw.symm
  go_wp2
  clear HS HT c1 hq
  go_loopg [6, 32] s.G (fun gk v i wr => ∃ (r : Nat) (B : Nat → Nat), r ≤ s.G ∧ gk = s.G - r ∧ i = .int .i64 r ∧ Gath w wr v (t.L 0) r B (fun r k => prodTo s.M t.M t.G r k))
  case atStart => exact ⟨0, _, Nat.zero_le _, rfl, rfl, Gath.start w _ _⟩
  case round =>
    obtain ⟨r, B, hr, rfl, rfl, hGa⟩ := hrel
    obtain ⟨wr0, rfl⟩ : ∃ x, x = wr := ⟨_, rfl⟩
    by_cases hlt : (r : Int) < (s.G : Int)
    · have e1 := hGa.kept.cellv (hs.hd r (by omega)) id
      rw [HA.out r (by omega), hs.to r (by omega) 0 (by rw [HA.out r (by omega)]; omega)] at e1
      have e2 := hGa.kept.cellv c2 id
      have hwr := hGa.kept.size
      have hnew := World.rowIs_made wr0 (.int .u8 0) (t.L 0) 5
      go_wp2
      go_loopg [43] (t.L 0) (fun gk i wq => ∃ k : Nat, k ≤ t.L 0 ∧ gk = t.L 0 - k ∧ i = .int .i64 k ∧ Kp (fun _ => False) wr0 wq ∧ wq.heap.size = wr0.heap.size + 1 ∧ wq.rowIs wr0.heap.size 5 (t.L 0) (By (rowAt s.M t.M t.G r k 0)))
      case atStart => exact ⟨0, Nat.zero_le _, rfl, rfl, (Kp.refl _ _).alloc _, by simp, by rw [rowAt_start]; exact hnew⟩
      case round =>
        obtain ⟨k, hk, rfl, rfl, hK, hz, hR⟩ := hrel
        clear hnew e1 e2
        by_cases hlk : (k : Int) < (t.L 0 : Int)
        · go_wp2
          go_loopg [48] t.G (fun gk i wz => ∃ j : Nat, j ≤ t.G ∧ gk = t.G - j ∧ i = .int .i64 j ∧ Kp (fun _ => False) wr0 wz ∧ wz.heap.size = wr0.heap.size + 1 ∧ wz.rowIs wr0.heap.size 5 (t.L 0) (By (rowAt s.M t.M t.G r k j)))
          case atStart => exact ⟨0, Nat.zero_le _, rfl, rfl, hK, hz, hR⟩
          case round =>
            obtain ⟨j, hj, rfl, rfl, hKj, hzj, hRj⟩ := hrel
            clear hK hz hR
            by_cases hlj : (j : Int) < (t.G : Int)
            · have f1 := hKj.cellv (hGa.kept.cellv (hs.cell r (by omega) j (by rw [HA.out r (by omega)]; omega)) id) id
              have f2 := hKj.cellv (hGa.kept.cellv (ht.hd j (by omega)) id) id
              rw [HB.out j (by omega), ht.to j (by omega) 0 (by rw [HB.out j (by omega)]; omega)] at f2
              have f3 := hKj.cellv (hGa.kept.cellv (ht.cell j (by omega) k (by rw [HB.out j (by omega)]; omega)) id) id
              have f4 := hRj.cell (i := k) (by omega)
              have f5 := hRj.frozen k
              simp only [By] at f4
              rw [rowAt_here] at f4
              have l1 := hs.byte r j
              have l2 := ht.byte j k
              have l3 := prodTo_lt s.M t.M j r k
              have l4 := Gf.mul_lt (s.M r j) (t.M j k)
              have hx := u8_xor_cast (prodTo s.M t.M j r k) (Gf.mul (s.M r j) (t.M j k)) (by omega) (by omega)
              have HR2 : Hid ((wr.setCell ⟨wr0.heap.size, k, none⟩ (.int .u8 ((prodTo s.M t.M j r k ^^^ Gf.mul (s.M r j) (t.M j k) : Nat) : Int))).rowIs wr0.heap.size 5 (t.L 0) (By (rowAt s.M t.M t.G r k (j + 1)))) := (hRj.set k _).congr (fun q _ => by
                simp only [By]
                rw [← rowAt_step, Gf.mul_comm (t.M j k) (s.M r j) l2 l1]
                split <;> rfl)
              go_wp2
              refine wp_region_still_tail 16 mixed (by kernel_rfl) ?_
              simp only [List.take_succ_cons, List.take_zero, List.drop_succ_cons, List.drop_zero]
              repeat still_step
              still_call (rmul_nat (s.M r j) (t.M j k) _ (by omega) (by omega))
              repeat still_step
              refine wpStill_nil ?_
              go_wp2
              go_roundg (t.G - (j + 1))
              case rel => exact ⟨j + 1, by omega, rfl, by go_num, (hKj.setCell (a := ⟨wr0.heap.size, k, none⟩) (fun h => absurd h (Nat.lt_irrefl _)) _).drew, by simpa using hzj, HR2.out⟩
              case measure => omega
            · have e : j = t.G := by omega
              have HR2 : Hid (wr.rowIs wr0.heap.size 5 (t.L 0) (By (rowAt s.M t.M t.G r (k + 1) 0))) := hRj.congr (fun q _ => by simp only [By]; rw [e, rowAt_next])
              clear e hRj
              go_wp2
              go_roundg (t.L 0 - (k + 1))
              case rel => exact ⟨k + 1, by omega, rfl, by go_num, hKj, hzj, HR2.out⟩
              case measure => omega
        · have e : k = t.L 0 := by omega
          have hrowk : wr.rowIs wr0.heap.size 5 (t.L 0) (By (fun q => prodTo s.M t.M t.G r q)) := hR.congr (fun q hq => by simp only [By, rowAt]; rw [if_pos (by omega)])
          have HZ : Hid (wr.heap.size = wr0.heap.size + 1) := hz
          clear hz e hR
          go_wp2_with (at_builtin; go_must (refine wpList_append_own_at _ rfl _ _ 27 rfl w.heap.size 22 ti (.slice none 0 0) 1 24 Tryd.underlying27 hi0 hz0 hz1 hz2 rfl (by decide) _ _ _ rfl ((ownsRow_keep hGa.own hK).alloc _) ⟨wr.heap.size, 0, none⟩ 1 1 [.slice (some ⟨wr0.heap.size, 0, none⟩) (t.L 0) (t.L 0)] rfl rfl (cell_one_new _ _ _) (fun x hx => by simp at hx; subst hx; rfl) (by unfold maxLen; omega) (by omega) (by simp; have := HZ.out; omega) ?_); intro v' w3 hown' hgrow3 hnil3 hblk3)
          go_roundg (s.G - (r + 1))
          case rel => exact ⟨r + 1, _, by omega, rfl, by go_num, hGa.step hK hrowk hown' hgrow3 hblk3⟩
          case measure => omega
    · have e : r = s.G := by omega
      clear hs ht HA HB c2
      go_wp2
      go_ret2
      subst e
      exact ⟨_, rfl, B, hGa⟩
end Go.Proofs.YtmncocmeafcpfaaDoor.Mf

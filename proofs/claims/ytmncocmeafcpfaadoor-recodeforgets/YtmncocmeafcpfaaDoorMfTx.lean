/- The walks of bytes.Clone and of the verifier's Texts. -/
import Derived.Test.YtmncocmeafcpfaaDoorMfR4
import Derived.Test.YtmncocmeafcpfaaDoorMfM14
import Derived.Maps.AppendAt
namespace Go.Proofs.YtmncocmeafcpfaaDoor.Mf
open Go.RowKit Go.Deep

set_option maxRecDepth 100000 in
theorem bytes_not_nil (p : Addr) (n c : Nat) (w : World) : (binOp .eql 22 (.slice (some p) n c) (.slice none 0 0)).run Tryd.prog w = .ok (.bool false) w := by rfl
set_option maxRecDepth 100000 in
theorem bytes_nil (n c : Nat) (w : World) : (binOp .eql 22 (.slice none n c) (.slice none 0 0)).run Tryd.prog w = .ok (.bool true) w := by rfl
theorem empty_own (w : World) : (w.alloc (.cells #[] 5)).ownsRow w.heap.size 5 1 (.slice (some ⟨w.heap.size, 0, none⟩) 0 0) 0 [] := by
  obtain ⟨c0, hc1, hc2, _⟩ := World.rowIs_alloc w #[] 5 (fun _ => .nilFunc) (fun i hi => by simp at hi)
  refine ⟨rfl, Or.inr ⟨w.heap.size, 0, c0, rfl, Nat.le_refl _, hc1, Nat.le_refl _, by unfold maxLen; omega, by simpa using hc2, by simp⟩⟩

set_option maxRecDepth 100000 in
set_option maxHeartbeats 800000 in
theorem clone_some (p : Addr) (n c : Nat) (f : Nat → Nat) (w : World) (hc : ∀ k, k < n → w.cell? (p.add k) = some (.int .u8 ((f k : Nat) : Int))) (hn : Hid (n ≤ 140737488355328)) :
    Calls Tryd.prog 17 #[.slice (some p) n c] w fun e w' => ∃ v, e = .returned v ∧ Kp (fun _ => False) w w' ∧ w'.ownsRow w.heap.size 5 1 v n (vals f n) := by
  obtain ⟨ti, hi0, hz0, hz1, hz2⟩ := info_parts info5
  have hnn := bytes_not_nil p n c
  have HC : Hid (∀ j u, (vals f n)[j]? = some u → (w.alloc (.cells #[] 5)).cell? (p.add j) = some u) := fun j u hj => by
    obtain ⟨hj', rfl⟩ := vals_get hj
    exact ((Kp.refl (fun _ => False) w).alloc _).cellv (hc j hj') id
  clear hc
  go_enter Tryd.func17, Tryd.ntmps17
  go_wp2_with (at_builtin; go_must (refine wpList_append_own_at _ rfl _ _ 22 rfl w.heap.size 5 ti (.int .u8 0) 1 1 Tryd.underlying22 hi0 hz0 hz1 hz2 rfl (by decide) _ _ _ rfl (empty_own w) p n c (vals f n) rfl (by simp [vals_length]) HC.out (vals_one f n) (by have := hn.out; unfold maxLen; omega) (by have := hn.out; omega) (by simp) ?_); intro v' w3 hown' hgrow3 hnil3 hblk3)
  go_ret
  refine ⟨_, rfl, Kp.trans ((Kp.refl _ _).alloc _) (grownBy_kp hgrow3) (fun b hb e => ?_), by simpa using hown'⟩
  have e' : some w.heap.size = some b := e
  have := Option.some.inj e'
  omega

set_option maxRecDepth 100000 in
set_option maxHeartbeats 800000 in
theorem clone_none (c : Nat) (w : World) : Calls Tryd.prog 17 #[.slice none 0 c] w fun e w' => e = .returned (.slice none 0 0) ∧ w' = w := by
  have hnn := bytes_nil 0 c
  go_enter Tryd.func17, Tryd.ntmps17
  go_wp2
  go_ret
  exact ⟨rfl, rfl⟩

/-- a row of n bytes that the call owns: nothing, or a block of its own -/
theorem own_row {w : World} {base n : Nat} {v : Value} {f : Nat → Nat} (h : w.ownsRow base 5 1 v n (vals f n)) : ∃ p c b, v = .slice p n c ∧ (0 < n → p = some ⟨b, 0, none⟩ ∧ base ≤ b ∧ n ≤ c ∧ RowB w b c n f) := by
  rcases h.2 with ⟨rfl, h0⟩ | ⟨g, cap, cur, rfl, hb, hh, hn, _, hcs, htk⟩
  · exact ⟨none, 0, 0, by rw [h0], fun hx => by omega⟩
  · refine ⟨_, cap, g, rfl, fun _ => ⟨rfl, hb, hn, fun j => cur.getD j (.int .u8 0), ⟨cur, hh, by omega, fun i hi => ?_⟩, hn, fun j hj => ?_⟩⟩
    · show cur[i]? = some (cur.getD i (.int .u8 0))
      rw [Array.getD_eq_getD_getElem?, Array.getElem?_eq_getElem (by omega)]; rfl
    · have h1 : (cur.toList.take (n * 1))[j]? = some (.int .u8 ((f j : Nat) : Int)) := by rw [htk]; exact vals_at f hj
      rw [List.getElem?_take_of_lt (by omega), Array.getElem?_toList] at h1
      show cur.getD j (.int .u8 0) = _
      rw [Array.getD_eq_getD_getElem?, h1]; rfl

/-- whatever the text: a copy that the call owns -/
theorem clone_own (s : Sh) (r c : Nat) (w : World) (hs : Rd w s) (hr : r < s.G) (hn : Hid (s.L r ≤ 140737488355328)) :
    Calls Tryd.prog 17 #[.slice (s.A r) (s.L r) c] w fun e w' => ∃ v, e = .returned v ∧ Kp (fun _ => False) w w' ∧ w'.ownsRow w.heap.size 5 1 v (s.L r) (vals (s.M r) (s.L r)) := by
  cases hA : s.A r with
  | none =>
    have h0 : s.L r = 0 := by
      rcases Nat.eq_zero_or_pos (s.L r) with h | h
      · exact h
      · have := hs.to r hr 0 h; rw [hA] at this; simp at this
    rw [h0]
    refine (clone_none c w).mono ?_
    rintro e w' ⟨rfl, rfl⟩
    exact ⟨_, rfl, Kp.refl _ _, World.ownsRow_nil _ _ _ _⟩
  | some p =>
    refine clone_some p (s.L r) c (s.M r) w (fun k hk => ?_) hn
    have e := hs.to r hr k hk
    rw [hA] at e
    obtain rfl := Option.some.inj e
    rw [addr_add]
    exact hs.cell r hr k hk

/-- whatever the text: a copy in memory of its own -/
theorem clone_any (s : Sh) (r c : Nat) (w : World) (hs : Rd w s) (hr : r < s.G) (hn : Hid (s.L r ≤ 140737488355328)) :
    Calls Tryd.prog 17 #[.slice (s.A r) (s.L r) c] w fun e w' => ∃ p c' b, e = .returned (.slice p (s.L r) c') ∧ Kp (fun _ => False) w w' ∧ (0 < s.L r → p = some ⟨b, 0, none⟩ ∧ w.heap.size ≤ b ∧ s.L r ≤ c' ∧ RowB w' b c' (s.L r) (s.M r)) := by
  cases hA : s.A r with
  | none =>
    have h0 : s.L r = 0 := by
      rcases Nat.eq_zero_or_pos (s.L r) with h | h
      · exact h
      · have := hs.to r hr 0 h; rw [hA] at this; simp at this
    rw [h0]
    refine (clone_none c w).mono ?_
    rintro e w' ⟨rfl, rfl⟩
    exact ⟨_, _, 0, rfl, Kp.refl _ _, fun h => by omega⟩
  | some p =>
    refine (clone_some p (s.L r) c (s.M r) w (fun k hk => ?_) hn).mono ?_
    · have e := hs.to r hr k hk
      rw [hA] at e
      obtain rfl := Option.some.inj e
      rw [addr_add]
      exact hs.cell r hr k hk
    · rintro e w' ⟨v, rfl, k, ho⟩
      obtain ⟨p', c', b, rfl, h⟩ := own_row ho
      exact ⟨p', c', b, rfl, k, h⟩

/-- headers of whatever rows -/
def hdrs3 (A : Nat → Option Addr) (L C : Nat → Nat) (r : Nat) : List Value := (List.range r).map fun j => .slice (A j) (L j) (C j)
theorem hdrs3_succ (A : Nat → Option Addr) (L C : Nat → Nat) (r : Nat) (p : Option Addr) (c : Nat) : hdrs3 (fun j => if j = r then p else A j) L (fun j => if j = r then c else C j) (r + 1) = hdrs3 A L C r ++ [.slice p (L r) c] := by
  unfold hdrs3
  rw [List.range_succ, List.map_append]
  congr 1
  · refine List.map_congr_left (fun j hj => ?_)
    have hj' := List.mem_range.1 hj
    simp only []
    rw [if_neg (by omega), if_neg (by omega)]
  · simp
theorem hdrs3_at (A : Nat → Option Addr) (L C : Nat → Nat) {r j : Nat} (h : j < r) : (hdrs3 A L C r)[j]? = some (.slice (A j) (L j) (C j)) := by
  unfold hdrs3
  rw [List.getElem?_map, List.getElem?_range h]; rfl

/-- copies of the first k texts, gathered -/
structure TxA (w wr : World) (s : Sh) (v : Value) (k : Nat) (A : Nat → Option Addr) (C RB : Nat → Nat) : Prop where
  kept : Kp (fun _ => False) w wr
  own : wr.ownsRow w.heap.size 22 1 v k (hdrs3 A s.L C k)
  row : ∀ j, j < k → 0 < s.L j → A j = some ⟨RB j, 0, none⟩ ∧ w.heap.size ≤ RB j ∧ s.L j ≤ C j ∧ RowB wr (RB j) (C j) (s.L j) (s.M j)
  inj : ∀ i j, i < k → j < k → 0 < s.L i → 0 < s.L j → RB i = RB j → i = j
  ne : ∀ j, j < k → 0 < s.L j → v.ownBlock ≠ some (RB j)
theorem TxA.start (w : World) (s : Sh) : TxA w w s (.slice none 0 0) 0 (fun _ => none) (fun _ => 0) (fun _ => 0) :=
  ⟨Kp.refl _ _, World.ownsRow_nil _ _ _ _, fun _ h => absurd h (Nat.not_lt_zero _), fun _ _ h => absurd h (Nat.not_lt_zero _), fun _ h => absurd h (Nat.not_lt_zero _)⟩
theorem TxA.step {w wr wq wn : World} {s : Sh} {v v' : Value} {k : Nat} {A : Nat → Option Addr} {C RB : Nat → Nat} {o : Obj} {p : Option Addr} {c b : Nat} (h : TxA w wr s v k A C RB) (kk : Kp (fun _ => False) wr wq)
    (hrow : 0 < s.L k → p = some ⟨b, 0, none⟩ ∧ wr.heap.size ≤ b ∧ s.L k ≤ c ∧ RowB wq b c (s.L k) (s.M k))
    (hown : wn.ownsRow w.heap.size 22 1 v' (k + 1) (hdrs3 A s.L C k ++ [.slice p (s.L k) c])) (hg : (wq.alloc o).grownBy wn v.ownBlock)
    (hv : v'.ownBlock = v.ownBlock ∨ v'.ownBlock = some (wq.alloc o).heap.size) : TxA w wn s v' (k + 1) (fun j => if j = k then p else A j) (fun j => if j = k then c else C j) (fun j => if j = k then b else RB j) := by
  have hsz : (wq.alloc o).heap.size = wq.heap.size + 1 := by simp
  have hwr := h.kept.size
  have hqs := kk.size
  refine ⟨?_, by rw [hdrs3_succ]; exact hown, fun j hj hL => ?_, fun i j hi hj h1 h2 e => ?_, fun j hj hL => ?_⟩
  · refine Kp.trans (h.kept.trans (kk.alloc o) (fun _ _ e => e.elim)) (grownBy_kp hg) (fun b hb e => ?_)
    have := ownBlock_lt h.own e
    omega
  · by_cases e : j = k
    · subst e
      simp only [if_true]
      obtain ⟨h1, h2, h3, h4⟩ := hrow hL
      exact ⟨h1, by omega, h3, (h4.alloc o).keep (grownBy_kp hg) (fun e => by have := ownBlock_lt h.own e; omega)⟩
    · simp only [if_neg e]
      obtain ⟨h1, h2, h3, h4⟩ := h.row j (by omega) hL
      exact ⟨h1, h2, h3, ((h4.keep kk id).alloc o).keep (grownBy_kp hg) (h.ne j (by omega) hL)⟩
  · by_cases e1 : i = k <;> by_cases e2 : j = k
    · omega
    · simp only [if_pos e1, if_neg e2] at e
      have := (h.row j (by omega) h2).2.2.2.lt
      have := (hrow (by rw [← e1]; exact h1)).2.1
      omega
    · simp only [if_neg e1, if_pos e2] at e
      have := (h.row i (by omega) h1).2.2.2.lt
      have := (hrow (by rw [← e2]; exact h2)).2.1
      omega
    · simp only [if_neg e1, if_neg e2] at e
      exact h.inj i j (by omega) (by omega) h1 h2 e
  · intro e
    by_cases e1 : j = k
    · subst e1
      simp only [if_true] at e
      obtain ⟨_, h2, _, h4⟩ := hrow hL
      have hl := h4.lt
      rcases hv with hv | hv
      · rw [hv] at e; have := ownBlock_lt h.own e; omega
      · rw [hv] at e; have := Option.some.inj e; omega
    · simp only [if_neg e1] at e
      rcases hv with hv | hv
      · rw [hv] at e; exact h.ne j (by omega) hL e
      · rw [hv] at e
        have := Option.some.inj e
        have := (h.row j (by omega) hL).2.2.2.lt
        omega

/-- texts in memory of their own, newer than w's: they may be written -/
structure Own (w w' : World) (s : Sh) : Prop where
  rd : Rd w' s
  lc : ∀ r, r < s.G → 0 < s.L r → s.L r ≤ s.C r
  cap : s.G ≤ s.cap
  off : s.go = 0
  top : 0 < s.G → w.heap.size ≤ s.gb
  row : ∀ j, j < s.G → 0 < s.L j → s.RO j = 0 ∧ w.heap.size ≤ s.RB j ∧ RowB w' (s.RB j) (s.C j) (s.L j) (s.M j)
  inj : ∀ i j, i < s.G → j < s.G → 0 < s.L i → 0 < s.L j → s.RB i = s.RB j → i = j
  ne : ∀ j, j < s.G → 0 < s.L j → s.RB j ≠ s.gb
theorem TxA.done {w wr : World} {s : Sh} {v : Value} {A : Nat → Option Addr} {C RB : Nat → Nat} (h : TxA w wr s v s.G A C RB) (hb : ∀ r c, s.M r c < 256) : ∃ g cap gb, v = .slice g s.G cap ∧ Own w wr ⟨g, s.G, cap, gb, 0, A, s.L, C, RB, fun _ => 0, s.M⟩ := by
  have key : ∀ g cap gb, (0 < s.G → g = some ⟨gb, 0, none⟩ ∧ w.heap.size ≤ gb) → s.G ≤ cap → (∀ r, r < s.G → wr.cell? ⟨gb, r, none⟩ = some (.slice (A r) (s.L r) (C r))) → (∀ j, j < s.G → 0 < s.L j → RB j ≠ gb) → Own w wr ⟨g, s.G, cap, gb, 0, A, s.L, C, RB, fun _ => 0, s.M⟩ := fun g cap gb h1 h2 h3 h4 =>
    ⟨⟨fun h0 => (h1 h0).1, fun r hr => by have := h3 r hr; simpa using this, fun r hr c hc => (h.row r hr (by simp only at hc; omega)).1, fun r hr c hc => by
      have := (h.row r hr (by simp only at hc; omega)).2.2.2.cell hc; simpa using this, hb⟩, fun r hr hL => (h.row r hr hL).2.2.1, h2, rfl, fun h0 => (h1 h0).2, fun j hj hL => ⟨rfl, (h.row j hj hL).2.1, (h.row j hj hL).2.2.2⟩, h.inj, h4⟩
  rcases h.own.2 with ⟨rfl, h0⟩ | ⟨g, cap, cur, rfl, hbb, hh, hn, _, hcs, htk⟩
  · exact ⟨none, 0, 0, by rw [h0], key none 0 0 (fun hx => by omega) (by omega) (fun r hr => by omega) (fun j hj => by omega)⟩
  · refine ⟨some ⟨g, 0, none⟩, cap, g, rfl, key _ cap g (fun _ => ⟨rfl, hbb⟩) hn (fun i hi => ?_) (fun j hj hL e => h.ne j hj hL (by simp [Value.ownBlock, e]))⟩
    have h1 : (cur.toList.take (s.G * 1))[i]? = some (.slice (A i) (s.L i) (C i)) := by rw [htk]; exact hdrs3_at A s.L C hi
    rw [List.getElem?_take_of_lt (by omega), Array.getElem?_toList] at h1
    simp [World.cell?, hh, h1]

end Go.Proofs.YtmncocmeafcpfaaDoor.Mf

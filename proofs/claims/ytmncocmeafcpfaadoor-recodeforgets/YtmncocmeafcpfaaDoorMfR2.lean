/- The walks of reed.Can and reed.look. -/
import Derived.Test.YtmncocmeafcpfaaDoorMfM7
import Derived.Maps.AppendAt
import Derived.Test.YtmncocmeafcpfaaDoorMfM8
namespace Go.Proofs.YtmncocmeafcpfaaDoor.Mf
open Go.RowKit Go.Deep

set_option maxRecDepth 100000 in
set_option maxHeartbeats 800000 in
theorem can_yes (K M : Int) (w : World) (h1 : 1 ≤ K) (h2 : 0 ≤ M) (h3 : M ≤ 255 - K) :
    Calls Tryd.prog 112 #[.agg #[.int .i64 K, .int .i64 M]] w fun e w' => e = .returned (.bool true) ∧ Kp (fun _ => False) w w' := by
  have d1 : decide (1 ≤ K) = true := by simp; omega
  have d2 : decide (0 ≤ M) = true := by simp; omega
  have d3 : decide (M ≤ 255 - K) = true := by simp; omega
  go_enter Tryd.func112, Tryd.ntmps112
  go_wp2
  go_ret
  exact ⟨rfl, (Kp.refl _ _).alloc _⟩

set_option maxRecDepth 100000 in
set_option maxHeartbeats 800000 in
theorem can_no (K M : Int) (w : World) (hw : 1 ≤ K → wrap64 (255 - K) = 255 - K) (h : ¬ (1 ≤ K ∧ 0 ≤ M ∧ M ≤ 255 - K)) :
    Calls Tryd.prog 112 #[.agg #[.int .i64 K, .int .i64 M]] w fun e w' => e = .returned (.bool false) ∧ Kp (fun _ => False) w w' := by
  by_cases h1 : 1 ≤ K
  · have hw' := hw h1
    clear hw
    have d1 : decide (1 ≤ K) = true := by simp; omega
    by_cases h2 : 0 ≤ M
    · have d2 : decide (0 ≤ M) = true := by simp; omega
      have h3 : ¬ M ≤ 255 - K := by omega
      have d3 : decide (M ≤ 255 - K) = false := by simp; omega
      clear h
      go_enter Tryd.func112, Tryd.ntmps112
      go_wp2
      go_ret
      exact ⟨rfl, (Kp.refl _ _).alloc _⟩
    · have d2 : decide (0 ≤ M) = false := by simp; omega
      clear h
      go_enter Tryd.func112, Tryd.ntmps112
      go_wp2
      go_ret
      exact ⟨rfl, (Kp.refl _ _).alloc _⟩
  · have d1 : decide (1 ≤ K) = false := by simp; omega
    clear h hw
    go_enter Tryd.func112, Tryd.ntmps112
    go_wp2
    go_ret
    exact ⟨rfl, (Kp.refl _ _).alloc _⟩

theorem infoInt : (Tryd.prog.info? 3).map (fun i => (i.zero, i.size, i.bytes)) = some (some (.int .i64 0), 1, 8) := by kernel_rfl
/-- numbers, as values -/
def numsL (xs : List Nat) : List Value := xs.map fun j => .int .i64 ((j : Nat) : Int)
theorem numsL_length (xs : List Nat) : (numsL xs).length = xs.length := by simp [numsL]
/-- which shards are there, of the first k -/
def thereTo (L : Nat → Nat) (k : Nat) : List Nat := (List.range k).filter fun r => decide (0 < L r)
theorem thereTo_succ (L : Nat → Nat) (k : Nat) : thereTo L (k + 1) = if 0 < L k then thereTo L k ++ [k] else thereTo L k := by
  unfold thereTo
  rw [List.range_succ, List.filter_append]
  by_cases h : 0 < L k
  · rw [if_pos h]; simp [h]
  · rw [if_neg h]; simp [h]
theorem thereTo_le (L : Nat → Nat) (k : Nat) : (thereTo L k).length ≤ k := by
  have := List.length_filter_le (fun r => decide (0 < L r)) (List.range k)
  unfold thereTo; simpa using this
theorem thereTo_mem {L : Nat → Nat} {k r : Nat} : r ∈ thereTo L k ↔ r < k ∧ 0 < L r := by unfold thereTo; simp
/-- numbers of the program's own, gathered -/
structure Sel (w wr : World) (v : Value) (xs : List Nat) : Prop where
  kept : Kp (fun _ => False) w wr
  form : ∃ ao cv, v = .slice ao xs.length cv
  own : wr.ownsRow w.heap.size 3 1 v xs.length (numsL xs)
theorem sel_own_value {w : World} {base m : Nat} {v : Value} {xs : List Value} (h : w.ownsRow base 3 1 v (m + 1) xs) : ∃ ao cv, v = .slice ao (m + 1) cv := by
  rcases h.2 with ⟨_, h0⟩ | ⟨g, cap, cur, rfl, _⟩
  · omega
  · exact ⟨_, _, rfl⟩
theorem Sel.start (w : World) : Sel w w (.slice none 0 0) [] := ⟨Kp.refl _ _, ⟨none, 0, rfl⟩, World.ownsRow_nil _ _ _ _⟩
theorem Sel.ls {w wr : World} {v : Value} {xs : List Nat} (h : Sel w wr v xs) : ∃ pa ba cv, v = .slice pa xs.length cv ∧ (xs ≠ [] → pa = some ⟨ba, 0, none⟩ ∧ w.heap.size ≤ ba ∧ ba < wr.heap.size ∧ xs.length ≤ cv) ∧ ∀ k, k < xs.length → wr.cell? ⟨ba, 0 + k, none⟩ = some (.int .i64 ((xs.getD k 0 : Nat) : Int)) := by
  rcases h.own.2 with ⟨rfl, h0⟩ | ⟨g, cap, cur, rfl, hb, hh, hn, _, hcs, htk⟩
  · exact ⟨none, 0, 0, by rw [h0], fun hx => absurd (List.length_eq_zero_iff.1 h0) hx, fun k hk => by omega⟩
  · refine ⟨some ⟨g, 0, none⟩, g, cap, rfl, fun _ => ⟨rfl, hb, (Array.getElem?_eq_some_iff.1 hh).1, by omega⟩, fun i hi => ?_⟩
    have h1 : (cur.toList.take (xs.length * 1))[i]? = some (.int .i64 ((xs.getD i 0 : Nat) : Int)) := by
      rw [htk]; unfold numsL
      rw [List.getElem?_map, List.getElem?_eq_getElem hi]
      simp [hi]
    rw [List.getElem?_take_of_lt (by omega), Array.getElem?_toList] at h1
    simp [World.cell?, hh, h1]
theorem Sel.keep {w wr w2 : World} {v : Value} {xs : List Nat} (h : Sel w wr v xs) (k : Kp (fun _ => False) wr w2) : Sel w w2 v xs := ⟨h.kept.trans k (fun _ _ e => e), h.form, ownsRow_keep h.own k⟩

set_option maxRecDepth 100000 in
set_option maxHeartbeats 1600000 in
theorem lookStep1_any (w0 : World) (xs : List Nat) (v : Value) (src : Option Addr) (L c k : Nat) (w : World) (h : Sel w0 w v xs) (hx : (xs.length : Int) ≤ 1000) :
    Calls Tryd.prog 131 #[v, .int .i64 k, .slice src L c] w fun e w' => ∃ v', e = .returned v' ∧ Sel w0 w' v' (if 0 < L then xs ++ [k] else xs) := by
  obtain ⟨ti, hi0, hz0, hz1, hz2⟩ := info_parts infoInt
  obtain ⟨ao, cv, rfl⟩ := h.form
  have hO := h.own
  have hsz := h.kept.size
  by_cases hL : 0 < L
  · rw [if_pos hL]
    have d1 : decide (0 < (L : Int)) = true := by simp; omega
    have hL' : 0 < (L : Int) := by omega
    have HK : Hid (Kp (fun _ => False) w0 w) := h.kept
    clear h
    go_enter Tryd.func131, Tryd.ntmps131
    go_wp2_with (at_builtin; go_must (refine wpList_append_own_at _ rfl _ _ 23 rfl w0.heap.size 3 ti (.int .i64 0) 1 8 Tryd.underlying23 hi0 hz0 hz1 hz2 rfl (by decide) _ _ _ rfl (hO.alloc _) ⟨w.heap.size, 0, none⟩ 1 1 [.int .i64 ((k : Nat) : Int)] rfl rfl (cell_one_new _ _ _) (fun x hx => by simp at hx; subst hx; rfl) (by unfold maxLen; omega) (by omega) (by simp; omega) ?_); intro v' w3 hown' hgrow3 hnil3 hblk3)
    go_ret
    refine ⟨_, rfl, Kp.trans (HK.out.alloc _) (grownBy_kp hgrow3) (fun b hb e => by have := ownBlock_lt hO e; omega), ?_, ?_⟩
    · rw [List.length_append]; exact sel_own_value hown'
    · rw [List.length_append]
      unfold numsL at hown' ⊢
      rw [List.map_append]; exact hown'
  · rw [if_neg hL]
    have d1 : decide (0 < (L : Int)) = false := by simp; omega
    have hL' : ¬ 0 < (L : Int) := by omega
    go_enter Tryd.func131, Tryd.ntmps131
    go_wp2
    go_ret
    exact ⟨_, rfl, h⟩

set_option maxRecDepth 100000 in
set_option maxHeartbeats 1600000 in
theorem throughThere_any (s : Sh) (w : World) (hs : Rd w s) (hG : (s.G : Int) ≤ 1000) (h0 : 1 ≤ (s.G : Int)) :
    Calls Tryd.prog 130 #[.slice s.g s.G s.cap, .slice none 0 0, .func (.func 131) #[] #[]] w fun e w' => ∃ v, e = .returned v ∧ Sel w w' v (thereTo s.L s.G) := by
  rw [hs.at0 (by omega)]
  go_enter Tryd.func130, Tryd.ntmps130
  go_wp2
  go_loopg [1, 11] s.G (fun gk v i wr => ∃ k : Nat, k ≤ s.G ∧ gk = s.G - k ∧ i = .int .i64 k ∧ Sel w wr v (thereTo s.L k))
  case atStart => exact ⟨0, Nat.zero_le _, rfl, rfl, Sel.start w⟩
  case round =>
    obtain ⟨k, hk, rfl, rfl, hS⟩ := hrel
    by_cases hlt : (k : Int) < (s.G : Int)
    · have e1 := hS.kept.cellv (hs.hd k (by omega)) id
      have hle := thereTo_le s.L k
      have HM : Hid (∀ v, Sel w wr v (thereTo s.L k) → ∀ p c, Calls _ _ #[v, _, .slice p _ c] wr _) := fun v hv p c => lookStep1_any w (thereTo s.L k) v p (s.L k) c k wr hv (by omega)
      go_wp2_with fail
      refine (HM.out _ hS _ _).mono ?_
      rintro e w1 ⟨v', rfl, hS1⟩
      rw [← thereTo_succ] at hS1
      clear HM e1
      go_wp2
      go_roundg (s.G - (k + 1))
      case rel => exact ⟨k + 1, by omega, rfl, by go_num, hS1⟩
      case measure => omega
    · have e : k = s.G := by omega
      clear hs
      go_wp2
      go_ret
      subst e
      exact ⟨_, rfl, hS⟩

/-- the length that all must have: the first one's that is there -/
def len0 (L : Nat → Nat) (n : Nat) : Nat := L ((thereTo L n).headD 0)
def alikeTo (L : Nat → Nat) (n k : Nat) : Bool := decide (∀ r, r < k → L r = 0 ∨ L r = len0 L n)
theorem alikeTo_succ (L : Nat → Nat) (n k : Nat) : alikeTo L n (k + 1) = (alikeTo L n k && decide (L k = 0 ∨ L k = len0 L n)) := by
  unfold alikeTo
  rw [Bool.eq_iff_iff]
  simp only [decide_eq_true_eq, Bool.and_eq_true]
  constructor
  · intro h; exact ⟨fun r hr => h r (by omega), h k (by omega)⟩
  · intro h r hr
    by_cases e : r = k
    · rw [e]; exact h.2
    · exact h.1 r (by omega)

set_option maxRecDepth 100000 in
set_option maxHeartbeats 1600000 in
theorem lookStep2_any (s : Sh) (sb tb : Nat) (pa : Option Addr) (ba cv : Nat) (xs : List Nat) (told : Bool) (src : Option Addr) (L c k : Nat) (w : World) (hs : Rd w s)
    (h1 : w.cell? ⟨sb, 0, none⟩ = some (.slice s.g s.G s.cap)) (h2 : w.cell? ⟨tb, 0, none⟩ = some (.slice pa xs.length cv)) (hx : 0 < L → xs ≠ [])
    (h3 : xs ≠ [] → pa = some ⟨ba, 0, none⟩) (h4 : ∀ j, j < xs.length → w.cell? ⟨ba, 0 + j, none⟩ = some (.int .i64 ((xs.getD j 0 : Nat) : Int))) (h5 : ∀ r, r ∈ xs → r < s.G) :
    Calls Tryd.prog 133 #[.bool told, .int .i64 k, .slice src L c, .pointer (some ⟨sb, 0, none⟩), .pointer (some ⟨tb, 0, none⟩)] w fun e w' =>
      e = .returned (.bool (told && decide (L = 0 ∨ L = s.L (xs.headD 0)))) ∧ ∃ n, w' = w.drewN n := by
  cases told with
  | false =>
    simp only [Bool.false_and]
    clear h4 h3 h5 hs
    go_enter Tryd.func133, Tryd.ntmps133
    go_wp2
    go_quiet (fail)
    all_goals go_wp2
    all_goals go_ret
    all_goals exact ⟨rfl, _, rfl⟩
  | true =>
    simp only [Bool.true_and]
    by_cases hL : L = 0
    · subst hL
      have HD : Hid (decide (0 = 0 ∨ 0 = s.L (xs.headD 0)) = true) := by show _ = _; simp
      clear h4 h3 h5 hs hx
      go_enter Tryd.func133, Tryd.ntmps133
      go_wp2
      go_quiet (fail)
      all_goals go_wp2
      all_goals go_ret
      all_goals exact ⟨by rw [HD.out]; rfl, _, rfl⟩
    · have hxs := hx (by omega)
      obtain ⟨x, t, rfl⟩ := List.exists_cons_of_ne_nil hxs
      obtain rfl := h3 hxs
      have c1 := h4 0 (by simp)
      simp only [List.getD_cons_zero, Nat.add_zero] at c1
      have hxG : x < s.G := h5 x (by simp)
      have c2 := hs.hd x hxG
      have hg := hs.at0 (by omega)
      rw [hg] at h1
      have d0 : ((L : Int) == 0) = false := beq_eq_false_iff_ne.2 (by omega)
      have i1 : (0 : Int) < ((x :: t).length : Int) := by simp
      generalize (x :: t).length = len at h2 i1
      by_cases hq : L = s.L x
      · have d1 : ((L : Int) == (s.L x : Int)) = true := by rw [hq]; exact beq_self_eq_true _
        have HD : Hid (decide (L = 0 ∨ L = s.L ((x :: t).headD 0)) = true) := by show _ = _; simp [hq]
        clear h4 h3 h5 hs hx hq hL
        go_enter Tryd.func133, Tryd.ntmps133
        go_wp2
        go_quiet (fail)
        all_goals go_wp2
        all_goals go_ret
        all_goals exact ⟨by rw [HD.out]; rfl, _, rfl⟩
      · have d1 : ((L : Int) == (s.L x : Int)) = false := beq_eq_false_iff_ne.2 (by omega)
        have HD : Hid (decide (L = 0 ∨ L = s.L ((x :: t).headD 0)) = false) := by show _ = _; simp [hq, hL]
        clear h4 h3 h5 hs hx hq hL
        go_enter Tryd.func133, Tryd.ntmps133
        go_wp2
        go_quiet (fail)
        all_goals go_wp2
        all_goals go_ret
        all_goals exact ⟨by rw [HD.out]; rfl, _, rfl⟩
set_option maxRecDepth 100000 in
set_option maxHeartbeats 1600000 in
theorem throughAlike_any (s : Sh) (sb tb : Nat) (pa : Option Addr) (ba cv : Nat) (w : World) (hs : Rd w s) (hG : (s.G : Int) ≤ 1000) (h0 : 1 ≤ (s.G : Int))
    (h1 : w.cell? ⟨sb, 0, none⟩ = some (.slice s.g s.G s.cap)) (h2 : w.cell? ⟨tb, 0, none⟩ = some (.slice pa (thereTo s.L s.G).length cv))
    (h3 : thereTo s.L s.G ≠ [] → pa = some ⟨ba, 0, none⟩) (h4 : ∀ j, j < (thereTo s.L s.G).length → w.cell? ⟨ba, 0 + j, none⟩ = some (.int .i64 (((thereTo s.L s.G).getD j 0 : Nat) : Int))) :
    Calls Tryd.prog 132 #[.slice s.g s.G s.cap, .bool true, .func (.func 133) #[] #[.pointer (some ⟨sb, 0, none⟩), .pointer (some ⟨tb, 0, none⟩)]] w fun e w' => e = .returned (.bool (alikeTo s.L s.G s.G)) ∧ ∃ n, w' = w.drewN n := by
  have HM : Hid (∀ k, k < s.G → ∀ m told p c, Calls _ _ #[.bool told, _, .slice p _ c, _, _] (w.drewN m) _) := fun k hk m told p c => lookStep2_any s sb tb pa ba cv (thereTo s.L s.G) told p (s.L k) c k (w.drewN m) ⟨hs.at0, hs.hd, hs.to, hs.cell, hs.byte⟩ h1 h2 (fun h e => by
    have : k ∈ thereTo s.L s.G := thereTo_mem.2 ⟨hk, h⟩
    rw [e] at this; simp at this) h3 h4 (fun r hr => (thereTo_mem.1 hr).1)
  clear h1 h2 h3 h4
  rw [hs.at0 (by omega)]
  go_enter Tryd.func132, Tryd.ntmps132
  go_wp2
  go_loopg [1, 11] s.G (fun gk v i wr => ∃ k m : Nat, k ≤ s.G ∧ gk = s.G - k ∧ v = .bool (alikeTo s.L s.G k) ∧ i = .int .i64 k ∧ wr = w.drewN m)
  case atStart => exact ⟨0, 0, Nat.zero_le _, rfl, by simp [alikeTo], rfl, rfl⟩
  case round =>
    obtain ⟨k, m, hk, rfl, rfl, rfl, rfl⟩ := hrel
    by_cases hlt : (k : Int) < (s.G : Int)
    · have e1 := hs.hd k (by omega)
      have e2 : (w.drewN m).cell? ⟨s.gb, s.go + k, none⟩ = _ := e1
      have HA : Hid (alikeTo s.L s.G (k + 1) = (alikeTo s.L s.G k && decide (s.L k = 0 ∨ s.L k = len0 s.L s.G))) := alikeTo_succ _ _ _
      generalize alikeTo s.L s.G k = told at HA
      go_wp2_with fail
      refine (HM.out k (by omega) m told _ _).mono ?_
      rintro e w1 ⟨rfl, m2, rfl⟩
      have HV : Hid (Value.bool (told && decide (s.L k = 0 ∨ s.L k = s.L ((thereTo s.L s.G).headD 0))) = .bool (alikeTo s.L s.G (k + 1))) := by rw [HA.out]; exact rfl
      rw [HV.out]
      clear HV HA e1 e2
      obtain ⟨nx, hnx⟩ : ∃ x, x = alikeTo s.L s.G (k + 1) := ⟨_, rfl⟩
      have HX : Hid (nx = alikeTo s.L s.G (k + 1)) := hnx
      rw [← hnx]
      clear hnx
      go_wp2
      go_roundg (s.G - (k + 1))
      case rel => exact ⟨k + 1, m + m2, by omega, rfl, by rw [HX.out], by go_num, rfl⟩
      case measure => omega
    · have e : k = s.G := by omega
      clear hs HM
      go_wp2
      go_ret
      subst e
      exact ⟨rfl, _, rfl⟩
/-- the value v reads as the numbers xs, in memory that is newer than w's -/
def Nx (w w' : World) (v : Value) (xs : List Nat) : Prop := ∃ pa ba cv, v = .slice pa xs.length cv ∧ (xs ≠ [] → pa = some ⟨ba, 0, none⟩ ∧ w.heap.size ≤ ba ∧ xs.length ≤ cv) ∧ ∀ k, k < xs.length → w'.cell? ⟨ba, 0 + k, none⟩ = some (.int .i64 ((xs.getD k 0 : Nat) : Int))
theorem Nx.keep {w w' w2 : World} {v : Value} {xs : List Nat} (h : Nx w w' v xs) (k : Kp (fun _ => False) w' w2) : Nx w w2 v xs := by
  obtain ⟨pa, ba, cv, h1, h2, h3⟩ := h
  exact ⟨pa, ba, cv, h1, h2, fun j hj => k.cellv (h3 j hj) id⟩

set_option maxRecDepth 100000 in
set_option maxHeartbeats 1600000 in
theorem look_any (s : Sh) (w : World) (hs : Rd w s) (hG : (s.G : Int) ≤ 1000) (h0 : 1 ≤ (s.G : Int)) :
    Calls Tryd.prog 121 #[.slice s.g s.G s.cap] w fun e w' => ∃ v, e = .returned (.tuple #[v, .bool (alikeTo s.L s.G s.G)]) ∧ Kp (fun _ => False) w w' ∧ Nx w w' v (thereTo s.L s.G) := by
  obtain ⟨wa, hwa⟩ : ∃ x, x = w.alloc (.cells #[.slice s.g s.G s.cap] 27) := ⟨_, rfl⟩
  have ka : Kp (fun _ => False) w wa := by rw [hwa]; exact (Kp.refl _ _).alloc _
  have za : wa.heap.size = w.heap.size + 1 := by rw [hwa]; simp
  have ca : wa.cell? ⟨w.heap.size, 0, none⟩ = some (.slice s.g s.G s.cap) := by rw [hwa]; go_simp
  obtain ⟨wb, hwb⟩ : ∃ x, x = wa.alloc (.cells #[.slice none 0 0] 23) := ⟨_, rfl⟩
  have kab : Kp (fun _ => False) wa wb := by rw [hwb]; exact (Kp.refl _ _).alloc _
  have kb := ka.trans kab (fun _ _ e => e)
  have zb : wb.heap.size = w.heap.size + 2 := by rw [hwb]; simp [za]
  have cb := kab.cellv ca id
  have rb : wb.rowIs (w.heap.size + 1) 23 1 (fun _ => .slice none 0 0) := by
    rw [hwb, ← za]
    exact World.rowIs_alloc wa #[.slice none 0 0] 23 (fun _ => .slice none 0 0) (fun i hi => by
      have : i = 0 := by simpa using hi
      subst this; rfl)
  have HT : Hid (Calls _ _ _ wb _) := throughThere_any s wb (hs.keep kb) hG h0
  go_enter Tryd.func121, Tryd.ntmps121
  go_wp2_with fail
  rw [← hwa, ← hwb]
  refine HT.out.mono ?_
  rintro e w1 ⟨v, rfl, hS⟩
  clear HT
  have r1 := hS.kept.row rb id
  have f1 := r1.frozen 0
  have c1 := r1.cell (i := 0) (by omega)
  have c2 := hS.kept.cellv cb id
  obtain ⟨pa, ba, cv, rfl, hx1, hx2⟩ := hS.ls
  obtain ⟨w2, hw2⟩ : ∃ x, x = w1.setCell ⟨w.heap.size + 1, 0, none⟩ (.slice pa (thereTo s.L s.G).length cv) := ⟨_, rfl⟩
  have r2 : w2.rowIs (w.heap.size + 1) 23 1 (fun _ => .slice pa (thereTo s.L s.G).length cv) := by
    rw [hw2]; exact (r1.set 0 _).congr (fun i hi => by rw [if_pos (by omega)])
  have k12 : Kp (fun b => b = w.heap.size + 1) w1 w2 := by rw [hw2]; exact (Kp.refl (fun b => b = w.heap.size + 1) w1).setCell (a := ⟨w.heap.size + 1, 0, none⟩) (fun _ => rfl) _
  have c3 := k12.cellv c2 (by show w.heap.size ≠ w.heap.size + 1; omega)
  have k02 : Kp (fun _ => False) w w2 := (kb.trans hS.kept (fun _ _ e => e)).trans k12 (fun b hb e => by omega)
  have hx3 : ∀ j, j < (thereTo s.L s.G).length → w2.cell? ⟨ba, 0 + j, none⟩ = some (.int .i64 (((thereTo s.L s.G).getD j 0 : Nat) : Int)) := fun j hj => k12.cellv (hx2 j hj) (by
    have := (hx1 (fun e => by rw [e] at hj; simp at hj)).2.1
    show ba ≠ _; omega)
  have HA : Hid (Calls _ _ _ w2 _) := throughAlike_any s w.heap.size (w.heap.size + 1) pa ba cv w2 (hs.keep k02) hG h0 c3 (r2.cell (i := 0) (by omega)) (fun h => (hx1 h).1) hx3
  have f2 := r2.frozen 0
  have c4 := r2.cell (i := 0) (by omega)
  have HX : Hid (Nx wb w2 (.slice pa (thereTo s.L s.G).length cv) (thereTo s.L s.G)) := ⟨pa, ba, cv, rfl, fun h => ⟨(hx1 h).1, (hx1 h).2.1, (hx1 h).2.2.2⟩, hx3⟩
  clear hx1 hx2 hx3 hS r1 hwa hwb
  obtain ⟨xs, hxs⟩ : ∃ x, x = thereTo s.L s.G := ⟨_, rfl⟩
  have HXS : Hid (thereTo s.L s.G = xs) := hxs.symm
  rw [← hxs] at hw2 r2 c4 HX
  rw [← hxs]
  clear hxs
  go_wp2_with fail
  rw [← hw2]
  clear hw2 f1 c1 c2
  refine HA.out.mono ?_
  rintro e w3 ⟨rfl, m, rfl⟩
  have c5 : (w2.drewN m).cell? ⟨w.heap.size + 1, 0, none⟩ = some (.slice pa xs.length cv) := c4
  have f5 : (w2.drewN m).frozen? ⟨w.heap.size + 1, 0, none⟩ = false := f2
  have r5 := rowIs_drewN r2 m
  have f6 := (r5.set 0 (.slice pa xs.length cv)).cell (i := 0) (by omega)
  simp only [if_true] at f6
  obtain ⟨al, hal⟩ : ∃ x, x = alikeTo s.L s.G s.G := ⟨_, rfl⟩
  have HAL : Hid (alikeTo s.L s.G s.G = al) := hal.symm
  rw [← hal]
  clear hal
  go_wp2
  refine bodyPost_ret (v := .tuple #[.slice pa xs.length cv, .bool al]) (by simp [results, Tryd.results121, go_sem, f6]) rfl ?_
  rw [HXS.out, HAL.out]
  have k25 : Kp (fun b => b = w.heap.size + 1) w2 ((w2.drewN m).setCell ⟨w.heap.size + 1, 0, none⟩ (.slice pa xs.length cv)) := ((Kp.refl (fun b => b = w.heap.size + 1) w2).drewN m).setCell (a := ⟨w.heap.size + 1, 0, none⟩) (fun _ => rfl) _
  refine ⟨_, rfl, k02.trans k25 (fun b hb e => by omega), ?_⟩
  obtain ⟨pa', ba', cv', e1, e2, e3⟩ := HX.out
  refine ⟨pa', ba', cv', e1, fun h => ⟨(e2 h).1, by have := (e2 h).2.1; omega, (e2 h).2.2⟩, fun k hk => k25.cellv (e3 k hk) ?_⟩
  have := (e2 (fun e => by rw [e] at hk; simp at hk)).2.1
  show ba' ≠ _
  omega
end Go.Proofs.YtmncocmeafcpfaaDoor.Mf

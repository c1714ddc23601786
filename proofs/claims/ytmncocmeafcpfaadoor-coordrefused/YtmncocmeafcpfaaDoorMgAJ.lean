/- Texts of this proof, joined: MfR2, MfM9, MfM12, MfR3. -/
import Derived.Test.YtmncocmeafcpfaaDoorMgAI
import Derived.Maps.AppendAt
import Derived.RegionTactic
import Derived.BigRegion
import Derived.Test.YtmncocmeafcpfaaDoorMgAF
import Derived.Test.YtmncocmeafcpfaaDoorMgAH
/- The walks of reed.Can and reed.look. -/
namespace Go.Proofs.YtmncocmeafcpfaaDoor.Mf
open Go.RowKit Go.Deep

set_option maxRecDepth 100000 in
set_option maxHeartbeats 800000 in
theorem can_yes (K M : Int) (w : World) (h1 : 1 ≤ K) (h2 : 0 ≤ M) (h3 : M ≤ 255 - K) :
    Calls Tryd.prog 112 #[.agg #[.int .i64 K, .int .i64 M]] w fun e w' => e = .returned (.bool true) ∧ Kp (fun _ => False) w w' := by
  have d1 : decide (1 ≤ K) = true := by simp; omega
  have d2 : decide (0 ≤ M) = true := by simp; omega
  have d3 : decide (M ≤ 255 - K) = true := by simp; omega
  go_enter Tryd.func112, Tryd.ntmps112
  go_wp2
  go_ret
  exact ⟨rfl, (Kp.refl _ _).alloc _⟩

set_option maxRecDepth 100000 in
set_option maxHeartbeats 800000 in
theorem can_no (K M : Int) (w : World) (hw : 1 ≤ K → wrap64 (255 - K) = 255 - K) (h : ¬ (1 ≤ K ∧ 0 ≤ M ∧ M ≤ 255 - K)) :
    Calls Tryd.prog 112 #[.agg #[.int .i64 K, .int .i64 M]] w fun e w' => e = .returned (.bool false) ∧ Kp (fun _ => False) w w' := by
  by_cases h1 : 1 ≤ K
  · have hw' := hw h1
    clear hw
    have d1 : decide (1 ≤ K) = true := by simp; omega
    by_cases h2 : 0 ≤ M
    · have d2 : decide (0 ≤ M) = true := by simp; omega
      have h3 : ¬ M ≤ 255 - K := by omega
      have d3 : decide (M ≤ 255 - K) = false := by simp; omega
      clear h
      go_enter Tryd.func112, Tryd.ntmps112
      go_wp2
      go_ret
      exact ⟨rfl, (Kp.refl _ _).alloc _⟩
    · have d2 : decide (0 ≤ M) = false := by simp; omega
      clear h
      go_enter Tryd.func112, Tryd.ntmps112
      go_wp2
      go_ret
      exact ⟨rfl, (Kp.refl _ _).alloc _⟩
  · have d1 : decide (1 ≤ K) = false := by simp; omega
    clear h hw
    go_enter Tryd.func112, Tryd.ntmps112
    go_wp2
    go_ret
    exact ⟨rfl, (Kp.refl _ _).alloc _⟩

theorem infoInt : (Tryd.prog.info? 3).map (fun i => (i.zero, i.size, i.bytes)) = some (some (.int .i64 0), 1, 8) := by kernel_rfl
/-- numbers, as values -/
def numsL (xs : List Nat) : List Value := xs.map fun j => .int .i64 ((j : Nat) : Int)
theorem numsL_length (xs : List Nat) : (numsL xs).length = xs.length := by simp [numsL]
/-- which shards are there, of the first k -/
def thereTo (L : Nat → Nat) (k : Nat) : List Nat := (List.range k).filter fun r => decide (0 < L r)
theorem thereTo_succ (L : Nat → Nat) (k : Nat) : thereTo L (k + 1) = if 0 < L k then thereTo L k ++ [k] else thereTo L k := by
  unfold thereTo
  rw [List.range_succ, List.filter_append]
  by_cases h : 0 < L k
  · rw [if_pos h]; simp [h]
  · rw [if_neg h]; simp [h]
theorem thereTo_le (L : Nat → Nat) (k : Nat) : (thereTo L k).length ≤ k := by
  have := List.length_filter_le (fun r => decide (0 < L r)) (List.range k)
  unfold thereTo; simpa using this
theorem thereTo_mem {L : Nat → Nat} {k r : Nat} : r ∈ thereTo L k ↔ r < k ∧ 0 < L r := by unfold thereTo; simp
/-- numbers of the program's own, gathered -/
structure Sel (w wr : World) (v : Value) (xs : List Nat) : Prop where
  kept : Kp (fun _ => False) w wr
  form : ∃ ao cv, v = .slice ao xs.length cv
  own : wr.ownsRow w.heap.size 3 1 v xs.length (numsL xs)
theorem sel_own_value {w : World} {base m : Nat} {v : Value} {xs : List Value} (h : w.ownsRow base 3 1 v (m + 1) xs) : ∃ ao cv, v = .slice ao (m + 1) cv := by
  rcases h.2 with ⟨_, h0⟩ | ⟨g, cap, cur, rfl, _⟩
  · omega
  · exact ⟨_, _, rfl⟩
theorem Sel.start (w : World) : Sel w w (.slice none 0 0) [] := ⟨Kp.refl _ _, ⟨none, 0, rfl⟩, World.ownsRow_nil _ _ _ _⟩
theorem Sel.ls {w wr : World} {v : Value} {xs : List Nat} (h : Sel w wr v xs) : ∃ pa ba cv, v = .slice pa xs.length cv ∧ (xs ≠ [] → pa = some ⟨ba, 0, none⟩ ∧ w.heap.size ≤ ba ∧ ba < wr.heap.size ∧ xs.length ≤ cv) ∧ ∀ k, k < xs.length → wr.cell? ⟨ba, 0 + k, none⟩ = some (.int .i64 ((xs.getD k 0 : Nat) : Int)) := by
  rcases h.own.2 with ⟨rfl, h0⟩ | ⟨g, cap, cur, rfl, hb, hh, hn, _, hcs, htk⟩
  · exact ⟨none, 0, 0, by rw [h0], fun hx => absurd (List.length_eq_zero_iff.1 h0) hx, fun k hk => by omega⟩
  · refine ⟨some ⟨g, 0, none⟩, g, cap, rfl, fun _ => ⟨rfl, hb, (Array.getElem?_eq_some_iff.1 hh).1, by omega⟩, fun i hi => ?_⟩
    have h1 : (cur.toList.take (xs.length * 1))[i]? = some (.int .i64 ((xs.getD i 0 : Nat) : Int)) := by
      rw [htk]; unfold numsL
      rw [List.getElem?_map, List.getElem?_eq_getElem hi]
      simp [hi]
    rw [List.getElem?_take_of_lt (by omega), Array.getElem?_toList] at h1
    simp [World.cell?, hh, h1]
theorem Sel.keep {w wr w2 : World} {v : Value} {xs : List Nat} (h : Sel w wr v xs) (k : Kp (fun _ => False) wr w2) : Sel w w2 v xs := ⟨h.kept.trans k (fun _ _ e => e), h.form, ownsRow_keep h.own k⟩

set_option maxRecDepth 100000 in
set_option maxHeartbeats 1600000 in
theorem lookStep1_any (w0 : World) (xs : List Nat) (v : Value) (src : Option Addr) (L c k : Nat) (w : World) (h : Sel w0 w v xs) (hx : (xs.length : Int) ≤ 1000) :
    Calls Tryd.prog 131 #[v, .int .i64 k, .slice src L c] w fun e w' => ∃ v', e = .returned v' ∧ Sel w0 w' v' (if 0 < L then xs ++ [k] else xs) := by
  obtain ⟨ti, hi0, hz0, hz1, hz2⟩ := info_parts infoInt
  obtain ⟨ao, cv, rfl⟩ := h.form
  have hO := h.own
  have hsz := h.kept.size
  by_cases hL : 0 < L
  · rw [if_pos hL]
    have d1 : decide (0 < (L : Int)) = true := by simp; omega
    have hL' : 0 < (L : Int) := by omega
    have HK : Hid (Kp (fun _ => False) w0 w) := h.kept
    clear h
    go_enter Tryd.func131, Tryd.ntmps131
    go_wp2_with (at_builtin; go_must (refine wpList_append_own_at _ rfl _ _ 23 rfl w0.heap.size 3 ti (.int .i64 0) 1 8 Tryd.underlying23 hi0 hz0 hz1 hz2 rfl (by decide) _ _ _ rfl (hO.alloc _) ⟨w.heap.size, 0, none⟩ 1 1 [.int .i64 ((k : Nat) : Int)] rfl rfl (cell_one_new _ _ _) (fun x hx => by simp at hx; subst hx; rfl) (by unfold maxLen; omega) (by omega) (by simp; omega) ?_); intro v' w3 hown' hgrow3 hnil3 hblk3)
    go_ret
    refine ⟨_, rfl, Kp.trans (HK.out.alloc _) (grownBy_kp hgrow3) (fun b hb e => by have := ownBlock_lt hO e; omega), ?_, ?_⟩
    · rw [List.length_append]; exact sel_own_value hown'
    · rw [List.length_append]
      unfold numsL at hown' ⊢
      rw [List.map_append]; exact hown'
  · rw [if_neg hL]
    have d1 : decide (0 < (L : Int)) = false := by simp; omega
    have hL' : ¬ 0 < (L : Int) := by omega
    go_enter Tryd.func131, Tryd.ntmps131
    go_wp2
    go_ret
    exact ⟨_, rfl, h⟩

set_option maxRecDepth 100000 in
set_option maxHeartbeats 1600000 in
theorem throughThere_any (s : Sh) (w : World) (hs : Rd w s) (hG : (s.G : Int) ≤ 1000) (h0 : 1 ≤ (s.G : Int)) :
    Calls Tryd.prog 130 #[.slice s.g s.G s.cap, .slice none 0 0, .func (.func 131) #[] #[]] w fun e w' => ∃ v, e = .returned v ∧ Sel w w' v (thereTo s.L s.G) := by
  rw [hs.at0 (by omega)]
  go_enter Tryd.func130, Tryd.ntmps130
  go_wp2
  go_loopg [1, 11] s.G (fun gk v i wr => ∃ k : Nat, k ≤ s.G ∧ gk = s.G - k ∧ i = .int .i64 k ∧ Sel w wr v (thereTo s.L k))
  case atStart => exact ⟨0, Nat.zero_le _, rfl, rfl, Sel.start w⟩
  case round =>
    obtain ⟨k, hk, rfl, rfl, hS⟩ := hrel
    by_cases hlt : (k : Int) < (s.G : Int)
    · have e1 := hS.kept.cellv (hs.hd k (by omega)) id
      have hle := thereTo_le s.L k
      have HM : Hid (∀ v, Sel w wr v (thereTo s.L k) → ∀ p c, Calls _ _ #[v, _, .slice p _ c] wr _) := fun v hv p c => lookStep1_any w (thereTo s.L k) v p (s.L k) c k wr hv (by omega)
      go_wp2_with fail
      refine (HM.out _ hS _ _).mono ?_
      rintro e w1 ⟨v', rfl, hS1⟩
      rw [← thereTo_succ] at hS1
      clear HM e1
      go_wp2
      go_roundg (s.G - (k + 1))
      case rel => exact ⟨k + 1, by omega, rfl, by go_num, hS1⟩
      case measure => omega
    · have e : k = s.G := by omega
      clear hs
      go_wp2
      go_ret
      subst e
      exact ⟨_, rfl, hS⟩

/-- the length that all must have: the first one's that is there -/
def len0 (L : Nat → Nat) (n : Nat) : Nat := L ((thereTo L n).headD 0)
def alikeTo (L : Nat → Nat) (n k : Nat) : Bool := decide (∀ r, r < k → L r = 0 ∨ L r = len0 L n)
theorem alikeTo_succ (L : Nat → Nat) (n k : Nat) : alikeTo L n (k + 1) = (alikeTo L n k && decide (L k = 0 ∨ L k = len0 L n)) := by
  unfold alikeTo
  rw [Bool.eq_iff_iff]
  simp only [decide_eq_true_eq, Bool.and_eq_true]
  constructor
  · intro h; exact ⟨fun r hr => h r (by omega), h k (by omega)⟩
  · intro h r hr
    by_cases e : r = k
    · rw [e]; exact h.2
    · exact h.1 r (by omega)

set_option maxRecDepth 100000 in
set_option maxHeartbeats 1600000 in
theorem lookStep2_any (s : Sh) (sb tb : Nat) (pa : Option Addr) (ba cv : Nat) (xs : List Nat) (told : Bool) (src : Option Addr) (L c k : Nat) (w : World) (hs : Rd w s)
    (h1 : w.cell? ⟨sb, 0, none⟩ = some (.slice s.g s.G s.cap)) (h2 : w.cell? ⟨tb, 0, none⟩ = some (.slice pa xs.length cv)) (hx : 0 < L → xs ≠ [])
    (h3 : xs ≠ [] → pa = some ⟨ba, 0, none⟩) (h4 : ∀ j, j < xs.length → w.cell? ⟨ba, 0 + j, none⟩ = some (.int .i64 ((xs.getD j 0 : Nat) : Int))) (h5 : ∀ r, r ∈ xs → r < s.G) :
    Calls Tryd.prog 133 #[.bool told, .int .i64 k, .slice src L c, .pointer (some ⟨sb, 0, none⟩), .pointer (some ⟨tb, 0, none⟩)] w fun e w' =>
      e = .returned (.bool (told && decide (L = 0 ∨ L = s.L (xs.headD 0)))) ∧ ∃ n, w' = w.drewN n := by
  cases told with
  | false =>
    simp only [Bool.false_and]
    clear h4 h3 h5 hs
    go_enter Tryd.func133, Tryd.ntmps133
    go_wp2
    go_quiet (fail)
    all_goals go_wp2
    all_goals go_ret
    all_goals exact ⟨rfl, _, rfl⟩
  | true =>
    simp only [Bool.true_and]
    by_cases hL : L = 0
    · subst hL
      have HD : Hid (decide (0 = 0 ∨ 0 = s.L (xs.headD 0)) = true) := by show _ = _; simp
      clear h4 h3 h5 hs hx
      go_enter Tryd.func133, Tryd.ntmps133
      go_wp2
      go_quiet (fail)
      all_goals go_wp2
      all_goals go_ret
      all_goals exact ⟨by rw [HD.out]; rfl, _, rfl⟩
    · have hxs := hx (by omega)
      obtain ⟨x, t, rfl⟩ := List.exists_cons_of_ne_nil hxs
      obtain rfl := h3 hxs
      have c1 := h4 0 (by simp)
      simp only [List.getD_cons_zero, Nat.add_zero] at c1
      have hxG : x < s.G := h5 x (by simp)
      have c2 := hs.hd x hxG
      have hg := hs.at0 (by omega)
      rw [hg] at h1
      have d0 : ((L : Int) == 0) = false := beq_eq_false_iff_ne.2 (by omega)
      have i1 : (0 : Int) < ((x :: t).length : Int) := by simp
      generalize (x :: t).length = len at h2 i1
      by_cases hq : L = s.L x
      · have d1 : ((L : Int) == (s.L x : Int)) = true := by rw [hq]; exact beq_self_eq_true _
        have HD : Hid (decide (L = 0 ∨ L = s.L ((x :: t).headD 0)) = true) := by show _ = _; simp [hq]
        clear h4 h3 h5 hs hx hq hL
        go_enter Tryd.func133, Tryd.ntmps133
        go_wp2
        go_quiet (fail)
        all_goals go_wp2
        all_goals go_ret
        all_goals exact ⟨by rw [HD.out]; rfl, _, rfl⟩
      · have d1 : ((L : Int) == (s.L x : Int)) = false := beq_eq_false_iff_ne.2 (by omega)
        have HD : Hid (decide (L = 0 ∨ L = s.L ((x :: t).headD 0)) = false) := by show _ = _; simp [hq, hL]
        clear h4 h3 h5 hs hx hq hL
        go_enter Tryd.func133, Tryd.ntmps133
        go_wp2
        go_quiet (fail)
        all_goals go_wp2
        all_goals go_ret
        all_goals exact ⟨by rw [HD.out]; rfl, _, rfl⟩
set_option maxRecDepth 100000 in
set_option maxHeartbeats 1600000 in
theorem throughAlike_any (s : Sh) (sb tb : Nat) (pa : Option Addr) (ba cv : Nat) (w : World) (hs : Rd w s) (hG : (s.G : Int) ≤ 1000) (h0 : 1 ≤ (s.G : Int))
    (h1 : w.cell? ⟨sb, 0, none⟩ = some (.slice s.g s.G s.cap)) (h2 : w.cell? ⟨tb, 0, none⟩ = some (.slice pa (thereTo s.L s.G).length cv))
    (h3 : thereTo s.L s.G ≠ [] → pa = some ⟨ba, 0, none⟩) (h4 : ∀ j, j < (thereTo s.L s.G).length → w.cell? ⟨ba, 0 + j, none⟩ = some (.int .i64 (((thereTo s.L s.G).getD j 0 : Nat) : Int))) :
    Calls Tryd.prog 132 #[.slice s.g s.G s.cap, .bool true, .func (.func 133) #[] #[.pointer (some ⟨sb, 0, none⟩), .pointer (some ⟨tb, 0, none⟩)]] w fun e w' => e = .returned (.bool (alikeTo s.L s.G s.G)) ∧ ∃ n, w' = w.drewN n := by
  have HM : Hid (∀ k, k < s.G → ∀ m told p c, Calls _ _ #[.bool told, _, .slice p _ c, _, _] (w.drewN m) _) := fun k hk m told p c => lookStep2_any s sb tb pa ba cv (thereTo s.L s.G) told p (s.L k) c k (w.drewN m) ⟨hs.at0, hs.hd, hs.to, hs.cell, hs.byte⟩ h1 h2 (fun h e => by
    have : k ∈ thereTo s.L s.G := thereTo_mem.2 ⟨hk, h⟩
    rw [e] at this; simp at this) h3 h4 (fun r hr => (thereTo_mem.1 hr).1)
  clear h1 h2 h3 h4
  rw [hs.at0 (by omega)]
  go_enter Tryd.func132, Tryd.ntmps132
  go_wp2
  go_loopg [1, 11] s.G (fun gk v i wr => ∃ k m : Nat, k ≤ s.G ∧ gk = s.G - k ∧ v = .bool (alikeTo s.L s.G k) ∧ i = .int .i64 k ∧ wr = w.drewN m)
  case atStart => exact ⟨0, 0, Nat.zero_le _, rfl, by simp [alikeTo], rfl, rfl⟩
  case round =>
    obtain ⟨k, m, hk, rfl, rfl, rfl, rfl⟩ := hrel
    by_cases hlt : (k : Int) < (s.G : Int)
    · have e1 := hs.hd k (by omega)
      have e2 : (w.drewN m).cell? ⟨s.gb, s.go + k, none⟩ = _ := e1
      have HA : Hid (alikeTo s.L s.G (k + 1) = (alikeTo s.L s.G k && decide (s.L k = 0 ∨ s.L k = len0 s.L s.G))) := alikeTo_succ _ _ _
      generalize alikeTo s.L s.G k = told at HA
      go_wp2_with fail
      refine (HM.out k (by omega) m told _ _).mono ?_
      rintro e w1 ⟨rfl, m2, rfl⟩
      have HV : Hid (Value.bool (told && decide (s.L k = 0 ∨ s.L k = s.L ((thereTo s.L s.G).headD 0))) = .bool (alikeTo s.L s.G (k + 1))) := by rw [HA.out]; exact rfl
      rw [HV.out]
      clear HV HA e1 e2
      obtain ⟨nx, hnx⟩ : ∃ x, x = alikeTo s.L s.G (k + 1) := ⟨_, rfl⟩
      have HX : Hid (nx = alikeTo s.L s.G (k + 1)) := hnx
      rw [← hnx]
      clear hnx
      go_wp2
      go_roundg (s.G - (k + 1))
      case rel => exact ⟨k + 1, m + m2, by omega, rfl, by rw [HX.out], by go_num, rfl⟩
      case measure => omega
    · have e : k = s.G := by omega
      clear hs HM
      go_wp2
      go_ret
      subst e
      exact ⟨rfl, _, rfl⟩
/-- the value v reads as the numbers xs, in memory that is newer than w's -/
def Nx (w w' : World) (v : Value) (xs : List Nat) : Prop := ∃ pa ba cv, v = .slice pa xs.length cv ∧ (xs ≠ [] → pa = some ⟨ba, 0, none⟩ ∧ w.heap.size ≤ ba ∧ xs.length ≤ cv) ∧ ∀ k, k < xs.length → w'.cell? ⟨ba, 0 + k, none⟩ = some (.int .i64 ((xs.getD k 0 : Nat) : Int))
theorem Nx.keep {w w' w2 : World} {v : Value} {xs : List Nat} (h : Nx w w' v xs) (k : Kp (fun _ => False) w' w2) : Nx w w2 v xs := by
  obtain ⟨pa, ba, cv, h1, h2, h3⟩ := h
  exact ⟨pa, ba, cv, h1, h2, fun j hj => k.cellv (h3 j hj) id⟩

set_option maxRecDepth 100000 in
set_option maxHeartbeats 1600000 in
theorem look_any (s : Sh) (w : World) (hs : Rd w s) (hG : (s.G : Int) ≤ 1000) (h0 : 1 ≤ (s.G : Int)) :
    Calls Tryd.prog 121 #[.slice s.g s.G s.cap] w fun e w' => ∃ v, e = .returned (.tuple #[v, .bool (alikeTo s.L s.G s.G)]) ∧ Kp (fun _ => False) w w' ∧ Nx w w' v (thereTo s.L s.G) := by
  obtain ⟨wa, hwa⟩ : ∃ x, x = w.alloc (.cells #[.slice s.g s.G s.cap] 27) := ⟨_, rfl⟩
  have ka : Kp (fun _ => False) w wa := by rw [hwa]; exact (Kp.refl _ _).alloc _
  have za : wa.heap.size = w.heap.size + 1 := by rw [hwa]; simp
  have ca : wa.cell? ⟨w.heap.size, 0, none⟩ = some (.slice s.g s.G s.cap) := by rw [hwa]; go_simp
  obtain ⟨wb, hwb⟩ : ∃ x, x = wa.alloc (.cells #[.slice none 0 0] 23) := ⟨_, rfl⟩
  have kab : Kp (fun _ => False) wa wb := by rw [hwb]; exact (Kp.refl _ _).alloc _
  have kb := ka.trans kab (fun _ _ e => e)
  have zb : wb.heap.size = w.heap.size + 2 := by rw [hwb]; simp [za]
  have cb := kab.cellv ca id
  have rb : wb.rowIs (w.heap.size + 1) 23 1 (fun _ => .slice none 0 0) := by
    rw [hwb, ← za]
    exact World.rowIs_alloc wa #[.slice none 0 0] 23 (fun _ => .slice none 0 0) (fun i hi => by
      have : i = 0 := by simpa using hi
      subst this; rfl)
  have HT : Hid (Calls _ _ _ wb _) := throughThere_any s wb (hs.keep kb) hG h0
  go_enter Tryd.func121, Tryd.ntmps121
  go_wp2_with fail
  rw [← hwa, ← hwb]
  refine HT.out.mono ?_
  rintro e w1 ⟨v, rfl, hS⟩
  clear HT
  have r1 := hS.kept.row rb id
  have f1 := r1.frozen 0
  have c1 := r1.cell (i := 0) (by omega)
  have c2 := hS.kept.cellv cb id
  obtain ⟨pa, ba, cv, rfl, hx1, hx2⟩ := hS.ls
  obtain ⟨w2, hw2⟩ : ∃ x, x = w1.setCell ⟨w.heap.size + 1, 0, none⟩ (.slice pa (thereTo s.L s.G).length cv) := ⟨_, rfl⟩
  have r2 : w2.rowIs (w.heap.size + 1) 23 1 (fun _ => .slice pa (thereTo s.L s.G).length cv) := by
    rw [hw2]; exact (r1.set 0 _).congr (fun i hi => by rw [if_pos (by omega)])
  have k12 : Kp (fun b => b = w.heap.size + 1) w1 w2 := by rw [hw2]; exact (Kp.refl (fun b => b = w.heap.size + 1) w1).setCell (a := ⟨w.heap.size + 1, 0, none⟩) (fun _ => rfl) _
  have c3 := k12.cellv c2 (by show w.heap.size ≠ w.heap.size + 1; omega)
  have k02 : Kp (fun _ => False) w w2 := (kb.trans hS.kept (fun _ _ e => e)).trans k12 (fun b hb e => by omega)
  have hx3 : ∀ j, j < (thereTo s.L s.G).length → w2.cell? ⟨ba, 0 + j, none⟩ = some (.int .i64 (((thereTo s.L s.G).getD j 0 : Nat) : Int)) := fun j hj => k12.cellv (hx2 j hj) (by
    have := (hx1 (fun e => by rw [e] at hj; simp at hj)).2.1
    show ba ≠ _; omega)
  have HA : Hid (Calls _ _ _ w2 _) := throughAlike_any s w.heap.size (w.heap.size + 1) pa ba cv w2 (hs.keep k02) hG h0 c3 (r2.cell (i := 0) (by omega)) (fun h => (hx1 h).1) hx3
  have f2 := r2.frozen 0
  have c4 := r2.cell (i := 0) (by omega)
  have HX : Hid (Nx wb w2 (.slice pa (thereTo s.L s.G).length cv) (thereTo s.L s.G)) := ⟨pa, ba, cv, rfl, fun h => ⟨(hx1 h).1, (hx1 h).2.1, (hx1 h).2.2.2⟩, hx3⟩
  clear hx1 hx2 hx3 hS r1 hwa hwb
  obtain ⟨xs, hxs⟩ : ∃ x, x = thereTo s.L s.G := ⟨_, rfl⟩
  have HXS : Hid (thereTo s.L s.G = xs) := hxs.symm
  rw [← hxs] at hw2 r2 c4 HX
  rw [← hxs]
  clear hxs
  go_wp2_with fail
  rw [← hw2]
  clear hw2 f1 c1 c2
  refine HA.out.mono ?_
  rintro e w3 ⟨rfl, m, rfl⟩
  have c5 : (w2.drewN m).cell? ⟨w.heap.size + 1, 0, none⟩ = some (.slice pa xs.length cv) := c4
  have f5 : (w2.drewN m).frozen? ⟨w.heap.size + 1, 0, none⟩ = false := f2
  have r5 := rowIs_drewN r2 m
  have f6 := (r5.set 0 (.slice pa xs.length cv)).cell (i := 0) (by omega)
  simp only [if_true] at f6
  obtain ⟨al, hal⟩ : ∃ x, x = alikeTo s.L s.G s.G := ⟨_, rfl⟩
  have HAL : Hid (alikeTo s.L s.G s.G = al) := hal.symm
  rw [← hal]
  clear hal
  go_wp2
  refine bodyPost_ret (v := .tuple #[.slice pa xs.length cv, .bool al]) (by simp [results, Tryd.results121, go_sem, f6]) rfl ?_
  rw [HXS.out, HAL.out]
  have k25 : Kp (fun b => b = w.heap.size + 1) w2 ((w2.drewN m).setCell ⟨w.heap.size + 1, 0, none⟩ (.slice pa xs.length cv)) := ((Kp.refl (fun b => b = w.heap.size + 1) w2).drewN m).setCell (a := ⟨w.heap.size + 1, 0, none⟩) (fun _ => rfl) _
  refine ⟨_, rfl, k02.trans k25 (fun b hb e => by omega), ?_⟩
  obtain ⟨pa', ba', cv', e1, e2, e3⟩ := HX.out
  refine ⟨pa', ba', cv', e1, fun h => ⟨(e2 h).1, by have := (e2 h).2.1; omega, (e2 h).2.2⟩, fun k hk => k25.cellv (e3 k hk) ?_⟩
  have := (e2 (fun e => by rw [e] at hk; simp at hk)).2.1
  show ba' ≠ _
  omega
end Go.Proofs.YtmncocmeafcpfaaDoor.Mf

/- The walk of matrix.bringPivot. -/
namespace Go.Proofs.YtmncocmeafcpfaaDoor.Mf
open Go.RowKit Go.Deep

theorem inv_none (b : Nat) (w : World) (h : b = 0) (hp : Pows w) : Calls Tryd.prog 136 #[.int .u8 ((b : Nat) : Int)] w fun e w' => e = .returned (.tuple #[.int .u8 0, .int .i64 1]) ∧ ∃ n, w' = w.drewN n := by
  have := inv_gen b w (by omega) hp
  rw [show iq b = 0 from if_pos h, show de b = 1 from if_pos h] at this
  exact this
theorem inv_some (b : Nat) (w : World) (hb : b < 256) (h : b ≠ 0) (hp : Pows w) : Calls Tryd.prog 136 #[.int .u8 ((b : Nat) : Int)] w fun e w' => e = .returned (.tuple #[.int .u8 (Gf.inv b), .int .i64 0]) ∧ ∃ n, w' = w.drewN n := by
  have := inv_gen b w (by omega) hp
  rw [show iq b = Gf.inv b from if_neg h, show de b = 0 from if_neg h] at this
  exact this

/-- the rows' blocks behind the exchange -/
def exch (B : Nat → Nat) (i j : Nat) : Nat → Nat := fun r => if r = i then B j else if r = j then B i else B r

/-- what the exchange of two headers leaves -/
theorem exch_top {w : World} {t n C i j : Nat} {B : Nat → Nat} (h : w.rowIs t 22 n (fun r => .slice (some ⟨B r, 0, none⟩) C C)) :
    ((w.setCell ⟨t, i, none⟩ (.slice (some ⟨B j, 0, none⟩) C C)).setCell ⟨t, j, none⟩ (.slice (some ⟨B i, 0, none⟩) C C)).rowIs t 22 n (fun r => .slice (some ⟨exch B i j r, 0, none⟩) C C) := by
  refine ((h.set i _).set j _).congr (fun r _ => ?_)
  unfold exch
  by_cases e1 : r = j
  · rw [if_pos e1]
    by_cases e2 : r = i
    · rw [if_pos e2, ← e1, ← e2]
    · rw [if_neg e2, if_pos e1]
  · rw [if_neg e1]
    by_cases e2 : r = i
    · rw [if_pos e2, if_pos e2]
    · rw [if_neg e2, if_neg e2, if_neg e1]
theorem exch_inj {B : Nat → Nat} {i j n : Nat} (hi : i < n) (hj : j < n) (h : ∀ a b, a < n → b < n → B a = B b → a = b) (a b : Nat) (ha : a < n) (hb : b < n) (e : exch B i j a = exch B i j b) : a = b := by
  unfold exch at e
  by_cases a1 : a = i <;> by_cases b1 : b = i
  · omega
  · rw [if_pos a1, if_neg b1] at e
    by_cases b2 : b = j
    · rw [if_pos b2] at e; have := h _ _ hj hi e; omega
    · rw [if_neg b2] at e; have := h _ _ hj hb e; omega
  · rw [if_neg a1, if_pos b1] at e
    by_cases a2 : a = j
    · rw [if_pos a2] at e; have := h _ _ hi hj e; omega
    · rw [if_neg a2] at e; have := h _ _ ha hj e; omega
  · rw [if_neg a1, if_neg b1] at e
    by_cases a2 : a = j <;> by_cases b2 : b = j
    · omega
    · rw [if_pos a2, if_neg b2] at e; have := h _ _ hi hb e; omega
    · rw [if_neg a2, if_pos b2] at e; have := h _ _ ha hi e; omega
    · rw [if_neg a2, if_neg b2] at e; exact h _ _ ha hb e
theorem exch_mem (B : Nat → Nat) {i j n r : Nat} (hi : i < n) (hj : j < n) (hr : r < n) : ∃ q, q < n ∧ exch B i j r = B q := by
  unfold exch
  by_cases e1 : r = i
  · rw [if_pos e1]; exact ⟨j, hj, rfl⟩
  · rw [if_neg e1]
    by_cases e2 : r = j
    · rw [if_pos e2]; exact ⟨i, hi, rfl⟩
    · rw [if_neg e2]; exact ⟨r, hr, rfl⟩

set_option maxRecDepth 100000 in
set_option maxHeartbeats 1600000 in
theorem bringPivot_none (t : Nat) (B : Nat → Nat) (n C i : Nat) (W : Nat → Nat → Nat) (w : World) (hM : Mat w t B n C W) (hi : (i : Int) < (n : Int)) (hC : (n : Int) ≤ (C : Int)) (hn : (n : Int) ≤ 255) (hp : Pows w) (hno : NoPiv W n i) :
    Calls Tryd.prog 141 #[.slice (some ⟨t, 0, none⟩) n n, .int .i64 i] w fun e w' => e = .returned (.bool false) ∧ ∃ m, w' = w.drewN m := by
  have HN : Hid (NoPiv W n i) := hno
  clear hno
  go_enter Tryd.func141, Tryd.ntmps141
  go_wp2
  go_loopg [5] (n - i) (fun gk x wr => ∃ k : Nat, i ≤ k ∧ k ≤ n ∧ gk = n - k ∧ x = .int .i64 k ∧ ∃ m, wr = w.drewN m)
  case atStart => exact ⟨i, Nat.le_refl _, by omega, rfl, rfl, 0, rfl⟩
  case round =>
    obtain ⟨k, hk1, hk, rfl, rfl, m, rfl⟩ := hrel
    by_cases hlt : (k : Int) < (n : Int)
    · have e1 := hM.top.cell (i := k) (by omega)
      have e2 := (hM.row k (by omega)).cell (i := i) (by omega)
      simp only [By] at e2
      have HZ : Hid (W k i = 0) := HN.out k hk1 (by omega)
      have hiC : (i : Int) < (C : Int) := by omega
      go_wp2_with (go_at_call 136; refine (inv_none (W k i) _ HZ.out (hp.drewN _)).mono ?_; rintro e w' ⟨rfl, m2, rfl⟩)
      go_roundg (n - (k + 1))
      case rel => exact ⟨k + 1, by omega, by omega, rfl, by go_num, _, rfl⟩
      case measure => omega
    · go_wp2
      go_ret
      exact ⟨rfl, m, rfl⟩

/-- the world behind the exchange of the headers i and k -/
abbrev exchW (w : World) (t C i k : Nat) (B : Nat → Nat) (m : Nat) : World :=
  ((w.drewN m).setCell ⟨t, i, none⟩ (.slice (some ⟨B k, 0, none⟩) C C)).setCell ⟨t, k, none⟩ (.slice (some ⟨B i, 0, none⟩) C C)
theorem exchW_row {w : World} {t C i k : Nat} {B : Nat → Nat} {m b : Nat} {T : TypeId} {N : Nat} {f : Nat → Value} (h : w.rowIs b T N f) (hb : b ≠ t) : (exchW w t C i k B m).rowIs b T N f :=
  (((rowIs_drewN h m).setOther (by exact hb) _).setOther (by exact hb) _)
theorem exchW_pows {w : World} (h : Pows w) (t C i k : Nat) (B : Nat → Nat) (m : Nat) (ht : t ≠ 1) : Pows (exchW w t C i k B m) :=
  ((h.drewN m).setCell _ _ (by exact ht)).setCell _ _ (by exact ht)
theorem brought_end {w w2 : World} {t n C i k m : Nat} {B : Nat → Nat} {W : Nat → Nat → Nat} (hM : Mat w t B n C W) (hi : i < n) (hk : k < n) (hK2 : Kp (fun b => b = B k) (exchW w t C i k B m) w2) (hz2 : w2.heap.size = (exchW w t C i k B m).heap.size)
    (hR2 : w2.rowIs (B k) 5 C (By (timesRow (W k) (Gf.inv (W k i)) C))) :
    Kp (fun b => b = t ∨ ∃ r, r < n ∧ b = B r) w w2 ∧ w2.heap.size = w.heap.size ∧ Mat w2 t (exch B i k) n C (brought W i k) := by
  have hz : w2.heap.size = w.heap.size := by rw [hz2]; simp [exchW]
  refine ⟨Kp.trans (S' := fun b => b = B k) ((((Kp.refl _ w).drewN m).setCell (fun _ => Or.inl rfl) _).setCell (fun _ => Or.inl rfl) _) hK2 (fun b _ e => Or.inr ⟨k, hk, e⟩), hz,
    hK2.row (exch_top (w := w.drewN m) (rowIs_drewN hM.top m)) (fun e => hM.ne k hk e.symm), fun r hr => ?_, exch_inj hi hk hM.inj, fun r hr => ?_, brought_lt hM.byte i k⟩
  · unfold exch
    by_cases e1 : r = i
    · rw [if_pos e1]
      refine hR2.congr (fun c hc => ?_)
      simp only [By, timesRow, brought]
      rw [if_pos hc, if_pos e1]
    · rw [if_neg e1]
      by_cases e2 : r = k
      · rw [if_pos e2]
        refine (hK2.row (exchW_row (hM.row i hi) (hM.ne i hi)) (fun e => e1 (by have := hM.inj i k hi hk e; omega))).congr (fun c _ => ?_)
        simp only [By, brought]
        rw [if_neg e1, if_pos e2]
      · rw [if_neg e2]
        refine (hK2.row (exchW_row (hM.row r hr) (hM.ne r hr)) (fun e => e2 (hM.inj r k hr hk e))).congr (fun c _ => ?_)
        simp only [By, brought]
        rw [if_neg e1, if_neg e2]
  · obtain ⟨q, hq, e⟩ := exch_mem B hi hk hr
    rw [e]; exact hM.ne q hq

set_option maxRecDepth 100000 in
set_option maxHeartbeats 1600000 in
theorem bringPivot_some (t : Nat) (B : Nat → Nat) (n C i j : Nat) (W : Nat → Nat → Nat) (w : World) (hM : Mat w t B n C W) (hi : (i : Int) < (n : Int)) (hC : (n : Int) ≤ (C : Int)) (hcb : (C : Int) ≤ 100000) (hp : Pows w) (hpv : Piv W n i j)
    (ht : t ≠ 1) (hB : ∀ r, r < n → B r ≠ 1) :
    Calls Tryd.prog 141 #[.slice (some ⟨t, 0, none⟩) n n, .int .i64 i] w fun e w' =>
      e = .returned (.bool true) ∧ Kp (fun b => b = t ∨ ∃ r, r < n ∧ b = B r) w w' ∧ w'.heap.size = w.heap.size ∧ Mat w' t (exch B i j) n C (brought W i j) := by
  have HP : Hid (Piv W n i j) := hpv
  obtain ⟨p1, p2⟩ : i ≤ j ∧ j < n := ⟨hpv.1, hpv.2.1⟩
  clear hpv
  go_enter Tryd.func141, Tryd.ntmps141
  go_wp2
  go_loopg [5] (n - i) (fun gk x wr => ∃ k : Nat, i ≤ k ∧ k ≤ j ∧ gk = n - k ∧ x = .int .i64 k ∧ ∃ m, wr = w.drewN m)
  case atStart => exact ⟨i, Nat.le_refl _, p1, rfl, rfl, 0, rfl⟩
  case round =>
    obtain ⟨k, hk1, hk, rfl, rfl, m, rfl⟩ := hrel
    have hkn : (k : Int) < (n : Int) := by omega
    have e1 := hM.top.cell (i := k) (by omega)
    have e2 := (hM.row k (by omega)).cell (i := i) (by omega)
    simp only [By] at e2
    have hiC : (i : Int) < (C : Int) := by omega
    by_cases hlt : k < j
    · have HZ : Hid (W k i = 0) := HP.out.2.2.2 k hk1 hlt
      go_wp2_with (go_at_call 136; refine (inv_none (W k i) _ HZ.out (hp.drewN _)).mono ?_; rintro e w' ⟨rfl, m2, rfl⟩)
      go_roundg (n - (k + 1))
      case rel => exact ⟨k + 1, by omega, by omega, rfl, by go_num, _, rfl⟩
      case measure => omega
    · have hkj : k = j := by omega
      subst hkj
      have HZ : Hid (W k i ≠ 0) := HP.out.2.2.1
      have l1 := hM.byte k i
      have l2 := Gf.inv_lt (W k i) l1
      have e3 := hM.top.cell (i := i) (by omega)
      have e4 := hM.top.frozen i
      have e5 := hM.top.frozen k
      by_cases hik : i = k
      · subst hik
        go_wp2_with (go_at_call 136; refine (inv_some (W i i) _ l1 HZ.out (hp.drewN _)).mono ?_; rintro e w' ⟨rfl, m2, rfl⟩)
        go_region
        go_wp2_with fail
        refine (scale_any (B i) C C (W i) (Gf.inv (W i i)) (exchW w t C i i B _) (hM.byte i) (by omega) (exchW_row (hM.row i (by omega)) (hM.ne i (by omega))) (exchW_pows hp _ _ _ _ _ _ ht) (hB i (by omega)) (by omega)).mono ?_
        rintro e w2 ⟨rfl, hK2, hz2, hR2⟩
        have hend := brought_end hM (by omega) (by omega) hK2 hz2 hR2
        have HE : Hid (_ ∧ _) := hend
        clear hend hK2 hz2 hR2
        go_wp2
        go_ret
        exact ⟨rfl, HE.out⟩
      · have hne : ¬ k = i := fun e => hik e.symm
        go_wp2_with (go_at_call 136; refine (inv_some (W k i) _ l1 HZ.out (hp.drewN _)).mono ?_; rintro e w' ⟨rfl, m2, rfl⟩)
        go_region
        go_wp2_with fail
        refine (scale_any (B k) C C (W k) (Gf.inv (W k i)) (exchW w t C i k B _) (hM.byte k) (by omega) (exchW_row (hM.row k (by omega)) (hM.ne k (by omega))) (exchW_pows hp _ _ _ _ _ _ ht) (hB k (by omega)) (by omega)).mono ?_
        rintro e w2 ⟨rfl, hK2, hz2, hR2⟩
        have hend := brought_end hM (by omega) (by omega) hK2 hz2 hR2
        have HE : Hid (_ ∧ _) := hend
        clear hend hK2 hz2 hR2
        go_wp2
        go_ret
        exact ⟨rfl, HE.out⟩
end Go.Proofs.YtmncocmeafcpfaaDoor.Mf

/- The walks of matrix.isCode and matrix.Generator. -/
namespace Go.Proofs.YtmncocmeafcpfaaDoor.Mf
open Go.RowKit Go.Deep

set_option maxRecDepth 100000 in
set_option maxHeartbeats 800000 in
theorem isCode_yes (K M : Int) (w : World) (h1 : 1 ≤ K) (h2 : 0 ≤ M) (h3 : M ≤ 255 - K) :
    Calls Tryd.prog 134 #[.agg #[.int .i64 K, .int .i64 M]] w fun e w' => e = .returned (.bool true) ∧ Kp (fun _ => False) w w' := by
  have d1 : decide (1 ≤ K) = true := by simp; omega
  have d2 : decide (0 ≤ M) = true := by simp; omega
  have d3 : decide (M ≤ 255 - K) = true := by simp; omega
  go_enter Tryd.func134, Tryd.ntmps134
  go_wp2
  go_ret
  exact ⟨rfl, (Kp.refl _ _).alloc _⟩

/-- the rows of the code's matrix, when those up to r are filled, and c of the next -/
def genAt (K r c : Nat) : Nat → Nat → Nat := fun i j => if i < K then ones K i j else if i < r then Gf.inv (i ^^^ j) else if i = r ∧ j < c then Gf.inv (i ^^^ j) else 0
theorem genAt_lt (K r c i j : Nat) : genAt K r c i j < 256 := by
  unfold genAt; split
  · exact ones_lt _ _ _
  · split
    · exact Gf.mul_lt _ _
    · split
      · exact Gf.mul_lt _ _
      · omega

theorem genAt_start (K i j : Nat) : ones K i j = genAt K K 0 i j := by
  unfold genAt
  by_cases h : i < K
  · rw [if_pos h]
  · rw [if_neg h, if_neg h, if_neg (by omega)]
    unfold ones
    rw [if_neg (by omega)]
theorem genAt_next (K r i j : Nat) (hj : j < K) : genAt K r K i j = genAt K (r + 1) 0 i j := by
  unfold genAt
  by_cases h : i < K
  · rw [if_pos h, if_pos h]
  · rw [if_neg h, if_neg h]
    by_cases h2 : i < r
    · rw [if_pos h2, if_pos (by omega)]
    · rw [if_neg h2]
      by_cases e : i = r
      · rw [if_pos ⟨e, hj⟩, if_pos (by omega)]
      · rw [if_neg (by omega), if_neg (by omega), if_neg (by omega)]
theorem genAt_here (K r c j : Nat) (h : K ≤ r) : genAt K r (c + 1) r j = if j = c then Gf.inv (r ^^^ c) else genAt K r c r j := by
  have h1 : ¬ r < K := by omega
  have h2 : ¬ r < r := by omega
  unfold genAt
  simp only [if_neg h1, if_neg h2, true_and]
  by_cases e : j = c
  · subst e; rw [if_pos (by omega), if_pos rfl]
  · rw [if_neg e]
    by_cases h2 : j < c
    · rw [if_pos (by omega), if_pos h2]
    · rw [if_neg (by omega), if_neg h2]
theorem genAt_other (K r c i j : Nat) (h : i ≠ r) : genAt K r c i j = genAt K r (c + 1) i j := by
  unfold genAt
  rw [if_neg (c := i = r ∧ j < c) (by omega), if_neg (c := i = r ∧ j < c + 1) (by omega)]
theorem genAt_end (K M i j : Nat) (hi : i < K + M) : genAt K (K + M) 0 i j = gen K i j := by
  unfold genAt gen
  by_cases h : i < K
  · rw [if_pos h, if_pos h]
  · rw [if_neg h, if_neg h, if_pos hi]

set_option maxRecDepth 100000 in
set_option maxHeartbeats 3200000 in
theorem generator_yes (K M : Nat) (w : World) (h1 : 1 ≤ (K : Int)) (h3 : (M : Int) ≤ 255 - (K : Int)) (hp : Pows w) :
    Calls Tryd.prog 122 #[.agg #[.int .i64 K, .int .i64 M]] w fun e w' =>
      ∃ t B, e = .returned (.tuple #[.slice (some ⟨t, 0, none⟩) (K + M) (K + M), .int .i64 0]) ∧ Kp (fun _ => False) w w' ∧ Mat w' t B (K + M) K (gen K) := by
  have hgl := hp.lt
  go_enter Tryd.func122, Tryd.ntmps122
  go_wp2_with fail
  refine (isCode_yes K M _ h1 (by omega) h3).mono ?_
  rintro e w1 ⟨rfl, k1⟩
  obtain ⟨wa, hwa⟩ : ∃ x, x = w.alloc (.cells #[.int .i64 (K : Int), .int .i64 (M : Int)] 26) := ⟨_, rfl⟩
  have q1 : wa.cell? ⟨w.heap.size, 0, none⟩ = some (.int .i64 (K : Int)) := by rw [hwa]; go_simp
  have q2 : wa.cell? ⟨w.heap.size, 1, none⟩ = some (.int .i64 (M : Int)) := by rw [hwa]; go_simp
  have k0 : Kp (fun _ => False) w wa := by rw [hwa]; exact (Kp.refl _ _).alloc _
  rw [← hwa] at k1
  have r1 := k1.cellv q1 id
  have r2 := k1.cellv q2 id
  have kk := k0.trans k1 (fun _ _ e => e)
  have hp1 := kk.pows hp id
  have hsz := kk.size
  clear q1 q2 k0 hwa
  go_wp2_with fail
  rw [show (K : Int) + (M : Int) = ((K + M : Nat) : Int) from by simp]
  refine (onesAbove_any (K + M) K w1 (by omega) (by omega)).mono ?_
  rintro e w2 ⟨rfl, k2, hz2, hM2⟩
  have s1 := k2.cellv r1 id
  have s2 := k2.cellv r2 id
  go_wp2
  go_loopg [5] M (fun gk x wr => ∃ i : Nat, K ≤ i ∧ i ≤ K + M ∧ gk = K + M - i ∧ x = .int .i64 i ∧ Kp (fun _ => False) w1 wr ∧ Mat wr w1.heap.size (fun i => w1.heap.size + 1 + i) (K + M) K (genAt K i 0))
  case atStart => exact ⟨K, Nat.le_refl _, by omega, by omega, rfl, k2, hM2.top, fun i hi => (hM2.row i hi).congr (fun j _ => by simp only [By]; rw [genAt_start]), hM2.inj, hM2.ne, genAt_lt _ _ _⟩
  case round =>
    obtain ⟨i, hi1, hi2, rfl, rfl, hK, hM⟩ := hrel
    clear k2 hz2 hM2 s1 s2
    have s1 := hK.cellv r1 id
    have s2 := hK.cellv r2 id
    by_cases hlt : (i : Int) < (K : Int) + (M : Int)
    · go_wp2
      go_loopg [31] K (fun gk x wq => ∃ c : Nat, c ≤ K ∧ gk = K - c ∧ x = .int .i64 c ∧ Kp (fun _ => False) w1 wq ∧ Mat wq w1.heap.size (fun i => w1.heap.size + 1 + i) (K + M) K (genAt K i c))
      case atStart => exact ⟨0, Nat.zero_le _, rfl, rfl, hK, hM⟩
      case round =>
        obtain ⟨c, hc, rfl, rfl, hK2, hM2⟩ := hrel
        clear hK hM s1 s2
        by_cases hlc : (c : Int) < (K : Int)
        · have e1 := hM2.top.cell (i := i) (by omega)
          have e2 := (hM2.row i (by omega)).cell (i := c) (by omega)
          have e3 := (hM2.row i (by omega)).frozen c
          have hb1 : (i : Int) < 256 := by omega
          have hb2 : (c : Int) < 256 := by omega
          have hx := xor8 (show i < 256 by omega) (show c < 256 by omega)
          have hx0 : i ^^^ c ≠ 0 := xor_ne (by omega)
          have HX : Hid (i ^^^ c ≠ 0) := hx0
          have hpr := hK2.pows hp1 id
          have hw1 : IntKind.u8.wrap (i : Int) = (i : Int) := by rw [IntKind.wrap_u8']; omega
          have hw2 : IntKind.u8.wrap (c : Int) = (c : Int) := by rw [IntKind.wrap_u8']; omega
          simp only [By] at e2
          clear hx0
          go_wp2
          go_region_with
            (first
              | (go_at_call 137; refine (add_nat i c _ hb1 hb2).mono ?_; rintro e w' ⟨rfl, rfl⟩)
              | (go_at_call 136; refine (inv_some (i ^^^ c) _ hx HX.out (by exact hpr.heap rfl)).mono ?_; rintro e w' ⟨rfl, m, rfl⟩))
          all_goals
            go_wp2
            go_roundg (K - (c + 1))
            case rel => exact ⟨c + 1, by omega, rfl, by go_num, (hK2.drewN _).setCell (fun h => absurd h (by show ¬ w1.heap.size + 1 + i < w1.heap.size; omega)) _,
              (rowIs_drewN hM2.top _).setOther (by show w1.heap.size ≠ w1.heap.size + 1 + i; omega) _, fun r hr => by
                by_cases e : r = i
                · subst e
                  exact ((rowIs_drewN (hM2.row r hr) _).set c _).congr (fun j _ => by
                    simp only [By]
                    rw [genAt_here _ _ _ _ hi1]
                    split <;> rfl)
                · exact ((rowIs_drewN (hM2.row r hr) _).setOther (by show w1.heap.size + 1 + r ≠ w1.heap.size + 1 + i; omega) _).congr (fun j _ => by simp only [By]; rw [genAt_other _ _ _ _ _ e]), hM2.inj, hM2.ne, genAt_lt _ _ _⟩
            case measure => omega
        · have e : c = K := by omega
          subst e
          have s1 := hK2.cellv r1 id
          have s2 := hK2.cellv r2 id
          go_wp2
          go_roundg (c + M - (i + 1))
          case rel => exact ⟨i + 1, by omega, by omega, rfl, by go_num, hK2, hM2.top, fun r hr => (hM2.row r hr).congr (fun j hj => by simp only [By]; rw [genAt_next _ _ _ _ hj]), hM2.inj, hM2.ne, genAt_lt _ _ _⟩
          case measure => omega
    · have e : i = K + M := by omega
      subst e
      go_wp2
      go_ret2
      exact ⟨_, rfl, kk.trans hK (fun _ _ e => e), _, hM.top, fun r hr => (hM.row r hr).congr (fun j _ => by simp only [By]; rw [genAt_end _ _ _ _ hr]), hM.inj, hM.ne, gen_lt K⟩
end Go.Proofs.YtmncocmeafcpfaaDoor.Mf

/- The walk of reed.Encode. -/
namespace Go.Proofs.YtmncocmeafcpfaaDoor.Mf
open Go.RowKit Go.Deep

theorem thereTo_all {L : Nat → Nat} {k : Nat} (h : ∀ r, r < k → 0 < L r) : thereTo L k = List.range k := by
  unfold thereTo
  exact List.filter_eq_self.2 (fun r hr => by simpa using h r (List.mem_range.1 hr))
theorem len0_all {L : Nat → Nat} {k n : Nat} (hn : 0 < n) (hk : 0 < k) (h : ∀ r, r < k → L r = n) : len0 L k = n := by
  unfold len0
  rw [thereTo_all (fun r hr => by rw [h r hr]; exact hn)]
  have : (List.range k).headD 0 = 0 := by
    cases k with
    | zero => omega
    | succ k => rw [List.range_succ_eq_map]; rfl
  rw [this, h 0 hk]
theorem alike_all {L : Nat → Nat} {k n : Nat} (hn : 0 < n) (hk : 0 < k) (h : ∀ r, r < k → L r = n) : alikeTo L k k = true :=
  decide_eq_true (fun r hr => Or.inr (by rw [h r hr, len0_all hn hk h]))

set_option maxRecDepth 100000 in
set_option maxHeartbeats 1600000 in
theorem encode_yes (K M n : Nat) (s : Sh) (w : World) (hs : Rd w s) (hG : s.G = K) (hL : ∀ r, r < K → s.L r = n) (h1 : 1 ≤ (K : Int)) (h3 : (M : Int) ≤ 255 - (K : Int)) (hp : Pows w) (hn : (n : Int) ≤ 1000000) (hn1 : 1 ≤ (n : Int)) :
    Calls Tryd.prog 118 #[.agg #[.int .i64 K, .int .i64 M], .slice s.g K s.cap] w fun e w' =>
      ∃ t B, e = .returned (.tuple #[.slice (some ⟨t, 0, none⟩) (K + M) (K + M), .int .i64 0]) ∧ Kp (fun _ => False) w w' ∧ w.heap.size ≤ t ∧ (∀ i, i < K + M → w.heap.size ≤ B i) ∧ Mat w' t B (K + M) n (enc K s.M) := by
  subst hG
  obtain ⟨wa, hwa⟩ : ∃ x, x = w.alloc (.cells #[.int .i64 (s.G : Int), .int .i64 (M : Int)] 26) := ⟨_, rfl⟩
  have q1 : wa.cell? ⟨w.heap.size, 0, none⟩ = some (.int .i64 (s.G : Int)) := by rw [hwa]; go_simp
  have q2 : wa.cell? ⟨w.heap.size, 1, none⟩ = some (.int .i64 (M : Int)) := by rw [hwa]; go_simp
  have k0 : Kp (fun _ => False) w wa := by rw [hwa]; exact (Kp.refl _ _).alloc _
  have HC : Hid (Calls _ _ _ wa _) := can_yes s.G M wa h1 (by omega) h3
  have HL : Hid (∀ r, r < s.G → s.L r = n) := hL
  have hnn : ((s.G : Int) != (s.G : Int)) = false := bne_self_eq_false _
  clear hL
  go_enter Tryd.func118, Tryd.ntmps118
  go_wp2_with fail
  rw [← hwa]
  refine HC.out.mono ?_
  rintro e w1 ⟨rfl, k1⟩
  have r1 := k1.cellv q1 id
  have r2 := k1.cellv q2 id
  have kk := k0.trans k1 (fun _ _ e => e)
  clear HC q1 q2 k0 k1 hwa
  have HK : Hid (Calls _ _ _ w1 _) := look_any s w1 (hs.keep kk) (by omega) h1
  rw [alike_all (by omega) (by omega) HL.out, thereTo_all (L := s.L) (k := s.G) (fun r hr => by rw [HL.out r hr]; omega)] at HK
  go_wp2_with fail
  refine HK.out.mono ?_
  rintro e w2 ⟨v, rfl, k2, pa, ba, cv, rfl, _, _⟩
  rw [List.length_range]
  have s1 := k2.cellv r1 id
  have s2 := k2.cellv r2 id
  have kk2 := kk.trans k2 (fun _ _ e => e)
  clear HK r1 r2
  have HG : Hid (Calls _ _ _ w2 _) := generator_yes s.G M w2 h1 h3 (kk2.pows hp id)
  go_wp2_with fail
  refine HG.out.mono ?_
  rintro e w3 ⟨t, B, rfl, k3, hM⟩
  have kk3 := kk2.trans k3 (fun _ _ e => e)
  clear HG
  have HA : Hid (Calls _ _ _ w3 _) := mixAll_any (ofMat t B (s.G + M) s.G (gen s.G)) s n w3 hM.rd (hs.keep kk3) (fun _ _ => rfl) HL.out (by show ((s.G + M : Nat) : Int) ≤ 1000; omega) (by show 1 ≤ ((s.G + M : Nat) : Int); omega) (by omega) h1 (kk3.pows hp id) hn hn1
  go_wp2_with fail
  refine HA.out.mono ?_
  rintro e w4 ⟨B', rfl, hP⟩
  go_wp2
  go_ret2
  have hz := kk3.size
  refine ⟨_, B', rfl, kk3.trans hP.kept (fun _ _ e => e), by omega, fun i hi => by have := hP.lo i hi; omega, hP.mat (fun i j => prodTo_lt _ _ _ _ _)⟩
end Go.Proofs.YtmncocmeafcpfaaDoor.Mf

/- Maps that are empty, lists of none (laid by scripts/mkwf.py). -/
import Derived.Test.YtfeecopjacpjnaaGreatWe
import Derived.Test.YtfeecopjacpjnaaGreatJb
namespace Go.Proofs.YtfeecopjacpjnaaGreat
set_option linter.unusedVariables false
set_option linter.unusedSimpArgs false
open Go.RowKit Go.Deep Go.Maps

/-- block m is a map of none, by keys of type k -/
def Em (w : World) (k : TypeId) (m : Nat) : Prop := ∃ q, w.ownsMap Tryz.prog k idR m q (.map [])
theorem Em.lt {w : World} {k : TypeId} {m : Nat} (h : Em w k m) : m < w.heap.size := by obtain ⟨q, h⟩ := h; exact h.lt
theorem Em.keep {S : Nat → Prop} {w w' : World} {k : TypeId} {m : Nat} (h : Em w k m) (kk : Kp S w w') (hS : ¬ S m) : Em w' k m := by
  have hlt := h.lt
  obtain ⟨q, es, clock, hb, r⟩ := h
  exact ⟨q, es, clock, (kk.block m hlt hS).trans hb, r⟩
theorem Em.made (w : World) (k : TypeId) : Em (w.alloc (.map #[] 0)) k w.heap.size := ⟨0, World.ownsMap_made w _ _ _⟩
theorem strLz : Keyed Tryz.prog 9 := string_keyed Tryz.underlying9
theorem em_size : Maps.size (DataW.map [] : DataW Value) = 0 := rfl

set_option maxRecDepth 100000 in
set_option maxHeartbeats 800000 in
theorem meq_si (m1 m2 : Nat) (w : World) (h1 : Em w 9 m1) (h2 : Em w 9 m2) : Calls Tryz.prog 67 #[.map (some m1), .map (some m2)] w fun e w' => e = .returned (.bool true) ∧ Kp (fun _ => False) w w' := by
  obtain ⟨q1, o1⟩ := h1
  obtain ⟨q2, o2⟩ := h2
  have H1 : Hid (w.ownsMap Tryz.prog 9 idR m1 q1 (.map [])) := o1
  have H2 : Hid (w.ownsMap Tryz.prog 9 idR m2 q2 (.map [])) := o2
  clear o1 o2
  go_enter Tryz.func67, Tryz.ntmps67
  go_wp2_with (first
    | (at_len; refine wpList_len_own _ rfl _ 32 rfl 9 3 Tryz.underlying32 _ m1 q1 _ rfl H1.out ?_; rw [em_size])
    | (at_len; refine wpList_len_own _ rfl _ 32 rfl 9 3 Tryz.underlying32 _ m2 q2 _ rfl H2.out ?_; rw [em_size])
    | (at_range; refine wpList_range_own _ rfl _ 32 rfl 9 3 strLz Tryz.underlying32 _ m1 q1 _ rfl H1.out ?_; intro w5 hrg5 hg5 hs5)
    | fail)
  have HKr : Hid (Kp (fun _ => False) w w5) := (grownBy_kp hg5).mono (fun b _ e => by cases e)
  obtain ⟨rr, hrr⟩ : ∃ b, b = w.heap.size := ⟨_, rfl⟩
  rw [← hrr] at hrg5 ⊢
  have HRg : Hid (w5.ranges Tryz.prog 9 idR m1 rr q1 (.map []) (Maps.has (.map [])) 0) := hrg5
  clear hrr hrg5 hg5 hs5
  simp only [Act.put, List.setIfInBounds_toArray, List.set_cons_succ, List.set_cons_zero]
  go_loopg [] 0 (fun gk wz => gk = 0 ∧ w5 = wz)
  case atStart => exact ⟨rfl, rfl⟩
  case round =>
    obtain ⟨-, rfl⟩ := hrel
    go_wp2_with (at_next; refine wpList_next_ranges _ rfl _ rfl 9 strLz idR (fun x : Value => x) id (fun key kl hk => ⟨key, rfl⟩) (fun v _ _ => ⟨v, rfl⟩) m1 rr q1 _ _ _ rfl HRg.out ?_ ?_)
    intro hl0
    clear hl0
    go_wp2
    go_ret
    exact ⟨rfl, HKr.out⟩

set_option maxRecDepth 100000 in
set_option maxHeartbeats 800000 in
theorem meq_is (m1 m2 : Nat) (w : World) (h1 : Em w 3 m1) (h2 : Em w 3 m2) : Calls Tryz.prog 48 #[.map (some m1), .map (some m2)] w fun e w' => e = .returned (.bool true) ∧ Kp (fun _ => False) w w' := by
  obtain ⟨q1, o1⟩ := h1
  obtain ⟨q2, o2⟩ := h2
  have H1 : Hid (w.ownsMap Tryz.prog 3 idR m1 q1 (.map [])) := o1
  have H2 : Hid (w.ownsMap Tryz.prog 3 idR m2 q2 (.map [])) := o2
  clear o1 o2
  go_enter Tryz.func48, Tryz.ntmps48
  go_wp2_with (first
    | (at_len; refine wpList_len_own _ rfl _ 36 rfl 3 106 Tryz.underlying36 _ m1 q1 _ rfl H1.out ?_; rw [em_size])
    | (at_len; refine wpList_len_own _ rfl _ 36 rfl 3 106 Tryz.underlying36 _ m2 q2 _ rfl H2.out ?_; rw [em_size])
    | (at_range; refine wpList_range_own _ rfl _ 36 rfl 3 106 intLaw Tryz.underlying36 _ m1 q1 _ rfl H1.out ?_; intro w5 hrg5 hg5 hs5)
    | fail)
  have HKr : Hid (Kp (fun _ => False) w w5) := (grownBy_kp hg5).mono (fun b _ e => by cases e)
  obtain ⟨rr, hrr⟩ : ∃ b, b = w.heap.size := ⟨_, rfl⟩
  rw [← hrr] at hrg5 ⊢
  have HRg : Hid (w5.ranges Tryz.prog 3 idR m1 rr q1 (.map []) (Maps.has (.map [])) 0) := hrg5
  clear hrr hrg5 hg5 hs5
  simp only [Act.put, List.setIfInBounds_toArray, List.set_cons_succ, List.set_cons_zero]
  go_loopg [] 0 (fun gk wz => gk = 0 ∧ w5 = wz)
  case atStart => exact ⟨rfl, rfl⟩
  case round =>
    obtain ⟨-, rfl⟩ := hrel
    go_wp2_with (at_next; refine wpList_next_ranges _ rfl _ rfl 3 intLaw idR (fun x : Value => x) id (fun key kl hk => ⟨key, rfl⟩) (fun v _ _ => ⟨v, rfl⟩) m1 rr q1 _ _ _ rfl HRg.out ?_ ?_)
    intro hl0
    clear hl0
    go_wp2
    go_ret
    exact ⟨rfl, HKr.out⟩

set_option maxRecDepth 100000 in
set_option maxHeartbeats 800000 in
theorem meq_ib (m1 m2 : Nat) (fv : Value) (w : World) (h1 : Em w 3 m1) (h2 : Em w 3 m2) : Calls Tryz.prog 68 #[.map (some m1), .map (some m2), fv] w fun e w' => e = .returned (.bool true) ∧ Kp (fun _ => False) w w' := by
  obtain ⟨q1, o1⟩ := h1
  obtain ⟨q2, o2⟩ := h2
  have H1 : Hid (w.ownsMap Tryz.prog 3 idR m1 q1 (.map [])) := o1
  have H2 : Hid (w.ownsMap Tryz.prog 3 idR m2 q2 (.map [])) := o2
  clear o1 o2
  go_enter Tryz.func68, Tryz.ntmps68
  go_wp2_with (first
    | (at_len; refine wpList_len_own _ rfl _ 33 rfl 3 74 Tryz.underlying33 _ m1 q1 _ rfl H1.out ?_; rw [em_size])
    | (at_len; refine wpList_len_own _ rfl _ 33 rfl 3 74 Tryz.underlying33 _ m2 q2 _ rfl H2.out ?_; rw [em_size])
    | (at_range; refine wpList_range_own _ rfl _ 33 rfl 3 74 intLaw Tryz.underlying33 _ m1 q1 _ rfl H1.out ?_; intro w5 hrg5 hg5 hs5)
    | fail)
  have HKr : Hid (Kp (fun _ => False) w w5) := (grownBy_kp hg5).mono (fun b _ e => by cases e)
  obtain ⟨rr, hrr⟩ : ∃ b, b = w.heap.size := ⟨_, rfl⟩
  rw [← hrr] at hrg5 ⊢
  have HRg : Hid (w5.ranges Tryz.prog 3 idR m1 rr q1 (.map []) (Maps.has (.map [])) 0) := hrg5
  clear hrr hrg5 hg5 hs5
  simp only [Act.put, List.setIfInBounds_toArray, List.set_cons_succ, List.set_cons_zero]
  go_loopg [] 0 (fun gk wz => gk = 0 ∧ w5 = wz)
  case atStart => exact ⟨rfl, rfl⟩
  case round =>
    obtain ⟨-, rfl⟩ := hrel
    go_wp2_with (at_next; refine wpList_next_ranges _ rfl _ rfl 3 intLaw idR (fun x : Value => x) id (fun key kl hk => ⟨key, rfl⟩) (fun v _ _ => ⟨v, rfl⟩) m1 rr q1 _ _ _ rfl HRg.out ?_ ?_)
    intro hl0
    clear hl0
    go_wp2
    go_ret
    exact ⟨rfl, HKr.out⟩

set_option maxRecDepth 100000 in
set_option maxHeartbeats 800000 in
theorem eqn_ints (w : World) : Calls Tryz.prog 53 #[.slice none 0 0, .slice none 0 0] w fun e w' => e = .returned (.bool true) ∧ Kp (fun _ => False) w w' := by
  go_enter Tryz.func53, Tryz.ntmps53
  go_wp2_with fail
  go_loopg [13] 0 (fun gk iv wz => gk = 0 ∧ iv = .int .i64 0 ∧ w = wz)
  case atStart => exact ⟨rfl, rfl, rfl⟩
  case round =>
    obtain ⟨-, rfl, rfl⟩ := hrel
    go_wp2_with fail
    go_ret
    exact ⟨rfl, Kp.refl _ _⟩

set_option maxRecDepth 100000 in
set_option maxHeartbeats 800000 in
theorem eqn_moves (w : World) : Calls Tryz.prog 70 #[.slice none 0 0, .slice none 0 0] w fun e w' => e = .returned (.bool true) ∧ Kp (fun _ => False) w w' := by
  go_enter Tryz.func70, Tryz.ntmps70
  go_wp2_with fail
  go_loopg [13] 0 (fun gk iv wz => gk = 0 ∧ iv = .int .i64 0 ∧ w = wz)
  case atStart => exact ⟨rfl, rfl, rfl⟩
  case round =>
    obtain ⟨-, rfl, rfl⟩ := hrel
    go_wp2_with fail
    go_ret
    exact ⟨rfl, Kp.refl _ _⟩

set_option maxRecDepth 100000 in
set_option maxHeartbeats 800000 in
theorem eqn_recs (fv : Value) (w : World) : Calls Tryz.prog 71 #[.slice none 0 0, .slice none 0 0, fv] w fun e w' => e = .returned (.bool true) ∧ Kp (fun _ => False) w w' := by
  go_enter Tryz.func71, Tryz.ntmps71
  go_wp2_with fail
  go_loopg [17] 0 (fun gk iv wz => gk = 0 ∧ iv = .int .i64 0 ∧ w = wz)
  case atStart => exact ⟨rfl, rfl, rfl⟩
  case round =>
    obtain ⟨-, rfl, rfl⟩ := hrel
    go_wp2_with fail
    go_ret
    exact ⟨rfl, Kp.refl _ _⟩

set_option maxRecDepth 100000 in
set_option maxHeartbeats 800000 in
theorem can10 (w : World) : Calls Tryz.prog 49 #[.agg #[.int .i64 1, .int .i64 0]] w fun e w' => e = .returned (.bool true) ∧ Kp (fun _ => False) w w' := by
  go_enter Tryz.func49, Tryz.ntmps49
  go_wp2_with fail
  go_ret
  exact ⟨rfl, (Kp.refl _ _).alloc _⟩

set_option maxRecDepth 100000 in
set_option maxHeartbeats 800000 in
theorem len64_0 (w : World) : Calls Tryz.prog 96 #[.int .u64 0] w fun e w' => e = .returned (.int .i64 0) ∧ Kp (fun _ => False) w w' := by
  go_enter Tryz.func96, Tryz.ntmps96
  go_wp2_with fail
  go_ret
  exact ⟨by kernel_rfl, Kp.refl _ _⟩

set_option maxRecDepth 100000 in
set_option maxHeartbeats 800000 in
theorem len_0 (w : World) : Calls Tryz.prog 55 #[.int .u64 0] w fun e w' => e = .returned (.int .i64 0) ∧ Kp (fun _ => False) w w' := by
  have H : Hid (∀ u, Calls _ _ _ u _) := len64_0
  go_enter Tryz.func55, Tryz.ntmps55
  go_wp2_with (go_at_call 96; refine (H.out _).mono ?_; rintro e9 w1 ⟨rfl, k1⟩)
  go_ret
  exact ⟨rfl, k1⟩

set_option maxRecDepth 100000 in
set_option maxHeartbeats 800000 in
theorem sblob0 (w : World) : Calls Tryz.prog 24 #[.agg #[.int .i64 0, .int .i64 0, .int .u32 0, .int .i64 0, .int .i64 0, .slice none 0 0], .agg #[.int .i64 0, .int .i64 0, .int .u32 0, .int .i64 0, .int .i64 0, .slice none 0 0]] w fun e w' => e = .returned (.bool true) ∧ Kp (fun _ => False) w w' := by
  have H : Hid (∀ u, Calls _ _ _ u _) := eqn_ints
  have HK : Hid (Kp (fun _ => False) w ((w.alloc (.cells #[.int .i64 0, .int .i64 0, .int .u32 0, .int .i64 0, .int .i64 0, .slice none 0 0] 41)).alloc (.cells #[.int .i64 0, .int .i64 0, .int .u32 0, .int .i64 0, .int .i64 0, .slice none 0 0] 41))) := ((Kp.refl _ _).alloc _).alloc _
  go_enter Tryz.func24, Tryz.ntmps24
  go_wp2_with (go_at_call 53; refine (H.out _).mono ?_; rintro e9 w1 ⟨rfl, k1⟩)
  go_ret
  exact ⟨rfl, HK.out.trans k1 (fun _ _ e => e)⟩

set_option maxRecDepth 100000 in
set_option maxHeartbeats 800000 in
theorem sout0 (w : World) : Calls Tryz.prog 7 #[.agg #[.int .i64 0, .int .i64 0, .int .i64 0, .int .u32 0, .int .i64 0, .int .i64 0, .slice none 0 0, .int .i64 0], .agg #[.int .i64 0, .int .i64 0, .int .i64 0, .int .u32 0, .int .i64 0, .int .i64 0, .slice none 0 0, .int .i64 0]] w fun e w' => e = .returned (.bool true) ∧ Kp (fun _ => False) w w' := by
  have H : Hid (∀ u, Calls _ _ _ u _) := sblob0
  have HK : Hid (Kp (fun _ => False) w ((w.alloc (.cells #[.int .i64 0, .int .i64 0, .int .i64 0, .int .u32 0, .int .i64 0, .int .i64 0, .slice none 0 0, .int .i64 0] 43)).alloc (.cells #[.int .i64 0, .int .i64 0, .int .i64 0, .int .u32 0, .int .i64 0, .int .i64 0, .slice none 0 0, .int .i64 0] 43))) := ((Kp.refl _ _).alloc _).alloc _
  go_enter Tryz.func7, Tryz.ntmps7
  go_wp2_with (go_at_call 24; refine (H.out _).mono ?_; rintro e9 w1 ⟨rfl, k1⟩)
  go_ret
  exact ⟨rfl, HK.out.trans k1 (fun _ _ e => e)⟩

set_option maxRecDepth 100000 in
set_option maxHeartbeats 800000 in
theorem ins0_mv (fv : Value) (w : World) : Calls Tryz.prog 148 #[.slice none 0 0, .int .i64 0, .int .i64 0, fv] w fun e w' => (∃ v, e = .returned v) ∧ Kp (fun _ => False) w w' := by
  go_enter Tryz.func148, Tryz.ntmps148
  go_wp2_with fail
  go_loopg [8] 0 (fun gk iv wz => gk = 0 ∧ iv = .int .i64 1 ∧ w = wz)
  case atStart => exact ⟨rfl, rfl, rfl⟩
  case round =>
    obtain ⟨-, rfl, rfl⟩ := hrel
    go_wp2_with fail
    go_end0
    exact ⟨⟨_, rfl⟩, Kp.refl _ _⟩

set_option maxRecDepth 100000 in
set_option maxHeartbeats 800000 in
theorem pdq0_mv (fv : Value) (w : World) : Calls Tryz.prog 135 #[.slice none 0 0, .int .i64 0, .int .i64 0, .int .i64 0, fv] w fun e w' => (∃ v, e = .returned v) ∧ Kp (fun _ => False) w w' := by
  have H : Hid (∀ u, Calls _ _ _ u _) := ins0_mv fv
  go_enter Tryz.func135, Tryz.ntmps135
  go_wp2_with fail
  go_loopg [1, 2, 3] 0 (fun gk v1 v2 v3 wz => gk = 0 ∧ v1 = .int .i64 0 ∧ v2 = .int .i64 0 ∧ v3 = .int .i64 0 ∧ w = wz)
  case atStart => exact ⟨rfl, rfl, rfl, rfl, rfl⟩
  case round =>
    obtain ⟨-, rfl, rfl, rfl, rfl⟩ := hrel
    go_wp2_with (go_at_call 148; refine (H.out _).mono ?_; rintro e9 w1 ⟨⟨v9, rfl⟩, k1⟩)
    refine bodyPost_ret (results_none rfl _ _ _) rfl ?_
    exact ⟨⟨_, rfl⟩, k1⟩

set_option maxRecDepth 100000 in
set_option maxHeartbeats 800000 in
theorem sort0_mv (fv : Value) (w : World) : Calls Tryz.prog 99 #[.slice none 0 0, fv] w fun e w' => (∃ v, e = .returned v) ∧ Kp (fun _ => False) w w' := by
  have H : Hid (∀ u, Calls _ _ _ u _) := pdq0_mv fv
  have HL : Hid (∀ u, Calls _ _ _ u _) := len_0
  go_enter Tryz.func99, Tryz.ntmps99
  go_wp2_with (first
    | (go_at_call 55; refine (HL.out _).mono ?_; rintro e9 w1 ⟨rfl, k1⟩)
    | (go_at_call 135; refine (H.out _).mono ?_; rintro e9 w2 ⟨⟨v9, rfl⟩, k2⟩)
    | fail)
  go_end0
  exact ⟨⟨_, rfl⟩, k1.trans k2 (fun _ _ e => e)⟩

set_option maxRecDepth 100000 in
set_option maxHeartbeats 800000 in
theorem ins0_rc (fv : Value) (w : World) : Calls Tryz.prog 156 #[.slice none 0 0, .int .i64 0, .int .i64 0, fv] w fun e w' => (∃ v, e = .returned v) ∧ Kp (fun _ => False) w w' := by
  go_enter Tryz.func156, Tryz.ntmps156
  go_wp2_with fail
  go_loopg [8] 0 (fun gk iv wz => gk = 0 ∧ iv = .int .i64 1 ∧ w = wz)
  case atStart => exact ⟨rfl, rfl, rfl⟩
  case round =>
    obtain ⟨-, rfl, rfl⟩ := hrel
    go_wp2_with fail
    go_end0
    exact ⟨⟨_, rfl⟩, Kp.refl _ _⟩

set_option maxRecDepth 100000 in
set_option maxHeartbeats 800000 in
theorem pdq0_rc (fv : Value) (w : World) : Calls Tryz.prog 137 #[.slice none 0 0, .int .i64 0, .int .i64 0, .int .i64 0, fv] w fun e w' => (∃ v, e = .returned v) ∧ Kp (fun _ => False) w w' := by
  have H : Hid (∀ u, Calls _ _ _ u _) := ins0_rc fv
  go_enter Tryz.func137, Tryz.ntmps137
  go_wp2_with fail
  go_loopg [1, 2, 3] 0 (fun gk v1 v2 v3 wz => gk = 0 ∧ v1 = .int .i64 0 ∧ v2 = .int .i64 0 ∧ v3 = .int .i64 0 ∧ w = wz)
  case atStart => exact ⟨rfl, rfl, rfl, rfl, rfl⟩
  case round =>
    obtain ⟨-, rfl, rfl, rfl, rfl⟩ := hrel
    go_wp2_with (go_at_call 156; refine (H.out _).mono ?_; rintro e9 w1 ⟨⟨v9, rfl⟩, k1⟩)
    refine bodyPost_ret (results_none rfl _ _ _) rfl ?_
    exact ⟨⟨_, rfl⟩, k1⟩

set_option maxRecDepth 100000 in
set_option maxHeartbeats 800000 in
theorem sort0_rc (fv : Value) (w : World) : Calls Tryz.prog 102 #[.slice none 0 0, fv] w fun e w' => (∃ v, e = .returned v) ∧ Kp (fun _ => False) w w' := by
  have H : Hid (∀ u, Calls _ _ _ u _) := pdq0_rc fv
  have HL : Hid (∀ u, Calls _ _ _ u _) := len_0
  go_enter Tryz.func102, Tryz.ntmps102
  go_wp2_with (first
    | (go_at_call 55; refine (HL.out _).mono ?_; rintro e9 w1 ⟨rfl, k1⟩)
    | (go_at_call 137; refine (H.out _).mono ?_; rintro e9 w2 ⟨⟨v9, rfl⟩, k2⟩)
    | fail)
  go_end0
  exact ⟨⟨_, rfl⟩, k1.trans k2 (fun _ _ e => e)⟩

end Go.Proofs.YtfeecopjacpjnaaGreat

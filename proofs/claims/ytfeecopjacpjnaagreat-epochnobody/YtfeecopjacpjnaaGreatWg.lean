/- Jobs of an empty map, in order: none (laid by scripts/mkwg.py). -/
import Derived.Test.YtfeecopjacpjnaaGreatWf
import Derived.RangeFuncBox
import Derived.RangeFuncLeaves
import Derived.RangeFuncKeeps
import Derived.RangeFuncWrites
import Derived.Sort.MapsRangeIn
import Derived.Shelf.Abstract
import Derived.OwnWalkIn
import Derived.TacticsInMore
import Derived.LoopNIn
import Derived.LoopIn
namespace Go.Proofs.YtfeecopjacpjnaaGreat
set_option linter.unusedVariables false
set_option linter.unusedSimpArgs false
open Go.RowKit Go.Deep Go.Maps Go.Shelf

set_option maxRecDepth 100000 in
set_option maxHeartbeats 2000000 in
theorem vz1_mv (F : Fence) (n : Nat) (h7 : F.fn 100) (hro : F.round = none) (l Bm m q : Nat) (J : List Empty → World → Prop) (W : World) (hJ : AbidesFrom W.heap.size J) (hm : W.cell? ⟨Bm, 0, none⟩ = some (.map (some m))) (hown : W.ownsMap Tryz.prog 84 idR m q (.map [])) (h0 : J [] W) :
    CallsIn F n Tryz.prog 100 #[.func (.yield l) #[] #[], .pointer (some ⟨Bm, 0, none⟩)] W fun e W' => (∃ v, e = .returned v) ∧ J [] W' := by
  refine callsIn_of_wp Tryz.func100 rfl h7 ?_ hro
  simp only [Tryz.ntmps100, List.size_toArray, List.length_cons, List.length_nil, Nat.reduceAdd, Nat.reduceSub, Array.replicate_succ, Array.replicate_zero, List.push_toArray, List.append_toArray, List.nil_append, List.cons_append]
  gi_wp2_with (first
    | (gi_at_range; refine wpListIn_range_own _ rfl _ 34 rfl 84 96 p2Law Tryz.underlying34 _ m q _ rfl hown ?_; intro w0 hrg0 hg0 hs0)
    | gi_in)
  go_frame
  have HJ0 : Hid (J [] w0) := hJ [] W w0 none h0 hg0 (fun r e => by cases e)
  have HRg : Hid (w0.ranges Tryz.prog 84 idR m W.heap.size q (.map []) (Maps.has (.map [])) 0) := hrg0
  clear hJ hown h0 hrg0 hg0 hs0 hm
  refine wpIn_loop_rounds 1 ?_
  rw [roundsIn_succ]
  gi_wp2_with (first
    | (gi_at_next; refine wpListIn_next_ranges _ rfl _ rfl 84 p2Law idR (fun x : Value => x) id (fun key kl hk => ⟨key, rfl⟩) (fun v _ _ => ⟨v, rfl⟩) m W.heap.size q _ _ _ rfl HRg.out ?_ ?_)
    | gi_in)
  intro hl0
  clear hl0
  gi_wp2
  go_end0
  exact ⟨⟨_, rfl⟩, HJ0.out⟩

theorem vz_stops_mv (F : Fence) (n : Nat) (h7 : F.fn 100) (hro : F.round = none) (Bm m q n₀ : Nat) (w : World) (hBm : Bm < w.heap.size) (hm : w.cell? ⟨Bm, 0, none⟩ = some (.map (some m))) (hown : w.ownsMap Tryz.prog 84 idR m q (.map [])) :
    SeqStopsK F n Tryz.prog 100 #[.pointer (some ⟨Bm, 0, none⟩)] (fun x : Empty => (x.elim : Array Value)) (Below n₀) (fun _ => True) (fun _ => False) 0 w := fun l J Jx W hW hJ _ _ h0 => by
  have hown' : W.ownsMap Tryz.prog 84 idR m q (.map []) := by
    have hbl := hown.lt
    obtain ⟨es, clock, hb, Ft, hs, hD⟩ := hown
    exact ⟨es, clock, (hW.block m hbl).trans hb, Ft, hs, hD⟩
  refine (vz1_mv F n h7 hro l Bm m q J W hJ ((hW.cell (p := ⟨Bm, 0, none⟩) hBm).trans hm) hown' h0).mono ?_
  rintro e W' ⟨he, hj⟩
  exact ⟨he, .inl ⟨[], trivial, hj⟩⟩

set_option maxRecDepth 100000 in
set_option maxHeartbeats 2000000 in
theorem apz_mv (Bm m q : Nat) (w : World) (hBm : Bm < w.heap.size) (hm : w.cell? ⟨Bm, 0, none⟩ = some (.map (some m))) (hown : w.ownsMap Tryz.prog 84 idR m q (.map [])) :
    CallsIn Fence.wide 4 Tryz.prog 134 #[.slice none 0 0, .func (.func 100) #[] #[.pointer (some ⟨Bm, 0, none⟩)]] w fun e w' => e = .returned (.slice none 0 0) ∧ Below w.heap.size w w' := by
  have hb0 : Below w.heap.size w (w.alloc (.cells #[.slice none 0 0] 122)) := (Below.refl _ w).alloc (Nat.le_refl _) _
  have hown' : (w.alloc (.cells #[.slice none 0 0] 122)).ownsMap Tryz.prog 84 idR m q (.map []) := by
    have hbl := hown.lt
    obtain ⟨es, clock, hb, Ft, hs, hD⟩ := hown
    exact ⟨es, clock, (hb0.block m hbl).trans hb, Ft, hs, hD⟩
  have hseq := vz_stops_mv Fence.wide 3 trivial rfl Bm m q w.heap.size (w.alloc (.cells #[.slice none 0 0] 122)) (by simp; omega) ((hb0.cell (p := ⟨Bm, 0, none⟩) hBm).trans hm) hown'
  clear hown hown' hm
  refine callsIn_of_wp_marks Tryz.func134 rfl trivial ?_ rfl
  simp only [Tryz.ntmps134, List.size_toArray, List.length_cons, List.length_nil, Nat.reduceAdd, Nat.reduceSub, Array.replicate_succ, Array.replicate_zero, List.push_toArray, List.append_toArray, List.nil_append, List.cons_append]
  gi_wp2
  refine wpIn_rangeFunc_ownG rfl (by omega) (gf := 100) (lb := #[.pointer (some ⟨Bm, 0, none⟩)]) rfl trivial (enters_of Tryz.func100 (by kernel_rfl) rfl)
    hseq belowK_t (belowK_b (by simp)) (Below.refl _ _) (fun x => x.elim)
    (fun pre W => (∃ v, Boxed W w.heap.size 122 v ∧ W.ownsRow w.heap.size 96 4 v 0 [] ∧ v = .slice none 0 0) ∧ Below w.heap.size w W)
    (fun _ _ _ => False)
    (OwnFrom.and (Own.from (holdsRow_own w.heap.size w.heap.size 122 96 4 (fun _ : List Empty => 0) (fun _ => []) (fun _ v => v = .slice none 0 0)) _) (ownFrom_below (Nat.le_refl _) (by simp)))
    (fun _ _ _ _ _ hs _ _ => hs)
    ⟨⟨_, Boxed.new w _ _, World.ownsRow_nil _ _ _ _, rfl⟩, hb0⟩
    (fun x => x.elim) ?assign ?body ?done ?stop
  case assign => exact fun l x => x.elim
  case body => exact fun l pre x => x.elim
  case done =>
    rintro D ys W hD _ ⟨⟨v, hv, hrow, rfl⟩, hB⟩ hK
    have hc3 := hv.cell
    gi_wp2
    refine ⟨by simp, .inl ⟨_, _, rfl, run_takeDeferred hK, ?_⟩⟩
    exact ⟨_, results_tmp rfl _ _ _, rfl, hB.trans (belowK_b (w := w) (Nat.le_refl _) W D _ _ (by simp at hD; omega) hK rfl rfl)⟩
  case stop =>
    rintro D c pre W _ _ h _
    exact h.elim

set_option maxRecDepth 100000 in
set_option maxHeartbeats 2000000 in
theorem col_mv (Bm m q : Nat) (w : World) (hBm : Bm < w.heap.size) (hm : w.cell? ⟨Bm, 0, none⟩ = some (.map (some m))) (hown : w.ownsMap Tryz.prog 84 idR m q (.map [])) :
    Calls Tryz.prog 98 #[.func (.func 100) #[] #[.pointer (some ⟨Bm, 0, none⟩)]] w fun e w' => e = .returned (.slice none 0 0) ∧ Kp (fun _ => False) w w' := by
  have H : Hid (Calls _ _ _ w _) := (callsIn_wide (n := 4)).1 (apz_mv Bm m q w hBm hm hown)
  clear hown hm
  go_enter Tryz.func98, Tryz.ntmps98
  go_wp2_with (go_at_call 134; refine H.out.mono ?_; rintro e9 w1 ⟨rfl, k1⟩)
  go_ret
  exact ⟨rfl, Kp.of_below k1⟩

set_option maxRecDepth 100000 in
set_option maxHeartbeats 2000000 in
theorem sof_mv (Bm m q : Nat) (fv : Value) (w : World) (hBm : Bm < w.heap.size) (hm : w.cell? ⟨Bm, 0, none⟩ = some (.map (some m))) (hown : w.ownsMap Tryz.prog 84 idR m q (.map [])) :
    Calls Tryz.prog 58 #[.func (.func 100) #[] #[.pointer (some ⟨Bm, 0, none⟩)], fv] w fun e w' => e = .returned (.slice none 0 0) ∧ Kp (fun _ => False) w w' := by
  have H : Hid (Calls _ _ _ w _) := col_mv Bm m q w hBm hm hown
  have HS : Hid (∀ u, Calls _ _ _ u _) := sort0_mv fv
  clear hown hm
  go_enter Tryz.func58, Tryz.ntmps58
  go_wp2_with (first
    | (go_at_call 98; refine H.out.mono ?_; rintro e9 w1 ⟨rfl, k1⟩; have HK1 : Hid (Kp (fun _ => False) w w1) := k1; clear k1)
    | (go_at_call 99; refine (HS.out _).mono ?_; rintro e9 w2 ⟨⟨v9, rfl⟩, k2⟩; have HK2 : Hid (Kp (fun _ => False) w w2) := HK1.out.trans k2 (fun _ _ e => e); clear k2)
    | fail)
  go_ret
  exact ⟨rfl, HK2.out⟩

set_option maxRecDepth 100000 in
set_option maxHeartbeats 2000000 in
theorem vals_mv (m : Nat) (w : World) : Calls Tryz.prog 59 #[.map (some m)] w fun e w' => e = .returned (.func (.func 100) #[] #[.pointer (some ⟨w.heap.size, 0, none⟩)]) ∧ w' = w.alloc (.cells #[.map (some m)] 34) := by
  go_enter Tryz.func59, Tryz.ntmps59
  go_wp2
  go_ret
  exact ⟨rfl, rfl⟩

set_option maxRecDepth 100000 in
set_option maxHeartbeats 2000000 in
theorem ino_mv (m : Nat) (w : World) (h : Em w 84 m) : Calls Tryz.prog 30 #[.map (some m)] w fun e w' => e = .returned (.slice none 0 0) ∧ Kp (fun _ => False) w w' := by
  have ka : Kp (fun _ => False) w (w.alloc (.cells #[.map (some m)] 34)) := (Kp.refl _ _).alloc _
  obtain ⟨q, hown⟩ := h.keep ka id
  have HV : Hid (Calls _ _ _ w _) := vals_mv m w
  have HS : Hid (∀ fv, Calls _ _ _ (w.alloc (.cells #[.map (some m)] 34)) _) := fun fv => sof_mv w.heap.size m q fv (w.alloc (.cells #[.map (some m)] 34)) (by simp) ((Lv.new w #[.map (some m)] 34).cell (j := 0) rfl) hown
  have HKa : Hid (Kp (fun _ => False) w (w.alloc (.cells #[.map (some m)] 34))) := ka
  clear h hown ka
  go_enter Tryz.func30, Tryz.ntmps30
  go_wp2_with (first
    | (go_at_call 59; refine HV.out.mono ?_; rintro e9 w1 ⟨rfl, rfl⟩)
    | (go_at_call 58; refine (HS.out _).mono ?_; rintro e9 w2 ⟨rfl, k2⟩; have HK2 : Hid (Kp (fun _ => False) w w2) := HKa.out.trans k2 (fun _ _ e => e); clear k2)
    | fail)
  go_loopg [3, 12] 0 (fun gk lv iv wz => gk = 0 ∧ lv = .slice none 0 0 ∧ iv = .int .i64 0 ∧ w2 = wz)
  case atStart => exact ⟨rfl, rfl, rfl, rfl⟩
  case round =>
    obtain ⟨-, rfl, rfl, rfl⟩ := hrel
    go_wp2_with fail
    go_ret
    exact ⟨rfl, HK2.out⟩

set_option maxRecDepth 100000 in
set_option maxHeartbeats 2000000 in
theorem vz1_rc (F : Fence) (n : Nat) (h7 : F.fn 103) (hro : F.round = none) (l Bm m q : Nat) (J : List Empty → World → Prop) (W : World) (hJ : AbidesFrom W.heap.size J) (hm : W.cell? ⟨Bm, 0, none⟩ = some (.map (some m))) (hown : W.ownsMap Tryz.prog 3 idR m q (.map [])) (h0 : J [] W) :
    CallsIn F n Tryz.prog 103 #[.func (.yield l) #[] #[], .pointer (some ⟨Bm, 0, none⟩)] W fun e W' => (∃ v, e = .returned v) ∧ J [] W' := by
  refine callsIn_of_wp Tryz.func103 rfl h7 ?_ hro
  simp only [Tryz.ntmps103, List.size_toArray, List.length_cons, List.length_nil, Nat.reduceAdd, Nat.reduceSub, Array.replicate_succ, Array.replicate_zero, List.push_toArray, List.append_toArray, List.nil_append, List.cons_append]
  gi_wp2_with (first
    | (gi_at_range; refine wpListIn_range_own _ rfl _ 35 rfl 3 94 intLaw Tryz.underlying35 _ m q _ rfl hown ?_; intro w0 hrg0 hg0 hs0)
    | gi_in)
  go_frame
  have HJ0 : Hid (J [] w0) := hJ [] W w0 none h0 hg0 (fun r e => by cases e)
  have HRg : Hid (w0.ranges Tryz.prog 3 idR m W.heap.size q (.map []) (Maps.has (.map [])) 0) := hrg0
  clear hJ hown h0 hrg0 hg0 hs0 hm
  refine wpIn_loop_rounds 1 ?_
  rw [roundsIn_succ]
  gi_wp2_with (first
    | (gi_at_next; refine wpListIn_next_ranges _ rfl _ rfl 3 intLaw idR (fun x : Value => x) id (fun key kl hk => ⟨key, rfl⟩) (fun v _ _ => ⟨v, rfl⟩) m W.heap.size q _ _ _ rfl HRg.out ?_ ?_)
    | gi_in)
  intro hl0
  clear hl0
  gi_wp2
  go_end0
  exact ⟨⟨_, rfl⟩, HJ0.out⟩

theorem vz_stops_rc (F : Fence) (n : Nat) (h7 : F.fn 103) (hro : F.round = none) (Bm m q n₀ : Nat) (w : World) (hBm : Bm < w.heap.size) (hm : w.cell? ⟨Bm, 0, none⟩ = some (.map (some m))) (hown : w.ownsMap Tryz.prog 3 idR m q (.map [])) :
    SeqStopsK F n Tryz.prog 103 #[.pointer (some ⟨Bm, 0, none⟩)] (fun x : Empty => (x.elim : Array Value)) (Below n₀) (fun _ => True) (fun _ => False) 0 w := fun l J Jx W hW hJ _ _ h0 => by
  have hown' : W.ownsMap Tryz.prog 3 idR m q (.map []) := by
    have hbl := hown.lt
    obtain ⟨es, clock, hb, Ft, hs, hD⟩ := hown
    exact ⟨es, clock, (hW.block m hbl).trans hb, Ft, hs, hD⟩
  refine (vz1_rc F n h7 hro l Bm m q J W hJ ((hW.cell (p := ⟨Bm, 0, none⟩) hBm).trans hm) hown' h0).mono ?_
  rintro e W' ⟨he, hj⟩
  exact ⟨he, .inl ⟨[], trivial, hj⟩⟩

set_option maxRecDepth 100000 in
set_option maxHeartbeats 2000000 in
theorem apz_rc (Bm m q : Nat) (w : World) (hBm : Bm < w.heap.size) (hm : w.cell? ⟨Bm, 0, none⟩ = some (.map (some m))) (hown : w.ownsMap Tryz.prog 3 idR m q (.map [])) :
    CallsIn Fence.wide 4 Tryz.prog 136 #[.slice none 0 0, .func (.func 103) #[] #[.pointer (some ⟨Bm, 0, none⟩)]] w fun e w' => e = .returned (.slice none 0 0) ∧ Below w.heap.size w w' := by
  have hb0 : Below w.heap.size w (w.alloc (.cells #[.slice none 0 0] 128)) := (Below.refl _ w).alloc (Nat.le_refl _) _
  have hown' : (w.alloc (.cells #[.slice none 0 0] 128)).ownsMap Tryz.prog 3 idR m q (.map []) := by
    have hbl := hown.lt
    obtain ⟨es, clock, hb, Ft, hs, hD⟩ := hown
    exact ⟨es, clock, (hb0.block m hbl).trans hb, Ft, hs, hD⟩
  have hseq := vz_stops_rc Fence.wide 3 trivial rfl Bm m q w.heap.size (w.alloc (.cells #[.slice none 0 0] 128)) (by simp; omega) ((hb0.cell (p := ⟨Bm, 0, none⟩) hBm).trans hm) hown'
  clear hown hown' hm
  refine callsIn_of_wp_marks Tryz.func136 rfl trivial ?_ rfl
  simp only [Tryz.ntmps136, List.size_toArray, List.length_cons, List.length_nil, Nat.reduceAdd, Nat.reduceSub, Array.replicate_succ, Array.replicate_zero, List.push_toArray, List.append_toArray, List.nil_append, List.cons_append]
  gi_wp2
  refine wpIn_rangeFunc_ownG rfl (by omega) (gf := 103) (lb := #[.pointer (some ⟨Bm, 0, none⟩)]) rfl trivial (enters_of Tryz.func103 (by kernel_rfl) rfl)
    hseq belowK_t (belowK_b (by simp)) (Below.refl _ _) (fun x => x.elim)
    (fun pre W => (∃ v, Boxed W w.heap.size 128 v ∧ W.ownsRow w.heap.size 94 6 v 0 [] ∧ v = .slice none 0 0) ∧ Below w.heap.size w W)
    (fun _ _ _ => False)
    (OwnFrom.and (Own.from (holdsRow_own w.heap.size w.heap.size 128 94 6 (fun _ : List Empty => 0) (fun _ => []) (fun _ v => v = .slice none 0 0)) _) (ownFrom_below (Nat.le_refl _) (by simp)))
    (fun _ _ _ _ _ hs _ _ => hs)
    ⟨⟨_, Boxed.new w _ _, World.ownsRow_nil _ _ _ _, rfl⟩, hb0⟩
    (fun x => x.elim) ?assign ?body ?done ?stop
  case assign => exact fun l x => x.elim
  case body => exact fun l pre x => x.elim
  case done =>
    rintro D ys W hD _ ⟨⟨v, hv, hrow, rfl⟩, hB⟩ hK
    have hc3 := hv.cell
    gi_wp2
    refine ⟨by simp, .inl ⟨_, _, rfl, run_takeDeferred hK, ?_⟩⟩
    exact ⟨_, results_tmp rfl _ _ _, rfl, hB.trans (belowK_b (w := w) (Nat.le_refl _) W D _ _ (by simp at hD; omega) hK rfl rfl)⟩
  case stop =>
    rintro D c pre W _ _ h _
    exact h.elim

set_option maxRecDepth 100000 in
set_option maxHeartbeats 2000000 in
theorem col_rc (Bm m q : Nat) (w : World) (hBm : Bm < w.heap.size) (hm : w.cell? ⟨Bm, 0, none⟩ = some (.map (some m))) (hown : w.ownsMap Tryz.prog 3 idR m q (.map [])) :
    Calls Tryz.prog 101 #[.func (.func 103) #[] #[.pointer (some ⟨Bm, 0, none⟩)]] w fun e w' => e = .returned (.slice none 0 0) ∧ Kp (fun _ => False) w w' := by
  have H : Hid (Calls _ _ _ w _) := (callsIn_wide (n := 4)).1 (apz_rc Bm m q w hBm hm hown)
  clear hown hm
  go_enter Tryz.func101, Tryz.ntmps101
  go_wp2_with (go_at_call 136; refine H.out.mono ?_; rintro e9 w1 ⟨rfl, k1⟩)
  go_ret
  exact ⟨rfl, Kp.of_below k1⟩

set_option maxRecDepth 100000 in
set_option maxHeartbeats 2000000 in
theorem sof_rc (Bm m q : Nat) (fv : Value) (w : World) (hBm : Bm < w.heap.size) (hm : w.cell? ⟨Bm, 0, none⟩ = some (.map (some m))) (hown : w.ownsMap Tryz.prog 3 idR m q (.map [])) :
    Calls Tryz.prog 61 #[.func (.func 103) #[] #[.pointer (some ⟨Bm, 0, none⟩)], fv] w fun e w' => e = .returned (.slice none 0 0) ∧ Kp (fun _ => False) w w' := by
  have H : Hid (Calls _ _ _ w _) := col_rc Bm m q w hBm hm hown
  have HS : Hid (∀ u, Calls _ _ _ u _) := sort0_rc fv
  clear hown hm
  go_enter Tryz.func61, Tryz.ntmps61
  go_wp2_with (first
    | (go_at_call 101; refine H.out.mono ?_; rintro e9 w1 ⟨rfl, k1⟩; have HK1 : Hid (Kp (fun _ => False) w w1) := k1; clear k1)
    | (go_at_call 102; refine (HS.out _).mono ?_; rintro e9 w2 ⟨⟨v9, rfl⟩, k2⟩; have HK2 : Hid (Kp (fun _ => False) w w2) := HK1.out.trans k2 (fun _ _ e => e); clear k2)
    | fail)
  go_ret
  exact ⟨rfl, HK2.out⟩

set_option maxRecDepth 100000 in
set_option maxHeartbeats 2000000 in
theorem vals_rc (m : Nat) (w : World) : Calls Tryz.prog 62 #[.map (some m)] w fun e w' => e = .returned (.func (.func 103) #[] #[.pointer (some ⟨w.heap.size, 0, none⟩)]) ∧ w' = w.alloc (.cells #[.map (some m)] 35) := by
  go_enter Tryz.func62, Tryz.ntmps62
  go_wp2
  go_ret
  exact ⟨rfl, rfl⟩

set_option maxRecDepth 100000 in
set_option maxHeartbeats 2000000 in
theorem ino_rc (m : Nat) (w : World) (h : Em w 3 m) : Calls Tryz.prog 31 #[.map (some m)] w fun e w' => e = .returned (.slice none 0 0) ∧ Kp (fun _ => False) w w' := by
  have ka : Kp (fun _ => False) w (w.alloc (.cells #[.map (some m)] 35)) := (Kp.refl _ _).alloc _
  obtain ⟨q, hown⟩ := h.keep ka id
  have HV : Hid (Calls _ _ _ w _) := vals_rc m w
  have HS : Hid (∀ fv, Calls _ _ _ (w.alloc (.cells #[.map (some m)] 35)) _) := fun fv => sof_rc w.heap.size m q fv (w.alloc (.cells #[.map (some m)] 35)) (by simp) ((Lv.new w #[.map (some m)] 35).cell (j := 0) rfl) hown
  have HKa : Hid (Kp (fun _ => False) w (w.alloc (.cells #[.map (some m)] 35))) := ka
  clear h hown ka
  go_enter Tryz.func31, Tryz.ntmps31
  go_wp2_with (first
    | (go_at_call 62; refine HV.out.mono ?_; rintro e9 w1 ⟨rfl, rfl⟩)
    | (go_at_call 61; refine (HS.out _).mono ?_; rintro e9 w2 ⟨rfl, k2⟩; have HK2 : Hid (Kp (fun _ => False) w w2) := HKa.out.trans k2 (fun _ _ e => e); clear k2)
    | fail)
  go_loopg [3, 12] 0 (fun gk lv iv wz => gk = 0 ∧ lv = .slice none 0 0 ∧ iv = .int .i64 0 ∧ w2 = wz)
  case atStart => exact ⟨rfl, rfl, rfl, rfl⟩
  case round =>
    obtain ⟨-, rfl, rfl, rfl⟩ := hrel
    go_wp2_with fail
    go_ret
    exact ⟨rfl, HK2.out⟩

end Go.Proofs.YtfeecopjacpjnaaGreat

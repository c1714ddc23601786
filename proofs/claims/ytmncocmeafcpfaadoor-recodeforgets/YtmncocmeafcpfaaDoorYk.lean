/- Two lists of one message, the same, without lists: amphoraplain.SameMsgs. -/
import Derived.Test.YtmncocmeafcpfaaDoorQh
namespace Go.Proofs.YtmncocmeafcpfaaDoor
set_option linter.unusedVariables false
set_option linter.unusedSimpArgs false
open Go.RowKit Go.Deep

abbrev nilA (s : Ms0) : Array Value := msgA s (.slice none 0 0) (.slice none 0 0) (.slice none 0 0)
theorem fl_nil (w : World) (Z : Nat → Prop) (p : Option Addr) : Fl w Z p [] := fun j u hu => by simp at hu
theorem mr_nil (w : World) (Z : Nat → Prop) (s : Ms0) : Mr w Z ⟨s, [], [], []⟩ (.agg (nilA s)) :=
  ⟨none, 0, none, 0, [], none, 0, rfl, fl_nil _ _ _, (show 0 * 8 ≤ 140737488355328 by decide), rfl, fl_nil _ _ _, (fun x hx => by cases hx), (show 0 * 136 ≤ 140737488355328 by decide), fl_nil _ _ _, (fun x hx => by cases hx), (show 0 ≤ 140737488355328 by decide)⟩

set_option maxRecDepth 100000 in
set_option maxHeartbeats 1600000 in
theorem eqf_msgs1 (s : Ms0) (g1 g2 c1 c2 : Nat) (w : World) (h1 : Lv w g1 (nilA s).toList) (h2 : Lv w g2 (nilA s).toList) :
    Calls Tryd.prog 53 #[.slice (some ⟨g1, 0, none⟩) 1 c1, .slice (some ⟨g2, 0, none⟩) 1 c2, .func (.func 31) #[] #[]] w fun e w' => e = .returned (.bool true) ∧ Kp (fun _ => False) w w' := by
  have HSv : Hid (∀ u, Calls _ _ _ u _) := fun u => same_msg (fun _ => True) (fun _ => True) ⟨s, [], [], []⟩ _ _ u (mr_nil u _ s) (mr_nil u _ s)
  have HR1 : Hid (Lv w g1 (nilA s).toList) := h1
  have HR2 : Hid (∀ u, Kp (fun _ => False) w u → Lv u g2 (nilA s).toList) := fun u k => h2.keep k id
  have HO : Hid ((nilA s).toList.toArray.all (·.oneCell') = true) := msg_one s rfl rfl rfl
  obtain ⟨L, hL⟩ : ∃ L, L = 1 := ⟨_, rfl⟩
  clear h1 h2
  go_enter Tryd.func53, Tryd.ntmps53
  go_wp2
  go_loopg [17] 1 (fun gk i wr => ∃ k : Nat, k ≤ 1 ∧ gk = 1 - k ∧ i = .int .i64 k ∧ (k = 0 → wr = w) ∧ Kp (fun _ => False) w wr)
  case atStart => exact ⟨0, by omega, rfl, rfl, fun _ => rfl, Kp.refl _ _⟩
  case round =>
    obtain ⟨k, hk, rfl, rfl, h0, hK⟩ := hrel
    by_cases hk0 : k = 0
    · subst hk0
      obtain rfl := h0 rfl
      clear h0 hK
      go_wp2_with (first
        | (refine wpList_load_all rfl 45 _ rfl 24 g1 (nilA s).toList rfl HR1.out dsMsg szMsg rfl ?_)
        | (refine wpList_store_all rfl 45 _ _ rfl 24 wr.heap.size zeroM.toList (nilA s).toList rfl rfl (by exact Lv.new wr _ _) szMsg rfl rfl HO.out ?_; intro u2 hl2 k2; have ku2 : Kp (fun _ => False) wr u2 := ((Kp.refl (fun _ => False) wr).alloc _).trans k2 (fun b hb e => by omega); have HR2' : Hid (Lv u2 g2 (nilA s).toList) := HR2.out u2 ku2; have HL2 : Hid (Lv u2 wr.heap.size (nilA s).toList) := hl2; clear hl2 k2)
        | (refine wpList_load_all rfl 45 _ rfl 24 g2 (nilA s).toList rfl HR2'.out dsMsg szMsg rfl ?_)
        | (refine wpList_store_all rfl 45 _ _ rfl 24 u2.heap.size zeroM.toList (nilA s).toList rfl rfl (by exact Lv.new u2 _ _) szMsg rfl rfl HO.out ?_; intro u3 hl3 k3; have ku3 : Kp (fun _ => False) u2 u3 := ((Kp.refl (fun _ => False) u2).alloc _).trans k3 (fun b hb e => by omega); have HL3 : Hid (Lv u3 u2.heap.size (nilA s).toList) := hl3; have HL2' : Hid (Lv u3 wr.heap.size (nilA s).toList) := HL2.out.keep ku3 id; have kw3 := ku2.trans ku3 (fun _ _ e => e); clear hl3 k3)
        | (refine wpList_load_all rfl 45 _ rfl 24 wr.heap.size (nilA s).toList rfl HL2'.out dsMsg szMsg rfl ?_)
        | (refine wpList_load_all rfl 45 _ rfl 24 u2.heap.size (nilA s).toList rfl HL3.out dsMsg szMsg rfl ?_)
        | (go_at_call 31; refine (HSv.out _).mono ?_; rintro e u4 ⟨rfl, k4⟩))
      go_roundg 0
      case rel => exact ⟨1, by omega, rfl, by go_num, fun h => absurd h (by decide), kw3.trans k4 (fun _ _ e => e)⟩
      case measure => omega
    · obtain rfl : k = 1 := by omega
      go_wp2
      go_ret
      exact ⟨rfl, hK⟩

set_option maxRecDepth 100000 in
set_option maxHeartbeats 800000 in
theorem same_msgs1 (s : Ms0) (g1 g2 c1 c2 : Nat) (w : World) (h1 : Lv w g1 (nilA s).toList) (h2 : Lv w g2 (nilA s).toList) :
    Calls Tryd.prog 23 #[.slice (some ⟨g1, 0, none⟩) 1 c1, .slice (some ⟨g2, 0, none⟩) 1 c2] w fun e w' => e = .returned (.bool true) ∧ Kp (fun _ => False) w w' := by
  have H : Hid (Calls _ _ _ w _) := eqf_msgs1 s g1 g2 c1 c2 w h1 h2
  clear h1 h2
  go_enter Tryd.func23, Tryd.ntmps23
  go_wp2_with (go_at_call 53; refine H.out.mono ?_; rintro e w1 ⟨rfl, k1⟩)
  go_ret
  exact ⟨rfl, k1⟩
end Go.Proofs.YtmncocmeafcpfaaDoor

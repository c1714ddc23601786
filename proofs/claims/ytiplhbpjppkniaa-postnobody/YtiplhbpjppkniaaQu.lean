/- A packet is doubled; all packets are told. -/
import Derived.Test.YtiplhbpjppkniaaQt
namespace Go.Proofs.Ytiplhbpjppkniaa
set_option linter.unusedVariables false
open Go.RowKit Go.Deep Go.Maps

set_option maxRecDepth 100000 in
set_option maxHeartbeats 1600000 in
theorem twice_some {w : World} {p m q n c : Nat} {T : Nat → Option Value} (h : Ps w p m q n c T) (hn : n ≤ 10000) (hq : q ≤ 10000) (hc : (c : Int) < 4000) (i : Nat) (v : Value) (hu : T i = some v) (hs : Sh v) (G : Value → World → Prop) (hcl : Cl v w (fun b => b = p ∨ b = m) G) (hG : ∀ v' u u', G v' u → Kp (fun b => b = p ∨ b = m) u u' → w.heap.size ≤ u.heap.size → G v' u') :
    Calls Try.prog 17 #[.pointer (some ⟨p, 0, none⟩), .int .i64 (i : Int)] w fun e w' => e = .returned (.tuple #[.int .i64 ((n + 1 : Nat) : Int), .int .i64 0]) ∧ Kp (fun b => b = p ∨ b = m) w w' ∧ ∃ v', Sh v' ∧ G v' w' ∧ Ps w' p m (q + 1) (n + 1) (c + 1) (fun j => if j = n + 1 then some v' else T j) := by
  have hin : i < n + 1 := by
    obtain ⟨D, _, _, _, h3, _⟩ := h.mp
    by_cases hi : i < n + 1
    · exact hi
    · rw [h3 i (by omega)] at hu; cases hu
  have HPk : Hid (Calls _ _ _ w _) := packet_some h (i : Int) (WalkArith.wf_i64 (by omega)) v (by rw [Tz_nat]; exact hu) hs
  have HSd : Hid (∀ u, Kp (fun _ => False) w u → Calls _ _ _ u _) := fun u k => send_ok (h.keep k id id) hn hq hc v hs G (fun z kz => hcl z ((k.mono (fun _ _ e => e.elim)).trans kz (fun _ _ e => e))) (fun v' x y hg kk hz => hG v' x y hg kk (Nat.le_trans k.size hz))
  obtain ⟨cs, rfl, hc24, hc1⟩ := hs
  have HL24 : Hid (cs.length = 24) := hc24
  have HO1 : Hid (cs.toArray.all (·.oneCell') = true) := all_oneCell_toArray hc1
  clear h hu hc24 hc1 hin hcl hG hn hq hc
  go_enter Try.func17, Try.ntmps17
  go_wp2_with fail
  refine HPk.out.mono ?_
  rintro e w1 ⟨rfl, k1⟩
  clear HPk
  go_wp2_with (first
    | (refine wpList_store_all rfl 38 _ _ rfl 24 w1.heap.size (nilArr 0).toList cs rfl rfl (by exact Lv.new w1 _ _) sizeMsg rfl HL24.out HO1.out ?_; intro u2 hl2 k2; have ku2 : Kp (fun _ => False) w1 u2 := ((Kp.refl (fun _ => False) w1).alloc _).trans k2 (fun b hb e => by omega); have k02 := k1.trans ku2 (fun _ _ e => e); have HM2 : Hid (Lv u2 w1.heap.size cs) := hl2; clear hl2 k2)
    | (refine wpList_load_all rfl 38 _ rfl 24 w1.heap.size cs rfl HM2.out descMsg sizeMsg HL24.out ?_)
    | (go_at_call 9; refine (HSd.out _ k02).mono ?_; rintro e w3 ⟨rfl, k3, v3, hs3, hg3, hP3⟩))
  go_ret2
  exact ⟨rfl, (k02.mono (fun _ _ e => e.elim)).trans k3 (fun _ _ e => e), v3, hs3, hg3, hP3⟩

set_option maxRecDepth 100000 in
set_option maxHeartbeats 1600000 in
theorem twice_none {w : World} {p m q n c : Nat} {T : Nat → Option Value} (h : Ps w p m q n c T) (ii : Int) (hw : (Lit.int .i64 ii).wf = true) (hu : Tz T ii = none) :
    Calls Try.prog 17 #[.pointer (some ⟨p, 0, none⟩), .int .i64 ii] w fun e w' => e = .returned (.tuple #[.int .i64 0, .int .i64 90]) ∧ Kp (fun _ => False) w w' := by
  have HT : Hid (Calls _ _ _ w _) := packet_none h ii hw hu
  have HO1 : Hid ((nilArr 0).toList.toArray.all (·.oneCell') = true) := nil_one 0
  clear h hu
  go_enter Try.func17, Try.ntmps17
  go_wp2_with fail
  refine HT.out.mono ?_
  rintro e w1 ⟨rfl, k1⟩
  clear HT
  go_wp2_with (refine wpList_store_all rfl 38 _ _ rfl 24 w1.heap.size (nilArr 0).toList (nilArr 0).toList rfl rfl (by exact Lv.new w1 _ _) sizeMsg rfl rfl HO1.out ?_; intro u2 hl2 k2; have ku2 : Kp (fun _ => False) w1 u2 := ((Kp.refl (fun _ => False) w1).alloc _).trans k2 (fun b hb e => by omega); clear hl2 k2)
  go_ret2
  exact ⟨rfl, k1.trans ku2 (fun _ _ e => e)⟩
end Go.Proofs.Ytiplhbpjppkniaa

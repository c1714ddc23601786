/- A heap of numbers: heap.Push, heap.Pop (laid by scripts/mkad.py). -/
import Derived.Test.YtippipeebkkghaaGreatDoorAf
namespace Go.Proofs.YtippipeebkkghaaGreatDoor
set_option linter.unusedVariables false
open Go.RowKit Go.Deep

set_option maxRecDepth 100000 in
set_option maxHeartbeats 1600000 in
theorem heapPushI {w : World} {h o g cap : Nat} {pre post : List Value} {l : List Nat} (x : Ip w h o g cap pre post l) (k : Nat) (hl : l.length ≤ 9000) :
    Calls Tryz.prog 183 #[.iface 275 (.pointer (some ⟨h, o, none⟩)), .iface 3 (.int .i64 (k : Int))] w fun e w' => e = .returned (.tuple #[]) ∧ Kp (fun b => b = h ∨ b = g) w w' ∧ ∃ g' cap', (g' = g ∨ w.heap.size ≤ g') ∧ Ip w' h o g' cap' pre post (pushI l k) := by
  have HE : Hid (Calls _ _ _ w _) := ipushm x k (by omega)
  have HL : Hid (l.length ≤ 9000) := hl
  obtain ⟨av, hav⟩ : ∃ av : Value, av = .iface 3 (.int .i64 (k : Int)) := ⟨_, rfl⟩
  rw [← hav] at HE ⊢
  have h1 := mPushI (.pointer (some ⟨h, o, none⟩)) w
  clear x hl hav
  go_enter Tryz.func183, Tryz.ntmps183
  go_wp2_with fail
  refine HE.out.mono ?_
  rintro e w1 ⟨rfl, k1, g', cap', hg9, h2⟩
  have HK1 : Hid (Kp (fun b => b = h ∨ b = g) w w1) := k1
  have HG9 : Hid ((g' = g ∨ w.heap.size ≤ g')) := hg9
  have HX1 : Hid (Ip w1 h o g' cap' pre post (l ++ [k])) := h2
  have h3 := mLenI h2.c0
  have HE2 : Hid (Calls _ _ _ w1 _) := ilen (some ⟨g', 0, none⟩) (l ++ [k]).length cap' w1
  have hlen : (l ++ [k]).length = l.length + 1 := by rw [List.length_append]; rfl
  rw [hlen] at h3 HE2
  have hw1 : wrap64 (((l.length + 1 : Nat) : Int) - 1) = (l.length : Int) := by have := HL.out; unfold wrap64; omega
  have HU : Hid (Calls _ _ _ w1 _) := iup h2 l.length (by rw [hlen]; omega) (by rw [hlen]; have := HL.out; omega)
  obtain ⟨n, hn⟩ : ∃ n, n = l.length := ⟨_, rfl⟩
  have HP : Hid (upI (n + 1) (l ++ [k]) n = pushI l k) := by show upI (n + 1) (l ++ [k]) n = pushI l k; unfold pushI; rw [hn]
  rw [← hn] at h3 HE2 hw1 HU
  have hw2 : wrap64 (n : Int) = (n : Int) := by have := HL.out; unfold wrap64; omega
  have hw3 : wrap64 ((n : Int) + 1 - 1) = (n : Int) := by have := HL.out; unfold wrap64; omega
  clear k1 h2 h1 HE hlen hn hg9
  go_wp2_with fail
  refine HE2.out.mono ?_
  rintro e w2 ⟨rfl, hw2⟩
  obtain rfl := hw2
  clear h3 HE2
  go_wp2_with fail
  refine HU.out.mono ?_
  rintro e w3 ⟨rfl, k3, h3⟩
  have HF : Hid (Kp (fun b => b = h ∨ b = g) w w3 ∧ Ip w3 h o g' cap' pre post (pushI l k)) := ⟨HK1.out.trans k3 (fun b hb e => e.elim Or.inl (fun e => HG9.out.elim (fun e2 => Or.inr (e.trans e2)) (fun e2 => absurd hb (by omega)))), by rw [← HP.out]; exact h3⟩
  clear h3 k3 HU
  go_wp2
  go_end0
  exact ⟨rfl, HF.out.1, g', cap', HG9.out, HF.out.2⟩

set_option maxRecDepth 100000 in
set_option maxHeartbeats 1600000 in
theorem heapPopI {w : World} {h o g cap : Nat} {pre post : List Value} {l : List Nat} (x : Ip w h o g cap pre post l) (hl : 0 < l.length ∧ l.length ≤ 9000) :
    Calls Tryz.prog 170 #[.iface 275 (.pointer (some ⟨h, o, none⟩))] w fun e w' => e = .returned (.iface 3 (.int .i64 ((popIX l : Nat) : Int))) ∧ Kp (fun b => b = h ∨ b = g) w w' ∧ Ip w' h o g cap pre post (popIL l) := by
  obtain ⟨n, hn⟩ : ∃ n, l.length = n + 1 := ⟨l.length - 1, by omega⟩
  have HX : Hid (Ip w h o g cap pre post l) := x
  have HN : Hid (l.length = n + 1 ∧ n < 9000) := ⟨hn, by omega⟩
  have h1 := mLenI x.c0
  have HE1 : Hid (Calls _ _ _ w _) := ilen (some ⟨g, 0, none⟩) l.length cap w
  have h2 := mSwapI x.c0
  have HE2 : Hid (Calls _ _ _ w _) := iswap x 0 n (by omega) (by omega)
  rw [hn] at h1 HE1 h2 HE2
  have hw1 : wrap64 (((n + 1 : Nat) : Int) - 1) = (n : Int) := by unfold wrap64; omega
  have hw2 : wrap64 (n : Int) = (n : Int) := by unfold wrap64; omega
  have hw3 : wrap64 ((n : Int) + 1 - 1) = (n : Int) := by unfold wrap64; omega
  obtain ⟨m, hm⟩ : ∃ m, m = swI l 0 n := ⟨_, rfl⟩
  rw [← hm] at HE2
  obtain ⟨s, hs⟩ : ∃ s, s = dnI (n + 1) m 0 n := ⟨_, rfl⟩
  have HS : Hid (popIX l = s.getD n 0 ∧ popIL l = s.take n ∧ m.length = n + 1 ∧ s = dnI m.length m 0 n ∧ s.length = n + 1) := by
    have hml : m.length = n + 1 := by rw [hm, swI_len, hn]
    have hsk : sunkI l = s := by unfold sunkI; rw [hn, hs, hm, Nat.add_sub_cancel]
    refine ⟨?_, ?_, hml, by rw [hml]; exact hs, by rw [hs, dnI_len, hml]⟩
    · unfold popIX; rw [hsk, hn, Nat.add_sub_cancel]
    · unfold popIL; rw [hsk, hn, Nat.add_sub_cancel]
  rw [HS.out.1, HS.out.2.1]
  clear x hl hn hm hs
  go_enter Tryz.func170, Tryz.ntmps170
  go_wp2_with fail
  refine HE1.out.mono ?_
  rintro e w0 ⟨rfl, hw0⟩
  obtain rfl := hw0
  clear h1 HE1
  go_wp2_with fail
  refine HE2.out.mono ?_
  rintro e w1 ⟨rfl, k1, x1⟩
  have HK1 : Hid (Kp (fun b => b = h ∨ b = g) w0 w1) := k1.mono (fun b _ e => Or.inr e)
  have HE3 : Hid (Calls _ _ _ w1 _) := idown x1 n (by have := HS.out.2.2.1; omega) (by have := HS.out.2.2.1; have := HN.out; omega)
  rw [← HS.out.2.2.2.1] at HE3
  clear h2 HE2 k1 x1
  go_wp2_with fail
  refine HE3.out.mono ?_
  rintro e w2 ⟨⟨bb, rfl⟩, k2, x2⟩
  have HK2 : Hid (Kp (fun b => b = h ∨ b = g) w0 w2) := HK1.out.trans k2 (fun _ _ e => e)
  have h3 := mPopI (.pointer (some ⟨h, o, none⟩)) w2
  have HE4 : Hid (Calls _ _ _ w2 _) := ipopm x2 n HS.out.2.2.2.2 (by have := HN.out; omega)
  clear HE3 k2 x2
  go_wp2_with fail
  refine HE4.out.mono ?_
  rintro e w3 ⟨rfl, k3, x3⟩
  have HF : Hid (Kp (fun b => b = h ∨ b = g) w0 w3 ∧ Ip w3 h o g cap pre post (s.take n)) := ⟨HK2.out.trans k3 (fun _ _ e => e), x3⟩
  clear HE4 k3 x3 h3
  go_wp2
  go_ret
  exact ⟨rfl, HF.out⟩

end Go.Proofs.YtippipeebkkghaaGreatDoor

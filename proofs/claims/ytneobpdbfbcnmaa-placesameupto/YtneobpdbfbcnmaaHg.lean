/- Heaps: Push and Pop; left, take. -/
import Derived.Test.YtneobpdbfbcnmaaHf
namespace Go.Proofs.Ytneobpdbfbcnmaa
set_option linter.unusedVariables false
open Go.RowKit Go.Deep

/-- the heap at block h, wherever its row lies -/
def Hq (w : World) (base h : Nat) (nd : Nat → Int) (ld : Nat → Nat) (l : List Nat) : Prop := ∃ g cap, Hp w base h g cap nd ld l
theorem Hq.keep {S : Nat → Prop} {w w' : World} {base h : Nat} {nd : Nat → Int} {ld : Nat → Nat} {l : List Nat} (x : Hq w base h nd ld l) (k : Kp S w w') (hS : ∀ b, base ≤ b → b < w.heap.size → ¬ S b) : Hq w' base h nd ld l := by
  obtain ⟨g, cap, x⟩ := x
  exact ⟨g, cap, x.keep k hS⟩

set_option maxRecDepth 100000 in
set_option maxHeartbeats 1600000 in
theorem heapPush {w : World} {base h : Nat} {nd : Nat → Int} {ld : Nat → Nat} {l : List Nat} (x : Hq w base h nd ld l) (k : Nat) (hl : l.length ≤ 50) :
    Calls Try.prog 23 #[.iface 51 (.pointer (some ⟨h, 0, none⟩)), .iface 57 (.agg #[.int .i64 (nd k), .int .i64 (ld k : Int)])] w fun e w' => e = .returned (.tuple #[]) ∧ Kp (fun b => base ≤ b) w w' ∧ Hq w' base h nd ld (pushF ld l k) := by
  obtain ⟨g, cap, x⟩ := x
  have HE : Hid (Calls _ _ _ w _) := hpushm x k (by omega)
  have HL : Hid (l.length ≤ 50) := hl
  obtain ⟨av, hav⟩ : ∃ av : Value, av = .iface 57 (.agg #[.int .i64 (nd k), .int .i64 (ld k : Int)]) := ⟨_, rfl⟩
  rw [← hav] at HE ⊢
  have h1 := mPush (.pointer (some ⟨h, 0, none⟩)) w
  clear x hl hav
  go_enter Try.func23, Try.ntmps23
  go_wp2_with fail
  refine HE.out.mono ?_
  rintro e w1 ⟨rfl, k1, g', cap', h2⟩
  have HK1 : Hid (Kp (fun b => base ≤ b) w w1) := k1
  have HX1 : Hid (Hp w1 base h g' cap' nd ld (l ++ [k])) := h2
  have h3 := mLen h2.c0
  have HE2 : Hid (Calls _ _ _ w1 _) := hlen (some ⟨g', 0, none⟩) (l ++ [k]).length cap' w1
  have hlen : (l ++ [k]).length = l.length + 1 := by rw [List.length_append]; rfl
  rw [hlen] at h3 HE2
  have hw1 : wrap64 (((l.length + 1 : Nat) : Int) - 1) = (l.length : Int) := by have := HL.out; unfold wrap64; omega
  have HU : Hid (Calls _ _ _ w1 _) := hup h2 l.length (by rw [hlen]; omega) (by rw [hlen]; have := HL.out; omega)
  obtain ⟨n, hn⟩ : ∃ n, n = l.length := ⟨_, rfl⟩
  have HP : Hid (upF ld (n + 1) (l ++ [k]) n = pushF ld l k) := by show upF ld (n + 1) (l ++ [k]) n = pushF ld l k; unfold pushF; rw [hn]
  rw [← hn] at h3 HE2 hw1 HU
  have hw2 : wrap64 (n : Int) = (n : Int) := by have := HL.out; unfold wrap64; omega
  have hw3 : wrap64 ((n : Int) + 1 - 1) = (n : Int) := by have := HL.out; unfold wrap64; omega
  clear k1 h2 h1 HE hlen hn
  go_wp2_with fail
  refine HE2.out.mono ?_
  rintro e w2 ⟨rfl, hw2⟩
  obtain rfl := hw2
  clear h3 HE2
  go_wp2_with fail
  refine HU.out.mono ?_
  rintro e w3 ⟨rfl, k3, h3⟩
  have HF : Hid (Kp (fun b => base ≤ b) w w3 ∧ Hq w3 base h nd ld (pushF ld l k)) := ⟨HK1.out.trans k3 (fun _ _ e => e), g', cap', by rw [← HP.out]; exact h3⟩
  clear h3 k3 HU
  go_wp2
  go_end0
  exact ⟨rfl, HF.out⟩

set_option maxRecDepth 100000 in
set_option maxHeartbeats 1600000 in
theorem heapPop {w : World} {base h g cap : Nat} {nd : Nat → Int} {ld : Nat → Nat} {l : List Nat} (x : Hp w base h g cap nd ld l) (hl : 0 < l.length ∧ l.length ≤ 50) :
    Calls Try.prog 49 #[.iface 51 (.pointer (some ⟨h, 0, none⟩))] w fun e w' => e = .returned (.iface 57 (.agg #[.int .i64 (nd (popX ld l)), .int .i64 (ld (popX ld l) : Int)])) ∧ Kp (fun b => b = h ∨ b = g) w w' ∧ Hp w' base h g cap nd ld (popL ld l) := by
  obtain ⟨n, hn⟩ : ∃ n, l.length = n + 1 := ⟨l.length - 1, by omega⟩
  have HX : Hid (Hp w base h g cap nd ld l) := x
  have HN : Hid (l.length = n + 1 ∧ n < 50) := ⟨hn, by omega⟩
  have h1 := mLen x.c0
  have HE1 : Hid (Calls _ _ _ w _) := hlen (some ⟨g, 0, none⟩) l.length cap w
  have h2 := mSwap x.c0
  have HE2 : Hid (Calls _ _ _ w _) := hswap x 0 n (by omega) (by omega)
  rw [hn] at h1 HE1 h2 HE2
  have hw1 : wrap64 (((n + 1 : Nat) : Int) - 1) = (n : Int) := by unfold wrap64; omega
  have hw2 : wrap64 (n : Int) = (n : Int) := by unfold wrap64; omega
  have hw3 : wrap64 ((n : Int) + 1 - 1) = (n : Int) := by unfold wrap64; omega
  obtain ⟨m, hm⟩ : ∃ m, m = swp l 0 n := ⟨_, rfl⟩
  rw [← hm] at HE2
  obtain ⟨s, hs⟩ : ∃ s, s = downF ld (n + 1) m 0 n := ⟨_, rfl⟩
  have HS : Hid (popX ld l = s.getD n 0 ∧ popL ld l = s.take n ∧ m.length = n + 1 ∧ s = downF ld m.length m 0 n ∧ s.length = n + 1) := by
    have hml : m.length = n + 1 := by rw [hm, swp_len, hn]
    have hsk : sunk ld l = s := by unfold sunk; rw [hn, hs, hm, Nat.add_sub_cancel]
    refine ⟨?_, ?_, hml, by rw [hml]; exact hs, by rw [hs, downF_len, hml]⟩
    · unfold popX; rw [hsk, hn, Nat.add_sub_cancel]
    · unfold popL; rw [hsk, hn, Nat.add_sub_cancel]
  rw [HS.out.1, HS.out.2.1]
  clear x hl hn hm hs
  go_enter Try.func49, Try.ntmps49
  go_wp2_with fail
  refine HE1.out.mono ?_
  rintro e w0 ⟨rfl, hw0⟩
  obtain rfl := hw0
  clear h1 HE1
  go_wp2_with fail
  refine HE2.out.mono ?_
  rintro e w1 ⟨rfl, k1, x1⟩
  have HK1 : Hid (Kp (fun b => b = h ∨ b = g) w0 w1) := k1.mono (fun b _ e => Or.inr e)
  have HE3 : Hid (Calls _ _ _ w1 _) := hdown x1 n (by have := HS.out.2.2.1; omega) (by have := HS.out.2.2.1; have := HN.out; omega)
  rw [← HS.out.2.2.2.1] at HE3
  clear h2 HE2 k1 x1
  go_wp2_with fail
  refine HE3.out.mono ?_
  rintro e w2 ⟨⟨bb, rfl⟩, k2, x2⟩
  have HK2 : Hid (Kp (fun b => b = h ∨ b = g) w0 w2) := HK1.out.trans k2 (fun _ _ e => e)
  have h3 := mPop (.pointer (some ⟨h, 0, none⟩)) w2
  have HE4 : Hid (Calls _ _ _ w2 _) := hpopm x2 n HS.out.2.2.2.2 (by have := HN.out; omega)
  clear HE3 k2 x2
  go_wp2_with fail
  refine HE4.out.mono ?_
  rintro e w3 ⟨rfl, k3, x3⟩
  have HF : Hid (Kp (fun b => b = h ∨ b = g) w0 w3 ∧ Hp w3 base h g cap nd ld (s.take n)) := ⟨HK2.out.trans k3 (fun _ _ e => e), x3⟩
  clear HE4 k3 x3 h3
  go_wp2
  go_ret
  exact ⟨rfl, HF.out⟩

set_option maxRecDepth 100000 in
set_option maxHeartbeats 800000 in
theorem qleft {w : World} {base h g cap : Nat} {nd : Nat → Int} {ld : Nat → Nat} {l : List Nat} (x : Hp w base h g cap nd ld l) :
    Calls Try.prog 47 #[.pointer (some ⟨h, 0, none⟩)] w fun e w' => e = .returned (.int .i64 l.length) ∧ w' = w := by
  have c0 := x.c0
  have HE1 : Hid (Calls _ _ _ w _) := hlen (some ⟨g, 0, none⟩) l.length cap w
  obtain ⟨n, hn⟩ : ∃ n, n = l.length := ⟨_, rfl⟩
  rw [← hn] at c0 HE1 ⊢
  clear x hn
  go_enter Try.func47, Try.ntmps47
  go_wp2_with fail
  refine HE1.out.mono ?_
  rintro e w0 ⟨rfl, hw0⟩
  obtain rfl := hw0
  go_wp2
  go_ret
  exact ⟨rfl, rfl⟩

set_option maxRecDepth 100000 in
set_option maxHeartbeats 800000 in
theorem qtake {w : World} {base h g cap : Nat} {nd : Nat → Int} {ld : Nat → Nat} {l : List Nat} (x : Hp w base h g cap nd ld l) (hl : 0 < l.length ∧ l.length ≤ 50) :
    Calls Try.prog 48 #[.pointer (some ⟨h, 0, none⟩)] w fun e w' => e = .returned (.int .i64 (nd (popX ld l))) ∧ Kp (fun b => b = h ∨ b = g) w w' ∧ Hp w' base h g cap nd ld (popL ld l) := by
  have HE1 : Hid (Calls _ _ _ w _) := heapPop x hl
  obtain ⟨a, ha⟩ : ∃ a, a = nd (popX ld l) := ⟨_, rfl⟩
  obtain ⟨b, hb⟩ : ∃ b : Int, b = (ld (popX ld l) : Int) := ⟨_, rfl⟩
  rw [← ha, ← hb] at HE1
  rw [← ha]
  have hta := tas
  have hfd : ∀ w : World, (Instr.field 57 (.agg #[.int .i64 a, .int .i64 b]) 0).run Try.prog w = .ok (.int .i64 a) w := fun w => by kernel_rfl
  clear x hl ha hb
  go_enter Try.func48, Try.ntmps48
  go_wp2_with fail
  refine HE1.out.mono ?_
  rintro e w1 ⟨rfl, k1, x1⟩
  have HF : Hid (Kp (fun b => b = h ∨ b = g) w w1 ∧ Hp w1 base h g cap nd ld (popL ld l)) := ⟨k1, x1⟩
  clear k1 x1 HE1
  go_wp2
  go_ret
  exact ⟨rfl, HF.out⟩
end Go.Proofs.Ytneobpdbfbcnmaa

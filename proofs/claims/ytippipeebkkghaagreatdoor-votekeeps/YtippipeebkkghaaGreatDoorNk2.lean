/- frame.Cmd. -/
import Derived.Test.YtippipeebkkghaaGreatDoorNj
namespace Go.Proofs.YtippipeebkkghaaGreatDoor
set_option linter.unusedVariables false
set_option linter.unusedSimpArgs false
open Go.RowKit Go.Deep

theorem ints_nat {zs : List Int} (h : ∀ z ∈ zs, 0 ≤ z) : zs.map encI = (zs.map Int.toNat).map (fun x : Nat => Value.int .i64 (x : Int)) := by
  rw [List.map_map]
  refine List.map_congr_left (fun z hz => ?_)
  have := h z hz
  show Value.int .i64 z = Value.int .i64 ((z.toNat : Nat) : Int)
  congr 1
  omega
theorem appC_ok (base : Nat) (v : Value) (xs : List Nat) (c : Cs0) (Z : Nat → Prop) (p : Option Addr) (n cap : Nat) (zs : List Int) (w : World) (ho : Ow w base v xs) (hb : base ≤ w.heap.size) (hf : Fl w Z p (zs.map encI)) (hZ : ∀ b, Z b → v.ownBlock ≠ some b ∧ b < w.heap.size) (hn : n = zs.length) (hm : MayF c zs) (hs : 0 ≤ c.sum ∧ c.sum < 4294967296) (hl : xs.length ≤ 100000000) :
    Calls Tryz.prog 47 #[v, .agg (cmdA c (.slice p n cap))] w fun e w' => ∃ v', e = .returned v' ∧ Ap w w' base v v' (xs ++ cmdB (cpOf c zs)) := by
  obtain ⟨a0, a1, key, a3, a4, a5, a6, a7, a8, a9, a10⟩ := c
  have hmn := hm.n
  have hmk := hm.key
  have hml := hm.len
  have hmz := hm.z
  dsimp only at hmn hmk hs
  simp only [List.mem_cons, List.not_mem_nil, or_false, forall_eq_or_imp, forall_eq] at hmn
  obtain ⟨m0, m1, m3, m4, m5, m6, m7, m9, m10⟩ := hmn
  obtain ⟨a0, rfl⟩ := nat_of m0.1
  obtain ⟨a1, rfl⟩ := nat_of m1.1
  obtain ⟨a3, rfl⟩ := nat_of m3.1
  obtain ⟨a4, rfl⟩ := nat_of m4.1
  obtain ⟨a5, rfl⟩ := nat_of m5.1
  obtain ⟨a6, rfl⟩ := nat_of m6.1
  obtain ⟨a7, rfl⟩ := nat_of m7.1
  obtain ⟨a8, rfl⟩ := nat_of hs.1
  obtain ⟨a9, rfl⟩ := nat_of m9.1
  obtain ⟨a10, rfl⟩ := nat_of m10.1
  rw [ints_nat (fun z hz => (hmz z hz).1)] at hf
  refine (appC_nat base v xs a0 a1 a3 a4 a5 a6 a7 a8 a9 a10 key Z p n cap (zs.map Int.toNat) w ho hb hf hZ (by rw [List.length_map]; exact hn) hmk (by omega) (fun x hx => ?_) (by omega) (fun x hx => ?_) hl).mono ?_
  · simp only [List.mem_cons, List.not_mem_nil, or_false] at hx
    omega
  · obtain ⟨z, hz, rfl⟩ := List.mem_map.1 hx
    have := hmz z hz
    omega
  · intro e w' h
    exact h

/-- what Cmd answers -/
def CmdRes (c : Cs0) (zs : List Int) (w : World) (e : Ending) (w' : World) : Prop :=
  if mayC c zs = true then ∃ v, e = .returned (.tuple #[v, .int .i64 0]) ∧ Ow w' w.heap.size v (cmdB (cpOf c zs)) else e = .returned (.tuple #[.slice none 0 0, .int .i64 1])

set_option maxRecDepth 100000 in
set_option maxHeartbeats 1600000 in
theorem fcmd_ok (c : Cs0) (Z : Nat → Prop) (p : Option Addr) (n cap : Nat) (zs : List Int) (w : World) (hf : Fl w Z p (zs.map encI)) (hZ : ∀ b, Z b → b < w.heap.size) (hn : n = zs.length) (hn9 : n ≤ 1000000000000000) (hk9 : c.key.size ≤ 9223372036854775807) (hs : 0 ≤ c.sum ∧ c.sum < 4294967296) :
    Calls Tryz.prog 22 #[.agg (cmdA c (.slice p n cap))] w fun e w' => CmdRes c zs w e w' ∧ Kp (fun _ => False) w w' := by
  have HM : Hid (∀ u, Kp (fun _ => False) w u → Calls Tryz.prog 46 #[.agg (cmdA c (.slice p n cap))] u fun e w' => e = .returned (.bool (mayC c zs)) ∧ Kp (fun _ => False) u w') := fun u k => mayCmd_ok c Z p n cap zs u (hf.keep k (fun _ _ => id)) hn hn9 hk9
  have HA : Hid (mayC c zs = true → ∀ u, Kp (fun _ => False) w u → Calls Tryz.prog 47 #[.slice none 0 0, .agg (cmdA c (.slice p n cap))] u fun e w' => ∃ v', e = .returned v' ∧ Ap u w' w.heap.size (.slice none 0 0) v' ([] ++ cmdB (cpOf c zs))) := fun hm u k => appC_ok w.heap.size (.slice none 0 0) [] c Z p n cap zs u (World.ownsRow_nil _ _ _ _) k.size (hf.keep k (fun _ _ => id)) (fun b hb => ⟨by simp [Value.ownBlock], Nat.lt_of_lt_of_le (hZ b hb) k.size⟩) hn (mayC_full hm) hs (by simp)
  have HK0 : Hid (Kp (fun _ => False) w (w.alloc (.cells (cmdA c (.slice p n cap)) 31))) := (Kp.refl _ _).alloc _
  have HL0 : Hid (Lv (w.alloc (.cells (cmdA c (.slice p n cap)) 31)) w.heap.size (cmdA c (.slice p n cap)).toList) := Lv.new w _ _
  obtain ⟨B, hB⟩ : ∃ b, b = mayC c zs := ⟨_, rfl⟩
  have HB : Hid (B = mayC c zs) := hB
  rw [← hB] at HM HA
  obtain ⟨xa, hxa⟩ : ∃ x, x = cmdA c (.slice p n cap) := ⟨_, rfl⟩
  have HXl : Hid (xa.toList.length = 12) := by rw [hxa]; rfl
  rw [← hxa] at HM HA HK0 HL0 ⊢
  clear hf hZ hn hn9 hk9 hs hB hxa
  obtain ⟨dC, hdC⟩ := dsCmd
  go_enter Tryz.func22, Tryz.ntmps22
  go_upto_region 1 with fail
  obtain ⟨u0, hu0⟩ : ∃ x, x = w.alloc (.cells xa 31) := ⟨_, rfl⟩
  rw [← hu0] at HK0 HL0 ⊢
  clear hu0
  go_wp2_with (refine wpList_load_all rfl 31 _ rfl 12 w.heap.size xa.toList rfl HL0.out ⟨dC, hdC⟩ szCmd HXl.out ?_; rw [Array.toArray_toList])
  refine (HM.out u0 HK0.out).mono ?_
  rintro e9 w1 ⟨rfl, k1⟩
  have HK1 : Hid (Kp (fun _ => False) w w1) := HK0.out.trans k1 (fun _ _ e => e)
  have HL1 : Hid (Lv w1 w.heap.size xa.toList) := HL0.out.keep k1 id
  clear k1
  cases B with
  | false =>
    go_wp2_with fail
    go_ret2
    refine ⟨?_, HK1.out⟩
    unfold CmdRes
    rw [← HB.out]
    rfl
  | true =>
    go_wp2_with (refine wpList_load_all rfl 31 _ rfl 12 w.heap.size xa.toList rfl HL1.out ⟨dC, hdC⟩ szCmd HXl.out ?_; rw [Array.toArray_toList])
    refine (HA.out (by trivial) w1 HK1.out).mono ?_
    rintro e9 w2 ⟨v, rfl, h2⟩
    have HA2 : Hid (Ap w1 w2 w.heap.size (.slice none 0 0) v ([] ++ cmdB (cpOf c zs))) := h2
    clear h2
    go_wp2_with fail
    go_ret2
    refine ⟨?_, HK1.out.trans HA2.out.k (fun b _ e => by simp [Value.ownBlock] at e)⟩
    unfold CmdRes
    rw [← HB.out]
    exact ⟨v, rfl, HA2.out.o⟩
end Go.Proofs.YtippipeebkkghaaGreatDoor

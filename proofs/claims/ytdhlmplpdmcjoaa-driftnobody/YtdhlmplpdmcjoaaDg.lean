/- The walk of the law DriftGoes: there is always a clock that may tick. -/
import Derived.Test.YtdhlmplpdmcjoaaDe
import Derived.Test.YtdhlmplpdmcjoaaDi
namespace Go.Proofs.Ytdhlmplpdmcjoaa
open Go.RowKit Go.Deep Go.Maps

theorem wrap64_succ (k L : Nat) (hk : k ≤ L) (h : L * 8 ≤ 140737488355328) : wrap64 ((k : Int) + 1) = (k : Int) + 1 := by unfold wrap64; omega
/-- is there one, below j, that may tick -/
def anyMay (N : Nat) (h : List Nat) (j : Nat) : Bool := (List.range j).any (fun o => mayX N h (o : Int))
theorem anyMay_next (N : Nat) (h : List Nat) (j : Nat) : anyMay N h (j + 1) = (anyMay N h j || mayX N h (j : Int)) := by
  unfold anyMay; rw [List.range_succ, List.any_append]; simp
theorem mayX_nat {N : Nat} {h : List Nat} {n : Nat} (hn : n < N) (hm : may N h n) : mayX N h (n : Int) = true := by
  unfold mayX tickE
  rw [if_neg (by omega), Int.toNat_natCast, if_pos hm]
  rfl
theorem anyMay_all {N : Nat} {h : List Nat} (hN : 1 ≤ N) (H : adm N h) : anyMay N h N = true := by
  obtain ⟨n, hn, hm⟩ := goes hN H
  exact List.any_eq_true.2 ⟨n, List.mem_range.2 hn, mayX_nat hn hm⟩

set_option maxRecDepth 100000 in
set_option maxHeartbeats 1600000 in
theorem driftGoes_walk (a0 : Int) (v : Value) (L : Nat) (w : World) (hv : Ints w v L) :
    Calls Try.prog 11 #[.int .i64 a0, v] w fun e w' => e = .returned (.bool true) ∧ Kp (fun _ => False) w w' := by
  obtain ⟨p, c, zs, rfl, hzl, hc, hz, hL⟩ := hv
  have e1 : wrap64 ((IntKind.u64.wrap a0).tmod 16) = ((mm 16 a0 : Nat) : Int) := mm_eq 16 a0 (by omega) (by omega)
  have l1 := mm_lt 16 a0 (by omega)
  obtain ⟨N, hN⟩ : ∃ x, x = mm 16 a0 + 1 := ⟨_, rfl⟩
  have e3 : wrap64 (1 + ((mm 16 a0 : Nat) : Int)) = (N : Int) := by unfold wrap64; omega
  have e4 : IntKind.u64.wrap (N : Int) = (N : Int) := by rw [IntKind.wrap_u64]; omega
  have hN1 : 1 ≤ (N : Int) := by omega
  have hN16 : (N : Int) ≤ 16 := by omega
  have HMM : Hid (∀ z : Int, wrap64 ((IntKind.u64.wrap z).tmod (N : Int)) = ((mm N z : Nat) : Int)) := fun z => mm_eq N z (by omega) (by omega)
  have HNw : Hid (∀ w, Calls _ _ _ w _) := fun w => cknew_cs N w hN1 hN16
  have HLL : Hid (L * 8 ≤ 140737488355328) := hL
  have HZ : Hid (Iz w p zs) := hz
  have HZL : Hid (zs.length = L) := hzl
  have d0 : decide ((N : Int) = 0) = false := by simp; omega
  clear hN l1 hL hz hzl hc
  go_enter Try.func11, Try.ntmps11
  go_wp2_with (go_at_call 28; refine (HNw.out _).mono ?_; rintro e w1 ⟨b, t, m, rfl, k1, hb, ht, hm, HC⟩)
  have HC0 : Hid (Cs w1 b t m N []) := HC
  clear HC
  have HP : Hid (∀ a, p = some a → 0 < zs.length → a.block < w.heap.size) := fun a ha h0 => by
    obtain ⟨bb, oo, e, hcc⟩ := HZ.out 0 h0
    rw [ha] at e
    cases e
    exact World.block_lt_of_cell? _ _ hcc
  go_loopg [25] L (fun gk i wr => ∃ (k : Nat) (h : List Nat), k ≤ L ∧ gk = L - k ∧ i = .int .i64 k ∧ Kp (fun _ => False) w wr ∧ Hid (Cs wr b t m N h) ∧ Hid (h.length ≤ k))
  case atStart => exact ⟨0, [], Nat.zero_le _, rfl, rfl, k1, HC0, Nat.le_refl _⟩
  case round =>
    obtain ⟨k, h, hk, rfl, rfl, kr, HCr, hlen⟩ := hrel
    clear HC0 k1
    by_cases hlt : (k : Int) < (L : Int)
    · obtain ⟨pb, po, rfl, hcell⟩ := HZ.out.keep kr (fun _ _ => id) k (by have := HZL.out; omega)
      obtain ⟨z, hz⟩ : ∃ z, z = zs.getD k 0 := ⟨_, rfl⟩
      rw [← hz] at hcell
      have e5 := HMM.out z
      have HK1 : Hid (wrap64 ((k : Int) + 1) = ((k + 1 : Nat) : Int)) := wrap64_succ k L hk HLL.out
      have HT : Hid (Calls _ _ _ wr _) := cktick_cs HCr.out ((mm N z : Nat) : Int) (by have := hlen.out; have := HLL.out; omega)
      obtain ⟨h2, hh2⟩ : ∃ h2, h2 = tickH N h ((mm N z : Nat) : Int) := ⟨_, rfl⟩
      have HLh : Hid (h2.length ≤ k + 1) := by
        show _ ≤ _
        rw [hh2]
        have := tickH_len N h ((mm N z : Nat) : Int)
        have := hlen.out
        omega
      rw [← hh2] at HT
      clear hh2 hz
      go_wp2_with (go_at_call 32; refine HT.out.mono ?_; rintro e w2 ⟨rfl, k2, HC2⟩)
      have k02 : Kp (fun _ => False) w w2 := kr.trans k2 (fun x hx e => by omega)
      have HC2' : Hid (Cs w2 b t m N h2) := HC2
      clear HC2 HT
      obtain ⟨wr0, hwr0⟩ : ∃ x, x = wr := ⟨_, rfl⟩
      go_loopg [38, 9] N (fun gk i x wq => ∃ j : Nat, j ≤ N ∧ gk = N - j ∧ i = .int .i64 j ∧ x = .bool (anyMay N h2 j) ∧ Kp (fun _ => False) w wq ∧ Hid (Cs wq b t m N h2))
      case atStart => exact ⟨0, Nat.zero_le _, rfl, rfl, rfl, k02, HC2'⟩
      case round =>
        obtain ⟨j, hj, rfl, rfl, rfl, kq, HCq⟩ := hrel
        by_cases hltj : (j : Int) < (N : Int)
        · have hnx := anyMay_next N h2 j
          have HT1 : Hid (Calls _ _ _ _ _) := ckmay_cs HCq.out (j : Int)
          cases ha : anyMay N h2 j with
          | true =>
            rw [ha, Bool.true_or] at hnx
            have HNX : Hid (anyMay N h2 (j + 1) = true) := hnx
            clear hnx HT1
            go_wp2
            go_roundg (N - (j + 1))
            case rel => exact ⟨j + 1, by omega, rfl, by go_num, by rw [HNX.out], kq, HCq⟩
            case measure => omega
          | false =>
            rw [ha, Bool.false_or] at hnx
            have HNX : Hid (anyMay N h2 (j + 1) = mayX N h2 (j : Int)) := hnx
            generalize mayX N h2 (j : Int) = bb at HT1 HNX
            clear hnx
            go_wp2_with (go_at_call 30; refine HT1.out.mono ?_; rintro e w3 ⟨rfl, k3⟩)
            go_roundg (N - (j + 1))
            case rel => exact ⟨j + 1, by omega, rfl, by go_num, by rw [HNX.out], kq.trans k3 (fun x hx e => e), HCq.out.keep k3 id id id⟩
            case measure => omega
        · obtain rfl : j = N := by omega
          have hall := anyMay_all (by omega) HCq.out.2
          rw [hall]
          go_wp2
          go_roundg (L - (k + 1))
          case rel => exact ⟨k + 1, h2, by omega, rfl, by rw [HK1.out], kq, HCq, HLh⟩
          case measure => omega
    · obtain rfl : k = L := by omega
      have HT1 : Hid (Calls _ _ _ wr _) := ckmay_cs HCr.out 0
      by_cases h0 : k = 0
      · have hh : h = [] := List.eq_nil_of_length_eq_zero (by have := hlen.out; omega)
        have hm0 : mayX N h 0 = true := by
          rw [hh]
          exact mayX_nat (n := 0) (by omega) (fun o _ => by simp [lead])
        rw [hm0] at HT1
        go_wp2_with (go_at_call 30; refine HT1.out.mono ?_; rintro e w3 ⟨rfl, k3⟩)
        go_ret
        exact ⟨rfl, kr.trans k3 (fun x hx e => e)⟩
      · have d3 : decide (0 < (k : Int)) = true := by simp; omega
        have d4 : 0 < k := by omega
        cases hm0 : mayX N h 0 with
        | true =>
          rw [hm0] at HT1
          go_wp2_with (go_at_call 30; refine HT1.out.mono ?_; rintro e w3 ⟨rfl, k3⟩)
          go_ret
          exact ⟨rfl, kr.trans k3 (fun x hx e => e)⟩
        | false =>
          rw [hm0] at HT1
          go_wp2_with (go_at_call 30; refine HT1.out.mono ?_; rintro e w3 ⟨rfl, k3⟩)
          go_ret
          exact ⟨rfl, kr.trans k3 (fun x hx e => e)⟩
end Go.Proofs.Ytdhlmplpdmcjoaa

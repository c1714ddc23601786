/- Texts of this proof, joined: Ne, Nf. -/
import Derived.Test.YtoepemgflbmlcaaDoorMgAD
/- bits.Len64 of whatever (laid by scripts/mkne.py). -/
namespace Go.Proofs.YtoepemgflbmlcaaDoor
set_option linter.unusedVariables false
set_option linter.unusedSimpArgs false
open Go.RowKit Go.Deep

theorem blen_le {n k : Nat} (h : n < 2 ^ k) : blen n ≤ k := by
  unfold blen
  by_cases h0 : n = 0
  · rw [if_pos h0]; exact Nat.zero_le _
  · rw [if_neg h0]
    have := (Nat.log2_lt h0).2 h
    omega
theorem wrap_small {z : Int} (h : 0 ≤ z ∧ z ≤ 1000) : wrap64 z = z := by unfold wrap64; omega

set_option maxRecDepth 100000 in
set_option maxHeartbeats 1600000 in
theorem len64_000 (n : Nat) (hn : n < 18446744073709551616) (h0 : ¬ (4294967296 : Int) ≤ (n : Int)) (h1 : ¬ (65536 : Int) ≤ (n : Int)) (h2 : ¬ (256 : Int) ≤ (n : Int)) (w : World) : Calls Tryd.prog 65 #[.int .u64 n] w fun e w' => e = .returned (.int .i64 (blen n)) ∧ w' = w := by
  have HB : Hid (blen n = blen (n / 1) + 0) := (by show _ = _; rw [Nat.div_one]; rfl)
  obtain ⟨m, hm⟩ : ∃ m : Nat, m = n / 1 := ⟨_, rfl⟩
  have hm9 : m < 256 := by omega
  have HE : Hid ((n : Int) = (m : Int)) := (by show _ = _; omega)
  rw [← hm] at HB
  have HM : Hid (m < 256) := hm9
  clear hm hm9
  go_enter Tryd.func65, Tryd.ntmps65
  have hx : ∀ u : World, (Instr.index 9 (.string tab8) (.int .u8 ((n : Int)))).run Tryd.prog u = .ok (.int .u8 (blen m : Int)) u := fun u => by rw [HE.out]; exact tab8_run m HM.out u
  have hm2 : (n : Int) < 256 := by rw [HE.out]; have := HM.out; omega
  go_wp2_with fail
  go_ret
  have h8 := blen_le (k := 8) (show m < 2 ^ 8 from HM.out)
  exact ⟨by
    show Ending.returned (.int .i64 _) = _
    rw [HB.out]
    congr 2
    have h9 : wrap64 (blen m : Int) = (blen m : Int) := wrap_small (by omega)
    rw [h9, h9]
    omega, rfl⟩

set_option maxRecDepth 100000 in
set_option maxHeartbeats 1600000 in
theorem len64_001 (n : Nat) (hn : n < 18446744073709551616) (h0 : ¬ (4294967296 : Int) ≤ (n : Int)) (h1 : ¬ (65536 : Int) ≤ (n : Int)) (h2 : (256 : Int) ≤ (n : Int)) (w : World) : Calls Tryd.prog 65 #[.int .u64 n] w fun e w' => e = .returned (.int .i64 (blen n)) ∧ w' = w := by
  have HB : Hid (blen n = blen (n / 256) + 8) := (by show _ = _; rw [show (256 : Nat) = 2 ^ 8 from rfl]; exact blen_shift 8 n (by have : (2 : Nat) ^ 8 = 256 := rfl; omega))
  obtain ⟨m, hm⟩ : ∃ m : Nat, m = n / 256 := ⟨_, rfl⟩
  have hm9 : m < 256 := by omega
  have HE : Hid ((n : Int) / 256 = (m : Int)) := (by show _ = _; omega)
  rw [← hm] at HB
  have HM : Hid (m < 256) := hm9
  clear hm hm9
  go_enter Tryd.func65, Tryd.ntmps65
  have hx : ∀ u : World, (Instr.index 9 (.string tab8) (.int .u8 ((n : Int) / 256))).run Tryd.prog u = .ok (.int .u8 (blen m : Int)) u := fun u => by rw [HE.out]; exact tab8_run m HM.out u
  have hm2 : (n : Int) / 256 < 256 := by rw [HE.out]; have := HM.out; omega
  go_wp2_with fail
  go_ret
  have h8 := blen_le (k := 8) (show m < 2 ^ 8 from HM.out)
  exact ⟨by
    show Ending.returned (.int .i64 _) = _
    rw [HB.out]
    congr 2
    have h9 : wrap64 (blen m : Int) = (blen m : Int) := wrap_small (by omega)
    rw [h9, wrap_small (by omega)]
    omega, rfl⟩

set_option maxRecDepth 100000 in
set_option maxHeartbeats 1600000 in
theorem len64_010 (n : Nat) (hn : n < 18446744073709551616) (h0 : ¬ (4294967296 : Int) ≤ (n : Int)) (h1 : (65536 : Int) ≤ (n : Int)) (h2 : ¬ (256 : Int) ≤ (n : Int) / 65536) (w : World) : Calls Tryd.prog 65 #[.int .u64 n] w fun e w' => e = .returned (.int .i64 (blen n)) ∧ w' = w := by
  have HB : Hid (blen n = blen (n / 65536) + 16) := (by show _ = _; rw [show (65536 : Nat) = 2 ^ 16 from rfl]; exact blen_shift 16 n (by have : (2 : Nat) ^ 16 = 65536 := rfl; omega))
  obtain ⟨m, hm⟩ : ∃ m : Nat, m = n / 65536 := ⟨_, rfl⟩
  have hm9 : m < 256 := by omega
  have HE : Hid ((n : Int) / 65536 = (m : Int)) := (by show _ = _; omega)
  rw [← hm] at HB
  have HM : Hid (m < 256) := hm9
  clear hm hm9
  go_enter Tryd.func65, Tryd.ntmps65
  have hx : ∀ u : World, (Instr.index 9 (.string tab8) (.int .u8 ((n : Int) / 65536))).run Tryd.prog u = .ok (.int .u8 (blen m : Int)) u := fun u => by rw [HE.out]; exact tab8_run m HM.out u
  have hm2 : (n : Int) / 65536 < 256 := by rw [HE.out]; have := HM.out; omega
  go_wp2_with fail
  go_ret
  have h8 := blen_le (k := 8) (show m < 2 ^ 8 from HM.out)
  exact ⟨by
    show Ending.returned (.int .i64 _) = _
    rw [HB.out]
    congr 2
    have h9 : wrap64 (blen m : Int) = (blen m : Int) := wrap_small (by omega)
    rw [h9, wrap_small (by omega)]
    omega, rfl⟩

set_option maxRecDepth 100000 in
set_option maxHeartbeats 1600000 in
theorem len64_011 (n : Nat) (hn : n < 18446744073709551616) (h0 : ¬ (4294967296 : Int) ≤ (n : Int)) (h1 : (65536 : Int) ≤ (n : Int)) (h2 : (256 : Int) ≤ (n : Int) / 65536) (w : World) : Calls Tryd.prog 65 #[.int .u64 n] w fun e w' => e = .returned (.int .i64 (blen n)) ∧ w' = w := by
  have HB : Hid (blen n = blen (n / 16777216) + 24) := (by show _ = _; rw [show (16777216 : Nat) = 2 ^ 24 from rfl]; exact blen_shift 24 n (by have : (2 : Nat) ^ 24 = 16777216 := rfl; omega))
  obtain ⟨m, hm⟩ : ∃ m : Nat, m = n / 16777216 := ⟨_, rfl⟩
  have hm9 : m < 256 := by omega
  have HE : Hid ((n : Int) / 65536 / 256 = (m : Int)) := (by show _ = _; omega)
  rw [← hm] at HB
  have HM : Hid (m < 256) := hm9
  clear hm hm9
  go_enter Tryd.func65, Tryd.ntmps65
  have hx : ∀ u : World, (Instr.index 9 (.string tab8) (.int .u8 ((n : Int) / 65536 / 256))).run Tryd.prog u = .ok (.int .u8 (blen m : Int)) u := fun u => by rw [HE.out]; exact tab8_run m HM.out u
  have hm2 : (n : Int) / 65536 / 256 < 256 := by rw [HE.out]; have := HM.out; omega
  go_wp2_with fail
  go_ret
  have h8 := blen_le (k := 8) (show m < 2 ^ 8 from HM.out)
  exact ⟨by
    show Ending.returned (.int .i64 _) = _
    rw [HB.out]
    congr 2
    have h9 : wrap64 (blen m : Int) = (blen m : Int) := wrap_small (by omega)
    rw [h9, wrap_small (by omega)]
    omega, rfl⟩

set_option maxRecDepth 100000 in
set_option maxHeartbeats 1600000 in
theorem len64_100 (n : Nat) (hn : n < 18446744073709551616) (h0 : (4294967296 : Int) ≤ (n : Int)) (h1 : ¬ (65536 : Int) ≤ (n : Int) / 4294967296) (h2 : ¬ (256 : Int) ≤ (n : Int) / 4294967296) (w : World) : Calls Tryd.prog 65 #[.int .u64 n] w fun e w' => e = .returned (.int .i64 (blen n)) ∧ w' = w := by
  have HB : Hid (blen n = blen (n / 4294967296) + 32) := (by show _ = _; rw [show (4294967296 : Nat) = 2 ^ 32 from rfl]; exact blen_shift 32 n (by have : (2 : Nat) ^ 32 = 4294967296 := rfl; omega))
  obtain ⟨m, hm⟩ : ∃ m : Nat, m = n / 4294967296 := ⟨_, rfl⟩
  have hm9 : m < 256 := by omega
  have HE : Hid ((n : Int) / 4294967296 = (m : Int)) := (by show _ = _; omega)
  rw [← hm] at HB
  have HM : Hid (m < 256) := hm9
  clear hm hm9
  go_enter Tryd.func65, Tryd.ntmps65
  have hx : ∀ u : World, (Instr.index 9 (.string tab8) (.int .u8 ((n : Int) / 4294967296))).run Tryd.prog u = .ok (.int .u8 (blen m : Int)) u := fun u => by rw [HE.out]; exact tab8_run m HM.out u
  have hm2 : (n : Int) / 4294967296 < 256 := by rw [HE.out]; have := HM.out; omega
  go_wp2_with fail
  go_ret
  have h8 := blen_le (k := 8) (show m < 2 ^ 8 from HM.out)
  exact ⟨by
    show Ending.returned (.int .i64 _) = _
    rw [HB.out]
    congr 2
    have h9 : wrap64 (blen m : Int) = (blen m : Int) := wrap_small (by omega)
    rw [h9, wrap_small (by omega)]
    omega, rfl⟩

set_option maxRecDepth 100000 in
set_option maxHeartbeats 1600000 in
theorem len64_101 (n : Nat) (hn : n < 18446744073709551616) (h0 : (4294967296 : Int) ≤ (n : Int)) (h1 : ¬ (65536 : Int) ≤ (n : Int) / 4294967296) (h2 : (256 : Int) ≤ (n : Int) / 4294967296) (w : World) : Calls Tryd.prog 65 #[.int .u64 n] w fun e w' => e = .returned (.int .i64 (blen n)) ∧ w' = w := by
  have HB : Hid (blen n = blen (n / 1099511627776) + 40) := (by show _ = _; rw [show (1099511627776 : Nat) = 2 ^ 40 from rfl]; exact blen_shift 40 n (by have : (2 : Nat) ^ 40 = 1099511627776 := rfl; omega))
  obtain ⟨m, hm⟩ : ∃ m : Nat, m = n / 1099511627776 := ⟨_, rfl⟩
  have hm9 : m < 256 := by omega
  have HE : Hid ((n : Int) / 4294967296 / 256 = (m : Int)) := (by show _ = _; omega)
  rw [← hm] at HB
  have HM : Hid (m < 256) := hm9
  clear hm hm9
  go_enter Tryd.func65, Tryd.ntmps65
  have hx : ∀ u : World, (Instr.index 9 (.string tab8) (.int .u8 ((n : Int) / 4294967296 / 256))).run Tryd.prog u = .ok (.int .u8 (blen m : Int)) u := fun u => by rw [HE.out]; exact tab8_run m HM.out u
  have hm2 : (n : Int) / 4294967296 / 256 < 256 := by rw [HE.out]; have := HM.out; omega
  go_wp2_with fail
  go_ret
  have h8 := blen_le (k := 8) (show m < 2 ^ 8 from HM.out)
  exact ⟨by
    show Ending.returned (.int .i64 _) = _
    rw [HB.out]
    congr 2
    have h9 : wrap64 (blen m : Int) = (blen m : Int) := wrap_small (by omega)
    rw [h9, wrap_small (by omega)]
    omega, rfl⟩

set_option maxRecDepth 100000 in
set_option maxHeartbeats 1600000 in
theorem len64_110 (n : Nat) (hn : n < 18446744073709551616) (h0 : (4294967296 : Int) ≤ (n : Int)) (h1 : (65536 : Int) ≤ (n : Int) / 4294967296) (h2 : ¬ (256 : Int) ≤ (n : Int) / 4294967296 / 65536) (w : World) : Calls Tryd.prog 65 #[.int .u64 n] w fun e w' => e = .returned (.int .i64 (blen n)) ∧ w' = w := by
  have HB : Hid (blen n = blen (n / 281474976710656) + 48) := (by show _ = _; rw [show (281474976710656 : Nat) = 2 ^ 48 from rfl]; exact blen_shift 48 n (by have : (2 : Nat) ^ 48 = 281474976710656 := rfl; omega))
  obtain ⟨m, hm⟩ : ∃ m : Nat, m = n / 281474976710656 := ⟨_, rfl⟩
  have hm9 : m < 256 := by omega
  have HE : Hid ((n : Int) / 4294967296 / 65536 = (m : Int)) := (by show _ = _; omega)
  rw [← hm] at HB
  have HM : Hid (m < 256) := hm9
  clear hm hm9
  go_enter Tryd.func65, Tryd.ntmps65
  have hx : ∀ u : World, (Instr.index 9 (.string tab8) (.int .u8 ((n : Int) / 4294967296 / 65536))).run Tryd.prog u = .ok (.int .u8 (blen m : Int)) u := fun u => by rw [HE.out]; exact tab8_run m HM.out u
  have hm2 : (n : Int) / 4294967296 / 65536 < 256 := by rw [HE.out]; have := HM.out; omega
  go_wp2_with fail
  go_ret
  have h8 := blen_le (k := 8) (show m < 2 ^ 8 from HM.out)
  exact ⟨by
    show Ending.returned (.int .i64 _) = _
    rw [HB.out]
    congr 2
    have h9 : wrap64 (blen m : Int) = (blen m : Int) := wrap_small (by omega)
    rw [h9, wrap_small (by omega)]
    omega, rfl⟩

set_option maxRecDepth 100000 in
set_option maxHeartbeats 1600000 in
theorem len64_111 (n : Nat) (hn : n < 18446744073709551616) (h0 : (4294967296 : Int) ≤ (n : Int)) (h1 : (65536 : Int) ≤ (n : Int) / 4294967296) (h2 : (256 : Int) ≤ (n : Int) / 4294967296 / 65536) (w : World) : Calls Tryd.prog 65 #[.int .u64 n] w fun e w' => e = .returned (.int .i64 (blen n)) ∧ w' = w := by
  have HB : Hid (blen n = blen (n / 72057594037927936) + 56) := (by show _ = _; rw [show (72057594037927936 : Nat) = 2 ^ 56 from rfl]; exact blen_shift 56 n (by have : (2 : Nat) ^ 56 = 72057594037927936 := rfl; omega))
  obtain ⟨m, hm⟩ : ∃ m : Nat, m = n / 72057594037927936 := ⟨_, rfl⟩
  have hm9 : m < 256 := by omega
  have HE : Hid ((n : Int) / 4294967296 / 65536 / 256 = (m : Int)) := (by show _ = _; omega)
  rw [← hm] at HB
  have HM : Hid (m < 256) := hm9
  clear hm hm9
  go_enter Tryd.func65, Tryd.ntmps65
  have hx : ∀ u : World, (Instr.index 9 (.string tab8) (.int .u8 ((n : Int) / 4294967296 / 65536 / 256))).run Tryd.prog u = .ok (.int .u8 (blen m : Int)) u := fun u => by rw [HE.out]; exact tab8_run m HM.out u
  have hm2 : (n : Int) / 4294967296 / 65536 / 256 < 256 := by rw [HE.out]; have := HM.out; omega
  go_wp2_with fail
  go_ret
  have h8 := blen_le (k := 8) (show m < 2 ^ 8 from HM.out)
  exact ⟨by
    show Ending.returned (.int .i64 _) = _
    rw [HB.out]
    congr 2
    have h9 : wrap64 (blen m : Int) = (blen m : Int) := wrap_small (by omega)
    rw [h9, wrap_small (by omega)]
    omega, rfl⟩

theorem len64_ok (n : Nat) (hn : n < 18446744073709551616) (w : World) : Calls Tryd.prog 65 #[.int .u64 n] w fun e w' => e = .returned (.int .i64 (blen n)) ∧ w' = w := by
  by_cases q0 : (4294967296 : Int) ≤ (n : Int)
  · by_cases q1 : (65536 : Int) ≤ (n : Int) / 4294967296
    · by_cases q2 : (256 : Int) ≤ (n : Int) / 4294967296 / 65536
      · exact len64_111 n hn (by omega) (by omega) (by omega) w
      · exact len64_110 n hn (by omega) (by omega) (by omega) w
    · by_cases q2 : (256 : Int) ≤ (n : Int) / 4294967296
      · exact len64_101 n hn (by omega) (by omega) (by omega) w
      · exact len64_100 n hn (by omega) (by omega) (by omega) w
  · by_cases q1 : (65536 : Int) ≤ (n : Int)
    · by_cases q2 : (256 : Int) ≤ (n : Int) / 65536
      · exact len64_011 n hn (by omega) (by omega) (by omega) w
      · exact len64_010 n hn (by omega) (by omega) (by omega) w
    · by_cases q2 : (256 : Int) ≤ (n : Int)
      · exact len64_001 n hn (by omega) (by omega) (by omega) w
      · exact len64_000 n hn (by omega) (by omega) (by omega) w
end Go.Proofs.YtoepemgflbmlcaaDoor

/- frame.allUpTo, frame.appendNumbers. -/
namespace Go.Proofs.YtoepemgflbmlcaaDoor
set_option linter.unusedVariables false
set_option linter.unusedSimpArgs false
open Go.RowKit Go.Deep

/-- all from 0 to most -/
def upTo (most : Int) (zs : List Int) : Bool := zs.all (fun z => decide (0 ≤ z ∧ z ≤ most))
theorem upTo_at {most : Int} {zs : List Int} : upTo most zs = true ↔ ∀ (k : Nat) (z : Int), zs[k]? = some z → 0 ≤ z ∧ z ≤ most := by
  unfold upTo
  rw [List.all_eq_true]
  constructor
  · intro h k z hk
    exact of_decide_eq_true (h z (List.mem_of_getElem? hk))
  · intro h z hz
    obtain ⟨k, hk⟩ := List.getElem?_of_mem hz
    exact decide_eq_true (h k z hk)
theorem wrapK9 {k : Nat} (h : k ≤ 9000000000) : wrap64 ((k : Int) + 1) = ((k + 1 : Nat) : Int) := by unfold wrap64; omega

set_option maxRecDepth 100000 in
set_option maxHeartbeats 1600000 in
theorem allUpTo_ok (Z : Nat → Prop) (most : Int) (q : Option Addr) (n c : Nat) (zs : List Int) (w : World) (h : Fl w Z q (zs.map encI)) (hn : n = zs.length) (hn9 : n ≤ 1000000000) :
    Calls Tryd.prog 51 #[.int .i64 most, .slice q n c] w fun e w' => e = .returned (.bool (upTo most zs)) ∧ w' = w := by
  have HF : Hid (Fl w Z q (zs.map encI)) := h
  have HN : Hid (n = zs.length ∧ n ≤ 1000000000) := ⟨hn, hn9⟩
  have hn9' : (n : Int) ≤ 1000000000 := by omega
  clear h hn hn9
  go_enter Tryd.func51, Tryd.ntmps51
  go_wp2_with fail
  go_loopg [9] n (fun gk iv wz => ∃ k : Nat, k ≤ n ∧ gk = n - k ∧ iv = .int .i64 k ∧ w = wz ∧ Hid (∀ (i : Nat) (z : Int), i < k → zs[i]? = some z → 0 ≤ z ∧ z ≤ most))
  case atStart => exact ⟨0, Nat.zero_le _, rfl, rfl, rfl, fun i z hi => absurd hi (Nat.not_lt_zero _)⟩
  case round =>
    obtain ⟨k, hk, rfl, rfl, rfl, HT⟩ := hrel
    by_cases hlt : (k : Int) < (n : Int)
    · have hkl : k < zs.length := by have := HN.out; omega
      obtain ⟨z, hz⟩ : ∃ z, zs[k]? = some z := ⟨_, List.getElem?_eq_getElem hkl⟩
      obtain ⟨b, o, rfl, _, hc⟩ := HF.out k (encI z) (by rw [List.getElem?_map, hz]; rfl)
      have hc' : w.cell? ⟨b, o + k, none⟩ = some (.int .i64 z) := hc
      have HZ : Hid (zs[k]? = some z) := hz
      have HKi : Hid (wrap64 ((k : Int) + 1) = ((k + 1 : Nat) : Int)) := wrapK9 (by have := HN.out; omega)
      clear hc hz hkl
      by_cases h0 : z < 0
      · have HR : Hid (upTo most zs = false) := by
          show _ = _
          cases q : upTo most zs with
          | false => rfl
          | true => have := upTo_at.1 q k z HZ.out; omega
        go_wp2_with fail
        go_ret
        exact ⟨by rw [HR.out]; rfl, rfl⟩
      · by_cases hm : most < z
        · have HR : Hid (upTo most zs = false) := by
            show _ = _
            cases q : upTo most zs with
            | false => rfl
            | true => have := upTo_at.1 q k z HZ.out; omega
          go_wp2_with fail
          go_ret
          exact ⟨by rw [HR.out]; rfl, rfl⟩
        · have HO : Hid (0 ≤ z ∧ z ≤ most) := ⟨by omega, by omega⟩
          go_wp2_with fail
          go_roundg (n - (k + 1))
          case rel =>
            refine ⟨k + 1, by omega, rfl, by first | rw [HKi.out] | rfl | go_num, rfl, fun i y hi hy => ?_⟩
            by_cases e : i = k
            · subst e
              rw [HZ.out] at hy
              cases hy
              exact HO.out
            · exact HT.out i y (by omega) hy
          case measure => omega
    · have HR : Hid (upTo most zs = true) := upTo_at.2 (fun i z hz => HT.out i z (by have := HN.out; have := (List.getElem?_eq_some_iff.1 hz).1; omega) hz)
      go_wp2_with fail
      go_ret
      exact ⟨by rw [HR.out]; rfl, rfl⟩
end Go.Proofs.YtoepemgflbmlcaaDoor

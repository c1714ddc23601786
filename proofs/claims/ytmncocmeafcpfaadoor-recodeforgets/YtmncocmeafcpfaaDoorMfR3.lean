/- The walk of reed.Encode. -/
import Derived.Test.YtmncocmeafcpfaaDoorMfR1
import Derived.Test.YtmncocmeafcpfaaDoorMfR2
import Derived.Test.YtmncocmeafcpfaaDoorMfM12
import Derived.Test.YtmncocmeafcpfaaDoorMfRs
namespace Go.Proofs.YtmncocmeafcpfaaDoor.Mf
open Go.RowKit Go.Deep

theorem thereTo_all {L : Nat → Nat} {k : Nat} (h : ∀ r, r < k → 0 < L r) : thereTo L k = List.range k := by
  unfold thereTo
  exact List.filter_eq_self.2 (fun r hr => by simpa using h r (List.mem_range.1 hr))
theorem len0_all {L : Nat → Nat} {k n : Nat} (hn : 0 < n) (hk : 0 < k) (h : ∀ r, r < k → L r = n) : len0 L k = n := by
  unfold len0
  rw [thereTo_all (fun r hr => by rw [h r hr]; exact hn)]
  have : (List.range k).headD 0 = 0 := by
    cases k with
    | zero => omega
    | succ k => rw [List.range_succ_eq_map]; rfl
  rw [this, h 0 hk]
theorem alike_all {L : Nat → Nat} {k n : Nat} (hn : 0 < n) (hk : 0 < k) (h : ∀ r, r < k → L r = n) : alikeTo L k k = true :=
  decide_eq_true (fun r hr => Or.inr (by rw [h r hr, len0_all hn hk h]))

set_option maxRecDepth 100000 in
set_option maxHeartbeats 1600000 in
theorem encode_yes (K M n : Nat) (s : Sh) (w : World) (hs : Rd w s) (hG : s.G = K) (hL : ∀ r, r < K → s.L r = n) (h1 : 1 ≤ (K : Int)) (h3 : (M : Int) ≤ 255 - (K : Int)) (hp : Pows w) (hn : (n : Int) ≤ 1000000) (hn1 : 1 ≤ (n : Int)) :
    Calls Tryd.prog 118 #[.agg #[.int .i64 K, .int .i64 M], .slice s.g K s.cap] w fun e w' =>
      ∃ t B, e = .returned (.tuple #[.slice (some ⟨t, 0, none⟩) (K + M) (K + M), .int .i64 0]) ∧ Kp (fun _ => False) w w' ∧ w.heap.size ≤ t ∧ (∀ i, i < K + M → w.heap.size ≤ B i) ∧ Mat w' t B (K + M) n (enc K s.M) := by
  subst hG
  obtain ⟨wa, hwa⟩ : ∃ x, x = w.alloc (.cells #[.int .i64 (s.G : Int), .int .i64 (M : Int)] 26) := ⟨_, rfl⟩
  have q1 : wa.cell? ⟨w.heap.size, 0, none⟩ = some (.int .i64 (s.G : Int)) := by rw [hwa]; go_simp
  have q2 : wa.cell? ⟨w.heap.size, 1, none⟩ = some (.int .i64 (M : Int)) := by rw [hwa]; go_simp
  have k0 : Kp (fun _ => False) w wa := by rw [hwa]; exact (Kp.refl _ _).alloc _
  have HC : Hid (Calls _ _ _ wa _) := can_yes s.G M wa h1 (by omega) h3
  have HL : Hid (∀ r, r < s.G → s.L r = n) := hL
  have hnn : ((s.G : Int) != (s.G : Int)) = false := bne_self_eq_false _
  clear hL
  go_enter Tryd.func118, Tryd.ntmps118
  go_wp2_with fail
  rw [← hwa]
  refine HC.out.mono ?_
  rintro e w1 ⟨rfl, k1⟩
  have r1 := k1.cellv q1 id
  have r2 := k1.cellv q2 id
  have kk := k0.trans k1 (fun _ _ e => e)
  clear HC q1 q2 k0 k1 hwa
  have HK : Hid (Calls _ _ _ w1 _) := look_any s w1 (hs.keep kk) (by omega) h1
  rw [alike_all (by omega) (by omega) HL.out, thereTo_all (L := s.L) (k := s.G) (fun r hr => by rw [HL.out r hr]; omega)] at HK
  go_wp2_with fail
  refine HK.out.mono ?_
  rintro e w2 ⟨v, rfl, k2, pa, ba, cv, rfl, _, _⟩
  rw [List.length_range]
  have s1 := k2.cellv r1 id
  have s2 := k2.cellv r2 id
  have kk2 := kk.trans k2 (fun _ _ e => e)
  clear HK r1 r2
  have HG : Hid (Calls _ _ _ w2 _) := generator_yes s.G M w2 h1 h3 (kk2.pows hp id)
  go_wp2_with fail
  refine HG.out.mono ?_
  rintro e w3 ⟨t, B, rfl, k3, hM⟩
  have kk3 := kk2.trans k3 (fun _ _ e => e)
  clear HG
  have HA : Hid (Calls _ _ _ w3 _) := mixAll_any (ofMat t B (s.G + M) s.G (gen s.G)) s n w3 hM.rd (hs.keep kk3) (fun _ _ => rfl) HL.out (by show ((s.G + M : Nat) : Int) ≤ 1000; omega) (by show 1 ≤ ((s.G + M : Nat) : Int); omega) (by omega) h1 (kk3.pows hp id) hn hn1
  go_wp2_with fail
  refine HA.out.mono ?_
  rintro e w4 ⟨B', rfl, hP⟩
  go_wp2
  go_ret2
  have hz := kk3.size
  refine ⟨_, B', rfl, kk3.trans hP.kept (fun _ _ e => e), by omega, fun i hi => by have := hP.lo i hi; omega, hP.mat (fun i j => prodTo_lt _ _ _ _ _)⟩
end Go.Proofs.YtmncocmeafcpfaaDoor.Mf

/- Rising; loads; members turned by a seed. -/
import Derived.Test.YtneobpdbfbcnmaaHh
namespace Go.Proofs.Ytneobpdbfbcnmaa
set_option linter.unusedVariables false
open Go.RowKit Go.Deep

/-- the members of a set, rising -/
def rise (bs : List Bool) (n : Nat) : List Int := ((List.range n).filter (fun i => bs.getD i false)).map (fun i : Nat => (i : Int))
theorem rise_succ (bs : List Bool) (n : Nat) : rise bs (n + 1) = if bs.getD n false then rise bs n ++ [(n : Int)] else rise bs n := by
  unfold rise
  have hf : [n].filter (fun i => bs.getD i false) = if bs.getD n false then [n] else [] := by rw [List.filter_cons, List.filter_nil]
  rw [List.range_succ, List.filter_append, List.map_append, hf]
  by_cases h : bs.getD n false = true
  · rw [if_pos h, if_pos h]; rfl
  · rw [if_neg h, if_neg h]; simp
theorem rise_len (bs : List Bool) (n : Nat) : (rise bs n).length ≤ n := by
  unfold rise
  rw [List.length_map]
  exact Nat.le_trans (List.length_filter_le _ _) (by simp)
set_option maxRecDepth 100000 in
theorem idx_ok (bs : List Bool) (hb : bs.length = 16) (k : Nat) (hk : k < 16) (w : World) : (Instr.index 44 (.agg (boolsV bs).toArray) (.int .i64 (k : Int))).run Try.prog w = .ok (.bool (bs.getD k false)) w := by
  obtain ⟨b0, b1, b2, b3, b4, b5, b6, b7, b8, b9, b10, b11, b12, b13, b14, b15, rfl⟩ : ∃ b0 b1 b2 b3 b4 b5 b6 b7 b8 b9 b10 b11 b12 b13 b14 b15, bs = [b0, b1, b2, b3, b4, b5, b6, b7, b8, b9, b10, b11, b12, b13, b14, b15] := by
    match bs, hb with
    | [b0, b1, b2, b3, b4, b5, b6, b7, b8, b9, b10, b11, b12, b13, b14, b15], _ => exact ⟨b0, b1, b2, b3, b4, b5, b6, b7, b8, b9, b10, b11, b12, b13, b14, b15, rfl⟩
  have : k = 0 ∨ k = 1 ∨ k = 2 ∨ k = 3 ∨ k = 4 ∨ k = 5 ∨ k = 6 ∨ k = 7 ∨ k = 8 ∨ k = 9 ∨ k = 10 ∨ k = 11 ∨ k = 12 ∨ k = 13 ∨ k = 14 ∨ k = 15 := by omega
  rcases this with rfl | rfl | rfl | rfl | rfl | rfl | rfl | rfl | rfl | rfl | rfl | rfl | rfl | rfl | rfl | rfl
  · rfl
  · rfl
  · rfl
  · rfl
  · rfl
  · rfl
  · rfl
  · rfl
  · rfl
  · rfl
  · rfl
  · rfl
  · rfl
  · rfl
  · rfl
  · rfl

set_option maxRecDepth 100000 in
set_option maxHeartbeats 1600000 in
theorem rising_ok (bs : List Bool) (hb : bs.length = 16) (w : World) :
    Calls Try.prog 22 #[.agg (boolsV bs).toArray] w fun e w' => ∃ v, e = .returned v ∧ Kp (fun _ => False) w w' ∧ w'.ownsRow w.heap.size 3 1 v (rise bs 16).length ((rise bs 16).map encI) := by
  obtain ⟨ba, hba⟩ : ∃ ba, ba = (boolsV bs).toArray := ⟨_, rfl⟩
  have HIx : Hid (∀ k : Nat, k < 16 → ∀ w, (Instr.index 44 (.agg ba) (.int .i64 (k : Int))).run Try.prog w = .ok (.bool (bs.getD k false)) w) := fun k hk w => by rw [hba]; exact idx_ok bs hb k hk w
  have HBa : Hid (ba.toList.length = 16) := by show _ = _; rw [hba, List.toList_toArray, List.length_map, hb]
  rw [← hba]
  obtain ⟨rs, hrs⟩ : ∃ rs, rs = rise bs 16 := ⟨_, rfl⟩
  have HRs : Hid (rs = rise bs 16) := hrs
  rw [← hrs]
  obtain ⟨ti, hi0, hz0, hz1, hz2⟩ := info_parts infoInt
  clear hb hba hrs
  go_enter Try.func22, Try.ntmps22
  have HA : Hid (ba.toList.toArray = ba) := by show _ = _; simp
  have k0 : Kp (fun _ => False) w (w.alloc (.cells ba 44)) := (Kp.refl _ _).alloc _
  go_wp2_with (refine wpList_load_all rfl 44 _ rfl 16 w.heap.size ba.toList rfl (by exact Lv.new w ba _) dsN szN HBa.out ?_; rw [HA.out])
  go_loopg [3, 7] 16 (fun gk rv iv wr => ∃ k : Nat, k ≤ 16 ∧ gk = 16 - k ∧ iv = .int .i64 k ∧ Hid (Kp (fun _ => False) w wr) ∧ Hid (wr.ownsRow w.heap.size 3 1 rv (rise bs k).length ((rise bs k).map encI)))
  case atStart => exact ⟨0, by omega, rfl, rfl, k0, World.ownsRow_nil _ _ _ _⟩
  case round =>
    obtain ⟨k, hk, rfl, rfl, HK, HO⟩ := hrel
    obtain ⟨rv, rfl⟩ : ∃ x, x = u3 := ⟨_, rfl⟩
    by_cases hlt : (k : Int) < 16
    · have hix := HIx.out k (by omega)
      obtain ⟨bk, hbk⟩ : ∃ bk, bk = bs.getD k false := ⟨_, rfl⟩
      rw [← hbk] at hix
      have HS : Hid (rise bs (k + 1) = if bk then rise bs k ++ [(k : Int)] else rise bs k) := by rw [hbk]; exact rise_succ bs k
      have HW : Hid (wrap64 ((k : Int) + 1) = ((k + 1 : Nat) : Int)) := by show _ = _; unfold wrap64; omega
      have HLn : Hid ((rise bs k).length ≤ 16) := Nat.le_trans (rise_len bs k) (by omega)
      obtain ⟨rk, hrk⟩ : ∃ rk, rk = rise bs k := ⟨_, rfl⟩
      rw [← hrk] at HS HO HLn
      obtain ⟨qa, ca, hrv, _⟩ := own_fl HO.out
      obtain ⟨n1, hn1⟩ : ∃ n, n = rk.length := ⟨_, rfl⟩
      rw [← hn1] at hrv HO HLn
      subst hrv
      have HN1 : Hid (n1 = rk.length) := hn1
      clear hbk hrk hn1
      cases bk with
      | false =>
        have HO2 : Hid (wr.ownsRow w.heap.size 3 1 (.slice qa n1 ca) (rise bs (k + 1)).length ((rise bs (k + 1)).map encI)) := by rw [HS.out]; show wr.ownsRow _ _ _ _ rk.length _; rw [← HN1.out]; exact HO.out
        go_wp2
        go_roundg (16 - (k + 1))
        case rel => exact ⟨k + 1, by omega, rfl, by first | rfl | rw [HW.out], HK, HO2⟩
        case measure => omega
      | true =>
        have kn : Kp (fun _ => False) wr (wr.alloc (.cells #[.int .i64 (k : Int)] 3)) := (Kp.refl _ _).alloc _
        have HO1 : Hid ((wr.alloc (.cells #[.int .i64 (k : Int)] 3)).ownsRow w.heap.size 3 1 (.slice qa n1 ca) n1 (rk.map encI)) := ownsRow_keep HO.out kn (fun _ _ => id)
        have HNf : Hid (Src Try.prog 1 22 (.slice (some ⟨wr.heap.size, 0, none⟩) 1 1) 1 [encI (k : Int)] (wr.alloc (.cells #[.int .i64 (k : Int)] 3))) := Src.ofSlice _ Try.underlying22 ⟨wr.heap.size, 0, none⟩ 1 1 [encI (k : Int)] rfl (fun j u hj => by rw [Addr.add_mid, Nat.zero_add]; exact (Lv.new wr #[.int .i64 (k : Int)] 3).cell hj) (fun u hu => by rw [List.mem_singleton] at hu; subst hu; rfl)
        have HSz : Hid (w.heap.size ≤ (wr.alloc (.cells #[.int .i64 (k : Int)] 3)).heap.size) := Nat.le_trans HK.out.size kn.size
        have HKa : Hid (Kp (fun _ => False) w (wr.alloc (.cells #[.int .i64 (k : Int)] 3))) := HK.out.trans kn (fun _ _ e => e)
        clear kn
        go_wp2_with (at_builtin; refine wpList_append_own_src _ rfl _ _ 22 22 rfl w.heap.size 3 ti (.int .i64 0) 1 8 Try.underlying22 hi0 hz0 hz1 hz2 rfl (by decide) (.slice qa n1 ca) n1 (rk.map encI) rfl HO1.out _ 1 [encI (k : Int)] rfl HNf.out (by have := HLn.out; unfold maxLen; omega) (by have := HLn.out; omega) HSz.out ?_; intro v2 w3 hown' hk3 hblk3; have HK3 : Hid (Kp (fun _ => False) w w3) := HKa.out.app HO1.out (grownBy_kp hk3); have HO3 : Hid (w3.ownsRow w.heap.size 3 1 v2 (rise bs (k + 1)).length ((rise bs (k + 1)).map encI)) := (by rw [HS.out]; show w3.ownsRow _ _ _ _ (rk ++ [(k : Int)]).length ((rk ++ [(k : Int)]).map encI); rw [List.length_append, List.map_append, ← HN1.out]; exact hown'); clear hown' hk3 hblk3)
        go_roundg (16 - (k + 1))
        case rel => exact ⟨k + 1, by omega, rfl, by first | rfl | rw [HW.out], HK3, HO3⟩
        case measure => omega
    · obtain rfl : k = 16 := by omega
      have HO2 : Hid (wr.ownsRow w.heap.size 3 1 rv rs.length (rs.map encI)) := by rw [HRs.out]; exact HO.out
      go_wp2
      go_ret
      exact ⟨rv, rfl, HK.out, HO2.out⟩

/-- where it begins, turned by a seed, of c -/
def beg (seed : Int) (c : Nat) : Nat := ((seed % 18446744073709551616) % (c : Int)).toNat
theorem beg_lt (seed : Int) {c : Nat} (hc : 0 < c) : beg seed c < c := by
  unfold beg
  have h1 := Int.emod_nonneg (seed % 18446744073709551616) (show (c : Int) ≠ 0 by omega)
  have h2 := Int.emod_lt_of_pos (seed % 18446744073709551616) (show (0 : Int) < (c : Int) by omega)
  omega
theorem beg_eq (seed : Int) {c : Nat} (hc : 0 < c) (h16 : c ≤ 16) : wrap64 ((IntKind.u64.wrap seed).tmod (IntKind.u64.wrap (c : Int))) = (beg seed c : Int) := by
  have h : IntKind.u64.wrap seed = seed % 18446744073709551616 := by simp [IntKind.wrap, IntKind.bits, IntKind.signed]
  have h' : IntKind.u64.wrap (c : Int) = (c : Int) := by
    have : IntKind.u64.wrap (c : Int) = (c : Int) % 18446744073709551616 := by simp [IntKind.wrap, IntKind.bits, IntKind.signed]
    rw [this]; omega
  rw [h, h']
  have h0 : 0 ≤ seed % 18446744073709551616 := Int.emod_nonneg _ (by omega)
  rw [Int.tmod_eq_emod_of_nonneg h0]
  have h1 := Int.emod_nonneg (seed % 18446744073709551616) (show (c : Int) ≠ 0 by omega)
  have h2 := Int.emod_lt_of_pos (seed % 18446744073709551616) (show (0 : Int) < (c : Int) by omega)
  unfold beg wrap64
  omega

set_option maxRecDepth 100000 in
set_option maxHeartbeats 800000 in
theorem load_ok (k c : Nat) (seed : Int) (hk : k < c) (hc : c ≤ 16) (w : World) :
    Calls Try.prog 24 #[.int .i64 (k : Int), .int .i64 (c : Int), .int .i64 seed] w fun e w' => e = .returned (.int .i64 (ldn c (beg seed c) k : Int)) ∧ w' = w := by
  have hb := beg_eq seed (c := c) (by omega) hc
  have hbl := beg_lt seed (c := c) (by omega)
  have hu : IntKind.u64.wrap (c : Int) = (c : Int) := by
    have : IntKind.u64.wrap (c : Int) = (c : Int) % 18446744073709551616 := by simp [IntKind.wrap, IntKind.bits, IntKind.signed]
    rw [this]; omega
  rw [hu] at hb
  obtain ⟨b, hbb⟩ : ∃ b, b = beg seed c := ⟨_, rfl⟩
  rw [← hbb] at hb hbl ⊢
  have h1 : wrap64 ((k : Int) + (c : Int)) = ((k + c : Nat) : Int) := by unfold wrap64; omega
  have h2 : wrap64 (((k + c : Nat) : Int) - (b : Int)) = ((k + c - b : Nat) : Int) := by unfold wrap64; omega
  have h3 : ((k + c - b : Nat) : Int).tmod (c : Int) = (ldn c b k : Int) := by
    rw [Int.tmod_eq_emod_of_nonneg (by omega)]; unfold ldn; omega
  obtain ⟨s1, hs1⟩ : ∃ s, s = k + c := ⟨_, rfl⟩
  obtain ⟨s2, hs2⟩ : ∃ s, s = k + c - b := ⟨_, rfl⟩
  obtain ⟨s3, hs3⟩ : ∃ s, s = ldn c b k := ⟨_, rfl⟩
  rw [← hs1] at h1 h2
  rw [← hs2] at h3
  have h2' : wrap64 ((s1 : Int) - (b : Int)) = (s2 : Int) := by rw [h2, hs2, hs1]
  rw [← hs3] at h3 ⊢
  have hc0 : (c : Int) ≠ 0 := by omega
  have hcp : c ≠ 0 := by omega
  clear h2 hs1 hs2 hs3 hbb hbl hk hc
  go_enter Try.func24, Try.ntmps24
  go_wp2
  go_ret
  exact ⟨rfl, rfl⟩
end Go.Proofs.Ytneobpdbfbcnmaa

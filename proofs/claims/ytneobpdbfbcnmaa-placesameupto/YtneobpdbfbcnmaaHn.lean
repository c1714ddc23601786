/- The first one that will do. -/
import Derived.Test.YtneobpdbfbcnmaaHk
namespace Go.Proofs.Ytneobpdbfbcnmaa
set_option linter.unusedVariables false
open Go.RowKit Go.Deep

/-- is z none of the set -/
def lck (bs : List Bool) (z : Int) : Bool := !(bs.getD z.toNat false)

set_option maxRecDepth 100000 in
set_option maxHeartbeats 800000 in
theorem lack_ok (bs : List Bool) (hb : bs.length = 16) (z : Int) (hz : 0 ≤ z ∧ z < 16) (w : World) :
    Calls Try.prog 20 #[.agg (boolsV bs).toArray, .int .i64 z] w fun e w' => e = .returned (.bool (lck bs z)) ∧ Kp (fun _ => False) w w' := by
  obtain ⟨k, rfl⟩ : ∃ k : Nat, z = (k : Int) := ⟨z.toNat, by omega⟩
  obtain ⟨ba, hba⟩ : ∃ ba, ba = (boolsV bs).toArray := ⟨_, rfl⟩
  have hk : k < bs.length := by omega
  have c1 : (w.alloc (.cells ba 44)).cell? ⟨w.heap.size, k, none⟩ = some (.bool (bs.getD k false)) := (Lv.new w ba _).cell (by rw [hba, List.toList_toArray, List.getElem?_map, List.getElem?_eq_getElem hk, List.getD_eq_getElem?_getD, List.getElem?_eq_getElem hk]; rfl)
  have hl : lck bs (k : Int) = !(bs.getD k false) := by unfold lck; rw [Int.toNat_natCast]
  rw [← hba, hl]
  obtain ⟨bv, hbv⟩ : ∃ bv, bv = bs.getD k false := ⟨_, rfl⟩
  rw [← hbv] at c1 ⊢
  have h16 : (k : Int) < 16 := hz.2
  have kk : Kp (fun _ => False) w (w.alloc (.cells ba 44)) := (Kp.refl _ _).alloc _
  clear hba hk hl hbv hz hb
  go_enter Try.func20, Try.ntmps20
  go_wp2
  go_ret
  exact ⟨rfl, kk⟩
theorem rs_rng (zs : List Int) (q : Nat) : 0 ≤ (rs zs).getD q 0 ∧ (rs zs).getD q 0 < 16 := by
  rw [List.getD_eq_getElem?_getD]
  cases h : (rs zs)[q]? with
  | none => exact ⟨by decide, by decide⟩
  | some z =>
    have hm := List.mem_of_getElem? h
    unfold rs rise at hm
    simp only [List.mem_map, List.mem_filter, List.mem_range] at hm
    obtain ⟨i, ⟨h1, _⟩, rfl⟩ := hm
    show 0 ≤ (i : Int) ∧ (i : Int) < 16
    omega
/-- the first one, turned by a seed, that is none of the set -/
def fstS (zs : List Int) (seed : Int) (bs : List Bool) : Option Int := (trn zs seed).find? (lck bs)

set_option maxRecDepth 100000 in
set_option maxHeartbeats 3200000 in
theorem first_ok {w : World} {base h g cap : Nat} (zs : List Int) (seed : Int) (bs : List Bool) (hb : bs.length = 16) (x : Hp w base h g cap (ndz zs) (ldz zs seed) (lft zs seed 0)) :
    Calls Try.prog 19 #[.iface 51 (.pointer (some ⟨h, 0, none⟩)), .func (.func 20) #[.agg (boolsV bs).toArray] #[]] w fun e w' => e = .returned (.tuple #[.int .i64 ((fstS zs seed bs).getD 0), .bool (fstS zs seed bs).isSome]) ∧ Kp (fun b => b = h ∨ b = g) w w' := by
  have HX : Hid (Hp w base h g cap (ndz zs) (ldz zs seed) (lft zs seed 0)) := x
  have HL : Hid (∀ (z : Int) (u : World), 0 ≤ z ∧ z < 16 → Calls _ _ _ u _) := fun z u hz => lack_ok bs hb z hz u
  obtain ⟨ba, hba⟩ : ∃ ba, ba = (boolsV bs).toArray := ⟨_, rfl⟩
  rw [← hba] at HL ⊢
  obtain ⟨c, hc⟩ : ∃ c, c = (rs zs).length := ⟨_, rfl⟩
  have HC : Hid (c = (rs zs).length ∧ c ≤ 16) := ⟨hc, by rw [hc]; exact rs_len zs⟩
  obtain ⟨f, hf⟩ : ∃ f, f = fstS zs seed bs := ⟨_, rfl⟩
  have HF : Hid (f = fstS zs seed bs) := hf
  rw [← hf]
  clear x hb hba hc hf
  go_enter Try.func19, Try.ntmps19
  go_wp2
  go_loopg [] (c + 1) (fun gk wr => ∃ k : Nat, k ≤ c ∧ gk = c + 1 - k ∧ Hid (Kp (fun b => b = h ∨ b = g) w wr) ∧ Hid (Hp wr base h g cap (ndz zs) (ldz zs seed) (lft zs seed k)) ∧ Hid (((trn zs seed).take k).find? (lck bs) = none))
  case atStart => exact ⟨0, by omega, rfl, Kp.refl _ _, HX, rfl⟩
  case round =>
    obtain ⟨k, hk, rfl, HK, HP, HN⟩ := hrel
    have h1 := mLeft (.pointer (some ⟨h, 0, none⟩)) wr
    have HE1 : Hid (Calls _ _ _ wr _) := qleft HP.out
    rw [lft_len, ← HC.out.1] at HE1
    obtain ⟨m, hm⟩ : ∃ m, m = c - k := ⟨_, rfl⟩
    rw [← hm] at HE1
    go_wp2_with fail
    refine HE1.out.mono ?_
    rintro e w2 ⟨rfl, hw2⟩
    obtain rfl := hw2
    clear HE1 h1
    by_cases hkc : k < c
    · have hm0 : (m : Int) > 0 := by omega
      obtain ⟨hp1, hlt2⟩ := lft_pop zs seed k (by rw [← HC.out.1]; exact hkc)
      have h2 := mTake (.pointer (some ⟨h, 0, none⟩)) w2
      have HE2 : Hid (Calls _ _ _ w2 _) := qtake HP.out (by rw [lft_len, ← HC.out.1]; have := HC.out; omega)
      rw [hp1] at HE2
      obtain ⟨z, hz⟩ : ∃ z, z = (trn zs seed).getD k 0 := ⟨_, rfl⟩
      rw [← hz] at HE2
      have hzg : (trn zs seed)[k] = z := by rw [hz, List.getD_eq_getElem?_getD, List.getElem?_eq_getElem hlt2]; rfl
      have HZ : Hid (0 ≤ z ∧ z < 16) := by
        have h3 : z ∈ trn zs seed := by rw [← hzg]; exact List.getElem_mem hlt2
        unfold trn at h3
        obtain ⟨i, _, rfl⟩ := List.mem_map.1 h3
        exact rs_rng zs _
      have HT : Hid ((trn zs seed).take (k + 1) = (trn zs seed).take k ++ [z]) := by show _ = _; rw [List.take_succ_eq_append_getElem hlt2, hzg]
      have HDr : Hid (trn zs seed = (trn zs seed).take k ++ z :: (trn zs seed).drop (k + 1)) := by show _ = _; rw [← hzg, ← List.drop_eq_getElem_cons hlt2, List.take_append_drop]
      clear hm hp1 hlt2 hz hzg
      go_wp2_with fail
      refine HE2.out.mono ?_
      rintro e w3 ⟨rfl, k3, hp3⟩
      have HP3 : Hid (Hp w3 base h g cap (ndz zs) (ldz zs seed) (lft zs seed (k + 1))) := hp3
      have HK3 : Hid (Kp (fun b => b = h ∨ b = g) w w3) := HK.out.trans k3 (fun _ _ e => e)
      have HE3 : Hid (Calls _ _ _ w3 _) := HL.out z w3 HZ.out
      obtain ⟨lv, hlv⟩ : ∃ lv, lv = lck bs z := ⟨_, rfl⟩
      have HLv : Hid (lv = lck bs z) := hlv
      rw [← hlv] at HE3
      clear HE2 k3 hp3 h2 hlv
      go_wp2_with fail
      refine HE3.out.mono ?_
      rintro e w4 ⟨rfl, k4⟩
      have HP4 : Hid (Hp w4 base h g cap (ndz zs) (ldz zs seed) (lft zs seed (k + 1))) := HP3.out.keep0 k4
      have HK4 : Hid (Kp (fun b => b = h ∨ b = g) w w4) := HK3.out.trans k4 (fun _ _ e => e.elim)
      clear HE3 k4
      cases lv with
      | true =>
        have HFz : Hid (f = some z) := by
          show f = some z
          rw [HF.out]; unfold fstS
          rw [HDr.out, List.find?_append, HN.out, List.find?_cons, ← HLv.out]; rfl
        go_wp2
        go_ret2
        exact ⟨by rw [HFz.out]; rfl, HK4.out⟩
      | false =>
        have HN4 : Hid (((trn zs seed).take (k + 1)).find? (lck bs) = none) := by
          show _ = none
          rw [HT.out, List.find?_append, HN.out, List.find?_cons, ← HLv.out]; rfl
        go_wp2
        go_roundg (c + 1 - (k + 1))
        case rel => exact ⟨k + 1, by omega, rfl, HK4, HP4, HN4⟩
        case measure => omega
    · have hm0 : ¬ ((m : Int) > 0) := by omega
      have hm1 : m = 0 := by omega
      have HFz : Hid (f = none) := by
        have h3 := HN.out
        rw [List.take_of_length_le (by rw [trn_len, ← HC.out.1]; omega)] at h3
        rw [HF.out]; exact h3
      subst hm1
      clear hm
      go_wp2
      go_ret2
      exact ⟨by rw [HFz.out]; rfl, HK.out⟩
end Go.Proofs.Ytneobpdbfbcnmaa

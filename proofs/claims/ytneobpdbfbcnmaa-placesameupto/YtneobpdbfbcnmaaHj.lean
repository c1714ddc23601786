/- Members turned by a seed; Choose. -/
import Derived.Test.YtneobpdbfbcnmaaHi
namespace Go.Proofs.Ytneobpdbfbcnmaa
set_option linter.unusedVariables false
open Go.RowKit Go.Deep

/-- the members of a list: rising, each once -/
def rs (zs : List Int) : List Int := rise (setOf zs) 16
theorem rs_len (zs : List Int) : (rs zs).length ≤ 16 := rise_len _ _
def ndz (zs : List Int) (k : Nat) : Int := (rs zs).getD k 0
def ldz (zs : List Int) (seed : Int) : Nat → Nat := ldn (rs zs).length (beg seed (rs zs).length)
/-- the queue's heap at block h -/
def Qh (w : World) (h g cap : Nat) (zs : List Int) (seed : Int) (l : List Nat) : Prop := ∃ base, Hp w base h g cap (ndz zs) (ldz zs seed) l

set_option maxRecDepth 100000 in
set_option maxHeartbeats 3200000 in
theorem turned_ok (Z : Nat → Prop) (p : Option Addr) (cp : Nat) (zs : List Int) (seed : Int) (w : World) (h : Fl w Z p (zs.map encI)) (hl : Hid (zs.length * 8 ≤ 140737488355328)) :
    Calls Try.prog 16 #[.slice p zs.length cp, .int .i64 seed] w fun e w' => ∃ hb, e = .returned (.iface 51 (.pointer (some ⟨hb, 0, none⟩))) ∧ Kp (fun _ => False) w w' ∧ w.heap.size ≤ hb ∧ ∃ g cap, w.heap.size ≤ g ∧ Qh w' hb g cap zs seed (pushes (ldz zs seed) (rs zs).length) := by
  have HE1 : Hid (Calls _ _ _ w _) := nodesOf_ok Z p cp zs w h hl
  have HE2 : Hid (∀ u, Calls _ _ _ u _) := fun u => rising_ok (setOf zs) (setOf_len zs) u
  obtain ⟨n, hn⟩ : ∃ n, n = zs.length := ⟨_, rfl⟩
  rw [← hn] at HE1 ⊢
  obtain ⟨ba, hba⟩ : ∃ ba, ba = (boolsV (setOf zs)).toArray := ⟨_, rfl⟩
  rw [← hba] at HE1 HE2
  obtain ⟨r, hr⟩ : ∃ r, r = rs zs := ⟨_, rfl⟩
  have hr' : rise (setOf zs) 16 = r := by rw [hr]; rfl
  rw [hr'] at HE2
  rw [← hr]
  have HR : Hid (r = rs zs ∧ r.length ≤ 16) := ⟨hr, by rw [hr]; exact rs_len zs⟩
  clear h hl hn hba hr hr'
  go_enter Try.func16, Try.ntmps16
  go_wp2_with fail
  refine HE1.out.mono ?_
  rintro e w0 ⟨rfl, k0⟩
  have HK0 : Hid (Kp (fun _ => False) w w0) := k0
  clear HE1 k0
  go_wp2_with fail
  refine (HE2.out w0).mono ?_
  rintro e w1 ⟨v, rfl, k1, hown⟩
  obtain ⟨q, cq, rfl, hfl⟩ := own_fl hown
  have HF : Hid (Fl w1 (fun b => w0.heap.size ≤ b ∧ b < w1.heap.size) q (r.map encI)) := hfl
  have HK1 : Hid (Kp (fun _ => False) w w1) := HK0.out.trans k1 (fun _ _ e => e)
  obtain ⟨c, hc⟩ : ∃ c, c = r.length := ⟨_, rfl⟩
  have HC : Hid (c = r.length ∧ c ≤ 16) := ⟨hc, by rw [hc]; exact HR.out.2⟩
  rw [← hc]
  clear HE2 k1 hown hfl hc
  go_wp2_with fail
  obtain ⟨u, hu⟩ : ∃ x, x = (w1.alloc (.cells #[] 57)).alloc (.cells #[.slice (some ⟨w1.heap.size, 0, none⟩) 0 0] 53) := ⟨_, rfl⟩
  rw [← hu]
  have z1 : (w1.alloc (.cells #[] 57)).heap.size = w1.heap.size + 1 := by simp
  have ku : Kp (fun _ => False) w1 u := by rw [hu]; exact ((Kp.refl _ _).alloc _).alloc _
  have HP0 : Hid (Hp u w1.heap.size (w1.heap.size + 1) w1.heap.size 0 (ndz zs) (ldz zs seed) []) := by
    refine ⟨?_, ?_, by omega, by omega⟩
    · rw [hu, ← z1]; exact Lv.new _ _ _
    · rw [hu]
      exact ownsRow_keep (World.ownsRow_made w1 #[] 0 (Nat.le_refl _) (by unfold maxLen; omega) rfl) ((Kp.refl (fun _ => False) _).alloc _) (fun _ _ => id)
  have HFu : Hid (Fl u (fun b => b < w1.heap.size) q (r.map encI)) := (HF.out.keep ku (fun _ _ => id)).mono (fun b hb => hb.2)
  have HKu : Hid (Kp (fun _ => False) w u) := HK1.out.trans ku (fun _ _ e => e)
  obtain ⟨B, hB⟩ : ∃ B, B = w1.heap.size := ⟨_, rfl⟩
  obtain ⟨hb, hhb⟩ : ∃ hb, hb = w1.heap.size + 1 := ⟨_, rfl⟩
  rw [← hhb] at HP0
  rw [← hB] at HP0 HFu
  rw [← hhb]
  have HB : Hid (w.heap.size ≤ B ∧ B ≤ hb) := by show _ ∧ _; have := HK1.out.size; omega
  have e0 : w1.heap.size = B := hB.symm
  try rw [e0]
  clear hu z1 ku HF HK1 hB hhb e0
  go_loopg [16] c (fun gk iv wr => ∃ k : Nat, k ≤ c ∧ gk = c - k ∧ iv = .int .i64 k ∧ Hid (Kp (fun _ => False) w wr) ∧ Hid (Kp (fun b => B ≤ b) u wr) ∧ Hid (Hq wr B hb (ndz zs) (ldz zs seed) (pushes (ldz zs seed) k)))
  case atStart => exact ⟨0, Nat.zero_le _, rfl, rfl, HKu, Kp.refl _ _, ⟨B, 0, HP0.out⟩⟩
  case round =>
    obtain ⟨k, hk, rfl, rfl, HK, HKb, HQ⟩ := hrel
    by_cases hlt : (k : Int) < (c : Int)
    · have hkl : k < r.length := by have := HC.out; omega
      have hge : (r.map encI)[k]? = some (encI r[k]) := by rw [List.getElem?_map, List.getElem?_eq_getElem hkl]; rfl
      obtain ⟨b1, o1, rfl, _, e1⟩ := (HFu.out.keep HKb.out (fun b hb e => by omega)) k _ hge
      obtain ⟨z, hz⟩ : ∃ z, z = r[k] := ⟨_, rfl⟩
      rw [← hz] at e1
      have hzn : ndz zs k = z := by unfold ndz; rw [← HR.out.1, List.getD_eq_getElem?_getD, List.getElem?_eq_getElem hkl, hz]; rfl
      have HEl : Hid (Calls _ _ _ wr _) := load_ok k c seed (by omega) HC.out.2 wr
      have hld : ldn c (beg seed c) k = ldz zs seed k := by unfold ldz; rw [← HR.out.1, ← HC.out.1]
      rw [hld] at HEl
      have HEp : Hid (Calls _ _ _ wr _) := heapPush HQ.out k (by rw [pushes_len]; have := HC.out; omega)
      rw [hzn] at HEp
      obtain ⟨a, ha⟩ : ∃ a : Int, a = (ldz zs seed k : Int) := ⟨_, rfl⟩
      rw [← ha] at HEl HEp
      have HW : Hid (wrap64 ((k : Int) + 1) = ((k + 1 : Nat) : Int)) := by show _ = _; have := HC.out; unfold wrap64; omega
      clear hge hz hzn hld ha hkl
      go_wp2_with fail
      refine HEl.out.mono ?_
      rintro e w2 ⟨rfl, hw2⟩
      obtain rfl := hw2
      clear HEl
      go_wp2_with fail
      refine HEp.out.mono ?_
      rintro e w3 ⟨rfl, k3, hq3⟩
      have HK3 : Hid (Kp (fun _ => False) w w3) := HK.out.trans k3 (fun b hb e => by have := HB.out; omega)
      have HKb3 : Hid (Kp (fun b => B ≤ b) u w3) := HKb.out.trans k3 (fun _ _ e => e)
      have HQ3 : Hid (Hq w3 B hb (ndz zs) (ldz zs seed) (pushes (ldz zs seed) (k + 1))) := hq3
      clear HEp k3 hq3
      go_wp2
      go_roundg (c - (k + 1))
      case rel => exact ⟨k + 1, by omega, rfl, by rw [HW.out], HK3, HKb3, HQ3⟩
      case measure => omega
    · obtain rfl : k = c := by omega
      have HFin : Hid (∃ g cap, w.heap.size ≤ g ∧ Qh wr hb g cap zs seed (pushes (ldz zs seed) r.length)) := by
        obtain ⟨g, cap, hp⟩ := HQ.out
        exact ⟨g, cap, by have := hp.gb; have := HB.out; omega, B, by rw [← HC.out.1]; exact hp⟩
      go_wp2
      go_ret
      obtain ⟨g, cap, h1, h2⟩ := HFin.out
      exact ⟨hb, rfl, HK.out, by have := HB.out; omega, g, h1, cap, h2⟩
end Go.Proofs.Ytneobpdbfbcnmaa

/- An acceptor of a shelf: Open. -/
import Derived.Test.YtippipeebkkghaaGreatDoorVog
namespace Go.Proofs.YtippipeebkkghaaGreatDoor
set_option linter.unusedVariables false
set_option linter.unusedSimpArgs false
open Go.RowKit Go.Deep Go.Maps

section
variable {w : World} {Z : Nat → Prop} {sh mp g bp d m gf s b N : Nat} {h : List Rc} {hi : Nat} {V : Nat → Nat}

/-- each note is one of an acceptor -/
theorem may_noted (hs : Hs h hi V) {z : Int} (hz : InN hi V z) {B : Nat} {v : Value} {u : World} (o : Ow u B v (ntd h z.toNat)) :
    Calls Tryz.prog 34 #[.int .i64 z, v] u fun e w' => e = .returned (.bool true) ∧ Kp (fun _ => False) u w' := by
  have h20 := hs.h20
  rcases hz with ⟨rfl, h0⟩ | ⟨h1, h5, hv⟩
  · have e0 : (0 : Int).toNat = 0 := rfl
    rw [e0, hs.at0, if_neg h0] at o
    obtain ⟨q, c, rfl, hc, hr, _⟩ := o.rb (fun z hz => by
      simp only [List.mem_cons, List.not_mem_nil, or_false] at hz
      omega)
    exact mayP_ok q 2 c hi u hr hc ⟨by omega, h20⟩ (by omega)
  · rw [hs.atS (s := z.toNat) ⟨by omega, by omega⟩ hv] at o
    have hb := hs.v20 z.toNat
    obtain ⟨q, c, rfl, hc, hr, _⟩ := o.rb (fun y hy => by
      rw [votB_eq (by omega) hb] at hy
      simp only [List.mem_cons, List.not_mem_nil, or_false] at hy
      omega)
    exact mayV_ok z (by omega) q _ c _ u hr hc ⟨by omega, hb⟩ o.cap9

set_option maxRecDepth 100000 in
set_option maxHeartbeats 6400000 in
theorem vopen_ok (x : Shr w Z sh mp g bp d m gf s b N h) (hs : Hs h hi V) :
    Calls Tryz.prog 11 #[.pointer (some ⟨sh, 0, none⟩)] w fun e w' => ∃ ac, e = .returned (.tuple #[.pointer (some ⟨ac, 0, none⟩), .int .i64 0]) ∧ Kp (fun _ => False) w w' ∧ w.heap.size ≤ ac ∧ Lv w' ac [.pointer (some ⟨sh, 0, none⟩)] := by
  have HLf : Hid (Calls _ _ _ w _) := r8life_ok x
  have HNo : Hid (Calls _ _ _ w _) := snotes_ok x.sk
  have HX : Hid (Sk w Z sh mp g h) := x.sk
  have HH : Hid (Hs h hi V) := hs
  have hb1 : ((b : Int) == 0) = false := by
    obtain ⟨q, a, c, e, lt, y, dur, T, hl, _⟩ := x.lg
    have := hl.b1
    simp
    omega
  have hb2 : ¬ ((b : Int) = 0) := by simpa using hb1
  clear x hs
  go_enter Tryz.func11, Tryz.ntmps11
  go_wp2_with fail
  refine HLf.out.mono ?_
  rintro e9 w9 ⟨rfl, hw9⟩
  have hw8 := hw9.symm
  subst hw8
  clear hw9 HLf
  go_wp2_with fail
  refine HNo.out.mono ?_
  rintro e9 w2 ⟨v2, ss, rfl, k2, o2, hT⟩
  obtain ⟨zs, hzs⟩ : ∃ l, l = ntsL (srt3 ss) := ⟨_, rfl⟩
  rw [← hzs] at o2
  have HZs : Hid ((∀ z ∈ zs, InN hi V z) ∧ zs.length ≤ 6) := by
    obtain ⟨_, h2, h3⟩ := HH.out.nts hT
    rw [← hzs] at h2 h3
    exact ⟨fun z hz => (h2 z).1 hz, h3⟩
  obtain ⟨q, cq, rfl, hf⟩ := own_fl o2
  have HF : Hid (Fl w2 (fun b => w.heap.size ≤ b ∧ b < w2.heap.size) q (zs.map (Value.int .i64))) := hf
  have HT : Hid (Kp (fun _ => False) w w2) := k2
  obtain ⟨n, hn⟩ : ∃ n, n = zs.length := ⟨_, rfl⟩
  have HN : Hid (n = zs.length) := hn
  have HX2 : Hid (Sk w2 Z sh mp g h) := HX.out.keep k2 id id (fun _ _ => id)
  rw [← hn]
  clear hT hzs o2 hf k2 hn HNo HX
  go_wp2_with fail
  go_loopg [12] n (fun gk iv wr => ∃ j : Nat, j ≤ n ∧ gk = n - j ∧ iv = .int .i64 (j : Int) ∧ Hid (Kp (fun _ => False) w2 wr))
  case atStart => exact ⟨0, Nat.zero_le _, rfl, rfl, Kp.refl _ _⟩
  case round =>
    obtain ⟨j, hj, rfl, rfl, HK⟩ := hrel
    by_cases hlt : j < n
    · have hlt2 : (j : Int) < (n : Int) := by omega
      have hjz : j < zs.length := by rw [← HN.out]; exact hlt
      obtain ⟨z, hz⟩ : ∃ z, z = zs[j] := ⟨_, rfl⟩
      obtain ⟨g0, o0, rfl, hg0, hc0⟩ := HF.out j (.int .i64 z) (by rw [List.getElem?_map, List.getElem?_eq_getElem hjz, hz]; rfl)
      have hin : InN hi V z := HZs.out.1 z (by rw [hz]; exact List.getElem_mem hjz)
      have x0 := HK.out.cellv hc0 id
      have hw1 : wrap64 ((j : Int) + 1) = ((j + 1 : Nat) : Int) := by have := HZs.out.2; unfold wrap64; omega
      have HJ : Hid (j < n) := hlt
      have hz0 : 0 ≤ z ∧ z ≤ 5 := by rcases hin with e | e <;> omega
      have HNt : Hid (Calls Tryz.prog 35 #[.pointer (some ⟨sh, 0, none⟩), .int .i64 z] wr fun e w' => ∃ v, e = .returned v ∧ Kp (fun _ => False) wr w' ∧ Ow w' wr.heap.size v (ntd h z.toNat) ∧ ∀ y ∈ ntd h z.toNat, y < 256) := by
        have h9 := r8noted_ok (HX2.out.keep HK.out id id (fun _ _ => id)) z.toNat (by omega)
        have e : ((z.toNat : Nat) : Int) = z := by omega
        rw [e] at h9
        exact h9
      have HIn : Hid (InN hi V z) := hin
      clear hg0 hc0 hz hjz hlt hin hz0
      go_wp2_with fail
      refine HNt.out.mono ?_
      rintro e9 w3 ⟨v3, rfl, k3, o3, _⟩
      have HMy : Hid (Calls _ _ _ w3 _) := may_noted HH.out HIn.out o3
      have HK3 : Hid (Kp (fun _ => False) w2 w3) := HK.out.trans k3 (fun _ _ e => e)
      clear k3 o3 HNt HK x0
      go_wp2_with fail
      refine HMy.out.mono ?_
      rintro e9 w4 ⟨rfl, k4⟩
      have HK4 : Hid (Kp (fun _ => False) w2 w4) := HK3.out.trans k4 (fun _ _ e => e)
      clear k4 HK3 HMy
      go_wp2_with fail
      go_roundg (n - (j + 1))
      case rel => exact ⟨j + 1, HJ.out, rfl, by first | rw [hw1] | simp, HK4.out⟩
      case measure => exact Nat.sub_lt_sub_left HJ.out (Nat.lt_succ_self j)
    · have hjn : j = n := by omega
      subst hjn
      have hlt2 : ¬ ((j : Int) < (j : Int)) := by omega
      have HE : Hid (Kp (fun _ => False) w (wr.alloc (.cells #[.pointer (some ⟨sh, 0, none⟩)] 73)) ∧ w.heap.size ≤ wr.heap.size ∧ Lv (wr.alloc (.cells #[.pointer (some ⟨sh, 0, none⟩)] 73)) wr.heap.size [.pointer (some ⟨sh, 0, none⟩)]) := by
        have k9 : Kp (fun _ => False) w wr := HT.out.trans HK.out (fun _ _ e => e)
        exact ⟨k9.trans ((Kp.refl (fun _ => False) _).alloc _) (fun _ _ e => e), k9.size, Lv.new wr _ _⟩
      clear HK HF HX2
      go_wp2
      go_ret2
      exact ⟨_, rfl, HE.out⟩
end
end Go.Proofs.YtippipeebkkghaaGreatDoor

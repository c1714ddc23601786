/- HistoryTells. -/
import Derived.Test.YtbbgplnenbkfeaaVn
import Derived.Test.YtbbgplnenbkfeaaVh
namespace Go.Proofs.Ytbbgplnenbkfeaa
set_option linter.unusedVariables false
set_option linter.unusedSimpArgs false
open Go.RowKit Go.Deep Go.Maps

theorem Jn.may {w : World} {p : Option Addr} {n c : Nat} {es : List Ev} (h : Jn w p n c es) : Calls Try.prog 10 #[.slice p n c] w fun r w' => r = .returned (.bool (rd es).isSome) ∧ Kp (fun _ => False) w w' := by
  have := may_ok (fun _ => True) p c es w h.f h.o (by have := h.l; have := h.s; omega)
  rw [h.l] at this
  exact this
theorem Jn.rmay {w : World} {p : Option Addr} {n c : Nat} {es : List Ev} (h : Jn w p n c es) : Calls Try.prog 11 #[.slice p n c] w fun r w' => r = .returned (.bool (rd es).isSome) ∧ Kp (fun _ => False) w w' := by
  have := rmay_ok (fun _ => True) p c es w h.f h.o (by have := h.l; have := h.s; omega)
  rw [h.l] at this
  exact this
theorem Jn.rcheck {w : World} {p : Option Addr} {n c : Nat} {es : List Ev} (h : Jn w p n c es) : Calls Try.prog 13 #[.slice p n c] w fun r w' => r = .returned (.bool (chk es)) ∧ Kp (fun _ => False) w w' := by
  have := rcheck_ok (fun _ => True) p c es w h.f h.o (by have := h.l; have := h.s; omega)
  rw [h.l] at this
  exact this
theorem Jn.none (w : World) : Jn w none 0 0 [] := ⟨rfl, fun j u hj => (by cases hj), fun e he => (by cases he), by omega, by omega⟩
theorem chk_nil : chk [] = true := rfl
theorem rd_nil : rd [] = some [] := rfl

set_option maxRecDepth 100000 in
set_option maxHeartbeats 6400000 in
theorem historyTells_walk (p : Option Addr) (n c : Nat) (es : List Ev) (w : World) (h : es.length = n ∧ Fl w (fun _ => True) p (eflat es) ∧ (∀ x ∈ es, x.ok w) ∧ (n : Int) ≤ 9223372036854775807 ∧ n ≤ c) :
    Calls Try.prog 3 #[.slice p n c] w fun e w' => e = .returned (.bool true) ∧ Kp (fun _ => False) w w' := by
  obtain ⟨m, hm⟩ : ∃ m : Nat, min (n : Int) 30 = (m : Int) := ⟨min n 30, by omega⟩
  have hmn : m ≤ n ∧ m ≤ 30 := by omega
  have hj : Jn w p m c (es.take m) := ⟨by rw [List.length_take]; omega, by
    have hf := h.2.1
    rw [← List.take_append_drop m es, eflat_append] at hf
    exact fl_part hf, fun e he => h.2.2.1 e (List.mem_of_mem_take he), by omega, by omega⟩
  have hmc : (m : Int) ≤ (c : Int) := by have := hj.c; omega
  have hm30 : (m : Int) ≤ 30 := by omega
  have HM : Hid (∀ u, Kp (fun _ => False) w u → Calls _ _ _ u _) := fun u ku => (hj.keep ku).may
  have HRm : Hid (∀ u, Kp (fun _ => False) w u → Calls _ _ _ u _) := fun u ku => (hj.keep ku).rmay
  have HC : Hid (∀ u, Kp (fun _ => False) w u → Calls _ _ _ u _) := fun u ku => (hj.keep ku).check
  have HRc : Hid (∀ u, Kp (fun _ => False) w u → Calls _ _ _ u _) := fun u ku => (hj.keep ku).rcheck
  have HM0 : Hid (∀ u, Calls Try.prog 10 #[.slice none 0 0] u fun r w' => r = .returned (.bool true) ∧ Kp (fun _ => False) u w') := fun u => by
    have := (Jn.none u).may
    rw [rd_nil] at this
    exact this
  have HC0 : Hid (∀ u, Calls Try.prog 12 #[.slice none 0 0] u fun r w' => r = .returned (.bool true) ∧ Kp (fun _ => False) u w') := fun u => by
    have := (Jn.none u).check
    rw [chk_nil] at this
    exact this
  obtain ⟨b1, hb1⟩ : ∃ b, b = (rd (es.take m)).isSome := ⟨_, rfl⟩
  obtain ⟨b2, hb2⟩ : ∃ b, b = chk (es.take m) := ⟨_, rfl⟩
  rw [← hb1] at HM HRm
  rw [← hb2] at HC HRc
  clear h hj hb1 hb2 hmn
  go_enter Try.func3, Try.ntmps3
  go_wp2_with fail
  refine (HM.out w (Kp.refl _ _)).mono ?_
  rintro e1 w1 ⟨rfl, k1⟩
  have HK1 : Hid (Kp (fun _ => False) w w1) := k1
  clear k1 HM
  go_wp2_with fail
  refine (HRm.out w1 HK1.out).mono ?_
  rintro e2 w2 ⟨rfl, k2⟩
  have HK2 : Hid (Kp (fun _ => False) w w2) := HK1.out.trans k2 (fun _ _ e => e)
  clear k2 HRm
  have hbb1 : (b1 == b1) = true := by simp
  have hbb2 : (b2 == b2) = true := by simp
  go_wp2_with fail
  refine (HC.out w2 HK2.out).mono ?_
  rintro e3 w3 ⟨rfl, k3⟩
  have HK3 : Hid (Kp (fun _ => False) w w3) := HK2.out.trans k3 (fun _ _ e => e)
  clear k3 HC
  go_wp2_with fail
  refine (HRc.out w3 HK3.out).mono ?_
  rintro e4 w4 ⟨rfl, k4⟩
  have HK4 : Hid (Kp (fun _ => False) w w4) := HK3.out.trans k4 (fun _ _ e => e)
  clear k4 HRc
  go_wp2_with fail
  refine (HM0.out w4).mono ?_
  rintro e5 w5 ⟨rfl, k5⟩
  have HK5 : Hid (Kp (fun _ => False) w w5) := HK4.out.trans k5 (fun _ _ e => e)
  clear k5 HM0
  go_wp2_with fail
  refine (HC0.out w5).mono ?_
  rintro e6 w6 ⟨rfl, k6⟩
  have HK6 : Hid (Kp (fun _ => False) w w6) := HK5.out.trans k6 (fun _ _ e => e)
  clear k6 HC0
  go_wp2
  go_ret
  exact ⟨rfl, HK6.out⟩
end Go.Proofs.Ytbbgplnenbkfeaa

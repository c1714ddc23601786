/- HistoryServed. -/
import Derived.Test.YtggffhoagpbcmaaVd
namespace Go.Proofs.Ytggffhoagpbcmaa
set_option linter.unusedVariables false
set_option linter.unusedSimpArgs false
open Go.RowKit Go.Deep Go.Maps

set_option maxRecDepth 100000 in
set_option maxHeartbeats 6400000 in
theorem historyServed_walk (p : Option Addr) (n c : Nat) (l : List Ak) (lost : Int) (w : World) (h : l.length = n ∧ Fl w (fun _ => True) p (aflat l) ∧ (∀ x ∈ l, x.ok w) ∧ (n : Int) ≤ 9223372036854775807 ∧ n ≤ c) :
    Calls Try.prog 5 #[.slice p n c, .int .u64 lost] w fun e w' => e = .returned (.bool true) ∧ Kp (fun _ => False) w w' := by
  have HS : Hid (∀ u, Kp (fun _ => False) w u → Calls Try.prog 15 #[.slice p n c, .int .u64 lost] u fun e w' => ∃ q cj es, e = .returned (.slice q es.length cj) ∧ Re u w' (.slice q es.length cj) es ∧ es.length ≤ 60 ∧ ∃ cs st bs, Srv es cs st bs) := fun u ku => served_ok p n c l lost u ⟨h.1, h.2.1.keep ku (fun _ _ => id), fun x hx => (h.2.2.1 x hx).keep ku, h.2.2.2⟩
  clear h
  go_enter Try.func5, Try.ntmps5
  go_wp2_with fail
  refine (HS.out w (Kp.refl _ _)).mono ?_
  rintro e1 w1 ⟨q1, c1, es1, rfl, hr1, hl1, cs1, st1, bs1, hs1⟩
  have HM1 : Hid (∀ u, Kp (fun _ => False) w1 u → Calls Try.prog 10 #[.slice q1 es1.length c1] u fun r w' => r = .returned (.bool true) ∧ Kp (fun _ => False) u w') := fun u ku => by
    obtain ⟨q9, c9, e9, hfl⟩ := own_fl hr1.o
    cases e9
    have := may_ok _ q1 c1 es1 u (hfl.keep ku (fun _ _ => id)) (fun e he => (hr1.c e he).keep (hr1.k.trans ku (fun _ _ e => e))) (by omega)
    rw [hs1.r] at this
    exact this
  have HK1 : Hid (Kp (fun _ => False) w w1) := hr1.k
  obtain ⟨n1, hn1⟩ : ∃ n, n = es1.length := ⟨_, rfl⟩
  rw [← hn1] at HM1 ⊢
  clear hr1 hl1 hs1 hn1
  go_wp2_with fail
  refine (HM1.out w1 (Kp.refl _ _)).mono ?_
  rintro e2 w2 ⟨rfl, k2⟩
  have HK2 : Hid (Kp (fun _ => False) w w2) := HK1.out.trans k2 (fun _ _ e => e)
  clear HM1 k2
  go_wp2_with fail
  refine (HS.out w2 HK2.out).mono ?_
  rintro e3 w3 ⟨q3, c3, es3, rfl, hr3, hl3, cs3, st3, bs3, hs3⟩
  have HC3 : Hid (∀ u, Kp (fun _ => False) w3 u → Calls Try.prog 12 #[.slice q3 es3.length c3] u fun r w' => r = .returned (.bool true) ∧ Kp (fun _ => False) u w') := fun u ku => by
    obtain ⟨q9, c9, e9, hfl⟩ := own_fl hr3.o
    cases e9
    have := check_ok _ q3 c3 es3 u (hfl.keep ku (fun _ _ => id)) (fun e he => (hr3.c e he).keep (hr3.k.trans ku (fun _ _ e => e))) (by omega)
    rw [hs3.right (by omega)] at this
    exact this
  have HK3 : Hid (Kp (fun _ => False) w w3) := HK2.out.trans hr3.k (fun _ _ e => e)
  obtain ⟨n3, hn3⟩ : ∃ n, n = es3.length := ⟨_, rfl⟩
  rw [← hn3] at HC3 ⊢
  clear hr3 hl3 hs3 hn3
  go_wp2_with fail
  refine (HC3.out w3 (Kp.refl _ _)).mono ?_
  rintro e4 w4 ⟨rfl, k4⟩
  have HK4 : Hid (Kp (fun _ => False) w w4) := HK3.out.trans k4 (fun _ _ e => e)
  clear HC3 k4
  have HB : Hid (Calls Try.prog 12 #[.slice (some ⟨w4.heap.size, 0, none⟩) 2 2] (w4.alloc (.cells #[.bool false, .int .i64 1, .int .i64 2, .string ⟨#[]⟩, .slice none 0 0, .bool true, .int .i64 1, .int .i64 1, .string ⟨#[]⟩, .slice none 0 0] 29)) fun r w' => r = .returned (.bool false) ∧ Kp (fun _ => False) (w4.alloc (.cells #[.bool false, .int .i64 1, .int .i64 2, .string ⟨#[]⟩, .slice none 0 0, .bool true, .int .i64 1, .int .i64 1, .string ⟨#[]⟩, .slice none 0 0] 29)) w') := by
    have l2 : Lv (w4.alloc (.cells #[.bool false, .int .i64 1, .int .i64 2, .string ⟨#[]⟩, .slice none 0 0, .bool true, .int .i64 1, .int .i64 1, .string ⟨#[]⟩, .slice none 0 0] 29)) w4.heap.size (eflat [⟨false, 1, 2, noKey, by0⟩, ⟨true, 1, 1, noKey, by0⟩]) := Lv.new w4 _ _
    have := check_ok (fun _ => True) (some ⟨w4.heap.size, 0, none⟩) 2 [⟨false, 1, 2, noKey, by0⟩, ⟨true, 1, 1, noKey, by0⟩] _ (fun j u hj => ⟨_, 0, rfl, trivial, by rw [Nat.zero_add]; exact l2.cell hj⟩) (fun e he => by
      simp only [List.mem_cons, List.not_mem_nil, or_false] at he
      rcases he with rfl | rfl
      · exact ⟨by0_ok _, by dsimp only; omega, Nat.zero_le _⟩
      · exact ⟨by0_ok _, by dsimp only; omega, Nat.zero_le _⟩) (show 2 ≤ 900 by omega)
    rw [chk_bad] at this
    exact this
  have HKa : Hid (Kp (fun _ => False) w4 (w4.alloc (.cells #[.bool false, .int .i64 1, .int .i64 2, .string ⟨#[]⟩, .slice none 0 0, .bool true, .int .i64 1, .int .i64 1, .string ⟨#[]⟩, .slice none 0 0] 29))) := (Kp.refl _ _).alloc _
  go_wp2_with fail
  refine HB.out.mono ?_
  rintro e5 w5 ⟨rfl, k5⟩
  have HK5 : Hid (Kp (fun _ => False) w w5) := (HK4.out.trans HKa.out (fun _ _ e => e)).trans k5 (fun _ _ e => e)
  clear HB k5
  go_wp2
  go_ret
  exact ⟨rfl, HK5.out⟩
end Go.Proofs.Ytggffhoagpbcmaa

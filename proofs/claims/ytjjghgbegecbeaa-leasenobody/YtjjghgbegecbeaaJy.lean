/- LeaseNobody. -/
import Derived.Test.YtjjghgbegecbeaaJw
namespace Go.Proofs.Ytjjghgbegecbeaa
set_option linter.unusedVariables false
set_option linter.unusedSimpArgs false
open Go.RowKit Go.Deep Go.Maps Go.Shelf Go.Lib Go.Sort

/-- a list that no call made -/
def Nol (w : World) (p : Option Addr) : Prop := p = none ∨ ∃ b, p = some ⟨b, 0, none⟩ ∧ w.cell? ⟨b, 0, none⟩ = some (.pointer none)

set_option maxRecDepth 100000 in
theorem nmade {w : World} {p : Option Addr} (h : Nol w p) : Calls Try.prog 27 #[.pointer p] w fun e w' => e = .returned (.bool false) ∧ w' = w := by
  rcases h with rfl | ⟨b, rfl, c⟩
  · go_enter Try.func27, Try.ntmps27
    go_wp2
    go_ret
    exact ⟨rfl, rfl⟩
  · go_enter Try.func27, Try.ntmps27
    go_wp2
    go_ret
    exact ⟨rfl, rfl⟩

set_option maxRecDepth 100000 in
theorem nretire {w : World} {p : Option Addr} (h : Nol w p) (a b c : Int) : Calls Try.prog 10 #[.pointer p, .int .i64 a, .int .i64 b, .int .i64 c] w fun e w' => e = .returned (.int .i64 2) ∧ w' = w := by
  have HM : Hid (Calls _ _ _ w _) := nmade h
  clear h
  go_enter Try.func10, Try.ntmps10
  go_wp2_with fail
  refine HM.out.mono ?_
  rintro e w' ⟨rfl, rfl⟩
  go_wp2
  go_ret
  exact ⟨rfl, rfl⟩

set_option maxRecDepth 100000 in
theorem nkeep {w : World} {p : Option Addr} (h : Nol w p) (a b : Int) : Calls Try.prog 12 #[.pointer p, .int .i64 a, .int .i64 b] w fun e w' => e = .returned (.int .i64 2) ∧ w' = w := by
  have HM : Hid (Calls _ _ _ w _) := nmade h
  clear h
  go_enter Try.func12, Try.ntmps12
  go_wp2_with fail
  refine HM.out.mono ?_
  rintro e w' ⟨rfl, rfl⟩
  go_wp2
  go_ret
  exact ⟨rfl, rfl⟩

set_option maxRecDepth 100000 in
theorem ndue {w : World} {p : Option Addr} (h : Nol w p) (a : Int) : Calls Try.prog 15 #[.pointer p, .int .i64 a] w fun e w' => e = .returned (.slice none 0 0) ∧ w' = w := by
  have HM : Hid (Calls _ _ _ w _) := nmade h
  clear h
  go_enter Try.func15, Try.ntmps15
  go_wp2_with fail
  refine HM.out.mono ?_
  rintro e w' ⟨rfl, rfl⟩
  go_wp2
  go_ret
  exact ⟨rfl, rfl⟩

set_option maxRecDepth 100000 in
theorem nall {w : World} {p : Option Addr} (h : Nol w p) : Calls Try.prog 17 #[.pointer p] w fun e w' => e = .returned (.slice none 0 0) ∧ w' = w := by
  have HM : Hid (Calls _ _ _ w _) := nmade h
  clear h
  go_enter Try.func17, Try.ntmps17
  go_wp2_with fail
  refine HM.out.mono ?_
  rintro e w' ⟨rfl, rfl⟩
  go_wp2
  go_ret
  exact ⟨rfl, rfl⟩

set_option maxRecDepth 100000 in
set_option maxHeartbeats 1600000 in
theorem leaseNobody_walk (bl ix now : Int) (w : World) : Calls Try.prog 7 #[.int .i64 bl, .int .i64 ix, .int .i64 now] w fun e w' => e = .returned (.bool true) ∧ Kp (fun _ => False) w w' := by
  have HE : Hid (∀ w, Calls _ _ _ w _) := fun w => leaseEnds_walk 1 2 3 true w (by decide) (by decide)
  go_enter Try.func7, Try.ntmps7
  go_wp2
  have hl : Lv ((w.alloc (.cells #[.pointer none] 54)).alloc (.cells #[.pointer none, .pointer (some ⟨w.heap.size, 0, none⟩)] 23)) (w.heap.size + 1) [.pointer none, .pointer (some ⟨w.heap.size, 0, none⟩)] := by
    have := Lv.new (w.alloc (.cells #[.pointer none] 54)) #[.pointer none, .pointer (some ⟨w.heap.size, 0, none⟩)] 23
    rwa [World.size_alloc] at this
  have hn : Lv (w.alloc (.cells #[.pointer none] 54)) w.heap.size [.pointer none] := Lv.new w _ _
  have k0 : Kp (fun _ => False) w (w.alloc (.cells #[.pointer none] 54)) := (Kp.refl _ _).alloc _
  have k1 : Kp (fun _ => False) (w.alloc (.cells #[.pointer none] 54)) ((w.alloc (.cells #[.pointer none] 54)).alloc (.cells #[.pointer none, .pointer (some ⟨w.heap.size, 0, none⟩)] 23)) := (Kp.refl _ _).alloc _
  have hn1 := (hn.keep k1 (fun e => e)).cell (j := 0) rfl
  have HK1 : Hid (Kp (fun _ => False) w ((w.alloc (.cells #[.pointer none] 54)).alloc (.cells #[.pointer none, .pointer (some ⟨w.heap.size, 0, none⟩)] 23))) := k0.trans k1 (fun _ _ e => e)
  obtain ⟨w1, hw1⟩ : ∃ x, x = (w.alloc (.cells #[.pointer none] 54)).alloc (.cells #[.pointer none, .pointer (some ⟨w.heap.size, 0, none⟩)] 23) := ⟨_, rfl⟩
  obtain ⟨g, hg⟩ : ∃ q, q = w.heap.size := ⟨_, rfl⟩
  rw [← hw1] at hl hn1 HK1 ⊢
  rw [← hg] at hl hn1 ⊢
  have c0 := hl.cell (j := 0) rfl
  have c1 := hl.cell (j := 1) rfl
  clear hl hn k0 k1 hw1 hg
  have HNO : Hid (Nol w1 none ∧ Nol w1 (some ⟨g, 0, none⟩)) := ⟨Or.inl rfl, Or.inr ⟨g, rfl, hn1⟩⟩
  clear hn1
  go_loopg [13] 2 (fun gk i wr => ∃ k : Nat, k ≤ 2 ∧ gk = 2 - k ∧ i = .int .i64 k ∧ wr = w1)
  case atStart => exact ⟨0, Nat.zero_le _, rfl, rfl, rfl⟩
  case round =>
    obtain ⟨k, hk, rfl, rfl, rfl⟩ := hrel
    by_cases e2 : k = 2
    · subst e2
      have HEW : Hid (Calls _ _ _ wr _) := HE.out wr
      go_wp2_with fail
      refine HEW.out.mono ?_
      rintro e w9 ⟨rfl, k9⟩
      have HK9 : Hid (Kp (fun _ => False) w w9) := HK1.out.trans k9 (fun _ _ e => e)
      clear k9 HEW
      go_wp2
      go_ret
      exact ⟨rfl, HK9.out⟩
    · have hk2 : (k : Int) < 2 := by omega
      have hc : ∃ p : Option Addr, wr.cell? ⟨g + 1, k, none⟩ = some (.pointer p) ∧ Nol wr p := by
        rcases (by omega : k = 0 ∨ k = 1) with e | e
        · subst e; exact ⟨none, c0, HNO.out.1⟩
        · subst e; exact ⟨_, c1, HNO.out.2⟩
      obtain ⟨p, cp, hp⟩ := hc
      have H1 : Hid (Calls _ _ _ wr _) := nretire hp bl ix now
      have H2 : Hid (Calls _ _ _ wr _) := nkeep hp bl ix
      have H3 : Hid (Calls _ _ _ wr _) := ndue hp now
      have H4 : Hid (Calls _ _ _ wr _) := nall hp
      have HHK : Hid (k ≤ 2 ∧ k ≠ 2) := ⟨hk, e2⟩
      clear hp c0 c1 hk e2
      go_wp2_with fail
      refine H1.out.mono ?_
      rintro e w2 ⟨rfl, hw⟩
      obtain rfl := hw.symm
      clear hw
      go_wp2_with fail
      refine H2.out.mono ?_
      rintro e w2 ⟨rfl, hw⟩
      obtain rfl := hw.symm
      clear hw
      go_wp2_with fail
      refine H3.out.mono ?_
      rintro e w2 ⟨rfl, hw⟩
      obtain rfl := hw.symm
      clear hw
      go_wp2_with fail
      refine H4.out.mono ?_
      rintro e w2 ⟨rfl, hw⟩
      obtain rfl := hw.symm
      clear hw
      go_wp2
      go_roundg (2 - (k + 1))
      case rel => exact ⟨k + 1, by have := HHK.out; omega, rfl, by go_num, rfl⟩
      case measure => have := HHK.out; omega
end Go.Proofs.Ytjjghgbegecbeaa

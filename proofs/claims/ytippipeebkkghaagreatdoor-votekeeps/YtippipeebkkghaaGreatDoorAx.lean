/- Append, Room, Last, Life. -/
import Derived.Test.YtippipeebkkghaaGreatDoorAw
namespace Go.Proofs.YtippipeebkkghaaGreatDoor
set_option linter.unusedVariables false
set_option linter.unusedSimpArgs false
open Go.RowKit Go.Deep

theorem Wl.cells {w : World} {g bp s gf : Nat} {A : H4} {last : Int} {e k : Nat} (h : Wl w g bp s gf A last e k) : w.cell? ⟨g, 0, none⟩ = some (.pointer (some ⟨bp, 0, none⟩)) ∧ w.cell? ⟨g, 3, none⟩ = some (.int .i64 A.b) ∧ (∃ cap, w.cell? ⟨g, 6, none⟩ = some (.slice (some ⟨gf, 0, none⟩) k cap)) ∧ w.cell? ⟨g, 7, none⟩ = some (.int .i64 last) := by
  obtain ⟨cap, l, h1, h2, h3⟩ := h.hp
  exact ⟨h1.cell (j := 0) rfl, h1.cell (j := 3) rfl, ⟨cap, h1.cell (j := 6) rfl⟩, h1.cell (j := 7) rfl⟩

set_option maxRecDepth 100000 in
theorem wmade_ok {w : World} {g bp : Nat} (h : w.cell? ⟨g, 0, none⟩ = some (.pointer (some ⟨bp, 0, none⟩))) :
    Calls Tryz.prog 76 #[.pointer (some ⟨g, 0, none⟩)] w fun e w' => e = .returned (.bool true) ∧ w' = w := by
  go_enter Tryz.func76, Tryz.ntmps76
  go_wp2
  go_ret
  exact ⟨rfl, rfl⟩

set_option maxRecDepth 100000 in
theorem room_ok {w : World} {g bp s gf : Nat} {A : H4} {last : Int} {e k : Nat} (h : Wl w g bp s gf A last e k) :
    Calls Tryz.prog 83 #[.pointer (some ⟨g, 0, none⟩)] w fun e9 w' => e9 = .returned (.int .i64 (k : Int)) ∧ w' = w := by
  obtain ⟨c0, c3, ⟨cap, c6⟩, c7⟩ := h.cells
  have HM : Hid (Calls _ _ _ w _) := wmade_ok c0
  clear h
  go_enter Tryz.func83, Tryz.ntmps83
  go_wp2_with fail
  refine HM.out.mono ?_
  rintro e9 w9 ⟨rfl, hw9⟩
  have hw8 := hw9.symm
  subst hw8
  clear hw9 HM
  go_wp2
  go_ret
  exact ⟨rfl, rfl⟩

set_option maxRecDepth 100000 in
theorem life_ok {w : World} {g bp s gf : Nat} {A : H4} {last : Int} {e k : Nat} (h : Wl w g bp s gf A last e k) :
    Calls Tryz.prog 66 #[.pointer (some ⟨g, 0, none⟩)] w fun e9 w' => e9 = .returned (.int .i64 A.b) ∧ w' = w := by
  obtain ⟨c0, c3, ⟨cap, c6⟩, c7⟩ := h.cells
  have HM : Hid (Calls _ _ _ w _) := wmade_ok c0
  clear h
  go_enter Tryz.func66, Tryz.ntmps66
  go_wp2_with fail
  refine HM.out.mono ?_
  rintro e9 w9 ⟨rfl, hw9⟩
  have hw8 := hw9.symm
  subst hw8
  clear hw9 HM
  go_wp2
  go_ret
  exact ⟨rfl, rfl⟩

set_option maxRecDepth 100000 in
theorem isRecord_ok (p : Option Addr) (n c : Nat) (w : World) : Calls Tryz.prog 125 #[.slice p n c] w fun e w' => e = .returned (.bool (decide (1 ≤ n ∧ n ≤ 2000))) ∧ w' = w := by
  by_cases h1 : (n : Int) ≥ 1
  · by_cases h2 : (n : Int) ≤ 2000
    · rw [decide_eq_true (show 1 ≤ n ∧ n ≤ 2000 by omega)]
      go_enter Tryz.func125, Tryz.ntmps125
      go_wp2
      go_ret
      exact ⟨rfl, rfl⟩
    · rw [decide_eq_false (show ¬ (1 ≤ n ∧ n ≤ 2000) by omega)]
      go_enter Tryz.func125, Tryz.ntmps125
      go_wp2
      go_ret
      exact ⟨rfl, rfl⟩
  · rw [decide_eq_false (show ¬ (1 ≤ n ∧ n ≤ 2000) by omega)]
    go_enter Tryz.func125, Tryz.ntmps125
    go_wp2
    go_ret
    exact ⟨rfl, rfl⟩

theorem quo_40 {n K : Nat} (h : K = (n + 39) / 40) (hn : n ≤ 140737488355328) : wrap64 ((n : Int) + 40) = (n : Int) + 40 ∧ wrap64 ((n : Int) + 40 - 1) = (((n + 39 : Nat)) : Int) ∧ (((n + 39 : Nat)) : Int).tdiv 40 = (K : Int) ∧ wrap64 (K : Int) = (K : Int) := by
  refine ⟨by unfold wrap64; omega, by unfold wrap64; omega, ?_, by unfold wrap64; omega⟩
  rw [Int.tdiv_eq_ediv_of_nonneg (by omega), h]
  omega
set_option maxRecDepth 100000 in
theorem sectorsOf_ok (p : Option Addr) (n c K : Nat) (hK : K = (n + 39) / 40) (hn : n ≤ 140737488355328) (w : World) : Calls Tryz.prog 126 #[.slice p n c] w fun e w' => e = .returned (.int .i64 (K : Int)) ∧ w' = w := by
  obtain ⟨e1, e2, e3, e4⟩ := quo_40 hK hn
  obtain ⟨m, hm⟩ : ∃ m, m = n + 39 := ⟨_, rfl⟩
  rw [← hm] at e2 e3
  clear hK hn hm
  go_enter Tryz.func126, Tryz.ntmps126
  go_wp2
  go_ret
  refine ⟨?_, rfl⟩
  show Ending.returned (.int .i64 (wrap64 (K : Int))) = _
  rw [e4]

set_option maxRecDepth 100000 in
set_option maxHeartbeats 800000 in
theorem append_arg {w : World} {g bp s gf : Nat} {A : H4} {last : Int} {e k : Nat} (h : Wl w g bp s gf A last e k) (p : Option Addr) (n c : Nat) (hn : ¬ (1 ≤ n ∧ n ≤ 2000)) :
    Calls Tryz.prog 86 #[.pointer (some ⟨g, 0, none⟩), .slice p n c] w fun e9 w' => e9 = .returned (.tuple #[.int .i64 0, .int .i64 1]) ∧ w' = w := by
  have HM : Hid (Calls _ _ _ w _) := wmade_ok h.cells.1
  have HI : Hid (Calls _ _ _ w _) := isRecord_ok p n c w
  rw [decide_eq_false hn] at HI
  clear h hn
  go_enter Tryz.func86, Tryz.ntmps86
  go_wp2_with fail
  refine HM.out.mono ?_
  rintro e9 w9 ⟨rfl, hw9⟩
  have hw8 := hw9.symm
  subst hw8
  clear hw9 HM
  go_wp2_with fail
  refine HI.out.mono ?_
  rintro e9 w9 ⟨rfl, hw9⟩
  have hw8 := hw9.symm
  subst hw8
  clear hw9 HI
  go_wp2
  go_ret2
  exact ⟨rfl, rfl⟩

set_option maxRecDepth 100000 in
set_option maxHeartbeats 800000 in
theorem append_full {w : World} {g bp s gf : Nat} {A : H4} {last : Int} {e k : Nat} (h : Wl w g bp s gf A last e k) (p : Option Addr) (n c K : Nat) (hn : 1 ≤ n ∧ n ≤ 2000) (hK : K = (n + 39) / 40) (hk : k < K) :
    Calls Tryz.prog 86 #[.pointer (some ⟨g, 0, none⟩), .slice p n c] w fun e9 w' => e9 = .returned (.tuple #[.int .i64 0, .int .i64 4]) ∧ w' = w := by
  have HM : Hid (Calls _ _ _ w _) := wmade_ok h.cells.1
  have HI : Hid (Calls _ _ _ w _) := isRecord_ok p n c w
  rw [decide_eq_true hn] at HI
  have HS : Hid (Calls _ _ _ w _) := sectorsOf_ok p n c K hK (by omega) w
  have HR : Hid (Calls _ _ _ w _) := room_ok h
  have hgt : (K : Int) > (k : Int) := by omega
  clear h hn hK hk
  go_enter Tryz.func86, Tryz.ntmps86
  go_wp2_with fail
  refine HM.out.mono ?_
  rintro e9 w9 ⟨rfl, hw9⟩
  have hw8 := hw9.symm
  subst hw8
  clear hw9 HM
  go_wp2_with fail
  refine HI.out.mono ?_
  rintro e9 w9 ⟨rfl, hw9⟩
  have hw8 := hw9.symm
  subst hw8
  clear hw9 HI
  go_wp2_with fail
  refine HS.out.mono ?_
  rintro e9 w9 ⟨rfl, hw9⟩
  have hw8 := hw9.symm
  subst hw8
  clear hw9 HS
  go_wp2_with fail
  refine HR.out.mono ?_
  rintro e9 w9 ⟨rfl, hw9⟩
  have hw8 := hw9.symm
  subst hw8
  clear hw9 HR
  go_wp2
  go_ret2
  exact ⟨rfl, rfl⟩

set_option maxRecDepth 100000 in
set_option maxHeartbeats 1600000 in
theorem append_put {w : World} {g bp d m n q s gf b o len cap K e k lt : Nat} {dur : List Nat} {T : Nat → Option (List Nat)} {A : H4} {ys : List Nat} (hP : Pt w bp d m n q dur T) (hq : (q : Int) ≤ 9000000000000000000) (hs : n = 2 + s ∧ 1 ≤ s) (hW : Wl w g bp s gf A lt e k) (hKk : K ≤ k) (hK : Hid (K = (len + 39) / 40 ∧ len ≤ 2000 ∧ len ≤ cap)) (h1 : Hid (1 ≤ len)) (hr : Rb w (some ⟨b, o, none⟩) len ys) (hk9 : k ≤ 8192) (he9 : (e : Int) ≤ 900000000000000000) (hl9 : (lt : Int) < 1152921504606846976)
    (hne : g ≠ d ∧ g ≠ m ∧ bp ≠ g ∧ gf ≠ d ∧ gf ≠ m ∧ bp ≠ gf ∧ b ≠ m ∧ b ≠ g ∧ b ≠ gf ∧ g ≠ 0 ∧ gf ≠ 0 ∧ m ≠ 0) (ht : Turns w) :
    Calls Tryz.prog 86 #[.pointer (some ⟨g, 0, none⟩), .slice (some ⟨b, o, none⟩) len cap] w fun e9 w' => e9 = .returned (.tuple #[.int .i64 ((lt + 1 : Nat) : Int), .int .i64 0]) ∧ Kp (fun x => x = m ∨ x = g ∨ x = gf) w w' ∧ Pt w' bp d m n (q + K) dur (wrT T s e (lt + 1) ys K K) ∧ Wl w' g bp s gf A ((lt + 1 : Nat) : Int) (e + K) (k - K) := by
  have HM : Hid (Calls _ _ _ w _) := wmade_ok hW.cells.1
  have HI : Hid (Calls _ _ _ w _) := isRecord_ok (some ⟨b, o, none⟩) len cap w
  rw [decide_eq_true (show 1 ≤ len ∧ len ≤ 2000 from ⟨h1.out, hK.out.2.1⟩)] at HI
  have HS : Hid (Calls _ _ _ w _) := sectorsOf_ok (some ⟨b, o, none⟩) len cap K hK.out.1 (by have := hK.out; omega) w
  have HR : Hid (Calls _ _ _ w _) := room_ok hW
  have HPu : Hid (Calls _ _ _ w _) := put_ok hP hq hs hW hKk hK h1 hr hk9 he9 hl9 hne ht
  have hgt : ¬ ((K : Int) > (k : Int)) := by omega
  have hlg : decide ((lt : Int) ≥ 1152921504606846976) = false := decide_eq_false (by omega)
  have c7 := hW.cells.2.2.2
  have hnn := nil_neq
  clear hP hq hs hW hKk hK h1 hr hk9 he9 hl9 hne ht
  go_enter Tryz.func86, Tryz.ntmps86
  go_wp2_with fail
  refine HM.out.mono ?_
  rintro e9 w9 ⟨rfl, hw9⟩
  have hw8 := hw9.symm
  subst hw8
  clear hw9 HM
  go_wp2_with fail
  refine HI.out.mono ?_
  rintro e9 w9 ⟨rfl, hw9⟩
  have hw8 := hw9.symm
  subst hw8
  clear hw9 HI
  go_wp2_with fail
  refine HS.out.mono ?_
  rintro e9 w9 ⟨rfl, hw9⟩
  have hw8 := hw9.symm
  subst hw8
  clear hw9 HS
  go_wp2_with fail
  refine HR.out.mono ?_
  rintro e9 w9 ⟨rfl, hw9⟩
  have hw8 := hw9.symm
  subst hw8
  clear hw9 HR
  go_wp2_with fail
  refine HPu.out.mono ?_
  rintro e9 w1 ⟨rfl, k1, p1, l1⟩
  have c71 := l1.cells.2.2.2
  obtain ⟨nm, hnm⟩ : ∃ nm : Int, nm = ((lt + 1 : Nat) : Int) := ⟨_, rfl⟩
  have HF : Hid (Kp (fun x => x = m ∨ x = g ∨ x = gf) w w1 ∧ Pt w1 bp d m n (q + K) dur (wrT T s e (lt + 1) ys K K) ∧ Wl w1 g bp s gf A ((lt + 1 : Nat) : Int) (e + K) (k - K)) := ⟨k1, p1, l1⟩
  have HNm : Hid (nm = ((lt + 1 : Nat) : Int)) := hnm
  rw [← hnm] at c71
  clear k1 p1 l1 HPu c7 hnm
  go_wp2
  go_ret2
  exact ⟨by show Ending.returned (.tuple #[.int .i64 nm, .int .i64 0]) = _; rw [HNm.out], HF.out⟩
end Go.Proofs.YtippipeebkkghaaGreatDoor

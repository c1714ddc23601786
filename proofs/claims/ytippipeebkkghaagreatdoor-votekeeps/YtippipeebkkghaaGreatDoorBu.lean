/- Checkpoint. -/
import Derived.Test.YtippipeebkkghaaGreatDoorBs
namespace Go.Proofs.YtippipeebkkghaaGreatDoor
set_option linter.unusedVariables false
set_option linter.unusedSimpArgs false
open Go.RowKit Go.Deep

/-- what Checkpoint answers -/
def CkRes (w w' : World) (g bp d m gf s a b c e lt : Nat) (recs ls : List (List Nat)) (e9 : Ending) : Prop :=
  (¬ (∀ ys ∈ ls, 1 ≤ ys.length ∧ ys.length ≤ 2000) ∧ e9 = .returned (.int .i64 1) ∧ w' = w) ∨
  ((∀ ys ∈ ls, 1 ≤ ys.length ∧ ys.length ≤ 2000) ∧ s < totW recs + totW ls ∧ e9 = .returned (.int .i64 4) ∧ w' = w) ∨
  ((∀ ys ∈ ls, 1 ≤ ys.length ∧ ys.length ≤ 2000) ∧ totW recs + totW ls ≤ s ∧ e9 = .returned (.int .i64 0) ∧ Kp (fun x => x = d ∨ x = m ∨ x = g ∨ x = gf) w w' ∧ ∃ gf' dur', w.heap.size ≤ gf' ∧ Lg w' g bp d m gf' s 0 (a + 1) b ((c + totW recs) % s) (lt + 1) (lt + ls.length) ls.length ls dur' (fun _ => none))
theorem wrapTK {t K T : Nat} (h : T = t + K) (h2 : T ≤ 9000000000000000000) : wrap64 ((t : Int) + (K : Int)) = (T : Int) := by unfold wrap64; omega
theorem wrap_1n {i : Nat} (h : i ≤ 9000000000000000000) : wrap64 ((i : Int) + 1) = ((i + 1 : Nat) : Int) := by unfold wrap64; omega
set_option maxRecDepth 100000 in
set_option maxHeartbeats 3200000 in
theorem checkpoint_ok {w : World} {g bp d m gf s q a b c e lt y : Nat} {recs ls : List (List Nat)} {dur : List Nat} {T : Nat → Option (List Nat)} (h : Lg w g bp d m gf s q a b c e lt y recs dur T) (p : Option Addr) (n cap : Nat) (hn : n = ls.length) (hn9 : n ≤ 140737488355328) (ht : Txs (fun x => x = d ∨ x = m ∨ x = g ∨ x = gf ∨ w.heap.size ≤ x) w p ls) (ha : a < 1152921504606846976) (hl : lt + 1 + s < 1152921504606846976) (htu : Turns w) :
    Calls Tryz.prog 84 #[.pointer (some ⟨g, 0, none⟩), .slice p n cap] w fun e9 w' => CkRes w w' g bp d m gf s a b c e lt recs ls e9 := by
  have HM : Hid (Calls _ _ _ w _) := wmade_ok h.wl.cells.1
  have HRm : Hid (Calls _ _ _ w _) := room_ok h.wl
  have HLg : Hid (Lg w g bp d m gf s q a b c e lt y recs dur T) := h
  have HTx : Hid (Txs (fun x => x = d ∨ x = m ∨ x = g ∨ x = gf ∨ w.heap.size ≤ x) w p ls) := ht
  have HT : Hid (Turns w) := htu
  have HP0 : Hid (0 < n → ∃ b o, p = some ⟨b, o, none⟩) := fun h0 => ht.len (r := 0) (by omega)
  have HN : Hid (n = ls.length ∧ n ≤ 140737488355328 ∧ a < 1152921504606846976 ∧ lt + 1 + s < 1152921504606846976) := ⟨hn, hn9, ha, hl⟩
  obtain ⟨cap0, l0, hl0, ho0, hf0⟩ := h.wl.hp
  have v2 : w.cell? ⟨g, 2, none⟩ = some (.int .i64 (a : Int)) := hl0.cell (j := 2) rfl
  have v7 : w.cell? ⟨g, 7, none⟩ = some (.int .i64 (lt : Int)) := hl0.cell (j := 7) rfl
  clear h hn hn9 ht ha hl htu hl0 ho0 hf0
  go_enter Tryz.func84, Tryz.ntmps84
  go_wp2_with fail
  refine HM.out.mono ?_
  rintro e9 w9 ⟨rfl, hw9⟩
  have hw8 := hw9.symm
  subst hw8
  clear hw9 HM
  go_wp2_with fail
  go_loopg [5, 13] n (fun gk tv iv wr => ∃ i t : Nat, i ≤ n ∧ gk = n - i ∧ tv = .int .i64 (t : Int) ∧ iv = .int .i64 i ∧ wr = w ∧ Hid (t = totW (ls.take i) ∧ t ≤ 50 * i ∧ ∀ ys ∈ ls.take i, 1 ≤ ys.length ∧ ys.length ≤ 2000))
  case atStart => exact ⟨0, 0, Nat.zero_le _, rfl, rfl, rfl, rfl, by rw [List.take_zero]; rfl, by omega, fun ys hy => by rw [List.take_zero] at hy; cases hy⟩
  case round =>
    obtain ⟨i, t, hi, rfl, rfl, rfl, rfl, HI⟩ := hrel
    by_cases hlt : i < n
    · have hlt2 : (i : Int) < (n : Int) := by omega
      obtain ⟨b0, o0, rfl⟩ := HP0.out (by omega)
      have hil : i < ls.length := by have := HN.out; omega
      obtain ⟨b9, o9, e9, hF, pp, cc, hc, hrb, hlc, hbz⟩ := HTx.out i hil
      cases e9
      obtain ⟨ys, hys⟩ : ∃ ys, ys = ls.getD i [] := ⟨_, rfl⟩
      rw [← hys] at hc
      obtain ⟨N, hN⟩ : ∃ N, N = ys.length := ⟨_, rfl⟩
      rw [← hN] at hc
      have HYs : Hid (ls.take (i + 1) = ls.take i ++ [ys] ∧ N = ys.length ∧ ys ∈ ls) := ⟨by rw [take_succD hil, hys], hN, by rw [hys, List.getD_eq_getElem?_getD, List.getElem?_eq_getElem hil]; exact List.getElem_mem _⟩
      have HIs : Hid (Calls _ _ _ wr _) := isRecord_ok pp N cc wr
      have hwi : wrap64 ((i : Int) + 1) = ((i + 1 : Nat) : Int) := wrap_1n (by have := HN.out; omega)
      clear hF hrb hlc hbz hys hN hil
      by_cases hfit : 1 ≤ N ∧ N ≤ 2000
      · rw [decide_eq_true hfit] at HIs
        obtain ⟨K, hK⟩ : ∃ K, K = (N + 39) / 40 := ⟨_, rfl⟩
        have HSc : Hid (Calls _ _ _ wr _) := sectorsOf_ok pp N cc K hK (by omega) wr
        obtain ⟨t2, ht2⟩ : ∃ t2, t2 = t + K := ⟨_, rfl⟩
        have HI2 : Hid (t2 = totW (ls.take (i + 1)) ∧ t2 ≤ 50 * (i + 1) ∧ ∀ ys ∈ ls.take (i + 1), 1 ≤ ys.length ∧ ys.length ≤ 2000) := by
          have h1 := HI.out
          have h2 := HYs.out
          refine ⟨?_, by omega, fun zs hz => ?_⟩
          · rw [h2.1, totW_app, totW_one, ht2, h1.1, hK, h2.2.1]
            rfl
          · rw [h2.1] at hz
            rcases List.mem_append.1 hz with h3 | h3
            · exact h1.2.2 zs h3
            · rw [List.mem_singleton] at h3
              rw [h3, ← h2.2.1]
              exact hfit
        have hwt := wrapTK ht2 (by have := HI2.out; have := HN.out; omega)
        clear hfit hK ht2
        go_wp2_with fail
        refine HIs.out.mono ?_
        rintro e9 w9 ⟨rfl, hw9⟩
        have hw8 := hw9.symm
        subst hw8
        clear hw9 HIs
        go_wp2_with fail
        refine HSc.out.mono ?_
        rintro e9 w9 ⟨rfl, hw9⟩
        have hw8 := hw9.symm
        subst hw8
        clear hw9 HSc
        go_wp2
        go_roundg (n - (i + 1))
        case rel => exact ⟨i + 1, t2, Nat.succ_le_of_lt hlt, rfl, by first | rfl | rw [hwt], by first | rw [hwi] | simp, rfl, HI2.out⟩
        case measure => clear hwt hwi; omega
      · rw [decide_eq_false hfit] at HIs
        have HBad : Hid (¬ ∀ ys ∈ ls, 1 ≤ ys.length ∧ ys.length ≤ 2000) := fun h9 => hfit (by rw [HYs.out.2.1]; exact h9 _ HYs.out.2.2)
        clear hfit
        go_wp2_with fail
        refine HIs.out.mono ?_
        rintro e9 w9 ⟨rfl, hw9⟩
        have hw8 := hw9.symm
        subst hw8
        clear hw9 HIs
        go_wp2
        go_ret
        exact Or.inl ⟨HBad.out, rfl, rfl⟩
    · have hin : i = n := by omega
      subst hin
      have hlt2 : ¬ ((i : Int) < (i : Int)) := by omega
      have HFine : Hid (∀ ys ∈ ls, 1 ≤ ys.length ∧ ys.length ≤ 2000) := fun ys hy => HI.out.2.2 ys (by rw [List.take_of_length_le (by have := HN.out; omega)]; exact hy)
      have HTt : Hid (t = totW ls) := by have := HI.out.1; rw [List.take_of_length_le (by have := HN.out; omega)] at this; exact this
      have hbd := HLg.out.bounds
      by_cases hroom : s < totW recs + totW ls
      · obtain ⟨k, hk⟩ : ∃ k, k = s - totW recs := ⟨_, rfl⟩
        rw [← hk] at HRm
        have hgt : (t : Int) > (k : Int) := by have := HTt.out; omega
        have HRo : Hid (s < totW recs + totW ls) := hroom
        clear hroom hk hbd v2 v7
        go_wp2_with fail
        refine HRm.out.mono ?_
        rintro e9 w9 ⟨rfl, hw9⟩
        have hw8 := hw9.symm
        subst hw8
        clear hw9 HRm
        go_wp2
        go_ret
        exact Or.inr (Or.inl ⟨HFine.out, HRo.out, rfl, rfl⟩)
      · obtain ⟨k, hk⟩ : ∃ k, k = s - totW recs := ⟨_, rfl⟩
        rw [← hk] at HRm
        have hgt : ¬ ((t : Int) > (k : Int)) := by have := HTt.out; omega
        have HRo : Hid (totW recs + totW ls ≤ s) := by show _ ≤ _; omega
        have hnl : i ≤ s := by
          have h1 : ls.length ≤ totW ls := by
            clear hbd
            have : ∀ l : List (List Nat), (∀ ys ∈ l, 1 ≤ ys.length ∧ ys.length ≤ 2000) → l.length ≤ totW l := fun l => by
              induction l with
              | nil => exact fun _ => Nat.le_refl _
              | cons z l ih =>
                intro hz
                have h2 := (hz z (List.mem_cons_self ..)).1
                have h3 := ih (fun x hx => hz x (List.mem_cons_of_mem _ hx))
                show l.length + 1 ≤ needW z + totW l
                unfold needW
                omega
            exact this ls HFine.out
          have := HN.out
          have := HRo.out
          omega
        obtain ⟨X, hX⟩ : ∃ X, X = lt + i := ⟨_, rfl⟩
        have g1' : decide ((1152921504606846976 : Int) ≤ (a : Int)) = false := decide_eq_false (by have := HN.out; omega)
        have g2' : decide ((1152921504606846976 : Int) ≤ (X : Int)) = false := decide_eq_false (by have := HN.out; omega)
        have o1 : X ≤ 9000000000000000000 := by have := HN.out; omega
        have HRp : Hid (Calls _ _ _ wr _) := replace_ok HLg.out p i cap t HN.out.1 HTx.out HFine.out HTt.out HRo.out HN.out.2.2.1 HN.out.2.2.2 HT.out
        have hwX := wrapTK hX o1
        clear hroom hk hbd hnl hX o1
        go_wp2_with fail
        refine HRm.out.mono ?_
        rintro e9 w9 ⟨rfl, hw9⟩
        have hw8 := hw9.symm
        subst hw8
        clear hw9 HRm
        go_wp2_with fail
        refine HRp.out.mono ?_
        rintro e9 w5 ⟨rfl, k5, gf', dur', hg5, l5⟩
        have HF : Hid (Kp (fun x => x = d ∨ x = m ∨ x = g ∨ x = gf) wr w5 ∧ ∃ gf' dur', wr.heap.size ≤ gf' ∧ Lg w5 g bp d m gf' s 0 (a + 1) b ((c + totW recs) % s) (lt + 1) (lt + ls.length) ls.length ls dur' (fun _ => none)) := ⟨k5, gf', dur', hg5, l5⟩
        clear k5 hg5 l5 HRp
        go_wp2_with fail
        refine (number_nil w5).mono ?_
        rintro e9 w9 ⟨rfl, hw9⟩
        have hw8 := hw9.symm
        subst hw8
        clear hw9
        go_wp2
        go_ret
        exact Or.inr (Or.inr ⟨HFine.out, HRo.out, rfl, HF.out⟩)
end Go.Proofs.YtippipeebkkghaaGreatDoor

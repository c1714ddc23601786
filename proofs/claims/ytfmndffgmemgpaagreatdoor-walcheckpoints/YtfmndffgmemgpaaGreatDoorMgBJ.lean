/- Texts of this proof, joined: Bu, Bx. -/
import Derived.Test.YtfmndffgmemgpaaGreatDoorMgBI
import Derived.Test.YtfmndffgmemgpaaGreatDoorMgBH
/- Checkpoint. -/
namespace Go.Proofs.YtfmndffgmemgpaaGreatDoor
set_option linter.unusedVariables false
set_option linter.unusedSimpArgs false
open Go.RowKit Go.Deep

/-- what Checkpoint answers -/
def CkRes (w w' : World) (g bp d m gf s a b c e lt : Nat) (recs ls : List (List Nat)) (e9 : Ending) : Prop :=
  (¬ (∀ ys ∈ ls, 1 ≤ ys.length ∧ ys.length ≤ 2000) ∧ e9 = .returned (.int .i64 1) ∧ w' = w) ∨
  ((∀ ys ∈ ls, 1 ≤ ys.length ∧ ys.length ≤ 2000) ∧ s < totW recs + totW ls ∧ e9 = .returned (.int .i64 4) ∧ w' = w) ∨
  ((∀ ys ∈ ls, 1 ≤ ys.length ∧ ys.length ≤ 2000) ∧ totW recs + totW ls ≤ s ∧ e9 = .returned (.int .i64 0) ∧ Kp (fun x => x = d ∨ x = m ∨ x = g ∨ x = gf) w w' ∧ ∃ gf' dur', w.heap.size ≤ gf' ∧ Lg w' g bp d m gf' s 0 (a + 1) b ((c + totW recs) % s) (lt + 1) (lt + ls.length) ls.length ls dur' (fun _ => none))
theorem wrapTK {t K T : Nat} (h : T = t + K) (h2 : T ≤ 9000000000000000000) : wrap64 ((t : Int) + (K : Int)) = (T : Int) := by unfold wrap64; omega
theorem wrap_1n {i : Nat} (h : i ≤ 9000000000000000000) : wrap64 ((i : Int) + 1) = ((i + 1 : Nat) : Int) := by unfold wrap64; omega
set_option maxRecDepth 100000 in
set_option maxHeartbeats 3200000 in
theorem checkpoint_ok {w : World} {g bp d m gf s q a b c e lt y : Nat} {recs ls : List (List Nat)} {dur : List Nat} {T : Nat → Option (List Nat)} (h : Lg w g bp d m gf s q a b c e lt y recs dur T) (p : Option Addr) (n cap : Nat) (hn : n = ls.length) (hn9 : n ≤ 140737488355328) (ht : Txs (fun x => x = d ∨ x = m ∨ x = g ∨ x = gf ∨ w.heap.size ≤ x) w p ls) (ha : a < 1152921504606846976) (hl : lt + 1 + s < 1152921504606846976) (htu : Turns w) :
    Calls Tryz.prog 21 #[.pointer (some ⟨g, 0, none⟩), .slice p n cap] w fun e9 w' => CkRes w w' g bp d m gf s a b c e lt recs ls e9 := by
  have HM : Hid (Calls _ _ _ w _) := wmade_ok h.wl.cells.1
  have HRm : Hid (Calls _ _ _ w _) := room_ok h.wl
  have HLg : Hid (Lg w g bp d m gf s q a b c e lt y recs dur T) := h
  have HTx : Hid (Txs (fun x => x = d ∨ x = m ∨ x = g ∨ x = gf ∨ w.heap.size ≤ x) w p ls) := ht
  have HT : Hid (Turns w) := htu
  have HP0 : Hid (0 < n → ∃ b o, p = some ⟨b, o, none⟩) := fun h0 => ht.len (r := 0) (by omega)
  have HN : Hid (n = ls.length ∧ n ≤ 140737488355328 ∧ a < 1152921504606846976 ∧ lt + 1 + s < 1152921504606846976) := ⟨hn, hn9, ha, hl⟩
  obtain ⟨cap0, l0, hl0, ho0, hf0⟩ := h.wl.hp
  have v2 : w.cell? ⟨g, 2, none⟩ = some (.int .i64 (a : Int)) := hl0.cell (j := 2) rfl
  have v7 : w.cell? ⟨g, 7, none⟩ = some (.int .i64 (lt : Int)) := hl0.cell (j := 7) rfl
  clear h hn hn9 ht ha hl htu hl0 ho0 hf0
  go_enter Tryz.func21, Tryz.ntmps21
  go_wp2_with fail
  refine HM.out.mono ?_
  rintro e9 w9 ⟨rfl, hw9⟩
  have hw8 := hw9.symm
  subst hw8
  clear hw9 HM
  go_wp2_with fail
  go_loopg [5, 13] n (fun gk tv iv wr => ∃ i t : Nat, i ≤ n ∧ gk = n - i ∧ tv = .int .i64 (t : Int) ∧ iv = .int .i64 i ∧ wr = w ∧ Hid (t = totW (ls.take i) ∧ t ≤ 50 * i ∧ ∀ ys ∈ ls.take i, 1 ≤ ys.length ∧ ys.length ≤ 2000))
  case atStart => exact ⟨0, 0, Nat.zero_le _, rfl, rfl, rfl, rfl, by rw [List.take_zero]; rfl, by omega, fun ys hy => by rw [List.take_zero] at hy; cases hy⟩
  case round =>
    obtain ⟨i, t, hi, rfl, rfl, rfl, rfl, HI⟩ := hrel
    by_cases hlt : i < n
    · have hlt2 : (i : Int) < (n : Int) := by omega
      obtain ⟨b0, o0, rfl⟩ := HP0.out (by omega)
      have hil : i < ls.length := by have := HN.out; omega
      obtain ⟨b9, o9, e9, hF, pp, cc, hc, hrb, hlc, hbz⟩ := HTx.out i hil
      cases e9
      obtain ⟨ys, hys⟩ : ∃ ys, ys = ls.getD i [] := ⟨_, rfl⟩
      rw [← hys] at hc
      obtain ⟨N, hN⟩ : ∃ N, N = ys.length := ⟨_, rfl⟩
      rw [← hN] at hc
      have HYs : Hid (ls.take (i + 1) = ls.take i ++ [ys] ∧ N = ys.length ∧ ys ∈ ls) := ⟨by rw [take_succD hil, hys], hN, by rw [hys, List.getD_eq_getElem?_getD, List.getElem?_eq_getElem hil]; exact List.getElem_mem _⟩
      have HIs : Hid (Calls _ _ _ wr _) := isRecord_ok pp N cc wr
      have hwi : wrap64 ((i : Int) + 1) = ((i + 1 : Nat) : Int) := wrap_1n (by have := HN.out; omega)
      clear hF hrb hlc hbz hys hN hil
      by_cases hfit : 1 ≤ N ∧ N ≤ 2000
      · rw [decide_eq_true hfit] at HIs
        obtain ⟨K, hK⟩ : ∃ K, K = (N + 39) / 40 := ⟨_, rfl⟩
        have HSc : Hid (Calls _ _ _ wr _) := sectorsOf_ok pp N cc K hK (by omega) wr
        obtain ⟨t2, ht2⟩ : ∃ t2, t2 = t + K := ⟨_, rfl⟩
        have HI2 : Hid (t2 = totW (ls.take (i + 1)) ∧ t2 ≤ 50 * (i + 1) ∧ ∀ ys ∈ ls.take (i + 1), 1 ≤ ys.length ∧ ys.length ≤ 2000) := by
          have h1 := HI.out
          have h2 := HYs.out
          refine ⟨?_, by omega, fun zs hz => ?_⟩
          · rw [h2.1, totW_app, totW_one, ht2, h1.1, hK, h2.2.1]
            rfl
          · rw [h2.1] at hz
            rcases List.mem_append.1 hz with h3 | h3
            · exact h1.2.2 zs h3
            · rw [List.mem_singleton] at h3
              rw [h3, ← h2.2.1]
              exact hfit
        have hwt := wrapTK ht2 (by have := HI2.out; have := HN.out; omega)
        clear hfit hK ht2
        go_wp2_with fail
        refine HIs.out.mono ?_
        rintro e9 w9 ⟨rfl, hw9⟩
        have hw8 := hw9.symm
        subst hw8
        clear hw9 HIs
        go_wp2_with fail
        refine HSc.out.mono ?_
        rintro e9 w9 ⟨rfl, hw9⟩
        have hw8 := hw9.symm
        subst hw8
        clear hw9 HSc
        go_wp2
        go_roundg (n - (i + 1))
        case rel => exact ⟨i + 1, t2, Nat.succ_le_of_lt hlt, rfl, by first | rfl | rw [hwt], by first | rw [hwi] | simp, rfl, HI2.out⟩
        case measure => clear hwt hwi; omega
      · rw [decide_eq_false hfit] at HIs
        have HBad : Hid (¬ ∀ ys ∈ ls, 1 ≤ ys.length ∧ ys.length ≤ 2000) := fun h9 => hfit (by rw [HYs.out.2.1]; exact h9 _ HYs.out.2.2)
        clear hfit
        go_wp2_with fail
        refine HIs.out.mono ?_
        rintro e9 w9 ⟨rfl, hw9⟩
        have hw8 := hw9.symm
        subst hw8
        clear hw9 HIs
        go_wp2
        go_ret
        exact Or.inl ⟨HBad.out, rfl, rfl⟩
    · have hin : i = n := by omega
      subst hin
      have hlt2 : ¬ ((i : Int) < (i : Int)) := by omega
      have HFine : Hid (∀ ys ∈ ls, 1 ≤ ys.length ∧ ys.length ≤ 2000) := fun ys hy => HI.out.2.2 ys (by rw [List.take_of_length_le (by have := HN.out; omega)]; exact hy)
      have HTt : Hid (t = totW ls) := by have := HI.out.1; rw [List.take_of_length_le (by have := HN.out; omega)] at this; exact this
      have hbd := HLg.out.bounds
      by_cases hroom : s < totW recs + totW ls
      · obtain ⟨k, hk⟩ : ∃ k, k = s - totW recs := ⟨_, rfl⟩
        rw [← hk] at HRm
        have hgt : (t : Int) > (k : Int) := by have := HTt.out; omega
        have HRo : Hid (s < totW recs + totW ls) := hroom
        clear hroom hk hbd v2 v7
        go_wp2_with fail
        refine HRm.out.mono ?_
        rintro e9 w9 ⟨rfl, hw9⟩
        have hw8 := hw9.symm
        subst hw8
        clear hw9 HRm
        go_wp2
        go_ret
        exact Or.inr (Or.inl ⟨HFine.out, HRo.out, rfl, rfl⟩)
      · obtain ⟨k, hk⟩ : ∃ k, k = s - totW recs := ⟨_, rfl⟩
        rw [← hk] at HRm
        have hgt : ¬ ((t : Int) > (k : Int)) := by have := HTt.out; omega
        have HRo : Hid (totW recs + totW ls ≤ s) := by show _ ≤ _; omega
        have hnl : i ≤ s := by
          have h1 : ls.length ≤ totW ls := by
            clear hbd
            have : ∀ l : List (List Nat), (∀ ys ∈ l, 1 ≤ ys.length ∧ ys.length ≤ 2000) → l.length ≤ totW l := fun l => by
              induction l with
              | nil => exact fun _ => Nat.le_refl _
              | cons z l ih =>
                intro hz
                have h2 := (hz z (List.mem_cons_self ..)).1
                have h3 := ih (fun x hx => hz x (List.mem_cons_of_mem _ hx))
                show l.length + 1 ≤ needW z + totW l
                unfold needW
                omega
            exact this ls HFine.out
          have := HN.out
          have := HRo.out
          omega
        obtain ⟨X, hX⟩ : ∃ X, X = lt + i := ⟨_, rfl⟩
        have g1' : decide ((1152921504606846976 : Int) ≤ (a : Int)) = false := decide_eq_false (by have := HN.out; omega)
        have g2' : decide ((1152921504606846976 : Int) ≤ (X : Int)) = false := decide_eq_false (by have := HN.out; omega)
        have o1 : X ≤ 9000000000000000000 := by have := HN.out; omega
        have HRp : Hid (Calls _ _ _ wr _) := replace_ok HLg.out p i cap t HN.out.1 HTx.out HFine.out HTt.out HRo.out HN.out.2.2.1 HN.out.2.2.2 HT.out
        have hwX := wrapTK hX o1
        clear hroom hk hbd hnl hX o1
        go_wp2_with fail
        refine HRm.out.mono ?_
        rintro e9 w9 ⟨rfl, hw9⟩
        have hw8 := hw9.symm
        subst hw8
        clear hw9 HRm
        go_wp2_with fail
        refine HRp.out.mono ?_
        rintro e9 w5 ⟨rfl, k5, gf', dur', hg5, l5⟩
        have HF : Hid (Kp (fun x => x = d ∨ x = m ∨ x = g ∨ x = gf) wr w5 ∧ ∃ gf' dur', wr.heap.size ≤ gf' ∧ Lg w5 g bp d m gf' s 0 (a + 1) b ((c + totW recs) % s) (lt + 1) (lt + ls.length) ls.length ls dur' (fun _ => none)) := ⟨k5, gf', dur', hg5, l5⟩
        clear k5 hg5 l5 HRp
        go_wp2_with fail
        refine (number_nil w5).mono ?_
        rintro e9 w9 ⟨rfl, hw9⟩
        have hw8 := hw9.symm
        subst hw8
        clear hw9
        go_wp2
        go_ret
        exact Or.inr (Or.inr ⟨HFine.out, HRo.out, rfl, HF.out⟩)
end Go.Proofs.YtfmndffgmemgpaaGreatDoor

/- WalCheckpoints. -/
namespace Go.Proofs.YtfmndffgmemgpaaGreatDoor
set_option linter.unusedVariables false
set_option linter.unusedSimpArgs false
open Go.RowKit Go.Deep

theorem Txs.sx {F : Nat → Prop} {w : World} {p : Option Addr} {ls : List (List Nat)} (h : Txs F w p ls) : Sx w p ls := fun r hr => by
  obtain ⟨b, o, e, _, pp, c, h1, h2, _⟩ := h r hr
  exact ⟨b, o, e, pp, _, c, h1, h2⟩
theorem dks_none (n : Nat) : dks (fun _ => none) n = [] := by
  unfold dks
  have : (List.range n).filter (fun i => ((fun _ => none : Nat → Option (List Nat)) i).isSome) = [] := by
    rw [List.filter_eq_nil_iff]
    intro x _
    simp
  rw [this]
  rfl
theorem wrapXY {a b X : Nat} (h : X = a + b) (h2 : X ≤ 100000) : wrap64 ((a : Int) + (b : Int)) = (X : Int) := by unfold wrap64; omega

set_option maxRecDepth 100000 in
set_option maxHeartbeats 6400000 in
theorem walCheckpoints_walk (z0 : Int) (v1 : Value) (ls1 : List (List Nat)) (v2 : Value) (ls2 : List (List Nat)) (mask : Int) (w : World) (hz0 : (Lit.int .i64 z0).wf = true) (h1 : Tb w v1 ls1) (h2 : Tb w v2 ls2) (hmask : (Lit.int .u64 mask).wf = true) (ht : Turns w) :
    Calls Tryz.prog 5 #[.int .i64 z0, v1, v2, .int .u64 mask] w fun e w' => e = .returned (.bool true) ∧ Kp (fun _ => False) w w' := by
  obtain ⟨p1, c1, rfl, tx1⟩ := h1.txs
  obtain ⟨p2, c2, rfl, tx2⟩ := h2.txs
  have hm1 := h1.many
  have hm2 := h2.many
  have HFr : Hid (Calls _ _ _ w _) := freshL_ok z0 w ht
  obtain ⟨cm, hcm⟩ : ∃ c, c = m40 z0 := ⟨_, rfl⟩
  have hcm9 := m40_lt z0
  rw [← hcm] at HFr hcm9
  obtain ⟨s, hs⟩ : ∃ s, s = 6 + cm := ⟨_, rfl⟩
  rw [← hs] at HFr
  have HSz : Hid (s = 6 + cm ∧ s ≤ 50) := ⟨hs, by omega⟩
  have HT : Hid (Turns w) := ht
  have HTn : Hid ((0 : Nat) < w.heap.size) := World.block_lt_of_cell? _ _ (ht 0 (by decide))
  have HX1 : Hid (Txs (fun b => w.heap.size ≤ b) w p1 ls1) := tx1
  have HX2 : Hid (Txs (fun b => w.heap.size ≤ b) w p2 ls2) := tx2
  obtain ⟨L1, hL1⟩ : ∃ L, L = ls1.length := ⟨_, rfl⟩
  obtain ⟨L2, hL2⟩ : ∃ L, L = ls2.length := ⟨_, rfl⟩
  have HL : Hid (L1 = ls1.length ∧ L2 = ls2.length ∧ L1 * 24 ≤ 140737488355328 ∧ L2 * 24 ≤ 140737488355328) := ⟨hL1, hL2, by omega, by omega⟩
  have HP1 : Hid (0 < L1 → ∃ b o, p1 = some ⟨b, o, none⟩) := fun h0 => tx1.len (r := 0) (by omega)
  rw [← hL1, ← hL2]
  clear h1 h2 tx1 tx2 hm1 hm2 ht hcm hs hcm9 hz0 hmask hL1 hL2
  go_enter Tryz.func5, Tryz.ntmps5
  go_wp2_with fail
  refine HFr.out.mono ?_
  rintro e9 w1 ⟨g, gf, bp, d, m, dur, rfl, k1, hb1, l1⟩
  have HK1 : Hid (Kp (fun _ => False) w w1) := k1
  have HBs : Hid (w.heap.size ≤ g ∧ w.heap.size ≤ gf ∧ w.heap.size ≤ bp ∧ w.heap.size ≤ d ∧ w.heap.size ≤ m) := hb1
  have HL1 : Hid (Lg w1 g bp d m gf s 0 1 1 0 1 0 0 [] dur (fun _ => none)) := l1
  clear k1 hb1 l1 HFr
  go_wp2_with fail
  go_loopg [11, 31] L1 (fun gk nv iv wr => ∃ (i q lt : Nat) (recs : List (List Nat)) (dur : List Nat) (T : Nat → Option (List Nat)), i ≤ L1 ∧ gk = L1 - i ∧ nv = .int .i64 (lt : Int) ∧ iv = .int .i64 i ∧ Hid (Kp (fun _ => False) w wr) ∧ Hid (lt = recs.length ∧ lt ≤ 100) ∧ Hid (Lg wr g bp d m gf s q 1 1 0 1 lt 0 recs dur T))
  case atStart => exact ⟨0, 0, 0, [], dur, _, Nat.zero_le _, rfl, rfl, rfl, HK1, ⟨rfl, by omega⟩, HL1⟩
  case round =>
    obtain ⟨i, q, lt, recs, dur, T, hi, rfl, rfl, rfl, HK, HLt, HLL⟩ := hrel
    clear HK1 HL1
    by_cases hlt : i < L1
    · have hlt2 : (i : Int) < (L1 : Int) := by omega
      obtain ⟨b0, o0, rfl⟩ := HP1.out (by omega)
      have hil : i < ls1.length := by have := HL.out; omega
      obtain ⟨b9, o9, e9, hF, pp, cc, hc, hrb, hlc, hbz⟩ := (HX1.out.keep (HK.out.mono (fun _ _ e => e.elim))) i hil
      cases e9
      obtain ⟨ys, hys⟩ : ∃ ys, ys = ls1.getD i [] := ⟨_, rfl⟩
      rw [← hys] at hc hrb hlc hbz
      obtain ⟨N, hN⟩ : ∃ N, N = ys.length := ⟨_, rfl⟩
      rw [← hN] at hc hrb hlc hbz
      have HA : Hid (Calls Tryz.prog 12 #[.pointer (some ⟨g, 0, none⟩), .slice pp N cc] wr fun e9 w' => ((e9 = .returned (.tuple #[.int .i64 0, .int .i64 1]) ∨ e9 = .returned (.tuple #[.int .i64 0, .int .i64 4])) ∧ w' = wr) ∨ (e9 = .returned (.tuple #[.int .i64 ((lt + 1 : Nat) : Int), .int .i64 0]) ∧ Kp (fun x => x = m ∨ x = g ∨ x = gf) wr w' ∧ ∃ q' T', Lg w' g bp d m gf s q' 1 1 0 1 (lt + 1) 0 (recs ++ [ys]) dur T')) := by
        refine (lg_append HLL.out pp N cc ys hrb hlc (fun z hz h1 => ?_) (fun j hj => HK.out.cellv (HT.out j hj) id)).mono ?_
        · have h2 : ¬ w.heap.size ≤ z.block := hbz z hz h1
          have h3 := HBs.out
          exact ⟨by omega, by omega, by omega⟩
        · rintro e9 w' (⟨_, rfl, rfl⟩ | ⟨_, _, rfl, rfl⟩ | ⟨_, _, rfl, k, q', T', l', _, _⟩)
          · exact Or.inl ⟨Or.inl rfl, rfl⟩
          · exact Or.inl ⟨Or.inr rfl, rfl⟩
          · exact Or.inr ⟨rfl, k, q', T', l'⟩
      have hwi : wrap64 ((i : Int) + 1) = ((i + 1 : Nat) : Int) := wrap_1n (by have := HL.out; omega)
      have hwl : wrap64 ((lt : Int) + 1) = ((lt + 1 : Nat) : Int) := wrap_1n (by have := HLt.out; omega)
      obtain ⟨lt2, hlt9⟩ : ∃ x, x = lt + 1 := ⟨_, rfl⟩
      rw [← hlt9] at HA hwl
      have HLt2 : Hid (lt2 = lt + 1) := hlt9
      clear hF hrb hlc hbz hys hN hil hlt9
      go_wp2_with fail
      refine HA.out.mono ?_
      rintro e9 w4 (⟨rfl | rfl, hw9⟩ | ⟨rfl, k4, q4, T4, l4⟩)
      · have hw8 := hw9.symm
        subst hw8
        clear hw9 HA
        go_wp2
        go_roundg (L1 - (i + 1))
        case rel => exact ⟨i + 1, q, lt, recs, dur, T, Nat.succ_le_of_lt hlt, rfl, rfl, by first | rw [hwi] | simp, HK, HLt, HLL⟩
        case measure => clear hwi hwl; omega
      · have hw8 := hw9.symm
        subst hw8
        clear hw9 HA
        go_wp2
        go_roundg (L1 - (i + 1))
        case rel => exact ⟨i + 1, q, lt, recs, dur, T, Nat.succ_le_of_lt hlt, rfl, rfl, by first | rw [hwi] | simp, HK, HLt, HLL⟩
        case measure => clear hwi hwl; omega
      · have HF4 : Hid (Kp (fun _ => False) w w4 ∧ (lt2 = (recs ++ [ys]).length ∧ lt2 ≤ 100) ∧ Lg w4 g bp d m gf s q4 1 1 0 1 lt2 0 (recs ++ [ys]) dur T4) := ⟨HK.out.trans k4 (fun b' hb e9 => by have e' : b' = m ∨ b' = g ∨ b' = gf := e9; have := HBs.out; omega), ⟨by rw [List.length_append, HLt2.out, HLt.out.1]; rfl, by
          have h1 := l4.bounds
          have h2 := l4.hl
          have h3 := HSz.out
          rw [List.length_append] at h1 h2
          simp at h1 h2
          omega⟩, l4⟩
        clear k4 l4 HA
        go_wp2
        go_roundg (L1 - (i + 1))
        case rel => exact ⟨i + 1, q4, lt2, recs ++ [ys], dur, T4, Nat.succ_le_of_lt hlt, rfl, by first | rfl | rw [hwl], by first | rw [hwi] | simp, HF4.out.1, HF4.out.2.1, HF4.out.2.2⟩
        case measure => clear hwi hwl; omega
    · have hiL : i = L1 := by omega
      subst hiL
      have hlt2 : ¬ ((i : Int) < (i : Int)) := by omega
      have HCk : Hid (Calls _ _ _ wr _) := checkpoint_ok HLL.out p2 L2 c2 HL.out.2.1 (by have := HL.out; omega) ((HX2.out.keep (HK.out.mono (fun _ _ e => e.elim))).mono (fun b' e9 => by
        have e' : b' = d ∨ b' = m ∨ b' = g ∨ b' = gf ∨ wr.heap.size ≤ b' := e9
        have := HBs.out
        have := HK.out.size
        show w.heap.size ≤ b'
        omega)) (by decide) (by have := HLt.out; have := HSz.out; omega) (fun j hj => HK.out.cellv (HT.out j hj) id)
      have HLa : Hid (Calls _ _ _ wr _) := last_ok HLL.out.wl
      go_wp2_with fail
      refine HCk.out.mono ?_
      rintro e9 w2 (⟨_, rfl, hw9⟩ | ⟨_, _, rfl, hw9⟩ | ⟨hfine, hfit, rfl, k2, gf2, dur2, hgf2, l2⟩)
      · have hw8 := hw9.symm
        subst hw8
        clear hw9 HCk
        go_wp2_with fail
        refine HLa.out.mono ?_
        rintro e9 w9 ⟨rfl, hw9⟩
        have hw8 := hw9.symm
        subst hw8
        clear hw9 HLa
        go_wp2
        go_ret
        exact ⟨rfl, HK.out⟩
      · have hw8 := hw9.symm
        subst hw8
        clear hw9 HCk
        go_wp2_with fail
        refine HLa.out.mono ?_
        rintro e9 w9 ⟨rfl, hw9⟩
        have hw8 := hw9.symm
        subst hw8
        clear hw9 HLa
        go_wp2
        go_ret
        exact ⟨rfl, HK.out⟩
      · obtain ⟨X, hX⟩ : ∃ X, X = lt + L2 := ⟨_, rfl⟩
        obtain ⟨C, hC⟩ : ∃ C, C = (0 + totW recs) % s := ⟨_, rfl⟩
        have HKb : Hid (Kp (fun _ => False) w w2) := HK.out.trans k2 (fun b' hb e9 => by have e' : b' = d ∨ b' = m ∨ b' = g ∨ b' = gf := e9; have := HBs.out; omega)
        have hl9 : Lg w2 g bp d m gf2 s 0 (1 + 1) 1 C (lt + 1) X ls2.length ls2 dur2 (fun _ => none) := by rw [hX, hC, HL.out.2.1]; exact l2
        have hX9 : X ≤ 100000 := by have h3 := hl9.bounds; have := HL.out; have := HLt.out; have := HSz.out; omega
        have HX : Hid (X = lt + L2 ∧ X ≤ 100000) := ⟨hX, hX9⟩
        have HL2g : Hid (Lg w2 g bp d m gf2 s 0 (1 + 1) 1 C (lt + 1) X ls2.length ls2 dur2 (fun _ => none)) := hl9
        have hwx := wrapXY hX hX9
        have HDi : Hid (Calls _ _ _ w2 _) := dirty_ok hl9.pt
        clear k2 hgf2 l2 hl9 hfine hfit HCk HLa hX hC hX9
        go_wp2_with fail
        refine HDi.out.mono ?_
        rintro e9 wa ⟨v9, rfl, ka, is2⟩
        rw [dks_none] at is2
        obtain ⟨pd, cd, rfl, rzd, hpd⟩ := is2.rz
        have HKa : Hid (Kp (fun _ => False) w2 wa) := ka
        have HLa : Hid (Calls _ _ _ wa _) := last_ok (HL2g.out.keep0 ka).wl
        have HDi2 : Hid (Calls _ _ _ wa _) := dirty_ok (HL2g.out.keep0 ka).pt
        clear ka is2 rzd hpd HDi
        go_wp2_with fail
        refine HLa.out.mono ?_
        rintro e9 w9 ⟨rfl, hw9⟩
        have hw8 := hw9.symm
        subst hw8
        clear hw9 HLa
        go_wp2_with fail
        refine HDi2.out.mono ?_
        rintro e9 wb ⟨v9, rfl, kb, is2⟩
        rw [dks_none] at is2
        obtain ⟨pd2, cd2, rfl, rzd2, hpd2⟩ := is2.rz
        have HKe : Hid (Calls _ _ _ wb _) := kept_ok pd2 0 cd2 [] mask wb rfl rzd2 (by decide)
        have HKb2 : Hid (Kp (fun _ => False) w2 wb) := HKa.out.trans kb (fun _ _ e => e)
        clear kb is2 rzd2 hpd2 HDi2
        go_wp2_with fail
        refine HKe.out.mono ?_
        rintro e9 wc ⟨v9, ks, rfl, kc, is3, _, hkl⟩
        have hks : ks = [] := List.eq_nil_of_length_eq_zero (by omega)
        subst hks
        obtain ⟨p3, cc3, rfl, rz3, hp3⟩ := is3.rz
        have HKc : Hid (Kp (fun _ => False) w2 wc) := HKb2.out.trans kc (fun _ _ e => e)
        have HCr : Hid (Calls _ _ _ wc _) := lg_crash (HL2g.out.keep0 HKc.out) p3 cc3 [] (-1) 0 (fun w' k' j hj => absurd hj (Nat.not_lt_zero _)) (fun z hz => by cases hz) (by decide) (by decide)
        clear kc is3 hkl rz3 hp3 HKe
        go_wp2_with fail
        refine HCr.out.mono ?_
        rintro e9 wd ⟨rfl, kd, lc, _⟩
        have HKd : Hid (Kp (fun _ => False) w wd) := (HKb.out.trans HKc.out (fun _ _ e => e)).trans kd (fun b hb e9 => by have e' : b = d ∨ b = m := e9; have := HBs.out; omega)
        obtain ⟨k9, hk1, hk2, hsame, hop⟩ := lc_open lc (by decide) (by decide) (fun j hj => HKd.out.cellv (HT.out j hj) id)
        have hkk : k9 = ls2.length := by omega
        subst hkk
        rw [List.take_length] at hop
        have HOp : Hid (Calls _ _ _ wd _) := hop
        have HBd : Hid (d < wd.heap.size ∧ m < wd.heap.size) := ⟨lc.pt.row.lt, lc.pt.mp.lt⟩
        clear kd lc hk1 hk2 hsame hop HCr
        go_wp2_with fail
        refine HOp.out.mono ?_
        rintro e9 we ⟨g', gf', v', dur', rfl, ke, hg', hgf', rwe, lge⟩
        have HKe : Hid (Kp (fun _ => False) w we) := HKd.out.trans ke (fun b hb e9 => by have e' : b = d ∨ b = m := e9; have := HBs.out; omega)
        have HLe : Hid (Lg we g' bp d m gf' s 0 (1 + 1 + 1) (1 + 1) C (lt + 1) (lt + 1 - 1 + ls2.length) ls2.length ls2 dur' (fun _ => none)) := lge
        obtain ⟨k10, hk1, hk2, hsame, hop⟩ := lc_open lge.lc (by decide) (by decide) (fun j hj => HKe.out.cellv (HT.out j hj) id)
        have hkk : k10 = ls2.length := by omega
        subst hkk
        rw [List.take_length] at hop
        have HOp2 : Hid (Calls _ _ _ we _) := hop
        have HRe : Hid (Rw we wd.heap.size v' ls2 ∧ wd.heap.size ≤ g' ∧ wd.heap.size ≤ gf') := ⟨rwe, hg', hgf'⟩
        clear ke hg' hgf' rwe lge hk1 hk2 hsame hop HOp
        go_wp2_with fail
        refine HOp2.out.mono ?_
        rintro e9 wf ⟨g2, gf3, v2, dur3, rfl, kf, hg2, hgf3, rwf, lgf⟩
        have HKf : Hid (Kp (fun _ => False) w wf) := HKe.out.trans kf (fun b hb e9 => by have e' : b = d ∨ b = m := e9; have := HBs.out; omega)
        have hbd := HBd.out
        have hrw1 := HRe.out.1.keepB kf (fun b hb e9 => by have e' : b = d ∨ b = m := e9; omega)
        obtain ⟨pa, ca, hva, sxa⟩ := hrw1.sx (fun ys hy => (HLe.out.lg.fine ys hy).2.2)
        obtain ⟨pb, cb, hvb, sxb⟩ := rwf.sx (fun ys hy => (HLe.out.lg.fine ys hy).2.2)
        subst hva
        subst hvb
        have sx2 : Sx wf p2 ls2 := (HX2.out.keep (HKf.out.mono (fun _ _ e => e.elim))).sx
        rw [← HL.out.2.1]
        have HS1 : Hid (Calls _ _ _ wf _) := sameTexts2_ok pa p2 L2 ca c2 ls2 HL.out.2.1 wf sxa sx2 (by have := HX.out; omega)
        have HS2 : Hid (Calls _ _ _ wf _) := sameTexts2_ok pb p2 L2 cb c2 ls2 HL.out.2.1 wf sxb sx2 (by have := HX.out; omega)
        have HF1 : Hid (Calls _ _ _ wf _) := life_ok (HLe.out.wl.keep kf (fun e9 => by have e' : g' = d ∨ g' = m := e9; have := HRe.out; omega) (fun e9 => by have e' : gf' = d ∨ gf' = m := e9; have := HRe.out; omega))
        have HF2 : Hid (Calls _ _ _ wf _) := life_ok lgf.wl
        have HLa2 : Hid (Calls Tryz.prog 20 #[.pointer (some ⟨g2, 0, none⟩)] wf fun e9 w' => e9 = .returned (.int .i64 (X : Int)) ∧ w' = wf) := by
          have h9 := last_ok lgf.wl
          have e8 : lt + 1 - 1 + ls2.length = X := by have := HX.out; have := HL.out; omega
          rw [e8] at h9
          exact h9
        clear kf hg2 hgf3 rwf lgf hbd hrw1 sxa sxb sx2 HOp2
        go_wp2_with fail
        refine HS1.out.mono ?_
        rintro e9 w9 ⟨rfl, hw9⟩
        have hw8 := hw9.symm
        subst hw8
        clear hw9 HS1
        go_wp2_with fail
        refine HS2.out.mono ?_
        rintro e9 w9 ⟨rfl, hw9⟩
        have hw8 := hw9.symm
        subst hw8
        clear hw9 HS2
        go_wp2_with fail
        refine HF1.out.mono ?_
        rintro e9 w9 ⟨rfl, hw9⟩
        have hw8 := hw9.symm
        subst hw8
        clear hw9 HF1
        go_wp2_with fail
        refine HF2.out.mono ?_
        rintro e9 w9 ⟨rfl, hw9⟩
        have hw8 := hw9.symm
        subst hw8
        clear hw9 HF2
        go_wp2_with fail
        refine HLa2.out.mono ?_
        rintro e9 w9 ⟨rfl, hw9⟩
        have hw8 := hw9.symm
        subst hw8
        clear hw9 HLa2
        go_wp2
        go_ret
        exact ⟨rfl, HKf.out⟩
end Go.Proofs.YtfmndffgmemgpaaGreatDoor

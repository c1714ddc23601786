/- Records in the place of all others: replace. -/
import Derived.Test.YtippipeebkkghaaGreatDoorBr
import Derived.Deep.DeepCutAuto
namespace Go.Proofs.YtippipeebkkghaaGreatDoor
set_option linter.unusedVariables false
set_option linter.unusedSimpArgs false
open Go.RowKit Go.Deep

theorem lv_four {w : World} {m : Nat} {x0 x1 x2 x3 : Value} (h : Lv w m [x0, x1, x2, x3]) (y0 y1 y2 y3 : Value) :
    Lv ((((w.setCell ⟨m, 0, none⟩ y0).setCell ⟨m, 1, none⟩ y1).setCell ⟨m, 2, none⟩ y2).setCell ⟨m, 3, none⟩ y3) m [y0, y1, y2, y3] ∧ Kp (fun b => b = m) w ((((w.setCell ⟨m, 0, none⟩ y0).setCell ⟨m, 1, none⟩ y1).setCell ⟨m, 2, none⟩ y2).setCell ⟨m, 3, none⟩ y3) := lv_set4 h y0 y1 y2 y3
theorem totW_take_succ {ls : List (List Nat)} {i : Nat} (hi : i < ls.length) : totW (ls.take (i + 1)) = totW (ls.take i) + needW (ls.getD i []) := by
  rw [List.take_add_one, totW_app]
  congr 1
  rw [List.getD_eq_getElem?_getD, List.getElem?_eq_getElem hi]
  rfl
theorem take_succD {ls : List (List Nat)} {i : Nat} (hi : i < ls.length) : ls.take (i + 1) = ls.take i ++ [ls.getD i []] := by
  rw [List.take_add_one, List.getD_eq_getElem?_getD, List.getElem?_eq_getElem hi]
  rfl
set_option maxRecDepth 100000 in
set_option maxHeartbeats 3200000 in
theorem replace_ok {w : World} {g bp d m gf s q a b c e lt y : Nat} {recs ls : List (List Nat)} {dur : List Nat} {T : Nat → Option (List Nat)} (h : Lg w g bp d m gf s q a b c e lt y recs dur T) (p : Option Addr) (n cap nd : Nat) (hn : n = ls.length) (ht : Txs (fun x => x = d ∨ x = m ∨ x = g ∨ x = gf ∨ w.heap.size ≤ x) w p ls) (hf : ∀ ys ∈ ls, 1 ≤ ys.length ∧ ys.length ≤ 2000) (hnd : nd = totW ls) (hroom : totW recs + totW ls ≤ s) (ha : a < 1152921504606846976) (hl : lt + 1 + s < 1152921504606846976) (htu : Turns w) :
    Calls Tryz.prog 127 #[.pointer (some ⟨g, 0, none⟩), .slice p n cap, .int .i64 nd] w fun e9 w' => e9 = .returned .nilIface ∧ Kp (fun x => x = d ∨ x = m ∨ x = g ∨ x = gf) w w' ∧ ∃ gf' dur', w.heap.size ≤ gf' ∧ Lg w' g bp d m gf' s 0 (a + 1) b ((c + totW recs) % s) (lt + 1) (lt + ls.length) ls.length ls dur' (fun _ => none) := by
  obtain ⟨z1, z2, z3, z4, z5⟩ := h.bounds
  obtain ⟨y1, y2, y3, y4, y5⟩ := h.blk
  have hs1 := h.s1
  have hcs := h.cs
  have ha1 := h.a1
  have hb1 := h.b1
  obtain ⟨C, hC⟩ : ∃ C, C = (c + totW recs) % s := ⟨_, rfl⟩
  obtain ⟨a1, ha2⟩ : ∃ a1, a1 = a + 1 := ⟨_, rfl⟩
  obtain ⟨l1, hl1⟩ : ∃ l1, l1 = lt + 1 := ⟨_, rfl⟩
  have HE : Hid (∀ u, Kp (fun _ => False) w u → Calls Tryz.prog 165 #[.pointer (some ⟨g, 0, none⟩)] u fun e9 w' => e9 = .returned (.int .i64 (C : Int)) ∧ Kp (fun _ => False) u w') := fun u ku => by
    rw [hC]
    exact end_ok (h.keep0 ku).wl ⟨by omega, z2⟩ hcs ⟨rfl, z1⟩
  have HNum : Hid (C = (c + totW recs) % s ∧ a1 = a + 1 ∧ l1 = lt + 1 ∧ C < s ∧ n = ls.length ∧ nd = totW ls ∧ totW recs + totW ls ≤ s ∧ s ≤ 8190 ∧ 4 ≤ s ∧ lt + 1 + s < 1152921504606846976 ∧ a < 1152921504606846976 ∧ c < s ∧ totW recs ≤ s) := ⟨hC, ha2, hl1, by rw [hC]; exact Nat.mod_lt _ (by omega), hn, hnd, hroom, z2, hs1, hl, ha, hcs, z1⟩
  have HBl : Hid (g < w.heap.size ∧ bp < w.heap.size ∧ d < w.heap.size ∧ m < w.heap.size ∧ gf < w.heap.size) := ⟨y1, y2, y3, y4, y5⟩
  have HLp : Hid (Lp g bp d m gf) := h.lp
  have HLg : Hid (Lg w g bp d m gf s q a b c e lt y recs dur T) := h
  have HT : Hid (Turns w) := htu
  have HTl : Hid ((0 : Nat) < w.heap.size) := World.block_lt_of_cell? _ _ (htu 0 (by decide))
  have HTx : Hid (Txs (fun x => x = d ∨ x = m ∨ x = g ∨ x = gf ∨ w.heap.size ≤ x) w p ls) := ht
  have HF : Hid (∀ ys ∈ ls, 1 ≤ ys.length ∧ ys.length ≤ 2000) := hf
  have HP0 : Hid (0 < n → ∃ b o, p = some ⟨b, o, none⟩) := fun h0 => ht.len (r := 0) (by omega)
  have o1 : a ≤ 1152921504606846976 := by omega
  have o2 : lt ≤ 1152921504606846976 := by omega
  obtain ⟨cap0, l0, hl0, ho0, hf0⟩ := h.wl.hp
  have v2 : w.cell? ⟨g, 2, none⟩ = some (.int .i64 (a : Int)) := hl0.cell (j := 2) rfl
  have v3 : w.cell? ⟨g, 3, none⟩ = some (.int .i64 (b : Int)) := hl0.cell (j := 3) rfl
  have v7 : w.cell? ⟨g, 7, none⟩ = some (.int .i64 (lt : Int)) := hl0.cell (j := 7) rfl
  have HSS : Hid (∀ z, Kp (fun _ => False) w z → Kp (fun _ => False) w z ∧ z.cell? ⟨g, 2, none⟩ = some (.int .i64 (a : Int)) ∧ z.cell? ⟨g, 3, none⟩ = some (.int .i64 (b : Int)) ∧ z.cell? ⟨g, 7, none⟩ = some (.int .i64 (lt : Int))) := fun z kz => ⟨kz, kz.cellv v2 id, kz.cellv v3 id, kz.cellv v7 id⟩
  have HSa : Hid (∀ (z : World) (o : Obj), Kp (fun _ => False) w z → Kp (fun _ => False) w (z.alloc o)) := fun z o k => k.alloc o
  have HTr : Hid (∀ u u' : World, Kp (fun _ => False) w u → Kp (fun _ => False) u u' → Kp (fun _ => False) w u') := fun u u' h1 h2 => h1.trans h2 (fun _ _ e => e)
  rw [← ha2, ← hC, ← hl1]
  have hnn := nil_neq
  have ia := wrapI (wrapN1 ha2 o1)
  have il := wrapI (wrapN1 hl1 o2)
  clear h hn ht hf hnd hroom ha hl htu hC ha2 hl1 z1 z2 z3 z4 z5 y1 y2 y3 y4 y5 hs1 hcs ha1 hb1 hl0 ho0 hf0 v2 v3 v7 o1 o2
  go_enter Tryz.func127, Tryz.ntmps127
  go_upto_region 1 with fail
  have HSt : Hid (∀ (z : World) (x : Nat) (v0 v1 v2 v3 : Value), w.heap.size ≤ x → Kp (fun _ => False) w z → Kp (fun _ => False) w ((((z.setCell ⟨x, 0, none⟩ v0).setCell ⟨x, 1, none⟩ v1).setCell ⟨x, 2, none⟩ v2).setCell ⟨x, 3, none⟩ v3)) := fun z x v0 v1 v2 v3 hx kz =>
    have h9 : ∀ j, (⟨x, j, none⟩ : Addr).block < w.heap.size → False := fun j h => by have h' : x < w.heap.size := h; omega
    (((kz.setCell (h9 0) v0).setCell (h9 1) v1).setCell (h9 2) v2).setCell (h9 3) v3
  have HL4 : Hid (∀ (z : World) (x : Nat) (y0 y1 y2 y3 v0 v1 v2 v3 : Value), Lv z x [y0, y1, y2, y3] → Lv ((((z.setCell ⟨x, 0, none⟩ v0).setCell ⟨x, 1, none⟩ v1).setCell ⟨x, 2, none⟩ v2).setCell ⟨x, 3, none⟩ v3) x [v0, v1, v2, v3]) := fun z x y0 y1 y2 y3 v0 v1 v2 v3 hl => (lv_set4 hl v0 v1 v2 v3).1
  go_cut [7] (fun v wz => ∃ r, v = .pointer (some ⟨r, 0, none⟩) ∧ w.heap.size ≤ r ∧ Hid (Kp (fun _ => False) w wz) ∧ Hid (Lv wz r [.int .i64 (a1 : Int), .int .i64 (b : Int), .int .i64 (C : Int), .int .i64 (l1 : Int)]))
  case first =>
    have kd : Kp (fun _ => False) w w.drew := (Kp.refl _ _).drew
    have kda : ∀ o : Obj, Kp (fun _ => False) w (w.alloc o).drew := fun o => ((Kp.refl _ _).alloc o).drew
    go_region_held3 (fun z => Kp (fun _ => False) w z ∧ z.cell? ⟨g, 2, none⟩ = some (.int .i64 (a : Int)) ∧ z.cell? ⟨g, 3, none⟩ = some (.int .i64 (b : Int)) ∧ z.cell? ⟨g, 7, none⟩ = some (.int .i64 (lt : Int)))
      (first
        | exact HSS.out _ kd
        | exact HSS.out _ kw1
        | exact HSS.out _ (kda _)
        | exact HSS.out _ (kw1.alloc _)
        | exact HSS.out _ (HSt.out _ _ _ _ _ _ (Nat.le_refl _) kw1))
      (first
        | (go_at_call 165; refine (HE.out _ kd).mono ?_; rintro e9 w1 ⟨rfl, k1⟩; have kw1 := HTr.out _ _ kd k1)
        | (go_at_call 165; refine (HE.out _ (kda _)).mono ?_; rintro e9 w1 ⟨rfl, k1⟩; have kw1 := HTr.out _ _ (kda _) k1; have l0 : Lv w1 w.heap.size [.int .i64 0, .int .i64 0, .int .i64 0, .int .i64 0] := ((Lv.new w _ _).keep (S := fun _ => False) ((Kp.refl _ _).drew) id).keep k1 id; have a0 := l0.cell (j := 0) rfl; have a1' := l0.cell (j := 1) rfl; have a2 := l0.cell (j := 2) rfl; have a3 := l0.cell (j := 3) rfl; have f0 := l0.fz (j := 0) (show 0 < 4 by decide); have f1 := l0.fz (j := 1) (show 1 < 4 by decide); have f2 := l0.fz (j := 2) (show 2 < 4 by decide); have f3 := l0.fz (j := 3) (show 3 < 4 by decide)))
    all_goals
      go_simp
      go_wp2_with fail
      go_meet
      first
        | exact ⟨_, rfl, kw1.size, kw1.alloc _, Lv.new _ _ _⟩
        | exact ⟨_, rfl, Nat.le_refl _, HSt.out _ _ _ _ _ _ (Nat.le_refl _) kw1, HL4.out _ _ _ _ _ _ _ _ _ _ l0⟩
        | trace_state
  case rest =>
    obtain ⟨r, rfl, hr, HKz, HLz⟩ := hcut
    have HR : Hid (w.heap.size ≤ r ∧ r < wc.heap.size) := ⟨hr, HLz.out.lt (by simp)⟩
    have HLc : Hid (Lg wc g bp d m gf s q a b c e lt y recs dur T) := HLg.out.keep0 HKz.out
    clear HSS HSa HTr HE HSt HL4 ia il hr
    go_wp2_with fail
    go_loopg [34] n (fun gk iv wr => ∃ (i q' : Nat) (T' : Nat → Option (List Nat)), i ≤ n ∧ gk = n - i ∧ iv = .int .i64 i ∧ Hid (Kp (fun x => x = m ∨ x = g ∨ x = gf) wc wr) ∧ Hid (Lg wr g bp d m gf s q' a b c e (lt + i) y (recs ++ ls.take i) dur T'))
    case atStart => exact ⟨0, q, T, Nat.zero_le _, rfl, rfl, Kp.refl _ _, by show Lg _ _ _ _ _ _ _ _ _ _ _ _ _ _ _ _ _; rw [List.take_zero, List.append_nil]; exact HLc.out⟩
    case round =>
      obtain ⟨i, q1, T1, hi, rfl, rfl, HK, HL⟩ := hrel
      have HKw : Hid (Kp (fun x => x = d ∨ x = m ∨ x = g ∨ x = gf) w wr) := (HKz.out.mono (fun _ _ e => e.elim)).trans HK.out (fun _ _ e => Or.inr e)
      by_cases hlt : i < n
      · have hlt2 : (i : Int) < (n : Int) := by omega
        obtain ⟨b0, o0, rfl⟩ := HP0.out (by omega)
        have hil : i < ls.length := by have := HNum.out; omega
        obtain ⟨b9, o9, e9, hF, pp, cc, hc, hrb, hlc, hbz⟩ := (HTx.out.keep (HKw.out.mono (S' := fun x => x = d ∨ x = m ∨ x = g ∨ x = gf ∨ w.heap.size ≤ x) (fun b' _ e' => by
          have e2 : b' = d ∨ b' = m ∨ b' = g ∨ b' = gf := e'
          show b' = d ∨ b' = m ∨ b' = g ∨ b' = gf ∨ w.heap.size ≤ b'
          omega))) i hil
        cases e9
        obtain ⟨ys, hys⟩ : ∃ ys, ys = ls.getD i [] := ⟨_, rfl⟩
        rw [← hys] at hc hrb hlc hbz
        obtain ⟨N, hN⟩ : ∃ N, N = ys.length := ⟨_, rfl⟩
        rw [← hN] at hc hrb hlc hbz
        have hfit := HF.out ys (by rw [hys, List.getD_eq_getElem?_getD, List.getElem?_eq_getElem hil]; exact List.getElem_mem _)
        have HPut : Hid (Calls _ _ _ wr _) := lg_put HL.out pp N cc ys hrb (by omega) hlc (by
          have h1 := totW_take_succ hil
          have h2 := totW_take ls (i + 1)
          have h3 := HNum.out
          rw [totW_app, hys]
          omega) (fun z hz h0 => by
          have h1 : ¬ (z.block = d ∨ z.block = m ∨ z.block = g ∨ z.block = gf ∨ w.heap.size ≤ z.block) := hbz z hz (by omega)
          exact ⟨by omega, by omega, by omega⟩) (fun j hj => HKw.out.cellv (HT.out j hj) (fun e9 => by
          have e' : (0 : Nat) = d ∨ (0 : Nat) = m ∨ (0 : Nat) = g ∨ (0 : Nat) = gf := e9
          have h1 := HLp.out.td
          have h2 := HLp.out.tm
          have h3 := HLp.out.tg
          have h4 := HLp.out.tf
          omega))
        have hwi : wrap64 ((i : Int) + 1) = ((i + 1 : Nat) : Int) := wr_1 (by have := HNum.out; have := HL.out.bounds; rw [List.length_append, List.length_take] at this; omega)
        have HYs : Hid (ls.take (i + 1) = ls.take i ++ [ys]) := by show _ = _; rw [take_succD hil, hys]
        clear hF hrb hlc hbz hfit hys hN hil
        go_wp2_with fail
        refine HPut.out.mono ?_
        rintro e9 w4 ⟨rfl, k4, q4, T4, l4⟩
        have HF4 : Hid (Kp (fun x => x = m ∨ x = g ∨ x = gf) wc w4 ∧ Lg w4 g bp d m gf s q4 a b c e (lt + (i + 1)) y (recs ++ ls.take (i + 1)) dur T4) := ⟨HK.out.trans k4 (fun _ _ e => e), by rw [HYs.out, ← List.append_assoc]; exact l4⟩
        clear k4 l4 HPut hc
        go_wp2
        go_roundg (n - (i + 1))
        case rel => exact ⟨i + 1, q4, T4, by omega, rfl, by first | rw [hwi] | simp, HF4.out.1, HF4.out.2⟩
        case measure => omega
      · have hin : i = n := by omega
        subst hin
        have hlt2 : ¬ ((i : Int) < (i : Int)) := by omega
        have hlN := HL.out
        rw [List.take_of_length_le (by have := HNum.out; omega)] at hlN
        have HLn : Hid (Lg wr g bp d m gf s q1 a b c e (lt + i) y (recs ++ ls) dur T1) := hlN
        obtain ⟨cap0, l0, hl0, ho0, hf0⟩ := hlN.wl.hp
        have HLv : Hid (Lv wr g (walC bp s ⟨a, b, c, e⟩ (.slice (some ⟨gf, 0, none⟩) (s - totW (recs ++ ls)) cap0) ((lt + i : Nat) : Int))) := hl0
        have v0 : wr.cell? ⟨g, 0, none⟩ = some (.pointer (some ⟨bp, 0, none⟩)) := hl0.cell (j := 0) rfl
        have v1 : wr.cell? ⟨g, 1, none⟩ = some (.int .i64 s) := hl0.cell (j := 1) rfl
        have HSy : Hid (Calls _ _ _ wr _) := rsync_ok hlN.pt s
        have HL4r : Hid (Lv wr r [.int .i64 (a1 : Int), .int .i64 (b : Int), .int .i64 (C : Int), .int .i64 (l1 : Int)]) := HLz.out.keep HK.out (fun e9 => by have e' : r = m ∨ r = g ∨ r = gf := e9; have := HR.out; have := HBl.out; omega)
        have HPtn : Hid (dur.length = (2 + s) * 64 ∧ ∀ i xs, T1 i = some xs → xs.length = 64) := ⟨hlN.pt.len, hlN.pt.tlen⟩
        clear hlN hl0 ho0 hf0 HL HLc
        go_wp2_with fail
        refine HSy.out.mono ?_
        rintro e9 w5 ⟨rfl, k5, p5⟩
        obtain ⟨dur5, hd5⟩ : ∃ x, x = durAll dur T1 (2 + s) := ⟨_, rfl⟩
        rw [← hd5] at p5
        have HD5 : Hid (dur5 = durAll dur T1 (2 + s)) := hd5
        have HP5 : Hid (Pt w5 bp d m (2 + s) 0 dur5 (fun _ => none)) := p5
        have HKw5 : Hid (Kp (fun x => x = d ∨ x = m ∨ x = g ∨ x = gf) w w5) := HKw.out.trans k5 (fun _ _ e => e.elim Or.inl (fun e => Or.inr (Or.inl e)))
        have HLv5 : Hid (Lv w5 g (walC bp s ⟨a, b, c, e⟩ (.slice (some ⟨gf, 0, none⟩) (s - totW (recs ++ ls)) cap0) ((lt + i : Nat) : Int))) := HLv.out.keep k5 (fun e => e.elim HLp.out.gd HLp.out.gm)
        have HL5r : Hid (Lv w5 r [.int .i64 (a1 : Int), .int .i64 (b : Int), .int .i64 (C : Int), .int .i64 (l1 : Int)]) := HL4r.out.keep k5 (fun e9 => by have e' : r = d ∨ r = m := e9; have := HR.out; have := HBl.out; omega)
        have HTn : Hid (Calls _ _ _ w5 _) := turn_ok p5 (by decide) (by omega) s ⟨a, b, c, e⟩ _ _ HLv5.out HLp.out.gd HLp.out.gm HLp.out.bg a1 b C l1 (by have := HNum.out; omega) (HLn.out.b1).2 (by have := HNum.out; omega) (by have := HNum.out; omega) (fun j hj => HKw5.out.cellv (HT.out j hj) (fun e9 => by
          have e' : (0 : Nat) = d ∨ (0 : Nat) = m ∨ (0 : Nat) = g ∨ (0 : Nat) = gf := e9
          have h1 := HLp.out.td
          have h2 := HLp.out.tm
          have h3 := HLp.out.tg
          have h4 := HLp.out.tf
          omega))
        have q0 := HL5r.out.cell (j := 0) rfl
        have q1' := HL5r.out.cell (j := 1) rfl
        have q2 := HL5r.out.cell (j := 2) rfl
        have q3 := HL5r.out.cell (j := 3) rfl
        clear k5 p5 HSy hd5 v0 v1 HLv HL4r
        go_wp2_with fail
        refine HTn.out.mono ?_
        rintro e9 w6 ⟨rfl, k6, p6, l6⟩
        obtain ⟨dur6, hd6⟩ : ∃ x, x = wrHead dur5 (fun _ => none) (2 + s) (a1 % 2) (hdB a1 b C l1) := ⟨_, rfl⟩
        rw [← hd6] at p6
        have HD6 : Hid (dur6 = wrHead dur5 (fun _ => none) (2 + s) (a1 % 2) (hdB a1 b C l1)) := hd6
        have HP6 : Hid (Pt w6 bp d m (2 + s) 0 dur6 (fun _ => none)) := p6
        have HKw6 : Hid (Kp (fun x => x = d ∨ x = m ∨ x = g ∨ x = gf) w w6) := HKw5.out.trans k6 (fun b' _ e9 => by
          have e' : b' = d ∨ b' = m ∨ b' = g := e9
          show b' = d ∨ b' = m ∨ b' = g ∨ b' = gf
          omega)
        have HLv6 : Hid (Lv w6 g (walC bp s ⟨(a1 : Int), (b : Int), (C : Int), (l1 : Int)⟩ (.slice (some ⟨gf, 0, none⟩) (s - totW (recs ++ ls)) cap0) ((lt + i : Nat) : Int))) := l6
        have HL6r : Hid (Lv w6 r [.int .i64 (a1 : Int), .int .i64 (b : Int), .int .i64 (C : Int), .int .i64 (l1 : Int)]) := HL5r.out.keep k6 (fun e9 => by have e' : r = d ∨ r = m ∨ r = g := e9; have := HR.out; have := HBl.out; omega)
        obtain ⟨E, hE⟩ : ∃ E, E = C + nd := ⟨_, rfl⟩
        obtain ⟨KK, hKK⟩ : ∃ KK, KK = s - nd := ⟨_, rfl⟩
        have HE : Hid (E = C + nd ∧ KK = s - nd) := ⟨hE, hKK⟩
        have o1 : (E : Int) ≤ 1000000000000000000 := by have := HNum.out; omega
        have o2 : nd ≤ s := by have := HNum.out; omega
        have o3 : s ≤ 8192 := by have := HNum.out; omega
        have HPl : Hid (∀ u, Calls _ _ _ u _) := fun u => placesFrom_ok E KK u (by have := HNum.out; omega) (by have := HNum.out; omega)
        have hw1 := (wrapPl hE o1).2
        have hw2 := wrapI (wrapSU hKK o2 o3)
        have v1 : w6.cell? ⟨g, 1, none⟩ = some (.int .i64 (s : Int)) := HLv6.out.cell (j := 1) rfl
        have v6 := HLv6.out.cell (j := 6) rfl
        have p2 : w6.cell? ⟨r, 2, none⟩ = some (.int .i64 (C : Int)) := HL6r.out.cell (j := 2) rfl
        have hrg : r ≠ g := by have := HR.out; have := HBl.out; omega
        have HTr4 : Hid (∀ u u' : World, Kp (fun _ => False) w6 u → Kp (fun _ => False) u u' → Kp (fun _ => False) w6 u') := fun u u' h1 h2 => h1.trans h2 (fun _ _ e => e)
        have HS4 : Hid (∀ z, Kp (fun _ => False) w6 z → Kp (fun b => b = g) w6 z ∧ z.cell? ⟨g, 1, none⟩ = some (.int .i64 (s : Int)) ∧ z.cell? ⟨r, 2, none⟩ = some (.int .i64 (C : Int)) ∧ z.cell? ⟨g, 6, none⟩ = some (oldW z g 6) ∧ z.frozen? ⟨g, 6, none⟩ = false) := fun z kz => ⟨kz.mono (fun _ _ e => e.elim), kz.cellv v1 id, kz.cellv p2 id, oldW_of (kz.cellv v6 id), (HLv6.out.keep kz id).fz (j := 6) (show 6 < 8 by decide)⟩
        have HSt : Hid (∀ (z : World) (v : Value), (Kp (fun b => b = g) w6 z ∧ z.cell? ⟨g, 1, none⟩ = some (.int .i64 (s : Int)) ∧ z.cell? ⟨r, 2, none⟩ = some (.int .i64 (C : Int)) ∧ z.cell? ⟨g, 6, none⟩ = some (oldW z g 6) ∧ z.frozen? ⟨g, 6, none⟩ = false) → Kp (fun b => b = g) w6 (z.setCell ⟨g, 6, none⟩ v) ∧ (z.setCell ⟨g, 6, none⟩ v).cell? ⟨g, 1, none⟩ = some (.int .i64 (s : Int)) ∧ (z.setCell ⟨g, 6, none⟩ v).cell? ⟨r, 2, none⟩ = some (.int .i64 (C : Int)) ∧ (z.setCell ⟨g, 6, none⟩ v).cell? ⟨g, 6, none⟩ = some (oldW (z.setCell ⟨g, 6, none⟩ v) g 6) ∧ (z.setCell ⟨g, 6, none⟩ v).frozen? ⟨g, 6, none⟩ = false) := fun z v ⟨h1, h2, h3, h4, h5⟩ => ⟨h1.trans kp_set (fun _ _ e => e), by rw [World.cell?_setCell_other _ _ _ _ (by simp)]; exact h2, by rw [World.cell?_setCell_other _ _ _ _ (by simp [Ne.symm hrg])]; exact h3, oldW_of (v := v) (by rw [World.cell?_setCell_same _ _ _ h4]), by rw [World.frozen?_setCell]; exact h5⟩
        clear k6 p6 l6 HTn hd6 q0 q1' q2 q3 hE hKK o1 o2 o3 v1 v6 p2 hrg HLv5 HL5r
        go_upto_region 15 with fail
        have kd : Kp (fun _ => False) w6 w6.drew := (Kp.refl _ _).drew
        go_region_held3 (fun z => Kp (fun b => b = g) w6 z ∧ z.cell? ⟨g, 1, none⟩ = some (.int .i64 (s : Int)) ∧ z.cell? ⟨r, 2, none⟩ = some (.int .i64 (C : Int)) ∧ z.cell? ⟨g, 6, none⟩ = some (oldW z g 6) ∧ z.frozen? ⟨g, 6, none⟩ = false)
          (first
            | exact HS4.out _ kd
            | exact HS4.out _ kw2
            | exact HSt.out _ _ (by assumption))
          (first
            | (go_at_call 144; refine (HPl.out _).mono ?_; rintro e9 wA ⟨gn, cap, l, hgf, rfl, kA, owA, frA⟩; have kw2 := HTr4.out _ _ kd kA))
        all_goals
          obtain ⟨w7, hw7⟩ : ∃ y, y = wA.setCell ⟨g, 6, none⟩ (.slice (some ⟨gn, 0, none⟩) KK cap) := ⟨_, rfl⟩
          have k7 : Kp (fun b => b = g) wA w7 := by rw [hw7]; exact kp_set
          have HK7 : Hid (Kp (fun b => b = g) w6 w7) := (kw2.mono (fun _ _ e => e.elim)).trans k7 (fun _ _ e => e)
          have HL7 : Hid (Lv w7 g (walC bp s ⟨(a1 : Int), (b : Int), (C : Int), (l1 : Int)⟩ (.slice (some ⟨gn, 0, none⟩) KK cap) ((lt + i : Nat) : Int))) := by rw [hw7]; exact (HLv6.out.keep kw2 id).set1 6 _ (by simp)
          have hgf1 : w6.heap.size ≤ gn := Nat.le_trans kd.size hgf
          have HGf : Hid (w.heap.size ≤ gn ∧ gn ≠ g ∧ Free l E KK) := ⟨by have := HKw6.out.size; omega, by have := HKw6.out.size; have := HBl.out; omega, frA⟩
          have HO7 : Hid (w7.ownsRow 0 3 1 (.slice (some ⟨gn, 0, none⟩) KK cap) KK (nls l)) := ownsRow_keep owA k7 (fun g' e9 e2 => by have e' : some gn = some g' := e9; injection e' with e'; have := HGf.out.2.1; omega)
          have HP7 : Hid (Pt w7 bp d m (2 + s) 0 dur6 (fun _ => none)) := HP6.out.keep HK7.out (fun e => HLp.out.bg e) (fun e => HLp.out.gd e.symm) (fun e => HLp.out.gm e.symm)
          have HKw7 : Hid (Kp (fun x => x = d ∨ x = m ∨ x = g ∨ x = gf) w w7) := HKw6.out.trans HK7.out (fun _ _ e => Or.inr (Or.inr (Or.inl e)))
          have HCl : Hid (∀ u, Kp (fun _ => False) w7 u → Calls _ _ _ u _) := fun u ku => clean_ok (HP7.out.keep0 ku) ⟨rfl, by have := HNum.out; omega⟩ (by decide) (k := KK) (e := E) (by have := HNum.out; have := HE.out; omega) (by have := HNum.out; have := HE.out; omega) (ownsRow_keep HO7.out ku (fun _ _ e => e)) HGf.out.2.2
          have v0 := HL7.out.cell (j := 0) rfl
          have v1 := HL7.out.cell (j := 1) rfl
          have v6 := HL7.out.cell (j := 6) rfl
          have HS6 : Hid (∀ z, Kp (fun x => x = d ∨ x = m) w7 z → Kp (fun x => x = d ∨ x = m) w7 z ∧ z.cell? ⟨g, 0, none⟩ = some (.pointer (some ⟨bp, 0, none⟩)) ∧ z.cell? ⟨g, 1, none⟩ = some (.int .i64 (s : Int)) ∧ z.cell? ⟨g, 6, none⟩ = some (.slice (some ⟨gn, 0, none⟩) KK cap)) := fun z kz => ⟨kz, kz.cellv v0 (fun e => e.elim HLp.out.gd HLp.out.gm), kz.cellv v1 (fun e => e.elim HLp.out.gd HLp.out.gm), kz.cellv v6 (fun e => e.elim HLp.out.gd HLp.out.gm)⟩
          have HT6 : Hid (∀ u u' : World, Kp (fun _ => False) w7 u → Kp (fun x => x = d ∨ x = m) u u' → Kp (fun x => x = d ∨ x = m) w7 u') := fun u u' h1 h2 => (h1.mono (fun _ _ e => e.elim)).trans h2 (fun _ _ e => e)
          clear kd kw2 kA owA frA hgf k7 hgf1 HPl HS4 HSt hw1 hw2 HTr4 v0 v1 v6 HLv6 HL6r HP6
          go_simp
          rw [← hw7]
          clear hw7
          go_upto_region 16 with fail
          have kd : Kp (fun _ => False) w7 w7.drew := (Kp.refl _ _).drew
          have kD : Kp (fun x => x = d ∨ x = m) w7 w7.drew := (Kp.refl _ _).drew
          go_region_held3 (fun z => Kp (fun x => x = d ∨ x = m) w7 z ∧ z.cell? ⟨g, 0, none⟩ = some (.pointer (some ⟨bp, 0, none⟩)) ∧ z.cell? ⟨g, 1, none⟩ = some (.int .i64 (s : Int)) ∧ z.cell? ⟨g, 6, none⟩ = some (.slice (some ⟨gn, 0, none⟩) KK cap))
            (first
              | exact HS6.out _ kD
              | exact HS6.out _ kw8)
            (first
              | (go_at_call 147; refine (HCl.out _ kd).mono ?_; rintro e9 w8 ⟨rfl, k8, dur8, p8, c8⟩; have kw8 := HT6.out _ _ kd k8))
          all_goals
            have HF : Hid (Kp (fun x => x = d ∨ x = m ∨ x = g ∨ x = gf) w w8 ∧ w.heap.size ≤ gn ∧ Lg w8 g bp d m gn s 0 a1 b C l1 (lt + ls.length) ls.length ls dur8 (fun _ => none)) := by
              have hN := HNum.out
              have hE := HE.out
              have hGf := HGf.out
              have hBl := HBl.out
              have hlp := HLp.out
              have hfits := HLn.out.lg.fits
              rw [totW_app] at hfits
              have hil : i = ls.length := by omega
              have hl9 := HLg.out.hl
              have ha9 := HLg.out.a1
              have hb9 := HLg.out.b1
              have he9 := HLg.out.e1
              refine ⟨HKw7.out.trans kw8 (fun _ _ e => e.elim Or.inl (fun e => Or.inr (Or.inl e))), hGf.1, ⟨p8, ?_, ?_, DirtW.none _, Nat.zero_le _, by omega, by omega, by omega, ⟨by omega, by omega⟩, hb9, ⟨by omega, by omega⟩, ⟨hlp.gd, hlp.gm, hlp.bg, by omega, by omega, by omega, hlp.tg, by have := HTl.out; omega, hlp.td, hlp.tm⟩, Nat.le_refl _, fun _ _ => rfl⟩⟩
              · have e1 : C + totW ls = E := by omega
                have e2 : s - totW ls = KK := by omega
                rw [e1, e2, ← hil]
                exact ⟨⟨cap, l, HL7.out.keep kw8 (fun e => e.elim hlp.gd hlp.gm), ownsRow_keep HO7.out kw8 (fun g' e9 e2 => by have e' : some gn = some g' := e9; injection e' with e'; have e3 : g' = d ∨ g' = m := e2; omega), hGf.2.2⟩, hGf.2.1⟩
              · have hnow1 : LogN (nowOf dur5 (fun _ => none)) s a b c e (recs ++ ls) := HLn.out.lg.congr (by omega) (fun j hj => by rw [HD5.out]; exact nowOf_dur HPtn.out.1 HPtn.out.2 hj)
                have hrep := LogN.replaced (dur := dur6) (now := nowOf dur8 (fun _ => none)) hnow1 ⟨by omega, by omega⟩ hb9 (by omega) (by omega) ⟨by omega, by omega⟩ (fun j hj => by
                  rw [HD6.out, nowOf_wrHead HP5.out.len (fun _ _ h => by cases h) (hdB_len _ _ _ _) hj, hN.2.1, hN.2.2.1, hN.1, hl9]) (by
                  rw [← hN.1, ← hN.2.2.2.2.2.1, ← hE.1, ← hE.2]
                  exact c8)
                rw [← hN.1, ← hl9, ← hN.2.1, ← hN.2.2.1] at hrep
                exact hrep
            clear kd kD kw8 k8 p8 c8 HS6 HT6 HCl
            go_simp
            go_wp2
            go_ret
            exact ⟨rfl, HF.out.1, gn, dur8, HF.out.2.1, HF.out.2.2⟩
end Go.Proofs.YtippipeebkkghaaGreatDoor

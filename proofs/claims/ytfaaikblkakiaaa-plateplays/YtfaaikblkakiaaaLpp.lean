/- The walk of the law PlatePlays: whatever is done to a plate, it answers and has what the document says; copies go their own ways. -/
import Derived.Test.YtfaaikblkakiaaaDs
import Derived.Test.YtfaaikblkakiaaaPu
import Derived.Test.YtfaaikblkakiaaaPv
import Derived.Test.YtfaaikblkakiaaaFg
namespace Go.Proofs.Ytfaaikblkakiaaa
open Go.RowKit Go.Deep Go.Maps

set_option maxRecDepth 100000 in
set_option maxHeartbeats 3200000 in
theorem platePlays_bad (i : Int) (v : Value) (w : World) (hi : ¬ (1 ≤ i ∧ i ≤ 8192)) :
    Calls Try.prog 3 #[.int .i64 i, v] w fun e w' => e = .returned (.bool true) ∧ Kp (fun _ => False) w w' := by
  have H1 : Hid (Calls _ _ _ w _) := new_bad i w hi
  have H2 : Hid (Calls _ _ _ w _) := refNew_bad i w hi
  clear hi
  go_enter Try.func3, Try.ntmps3
  go_wp2_with (first
    | (go_at_call 10; refine H1.out.mono ?_; rintro e w' ⟨rfl, hw⟩; obtain rfl := hw.symm)
    | (go_at_call 11; refine H2.out.mono ?_; rintro e w' ⟨rfl, hw⟩; obtain rfl := hw.symm))
  go_ret
  exact ⟨rfl, Kp.refl _ _⟩

set_option maxRecDepth 100000 in
set_option maxHeartbeats 3200000 in
theorem platePlays_ok (n : Nat) (v : Value) (L : Nat) (w : World) (hn1 : 1 ≤ (n : Int)) (hn2 : (n : Int) ≤ 8192) (hD : Dos2 w v L) :
    Calls Try.prog 3 #[.int .i64 (n : Int), v] w fun e w' => e = .returned (.bool true) ∧ Kp (fun _ => False) w w' := by
  have H1 : Hid (Calls _ _ _ w _) := new_ok n w hn1 hn2
  obtain ⟨g, gb, go, cap, rfl, hg, hDo⟩ := hD.form
  have hL := hD.many
  have HDo : Hid _ := hDo
  have HG : Hid _ := hg
  clear hD hDo hg
  go_enter Try.func3, Try.ntmps3
  go_wp2_with fail
  refine H1.out.mono ?_
  rintro e w1 ⟨b, d, m, rfl, k1, hb, hd, hm, hP⟩
  have H2 : Hid (Calls _ _ _ w1 _) := refNew_ok (n := n) (Y := fun z => z = b ∨ z = d ∨ z = m ∨ N0 z) (fun z e => by
    rcases e with e | e | e | e
    · rw [e]; exact hP.lt
    · rw [e]; exact hP.row.lt
    · rw [e]; exact hP.mp.lt
    · exact e.elim) hn1 hn2
  have HP1 : Hid (Pt w1 b d m n 0 (List.replicate (n * 64) 0) (fun _ => none)) := hP
  clear hP H1
  go_wp2_with fail
  refine H2.out.mono ?_
  rintro e w2 ⟨x, tb, tw, td, rfl, k2, hx, htb, htw, htd, hR⟩
  clear H2
  have hz1 := k1.size
  have hz2 := k2.size
  obtain ⟨F, HF1, HF0, HF2⟩ : ∃ F : Nat → Prop, Hid (∀ z, F z → w.heap.size ≤ z) ∧ Hid (∀ z, F z → z < w2.heap.size) ∧ Hid (Pr w2 b x n 0 F N0) := by
    have hP3 := HP1.out.keep k2 id id id
    have l1 := HP1.out.lt
    have l2 := HP1.out.row.lt
    have l3 := HP1.out.mp.lt
    have l4 := hR.lt
    have hF : ∀ z, (z = b ∨ z = d ∨ z = m ∨ z = x ∨ z = tb ∨ z = tw ∨ z = td) → z < w2.heap.size := fun z e => by
      rcases e with e | e | e | e | e | e | e
      · rw [e]; omega
      · rw [e]; omega
      · rw [e]; omega
      · rw [e]; exact l4.1
      · rw [e]; exact l4.2.1
      · rw [e]; exact l4.2.2.1
      · rw [e]; exact l4.2.2.2
    refine ⟨fun z => z = b ∨ z = d ∨ z = m ∨ z = x ∨ z = tb ∨ z = tw ∨ z = td, fun z e => by rcases e with e | e | e | e | e | e | e <;> omega, hF, hF, Or.inl rfl, Or.inr (Or.inr (Or.inr (Or.inl rfl))), ⟨by omega, by omega⟩, Or.inl ⟨d, m, tb, tw, td, _, fun _ => none, ⟨hP3, hR.congr (fun r hr => (secOf_zero hr).symm) (fun r hr => (secOf_zero hr).symm) (fun _ _ => rfl), fun z e => by rcases e with e | e | e <;> omega⟩, Or.inr (Or.inl rfl), Or.inr (Or.inr (Or.inl rfl)), Or.inr (Or.inr (Or.inr (Or.inr (Or.inl rfl)))), Or.inr (Or.inr (Or.inr (Or.inr (Or.inr (Or.inl rfl))))), Or.inr (Or.inr (Or.inr (Or.inr (Or.inr (Or.inr rfl)))))⟩⟩
  have k12 : Kp (fun _ => False) w w2 := k1.trans k2 (fun _ _ e => e)
  have H3 : Hid (Calls _ _ _ w2 _) := copy_pair HF2.out (fun z => z < w2.heap.size) (fun _ e => e)
  clear hR HP1 hb hd hm hx htb htw htd k1 k2
  go_wp2_with fail
  refine H3.out.mono ?_
  rintro e w3 ⟨b', rfl, k3, hC3⟩
  have HC3 : Hid (Calls _ _ _ _ _) := hC3
  clear hC3 H3
  go_wp2_with fail
  refine HC3.out.mono ?_
  rintro e w4 ⟨x', F', rfl, k4, hF', hP'⟩
  have HP' : Hid (Pr w4 b' x' n 0 F' (fun z => z < w2.heap.size)) := hP'
  have HF' : Hid (∀ z, F' z → w2.heap.size ≤ z) := hF'
  have k24 := k3.trans k4 (fun _ _ e => e)
  have HPx : Hid (Pr w4 b x n 0 F N0) := HF2.out.keep0 k24
  have HKx : Hid (Kp (fun _ => False) w w4) := k12.trans k24 (fun _ _ e => e)
  clear hP' hF' HC3 HF2 k3 k4 k24 k12
  go_wp2_with fail
  go_loopg [5, 7, 9, 10, 51] L (fun gk vp vx vo ve xi wr => ∃ (k b x b' x' q' : Nat) (F F' Y' : Nat → Prop), k ≤ L ∧ gk = L - k ∧ vp = .pointer (some ⟨b, 0, none⟩) ∧ vx = .pointer (some ⟨x, 0, none⟩) ∧ vo = .pointer (some ⟨b', 0, none⟩) ∧ ve = .pointer (some ⟨x', 0, none⟩) ∧ xi = .int .i64 k ∧ Kp (fun _ => False) w wr ∧ Hid (Pr wr b x n k F N0) ∧ Hid (Pr wr b' x' n q' F' Y') ∧ Hid (∀ z, F z → w.heap.size ≤ z ∧ Y' z ∧ ¬ F' z))
  case atStart => exact ⟨0, b, x, b', x', 0, F, F', _, Nat.zero_le _, rfl, rfl, rfl, rfl, rfl, rfl, HKx.out, HPx.out, HP'.out, fun z hz => ⟨HF1.out z hz, HF0.out z hz, fun e => by have h1 := HF'.out z e; have h2 := HF0.out z hz; omega⟩⟩
  case round =>
    clear HKx HPx HP' HF1 HF0 HF' hz1 hz2
    obtain ⟨k, b, x, b', x', q', F, F', Y', hk, rfl, rfl, rfl, rfl, rfl, rfl, hK, hPr, hPo, hFF⟩ := hrel
    by_cases hlt : (k : Int) < (L : Int)
    · have hg' := HG.out (by omega)
      subst hg'
      obtain ⟨op, i, tn, nn, pb, cb, xs, pk, ck, zs, hd1⟩ := HDo.out k (by omega)
      have f0 := hK.cellv hd1.c0 id
      have f1 := hK.cellv hd1.c1 id
      have f2 := hK.cellv hd1.c2 id
      have f3 := hK.cellv hd1.c3 id
      have f4 := hK.cellv hd1.c4 id
      have f5 := hK.cellv hd1.c5 id
      have hm := m7_eq op
      obtain ⟨M, hM⟩ : ∃ M, M = m7 op := ⟨_, rfl⟩
      rw [← hM] at hm
      clear hM
      obtain ⟨cs, hcs⟩ : ∃ cs : Array Value, cs = #[.int .i64 op, .int .i64 i, .int .i64 tn, .int .i64 nn, .slice pb xs.length cb, .slice pk zs.length ck] := ⟨_, rfl⟩
      obtain ⟨ws, hws⟩ : ∃ z, z = wr.alloc (.cells cs 35) := ⟨_, rfl⟩
      have ks : Kp (fun _ => False) wr ws := by rw [hws]; exact (Kp.refl _ _).alloc _
      have hzs : ws.heap.size = wr.heap.size + 1 := by rw [hws]; simp
      have cc : ∀ j v, cs[j]? = some v → ws.cell? ⟨wr.heap.size, j, none⟩ = some v := fun j v hv => by
        rw [hws, cell_of_row _ _ j cs _ (0, 0) (heap_alloc_new wr (.cells cs 35))]
        exact hv
      have HC : Hid (∀ z, Kp (fun _ => False) ws z → z.cell? ⟨wr.heap.size, 0, none⟩ = some (.int .i64 op) ∧ z.cell? ⟨wr.heap.size, 1, none⟩ = some (.int .i64 i) ∧ z.cell? ⟨wr.heap.size, 2, none⟩ = some (.int .i64 tn) ∧ z.cell? ⟨wr.heap.size, 3, none⟩ = some (.int .i64 nn) ∧ z.cell? ⟨wr.heap.size, 4, none⟩ = some (.slice pb xs.length cb) ∧ z.cell? ⟨wr.heap.size, 5, none⟩ = some (.slice pk zs.length ck)) := fun z kz => ⟨kz.cellv (cc 0 _ (by rw [hcs]; rfl)) id, kz.cellv (cc 1 _ (by rw [hcs]; rfl)) id, kz.cellv (cc 2 _ (by rw [hcs]; rfl)) id, kz.cellv (cc 3 _ (by rw [hcs]; rfl)) id, kz.cellv (cc 4 _ (by rw [hcs]; rfl)) id, kz.cellv (cc 5 _ (by rw [hcs]; rfl)) id⟩
      clear cc
      have kws := hK.trans ks (fun _ _ e => e)
      have HFl : Hid (∀ z, F z → z < wr.heap.size) := hPr.out.1
      have HPs : Hid (Pr ws b x n k F N0) := hPr.out.keep0 ks
      have HDs : Hid (∀ (u : World) (b x : Nat) (F : Nat → Prop), Kp (fun _ => False) ws u → (∀ z, F z → w.heap.size ≤ z) → Pr u b x n k F N0 → Calls Try.prog 14 #[.pointer (some ⟨b, 0, none⟩), .pointer (some ⟨x, 0, none⟩), .agg #[.int .i64 op, .int .i64 i, .int .i64 tn, .int .i64 nn, .slice pb xs.length cb, .slice pk zs.length ck]] u fun e w' => e = .returned (.bool true) ∧ Kp F u w' ∧ Pr w' b x n (k + 1) F N0) := fun u b x F ku hFu hP => does_ok hP (by omega) op i tn nn pb cb xs
          (fun w' k' => hd1.rb.keep0 ((kws.trans ku (fun _ _ e => e)).trans k' (fun z hz e => by have := hFu z e; omega))) hd1.nb pk ck zs (fun w' k' => hd1.rz.keep ((kws.trans ku (fun _ _ e => e)).trans k' (S := fun _ => False) (fun z hz e => by have := hFu z e; omega)) (fun _ _ => id)) hd1.nz hd1.wz hd1.wt
      obtain ⟨l4, hl4⟩ : ∃ l, l = xs.length := ⟨_, rfl⟩
      obtain ⟨l5, hl5⟩ : ∃ l, l = zs.length := ⟨_, rfl⟩
      rw [← hl4] at f4 HDs HC hcs
      rw [← hl5] at f5 HDs HC hcs
      clear hd1 hl4 hl5 HDo HG
      by_cases h5 : M = 5
      · subst h5
        have HCo : Hid (Calls _ _ _ ws _) := copy_pair HPs.out N0 (fun _ e => e.elim)
        go_wp2_with fail
        rw [← hcs, ← hws]
        refine HCo.out.mono ?_
        rintro e w6 ⟨b2, rfl, k6, hC6⟩
        have HC6 : Hid (Calls _ _ _ _ _) := hC6
        clear hC6 HCo f0 f1 f2 f3 f4 f5
        go_wp2_with fail
        refine HC6.out.mono ?_
        rintro e w7 ⟨x2, F2, rfl, k7, hF2, hP7⟩
        have k57 := k6.trans k7 (fun _ _ e => e)
        obtain ⟨c0, c1, c2, c3, c4, c5⟩ := HC.out w7 k57
        have hwz := hK.size
        have HD7 : Hid (Calls _ _ _ w7 _) := HDs.out w7 b2 x2 F2 k57 (fun z e => by have := hF2 z e; omega) hP7
        have HF2 : Hid (∀ z, F2 z → ws.heap.size ≤ z) := hF2
        have HPn : Hid (Pr w7 b x n k F (fun z => wr.heap.size ≤ z)) := ((hPr.out.fresh (Y' := fun z => wr.heap.size ≤ z) (fun _ e => e)).keep0 ks).keep0 k57
        have HK7 : Hid (Kp (fun _ => False) w w7) := kws.trans k57 (fun _ _ e => e)
        clear hP7 hF2 HC6 HDs k6 k7 hws hcs HC hPo hPr HPs k57
        go_wp2_with (go_at_call 14; refine HD7.out.mono ?_; rintro e w8 ⟨rfl, k8, hP8⟩)
        have HR : Hid (Kp (fun _ => False) w w8 ∧ Pr w8 b2 x2 n (k + 1) F2 N0 ∧ Pr w8 b x n k F (fun z => wr.heap.size ≤ z) ∧ ∀ z, F2 z → w.heap.size ≤ z ∧ (fun z => wr.heap.size ≤ z) z ∧ ¬ F z) := by
          refine ⟨HK7.out.trans k8 (fun z hz e => by have := HF2.out z e; omega), hP8, HPn.out.keep k8 (fun z e hf => by have h1 := HF2.out z e; have h2 := HFl.out z hf; omega) (fun z e => by have h1 := HF2.out z e; show wr.heap.size ≤ z; omega), fun z e => ?_⟩
          have h1 := HF2.out z e
          exact ⟨by omega, by show wr.heap.size ≤ z; omega, fun hf => by have h2 := HFl.out z hf; omega⟩
        clear k8 hP8 HD7 HPn HK7 c0 c1 c2 c3 c4 c5
        go_roundg (L - (k + 1))
        case rel => exact ⟨k + 1, b2, x2, b, x, k, F2, F, _, by omega, rfl, rfl, rfl, rfl, rfl, by go_num, HR.out.1, HR.out.2.1, HR.out.2.2.1, HR.out.2.2.2⟩
        case measure => omega
      · have h5' : ¬ (M : Int) = 5 := by omega
        have HD7 : Hid (Calls _ _ _ ws _) := HDs.out ws b x F (Kp.refl _ _) (fun z e => (hFF.out z e).1) HPs.out
        rw [hws, hcs] at HD7
        clear h5
        go_wp2_with (go_at_call 14; refine HD7.out.mono ?_; rintro e w8 ⟨rfl, k8, hP8⟩)
        rw [← hcs, ← hws] at k8
        have HR : Hid (Kp (fun _ => False) w w8 ∧ Pr w8 b x n (k + 1) F N0 ∧ Pr w8 b' x' n q' F' Y') := by
          refine ⟨kws.trans k8 (fun z hz e => by have := (hFF.out z e).1; omega), hP8, (hPo.out.keep0 ks).keep k8 (fun z e => (hFF.out z e).2.2) (fun z e => (hFF.out z e).2.1)⟩
        clear k8 hP8 HD7 HDs hws hcs HC hPo hPr HPs f0 f1 f2 f3 f4 f5
        go_roundg (L - (k + 1))
        case rel => exact ⟨k + 1, b, x, b', x', q', F, F', Y', by omega, rfl, rfl, rfl, rfl, rfl, by go_num, HR.out.1, HR.out.2.1, HR.out.2.2, hFF.out⟩
        case measure => omega
    · have HS1 : Hid (Calls _ _ _ wr _) := same_pair hPr.out
      have HS2 : Hid (∀ u, Kp (fun _ => False) wr u → Calls _ _ _ u _) := fun u ku => same_pair (hPo.out.keep0 ku)
      clear hPr hPo HDo HG
      go_wp2_with fail
      refine HS1.out.mono ?_
      rintro e w6 ⟨rfl, k6⟩
      clear HS1
      go_wp2_with (go_at_call 15; refine (HS2.out _ k6).mono ?_; rintro e w7 ⟨rfl, k7⟩)
      go_ret
      exact ⟨rfl, (hK.trans k6 (fun _ _ e => e)).trans k7 (fun _ _ e => e)⟩
theorem platePlays_walk (i : Int) (v : Value) (L : Nat) (w : World) (hD : Dos2 w v L) :
    Calls Try.prog 3 #[.int .i64 i, v] w fun e w' => e = .returned (.bool true) ∧ Kp (fun _ => False) w w' := by
  by_cases h : 1 ≤ i ∧ i ≤ 8192
  · obtain ⟨n, rfl⟩ : ∃ n : Nat, i = (n : Int) := ⟨i.toNat, by omega⟩
    exact platePlays_ok n v L w h.1 h.2 hD
  · exact platePlays_bad i v w h
end Go.Proofs.Ytfaaikblkakiaaa

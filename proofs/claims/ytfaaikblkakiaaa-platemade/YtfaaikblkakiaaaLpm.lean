/- The walk of the law PlateMade: a plate of an image has it, or there is the error; the image stays. -/
import Derived.Test.YtfaaikblkakiaaaDs
import Derived.Test.YtfaaikblkakiaaaPo
import Derived.Test.YtfaaikblkakiaaaFg
import Derived.Test.YtfaaikblkakiaaaTm
namespace Go.Proofs.Ytfaaikblkakiaaa
open Go.RowKit Go.Deep Go.Maps

set_option maxRecDepth 100000 in
set_option maxHeartbeats 800000 in
theorem same_tx (p1 p2 : Option Addr) (n c1 c2 : Nat) (N : Nat → List Nat) (w : World) (h1 : Tx w p1 n N) (h2 : Tx w p2 n N) (hn : (n : Int) ≤ 1000000) :
    Calls Try.prog 48 #[.slice p1 n c1, .slice p2 n c2, .func (.func 31) #[] #[]] w fun e w' => e = .returned (.bool true) ∧ w' = w := by
  have HE1 : Hid (Tx w p1 n N) := h1
  have HE2 : Hid (Tx w p2 n N) := h2
  clear h1 h2
  go_enter Try.func48, Try.ntmps48
  go_wp2
  go_loopg [17] n (fun gk x wr => ∃ k : Nat, k ≤ n ∧ gk = n - k ∧ x = .int .i64 k ∧ wr = w)
  case atStart => exact ⟨0, Nat.zero_le _, rfl, rfl, rfl⟩
  case round =>
    obtain ⟨k, hk, rfl, rfl, rfl⟩ := hrel
    by_cases hlt : (k : Int) < (n : Int)
    · obtain ⟨t1, o1, rfl, q1, d1, x1, b1⟩ := HE1.out k (by omega)
      obtain ⟨t2, o2, rfl, q2, d2, x2, b2⟩ := HE2.out k (by omega)
      have HEq : Hid (Calls _ _ _ wr _) := equal_same q1 q2 _ _ d1 d2 _ wr b1 b2
      generalize (N k).length = lk at *
      clear b1 b2 HE1 HE2
      go_wp2_with (go_at_call 31; refine HEq.out.mono ?_; rintro e w' ⟨rfl, hw⟩; obtain rfl := hw.symm)
      go_roundg (n - (k + 1))
      case rel => exact ⟨k + 1, by omega, rfl, by go_num, rfl⟩
      case measure => omega
    · clear HE1 HE2
      go_wp2
      go_ret
      exact ⟨rfl, rfl⟩
set_option maxRecDepth 100000 in
set_option maxHeartbeats 400000 in
theorem sameTexts_tx (p1 p2 : Option Addr) (n c1 c2 : Nat) (N : Nat → List Nat) (w : World) (h1 : Tx w p1 n N) (h2 : Tx w p2 n N) (hn : (n : Int) ≤ 1000000) :
    Calls Try.prog 19 #[.slice p1 n c1, .slice p2 n c2] w fun e w' => e = .returned (.bool true) ∧ w' = w := by
  have H : Hid (Calls _ _ _ w _) := same_tx p1 p2 n c1 c2 N w h1 h2 hn
  clear h1 h2
  go_enter Try.func19, Try.ntmps19
  go_wp2_with (go_at_call 48; refine H.out.mono ?_; rintro e w' ⟨rfl, hw⟩; obtain rfl := hw.symm)
  go_ret
  exact ⟨rfl, rfl⟩

theorem sectors_pair {w : World} {b x n q : Nat} {F Y : Nat → Prop} (h : Pr w b x n q F Y) :
    Calls Try.prog 20 #[.pointer (some ⟨b, 0, none⟩)] w fun e w' => e = .returned (.int .i64 (n : Int)) ∧ w' = w := by
  obtain ⟨hF, Fb, Fx, hn, hh⟩ := h
  rcases hh with ⟨d, m, tb, tw, td, dur, T, hA, _⟩ | ⟨hD, hR⟩
  · exact sectors_ok hA.P
  · exact sectors_dn hD
theorem Gt.tx {w : World} {base : Nat} {v : Value} {n : Nat} {xs : List Value} {N : Nat → List Nat} (h : Gt w base v n xs N) : ∃ p c, v = .slice p n c ∧ Tx w p n N := by
  have hl := h.own.1
  rcases h.own.2 with ⟨e, e0⟩ | ⟨g, cap, cur, e, hg, hh, h1, h2, h3, h4⟩
  · subst e0
    exact ⟨none, 0, e, fun r hr => absurd hr (Nat.not_lt_zero _)⟩
  · refine ⟨_, cap, e, fun r hr => ⟨g, 0, rfl, ?_⟩⟩
    obtain ⟨p, n', c, ev, rb, hc, hp⟩ := h.txt r hr
    have hn' := rb.len
    subst hn'
    refine ⟨p, c, ?_, rb⟩
    have h5 : (cur.toList.take (n * 1))[r]? = xs[r]? := by rw [h4]
    rw [List.getElem?_take_of_lt (by omega), Array.getElem?_toList, ev] at h5
    rw [Nat.zero_add]
    simp [World.cell?, hh, h5]
theorem Tb.tx {w : World} {v : Value} {ls : List (List Nat)} (h : Tb w v ls) : ∃ p c, v = .slice p ls.length c ∧ Tx w p ls.length (fun r => ls.getD r []) ∧ ∀ r, r < ls.length → (ls.getD r []).length ≤ 140737488355328 := by
  obtain ⟨g, gb, go, cap, A, C, e, _, hg, hc⟩ := h.form
  refine ⟨g, cap, e, fun r hr => ⟨gb, go, hg (by omega), A r, C r, (hc r hr).1, (hc r hr).2.1⟩, fun r hr => (hc r hr).2.2.2⟩

set_option maxRecDepth 100000 in
set_option maxHeartbeats 3200000 in
theorem plateMade_walk0 (p : Option Addr) (n c : Nat) (N : Nat → List Nat) (v : Value) (L : Nat) (w : World) (hT : Tx w p n N) (hn : n * 24 ≤ 140737488355328) (hN : ∀ r, r < n → (N r).length ≤ 140737488355328) (hD : Dos2 w v L) :
    Calls Try.prog 4 #[.slice p n c, v] w fun e w' => e = .returned (.bool true) ∧ Kp (fun _ => False) w w' := by
  have hn1 : (n : Int) ≤ 1000000000000000 := by omega
  have H1 : Hid (Calls _ _ _ w _) := texts_many (w := w) (p := p) (n := n) (c := c) (N := N) (by omega) (fun r hr => by
    obtain ⟨t, o, e, pr, ck, hc, rb⟩ := hT r hr
    exact ⟨t, o, e, pr, _, ck, hc, rb, hN r hr⟩)
  obtain ⟨g, gb, go, cap, rfl, hg, hDo⟩ := hD.form
  have hL := hD.many
  have HT : Hid (Tx w p n N) := hT
  have HDo : Hid _ := hDo
  have HG : Hid _ := hg
  clear hT hN hD hDo hg hn
  go_enter Try.func4, Try.ntmps4
  go_wp2_with fail
  refine H1.out.mono ?_
  rintro e w1 ⟨v1, xs1, rfl, k1, g1⟩
  obtain ⟨p1, c1, rfl, tx1⟩ := g1.tx
  have HT1 : Hid (Tx w1 p1 n N) := tx1
  have H2 : Hid (∀ c, Calls _ _ #[.slice p1 n c] w1 _) := fun c => plateOf_any (c := c) tx1 hn1
  clear H1 g1 tx1
  go_wp2_with fail
  refine (H2.out _).mono ?_
  clear H2
  rintro e w2 ⟨k2, ⟨hng, rfl⟩ | ⟨hgd, b, d, m, dur, rfl, hb, hd, hm, hP, hS⟩⟩
  · have k12 := k1.trans k2 (fun _ _ e => e)
    have H3 : Hid (∀ c, Calls _ _ #[.slice p n c] w2 _) := fun c => refOf_bad (c := c) (HT.out.keep k12) hn1 hng
    clear hng HT HT1 HDo HG
    go_wp2_with (go_at_call 18; refine (H3.out _).mono ?_; rintro e w' ⟨rfl, hw⟩; obtain rfl := hw.symm)
    go_ret
    exact ⟨rfl, k12⟩
  · have k12 := k1.trans k2 (fun _ _ e => e)
    have hn2 : (n : Int) ≤ 8192 := by have := hgd.2.1; omega
    have HN64 : Hid (∀ r, r < n → (N r).length = 64) := hgd.2.2
    have H3 : Hid (∀ c, Calls _ _ #[.slice p n c] w2 _) := fun c => refOf_ok (c := c) (Y := fun z => z = b ∨ z = d ∨ z = m ∨ N0 z) (N := N) (fun z e => by
      rcases e with e | e | e | e
      · rw [e]; exact hP.lt
      · rw [e]; exact hP.row.lt
      · rw [e]; exact hP.mp.lt
      · exact e.elim) (by have := hgd.1; omega) hn2 (fun r hr => by
      obtain ⟨t, o, e, pr, ck, hc, rb⟩ := HT.out.keep k12 r hr
      rw [HN64.out r hr] at hc rb
      exact ⟨t, o, e, pr, ck, hc, rb⟩)
    have HP2 : Hid (Pt w2 b d m n 0 dur (fun _ => none)) := hP
    have HS2 : Hid (∀ r, r < n → secOf dur r = N r) := hS
    have HN1 : Hid (1 ≤ n) := hgd.1
    clear hP hS hgd
    go_wp2_with (go_at_call 18; refine (H3.out _).mono ?_; rintro e w3 ⟨x, tb, tw, td, rfl, k3, hx, htb, htw, htd, hR⟩)
    clear H3
    have hz1 := k1.size
    have hz2 := k2.size
    have hz3 := k3.size
    obtain ⟨F, HF1, HF2⟩ : ∃ F : Nat → Prop, Hid (∀ z, F z → w1.heap.size ≤ z) ∧ Hid (Pr w3 b x n 0 F N0) := by
      have hP3 := HP2.out.keep k3 id id id
      have l1 := HP2.out.lt
      have l2 := HP2.out.row.lt
      have l3 := HP2.out.mp.lt
      have l4 := hR.lt
      refine ⟨fun z => z = b ∨ z = d ∨ z = m ∨ z = x ∨ z = tb ∨ z = tw ∨ z = td, fun z e => by rcases e with e | e | e | e | e | e | e <;> omega, fun z e => by
        rcases e with e | e | e | e | e | e | e
        · rw [e]; omega
        · rw [e]; omega
        · rw [e]; omega
        · rw [e]; exact l4.1
        · rw [e]; exact l4.2.1
        · rw [e]; exact l4.2.2.1
        · rw [e]; exact l4.2.2.2, Or.inl rfl, Or.inr (Or.inr (Or.inr (Or.inl rfl))), ⟨HN1.out, by omega⟩, Or.inl ⟨d, m, tb, tw, td, dur, fun _ => none, ⟨hP3, hR.congr (fun r hr => (HS2.out r hr).symm) (fun r hr => (HS2.out r hr).symm) (fun _ _ => rfl), fun z e => by rcases e with e | e | e <;> omega⟩, Or.inr (Or.inl rfl), Or.inr (Or.inr (Or.inl rfl)), Or.inr (Or.inr (Or.inr (Or.inr (Or.inl rfl)))), Or.inr (Or.inr (Or.inr (Or.inr (Or.inr (Or.inl rfl))))), Or.inr (Or.inr (Or.inr (Or.inr (Or.inr (Or.inr rfl)))))⟩⟩
    have k13 : Kp (fun _ => False) w1 w3 := k2.trans k3 (fun _ _ e => e)
    clear hR HP2 HS2 hb hd hm hx htb htw htd k2 k3 hz2 hz3 HN64 HN1 k12
    go_loopg [48] L (fun gk xi wr => ∃ k : Nat, k ≤ L ∧ gk = L - k ∧ xi = .int .i64 k ∧ Kp (fun _ => False) w1 wr ∧ Hid (Pr wr b x n k F N0))
    case atStart => exact ⟨0, Nat.zero_le _, rfl, rfl, k13, HF2.out⟩
    case round =>
      obtain ⟨k, hk, rfl, rfl, hK, hPr⟩ := hrel
      clear HF2 k13
      by_cases hlt : (k : Int) < (L : Int)
      · have hg' := HG.out (by omega)
        subst hg'
        obtain ⟨op, i, tn, nn, pb, cb, xs, pk, ck, zs, hd1⟩ := HDo.out k (by omega)
        have kwr := k1.trans hK (fun _ _ e => e)
        have f0 := kwr.cellv hd1.c0 id
        have f1 := kwr.cellv hd1.c1 id
        have f2 := kwr.cellv hd1.c2 id
        have f3 := kwr.cellv hd1.c3 id
        have f4 := kwr.cellv hd1.c4 id
        have f5 := kwr.cellv hd1.c5 id
        have HDs : Hid (Calls _ _ _ (wr.alloc (.cells #[.int .i64 op, .int .i64 i, .int .i64 tn, .int .i64 nn, .slice pb xs.length cb, .slice pk zs.length ck] 35)) _) := does_ok (hPr.out.keep0 ((Kp.refl _ _).alloc _)) (by omega) op i tn nn pb cb xs
          (fun w' k' => hd1.rb.keep0 ((kwr.alloc _).trans k' (fun z hz e => by have := HF1.out z e; omega))) hd1.nb pk ck zs (fun w' k' => hd1.rz.keep ((kwr.alloc _).trans k' (S := fun _ => False) (fun z hz e => by have := HF1.out z e; omega)) (fun _ _ => id)) hd1.nz hd1.wz hd1.wt
        obtain ⟨l4, hl4⟩ : ∃ l, l = xs.length := ⟨_, rfl⟩
        obtain ⟨l5, hl5⟩ : ∃ l, l = zs.length := ⟨_, rfl⟩
        rw [← hl4] at f4 HDs
        rw [← hl5] at f5 HDs
        clear hd1 hl4 hl5
        go_wp2_with (go_at_call 14; refine HDs.out.mono ?_; rintro e w5 ⟨rfl, k5, hP5⟩)
        have HK5 : Hid (Kp (fun _ => False) w1 w5) := (hK.alloc _).trans k5 (fun z hz e => by have := HF1.out z e; omega)
        have HP5 : Hid (Pr w5 b x n (k + 1) F N0) := hP5
        clear k5 hP5 HDs f0 f1 f2 f3 f4 f5 hPr
        go_roundg (L - (k + 1))
        case rel => exact ⟨k + 1, by omega, rfl, by go_num, HK5.out, HP5.out⟩
        case measure => omega
      · have HSt : Hid (∀ c c', Calls _ _ #[.slice p1 n c, .slice p n c'] wr _) := fun c c' => sameTexts_tx p1 p n c c' N wr (HT1.out.keep hK) (HT.out.keep (k1.trans hK (fun _ _ e => e))) (by omega)
        have HSe : Hid (Calls _ _ _ wr _) := sectors_pair hPr.out
        have hq : ((n : Int) == (n : Int)) = true := beq_self_eq_true _
        clear hPr HT HT1 HDo HG
        go_wp2_with (first
          | (go_at_call 19; refine (HSt.out _ _).mono ?_; rintro e w' ⟨rfl, hw⟩; obtain rfl := hw.symm)
          | (go_at_call 20; refine HSe.out.mono ?_; rintro e w' ⟨rfl, hw⟩; obtain rfl := hw.symm))
        go_ret
        exact ⟨rfl, k1.trans hK (fun _ _ e => e)⟩
theorem plateMade_walk (v : Value) (ls : List (List Nat)) (u : Value) (L : Nat) (w : World) (hT : Tb w v ls) (hD : Dos2 w u L) :
    Calls Try.prog 4 #[v, u] w fun e w' => e = .returned (.bool true) ∧ Kp (fun _ => False) w w' := by
  obtain ⟨p, c, rfl, ht, hl⟩ := hT.tx
  exact plateMade_walk0 p ls.length c _ u L w ht hT.many hl hD
end Go.Proofs.Ytfaaikblkakiaaa

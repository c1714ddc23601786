/- A plate of an image: the program's and the reference's. -/
import Derived.Test.YtfaaikblkakiaaaPj
namespace Go.Proofs.Ytfaaikblkakiaaa
open Go.RowKit Go.Deep Go.Maps

/-- texts at p, of whatever length -/
def Tx (w : World) (p : Option Addr) (n : Nat) (N : Nat → List Nat) : Prop := ∀ r, r < n → ∃ t o, p = some ⟨t, o, none⟩ ∧ ∃ pr ck, w.cell? ⟨t, o + r, none⟩ = some (.slice pr (N r).length ck) ∧ Rb w pr (N r).length (N r)
theorem Tx.keep {w w' : World} {p : Option Addr} {n : Nat} {N : Nat → List Nat} (h : Tx w p n N) (k : Kp (fun _ => False) w w') : Tx w' p n N := fun r hr => by
  obtain ⟨t, o, e, pr, ck, c, rb⟩ := h r hr
  exact ⟨t, o, e, pr, ck, k.cellv c id, rb.keep0 k⟩
def good (n : Nat) (N : Nat → List Nat) : Prop := 1 ≤ n ∧ n ≤ 8192 ∧ ∀ r, r < n → (N r).length = 64

set_option maxRecDepth 100000 in
set_option maxHeartbeats 400000 in
theorem isCount_bad (i : Int) (w : World) (h : ¬ (1 ≤ i ∧ i ≤ 8192)) : Calls Try.prog 33 #[.int .i64 i] w fun e w' => e = .returned (.bool false) ∧ w' = w := by
  by_cases h1 : 1 ≤ i
  · have d2 : ¬ i ≤ 8192 := fun e => h ⟨h1, e⟩
    clear h
    go_enter Try.func33, Try.ntmps33
    go_wp2
    go_ret
    exact ⟨rfl, rfl⟩
  · clear h
    go_enter Try.func33, Try.ntmps33
    go_wp2
    go_ret
    exact ⟨rfl, rfl⟩

theorem secOf_set {dur : List Nat} {n k j : Nat} {xs : List Nat} (hl : dur.length = n * 64) (hk : k < n) (hj : j < n) (hx : xs.length = 64) : secOf (setSec dur k 64 xs) j = if j = k then xs else secOf dur j := by
  have hl' : (setSec dur k 64 xs).length = n * 64 := (setSec_len _ _ _ _).trans hl
  refine ext_getD ?_ (fun t ht => ?_)
  · rw [secOf_len hl' hj]
    split
    · exact hx.symm
    · exact (secOf_len hl hj).symm
  · rw [secOf_len hl' hj] at ht
    rw [secOf_get _ _ ht, setSec_get (by omega)]
    by_cases e : j = k
    · subst e
      rw [if_pos (by omega), if_pos rfl, show j * 64 + t - j * 64 = t by omega]
    · rw [if_neg (by omega), if_neg e, secOf_get _ _ ht]

set_option maxRecDepth 100000 in
set_option maxHeartbeats 1600000 in
theorem plateOf_any {w : World} {p : Option Addr} {n c : Nat} {N : Nat → List Nat} (hr : Tx w p n N) (hn : (n : Int) ≤ 1000000000000000) :
    Calls Try.prog 17 #[.slice p n c] w fun e w' => Kp (fun _ => False) w w' ∧ ((¬ good n N ∧ e = .returned (.tuple #[.pointer none, .int .i64 1])) ∨ (good n N ∧ ∃ b d m dur, e = .returned (.tuple #[.pointer (some ⟨b, 0, none⟩), .int .i64 0]) ∧ w.heap.size ≤ b ∧ w.heap.size ≤ d ∧ w.heap.size ≤ m ∧ Pt w' b d m n 0 dur (fun _ => none) ∧ ∀ r, r < n → secOf dur r = N r)) := by
  by_cases hg : 1 ≤ (n : Int) ∧ (n : Int) ≤ 8192
  · have H1 : Hid (Calls _ _ _ w _) := isCount_ok n w hg.1 hg.2
    have H2 : Hid (Calls _ _ _ w _) := blank_ok n w hg.1 hg.2
    obtain ⟨hg1, hg2⟩ := hg
    have HR : Hid (Tx w p n N) := hr
    clear hr
    go_enter Try.func17, Try.ntmps17
    go_wp2_with (first
      | (go_at_call 33; refine H1.out.mono ?_; rintro e w' ⟨rfl, hw⟩; obtain rfl := hw.symm)
      | (go_at_call 34; refine H2.out.mono ?_; rintro e w1 ⟨b, d, m, rfl, k1, hb, hd, hm, hP1⟩))
    clear H1 H2
    have hz1 := k1.size
    go_loopg [16] n (fun gk xi wr => ∃ (k : Nat) (dur : List Nat), k ≤ n ∧ gk = n - k ∧ xi = .int .i64 k ∧ Kp (fun _ => False) w wr ∧ Hid (Pt wr b d m n 0 dur (fun _ => none)) ∧ Hid (∀ r, r < k → (N r).length = 64 ∧ secOf dur r = N r))
    case atStart => exact ⟨0, _, Nat.zero_le _, rfl, rfl, k1, hP1, fun r hr => absurd hr (Nat.not_lt_zero _)⟩
    case round =>
      obtain ⟨k, dur, hk, rfl, rfl, hK, hP, hS⟩ := hrel
      clear hP1
      by_cases hlt : (k : Int) < (n : Int)
      · obtain ⟨t, o, rfl, pr, ck, hc, hRb⟩ := HR.out k (by omega)
        have c1 := hK.cellv hc id
        have HRb : Hid (Rb wr pr (N k).length (N k)) := hRb.keep0 hK
        clear hc hRb
        by_cases hl : (N k).length = 64
        · rw [hl] at c1 HRb
          have HL : Hid ((N k).length = 64) := hl
          have HSc : Hid (Calls _ _ _ wr _) := sector_ok hP.out k hlt
          obtain ⟨br, ob, rfl, _⟩ := HRb.out.pt (by omega)
          clear hl
          go_wp2_with (first
            | (go_at_call 47; refine HSc.out.mono ?_; rintro e w' ⟨rfl, hw⟩; obtain rfl := hw.symm)
            | (refine wpList_copy_dr rfl _ _ rfl d k n 64 br ob ck 64 (Nat.le_refl _) rfl rfl _ hP.out.row (by omega) _ HRb.out ?_; intro w3 k3 hz3 r3))
          have HR3 : Hid (Kp (fun _ => False) w w3 ∧ Pt w3 b d m n 0 (setSec dur k 64 (N k)) (fun _ => none)) := by
            refine ⟨hK.trans k3 (fun z hz e => by omega), hP.out.newdur k3 (r3.congr (fun j hj => ?_)) ?_ ?_⟩
            · rw [setSec_get (by rw [hP.out.len]; exact hj)]
            · rw [setSec_len]; exact hP.out.len
            · exact setSec_byte hP.out.byte HRb.out.byte
          have HS3 : Hid (∀ r, r < k + 1 → (N r).length = 64 ∧ secOf (setSec dur k 64 (N k)) r = N r) := fun r hr => by
            rw [secOf_set hP.out.len (by omega) (by omega) HL.out]
            by_cases e : r = k
            · subst e; rw [if_pos rfl]; exact ⟨HL.out, rfl⟩
            · rw [if_neg e]; exact hS.out r (by omega)
          clear r3 k3 hP hS HSc HRb c1
          go_roundg (n - (k + 1))
          case rel => exact ⟨k + 1, _, by omega, rfl, by go_num, HR3.out.1, HR3.out.2, HS3.out⟩
          case measure => omega
        · have HG : Hid (¬ good n N) := fun h => hl (h.2.2 k (by omega))
          have hl2 : ¬ ((N k).length : Int) = 64 := by omega
          generalize (N k).length = lk at *
          clear hP hS HRb HR
          go_wp2
          go_ret2
          exact ⟨hK, Or.inl ⟨HG.out, rfl⟩⟩
      · have e : n = k := by omega
        subst e
        have HG : Hid (good n N) := ⟨by omega, by omega, fun r hr => (hS.out r hr).1⟩
        clear HR
        go_wp2
        go_ret2
        exact ⟨hK, Or.inr ⟨HG.out, b, rfl, hb, d, hd, m, hm, dur, hP.out, fun r hr => (hS.out r hr).2⟩⟩
  · have H1 : Hid (Calls _ _ _ w _) := isCount_bad (n : Int) w hg
    have HG : Hid (¬ good n N) := fun h => hg ⟨by have := h.1; omega, by have := h.2.1; omega⟩
    clear hg hr
    go_enter Try.func17, Try.ntmps17
    go_wp2_with (go_at_call 33; refine H1.out.mono ?_; rintro e w' ⟨rfl, hw⟩; obtain rfl := hw.symm)
    go_ret2
    exact ⟨Kp.refl _ _, Or.inl ⟨HG.out, rfl⟩⟩

set_option maxRecDepth 100000 in
set_option maxHeartbeats 800000 in
theorem refOf_bad {w : World} {p : Option Addr} {n c : Nat} {N : Nat → List Nat} (hr : Tx w p n N) (hn : (n : Int) ≤ 1000000000000000) (hb : ¬ good n N) :
    Calls Try.prog 18 #[.slice p n c] w fun e w' => e = .returned (.tuple #[.pointer none, .int .i64 1]) ∧ w' = w := by
  have HR : Hid (Tx w p n N) := hr
  have HB : Hid (¬ good n N) := hb
  clear hr hb
  by_cases h1 : (n : Int) < 1
  · go_enter Try.func18, Try.ntmps18
    go_wp2
    go_ret2
    exact ⟨rfl, rfl⟩
  · by_cases h2 : 8192 < (n : Int)
    · go_enter Try.func18, Try.ntmps18
      go_wp2
      go_ret2
      exact ⟨rfl, rfl⟩
    · have h1' : 1 ≤ (n : Int) := by omega
      have h2' : (n : Int) ≤ 8192 := by omega
      clear h1 h2
      go_enter Try.func18, Try.ntmps18
      go_wp2
      go_loopg [16] n (fun gk i wr => ∃ k : Nat, k ≤ n ∧ gk = n - k ∧ i = .int .i64 k ∧ wr = w ∧ Hid (∀ r, r < k → (N r).length = 64))
      case atStart => exact ⟨0, Nat.zero_le _, rfl, rfl, rfl, fun r hr => absurd hr (Nat.not_lt_zero _)⟩
      case round =>
        obtain ⟨k, hk, rfl, rfl, rfl, hS⟩ := hrel
        by_cases hlt : (k : Int) < (n : Int)
        · obtain ⟨t, o, rfl, pr, ck, hc, hRb⟩ := HR.out k (by omega)
          clear hRb
          by_cases hl : (N k).length = 64
          · have HS3 : Hid (∀ r, r < k + 1 → (N r).length = 64) := fun r hr => by
              by_cases e : r = k
              · subst e; exact hl
              · exact hS.out r (by omega)
            rw [hl] at hc
            clear hl hS
            go_wp2
            go_roundg (n - (k + 1))
            case rel => exact ⟨k + 1, by omega, rfl, by go_num, rfl, HS3.out⟩
            case measure => omega
          · have hl2 : ¬ ((N k).length : Int) = 64 := by omega
            generalize (N k).length = lk at *
            clear hS HR HB
            go_wp2
            go_ret2
            exact ⟨rfl, rfl⟩
        · exact absurd (show good n N from ⟨by omega, by omega, fun r hr => hS.out r (by omega)⟩) HB.out
end Go.Proofs.Ytfaaikblkakiaaa

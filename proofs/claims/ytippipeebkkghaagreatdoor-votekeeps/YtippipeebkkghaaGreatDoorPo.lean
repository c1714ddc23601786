/- A plate of an image: the program's and the reference's. -/
import Derived.Test.YtippipeebkkghaaGreatDoorPj
namespace Go.Proofs.YtippipeebkkghaaGreatDoor
open Go.RowKit Go.Deep Go.Maps

/-- texts at p, of whatever length -/
def Tx (w : World) (p : Option Addr) (n : Nat) (N : Nat → List Nat) : Prop := ∀ r, r < n → ∃ t o, p = some ⟨t, o, none⟩ ∧ ∃ pr ck, w.cell? ⟨t, o + r, none⟩ = some (.slice pr (N r).length ck) ∧ Rb w pr (N r).length (N r)
theorem Tx.keep {w w' : World} {p : Option Addr} {n : Nat} {N : Nat → List Nat} (h : Tx w p n N) (k : Kp (fun _ => False) w w') : Tx w' p n N := fun r hr => by
  obtain ⟨t, o, e, pr, ck, c, rb⟩ := h r hr
  exact ⟨t, o, e, pr, ck, k.cellv c id, rb.keep0 k⟩
def good (n : Nat) (N : Nat → List Nat) : Prop := 1 ≤ n ∧ n ≤ 8192 ∧ ∀ r, r < n → (N r).length = 64

set_option maxRecDepth 100000 in
set_option maxHeartbeats 400000 in
theorem isCount_bad (i : Int) (w : World) (h : ¬ (1 ≤ i ∧ i ≤ 8192)) : Calls Tryz.prog 38 #[.int .i64 i] w fun e w' => e = .returned (.bool false) ∧ w' = w := by
  by_cases h1 : 1 ≤ i
  · have d2 : ¬ i ≤ 8192 := fun e => h ⟨h1, e⟩
    clear h
    go_enter Tryz.func38, Tryz.ntmps38
    go_wp2
    go_ret
    exact ⟨rfl, rfl⟩
  · clear h
    go_enter Tryz.func38, Tryz.ntmps38
    go_wp2
    go_ret
    exact ⟨rfl, rfl⟩

theorem secOf_set {dur : List Nat} {n k j : Nat} {xs : List Nat} (hl : dur.length = n * 64) (hk : k < n) (hj : j < n) (hx : xs.length = 64) : secOf (setSec dur k 64 xs) j = if j = k then xs else secOf dur j := by
  have hl' : (setSec dur k 64 xs).length = n * 64 := (setSec_len _ _ _ _).trans hl
  refine ext_getD ?_ (fun t ht => ?_)
  · rw [secOf_len hl' hj]
    split
    · exact hx.symm
    · exact (secOf_len hl hj).symm
  · rw [secOf_len hl' hj] at ht
    rw [secOf_get _ _ ht, setSec_get (by omega)]
    by_cases e : j = k
    · subst e
      rw [if_pos (by omega), if_pos rfl, show j * 64 + t - j * 64 = t by omega]
    · rw [if_neg (by omega), if_neg e, secOf_get _ _ ht]

set_option maxRecDepth 100000 in
set_option maxHeartbeats 800000 in
theorem refOf_bad {w : World} {p : Option Addr} {n c : Nat} {N : Nat → List Nat} (hr : Tx w p n N) (hn : (n : Int) ≤ 1000000000000000) (hb : ¬ good n N) :
    Calls Tryz.prog 40 #[.slice p n c] w fun e w' => e = .returned (.tuple #[.pointer none, .int .i64 1]) ∧ w' = w := by
  have HR : Hid (Tx w p n N) := hr
  have HB : Hid (¬ good n N) := hb
  clear hr hb
  by_cases h1 : (n : Int) < 1
  · go_enter Tryz.func40, Tryz.ntmps40
    go_wp2
    go_ret2
    exact ⟨rfl, rfl⟩
  · by_cases h2 : 8192 < (n : Int)
    · go_enter Tryz.func40, Tryz.ntmps40
      go_wp2
      go_ret2
      exact ⟨rfl, rfl⟩
    · have h1' : 1 ≤ (n : Int) := by omega
      have h2' : (n : Int) ≤ 8192 := by omega
      clear h1 h2
      go_enter Tryz.func40, Tryz.ntmps40
      go_wp2
      go_loopg [16] n (fun gk i wr => ∃ k : Nat, k ≤ n ∧ gk = n - k ∧ i = .int .i64 k ∧ wr = w ∧ Hid (∀ r, r < k → (N r).length = 64))
      case atStart => exact ⟨0, Nat.zero_le _, rfl, rfl, rfl, fun r hr => absurd hr (Nat.not_lt_zero _)⟩
      case round =>
        obtain ⟨k, hk, rfl, rfl, rfl, hS⟩ := hrel
        by_cases hlt : (k : Int) < (n : Int)
        · obtain ⟨t, o, rfl, pr, ck, hc, hRb⟩ := HR.out k (by omega)
          clear hRb
          by_cases hl : (N k).length = 64
          · have HS3 : Hid (∀ r, r < k + 1 → (N r).length = 64) := fun r hr => by
              by_cases e : r = k
              · subst e; exact hl
              · exact hS.out r (by omega)
            rw [hl] at hc
            clear hl hS
            go_wp2
            go_roundg (n - (k + 1))
            case rel => exact ⟨k + 1, by omega, rfl, by go_num, rfl, HS3.out⟩
            case measure => omega
          · have hl2 : ¬ ((N k).length : Int) = 64 := by omega
            generalize (N k).length = lk at *
            clear hS HR HB
            go_wp2
            go_ret2
            exact ⟨rfl, rfl⟩
        · exact absurd (show good n N from ⟨by omega, by omega, fun r hr => hS.out r (by omega)⟩) HB.out
end Go.Proofs.YtippipeebkkghaaGreatDoor

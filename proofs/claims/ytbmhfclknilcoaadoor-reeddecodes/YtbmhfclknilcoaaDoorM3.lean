/- The walks of bytes.Equal, slices.EqualFunc and the verifier's SameTexts, where both texts are the same. -/
import Derived.Test.YtbmhfclknilcoaaDoorM2
import Derived.Laws.BytesArg
import Derived.Laws.BytesString
namespace Go.Proofs.YtbmhfclknilcoaaDoor
open Go.RowKit Go.Deep

/-- the bytes of a row, as whole numbers -/
def ints (f : Nat → Nat) (n : Nat) : List Int := (List.range n).map fun j => ((f j : Nat) : Int)
theorem ints_length (f : Nat → Nat) (n : Nat) : (ints f n).length = n := by simp [ints]
theorem ints_at (f : Nat → Nat) {n j : Nat} (h : j < n) : (ints f n).getD j 0 = ((f j : Nat) : Int) := by
  unfold ints
  rw [List.getD_eq_getElem?_getD, List.getElem?_map, List.getElem?_range h]; rfl

theorem convert_row (src : Option Addr) (br ob n c : Nat) (f : Nat → Nat) (w : World) (hsrc : ∀ k, k < n → src = some ⟨br, ob, none⟩)
    (hr : ∀ k, k < n → w.cell? ⟨br, ob + k, none⟩ = some (.int .u8 ((f k : Nat) : Int))) :
    (convert 30 9 (.slice src n c)).run Tryd.prog w = .ok (.string (strOfNums (ints f n))) w := by
  rcases Nat.eq_zero_or_pos n with hn | hn
  · subst hn
    rw [run_convert_bytes_string w 30 9 5 _ 0 c Tryd.underlying30 Tryd.underlying5 Tryd.underlying9]
    cases src <;> simp [Conv.bytesToString, loadCells]
    all_goals rfl
  · obtain rfl := hsrc 0 hn
    exact run_convert_bytes_arg (P := Tryd.prog) w 30 5 Tryd.underlying30 Tryd.underlying5 br ob n c (ints f n) (ints_length f n) (fun i hi => by rw [ints_at f hi]; exact hr i hi) 9 Tryd.underlying9

set_option maxRecDepth 100000 in
set_option maxHeartbeats 800000 in
theorem bytesEqual_run (v1 v2 : Value) (b : ByteArray) (w : World) (h1 : (convert 30 9 v1).run Tryd.prog w = .ok (.string b) w) (h2 : (convert 30 9 v2).run Tryd.prog w = .ok (.string b) w) :
    Calls Tryd.prog 12 #[v1, v2] w fun e w' => e = .returned (.bool true) ∧ w' = w := by
  go_enter Tryd.func12, Tryd.ntmps12
  go_wp2
  go_ret
  exact ⟨rfl, rfl⟩

theorem bytesEqual_same (p1 p2 : Option Addr) (b1 o1 b2 o2 n c1 c2 : Nat) (f g : Nat → Nat) (w : World) (hp1 : ∀ k, k < n → p1 = some ⟨b1, o1, none⟩) (hp2 : ∀ k, k < n → p2 = some ⟨b2, o2, none⟩)
    (h1 : ∀ k, k < n → w.cell? ⟨b1, o1 + k, none⟩ = some (.int .u8 ((f k : Nat) : Int))) (h2 : ∀ k, k < n → w.cell? ⟨b2, o2 + k, none⟩ = some (.int .u8 ((g k : Nat) : Int))) (he : ∀ k, k < n → f k = g k) :
    Calls Tryd.prog 12 #[.slice p1 n c1, .slice p2 n c2] w fun e w' => e = .returned (.bool true) ∧ w' = w :=
  bytesEqual_run _ _ _ w (convert_row p1 b1 o1 n c1 f w hp1 h1) (convert_row p2 b2 o2 n c2 f w hp2 (fun k hk => by rw [he k hk]; exact h2 k hk))

set_option maxRecDepth 100000 in
set_option maxHeartbeats 800000 in
theorem equalFunc_same (s t : Sh) (w : World) (hs : Rd w s) (ht : Rd w t) (hG : t.G = s.G) (hL : ∀ r, r < s.G → t.L r = s.L r) (hM : ∀ r, r < s.G → ∀ c, c < s.L r → s.M r c = t.M r c) (hb : (s.G : Int) ≤ 1000000000000000) :
    Calls Tryd.prog 29 #[.slice s.g s.G s.cap, .slice t.g s.G t.cap, .func (.func 12) #[] #[]] w fun e w' => e = .returned (.bool true) ∧ w' = w := by
  by_cases h0 : 0 < s.G
  · rw [hs.at0 h0, ht.at0 (by omega)]
    go_enter Tryd.func29, Tryd.ntmps29
    go_wp2
    go_loopg [17] s.G (fun gk i wr => ∃ k : Nat, k ≤ s.G ∧ gk = s.G - k ∧ i = .int .i64 k ∧ wr = w)
    case atStart => exact ⟨0, Nat.zero_le _, rfl, rfl, rfl⟩
    case round =>
      obtain ⟨k, hk, rfl, rfl, rfl⟩ := hrel
      by_cases hlt : (k : Int) < (s.G : Int)
      · have c1 := hs.hd k (by omega)
        have c2 := ht.hd k (by omega)
        rw [hL k (by omega)] at c2
        have HB : Hid (∀ c1 c2, Calls Tryd.prog 12 #[.slice (s.A k) (s.L k) c1, .slice (t.A k) (s.L k) c2] wr fun e w' => e = .returned (.bool true) ∧ w' = wr) := fun c1 c2 =>
          bytesEqual_same (s.A k) (t.A k) (s.RB k) (s.RO k) (t.RB k) (t.RO k) (s.L k) c1 c2 (s.M k) (t.M k) wr (hs.to k (by omega)) (fun j hj => ht.to k (by omega) j (by rw [hL k (by omega)]; exact hj)) (hs.cell k (by omega)) (fun j hj => ht.cell k (by omega) j (by rw [hL k (by omega)]; exact hj)) (hM k (by omega))
        clear hs ht hL hM hG
        go_wp2_with (go_at_call 12; refine (HB.out _ _).mono ?_; rintro e w' ⟨rfl, rfl⟩)
        go_roundg (s.G - (k + 1))
        case rel => exact ⟨k + 1, by omega, rfl, by go_num, rfl⟩
        case measure => omega
      · go_wp2
        go_ret
        exact ⟨rfl, rfl⟩
  · go_enter Tryd.func29, Tryd.ntmps29
    go_wp2
    go_loopg [17] 0 (fun gk i wr => gk = 0 ∧ i = .int .i64 0 ∧ wr = w)
    case atStart => exact ⟨rfl, rfl, rfl⟩
    case round =>
      obtain ⟨rfl, rfl, rfl⟩ := hrel
      have hz : ¬ (0 : Int) < (s.G : Int) := by omega
      go_wp2
      go_ret
      exact ⟨rfl, rfl⟩

set_option maxRecDepth 100000 in
set_option maxHeartbeats 800000 in
theorem sameTexts_same (s t : Sh) (w : World) (hs : Rd w s) (ht : Rd w t) (hG : t.G = s.G) (hL : ∀ r, r < s.G → t.L r = s.L r) (hM : ∀ r, r < s.G → ∀ c, c < s.L r → s.M r c = t.M r c) (hb : (s.G : Int) ≤ 1000000000000000) :
    Calls Tryd.prog 11 #[.slice s.g s.G s.cap, .slice t.g s.G t.cap] w fun e w' => e = .returned (.bool true) ∧ w' = w := by
  have HE : Hid (Calls _ _ _ w _) := equalFunc_same s t w hs ht hG hL hM hb
  clear hs ht hG hL hM
  go_enter Tryd.func11, Tryd.ntmps11
  go_wp2_with (go_at_call 29; refine HE.out.mono ?_; rintro e w' ⟨rfl, rfl⟩)
  go_ret
  exact ⟨rfl, rfl⟩
end Go.Proofs.YtbmhfclknilcoaaDoor

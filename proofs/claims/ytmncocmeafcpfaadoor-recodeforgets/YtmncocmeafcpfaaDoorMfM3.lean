/- The walks of bytes.Equal, slices.EqualFunc and the verifier's SameTexts, where both texts are the same. -/
import Derived.Test.YtmncocmeafcpfaaDoorMfM2
import Derived.Laws.BytesArg
import Derived.Laws.BytesString
namespace Go.Proofs.YtmncocmeafcpfaaDoor.Mf
open Go.RowKit Go.Deep

/-- the bytes of a row, as whole numbers -/
def ints (f : Nat → Nat) (n : Nat) : List Int := (List.range n).map fun j => ((f j : Nat) : Int)
theorem ints_length (f : Nat → Nat) (n : Nat) : (ints f n).length = n := by simp [ints]
theorem ints_at (f : Nat → Nat) {n j : Nat} (h : j < n) : (ints f n).getD j 0 = ((f j : Nat) : Int) := by
  unfold ints
  rw [List.getD_eq_getElem?_getD, List.getElem?_map, List.getElem?_range h]; rfl

theorem convert_row (src : Option Addr) (br ob n c : Nat) (f : Nat → Nat) (w : World) (hsrc : ∀ k, k < n → src = some ⟨br, ob, none⟩)
    (hr : ∀ k, k < n → w.cell? ⟨br, ob + k, none⟩ = some (.int .u8 ((f k : Nat) : Int))) :
    (convert 22 9 (.slice src n c)).run Tryd.prog w = .ok (.string (strOfNums (ints f n))) w := by
  rcases Nat.eq_zero_or_pos n with hn | hn
  · subst hn
    rw [run_convert_bytes_string w 22 9 5 _ 0 c Tryd.underlying22 Tryd.underlying5 Tryd.underlying9]
    cases src <;> simp [Conv.bytesToString, loadCells]
    all_goals rfl
  · obtain rfl := hsrc 0 hn
    exact run_convert_bytes_arg (P := Tryd.prog) w 22 5 Tryd.underlying22 Tryd.underlying5 br ob n c (ints f n) (ints_length f n) (fun i hi => by rw [ints_at f hi]; exact hr i hi) 9 Tryd.underlying9

set_option maxRecDepth 100000 in
set_option maxHeartbeats 800000 in
theorem bytesEqual_run (v1 v2 : Value) (b : ByteArray) (w : World) (h1 : (convert 22 9 v1).run Tryd.prog w = .ok (.string b) w) (h2 : (convert 22 9 v2).run Tryd.prog w = .ok (.string b) w) :
    Calls Tryd.prog 18 #[v1, v2] w fun e w' => e = .returned (.bool true) ∧ w' = w := by
  go_enter Tryd.func18, Tryd.ntmps18
  go_wp2
  go_ret
  exact ⟨rfl, rfl⟩

theorem bytesEqual_same (p1 p2 : Option Addr) (b1 o1 b2 o2 n c1 c2 : Nat) (f g : Nat → Nat) (w : World) (hp1 : ∀ k, k < n → p1 = some ⟨b1, o1, none⟩) (hp2 : ∀ k, k < n → p2 = some ⟨b2, o2, none⟩)
    (h1 : ∀ k, k < n → w.cell? ⟨b1, o1 + k, none⟩ = some (.int .u8 ((f k : Nat) : Int))) (h2 : ∀ k, k < n → w.cell? ⟨b2, o2 + k, none⟩ = some (.int .u8 ((g k : Nat) : Int))) (he : ∀ k, k < n → f k = g k) :
    Calls Tryd.prog 18 #[.slice p1 n c1, .slice p2 n c2] w fun e w' => e = .returned (.bool true) ∧ w' = w :=
  bytesEqual_run _ _ _ w (convert_row p1 b1 o1 n c1 f w hp1 h1) (convert_row p2 b2 o2 n c2 f w hp2 (fun k hk => by rw [he k hk]; exact h2 k hk))

end Go.Proofs.YtmncocmeafcpfaaDoor.Mf

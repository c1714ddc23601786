/- The walks of matrix.copyRow, onesAbove, Identity and isMatrix. -/
import Derived.Test.YtnccnicgmjcdpaaDoorM1
import Derived.Test.YtnccnicgmjcdpaaDoorXs
import Derived.Laws.CopyOwn
import Derived.OwnWalk
namespace Go.Proofs.YtnccnicgmjcdpaaDoor
open Go.RowKit Go.Deep

theorem size5 : (Tryd.prog.info? 5).map (·.size) = some 1 := by kernel_rfl
theorem size42 : (Tryd.prog.info? 24).map (·.size) = some 1 := by kernel_rfl

theorem addr_add (b o j : Nat) : (⟨b, o, none⟩ : Addr).add j = ⟨b, o + j, none⟩ := by simp [Addr.add]

/-- the values of a row's first n bytes -/
def vals (f : Nat → Nat) (n : Nat) : List Value := (List.range n).map (By f)
theorem vals_length (f : Nat → Nat) (n : Nat) : (vals f n).length = n := by simp [vals]
theorem vals_get {f : Nat → Nat} {n j : Nat} {v : Value} (h : (vals f n)[j]? = some v) : j < n ∧ v = .int .u8 ((f j : Nat) : Int) := by
  unfold vals at h
  rw [List.getElem?_map] at h
  by_cases hj : j < n
  · rw [List.getElem?_range hj] at h
    exact ⟨hj, by simpa [By] using h.symm⟩
  · rw [List.getElem?_eq_none (by simpa using hj)] at h
    simp at h
theorem vals_at (f : Nat → Nat) {n j : Nat} (h : j < n) : (vals f n)[j]? = some (.int .u8 ((f j : Nat) : Int)) := by
  unfold vals
  rw [List.getElem?_map, List.getElem?_range h]; rfl
theorem vals_one (f : Nat → Nat) (n : Nat) : ∀ v ∈ vals f n, v.oneCell' = true := by
  intro v hv
  obtain ⟨j, hj⟩ := List.getElem?_of_mem hv
  obtain ⟨_, rfl⟩ := vals_get hj
  rfl

set_option maxRecDepth 100000 in
set_option maxHeartbeats 800000 in
theorem onesAbove_any (R C : Nat) (w : World) (hR : (R : Int) ≤ 1000) (hC : (C : Int) ≤ (R : Int)) :
    Calls Tryd.prog 29 #[.int .i64 R, .int .i64 C] w fun e w' =>
      e = .returned (.slice (some ⟨w.heap.size, 0, none⟩) R R) ∧ Kp (fun _ => False) w w' ∧ w'.heap.size = w.heap.size + 1 + R ∧ Mat w' w.heap.size (fun i => w.heap.size + 1 + i) R C (ones C) := by
  go_enter Tryd.func29, Tryd.ntmps29
  go_wp2_with fail
  refine (noughts_any R C w hR (by omega)).mono ?_
  rintro e w1 ⟨rfl, hK1, hz1, hM1⟩
  go_wp2
  go_loopg [11] C (fun gk i wr => ∃ k : Nat, k ≤ C ∧ gk = C - k ∧ i = .int .i64 k ∧ Kp (fun _ => False) w wr ∧ wr.heap.size = w.heap.size + 1 + R ∧ Mat wr w.heap.size (fun i => w.heap.size + 1 + i) R C (ones k))
  case atStart => exact ⟨0, Nat.zero_le _, rfl, rfl, hK1, hz1, by rw [ones_zero]; exact hM1⟩
  case round =>
    obtain ⟨k, hk, rfl, rfl, hK, hz, hM⟩ := hrel
    clear hK1 hz1 hM1
    by_cases hlt : (k : Int) < (C : Int)
    · have e1 := hM.top.cell (i := k) (by omega)
      have e2 := (hM.row k (by omega)).cell (i := k) (by omega)
      have e3 := (hM.row k (by omega)).frozen k
      simp only [By] at e1 e2
      go_wp2
      go_roundg (C - (k + 1))
      case rel => exact ⟨k + 1, by omega, rfl, by go_num, hK.setCell (fun h => absurd h (by show ¬ w.heap.size + 1 + k < w.heap.size; omega)) _, by simpa using hz,
        ⟨hM.top.setOther (by show w.heap.size ≠ w.heap.size + 1 + k; omega) _, fun i hi => by
          by_cases e : i = k
          · subst e
            exact ((hM.row i hi).set i _).congr (fun j _ => by
              simp only [By]
              rw [ones_succ_here]
              split <;> rfl)
          · exact ((hM.row i hi).setOther (by show w.heap.size + 1 + i ≠ w.heap.size + 1 + k; omega) _).congr (fun j _ => by simp only [By]; rw [ones_succ_other k i j e]), hM.inj, hM.ne, ones_lt _⟩⟩
      case measure => omega
    · have e : k = C := by omega
      subst e
      go_wp2
      go_ret
      exact ⟨rfl, hK, hz, hM⟩

/-- whether texts are a matrix -/
def isM (s : Sh) : Bool := decide (1 ≤ s.G ∧ s.G ≤ 255 ∧ 1 ≤ s.L 0 ∧ s.L 0 ≤ 255 ∧ ∀ r, r < s.G → s.L r = s.L 0)

theorem isM_true {s : Sh} (h : isM s = true) : 1 ≤ s.G ∧ s.G ≤ 255 ∧ 1 ≤ s.L 0 ∧ s.L 0 ≤ 255 ∧ ∀ r, r < s.G → s.L r = s.L 0 := of_decide_eq_true h

end Go.Proofs.YtnccnicgmjcdpaaDoor

/- The walks of matrix.copyRow, onesAbove, Identity and isMatrix. -/
import Derived.Test.YtmncocmeafcpfaaDoorMfM1
import Derived.Test.YtmncocmeafcpfaaDoorMfXs
import Derived.Laws.CopyOwn
import Derived.OwnWalk
namespace Go.Proofs.YtmncocmeafcpfaaDoor.Mf
open Go.RowKit Go.Deep

theorem size5 : (Tryd.prog.info? 5).map (·.size) = some 1 := by kernel_rfl
theorem size42 : (Tryd.prog.info? 22).map (·.size) = some 1 := by kernel_rfl

theorem addr_add (b o j : Nat) : (⟨b, o, none⟩ : Addr).add j = ⟨b, o + j, none⟩ := by simp [Addr.add]

/-- the values of a row's first n bytes -/
def vals (f : Nat → Nat) (n : Nat) : List Value := (List.range n).map (By f)
theorem vals_length (f : Nat → Nat) (n : Nat) : (vals f n).length = n := by simp [vals]
theorem vals_get {f : Nat → Nat} {n j : Nat} {v : Value} (h : (vals f n)[j]? = some v) : j < n ∧ v = .int .u8 ((f j : Nat) : Int) := by
  unfold vals at h
  rw [List.getElem?_map] at h
  by_cases hj : j < n
  · rw [List.getElem?_range hj] at h
    exact ⟨hj, by simpa [By] using h.symm⟩
  · rw [List.getElem?_eq_none (by simpa using hj)] at h
    simp at h
theorem vals_at (f : Nat → Nat) {n j : Nat} (h : j < n) : (vals f n)[j]? = some (.int .u8 ((f j : Nat) : Int)) := by
  unfold vals
  rw [List.getElem?_map, List.getElem?_range h]; rfl
theorem vals_one (f : Nat → Nat) (n : Nat) : ∀ v ∈ vals f n, v.oneCell' = true := by
  intro v hv
  obtain ⟨j, hj⟩ := List.getElem?_of_mem hv
  obtain ⟨_, rfl⟩ := vals_get hj
  rfl

set_option maxRecDepth 100000 in
set_option maxHeartbeats 800000 in
theorem copyRow_any (src : Option Addr) (br ob n c : Nat) (f : Nat → Nat) (w : World) (hsrc : ∀ k, k < n → src = some ⟨br, ob, none⟩)
    (hr : ∀ k, k < n → w.cell? ⟨br, ob + k, none⟩ = some (.int .u8 ((f k : Nat) : Int))) (hn : (n : Int) ≤ 1000000) :
    Calls Tryd.prog 139 #[.slice src n c] w fun e w' =>
      e = .returned (.slice (some ⟨w.heap.size, 0, none⟩) n n) ∧ Kp (fun _ => False) w w' ∧ w'.rowIs w.heap.size 5 n (By f) := by
  have hmk := run_make_row' (P := Tryd.prog) 22 5 (.int .u8 0) 1 Tryd.underlying22 info5 rfl .i64 .i64 n (by omega) (by omega)
  obtain ⟨c0, hc1, hc2, _⟩ := World.rowIs_made w (.int .u8 0) n 5
  have HC : Hid ((w.alloc (.cells (madeCells #[.int .u8 0] n) 5)).heap[w.heap.size]? = some (.cells c0.toList.toArray 5 (0, 0))) := hc1
  have HZ : Hid (c0.size = n) := hc2
  clear hc1 hc2
  have HS : Hid (∀ k, k < n → src = some ⟨br, ob, none⟩) := hsrc
  have HR : Hid (∀ k, k < n → w.cell? ⟨br, ob + k, none⟩ = some (.int .u8 ((f k : Nat) : Int))) := hr
  clear hsrc hr
  go_enter Tryd.func139, Tryd.ntmps139
  go_wp2_with (refine wpList_copy_splice rfl (.tmp 7) (.tmp 8) 22 22 rfl 5 Tryd.underlying22 size5 _ _ _ _ _ _ rfl rfl w.heap.size 0 c0.toList 5 HC.out (vals f n) ?hn ?hpos ?hfit (vals_one f n) w.heap.size w ((Below.refl _ _).alloc (Nat.le_refl _) _) (Nat.le_refl _) ?hrest)
  case hn => simp [vals_length]
  case hfit => rw [vals_length]; simp [HZ.out]
  case hpos =>
    intro h0
    rw [vals_length] at h0
    refine ⟨⟨br, ob, none⟩, HS.out 0 h0, fun j v hj => ?_⟩
    obtain ⟨hlt, rfl⟩ := vals_get hj
    have := HR.out j hlt
    rw [addr_add, World.cell?_alloc_old _ _ _ (by have := World.block_lt_of_cell? _ _ this; simp at this; show br ≠ w.heap.size; omega)]
    exact this
  intro w4 hg4 hb4
  go_wp2
  go_ret
  have hL : (c0.toList.drop (vals f n).length) = [] := List.drop_eq_nil_of_le (by rw [vals_length]; simp [HZ.out])
  refine ⟨rfl, Kp.of_below hb4, _, hg4.out, ?_, fun i hi => ?_⟩
  · simp [splice, vals_length, HZ.out]
  · have := vals_at f hi
    simpa [splice, hL] using this

set_option maxRecDepth 100000 in
set_option maxHeartbeats 800000 in
theorem onesAbove_any (R C : Nat) (w : World) (hR : (R : Int) ≤ 1000) (hC : (C : Int) ≤ (R : Int)) :
    Calls Tryd.prog 135 #[.int .i64 R, .int .i64 C] w fun e w' =>
      e = .returned (.slice (some ⟨w.heap.size, 0, none⟩) R R) ∧ Kp (fun _ => False) w w' ∧ w'.heap.size = w.heap.size + 1 + R ∧ Mat w' w.heap.size (fun i => w.heap.size + 1 + i) R C (ones C) := by
  go_enter Tryd.func135, Tryd.ntmps135
  go_wp2_with fail
  refine (noughts_any R C w hR (by omega)).mono ?_
  rintro e w1 ⟨rfl, hK1, hz1, hM1⟩
  go_wp2
  go_loopg [11] C (fun gk i wr => ∃ k : Nat, k ≤ C ∧ gk = C - k ∧ i = .int .i64 k ∧ Kp (fun _ => False) w wr ∧ wr.heap.size = w.heap.size + 1 + R ∧ Mat wr w.heap.size (fun i => w.heap.size + 1 + i) R C (ones k))
  case atStart => exact ⟨0, Nat.zero_le _, rfl, rfl, hK1, hz1, by rw [ones_zero]; exact hM1⟩
  case round =>
    obtain ⟨k, hk, rfl, rfl, hK, hz, hM⟩ := hrel
    clear hK1 hz1 hM1
    by_cases hlt : (k : Int) < (C : Int)
    · have e1 := hM.top.cell (i := k) (by omega)
      have e2 := (hM.row k (by omega)).cell (i := k) (by omega)
      have e3 := (hM.row k (by omega)).frozen k
      simp only [By] at e1 e2
      go_wp2
      go_roundg (C - (k + 1))
      case rel => exact ⟨k + 1, by omega, rfl, by go_num, hK.setCell (fun h => absurd h (by show ¬ w.heap.size + 1 + k < w.heap.size; omega)) _, by simpa using hz,
        ⟨hM.top.setOther (by show w.heap.size ≠ w.heap.size + 1 + k; omega) _, fun i hi => by
          by_cases e : i = k
          · subst e
            exact ((hM.row i hi).set i _).congr (fun j _ => by
              simp only [By]
              rw [ones_succ_here]
              split <;> rfl)
          · exact ((hM.row i hi).setOther (by show w.heap.size + 1 + i ≠ w.heap.size + 1 + k; omega) _).congr (fun j _ => by simp only [By]; rw [ones_succ_other k i j e]), hM.inj, hM.ne, ones_lt _⟩⟩
      case measure => omega
    · have e : k = C := by omega
      subst e
      go_wp2
      go_ret
      exact ⟨rfl, hK, hz, hM⟩

/-- whether texts are a matrix -/
def isM (s : Sh) : Bool := decide (1 ≤ s.G ∧ s.G ≤ 255 ∧ 1 ≤ s.L 0 ∧ s.L 0 ≤ 255 ∧ ∀ r, r < s.G → s.L r = s.L 0)

set_option maxRecDepth 100000 in
set_option maxHeartbeats 800000 in
theorem isMatrix_loop (s : Sh) (w : World) (h : Rd w s) (hG : (s.G : Int) ≤ 255) (h0 : 1 ≤ (s.G : Int)) (h1 : 1 ≤ (s.L 0 : Int)) (h2 : (s.L 0 : Int) ≤ 255) :
    Calls Tryd.prog 138 #[.slice s.g s.G s.cap] w fun e w' => e = .returned (.bool (isM s)) ∧ w' = w := by
  have hg := h.at0 (by omega)
  rw [hg]
  have c0 := h.hd 0 (by omega)
  have d1 : decide ((s.G : Int) < 1) = false := by simp; omega
  have d2 : decide (255 < (s.G : Int)) = false := by simp; omega
  have d3 : decide ((s.L 0 : Int) < 1) = false := by simp; omega
  have d4 : decide (255 < (s.L 0 : Int)) = false := by simp; omega
  simp only [Nat.add_zero] at c0
  go_enter Tryd.func138, Tryd.ntmps138
  go_wp2
  go_loopg [29] s.G (fun gk i wr => ∃ k : Nat, k ≤ s.G ∧ gk = s.G - k ∧ i = .int .i64 k ∧ (Hid (∀ r, r < k → s.L r = s.L 0)) ∧ wr = w)
  case atStart => exact ⟨0, Nat.zero_le _, rfl, rfl, fun r hr => absurd hr (Nat.not_lt_zero _), rfl⟩
  case round =>
    obtain ⟨k, hk, rfl, rfl, hr, rfl⟩ := hrel
    by_cases hlt : (k : Int) < (s.G : Int)
    · have ck := h.hd k (by omega)
      by_cases he : s.L k = s.L 0
      · have hq : ((s.L k : Int) != (s.L 0 : Int)) = false := by rw [he]; exact bne_self_eq_false _
        have HE : Hid (s.L k = s.L 0) := he
        clear he
        go_wp2
        go_roundg (s.G - (k + 1))
        case rel => exact ⟨k + 1, by omega, rfl, by go_num, fun r hr' => by
          by_cases e : r = k
          · rw [e]; exact HE.out
          · exact hr.out r (by omega), rfl⟩
        case measure => omega
      · have hq : ((s.L k : Int) != (s.L 0 : Int)) = true := bne_iff_ne.2 (by omega)
        have HF : Hid (isM s = false) := decide_eq_false (fun hx => he (hx.2.2.2.2 k (by omega)))
        clear he
        go_wp2
        go_ret
        exact ⟨by rw [HF.out]; rfl, rfl⟩
    · have e : k = s.G := by omega
      have HT : Hid (isM s = true) := decide_eq_true ⟨by omega, by omega, by omega, by omega, fun r hr' => hr.out r (by omega)⟩
      clear e
      go_wp2
      go_ret
      exact ⟨by rw [HT.out]; rfl, rfl⟩

set_option maxRecDepth 100000 in
set_option maxHeartbeats 800000 in
theorem isMatrix_few (s : Sh) (w : World) (hG : (s.G : Int) < 1) :
    Calls Tryd.prog 138 #[.slice s.g s.G s.cap] w fun e w' => e = .returned (.bool (isM s)) ∧ w' = w := by
  have HF : Hid (isM s = false) := decide_eq_false (by omega)
  have d1 : decide ((s.G : Int) < 1) = true := by simp; omega
  go_enter Tryd.func138, Tryd.ntmps138
  go_wp2
  go_ret
  exact ⟨by rw [HF.out]; rfl, rfl⟩

set_option maxRecDepth 100000 in
set_option maxHeartbeats 800000 in
theorem isMatrix_many (s : Sh) (w : World) (hG : 255 < (s.G : Int)) :
    Calls Tryd.prog 138 #[.slice s.g s.G s.cap] w fun e w' => e = .returned (.bool (isM s)) ∧ w' = w := by
  have HF : Hid (isM s = false) := decide_eq_false (by omega)
  have d1 : decide ((s.G : Int) < 1) = false := by simp; omega
  have d2 : decide (255 < (s.G : Int)) = true := by simp; omega
  go_enter Tryd.func138, Tryd.ntmps138
  go_wp2
  go_ret
  exact ⟨by rw [HF.out]; rfl, rfl⟩

set_option maxRecDepth 100000 in
set_option maxHeartbeats 800000 in
theorem isMatrix_thin (s : Sh) (w : World) (h : Rd w s) (hG : (s.G : Int) ≤ 255) (h0 : 1 ≤ (s.G : Int)) (h1 : (s.L 0 : Int) < 1) :
    Calls Tryd.prog 138 #[.slice s.g s.G s.cap] w fun e w' => e = .returned (.bool (isM s)) ∧ w' = w := by
  have HF : Hid (isM s = false) := decide_eq_false (by omega)
  have hg := h.at0 (by omega)
  rw [hg]
  have c0 := h.hd 0 (by omega)
  simp only [Nat.add_zero] at c0
  have d1 : decide ((s.G : Int) < 1) = false := by simp; omega
  have d2 : decide (255 < (s.G : Int)) = false := by simp; omega
  have d3 : decide ((s.L 0 : Int) < 1) = true := by simp; omega
  go_enter Tryd.func138, Tryd.ntmps138
  go_wp2
  go_ret
  exact ⟨by rw [HF.out]; rfl, rfl⟩

set_option maxRecDepth 100000 in
set_option maxHeartbeats 800000 in
theorem isMatrix_wide (s : Sh) (w : World) (h : Rd w s) (hG : (s.G : Int) ≤ 255) (h0 : 1 ≤ (s.G : Int)) (h1 : 255 < (s.L 0 : Int)) :
    Calls Tryd.prog 138 #[.slice s.g s.G s.cap] w fun e w' => e = .returned (.bool (isM s)) ∧ w' = w := by
  have HF : Hid (isM s = false) := decide_eq_false (by omega)
  have hg := h.at0 (by omega)
  rw [hg]
  have c0 := h.hd 0 (by omega)
  simp only [Nat.add_zero] at c0
  have d1 : decide ((s.G : Int) < 1) = false := by simp; omega
  have d2 : decide (255 < (s.G : Int)) = false := by simp; omega
  have d3 : decide ((s.L 0 : Int) < 1) = false := by simp; omega
  have d4 : decide (255 < (s.L 0 : Int)) = true := by simp; omega
  go_enter Tryd.func138, Tryd.ntmps138
  go_wp2
  go_ret
  exact ⟨by rw [HF.out]; rfl, rfl⟩

theorem isM_true {s : Sh} (h : isM s = true) : 1 ≤ s.G ∧ s.G ≤ 255 ∧ 1 ≤ s.L 0 ∧ s.L 0 ≤ 255 ∧ ∀ r, r < s.G → s.L r = s.L 0 := of_decide_eq_true h

theorem isMatrix_any (s : Sh) (w : World) (h : Rd w s) :
    Calls Tryd.prog 138 #[.slice s.g s.G s.cap] w fun e w' => e = .returned (.bool (isM s)) ∧ w' = w := by
  by_cases a : (s.G : Int) < 1
  · exact isMatrix_few s w a
  by_cases b : 255 < (s.G : Int)
  · exact isMatrix_many s w b
  by_cases c : (s.L 0 : Int) < 1
  · exact isMatrix_thin s w h (by omega) (by omega) c
  by_cases d : 255 < (s.L 0 : Int)
  · exact isMatrix_wide s w h (by omega) (by omega) d
  · exact isMatrix_loop s w h (by omega) (by omega) (by omega) (by omega)
end Go.Proofs.YtmncocmeafcpfaaDoor.Mf

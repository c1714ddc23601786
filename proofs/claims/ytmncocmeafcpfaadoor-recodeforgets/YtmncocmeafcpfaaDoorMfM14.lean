/- The walks of the reference's Is and add. -/
import Derived.Test.YtmncocmeafcpfaaDoorMfM2
import Derived.Test.YtmncocmeafcpfaaDoorMfGr
namespace Go.Proofs.YtmncocmeafcpfaaDoor.Mf
open Go.RowKit Go.Deep

/-- A row of bytes whose block may be longer: what stands behind the n-th is not said. -/
def RowB (w : World) (b nt n : Nat) (f : Nat → Nat) : Prop := ∃ g, w.rowIs b 5 nt g ∧ n ≤ nt ∧ ∀ j, j < n → g j = .int .u8 ((f j : Nat) : Int)
namespace RowB
variable {w w' : World} {b nt n : Nat} {f f' : Nat → Nat}
theorem cell (h : RowB w b nt n f) {i : Nat} (hi : i < n) : w.cell? ⟨b, i, none⟩ = some (.int .u8 ((f i : Nat) : Int)) := by
  obtain ⟨g, hg, hn, he⟩ := h
  rw [hg.cell (by omega), he i hi]
theorem frozen (h : RowB w b nt n f) (i : Nat) : w.frozen? ⟨b, i, none⟩ = false := h.elim fun _ hg => hg.1.frozen i
theorem lt (h : RowB w b nt n f) : b < w.heap.size := h.elim fun _ hg => hg.1.lt
theorem congr (h : RowB w b nt n f) (e : ∀ j, j < n → f j = f' j) : RowB w b nt n f' := by
  obtain ⟨g, hg, hn, he⟩ := h
  exact ⟨g, hg, hn, fun j hj => by rw [he j hj, e j hj]⟩
theorem keep {S : Nat → Prop} (h : RowB w b nt n f) (k : Kp S w w') (hb : ¬ S b) : RowB w' b nt n f := by
  obtain ⟨g, hg, hn, he⟩ := h
  exact ⟨g, k.row hg hb, hn, he⟩
theorem drew (h : RowB w b nt n f) : RowB w.drew b nt n f := h
theorem drewN (h : RowB w b nt n f) (k : Nat) : RowB (w.drewN k) b nt n f := by
  obtain ⟨g, hg, hn, he⟩ := h
  exact ⟨g, rowIs_drewN hg k, hn, he⟩
theorem alloc (h : RowB w b nt n f) (o : Obj) : RowB (w.alloc o) b nt n f := by
  obtain ⟨g, hg, hn, he⟩ := h
  exact ⟨g, hg.alloc o, hn, he⟩
theorem setOther (h : RowB w b nt n f) {a : Addr} (ha : b ≠ a.block) (v : Value) : RowB (w.setCell a v) b nt n f := by
  obtain ⟨g, hg, hn, he⟩ := h
  exact ⟨g, hg.setOther ha v, hn, he⟩
theorem set (h : RowB w b nt n f) (i x : Nat) : RowB (w.setCell ⟨b, i, none⟩ (.int .u8 ((x : Nat) : Int))) b nt n (fun j => if j = i then x else f j) := by
  obtain ⟨g, hg, hn, he⟩ := h
  refine ⟨_, hg.set i _, hn, fun j hj => ?_⟩
  by_cases e : j = i
  · simp [e]
  · simp [e, he j hj]
theorem of_row (h : w.rowIs b 5 nt (By f)) (hn : n ≤ nt) : RowB w b nt n f := ⟨_, h, hn, fun _ _ => rfl⟩
end RowB

set_option maxRecDepth 100000 in
set_option maxHeartbeats 800000 in
theorem refIs_loop (s : Sh) (w : World) (h : Rd w s) (hG : (s.G : Int) ≤ 255) (h0 : 1 ≤ (s.G : Int)) :
    Calls Tryd.prog 110 #[.slice s.g s.G s.cap] w fun e w' => e = .returned (.bool (isM s)) ∧ w' = w := by
  have hg := h.at0 (by omega)
  rw [hg]
  have c0 := h.hd 0 (by omega)
  have d1 : decide ((s.G : Int) < 1) = false := by simp; omega
  have d2 : decide (255 < (s.G : Int)) = false := by simp; omega
  simp only [Nat.add_zero] at c0
  go_enter Tryd.func110, Tryd.ntmps110
  go_wp2
  go_loopg [15] s.G (fun gk i wr => ∃ k : Nat, k ≤ s.G ∧ gk = s.G - k ∧ i = .int .i64 k ∧ (Hid (∀ r, r < k → s.L r = s.L 0 ∧ 1 ≤ s.L r ∧ s.L r ≤ 255)) ∧ wr = w)
  case atStart => exact ⟨0, Nat.zero_le _, rfl, rfl, fun r hr => absurd hr (Nat.not_lt_zero _), rfl⟩
  case round =>
    obtain ⟨k, hk, rfl, rfl, hr, rfl⟩ := hrel
    by_cases hlt : (k : Int) < (s.G : Int)
    · have ck := h.hd k (by omega)
      by_cases ha : (s.L k : Int) < 1
      · have d3 : decide ((s.L k : Int) < 1) = true := by simp; omega
        have HF : Hid (isM s = false) := decide_eq_false (fun hx => by have := hx.2.2.2.2 k (by omega); omega)
        go_wp2
        go_ret
        exact ⟨by rw [HF.out]; rfl, rfl⟩
      · have d3 : decide ((s.L k : Int) < 1) = false := by simp; omega
        by_cases hb : 255 < (s.L k : Int)
        · have d4 : decide (255 < (s.L k : Int)) = true := by simp; omega
          have HF : Hid (isM s = false) := decide_eq_false (fun hx => by have := hx.2.2.2.2 k (by omega); omega)
          go_wp2
          go_ret
          exact ⟨by rw [HF.out]; rfl, rfl⟩
        · have d4 : decide (255 < (s.L k : Int)) = false := by simp; omega
          by_cases he : s.L k = s.L 0
          · have hq : ((s.L k : Int) != (s.L 0 : Int)) = false := by rw [he]; exact bne_self_eq_false _
            have HE : Hid (s.L k = s.L 0) := he
            clear he
            go_wp2
            go_roundg (s.G - (k + 1))
            case rel => exact ⟨k + 1, by omega, rfl, by go_num, fun r hr' => by
              by_cases e : r = k
              · rw [e]; exact ⟨HE.out, by omega, by omega⟩
              · exact hr.out r (by omega), rfl⟩
            case measure => omega
          · have hq : ((s.L k : Int) != (s.L 0 : Int)) = true := bne_iff_ne.2 (by omega)
            have HF : Hid (isM s = false) := decide_eq_false (fun hx => he (hx.2.2.2.2 k (by omega)))
            clear he
            go_wp2
            go_ret
            exact ⟨by rw [HF.out]; rfl, rfl⟩
    · have HT : Hid (isM s = true) := decide_eq_true ⟨by omega, by omega, by have := hr.out 0 (by omega); omega, by have := hr.out 0 (by omega); omega, fun r hr' => (hr.out r (by omega)).1⟩
      go_wp2
      go_ret
      exact ⟨by rw [HT.out]; rfl, rfl⟩

set_option maxRecDepth 100000 in
set_option maxHeartbeats 800000 in
theorem refIs_few (s : Sh) (w : World) (hG : (s.G : Int) < 1) :
    Calls Tryd.prog 110 #[.slice s.g s.G s.cap] w fun e w' => e = .returned (.bool (isM s)) ∧ w' = w := by
  have HF : Hid (isM s = false) := decide_eq_false (by omega)
  have d1 : decide ((s.G : Int) < 1) = true := by simp; omega
  go_enter Tryd.func110, Tryd.ntmps110
  go_wp2
  go_ret
  exact ⟨by rw [HF.out]; rfl, rfl⟩

set_option maxRecDepth 100000 in
set_option maxHeartbeats 800000 in
theorem refIs_many (s : Sh) (w : World) (hG : 255 < (s.G : Int)) :
    Calls Tryd.prog 110 #[.slice s.g s.G s.cap] w fun e w' => e = .returned (.bool (isM s)) ∧ w' = w := by
  have HF : Hid (isM s = false) := decide_eq_false (by omega)
  have d1 : decide ((s.G : Int) < 1) = false := by simp; omega
  have d2 : decide (255 < (s.G : Int)) = true := by simp; omega
  go_enter Tryd.func110, Tryd.ntmps110
  go_wp2
  go_ret
  exact ⟨by rw [HF.out]; rfl, rfl⟩

theorem refIs_any (s : Sh) (w : World) (h : Rd w s) :
    Calls Tryd.prog 110 #[.slice s.g s.G s.cap] w fun e w' => e = .returned (.bool (isM s)) ∧ w' = w := by
  by_cases a : (s.G : Int) < 1
  · exact refIs_few s w a
  by_cases b : 255 < (s.G : Int)
  · exact refIs_many s w b
  · exact refIs_loop s w h (by omega) (by omega)
end Go.Proofs.YtmncocmeafcpfaaDoor.Mf

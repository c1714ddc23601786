/- Texts of this proof, joined: Gr, M14, M13. -/
import Derived.Test.YtbmhfclknilcoaaDoorMgAC
import Derived.Test.YtbmhfclknilcoaaDoorMgAD
import Derived.Test.YtbmhfclknilcoaaDoorMgAI
import Derived.Test.YtbmhfclknilcoaaDoorMgAH
/- The walks of the reference's Mul, Div and Inv: each returns what the field of Gf has. -/
namespace Go.Proofs.YtbmhfclknilcoaaDoor
open Go.RowKit

set_option maxRecDepth 100000 in
set_option maxHeartbeats 400000 in
theorem rmul_nat (a b : Nat) (w : World) (ha : (a : Int) < 256) (hb : (b : Int) < 256) :
    Calls Tryd.prog 46 #[.int .u8 a, .int .u8 b] w fun e w' => e = .returned (.int .u8 (Gf.mul a b)) ∧ w' = w := by
  go_enter Tryd.func46, Tryd.ntmps46
  go_wp2
  go_loop [5, 8] (fun s i => ∃ k : Nat, k ≤ 8 ∧ i = .int .i64 k ∧ s = .int .i64 (Gf.cl a b k)) (fun _ i => 8 - (intOf i).toNat)
  case atStart => exact ⟨0, Nat.zero_le _, rfl, rfl⟩
  case round =>
    obtain ⟨k, hk, rfl, rfl⟩ := hrel
    by_cases hlt : (k : Int) < 8
    · go_wp2
      · exact ⟨⟨k + 1, by omega, by go_num, by rw [rmul_yes a b k (by omega) (by omega) (by omega) ‹_›]⟩, by simp [intOf]; omega⟩
      · exact ⟨⟨k + 1, by omega, by go_num, by rw [rmul_no a b k (by omega) ‹_›]⟩, by simp [intOf]; omega⟩
    · have e : k = 8 := by omega
      subst e
      have hcl := cl_lt8 a b (by omega) 8 (by omega)
      have hred := Gf.red_rm (Gf.cl a b 8) hcl
      go_wp2
      go_loop [5, 7] (fun s i => ∃ k : Nat, k ≤ 7 ∧ i = .int .i64 (7 + k) ∧ ∃ p : Nat, p < 32768 ∧ s = .int .i64 p ∧ Hid (Gf.red p k % 256 = Gf.mul a b)) (fun _ i => (intOf i).toNat - 7)
      case atStart => exact ⟨7, by omega, by go_num, _, hcl, rfl, hred⟩
      case round =>
        clear hred
        obtain ⟨j, hj, rfl, p, hp, rfl, hr⟩ := hrel
        by_cases hj0 : 1 ≤ (j : Int)
        · go_wp2
          · obtain ⟨e1, e2, e3⟩ := red_yes p j (by omega) hj hp ‹_›
            exact ⟨⟨j - 1, by omega, by go_num, _, e2, by rw [e1], by rw [← e3]; exact hr⟩, by simp [intOf]; omega⟩
          · have e3 := red_no p j (by omega) hp ‹_›
            exact ⟨⟨j - 1, by omega, by go_num, _, hp, rfl, by rw [← e3]; exact hr⟩, by simp [intOf]; omega⟩
        · have e : j = 0 := by omega
          subst e
          have hr' := hr.out
          clear hr
          have e5 : (p : Int) % 256 = (Gf.mul a b : Nat) := by rw [← hr']; simp [Gf.red]
          have H5 : Hid ((p : Int) % 256 = (Gf.mul a b : Nat)) := e5
          clear e5 hr'
          go_wp2
          go_ret
          exact ⟨by rw [H5.out]; rfl, rfl⟩

theorem rmul_any (a b : Int) (w : World) (ha0 : 0 ≤ a) (ha : a < 256) (hb0 : 0 ≤ b) (hb : b < 256) :
    Calls Tryd.prog 46 #[.int .u8 a, .int .u8 b] w fun e w' => e = .returned (.int .u8 (Gf.mul a.toNat b.toNat)) ∧ w' = w := by
  obtain ⟨a, rfl⟩ := Int.eq_ofNat_of_zero_le ha0
  obtain ⟨b, rfl⟩ := Int.eq_ofNat_of_zero_le hb0
  exact rmul_nat a b w ha hb

theorem rdiv_zero (a : Int) (w : World) :
    Calls Tryd.prog 66 #[.int .u8 a, .int .u8 0] w fun e w' => e = .returned (.tuple #[.int .u8 0, .int .i64 1]) ∧ w' = w := by
  go_enter Tryd.func66, Tryd.ntmps66
  go_wp2
  go_ret2
  exact ⟨rfl, rfl⟩

set_option maxRecDepth 100000 in
set_option maxHeartbeats 400000 in
theorem rdiv_any (a b : Int) (w : World) (ha0 : 0 ≤ a) (ha : a < 256) (hb0 : 0 < b) (hb : b < 256) :
    Calls Tryd.prog 66 #[.int .u8 a, .int .u8 b] w fun e w' => e = .returned (.tuple #[.int .u8 (Gf.mul a.toNat (Gf.inv b.toNat)), .int .i64 0]) ∧ w' = w := by
  obtain ⟨a, rfl⟩ := Int.eq_ofNat_of_zero_le ha0
  obtain ⟨b, rfl⟩ := Int.eq_ofNat_of_zero_le (show 0 ≤ b by omega)
  have hn : ((b : Int) == 0) = false := beq_eq_false_iff_ne.2 (by omega)
  have hl := Gf.mul_lt a (Gf.inv b)
  have HB : Hid (_ = _) := Gf.div_back a b (by omega) (by omega) (by omega)
  go_enter Tryd.func66, Tryd.ntmps66
  go_wp2
  go_loopw [9] (fun i w' => ∃ k : Nat, k ≤ 256 ∧ i = .int .i64 k ∧ Hid (∀ j, j < k → Gf.mul j b ≠ a) ∧ w' = w) (fun i _ => 256 - (intOf i).toNat)
  case atStart => exact ⟨0, Nat.zero_le _, rfl, fun j hj => by omega, rfl⟩
  case round =>
    obtain ⟨k, hk, rfl, hr, rfl⟩ := hrel
    by_cases hlt : (k : Int) < 256
    · by_cases he : Gf.mul k b = a
      · have HF : Hid (_ = _) := Gf.div_found a b k (by omega) (by omega) (by omega) (by omega) he
        have hq : ((Gf.mul k b : Nat) : Int) == (a : Int) := by rw [he]; simp
        clear he
        go_wp2_with (go_at_call 46; refine (rmul_nat _ _ _ (by omega) (by omega)).mono ?_; rintro e w' ⟨rfl, rfl⟩)
        go_ret2
        exact ⟨by simp only [Int.toNat_natCast]; rw [HF.out]; rfl, rfl⟩
      · have hq : (((Gf.mul k b : Nat) : Int) == (a : Int)) = false := beq_eq_false_iff_ne.2 (by omega)
        have HN : Hid (Gf.mul k b ≠ a) := he
        clear he
        go_wp2_with (go_at_call 46; refine (rmul_nat _ _ _ (by omega) (by omega)).mono ?_; rintro e w' ⟨rfl, rfl⟩)
        exact ⟨⟨k + 1, by omega, by go_num, fun j hj => by
          by_cases h : j < k
          · exact hr.out j h
          · rw [show j = k from by omega]; exact HN.out, trivial⟩, by simp [intOf]; omega⟩
    · exact absurd HB.out (hr.out _ (by omega))

set_option maxRecDepth 100000 in
set_option maxHeartbeats 400000 in
theorem rinv_zero (w : World) :
    Calls Tryd.prog 44 #[.int .u8 0] w fun e w' => e = .returned (.tuple #[.int .u8 0, .int .i64 1]) ∧ w' = w := by
  go_enter Tryd.func44, Tryd.ntmps44
  go_wp2_with (go_at_call 66; refine (rdiv_zero _ _).mono ?_; rintro e w' ⟨rfl, rfl⟩)
  go_ret2
  exact ⟨rfl, rfl⟩

set_option maxRecDepth 100000 in
set_option maxHeartbeats 400000 in
theorem rinv_nat (b : Nat) (w : World) (hb0 : 0 < (b : Int)) (hb : (b : Int) < 256) :
    Calls Tryd.prog 44 #[.int .u8 b] w fun e w' => e = .returned (.tuple #[.int .u8 (Gf.inv b), .int .i64 0]) ∧ w' = w := by
  have H : Hid (_ = _) := mul_one_inv b (by omega)
  go_enter Tryd.func44, Tryd.ntmps44
  go_wp2_with (go_at_call 66; refine (rdiv_any _ _ _ (by omega) (by omega) (by omega) (by omega)).mono ?_; rw [H.out]; rintro e w' ⟨rfl, rfl⟩)
  go_ret2
  exact ⟨rfl, rfl⟩

theorem rdiv_gen (a b : Nat) (w : World) (ha : (a : Int) < 256) (hb : (b : Int) < 256) :
    Calls Tryd.prog 66 #[.int .u8 a, .int .u8 b] w fun e w' => e = .returned (.tuple #[.int .u8 (dq a b), .int .i64 (de b)]) ∧ w' = w := by
  by_cases h : b = 0
  · subst h; exact rdiv_zero a w
  · have e1 : dq a b = Gf.mul a (Gf.inv b) := if_neg h
    have e2 : de b = 0 := if_neg h
    rw [e1, e2]
    exact rdiv_any a b w (by omega) ha (by omega) hb
theorem rinv_gen (b : Nat) (w : World) (hb : (b : Int) < 256) :
    Calls Tryd.prog 44 #[.int .u8 b] w fun e w' => e = .returned (.tuple #[.int .u8 (iq b), .int .i64 (de b)]) ∧ w' = w := by
  by_cases h : b = 0
  · subst h; exact rinv_zero w
  · have e1 : iq b = Gf.inv b := if_neg h
    have e2 : de b = 0 := if_neg h
    rw [e1, e2]
    exact rinv_nat b w (by omega) hb
end Go.Proofs.YtbmhfclknilcoaaDoor

/- The walks of the reference's Is and add. -/
namespace Go.Proofs.YtbmhfclknilcoaaDoor
open Go.RowKit Go.Deep

/-- A row of bytes whose block may be longer: what stands behind the n-th is not said. -/
def RowB (w : World) (b nt n : Nat) (f : Nat → Nat) : Prop := ∃ g, w.rowIs b 5 nt g ∧ n ≤ nt ∧ ∀ j, j < n → g j = .int .u8 ((f j : Nat) : Int)
namespace RowB
variable {w w' : World} {b nt n : Nat} {f f' : Nat → Nat}
theorem cell (h : RowB w b nt n f) {i : Nat} (hi : i < n) : w.cell? ⟨b, i, none⟩ = some (.int .u8 ((f i : Nat) : Int)) := by
  obtain ⟨g, hg, hn, he⟩ := h
  rw [hg.cell (by omega), he i hi]
theorem frozen (h : RowB w b nt n f) (i : Nat) : w.frozen? ⟨b, i, none⟩ = false := h.elim fun _ hg => hg.1.frozen i
theorem lt (h : RowB w b nt n f) : b < w.heap.size := h.elim fun _ hg => hg.1.lt
theorem congr (h : RowB w b nt n f) (e : ∀ j, j < n → f j = f' j) : RowB w b nt n f' := by
  obtain ⟨g, hg, hn, he⟩ := h
  exact ⟨g, hg, hn, fun j hj => by rw [he j hj, e j hj]⟩
theorem keep {S : Nat → Prop} (h : RowB w b nt n f) (k : Kp S w w') (hb : ¬ S b) : RowB w' b nt n f := by
  obtain ⟨g, hg, hn, he⟩ := h
  exact ⟨g, k.row hg hb, hn, he⟩
theorem drew (h : RowB w b nt n f) : RowB w.drew b nt n f := h
theorem drewN (h : RowB w b nt n f) (k : Nat) : RowB (w.drewN k) b nt n f := by
  obtain ⟨g, hg, hn, he⟩ := h
  exact ⟨g, rowIs_drewN hg k, hn, he⟩
theorem alloc (h : RowB w b nt n f) (o : Obj) : RowB (w.alloc o) b nt n f := by
  obtain ⟨g, hg, hn, he⟩ := h
  exact ⟨g, hg.alloc o, hn, he⟩
theorem setOther (h : RowB w b nt n f) {a : Addr} (ha : b ≠ a.block) (v : Value) : RowB (w.setCell a v) b nt n f := by
  obtain ⟨g, hg, hn, he⟩ := h
  exact ⟨g, hg.setOther ha v, hn, he⟩
theorem set (h : RowB w b nt n f) (i x : Nat) : RowB (w.setCell ⟨b, i, none⟩ (.int .u8 ((x : Nat) : Int))) b nt n (fun j => if j = i then x else f j) := by
  obtain ⟨g, hg, hn, he⟩ := h
  refine ⟨_, hg.set i _, hn, fun j hj => ?_⟩
  by_cases e : j = i
  · simp [e]
  · simp [e, he j hj]
theorem of_row (h : w.rowIs b 5 nt (By f)) (hn : n ≤ nt) : RowB w b nt n f := ⟨_, h, hn, fun _ _ => rfl⟩
end RowB

set_option maxRecDepth 100000 in
set_option maxHeartbeats 1600000 in
theorem refAdd_any (bt nt c1 br c2 n : Nat) (f g : Nat → Nat) (c : Nat) (w : World) (hf : ∀ j, f j < 256) (hg : ∀ j, g j < 256) (hc : (c : Int) < 256)
    (ht : RowB w bt nt n f) (hr : ∀ k, k < n → w.cell? ⟨br, k, none⟩ = some (.int .u8 ((g k : Nat) : Int))) (hne : br ≠ bt) (hn : (n : Int) ≤ 1000000) :
    Calls Tryd.prog 47 #[.slice (some ⟨bt, 0, none⟩) n c1, .slice (some ⟨br, 0, none⟩) n c2, .int .u8 c] w fun e w' =>
      e = .returned (.tuple #[]) ∧ Kp (fun b => b = bt) w w' ∧ w'.heap.size = w.heap.size ∧ RowB w' bt nt n (plusRow f g c 0 n) := by
  go_enter Tryd.func47, Tryd.ntmps47
  go_wp2
  go_loopg [10] n (fun gk i wr => ∃ k : Nat, k ≤ n ∧ gk = n - k ∧ i = .int .i64 k ∧ Kp (fun b => b = bt) w wr ∧ wr.heap.size = w.heap.size ∧ RowB wr bt nt n (plusRow f g c 0 k))
  case atStart => exact ⟨0, Nat.zero_le _, rfl, rfl, Kp.refl _ _, rfl, by rw [plusRow_zero]; exact ht⟩
  case round =>
    obtain ⟨k, hk, rfl, rfl, hK, hz, hR⟩ := hrel
    by_cases hlt : (k : Int) < (n : Int)
    · have e1 := hK.cellv (hr k (by omega)) hne
      have e2 := hR.cell (i := 0 + k) (by omega)
      have e3 := hR.frozen k
      have l1 := hg k
      have l2 := hf k
      have l3 := Gf.mul_lt (g k) c
      rw [plusRow_here] at e2
      simp only [Nat.zero_add] at e2
      have hx : bits .xor .u8 ((f k : Nat) : Int) ((Gf.mul (g k) c : Nat) : Int) = ((f k ^^^ Gf.mul (g k) c : Nat) : Int) := u8_xor_nat _ _ l2 l3
      clear hr
      go_wp2
      go_region_with
        (first
          | (go_at_call 46; refine (rmul_nat (g k) c _ (by omega) hc).mono ?_; rintro e w' ⟨rfl, rfl⟩))
      all_goals go_wp2
      all_goals
        go_roundg (n - (k + 1))
        case rel => exact ⟨k + 1, by omega, rfl, by go_num, hK.drew.setCell (fun _ => rfl) _, by simpa using hz, (hR.drew.set k _).congr (fun j _ => by
          rw [plusRow_succ, Nat.zero_add])⟩
        case measure => omega
    · have e : k = n := by omega
      subst e
      go_wp2
      go_end0
      exact ⟨rfl, hK, hz, hR⟩

set_option maxRecDepth 100000 in
set_option maxHeartbeats 800000 in
theorem refIs_loop (s : Sh) (w : World) (h : Rd w s) (hG : (s.G : Int) ≤ 255) (h0 : 1 ≤ (s.G : Int)) :
    Calls Tryd.prog 45 #[.slice s.g s.G s.cap] w fun e w' => e = .returned (.bool (isM s)) ∧ w' = w := by
  have hg := h.at0 (by omega)
  rw [hg]
  have c0 := h.hd 0 (by omega)
  have d1 : decide ((s.G : Int) < 1) = false := by simp; omega
  have d2 : decide (255 < (s.G : Int)) = false := by simp; omega
  simp only [Nat.add_zero] at c0
  go_enter Tryd.func45, Tryd.ntmps45
  go_wp2
  go_loopg [15] s.G (fun gk i wr => ∃ k : Nat, k ≤ s.G ∧ gk = s.G - k ∧ i = .int .i64 k ∧ (Hid (∀ r, r < k → s.L r = s.L 0 ∧ 1 ≤ s.L r ∧ s.L r ≤ 255)) ∧ wr = w)
  case atStart => exact ⟨0, Nat.zero_le _, rfl, rfl, fun r hr => absurd hr (Nat.not_lt_zero _), rfl⟩
  case round =>
    obtain ⟨k, hk, rfl, rfl, hr, rfl⟩ := hrel
    by_cases hlt : (k : Int) < (s.G : Int)
    · have ck := h.hd k (by omega)
      by_cases ha : (s.L k : Int) < 1
      · have d3 : decide ((s.L k : Int) < 1) = true := by simp; omega
        have HF : Hid (isM s = false) := decide_eq_false (fun hx => by have := hx.2.2.2.2 k (by omega); omega)
        go_wp2
        go_ret
        exact ⟨by rw [HF.out]; rfl, rfl⟩
      · have d3 : decide ((s.L k : Int) < 1) = false := by simp; omega
        by_cases hb : 255 < (s.L k : Int)
        · have d4 : decide (255 < (s.L k : Int)) = true := by simp; omega
          have HF : Hid (isM s = false) := decide_eq_false (fun hx => by have := hx.2.2.2.2 k (by omega); omega)
          go_wp2
          go_ret
          exact ⟨by rw [HF.out]; rfl, rfl⟩
        · have d4 : decide (255 < (s.L k : Int)) = false := by simp; omega
          by_cases he : s.L k = s.L 0
          · have hq : ((s.L k : Int) != (s.L 0 : Int)) = false := by rw [he]; exact bne_self_eq_false _
            have HE : Hid (s.L k = s.L 0) := he
            clear he
            go_wp2
            go_roundg (s.G - (k + 1))
            case rel => exact ⟨k + 1, by omega, rfl, by go_num, fun r hr' => by
              by_cases e : r = k
              · rw [e]; exact ⟨HE.out, by omega, by omega⟩
              · exact hr.out r (by omega), rfl⟩
            case measure => omega
          · have hq : ((s.L k : Int) != (s.L 0 : Int)) = true := bne_iff_ne.2 (by omega)
            have HF : Hid (isM s = false) := decide_eq_false (fun hx => he (hx.2.2.2.2 k (by omega)))
            clear he
            go_wp2
            go_ret
            exact ⟨by rw [HF.out]; rfl, rfl⟩
    · have HT : Hid (isM s = true) := decide_eq_true ⟨by omega, by omega, by have := hr.out 0 (by omega); omega, by have := hr.out 0 (by omega); omega, fun r hr' => (hr.out r (by omega)).1⟩
      go_wp2
      go_ret
      exact ⟨by rw [HT.out]; rfl, rfl⟩

set_option maxRecDepth 100000 in
set_option maxHeartbeats 800000 in
theorem refIs_few (s : Sh) (w : World) (hG : (s.G : Int) < 1) :
    Calls Tryd.prog 45 #[.slice s.g s.G s.cap] w fun e w' => e = .returned (.bool (isM s)) ∧ w' = w := by
  have HF : Hid (isM s = false) := decide_eq_false (by omega)
  have d1 : decide ((s.G : Int) < 1) = true := by simp; omega
  go_enter Tryd.func45, Tryd.ntmps45
  go_wp2
  go_ret
  exact ⟨by rw [HF.out]; rfl, rfl⟩

set_option maxRecDepth 100000 in
set_option maxHeartbeats 800000 in
theorem refIs_many (s : Sh) (w : World) (hG : 255 < (s.G : Int)) :
    Calls Tryd.prog 45 #[.slice s.g s.G s.cap] w fun e w' => e = .returned (.bool (isM s)) ∧ w' = w := by
  have HF : Hid (isM s = false) := decide_eq_false (by omega)
  have d1 : decide ((s.G : Int) < 1) = false := by simp; omega
  have d2 : decide (255 < (s.G : Int)) = true := by simp; omega
  go_enter Tryd.func45, Tryd.ntmps45
  go_wp2
  go_ret
  exact ⟨by rw [HF.out]; rfl, rfl⟩

theorem refIs_any (s : Sh) (w : World) (h : Rd w s) :
    Calls Tryd.prog 45 #[.slice s.g s.G s.cap] w fun e w' => e = .returned (.bool (isM s)) ∧ w' = w := by
  by_cases a : (s.G : Int) < 1
  · exact refIs_few s w a
  by_cases b : 255 < (s.G : Int)
  · exact refIs_many s w b
  · exact refIs_loop s w h (by omega) (by omega)
end Go.Proofs.YtbmhfclknilcoaaDoor

/- The walks of the reference's Identity and Generator, of the errors of both sides, and of the law's awake. -/
namespace Go.Proofs.YtbmhfclknilcoaaDoor
open Go.RowKit Go.Deep

theorem made_set (w : World) (n r : Nat) (g : Nat → Value) (h : ∀ j, j < n → (if j = r then Value.int .u8 1 else .int .u8 0) = g j) :
    (w.alloc (.cells ((madeCells #[.int .u8 0] n).setIfInBounds r (.int .u8 1)) 5)).rowIs w.heap.size 5 n g := by
  obtain ⟨c, hc, hcs, hcv⟩ := World.rowIs_made w (.int .u8 0) n 5
  have hc' : (w.heap.push (.cells (madeCells #[.int .u8 0] n) 5 (0, 0)))[w.heap.size]? = some (.cells c 5 (0, 0)) := hc
  rw [Array.getElem?_push, if_pos rfl] at hc'
  have e : madeCells #[.int .u8 0] n = c := by simpa using hc'
  rw [e]
  refine ⟨c.setIfInBounds r (.int .u8 1), by show (w.heap.push _)[w.heap.size]? = _; simp, by simpa using hcs, fun i hi => ?_⟩
  rw [Array.getElem?_setIfInBounds, ← h i hi]
  by_cases e1 : i = r
  · subst e1; simp [hcs, hi]
  · rw [if_neg (fun e => e1 e.symm), if_neg e1]
    exact hcv i hi

theorem Gath.congr {w wr : World} {v : Value} {n r : Nat} {B : Nat → Nat} {M M' : Nat → Nat → Nat} (h : Gath w wr v n r B M) (e : ∀ j, j < r → ∀ c, c < n → M j c = M' j c) : Gath w wr v n r B M' :=
  ⟨h.kept, h.own, fun j hj => (h.row j hj).congr (fun c hc => by simp only [By]; rw [e j hj c hc]), h.lo, h.inj, h.ne⟩

set_option maxRecDepth 100000 in
set_option maxHeartbeats 1600000 in
theorem refIdentity_yes (n : Nat) (w : World) (h1 : 1 ≤ (n : Int)) (h2 : (n : Int) ≤ 255) :
    Calls Tryd.prog 43 #[.int .i64 n] w fun e w' => ∃ v B, e = .returned (.tuple #[v, .int .i64 0]) ∧ Gath w w' v n n B (ones n) := by
  have d1 : decide ((n : Int) < 1) = false := by simp; omega
  have d2 : decide (255 < (n : Int)) = false := by simp; omega
  go_enter Tryd.func43, Tryd.ntmps43
  go_wp2
  clear d1 d2
  go_loopg [4, 14] n (fun gk v i wr => ∃ (r : Nat) (B : Nat → Nat), r ≤ n ∧ gk = n - r ∧ i = .int .i64 r ∧ Gath w wr v n r B (ones n))
  case atStart => exact ⟨0, _, Nat.zero_le _, rfl, rfl, Gath.start w n _⟩
  case round =>
    obtain ⟨r, B, hr, rfl, rfl, hGa⟩ := hrel
    by_cases hlt : (r : Int) < (n : Int)
    · have hmk := run_make_row' (P := Tryd.prog) 30 5 (.int .u8 0) 1 Tryd.underlying30 info5 rfl .i64 .i64 n (by omega) (by omega)
      obtain ⟨ti, hi, hz0, hz1, hz2⟩ := info_parts info42
      have hwr := hGa.kept.size
      have hnew := World.rowIs_made wr (.int .u8 0) n 5
      have g1 := hnew.cell (i := r) (by omega)
      have g2 := hnew.frozen r
      clear hnew
      have HR : Hid ((wr.alloc (.cells ((madeCells #[.int .u8 0] n).setIfInBounds r (.int .u8 1)) 5)).rowIs wr.heap.size 5 n (By (ones n r))) := made_set wr n r _ (fun j _ => by
        simp only [By, ones]
        by_cases e : j = r
        · rw [if_pos e, if_pos ⟨by omega, e.symm⟩]; rfl
        · rw [if_neg e, if_neg (by omega)]; rfl)
      have hK : Kp (fun _ => False) wr (wr.alloc (.cells ((madeCells #[.int .u8 0] n).setIfInBounds r (.int .u8 1)) 5)) := (Kp.refl _ _).alloc _
      go_wp2_with (at_builtin; go_must (refine wpList_append_own_at _ rfl _ _ 24 rfl w.heap.size 30 ti (.slice none 0 0) 1 24 Tryd.underlying24 hi hz0 hz1 hz2 rfl (by decide) _ _ _ rfl ((ownsRow_keep hGa.own hK).alloc _) ⟨wr.heap.size + 1, 0, none⟩ 1 1 [.slice (some ⟨wr.heap.size, 0, none⟩) n n] rfl rfl ?c1 (fun x hx => by simp at hx; subst hx; rfl) (by unfold maxLen; omega) (by omega) (by simp; omega) ?_); rotate_right; intro v' w3 hown' hgrow3 hnil3 hblk3)
      case c1 => intro j u hj; simpa using cell_one_new (wr.alloc (.cells ((madeCells #[.int .u8 0] n).setIfInBounds r (.int .u8 1)) 5)) (.slice (some ⟨wr.heap.size, 0, none⟩) n n) 30 j u hj
      go_roundg (n - (r + 1))
      case rel => exact ⟨r + 1, _, by omega, rfl, by go_num, hGa.step hK HR.out hown' hgrow3 hblk3⟩
      case measure => omega
    · have e : r = n := by omega
      subst e
      go_wp2
      go_ret2
      exact ⟨_, rfl, B, hGa⟩

theorem rinv_some (b : Nat) (w : World) (hb : b < 256) (h : b ≠ 0) : Calls Tryd.prog 44 #[.int .u8 ((b : Nat) : Int)] w fun e w' => e = .returned (.tuple #[.int .u8 (Gf.inv b), .int .i64 0]) ∧ w' = w := by
  have := rinv_gen b w (by omega)
  rw [show iq b = Gf.inv b from if_neg h, show de b = 0 from if_neg h] at this
  exact this

set_option maxRecDepth 100000 in
set_option maxHeartbeats 3200000 in
theorem refGenerator_yes (K M : Nat) (w : World) (h1 : 1 ≤ (K : Int)) (h3 : (M : Int) ≤ 255 - (K : Int)) :
    Calls Tryd.prog 24 #[.agg #[.int .i64 K, .int .i64 M]] w fun e w' =>
      ∃ v, e = .returned (.tuple #[v, .int .i64 0]) ∧ Kp (fun _ => False) w w' ∧ Mx w' v (K + M) K (gen K) := by
  have d1 : decide ((K : Int) < 1) = false := by simp; omega
  have d2 : decide ((M : Int) < 0) = false := by simp
  have d3 : decide (255 < (K : Int)) = false := by simp; omega
  have d4 : decide (255 - (K : Int) < (M : Int)) = false := by simp; omega
  go_enter Tryd.func24, Tryd.ntmps24
  go_wp2_with fail
  obtain ⟨wa, hwa⟩ : ∃ x, x = w.alloc (.cells #[.int .i64 (K : Int), .int .i64 (M : Int)] 23) := ⟨_, rfl⟩
  have q1 : wa.cell? ⟨w.heap.size, 0, none⟩ = some (.int .i64 (K : Int)) := by rw [hwa]; go_simp
  have q2 : wa.cell? ⟨w.heap.size, 1, none⟩ = some (.int .i64 (M : Int)) := by rw [hwa]; go_simp
  have k0 : Kp (fun _ => False) w wa := by rw [hwa]; exact (Kp.refl _ _).alloc _
  rw [← hwa]
  refine (refIdentity_yes K wa h1 (by omega)).mono ?_
  rintro e w2 ⟨v0, B0, rfl, hG0⟩
  have s2 := hG0.kept.cellv q2 id
  have hG1 : Gath wa w2 v0 K (K + 0) B0 (gen K) := hG0.congr (fun j hj c _ => by unfold gen; rw [if_pos hj])
  clear hwa d1 d2 d3 d4 hG0
  go_wp2
  clear s2
  go_loopg [4, 38] M (fun gk v x wr => ∃ (i : Nat) (B : Nat → Nat), i ≤ M ∧ gk = M - i ∧ x = .int .i64 i ∧ Gath wa wr v K (K + i) B (gen K))
  case atStart => exact ⟨0, _, Nat.zero_le _, rfl, rfl, hG1⟩
  case round =>
    obtain ⟨i, B, hi, rfl, rfl, hGa⟩ := hrel
    obtain ⟨wr0, rfl⟩ : ∃ x, x = wr := ⟨_, rfl⟩
    clear hG1
    have s1 := hGa.kept.cellv q1 id
    by_cases hlt : (i : Int) < (M : Int)
    · have hmk := run_make_row' (P := Tryd.prog) 30 5 (.int .u8 0) 1 Tryd.underlying30 info5 rfl .i64 .i64 K (by omega) (by omega)
      obtain ⟨ti, hti, hz0, hz1, hz2⟩ := info_parts info42
      have hwr := hGa.kept.size
      have hnew := World.rowIs_made wr0 (.int .u8 0) K 5
      go_wp2
      clear hmk s1
      go_loopg [46] K (fun gk x wq => ∃ k : Nat, k ≤ K ∧ gk = K - k ∧ x = .int .i64 k ∧ Kp (fun _ => False) wr0 wq ∧ wq.heap.size = wr0.heap.size + 1 ∧ wq.rowIs wr0.heap.size 5 K (By (upTo (gen K (K + i)) k)))
      case atStart => exact ⟨0, Nat.zero_le _, rfl, rfl, (Kp.refl _ _).alloc _, by simp, by rw [upTo_zero]; exact hnew⟩
      case round =>
        obtain ⟨k, hk, rfl, rfl, hK, hz, hR⟩ := hrel
        clear hnew
        have s1 := hK.cellv (hGa.kept.cellv q1 id) id
        by_cases hlk : (k : Int) < (K : Int)
        · have e3 := hR.frozen k
          have e2 := hR.cell (i := k) (by omega)
          have hw1 : IntKind.u8.wrap ((K : Int) + (i : Int)) = (K : Int) + (i : Int) := by rw [IntKind.wrap_u8']; omega
          have hw2 : IntKind.u8.wrap (k : Int) = (k : Int) := by rw [IntKind.wrap_u8']; omega
          have hx : bits .xor .u8 ((K : Int) + (i : Int)) (k : Int) = (((K + i) ^^^ k : Nat) : Int) := by
            rw [show (K : Int) + (i : Int) = ((K + i : Nat) : Int) from by simp]
            exact u8_xor_nat _ _ (by omega) (by omega)
          have hb := xor8 (show K + i < 256 by omega) (show k < 256 by omega)
          have hx0 : (K + i) ^^^ k ≠ 0 := xor_ne (by omega)
          have HX : Hid ((K + i) ^^^ k ≠ 0) := hx0
          have HG : Hid (Gf.inv ((K + i) ^^^ k) = gen K (K + i) k) := by
            show _ = _
            unfold gen; rw [if_neg (by omega)]
          clear hx0
          simp only [By] at e2
          go_wp2_with (go_at_call 44; refine (rinv_some ((K + i) ^^^ k) _ hb HX.out).mono ?_; rintro e w' ⟨rfl, rfl⟩)
          go_roundg (K - (k + 1))
          case rel => exact ⟨k + 1, by omega, rfl, by go_num, hK.setCell (fun h => absurd h (Nat.lt_irrefl _)) _, by simpa using hz, (hR.set k _).congr (fun j _ => by
            simp only [By]
            rw [upTo_succ]
            split
            · rw [HG.out]
            · rfl)⟩
          case measure => omega
        · have e : K = k := by omega
          subst e
          have hrowk : wr.rowIs wr0.heap.size 5 K (By (gen K (K + i))) := hR.congr (fun j hj => by simp only [By, upTo]; rw [if_pos hj])
          have HZ : Hid (wr.heap.size = wr0.heap.size + 1) := hz
          clear hz
          go_wp2_with (at_builtin; go_must (refine wpList_append_own_at _ rfl _ _ 24 rfl wa.heap.size 30 ti (.slice none 0 0) 1 24 Tryd.underlying24 hti hz0 hz1 hz2 rfl (by decide) _ _ _ rfl ((ownsRow_keep hGa.own hK).alloc _) ⟨wr.heap.size, 0, none⟩ 1 1 [.slice (some ⟨wr0.heap.size, 0, none⟩) K K] rfl rfl (cell_one_new _ _ _) (fun x hx => by simp at hx; subst hx; rfl) (by unfold maxLen; omega) (by omega) (by simp; have := HZ.out; omega) ?_); intro v' w3 hown' hgrow3 hnil3 hblk3)
          go_roundg (M - (i + 1))
          case rel => exact ⟨i + 1, _, by omega, rfl, by go_num, hGa.step hK hrowk hown' hgrow3 hblk3⟩
          case measure => omega
    · have e : M = i := by omega
      subst e
      obtain ⟨t, cap, rfl, _, hMt⟩ := hGa.mt (by omega) (gen_lt K)
      go_wp2
      go_ret2
      exact ⟨_, rfl, k0.trans hGa.kept (fun _ _ e => e), hMt.mx cap⟩

set_option maxRecDepth 100000 in
set_option maxHeartbeats 800000 in
theorem refIdentity_no (n : Int) (w : World) (h : n < 1 ∨ 255 < n) :
    Calls Tryd.prog 43 #[.int .i64 n] w fun e w' => e = .returned (.tuple #[.slice none 0 0, .int .i64 1]) ∧ w' = w := by
  by_cases h1 : n < 1
  · have d1 : decide (n < 1) = true := by simp; omega
    clear h
    go_enter Tryd.func43, Tryd.ntmps43
    go_wp2
    go_ret2
    exact ⟨rfl, rfl⟩
  · have d1 : decide (n < 1) = false := by simp; omega
    have h2 : 255 < n := by omega
    have d2 : decide (255 < n) = true := by simp; omega
    clear h
    go_enter Tryd.func43, Tryd.ntmps43
    go_wp2
    go_ret2
    exact ⟨rfl, rfl⟩

set_option maxRecDepth 100000 in
set_option maxHeartbeats 800000 in
theorem isCode_no (K M : Int) (w : World) (hw : 1 ≤ K → wrap64 (255 - K) = 255 - K) (h : ¬ (1 ≤ K ∧ 0 ≤ M ∧ M ≤ 255 - K)) :
    Calls Tryd.prog 54 #[.agg #[.int .i64 K, .int .i64 M]] w fun e w' => e = .returned (.bool false) ∧ Kp (fun _ => False) w w' := by
  by_cases h1 : 1 ≤ K
  · have hw' := hw h1
    clear hw
    have d1 : decide (1 ≤ K) = true := by simp; omega
    by_cases h2 : 0 ≤ M
    · have d2 : decide (0 ≤ M) = true := by simp; omega
      have h3 : ¬ M ≤ 255 - K := by omega
      have d3 : decide (M ≤ 255 - K) = false := by simp; omega
      clear h
      go_enter Tryd.func54, Tryd.ntmps54
      go_wp2
      go_ret
      exact ⟨rfl, (Kp.refl _ _).alloc _⟩
    · have d2 : decide (0 ≤ M) = false := by simp; omega
      clear h
      go_enter Tryd.func54, Tryd.ntmps54
      go_wp2
      go_ret
      exact ⟨rfl, (Kp.refl _ _).alloc _⟩
  · have d1 : decide (1 ≤ K) = false := by simp; omega
    clear h hw
    go_enter Tryd.func54, Tryd.ntmps54
    go_wp2
    go_ret
    exact ⟨rfl, (Kp.refl _ _).alloc _⟩

set_option maxRecDepth 100000 in
set_option maxHeartbeats 800000 in
theorem generator_no (K M : Int) (w : World) (hw : 1 ≤ K → wrap64 (255 - K) = 255 - K) (h : ¬ (1 ≤ K ∧ 0 ≤ M ∧ M ≤ 255 - K)) :
    Calls Tryd.prog 37 #[.agg #[.int .i64 K, .int .i64 M]] w fun e w' => e = .returned (.tuple #[.slice none 0 0, .int .i64 1]) ∧ Kp (fun _ => False) w w' := by
  have HC : Hid (∀ w, Calls _ _ _ w _) := fun w => isCode_no K M w hw h
  clear hw h
  go_enter Tryd.func37, Tryd.ntmps37
  go_wp2_with fail
  refine (HC.out _).mono ?_
  rintro e w1 ⟨rfl, k1⟩
  have kk : Kp (fun _ => False) w w1 := ((Kp.refl _ w).alloc _).trans k1 (fun _ _ e => e)
  go_wp2
  go_ret2
  exact ⟨rfl, kk⟩

set_option maxRecDepth 100000 in
set_option maxHeartbeats 800000 in
theorem refGenerator_no (K M : Int) (w : World) (h : ¬ (1 ≤ K ∧ 0 ≤ M ∧ M ≤ 255 - K)) :
    Calls Tryd.prog 24 #[.agg #[.int .i64 K, .int .i64 M]] w fun e w' => e = .returned (.tuple #[.slice none 0 0, .int .i64 1]) ∧ Kp (fun _ => False) w w' := by
  by_cases h1 : K < 1
  · have d1 : decide (K < 1) = true := by simp; omega
    clear h
    go_enter Tryd.func24, Tryd.ntmps24
    go_wp2
    go_ret2
    exact ⟨rfl, (Kp.refl _ _).alloc _⟩
  · have d1 : decide (K < 1) = false := by simp; omega
    by_cases h2 : M < 0
    · have d2 : decide (M < 0) = true := by simp; omega
      clear h
      go_enter Tryd.func24, Tryd.ntmps24
      go_wp2
      go_ret2
      exact ⟨rfl, (Kp.refl _ _).alloc _⟩
    · have d2 : decide (M < 0) = false := by simp; omega
      by_cases h3 : 255 < K
      · have d3 : decide (255 < K) = true := by simp; omega
        clear h
        go_enter Tryd.func24, Tryd.ntmps24
        go_wp2
        go_ret2
        exact ⟨rfl, (Kp.refl _ _).alloc _⟩
      · have d3 : decide (255 < K) = false := by simp; omega
        have h4 : 255 - K < M := by omega
        have d4 : decide (255 - K < M) = true := by simp; omega
        clear h
        go_enter Tryd.func24, Tryd.ntmps24
        go_wp2
        go_ret2
        exact ⟨rfl, (Kp.refl _ _).alloc _⟩

set_option maxRecDepth 100000 in
set_option maxHeartbeats 800000 in
theorem sameNil (w : World) : Calls Tryd.prog 11 #[.slice none 0 0, .slice none 0 0] w fun e w' => e = .returned (.bool true) ∧ w' = w :=
  sameTexts_same ⟨none, 0, 0, 0, 0, fun _ => none, fun _ => 0, fun _ => 0, fun _ => 0, fun _ => 0, fun _ _ => 0⟩ ⟨none, 0, 0, 0, 0, fun _ => none, fun _ => 0, fun _ => 0, fun _ => 0, fun _ => 0, fun _ _ => 0⟩ w
    ⟨fun h => absurd h (Nat.not_lt_zero _), fun _ h => absurd h (Nat.not_lt_zero _), fun _ h => absurd h (Nat.not_lt_zero _), fun _ h => absurd h (Nat.not_lt_zero _), fun _ _ => by show 0 < 256; omega⟩
    ⟨fun h => absurd h (Nat.not_lt_zero _), fun _ h => absurd h (Nat.not_lt_zero _), fun _ h => absurd h (Nat.not_lt_zero _), fun _ h => absurd h (Nat.not_lt_zero _), fun _ _ => by show 0 < 256; omega⟩ rfl (fun _ _ => rfl) (fun _ h => absurd h (Nat.not_lt_zero _)) (by show ((0 : Nat) : Int) ≤ _; omega)
end Go.Proofs.YtbmhfclknilcoaaDoor

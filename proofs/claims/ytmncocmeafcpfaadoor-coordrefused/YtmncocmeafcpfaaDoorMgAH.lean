/- Texts of this proof, joined: MfM2, MfM6, MfR1, MfM3. -/
import Derived.Test.YtmncocmeafcpfaaDoorMgAG
import Derived.Test.YtmncocmeafcpfaaDoorMgAE
import Derived.Laws.CopyOwn
import Derived.OwnWalk
import Derived.Laws.BytesArg
import Derived.Laws.BytesString
/- The walks of matrix.copyRow, onesAbove, Identity and isMatrix. -/
namespace Go.Proofs.YtmncocmeafcpfaaDoor.Mf
open Go.RowKit Go.Deep

theorem size5 : (Tryd.prog.info? 5).map (·.size) = some 1 := by kernel_rfl
theorem size42 : (Tryd.prog.info? 22).map (·.size) = some 1 := by kernel_rfl

theorem addr_add (b o j : Nat) : (⟨b, o, none⟩ : Addr).add j = ⟨b, o + j, none⟩ := by simp [Addr.add]

/-- the values of a row's first n bytes -/
def vals (f : Nat → Nat) (n : Nat) : List Value := (List.range n).map (By f)
theorem vals_length (f : Nat → Nat) (n : Nat) : (vals f n).length = n := by simp [vals]
theorem vals_get {f : Nat → Nat} {n j : Nat} {v : Value} (h : (vals f n)[j]? = some v) : j < n ∧ v = .int .u8 ((f j : Nat) : Int) := by
  unfold vals at h
  rw [List.getElem?_map] at h
  by_cases hj : j < n
  · rw [List.getElem?_range hj] at h
    exact ⟨hj, by simpa [By] using h.symm⟩
  · rw [List.getElem?_eq_none (by simpa using hj)] at h
    simp at h
theorem vals_at (f : Nat → Nat) {n j : Nat} (h : j < n) : (vals f n)[j]? = some (.int .u8 ((f j : Nat) : Int)) := by
  unfold vals
  rw [List.getElem?_map, List.getElem?_range h]; rfl
theorem vals_one (f : Nat → Nat) (n : Nat) : ∀ v ∈ vals f n, v.oneCell' = true := by
  intro v hv
  obtain ⟨j, hj⟩ := List.getElem?_of_mem hv
  obtain ⟨_, rfl⟩ := vals_get hj
  rfl

set_option maxRecDepth 100000 in
set_option maxHeartbeats 800000 in
theorem copyRow_any (src : Option Addr) (br ob n c : Nat) (f : Nat → Nat) (w : World) (hsrc : ∀ k, k < n → src = some ⟨br, ob, none⟩)
    (hr : ∀ k, k < n → w.cell? ⟨br, ob + k, none⟩ = some (.int .u8 ((f k : Nat) : Int))) (hn : (n : Int) ≤ 1000000) :
    Calls Tryd.prog 139 #[.slice src n c] w fun e w' =>
      e = .returned (.slice (some ⟨w.heap.size, 0, none⟩) n n) ∧ Kp (fun _ => False) w w' ∧ w'.rowIs w.heap.size 5 n (By f) := by
  have hmk := run_make_row' (P := Tryd.prog) 22 5 (.int .u8 0) 1 Tryd.underlying22 info5 rfl .i64 .i64 n (by omega) (by omega)
  obtain ⟨c0, hc1, hc2, _⟩ := World.rowIs_made w (.int .u8 0) n 5
  have HC : Hid ((w.alloc (.cells (madeCells #[.int .u8 0] n) 5)).heap[w.heap.size]? = some (.cells c0.toList.toArray 5 (0, 0))) := hc1
  have HZ : Hid (c0.size = n) := hc2
  clear hc1 hc2
  have HS : Hid (∀ k, k < n → src = some ⟨br, ob, none⟩) := hsrc
  have HR : Hid (∀ k, k < n → w.cell? ⟨br, ob + k, none⟩ = some (.int .u8 ((f k : Nat) : Int))) := hr
  clear hsrc hr
  go_enter Tryd.func139, Tryd.ntmps139
  go_wp2_with (refine wpList_copy_splice rfl (.tmp 7) (.tmp 8) 22 22 rfl 5 Tryd.underlying22 size5 _ _ _ _ _ _ rfl rfl w.heap.size 0 c0.toList 5 HC.out (vals f n) ?hn ?hpos ?hfit (vals_one f n) w.heap.size w ((Below.refl _ _).alloc (Nat.le_refl _) _) (Nat.le_refl _) ?hrest)
  case hn => simp [vals_length]
  case hfit => rw [vals_length]; simp [HZ.out]
  case hpos =>
    intro h0
    rw [vals_length] at h0
    refine ⟨⟨br, ob, none⟩, HS.out 0 h0, fun j v hj => ?_⟩
    obtain ⟨hlt, rfl⟩ := vals_get hj
    have := HR.out j hlt
    rw [addr_add, World.cell?_alloc_old _ _ _ (by have := World.block_lt_of_cell? _ _ this; simp at this; show br ≠ w.heap.size; omega)]
    exact this
  intro w4 hg4 hb4
  go_wp2
  go_ret
  have hL : (c0.toList.drop (vals f n).length) = [] := List.drop_eq_nil_of_le (by rw [vals_length]; simp [HZ.out])
  refine ⟨rfl, Kp.of_below hb4, _, hg4.out, ?_, fun i hi => ?_⟩
  · simp [splice, vals_length, HZ.out]
  · have := vals_at f hi
    simpa [splice, hL] using this

set_option maxRecDepth 100000 in
set_option maxHeartbeats 800000 in
theorem onesAbove_any (R C : Nat) (w : World) (hR : (R : Int) ≤ 1000) (hC : (C : Int) ≤ (R : Int)) :
    Calls Tryd.prog 135 #[.int .i64 R, .int .i64 C] w fun e w' =>
      e = .returned (.slice (some ⟨w.heap.size, 0, none⟩) R R) ∧ Kp (fun _ => False) w w' ∧ w'.heap.size = w.heap.size + 1 + R ∧ Mat w' w.heap.size (fun i => w.heap.size + 1 + i) R C (ones C) := by
  go_enter Tryd.func135, Tryd.ntmps135
  go_wp2_with fail
  refine (noughts_any R C w hR (by omega)).mono ?_
  rintro e w1 ⟨rfl, hK1, hz1, hM1⟩
  go_wp2
  go_loopg [11] C (fun gk i wr => ∃ k : Nat, k ≤ C ∧ gk = C - k ∧ i = .int .i64 k ∧ Kp (fun _ => False) w wr ∧ wr.heap.size = w.heap.size + 1 + R ∧ Mat wr w.heap.size (fun i => w.heap.size + 1 + i) R C (ones k))
  case atStart => exact ⟨0, Nat.zero_le _, rfl, rfl, hK1, hz1, by rw [ones_zero]; exact hM1⟩
  case round =>
    obtain ⟨k, hk, rfl, rfl, hK, hz, hM⟩ := hrel
    clear hK1 hz1 hM1
    by_cases hlt : (k : Int) < (C : Int)
    · have e1 := hM.top.cell (i := k) (by omega)
      have e2 := (hM.row k (by omega)).cell (i := k) (by omega)
      have e3 := (hM.row k (by omega)).frozen k
      simp only [By] at e1 e2
      go_wp2
      go_roundg (C - (k + 1))
      case rel => exact ⟨k + 1, by omega, rfl, by go_num, hK.setCell (fun h => absurd h (by show ¬ w.heap.size + 1 + k < w.heap.size; omega)) _, by simpa using hz,
        ⟨hM.top.setOther (by show w.heap.size ≠ w.heap.size + 1 + k; omega) _, fun i hi => by
          by_cases e : i = k
          · subst e
            exact ((hM.row i hi).set i _).congr (fun j _ => by
              simp only [By]
              rw [ones_succ_here]
              split <;> rfl)
          · exact ((hM.row i hi).setOther (by show w.heap.size + 1 + i ≠ w.heap.size + 1 + k; omega) _).congr (fun j _ => by simp only [By]; rw [ones_succ_other k i j e]), hM.inj, hM.ne, ones_lt _⟩⟩
      case measure => omega
    · have e : k = C := by omega
      subst e
      go_wp2
      go_ret
      exact ⟨rfl, hK, hz, hM⟩

/-- whether texts are a matrix -/
def isM (s : Sh) : Bool := decide (1 ≤ s.G ∧ s.G ≤ 255 ∧ 1 ≤ s.L 0 ∧ s.L 0 ≤ 255 ∧ ∀ r, r < s.G → s.L r = s.L 0)

set_option maxRecDepth 100000 in
set_option maxHeartbeats 800000 in
theorem isMatrix_loop (s : Sh) (w : World) (h : Rd w s) (hG : (s.G : Int) ≤ 255) (h0 : 1 ≤ (s.G : Int)) (h1 : 1 ≤ (s.L 0 : Int)) (h2 : (s.L 0 : Int) ≤ 255) :
    Calls Tryd.prog 138 #[.slice s.g s.G s.cap] w fun e w' => e = .returned (.bool (isM s)) ∧ w' = w := by
  have hg := h.at0 (by omega)
  rw [hg]
  have c0 := h.hd 0 (by omega)
  have d1 : decide ((s.G : Int) < 1) = false := by simp; omega
  have d2 : decide (255 < (s.G : Int)) = false := by simp; omega
  have d3 : decide ((s.L 0 : Int) < 1) = false := by simp; omega
  have d4 : decide (255 < (s.L 0 : Int)) = false := by simp; omega
  simp only [Nat.add_zero] at c0
  go_enter Tryd.func138, Tryd.ntmps138
  go_wp2
  go_loopg [29] s.G (fun gk i wr => ∃ k : Nat, k ≤ s.G ∧ gk = s.G - k ∧ i = .int .i64 k ∧ (Hid (∀ r, r < k → s.L r = s.L 0)) ∧ wr = w)
  case atStart => exact ⟨0, Nat.zero_le _, rfl, rfl, fun r hr => absurd hr (Nat.not_lt_zero _), rfl⟩
  case round =>
    obtain ⟨k, hk, rfl, rfl, hr, rfl⟩ := hrel
    by_cases hlt : (k : Int) < (s.G : Int)
    · have ck := h.hd k (by omega)
      by_cases he : s.L k = s.L 0
      · have hq : ((s.L k : Int) != (s.L 0 : Int)) = false := by rw [he]; exact bne_self_eq_false _
        have HE : Hid (s.L k = s.L 0) := he
        clear he
        go_wp2
        go_roundg (s.G - (k + 1))
        case rel => exact ⟨k + 1, by omega, rfl, by go_num, fun r hr' => by
          by_cases e : r = k
          · rw [e]; exact HE.out
          · exact hr.out r (by omega), rfl⟩
        case measure => omega
      · have hq : ((s.L k : Int) != (s.L 0 : Int)) = true := bne_iff_ne.2 (by omega)
        have HF : Hid (isM s = false) := decide_eq_false (fun hx => he (hx.2.2.2.2 k (by omega)))
        clear he
        go_wp2
        go_ret
        exact ⟨by rw [HF.out]; rfl, rfl⟩
    · have e : k = s.G := by omega
      have HT : Hid (isM s = true) := decide_eq_true ⟨by omega, by omega, by omega, by omega, fun r hr' => hr.out r (by omega)⟩
      clear e
      go_wp2
      go_ret
      exact ⟨by rw [HT.out]; rfl, rfl⟩

set_option maxRecDepth 100000 in
set_option maxHeartbeats 800000 in
theorem isMatrix_few (s : Sh) (w : World) (hG : (s.G : Int) < 1) :
    Calls Tryd.prog 138 #[.slice s.g s.G s.cap] w fun e w' => e = .returned (.bool (isM s)) ∧ w' = w := by
  have HF : Hid (isM s = false) := decide_eq_false (by omega)
  have d1 : decide ((s.G : Int) < 1) = true := by simp; omega
  go_enter Tryd.func138, Tryd.ntmps138
  go_wp2
  go_ret
  exact ⟨by rw [HF.out]; rfl, rfl⟩

set_option maxRecDepth 100000 in
set_option maxHeartbeats 800000 in
theorem isMatrix_many (s : Sh) (w : World) (hG : 255 < (s.G : Int)) :
    Calls Tryd.prog 138 #[.slice s.g s.G s.cap] w fun e w' => e = .returned (.bool (isM s)) ∧ w' = w := by
  have HF : Hid (isM s = false) := decide_eq_false (by omega)
  have d1 : decide ((s.G : Int) < 1) = false := by simp; omega
  have d2 : decide (255 < (s.G : Int)) = true := by simp; omega
  go_enter Tryd.func138, Tryd.ntmps138
  go_wp2
  go_ret
  exact ⟨by rw [HF.out]; rfl, rfl⟩

set_option maxRecDepth 100000 in
set_option maxHeartbeats 800000 in
theorem isMatrix_thin (s : Sh) (w : World) (h : Rd w s) (hG : (s.G : Int) ≤ 255) (h0 : 1 ≤ (s.G : Int)) (h1 : (s.L 0 : Int) < 1) :
    Calls Tryd.prog 138 #[.slice s.g s.G s.cap] w fun e w' => e = .returned (.bool (isM s)) ∧ w' = w := by
  have HF : Hid (isM s = false) := decide_eq_false (by omega)
  have hg := h.at0 (by omega)
  rw [hg]
  have c0 := h.hd 0 (by omega)
  simp only [Nat.add_zero] at c0
  have d1 : decide ((s.G : Int) < 1) = false := by simp; omega
  have d2 : decide (255 < (s.G : Int)) = false := by simp; omega
  have d3 : decide ((s.L 0 : Int) < 1) = true := by simp; omega
  go_enter Tryd.func138, Tryd.ntmps138
  go_wp2
  go_ret
  exact ⟨by rw [HF.out]; rfl, rfl⟩

set_option maxRecDepth 100000 in
set_option maxHeartbeats 800000 in
theorem isMatrix_wide (s : Sh) (w : World) (h : Rd w s) (hG : (s.G : Int) ≤ 255) (h0 : 1 ≤ (s.G : Int)) (h1 : 255 < (s.L 0 : Int)) :
    Calls Tryd.prog 138 #[.slice s.g s.G s.cap] w fun e w' => e = .returned (.bool (isM s)) ∧ w' = w := by
  have HF : Hid (isM s = false) := decide_eq_false (by omega)
  have hg := h.at0 (by omega)
  rw [hg]
  have c0 := h.hd 0 (by omega)
  simp only [Nat.add_zero] at c0
  have d1 : decide ((s.G : Int) < 1) = false := by simp; omega
  have d2 : decide (255 < (s.G : Int)) = false := by simp; omega
  have d3 : decide ((s.L 0 : Int) < 1) = false := by simp; omega
  have d4 : decide (255 < (s.L 0 : Int)) = true := by simp; omega
  go_enter Tryd.func138, Tryd.ntmps138
  go_wp2
  go_ret
  exact ⟨by rw [HF.out]; rfl, rfl⟩

theorem isM_true {s : Sh} (h : isM s = true) : 1 ≤ s.G ∧ s.G ≤ 255 ∧ 1 ≤ s.L 0 ∧ s.L 0 ≤ 255 ∧ ∀ r, r < s.G → s.L r = s.L 0 := of_decide_eq_true h

theorem isMatrix_any (s : Sh) (w : World) (h : Rd w s) :
    Calls Tryd.prog 138 #[.slice s.g s.G s.cap] w fun e w' => e = .returned (.bool (isM s)) ∧ w' = w := by
  by_cases a : (s.G : Int) < 1
  · exact isMatrix_few s w a
  by_cases b : 255 < (s.G : Int)
  · exact isMatrix_many s w b
  by_cases c : (s.L 0 : Int) < 1
  · exact isMatrix_thin s w h (by omega) (by omega) c
  by_cases d : 255 < (s.L 0 : Int)
  · exact isMatrix_wide s w h (by omega) (by omega) d
  · exact isMatrix_loop s w h (by omega) (by omega) (by omega) (by omega)
end Go.Proofs.YtmncocmeafcpfaaDoor.Mf

/- The walk of matrix.Rows: some rows, or the error. -/
namespace Go.Proofs.YtmncocmeafcpfaaDoor.Mf
open Go.RowKit Go.Deep

/-- the headers of new rows at B, when r are made -/
def heads2 (B : Nat → Nat) (C r : Nat) : Nat → Value := fun j => if j < r then .slice (some ⟨B j, 0, none⟩) C C else .slice none 0 0
theorem heads2_succ (B : Nat → Nat) (C r g j : Nat) : heads2 (fun i => if i = r then g else B i) C (r + 1) j = if j = r then .slice (some ⟨g, 0, none⟩) C C else heads2 B C r j := by
  unfold heads2
  by_cases e : j = r
  · subst e; simp
  · rw [if_neg e]
    by_cases h : j < r
    · rw [if_pos h, if_pos (by omega)]; simp [e]
    · rw [if_neg h, if_neg (by omega)]

/-- r rows of the new matrix at t are made -/
structure Part (w wr : World) (t n C r : Nat) (B : Nat → Nat) (M : Nat → Nat → Nat) : Prop where
  kept : Kp (fun _ => False) w wr
  top : wr.rowIs t 22 n (heads2 B C r)
  row : ∀ j, j < r → wr.rowIs (B j) 5 C (By (M j))
  lo : ∀ j, j < r → t < B j
  inj : ∀ i j, i < r → j < r → B i = B j → i = j
theorem Part.start (w : World) (n C : Nat) (M : Nat → Nat → Nat) : Part w (w.alloc (.cells (madeCells #[.slice none 0 0] n) 22)) w.heap.size n C 0 (fun _ => 0) M :=
  ⟨(Kp.refl _ _).alloc _, (World.rowIs_made w _ n 22).congr (fun j _ => by simp [heads2]), fun _ h => absurd h (Nat.not_lt_zero _), fun _ h => absurd h (Nat.not_lt_zero _), fun _ _ h => absurd h (Nat.not_lt_zero _)⟩
theorem Part.step {w wr w2 : World} {t n C r : Nat} {B : Nat → Nat} {M : Nat → Nat → Nat} (h : Part w wr t n C r B M) (ht : w.heap.size ≤ t) (k : Kp (fun _ => False) wr w2) (hr : w2.rowIs wr.heap.size 5 C (By (M r))) :
    Part w (w2.setCell ⟨t, r, none⟩ (.slice (some ⟨wr.heap.size, 0, none⟩) C C)) t n C (r + 1) (fun i => if i = r then wr.heap.size else B i) M := by
  have htl := h.top.lt
  refine ⟨(h.kept.trans k (fun _ _ e => e.elim)).setCell (fun hh => absurd hh (by show ¬ t < w.heap.size; omega)) _, ((k.row h.top id).set r _).congr (fun j _ => by rw [heads2_succ]), fun j hj => ?_, fun j hj => ?_, fun i j hi hj e => ?_⟩
  · by_cases e : j = r
    · subst e; simp only [if_true]
      exact hr.setOther (by show wr.heap.size ≠ t; omega) _
    · simp only [if_neg e]
      exact (k.row (h.row j (by omega)) id).setOther (by show B j ≠ t; have := h.lo j (by omega); omega) _
  · by_cases e : j = r
    · simp only [if_pos e]; exact htl
    · simp only [if_neg e]; exact h.lo j (by omega)
  · by_cases e1 : i = r <;> by_cases e2 : j = r
    · omega
    · simp only [if_pos e1, if_neg e2] at e
      have := (h.row j (by omega)).lt
      omega
    · simp only [if_neg e1, if_pos e2] at e
      have := (h.row i (by omega)).lt
      omega
    · simp only [if_neg e1, if_neg e2] at e
      exact h.inj i j (by omega) (by omega) e
theorem Part.mat {w wr : World} {t n C : Nat} {B : Nat → Nat} {M : Nat → Nat → Nat} (h : Part w wr t n C n B M) (hM : ∀ i j, M i j < 256) : Mat wr t B n C M :=
  ⟨h.top.congr (fun i hi => by simp [heads2, hi]), h.row, h.inj, fun i hi => by have := h.lo i hi; omega, hM⟩

set_option maxRecDepth 100000 in
set_option maxHeartbeats 1600000 in
theorem rows_ok (s : Sh) (pl : Option Addr) (bl ol n cl : Nat) (l : Nat → Nat) (w : World) (hs : Rd w s) (ms : isM s = true) (hpl : ∀ k, k < n → pl = some ⟨bl, ol, none⟩)
    (hl : ∀ k, k < n → w.cell? ⟨bl, ol + k, none⟩ = some (.int .i64 ((l k : Nat) : Int))) (hn : ∀ k, k < n → l k < s.G) (h1 : 1 ≤ (n : Int)) (h2 : (n : Int) ≤ 255) :
    Calls Tryd.prog 123 #[.slice s.g s.G s.cap, .slice pl n cl] w fun e w' =>
      ∃ B, e = .returned (.tuple #[.slice (some ⟨w.heap.size, 0, none⟩) n n, .int .i64 0]) ∧ Part w w' w.heap.size n (s.L 0) n B (fun r => s.M (l r)) := by
  obtain ⟨a1, a2, a3, a4, a5⟩ := isM_true ms
  have HS : Hid (Calls _ _ _ w _) := isMatrix_any s w hs
  rw [ms] at HS
  have HG1 := hs.at0 (by omega)
  rw [HG1] at HS ⊢
  obtain rfl := hpl 0 (by omega)
  have HA : Hid (∀ r, r < s.G → s.L r = s.L 0) := a5
  have d1 : decide ((n : Int) < 1) = false := by simp; omega
  have d2 : decide (255 < (n : Int)) = false := by simp; omega
  have hmk := run_make_row' (P := Tryd.prog) 27 22 (.slice none 0 0) 24 Tryd.underlying27 info42 rfl .i64 .i64 n (by omega) (by omega)
  clear ms HG1 a5
  go_enter Tryd.func123, Tryd.ntmps123
  go_wp2_with fail
  refine HS.out.mono ?_
  rintro e w' ⟨rfl, hw⟩
  obtain rfl := hw.symm
  go_wp2
  clear HS hmk d1 d2
  go_loopg [27] n (fun gk i wr => ∃ (r : Nat) (B : Nat → Nat), r ≤ n ∧ gk = n - r ∧ i = .int .i64 r ∧ Part w wr w.heap.size n (s.L 0) r B (fun r => s.M (l r)))
  case atStart => exact ⟨0, _, Nat.zero_le _, rfl, rfl, Part.start w n _ _⟩
  case round =>
    obtain ⟨r, B, hr, rfl, rfl, hP⟩ := hrel
    by_cases hlt : (r : Int) < (n : Int)
    · have hlr := hn r (by omega)
      have f1 := hP.kept.cellv (hl r (by omega)) id
      have f2 := hP.kept.cellv (hs.hd (l r) hlr) id
      rw [HA.out _ hlr] at f2
      have d1 : decide (((l r : Nat) : Int) < 0) = false := by simp
      have d2 : decide ((s.G : Int) ≤ ((l r : Nat) : Int)) = false := by simp; omega
      have hcp : Hid (Calls _ _ _ wr _) := copyRow_any (s.A (l r)) (s.RB (l r)) (s.RO (l r)) (s.L 0) (s.C (l r)) (s.M (l r)) wr (fun k hk => hs.to (l r) hlr k (by rw [HA.out _ hlr]; exact hk)) (fun k hk => hP.kept.cellv (hs.cell (l r) hlr k (by rw [HA.out _ hlr]; exact hk)) id) (by omega)
      have g2 : ∀ w2, Kp (fun _ => False) wr w2 → w2.frozen? ⟨w.heap.size, r, none⟩ = false ∧ w2.cell? ⟨w.heap.size, r, none⟩ = some (heads2 B (s.L 0) r r) := fun w2 k => ⟨(k.row hP.top id).frozen r, (k.row hP.top id).cell (by omega)⟩
      have HG : Hid (∀ w2, Kp (fun _ => False) wr w2 → w2.frozen? ⟨w.heap.size, r, none⟩ = false ∧ w2.cell? ⟨w.heap.size, r, none⟩ = some (heads2 B (s.L 0) r r)) := g2
      clear g2
      go_wp2_with fail
      refine hcp.out.mono ?_
      rintro e w2 ⟨rfl, hK2, hR2⟩
      obtain ⟨g3, g4⟩ := HG.out w2 hK2
      go_wp2
      go_roundg (n - (r + 1))
      case rel => exact ⟨r + 1, _, by omega, rfl, by go_num, hP.step (Nat.le_refl _) hK2 hR2⟩
      case measure => omega
    · have e : r = n := by omega
      subst e
      go_wp2
      go_ret2
      exact ⟨rfl, B, hP⟩
end Go.Proofs.YtmncocmeafcpfaaDoor.Mf

/- The walks of reed.addTimes, mix and mixAll. -/
namespace Go.Proofs.YtmncocmeafcpfaaDoor.Mf
open Go.RowKit Go.Deep

set_option maxRecDepth 100000 in
set_option maxHeartbeats 800000 in
theorem raddTimes_walk (bt ot nt n' c1 : Nat) (src : Option Addr) (br ob n c2 : Nat) (f g : Nat → Nat) (c : Nat) (w : World) (hf : ∀ j, f j < 256) (hg : ∀ j, g j < 256) (hc : (c : Int) < 256)
    (ht : w.rowIs bt 5 nt (By f)) (hsrc : ∀ k, k < n → src = some ⟨br, ob, none⟩) (hr : ∀ k, k < n → w.cell? ⟨br, ob + k, none⟩ = some (.int .u8 ((g k : Nat) : Int))) (hne : br ≠ bt)
    (h1 : ot + n ≤ nt) (h2 : (n : Int) ≤ (n' : Int)) (hp : Pows w) (hgl : bt ≠ 1) (hn : (n : Int) ≤ 1000000) (hc0 : ((c : Int) == 0) = false) :
    Calls Tryd.prog 152 #[.slice (some ⟨bt, ot, none⟩) n' c1, .slice src n c2, .int .u8 c] w fun e w' =>
      e = .returned (.tuple #[]) ∧ Kp (fun b => b = bt) w w' ∧ w'.heap.size = w.heap.size ∧ w'.rowIs bt 5 nt (By (plusRow f g c ot n)) := by
  go_enter Tryd.func152, Tryd.ntmps152
  go_wp2
  go_loopg [12] n (fun gk i wr => ∃ k : Nat, k ≤ n ∧ gk = n - k ∧ i = .int .i64 k ∧ Kp (fun b => b = bt) w wr ∧ wr.heap.size = w.heap.size ∧ wr.rowIs bt 5 nt (By (plusRow f g c ot k)))
  case atStart => exact ⟨0, Nat.zero_le _, rfl, rfl, Kp.refl _ _, rfl, by rw [plusRow_zero]; exact ht⟩
  case round =>
    obtain ⟨k, hk, rfl, rfl, hK, hz, hR⟩ := hrel
    by_cases hlt : (k : Int) < (n : Int)
    · obtain rfl := hsrc k (by omega)
      have e1 := hK.cellv (hr k (by omega)) hne
      have e2 := hR.cell (i := ot + k) (by omega)
      have e3 := hR.frozen (ot + k)
      have l1 := hg k
      have l2 := hf (ot + k)
      have l3 := Gf.mul_lt (g k) c
      have hpr := hK.pows hp (fun e => hgl e.symm)
      simp only [By, plusRow_here] at e1 e2
      clear hr hsrc
      go_wp2
      go_region_with
        (first
          | (go_at_call 149; refine (mul_nat (g k) c _ (by omega) hc (by exact hpr.heap rfl)).mono ?_; rintro e w' ⟨rfl, m, rfl⟩)
          | (go_at_call 137; refine (add_nat (f (ot + k)) (Gf.mul (g k) c) _ (by omega) (by omega)).mono ?_; rintro e w' ⟨rfl, rfl⟩))
      all_goals go_wp2
      all_goals
        go_roundg (n - (k + 1))
        case rel => exact ⟨k + 1, by omega, rfl, by go_num, (hK.drewN _).setCell (fun _ => rfl) _, by simpa using hz, (rowIs_drewN hR _).set (ot + k) _ |>.congr (fun j _ => by
          simp only [By]
          rw [plusRow_succ]
          split <;> rfl)⟩
        case measure => omega
    · have e : k = n := by omega
      subst e
      go_wp2
      go_end0
      exact ⟨rfl, hK, hz, hR⟩

set_option maxRecDepth 100000 in
set_option maxHeartbeats 800000 in
theorem raddTimes_none (to row : Value) (f g : Nat → Nat) (ot n : Nat) (nt bt : Nat) (w : World) (ht : w.rowIs bt 5 nt (By f)) :
    Calls Tryd.prog 152 #[to, row, .int .u8 0] w fun e w' =>
      e = .returned (.tuple #[]) ∧ Kp (fun b => b = bt) w w' ∧ w'.heap.size = w.heap.size ∧ w'.rowIs bt 5 nt (By (plusRow f g 0 ot n)) := by
  have hR : w.rowIs bt 5 nt (By (plusRow f g 0 ot n)) := by rw [plusRow_none]; exact ht
  have HR : Hid (w.rowIs bt 5 nt (By (plusRow f g 0 ot n))) := hR
  clear hR ht
  go_enter Tryd.func152, Tryd.ntmps152
  go_wp2
  refine bodyPost_ret (results_none rfl _ _ _) rfl ?_
  exact ⟨rfl, Kp.refl _ _, rfl, HR.out⟩

theorem raddTimes_any (bt ot nt n' c1 : Nat) (src : Option Addr) (br ob n c2 : Nat) (f g : Nat → Nat) (c : Nat) (w : World) (hf : ∀ j, f j < 256) (hg : ∀ j, g j < 256) (hc : (c : Int) < 256)
    (ht : w.rowIs bt 5 nt (By f)) (hsrc : ∀ k, k < n → src = some ⟨br, ob, none⟩) (hr : ∀ k, k < n → w.cell? ⟨br, ob + k, none⟩ = some (.int .u8 ((g k : Nat) : Int))) (hne : br ≠ bt)
    (h1 : ot + n ≤ nt) (h2 : (n : Int) ≤ (n' : Int)) (hp : Pows w) (hgl : bt ≠ 1) (hn : (n : Int) ≤ 1000000) :
    Calls Tryd.prog 152 #[.slice (some ⟨bt, ot, none⟩) n' c1, .slice src n c2, .int .u8 c] w fun e w' =>
      e = .returned (.tuple #[]) ∧ Kp (fun b => b = bt) w w' ∧ w'.heap.size = w.heap.size ∧ w'.rowIs bt 5 nt (By (plusRow f g c ot n)) := by
  by_cases h : c = 0
  · subst h
    exact raddTimes_none _ _ f g ot n nt bt w ht
  · exact raddTimes_walk bt ot nt n' c1 src br ob n c2 f g c w hf hg hc ht hsrc hr hne h1 h2 hp hgl hn (beq_eq_false_iff_ne.2 (by omega))

/-- the sum of the first k shards, each times its factor -/
def sumTo (f : Nat → Nat) (M : Nat → Nat → Nat) (k : Nat) : Nat → Nat := fun p => xsum (fun x => Gf.mul (M x p) (f x)) k
theorem sumTo_lt (f : Nat → Nat) (M : Nat → Nat → Nat) (k p : Nat) : sumTo f M k p < 256 := xsum_lt (fun _ => Gf.mul_lt _ _) k
theorem sumTo_step (f : Nat → Nat) (M : Nat → Nat → Nat) (k n p : Nat) (hp : p < n) : plusRow (sumTo f M k) (M k) (f k) 0 n p = sumTo f M (k + 1) p := by
  unfold plusRow sumTo
  rw [if_pos (by omega), Nat.sub_zero]
  rfl

set_option maxRecDepth 100000 in
set_option maxHeartbeats 800000 in
theorem mixStep_any (bt n fb bf og nf cf : Nat) (src : Option Addr) (br ob c2 k : Nat) (f g : Nat → Nat) (c : Nat) (w : World) (hf : ∀ j, f j < 256) (hg : ∀ j, g j < 256) (hc : (c : Int) < 256)
    (ht : w.rowIs bt 5 n (By f)) (hsrc : ∀ k, k < n → src = some ⟨br, ob, none⟩) (hr : ∀ k, k < n → w.cell? ⟨br, ob + k, none⟩ = some (.int .u8 ((g k : Nat) : Int))) (hne : br ≠ bt)
    (hb : w.cell? ⟨fb, 0, none⟩ = some (.slice (some ⟨bf, og, none⟩) nf cf)) (hk : (k : Int) < (nf : Int)) (hfc : w.cell? ⟨bf, og + k, none⟩ = some (.int .u8 ((c : Nat) : Int)))
    (hp : Pows w) (hgl : bt ≠ 1) (hn : (n : Int) ≤ 1000000) :
    Calls Tryd.prog 151 #[.slice (some ⟨bt, 0, none⟩) n n, .int .i64 k, .slice src n c2, .pointer (some ⟨fb, 0, none⟩)] w fun e w' =>
      e = .returned (.slice (some ⟨bt, 0, none⟩) n n) ∧ Kp (fun b => b = bt) w w' ∧ w'.heap.size = w.heap.size ∧ w'.rowIs bt 5 n (By (plusRow f g c 0 n)) := by
  have HA : Hid (Calls _ _ _ w _) := raddTimes_any bt 0 n n n src br ob n c2 f g c w hf hg hc ht hsrc hr hne (by omega) (by omega) hp hgl hn
  clear ht hsrc hr hf hg hp
  go_enter Tryd.func151, Tryd.ntmps151
  go_wp2_with fail
  refine HA.out.mono ?_
  rintro e w1 ⟨rfl, k1, z1, r1⟩
  go_wp2
  go_ret
  exact ⟨rfl, k1, z1, r1⟩

set_option maxRecDepth 100000 in
set_option maxHeartbeats 1600000 in
theorem throughMix_any (s : Sh) (bt n fb bf og nf cf : Nat) (f : Nat → Nat) (w : World) (hs : Rd w s) (hL : ∀ r, r < s.G → s.L r = n) (hG : (s.G : Int) ≤ 1000) (h0 : 1 ≤ (s.G : Int))
    (hb : w.cell? ⟨fb, 0, none⟩ = some (.slice (some ⟨bf, og, none⟩) nf cf)) (hnf : (s.G : Int) ≤ (nf : Int)) (hfc : ∀ k, k < s.G → w.cell? ⟨bf, og + k, none⟩ = some (.int .u8 ((f k : Nat) : Int))) (hf : ∀ k, f k < 256)
    (ht : w.rowIs bt 5 n (By (fun _ => 0))) (h1 : s.gb ≠ bt) (h2 : ∀ r, r < s.G → s.RB r ≠ bt) (h3 : fb ≠ bt) (h4 : bf ≠ bt) (hp : Pows w) (hgl : bt ≠ 1) (hn : (n : Int) ≤ 1000000) :
    Calls Tryd.prog 150 #[.slice s.g s.G s.cap, .slice (some ⟨bt, 0, none⟩) n n, .func (.func 151) #[] #[.pointer (some ⟨fb, 0, none⟩)]] w fun e w' =>
      e = .returned (.slice (some ⟨bt, 0, none⟩) n n) ∧ Kp (fun b => b = bt) w w' ∧ w'.heap.size = w.heap.size ∧ w'.rowIs bt 5 n (By (sumTo f s.M s.G)) := by
  have HL : Hid (∀ r, r < s.G → s.L r = n) := hL
  have HF : Hid (∀ k, k < s.G → w.cell? ⟨bf, og + k, none⟩ = some (.int .u8 ((f k : Nat) : Int))) := hfc
  have HB : Hid (w.cell? ⟨fb, 0, none⟩ = some (.slice (some ⟨bf, og, none⟩) nf cf)) := hb
  clear hL hfc hb
  rw [hs.at0 (by omega)]
  go_enter Tryd.func150, Tryd.ntmps150
  go_wp2
  go_loopg [1, 11] s.G (fun gk v i wr => ∃ k : Nat, k ≤ s.G ∧ gk = s.G - k ∧ v = .slice (some ⟨bt, 0, none⟩) n n ∧ i = .int .i64 k ∧ Kp (fun b => b = bt) w wr ∧ wr.heap.size = w.heap.size ∧ wr.rowIs bt 5 n (By (sumTo f s.M k)))
  case atStart => exact ⟨0, Nat.zero_le _, rfl, rfl, rfl, Kp.refl _ _, rfl, ht⟩
  case round =>
    obtain ⟨k, hk, rfl, rfl, rfl, hK, hz, hR⟩ := hrel
    by_cases hlt : (k : Int) < (s.G : Int)
    · have e1 := hK.cellv (hs.hd k (by omega)) h1
      rw [HL.out k (by omega)] at e1
      have HM : Hid (∀ c, Calls _ _ #[_, _, .slice _ _ c, _] wr _) := fun c => mixStep_any bt n fb bf og nf cf (s.A k) (s.RB k) (s.RO k) c k _ (s.M k) (f k) wr (sumTo_lt f s.M k) (hs.byte k) (by have := hf k; omega) hR (fun j hj => hs.to k (by omega) j (by rw [HL.out k (by omega)]; exact hj))
        (fun j hj => hK.cellv (hs.cell k (by omega) j (by rw [HL.out k (by omega)]; exact hj)) (h2 k (by omega))) (h2 k (by omega)) (hK.cellv HB.out h3) (by omega) (hK.cellv (HF.out k (by omega)) h4) (hK.pows hp (fun e => hgl e.symm)) hgl hn
      go_wp2_with fail
      refine (HM.out _).mono ?_
      rintro e w1 ⟨rfl, k1, z1, r1⟩
      clear HM e1
      go_wp2
      go_roundg (s.G - (k + 1))
      case rel => exact ⟨k + 1, by omega, rfl, rfl, by go_num, hK.trans k1 (fun _ _ e => e), z1.trans hz, r1.congr (fun p hp => by simp only [By]; rw [sumTo_step _ _ _ _ _ hp])⟩
      case measure => omega
    · have e : k = s.G := by omega
      subst e
      go_wp2
      go_ret
      exact ⟨rfl, hK, hz, hR⟩

set_option maxRecDepth 100000 in
set_option maxHeartbeats 1600000 in
theorem mix_any (s : Sh) (n bf og nf cf : Nat) (f : Nat → Nat) (w : World) (hs : Rd w s) (hL : ∀ r, r < s.G → s.L r = n) (hG : (s.G : Int) ≤ 1000) (h0 : 1 ≤ (s.G : Int))
    (hnf : (s.G : Int) ≤ (nf : Int)) (hfc : ∀ k, k < s.G → w.cell? ⟨bf, og + k, none⟩ = some (.int .u8 ((f k : Nat) : Int))) (hf : ∀ k, f k < 256) (hp : Pows w) (hn : (n : Int) ≤ 1000000) (hn1 : 1 ≤ (n : Int)) :
    Calls Tryd.prog 145 #[.slice (some ⟨bf, og, none⟩) nf cf, .slice s.g s.G s.cap] w fun e w' =>
      e = .returned (.slice (some ⟨w.heap.size + 1, 0, none⟩) n n) ∧ Kp (fun _ => False) w w' ∧ w'.heap.size = w.heap.size + 2 ∧ w'.rowIs (w.heap.size + 1) 5 n (By (sumTo f s.M s.G)) := by
  have hmk := run_make_row' (P := Tryd.prog) 22 5 (.int .u8 0) 1 Tryd.underlying22 info5 rfl .i64 .i64 n (by omega) (by omega)
  have hgl := hp.lt
  have e1 := hs.hd 0 (by omega)
  rw [hL 0 (by omega)] at e1
  simp only [Nat.add_zero] at e1
  have lgb := World.block_lt_of_cell? _ _ e1
  have lbf := World.block_lt_of_cell? _ _ (hfc 0 (by omega))
  have lrb : ∀ r, r < s.G → s.RB r < w.heap.size := fun r hr => by
    have := World.block_lt_of_cell? _ _ (hs.cell r hr 0 (by rw [hL r hr]; omega))
    simpa using this
  obtain ⟨wa, hwa⟩ : ∃ x, x = w.alloc (.cells #[.slice (some ⟨bf, og, none⟩) nf cf] 22) := ⟨_, rfl⟩
  have ka : Kp (fun _ => False) w wa := by rw [hwa]; exact (Kp.refl _ _).alloc _
  have za : wa.heap.size = w.heap.size + 1 := by rw [hwa]; simp
  have ca : wa.cell? ⟨w.heap.size, 0, none⟩ = some (.slice (some ⟨bf, og, none⟩) nf cf) := by rw [hwa]; go_simp
  obtain ⟨wb, hwb⟩ : ∃ x, x = wa.alloc (.cells (madeCells #[.int .u8 0] n) 5) := ⟨_, rfl⟩
  have kb : Kp (fun _ => False) w wb := by rw [hwb]; exact ka.alloc _
  have zb : wb.heap.size = w.heap.size + 2 := by rw [hwb]; simp [za]
  have cb : wb.cell? ⟨w.heap.size, 0, none⟩ = some (.slice (some ⟨bf, og, none⟩) nf cf) := by rw [hwb]; exact ((Kp.refl (fun _ => False) wa).alloc _).cellv ca id
  have rb : wb.rowIs (w.heap.size + 1) 5 n (By (fun _ => 0)) := by rw [hwb, ← za]; exact World.rowIs_made wa (.int .u8 0) n 5
  simp only at lgb lbf
  have HT : Hid (Calls _ _ _ wb _) := throughMix_any s (w.heap.size + 1) n w.heap.size bf og nf cf f wb (hs.keep kb) hL hG h0 cb hnf (fun k hk => kb.cellv (hfc k hk) id) hf rb (by omega) (fun r hr => by have := lrb r hr; omega) (by omega) (by omega) (kb.pows hp id) (by omega) hn
  rw [hs.at0 (by omega)] at HT ⊢
  clear hL hfc lrb
  go_enter Tryd.func145, Tryd.ntmps145
  go_wp2_with fail
  rw [← hwa, ← hwb]
  refine HT.out.mono ?_
  rintro e w1 ⟨rfl, k1, z1, r1⟩
  go_wp2
  go_ret
  exact ⟨rfl, kb.trans k1 (fun _ _ e => by omega), by omega, r1⟩

/-- as Part.step, the new row at whatever new block -/
theorem Part.step2 {w wr w2 : World} {t n C r b : Nat} {B : Nat → Nat} {M : Nat → Nat → Nat} (h : Part w wr t n C r B M) (ht : w.heap.size ≤ t) (k : Kp (fun _ => False) wr w2) (hb : wr.heap.size ≤ b) (hr : w2.rowIs b 5 C (By (M r))) :
    Part w (w2.setCell ⟨t, r, none⟩ (.slice (some ⟨b, 0, none⟩) C C)) t n C (r + 1) (fun i => if i = r then b else B i) M := by
  have htl := h.top.lt
  refine ⟨(h.kept.trans k (fun _ _ e => e.elim)).setCell (fun hh => absurd hh (by show ¬ t < w.heap.size; omega)) _, ((k.row h.top id).set r _).congr (fun j _ => by rw [heads2_succ]), fun j hj => ?_, fun j hj => ?_, fun i j hi hj e => ?_⟩
  · by_cases e : j = r
    · subst e; simp only [if_true]
      exact hr.setOther (by show b ≠ t; omega) _
    · simp only [if_neg e]
      exact (k.row (h.row j (by omega)) id).setOther (by show B j ≠ t; have := h.lo j (by omega); omega) _
  · by_cases e : j = r
    · simp only [if_pos e]; omega
    · simp only [if_neg e]; exact h.lo j (by omega)
  · by_cases e1 : i = r <;> by_cases e2 : j = r
    · omega
    · simp only [if_pos e1, if_neg e2] at e
      have := (h.row j (by omega)).lt
      omega
    · simp only [if_neg e1, if_pos e2] at e
      have := (h.row i (by omega)).lt
      omega
    · simp only [if_neg e1, if_neg e2] at e
      exact h.inj i j (by omega) (by omega) e

set_option maxRecDepth 100000 in
set_option maxHeartbeats 1600000 in
theorem mixAll_any (q s : Sh) (n : Nat) (w : World) (hq : Rd w q) (hs : Rd w s) (hqL : ∀ r, r < q.G → q.L r = s.G) (hL : ∀ r, r < s.G → s.L r = n) (hqG : (q.G : Int) ≤ 1000) (hq0 : 1 ≤ (q.G : Int)) (hG : (s.G : Int) ≤ 1000) (h0 : 1 ≤ (s.G : Int)) (hp : Pows w) (hn : (n : Int) ≤ 1000000) (hn1 : 1 ≤ (n : Int)) :
    Calls Tryd.prog 126 #[.slice q.g q.G q.cap, .slice s.g s.G s.cap] w fun e w' =>
      ∃ B, e = .returned (.slice (some ⟨w.heap.size, 0, none⟩) q.G q.G) ∧ Part w w' w.heap.size q.G n q.G B (fun r k => prodTo q.M s.M s.G r k) := by
  have HQ : Hid (∀ r, r < q.G → q.L r = s.G) := hqL
  have HL : Hid (∀ r, r < s.G → s.L r = n) := hL
  have hmk := run_make_row' (P := Tryd.prog) 27 22 (.slice none 0 0) 24 Tryd.underlying27 info42 rfl .i64 .i64 q.G (by omega) (by omega)
  have hs0 := hs.at0 (by omega)
  have hq0' := hq.at0 (by omega)
  rw [hs0, hq0']
  have HS0 : Hid (s.g = some ⟨s.gb, s.go, none⟩) := hs0
  clear hqL hL hs0 hq0'
  go_enter Tryd.func126, Tryd.ntmps126
  go_wp2
  clear hmk
  go_loopg [13] q.G (fun gk i wr => ∃ (r : Nat) (B : Nat → Nat), r ≤ q.G ∧ gk = q.G - r ∧ i = .int .i64 r ∧ Part w wr w.heap.size q.G n r B (fun r k => prodTo q.M s.M s.G r k))
  case atStart => exact ⟨0, _, Nat.zero_le _, rfl, rfl, Part.start w q.G _ _⟩
  case round =>
    obtain ⟨r, B, hr, rfl, rfl, hP⟩ := hrel
    by_cases hlt : (r : Int) < (q.G : Int)
    · have f1 := hP.kept.cellv (hq.hd r (by omega)) id
      rw [HQ.out r (by omega), hq.to r (by omega) 0 (by rw [HQ.out r (by omega)]; omega)] at f1
      have hmx : Hid (∀ c, Calls _ _ #[.slice _ _ c, _] wr _) := fun c => mix_any s n (q.RB r) (q.RO r) s.G c (q.M r) wr (hs.keep hP.kept) HL.out hG h0 (by omega) (fun k hk => hP.kept.cellv (hq.cell r (by omega) k (by rw [HQ.out r (by omega)]; exact hk)) id) (hq.byte r) (hP.kept.pows hp id) hn hn1
      rw [HS0.out] at hmx
      have HG : Hid (∀ w2, Kp (fun _ => False) wr w2 → w2.frozen? ⟨w.heap.size, r, none⟩ = false ∧ w2.cell? ⟨w.heap.size, r, none⟩ = some (heads2 B n r r)) := fun w2 k => ⟨(k.row hP.top id).frozen r, (k.row hP.top id).cell (by omega)⟩
      go_wp2_with fail
      refine (hmx.out _).mono ?_
      rintro e w2 ⟨rfl, hK2, hz2, hR2⟩
      obtain ⟨g3, g4⟩ := HG.out w2 hK2
      go_wp2
      go_roundg (q.G - (r + 1))
      case rel => exact ⟨r + 1, _, by omega, rfl, by go_num, hP.step2 (Nat.le_refl _) hK2 (by omega) hR2⟩
      case measure => omega
    · have e : r = q.G := by omega
      clear hq hs HQ HL
      go_wp2
      go_ret
      subst e
      exact ⟨rfl, B, hP⟩
end Go.Proofs.YtmncocmeafcpfaaDoor.Mf

/- The walks of bytes.Equal, slices.EqualFunc and the verifier's SameTexts, where both texts are the same. -/
namespace Go.Proofs.YtmncocmeafcpfaaDoor.Mf
open Go.RowKit Go.Deep

/-- the bytes of a row, as whole numbers -/
def ints (f : Nat → Nat) (n : Nat) : List Int := (List.range n).map fun j => ((f j : Nat) : Int)
theorem ints_length (f : Nat → Nat) (n : Nat) : (ints f n).length = n := by simp [ints]
theorem ints_at (f : Nat → Nat) {n j : Nat} (h : j < n) : (ints f n).getD j 0 = ((f j : Nat) : Int) := by
  unfold ints
  rw [List.getD_eq_getElem?_getD, List.getElem?_map, List.getElem?_range h]; rfl

theorem convert_row (src : Option Addr) (br ob n c : Nat) (f : Nat → Nat) (w : World) (hsrc : ∀ k, k < n → src = some ⟨br, ob, none⟩)
    (hr : ∀ k, k < n → w.cell? ⟨br, ob + k, none⟩ = some (.int .u8 ((f k : Nat) : Int))) :
    (convert 22 9 (.slice src n c)).run Tryd.prog w = .ok (.string (strOfNums (ints f n))) w := by
  rcases Nat.eq_zero_or_pos n with hn | hn
  · subst hn
    rw [run_convert_bytes_string w 22 9 5 _ 0 c Tryd.underlying22 Tryd.underlying5 Tryd.underlying9]
    cases src <;> simp [Conv.bytesToString, loadCells]
    all_goals rfl
  · obtain rfl := hsrc 0 hn
    exact run_convert_bytes_arg (P := Tryd.prog) w 22 5 Tryd.underlying22 Tryd.underlying5 br ob n c (ints f n) (ints_length f n) (fun i hi => by rw [ints_at f hi]; exact hr i hi) 9 Tryd.underlying9

set_option maxRecDepth 100000 in
set_option maxHeartbeats 800000 in
theorem bytesEqual_run (v1 v2 : Value) (b : ByteArray) (w : World) (h1 : (convert 22 9 v1).run Tryd.prog w = .ok (.string b) w) (h2 : (convert 22 9 v2).run Tryd.prog w = .ok (.string b) w) :
    Calls Tryd.prog 18 #[v1, v2] w fun e w' => e = .returned (.bool true) ∧ w' = w := by
  go_enter Tryd.func18, Tryd.ntmps18
  go_wp2
  go_ret
  exact ⟨rfl, rfl⟩

theorem bytesEqual_same (p1 p2 : Option Addr) (b1 o1 b2 o2 n c1 c2 : Nat) (f g : Nat → Nat) (w : World) (hp1 : ∀ k, k < n → p1 = some ⟨b1, o1, none⟩) (hp2 : ∀ k, k < n → p2 = some ⟨b2, o2, none⟩)
    (h1 : ∀ k, k < n → w.cell? ⟨b1, o1 + k, none⟩ = some (.int .u8 ((f k : Nat) : Int))) (h2 : ∀ k, k < n → w.cell? ⟨b2, o2 + k, none⟩ = some (.int .u8 ((g k : Nat) : Int))) (he : ∀ k, k < n → f k = g k) :
    Calls Tryd.prog 18 #[.slice p1 n c1, .slice p2 n c2] w fun e w' => e = .returned (.bool true) ∧ w' = w :=
  bytesEqual_run _ _ _ w (convert_row p1 b1 o1 n c1 f w hp1 h1) (convert_row p2 b2 o2 n c2 f w hp2 (fun k hk => by rw [he k hk]; exact h2 k hk))

end Go.Proofs.YtmncocmeafcpfaaDoor.Mf

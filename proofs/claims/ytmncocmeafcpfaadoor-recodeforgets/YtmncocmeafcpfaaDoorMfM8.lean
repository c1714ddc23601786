/- The walks of matrix.besideOnes, bringPivot and clearColumn. -/
import Derived.Test.YtmncocmeafcpfaaDoorMfM2
import Derived.Test.YtmncocmeafcpfaaDoorMfEl
import Derived.StillTailTactics
namespace Go.Proofs.YtmncocmeafcpfaaDoor.Mf
open Go.RowKit Go.Deep

theorem mixed : Tryd.prog.follows .mixedOrders = true := by kernel_rfl

/-- a row, its first n written over -/
def overRow (f g : Nat → Nat) (n : Nat) : Nat → Nat := fun j => if j < n then g j else f j

theorem kp_setRow (w : World) (g : Nat) (cs : Array Value) : Kp (fun b => b = g) w (w.setRow g cs) :=
  ⟨rfl, rfl, rfl, by simp [World.setRow], fun k _ hn => setRow_other w g k cs hn⟩

/-- a copy into a row of the program's own: what it leaves -/
theorem wpList_copy_kp {P : Program} {w : World} {ops : Array Oper} {rest : List Oper} {o : Oper} {a : Act} {Q : Exit → Act → World → Prop} (hgd : o.guard = none) (d s : Operand) (dT sT : TypeId)
    (ho : o.op = .call { callee := .builtin .copy, args := #[d, s], argTypes := #[dT, sT] }) (elem : TypeId) (hu : P.underlying dT = some (.slice elem)) (hsz : (P.info? elem).map (·.size) = some 1)
    (g dLen dCap : Nat) (br ob n sCap : Nat) (hd : a.eval d = .slice (some ⟨g, 0, none⟩) dLen dCap) (hs : a.eval s = .slice (some ⟨br, ob, none⟩) n sCap)
    (m : Nat) (t : TypeId) (f src : Nat → Nat) (hg : w.rowIs g t m (By f)) (hn : n ≤ dLen) (hm : dLen ≤ m)
    (hsrc : ∀ j, j < n → w.cell? ⟨br, ob + j, none⟩ = some (.int .u8 ((src j : Nat) : Int)))
    (h : ∀ w', Kp (fun b => b = g) w w' → w'.heap.size = w.heap.size → w'.rowIs g t m (By (overRow f src n)) → wpList P ops Q rest (a.put o.dst (goInt n)) w') : wpList P ops Q (o :: rest) a w := by
  obtain ⟨cur, hc, hcs, hcv⟩ := hg
  have hl := vals_length src n
  have := wpList_copy_own (P := P) (w := w) (ops := ops) (rest := rest) (o := o) (a := a) (Q := Q) hgd d s dT sT ho elem hu hsz g 0 dLen dCap ⟨br, ob, none⟩ n sCap hd hs cur t hc (vals src n)
    (by rw [hl]; exact (Nat.min_eq_left hn).symm) (fun j v hj => by
      obtain ⟨hlt, rfl⟩ := vals_get hj
      rw [addr_add]
      exact hsrc j hlt) (by rw [hl]; omega) (vals_one src n)
  refine this ?_
  rw [hl]
  refine h _ (kp_setRow _ _ _) (by simp [World.setRow]) ⟨_, setRow_heap w g cur _ t (0, 0) hc, ?_, fun i hi => ?_⟩
  · simp [hl]; omega
  · simp only [List.take_zero, List.nil_append, List.getElem?_toArray, Nat.zero_add]
    unfold overRow By
    dsimp only
    by_cases hin : i < n
    · rw [List.getElem?_append_left (by rw [hl]; exact hin), vals_at src hin, if_pos hin]
    · rw [List.getElem?_append_right (by rw [hl]; omega), hl, List.getElem?_drop, if_neg hin, Array.getElem?_toList, show n + (i - n) = i from by omega]
      exact hcv i hi

/-- the wide rows, when r are filled -/
def wideAt (A : Nat → Nat → Nat) (n r : Nat) : Nat → Nat → Nat := fun i c => if i < r then wide A n i c else 0
theorem wideAt_zero (A : Nat → Nat → Nat) (n : Nat) : wideAt A n 0 = fun _ _ => 0 := by funext i c; simp [wideAt]
theorem wideAt_lt {A : Nat → Nat → Nat} (hA : ∀ i j, A i j < 256) (n r i c : Nat) : wideAt A n r i c < 256 := by
  unfold wideAt; split
  · exact wide_lt hA n i c
  · omega
theorem wideAt_here (A : Nat → Nat → Nat) (n r j : Nat) : (if j = n + r then 1 else overRow (wideAt A n r r) (A r) n j) = wideAt A n (r + 1) r j := by
  unfold overRow wideAt wide
  rw [if_neg (Nat.lt_irrefl r), if_pos (Nat.lt_succ_self r)]
  by_cases h : j < n
  · rw [if_neg (by omega), if_pos h, if_pos h]
  · rw [if_neg h, if_neg h]
theorem wideAt_other (A : Nat → Nat → Nat) (n r i j : Nat) (h : i ≠ r) : wideAt A n r i j = wideAt A n (r + 1) i j := by
  unfold wideAt
  by_cases e : i < r
  · rw [if_pos e, if_pos (by omega)]
  · rw [if_neg e, if_neg (by omega)]

set_option maxRecDepth 100000 in
set_option maxHeartbeats 1600000 in
theorem besideOnes_any (s : Sh) (n : Nat) (w : World) (hs : Rd w s) (hG : s.G = n) (hL : ∀ r, r < n → s.L r = n) (h1 : 1 ≤ (n : Int)) (h2 : (n : Int) ≤ 255) :
    Calls Tryd.prog 140 #[.slice s.g n s.cap] w fun e w' =>
      e = .returned (.slice (some ⟨w.heap.size, 0, none⟩) n n) ∧ Kp (fun _ => False) w w' ∧ Mat w' w.heap.size (fun i => w.heap.size + 1 + i) n (2 * n) (wide s.M n) := by
  rw [hs.at0 (by omega)]
  have HL : Hid (∀ r, r < n → s.L r = n) := hL
  have HG : Hid (s.G = n) := hG
  clear hL hG
  go_enter Tryd.func140, Tryd.ntmps140
  go_wp2_with fail
  rw [show (2 * (n : Int)) = ((2 * n : Nat) : Int) from by simp]
  refine (noughts_any n (2 * n) _ (by omega) (by omega)).mono ?_
  rintro e w1 ⟨rfl, hK1, hz1, hM1⟩
  go_wp2
  go_loopg [14] n (fun gk i wr => ∃ r : Nat, r ≤ n ∧ gk = n - r ∧ i = .int .i64 r ∧ Kp (fun _ => False) w wr ∧ wr.heap.size = w.heap.size + 1 + n ∧ Mat wr w.heap.size (fun i => w.heap.size + 1 + i) n (2 * n) (wideAt s.M n r))
  case atStart => exact ⟨0, Nat.zero_le _, rfl, rfl, hK1, hz1, by rw [wideAt_zero]; exact hM1⟩
  case round =>
    obtain ⟨r, hr, rfl, rfl, hK, hz, hM⟩ := hrel
    clear hK1 hz1 hM1
    by_cases hlt : (r : Int) < (n : Int)
    · have hrG : r < s.G := by rw [HG.out]; omega
      have e1 := hK.cellv (hs.hd r hrG) id
      rw [HL.out r (by omega), hs.to r hrG 0 (by rw [HL.out r (by omega)]; omega)] at e1
      have e2 := hM.top.cell (i := r) (by omega)
      have hrow := hM.row r (by omega)
      have HSr : Hid (∀ j, j < n → wr.cell? ⟨s.RB r, s.RO r + j, none⟩ = some (.int .u8 ((s.M r j : Nat) : Int))) := fun j hj => hK.cellv (hs.cell r hrG j (by rw [HL.out r (by omega)]; exact hj)) id
      go_wp2_with (refine wpList_copy_kp rfl (.tmp 22) (.tmp 23) 22 22 rfl 5 Tryd.underlying22 size5 (w.heap.size + 1 + r) (2 * n) (2 * n) (s.RB r) (s.RO r) n _ rfl rfl (2 * n) 5 _ (s.M r) hrow (by omega) (Nat.le_refl _) HSr.out ?_)
      intro w2 hK2 hz2 hR2
      have g2 := hK2.cellv e2 (by show ¬ w.heap.size = w.heap.size + 1 + r; omega)
      have g3 := hR2.frozen (n + r)
      have g4 := hR2.cell (i := n + r) (by omega)
      go_wp2
      go_roundg (n - (r + 1))
      case rel => exact ⟨r + 1, by omega, rfl, by go_num, (hK.trans hK2 (fun b hb e => by omega)).setCell (fun h => absurd h (by show ¬ w.heap.size + 1 + r < w.heap.size; omega)) _, by simpa using hz2,
        (hK2.row hM.top (by omega)).setOther (by show w.heap.size ≠ w.heap.size + 1 + r; omega) _, fun i hi => by
          by_cases e : i = r
          · subst e
            exact (hR2.set (n + i) _).congr (fun j _ => by
              simp only [By]
              rw [← wideAt_here]
              split <;> rfl)
          · exact ((hK2.row (hM.row i hi) (by omega)).setOther (by show w.heap.size + 1 + i ≠ w.heap.size + 1 + r; omega) _).congr (fun j _ => by simp only [By]; rw [wideAt_other _ _ _ _ _ e]), hM.inj, hM.ne, wideAt_lt hs.byte _ _⟩
      case measure => omega
    · have e : r = n := by omega
      subst e
      go_wp2
      go_ret
      exact ⟨rfl, hK, hM.top, fun i hi => (hM.row i hi).congr (fun j _ => by simp only [By, wideAt]; rw [if_pos hi]), hM.inj, hM.ne, fun i j => wide_lt hs.byte _ i j⟩

/-- the rows, when the first k are cleared -/
def clearTo (W : Nat → Nat → Nat) (i k : Nat) : Nat → Nat → Nat := fun r => if r < k then cleared W i r else W r
theorem clearTo_zero (W : Nat → Nat → Nat) (i : Nat) : clearTo W i 0 = W := by funext r; simp [clearTo]
theorem clearTo_lt {W : Nat → Nat → Nat} (h : ∀ r c, W r c < 256) (i k r c : Nat) : clearTo W i k r c < 256 := by
  unfold clearTo; split
  · exact cleared_lt h i r c
  · exact h r c
theorem clearTo_pivot (W : Nat → Nat → Nat) (i k : Nat) : clearTo W i k i = W i := by
  unfold clearTo; split
  · funext c; unfold cleared; rw [if_pos rfl]
  · rfl
theorem clearTo_here (W : Nat → Nat → Nat) (i k : Nat) : clearTo W i k k = W k := by unfold clearTo; rw [if_neg (Nat.lt_irrefl k)]
theorem clearTo_succ (W : Nat → Nat → Nat) (i k : Nat) : clearTo W i (k + 1) k = cleared W i k := by unfold clearTo; rw [if_pos (Nat.lt_succ_self k)]
theorem clearTo_other (W : Nat → Nat → Nat) (i k r : Nat) (h : r ≠ k) : clearTo W i (k + 1) r = clearTo W i k r := by
  unfold clearTo
  by_cases e : r < k
  · rw [if_pos e, if_pos (by omega)]
  · rw [if_neg e, if_neg (by omega)]
theorem cleared_row (W : Nat → Nat → Nat) (i r n c : Nat) (hr : r ≠ i) (hc : c < i + n) : plusRow (W r) (fun j => W i (i + j)) (W r i) i n c = cleared W i r c := by
  unfold plusRow cleared
  rw [if_neg hr]
  by_cases h : i ≤ c
  · rw [if_pos ⟨h, hc⟩, if_pos h]
    dsimp only
    rw [show i + (c - i) = c from by omega]
  · rw [if_neg (by omega), if_neg h]
theorem cleared_self (W : Nat → Nat → Nat) (i : Nat) : cleared W i i = W i := by funext c; unfold cleared; rw [if_pos rfl]

set_option maxRecDepth 100000 in
set_option maxHeartbeats 1600000 in
theorem clearColumn_any (t : Nat) (B : Nat → Nat) (n C i : Nat) (W : Nat → Nat → Nat) (w : World) (hM : Mat w t B n C W) (hi : (i : Int) < (n : Int)) (hC : (n : Int) ≤ (C : Int)) (hb : (C : Int) ≤ 100000) (hp : Pows w) (hB : ∀ r, r < n → B r ≠ 1) :
    Calls Tryd.prog 142 #[.slice (some ⟨t, 0, none⟩) n n, .int .i64 i] w fun e w' =>
      e = .returned (.tuple #[]) ∧ Kp (fun b => ∃ r, r < n ∧ b = B r) w w' ∧ w'.heap.size = w.heap.size ∧ Mat w' t B n C (cleared W i) := by
  go_enter Tryd.func142, Tryd.ntmps142
  go_wp2
  go_loopg [8] n (fun gk x wr => ∃ k : Nat, k ≤ n ∧ gk = n - k ∧ x = .int .i64 k ∧ Kp (fun b => ∃ r, r < n ∧ b = B r) w wr ∧ wr.heap.size = w.heap.size ∧ Mat wr t B n C (clearTo W i k))
  case atStart => exact ⟨0, Nat.zero_le _, rfl, rfl, Kp.refl _ _, rfl, by rw [clearTo_zero]; exact hM⟩
  case round =>
    obtain ⟨k, hk, rfl, rfl, hK, hz, hR⟩ := hrel
    by_cases hlt : (k : Int) < (n : Int)
    · have e1 := hR.top.cell (i := k) (by omega)
      have e2 := hR.top.cell (i := i) (by omega)
      have e3 := (hR.row k (by omega)).cell (i := i) (by omega)
      simp only [By, clearTo_here] at e3
      by_cases hki : k = i
      · have hq : ((k : Int) != (i : Int)) = false := by rw [hki]; exact bne_self_eq_false _
        have HE : Hid (k = i) := hki
        clear hki
        go_wp2
        go_roundg (n - (k + 1))
        case rel => exact ⟨k + 1, by omega, rfl, by go_num, hK, hz, hR.top, fun r hr => by
          by_cases e : r = k
          · subst e
            have := hR.row r hr
            rw [clearTo_here] at this
            rw [clearTo_succ, HE.out, cleared_self, ← HE.out]
            exact this
          · rw [clearTo_other _ _ _ _ e]; exact hR.row r hr, hR.inj, hR.ne, clearTo_lt hM.byte _ _⟩
        case measure => omega
      · have hq : ((k : Int) != (i : Int)) = true := bne_iff_ne.2 (by omega)
        have HE : Hid (k ≠ i) := hki
        have l1 := hM.byte k i
        have hrk := hR.row k (by omega)
        have hri := hR.row i (by omega)
        rw [clearTo_here] at hrk
        rw [clearTo_pivot] at hri
        have hadd : Hid (∀ (c1 c2 : Nat) (w' : World), w'.heap = wr.heap → Calls Tryd.prog 144 #[.slice (some ⟨B k, i, none⟩) (C - i) c1, .slice (some ⟨B i, i, none⟩) (C - i) c2, .int .u8 ((W k i : Nat) : Int)] w' fun e w'' =>
            e = .returned (.tuple #[]) ∧ Kp (fun b => b = B k) w' w'' ∧ w''.heap.size = w'.heap.size ∧ w''.rowIs (B k) 5 C (By (plusRow (W k) (fun j => W i (i + j)) (W k i) i (C - i)))) := fun c1 c2 w' hw' =>
          addTimes_any (B k) i C (C - i) c1 (some ⟨B i, i, none⟩) (B i) i (C - i) c2 (W k) (fun j => W i (i + j)) (W k i) w' (hM.byte k) (fun j => hM.byte _ _) (by omega) (hrk.of_block (by rw [hw'])) (fun _ _ => rfl)
            (fun j hj => by
              have := hri.cell (i := i + j) (by omega)
              simpa [World.cell?, hw', By] using this)
            (fun e => HE.out (hR.inj i k (by omega) (by omega) e).symm) (by omega) (by omega) ((hK.pows hp (fun ⟨r, hr, e⟩ => hB r hr e.symm)).heap hw') (hB k (by omega)) (by omega)
        have hiC : (i : Int) < (C : Int) := by omega
        have hiC' : (i : Int) ≤ (C : Int) := by omega
        have hne : ((C : Int) - (i : Int) == 0) = false := beq_eq_false_iff_ne.2 (by omega)
        clear hki hrk hri
        go_wp2
        go_still_tail 13, mixed
        go_wp2_with (go_at_call 144; refine (hadd.out _ _ _ (by rfl)).mono ?_; rintro e w2 ⟨rfl, hKa, hza, hRa⟩)
        all_goals
          go_wp2
          go_roundg (n - (k + 1))
          case rel => exact ⟨k + 1, by omega, rfl, by go_num, hK.drew.trans hKa (fun b _ e => ⟨k, by omega, e⟩), hza.trans hz, hKa.row hR.top (fun e => hR.ne k (by omega) e.symm), fun r hr => by
            by_cases e : r = k
            · subst e
              rw [clearTo_succ]
              exact hRa.congr (fun c hc => by simp only [By]; rw [cleared_row W i r (C - i) c HE.out (by omega)])
            · rw [clearTo_other _ _ _ _ e]
              exact hKa.row (hR.row r hr) (fun e' => e (hR.inj r k hr (by omega) e')), hR.inj, hR.ne, clearTo_lt hM.byte _ _⟩
          case measure => omega
    · have e : k = n := by omega
      subst e
      go_wp2
      go_end0
      exact ⟨rfl, hK, hz, hR.top, fun r hr => by
        have := hR.row r hr
        unfold clearTo at this
        rw [if_pos hr] at this
        exact this, hR.inj, hR.ne, cleared_lt hM.byte _⟩
end Go.Proofs.YtmncocmeafcpfaaDoor.Mf

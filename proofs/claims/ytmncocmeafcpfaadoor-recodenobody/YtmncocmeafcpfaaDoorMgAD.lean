/- Texts of this proof, joined: MfM6, MfR1, MfM3, MfM4. -/
import Derived.Test.YtmncocmeafcpfaaDoorMgAC
import Derived.Laws.BytesArg
import Derived.Laws.BytesString
import Derived.Test.YtmncocmeafcpfaaDoorMgAA
/- The walk of matrix.Rows: some rows, or the error. -/
namespace Go.Proofs.YtmncocmeafcpfaaDoor.Mf
open Go.RowKit Go.Deep

/-- the headers of new rows at B, when r are made -/
def heads2 (B : Nat → Nat) (C r : Nat) : Nat → Value := fun j => if j < r then .slice (some ⟨B j, 0, none⟩) C C else .slice none 0 0
theorem heads2_succ (B : Nat → Nat) (C r g j : Nat) : heads2 (fun i => if i = r then g else B i) C (r + 1) j = if j = r then .slice (some ⟨g, 0, none⟩) C C else heads2 B C r j := by
  unfold heads2
  by_cases e : j = r
  · subst e; simp
  · rw [if_neg e]
    by_cases h : j < r
    · rw [if_pos h, if_pos (by omega)]; simp [e]
    · rw [if_neg h, if_neg (by omega)]

/-- r rows of the new matrix at t are made -/
structure Part (w wr : World) (t n C r : Nat) (B : Nat → Nat) (M : Nat → Nat → Nat) : Prop where
  kept : Kp (fun _ => False) w wr
  top : wr.rowIs t 22 n (heads2 B C r)
  row : ∀ j, j < r → wr.rowIs (B j) 5 C (By (M j))
  lo : ∀ j, j < r → t < B j
  inj : ∀ i j, i < r → j < r → B i = B j → i = j
theorem Part.start (w : World) (n C : Nat) (M : Nat → Nat → Nat) : Part w (w.alloc (.cells (madeCells #[.slice none 0 0] n) 22)) w.heap.size n C 0 (fun _ => 0) M :=
  ⟨(Kp.refl _ _).alloc _, (World.rowIs_made w _ n 22).congr (fun j _ => by simp [heads2]), fun _ h => absurd h (Nat.not_lt_zero _), fun _ h => absurd h (Nat.not_lt_zero _), fun _ _ h => absurd h (Nat.not_lt_zero _)⟩
theorem Part.step {w wr w2 : World} {t n C r : Nat} {B : Nat → Nat} {M : Nat → Nat → Nat} (h : Part w wr t n C r B M) (ht : w.heap.size ≤ t) (k : Kp (fun _ => False) wr w2) (hr : w2.rowIs wr.heap.size 5 C (By (M r))) :
    Part w (w2.setCell ⟨t, r, none⟩ (.slice (some ⟨wr.heap.size, 0, none⟩) C C)) t n C (r + 1) (fun i => if i = r then wr.heap.size else B i) M := by
  have htl := h.top.lt
  refine ⟨(h.kept.trans k (fun _ _ e => e.elim)).setCell (fun hh => absurd hh (by show ¬ t < w.heap.size; omega)) _, ((k.row h.top id).set r _).congr (fun j _ => by rw [heads2_succ]), fun j hj => ?_, fun j hj => ?_, fun i j hi hj e => ?_⟩
  · by_cases e : j = r
    · subst e; simp only [if_true]
      exact hr.setOther (by show wr.heap.size ≠ t; omega) _
    · simp only [if_neg e]
      exact (k.row (h.row j (by omega)) id).setOther (by show B j ≠ t; have := h.lo j (by omega); omega) _
  · by_cases e : j = r
    · simp only [if_pos e]; exact htl
    · simp only [if_neg e]; exact h.lo j (by omega)
  · by_cases e1 : i = r <;> by_cases e2 : j = r
    · omega
    · simp only [if_pos e1, if_neg e2] at e
      have := (h.row j (by omega)).lt
      omega
    · simp only [if_neg e1, if_pos e2] at e
      have := (h.row i (by omega)).lt
      omega
    · simp only [if_neg e1, if_neg e2] at e
      exact h.inj i j (by omega) (by omega) e
theorem Part.mat {w wr : World} {t n C : Nat} {B : Nat → Nat} {M : Nat → Nat → Nat} (h : Part w wr t n C n B M) (hM : ∀ i j, M i j < 256) : Mat wr t B n C M :=
  ⟨h.top.congr (fun i hi => by simp [heads2, hi]), h.row, h.inj, fun i hi => by have := h.lo i hi; omega, hM⟩

set_option maxRecDepth 100000 in
set_option maxHeartbeats 1600000 in
theorem rows_ok (s : Sh) (pl : Option Addr) (bl ol n cl : Nat) (l : Nat → Nat) (w : World) (hs : Rd w s) (ms : isM s = true) (hpl : ∀ k, k < n → pl = some ⟨bl, ol, none⟩)
    (hl : ∀ k, k < n → w.cell? ⟨bl, ol + k, none⟩ = some (.int .i64 ((l k : Nat) : Int))) (hn : ∀ k, k < n → l k < s.G) (h1 : 1 ≤ (n : Int)) (h2 : (n : Int) ≤ 255) :
    Calls Tryd.prog 123 #[.slice s.g s.G s.cap, .slice pl n cl] w fun e w' =>
      ∃ B, e = .returned (.tuple #[.slice (some ⟨w.heap.size, 0, none⟩) n n, .int .i64 0]) ∧ Part w w' w.heap.size n (s.L 0) n B (fun r => s.M (l r)) := by
  obtain ⟨a1, a2, a3, a4, a5⟩ := isM_true ms
  have HS : Hid (Calls _ _ _ w _) := isMatrix_any s w hs
  rw [ms] at HS
  have HG1 := hs.at0 (by omega)
  rw [HG1] at HS ⊢
  obtain rfl := hpl 0 (by omega)
  have HA : Hid (∀ r, r < s.G → s.L r = s.L 0) := a5
  have d1 : decide ((n : Int) < 1) = false := by simp; omega
  have d2 : decide (255 < (n : Int)) = false := by simp; omega
  have hmk := run_make_row' (P := Tryd.prog) 27 22 (.slice none 0 0) 24 Tryd.underlying27 info42 rfl .i64 .i64 n (by omega) (by omega)
  clear ms HG1 a5
  go_enter Tryd.func123, Tryd.ntmps123
  go_wp2_with fail
  refine HS.out.mono ?_
  rintro e w' ⟨rfl, hw⟩
  obtain rfl := hw.symm
  go_wp2
  clear HS hmk d1 d2
  go_loopg [27] n (fun gk i wr => ∃ (r : Nat) (B : Nat → Nat), r ≤ n ∧ gk = n - r ∧ i = .int .i64 r ∧ Part w wr w.heap.size n (s.L 0) r B (fun r => s.M (l r)))
  case atStart => exact ⟨0, _, Nat.zero_le _, rfl, rfl, Part.start w n _ _⟩
  case round =>
    obtain ⟨r, B, hr, rfl, rfl, hP⟩ := hrel
    by_cases hlt : (r : Int) < (n : Int)
    · have hlr := hn r (by omega)
      have f1 := hP.kept.cellv (hl r (by omega)) id
      have f2 := hP.kept.cellv (hs.hd (l r) hlr) id
      rw [HA.out _ hlr] at f2
      have d1 : decide (((l r : Nat) : Int) < 0) = false := by simp
      have d2 : decide ((s.G : Int) ≤ ((l r : Nat) : Int)) = false := by simp; omega
      have hcp : Hid (Calls _ _ _ wr _) := copyRow_any (s.A (l r)) (s.RB (l r)) (s.RO (l r)) (s.L 0) (s.C (l r)) (s.M (l r)) wr (fun k hk => hs.to (l r) hlr k (by rw [HA.out _ hlr]; exact hk)) (fun k hk => hP.kept.cellv (hs.cell (l r) hlr k (by rw [HA.out _ hlr]; exact hk)) id) (by omega)
      have g2 : ∀ w2, Kp (fun _ => False) wr w2 → w2.frozen? ⟨w.heap.size, r, none⟩ = false ∧ w2.cell? ⟨w.heap.size, r, none⟩ = some (heads2 B (s.L 0) r r) := fun w2 k => ⟨(k.row hP.top id).frozen r, (k.row hP.top id).cell (by omega)⟩
      have HG : Hid (∀ w2, Kp (fun _ => False) wr w2 → w2.frozen? ⟨w.heap.size, r, none⟩ = false ∧ w2.cell? ⟨w.heap.size, r, none⟩ = some (heads2 B (s.L 0) r r)) := g2
      clear g2
      go_wp2_with fail
      refine hcp.out.mono ?_
      rintro e w2 ⟨rfl, hK2, hR2⟩
      obtain ⟨g3, g4⟩ := HG.out w2 hK2
      go_wp2
      go_roundg (n - (r + 1))
      case rel => exact ⟨r + 1, _, by omega, rfl, by go_num, hP.step (Nat.le_refl _) hK2 hR2⟩
      case measure => omega
    · have e : r = n := by omega
      subst e
      go_wp2
      go_ret2
      exact ⟨rfl, B, hP⟩
end Go.Proofs.YtmncocmeafcpfaaDoor.Mf

/- The walks of reed.addTimes, mix and mixAll. -/
namespace Go.Proofs.YtmncocmeafcpfaaDoor.Mf
open Go.RowKit Go.Deep

set_option maxRecDepth 100000 in
set_option maxHeartbeats 800000 in
theorem raddTimes_walk (bt ot nt n' c1 : Nat) (src : Option Addr) (br ob n c2 : Nat) (f g : Nat → Nat) (c : Nat) (w : World) (hf : ∀ j, f j < 256) (hg : ∀ j, g j < 256) (hc : (c : Int) < 256)
    (ht : w.rowIs bt 5 nt (By f)) (hsrc : ∀ k, k < n → src = some ⟨br, ob, none⟩) (hr : ∀ k, k < n → w.cell? ⟨br, ob + k, none⟩ = some (.int .u8 ((g k : Nat) : Int))) (hne : br ≠ bt)
    (h1 : ot + n ≤ nt) (h2 : (n : Int) ≤ (n' : Int)) (hp : Pows w) (hgl : bt ≠ 1) (hn : (n : Int) ≤ 1000000) (hc0 : ((c : Int) == 0) = false) :
    Calls Tryd.prog 152 #[.slice (some ⟨bt, ot, none⟩) n' c1, .slice src n c2, .int .u8 c] w fun e w' =>
      e = .returned (.tuple #[]) ∧ Kp (fun b => b = bt) w w' ∧ w'.heap.size = w.heap.size ∧ w'.rowIs bt 5 nt (By (plusRow f g c ot n)) := by
  go_enter Tryd.func152, Tryd.ntmps152
  go_wp2
  go_loopg [12] n (fun gk i wr => ∃ k : Nat, k ≤ n ∧ gk = n - k ∧ i = .int .i64 k ∧ Kp (fun b => b = bt) w wr ∧ wr.heap.size = w.heap.size ∧ wr.rowIs bt 5 nt (By (plusRow f g c ot k)))
  case atStart => exact ⟨0, Nat.zero_le _, rfl, rfl, Kp.refl _ _, rfl, by rw [plusRow_zero]; exact ht⟩
  case round =>
    obtain ⟨k, hk, rfl, rfl, hK, hz, hR⟩ := hrel
    by_cases hlt : (k : Int) < (n : Int)
    · obtain rfl := hsrc k (by omega)
      have e1 := hK.cellv (hr k (by omega)) hne
      have e2 := hR.cell (i := ot + k) (by omega)
      have e3 := hR.frozen (ot + k)
      have l1 := hg k
      have l2 := hf (ot + k)
      have l3 := Gf.mul_lt (g k) c
      have hpr := hK.pows hp (fun e => hgl e.symm)
      simp only [By, plusRow_here] at e1 e2
      clear hr hsrc
      go_wp2
      go_region_with
        (first
          | (go_at_call 149; refine (mul_nat (g k) c _ (by omega) hc (by exact hpr.heap rfl)).mono ?_; rintro e w' ⟨rfl, m, rfl⟩)
          | (go_at_call 137; refine (add_nat (f (ot + k)) (Gf.mul (g k) c) _ (by omega) (by omega)).mono ?_; rintro e w' ⟨rfl, rfl⟩))
      all_goals go_wp2
      all_goals
        go_roundg (n - (k + 1))
        case rel => exact ⟨k + 1, by omega, rfl, by go_num, (hK.drewN _).setCell (fun _ => rfl) _, by simpa using hz, (rowIs_drewN hR _).set (ot + k) _ |>.congr (fun j _ => by
          simp only [By]
          rw [plusRow_succ]
          split <;> rfl)⟩
        case measure => omega
    · have e : k = n := by omega
      subst e
      go_wp2
      go_end0
      exact ⟨rfl, hK, hz, hR⟩

set_option maxRecDepth 100000 in
set_option maxHeartbeats 800000 in
theorem raddTimes_none (to row : Value) (f g : Nat → Nat) (ot n : Nat) (nt bt : Nat) (w : World) (ht : w.rowIs bt 5 nt (By f)) :
    Calls Tryd.prog 152 #[to, row, .int .u8 0] w fun e w' =>
      e = .returned (.tuple #[]) ∧ Kp (fun b => b = bt) w w' ∧ w'.heap.size = w.heap.size ∧ w'.rowIs bt 5 nt (By (plusRow f g 0 ot n)) := by
  have hR : w.rowIs bt 5 nt (By (plusRow f g 0 ot n)) := by rw [plusRow_none]; exact ht
  have HR : Hid (w.rowIs bt 5 nt (By (plusRow f g 0 ot n))) := hR
  clear hR ht
  go_enter Tryd.func152, Tryd.ntmps152
  go_wp2
  refine bodyPost_ret (results_none rfl _ _ _) rfl ?_
  exact ⟨rfl, Kp.refl _ _, rfl, HR.out⟩

theorem raddTimes_any (bt ot nt n' c1 : Nat) (src : Option Addr) (br ob n c2 : Nat) (f g : Nat → Nat) (c : Nat) (w : World) (hf : ∀ j, f j < 256) (hg : ∀ j, g j < 256) (hc : (c : Int) < 256)
    (ht : w.rowIs bt 5 nt (By f)) (hsrc : ∀ k, k < n → src = some ⟨br, ob, none⟩) (hr : ∀ k, k < n → w.cell? ⟨br, ob + k, none⟩ = some (.int .u8 ((g k : Nat) : Int))) (hne : br ≠ bt)
    (h1 : ot + n ≤ nt) (h2 : (n : Int) ≤ (n' : Int)) (hp : Pows w) (hgl : bt ≠ 1) (hn : (n : Int) ≤ 1000000) :
    Calls Tryd.prog 152 #[.slice (some ⟨bt, ot, none⟩) n' c1, .slice src n c2, .int .u8 c] w fun e w' =>
      e = .returned (.tuple #[]) ∧ Kp (fun b => b = bt) w w' ∧ w'.heap.size = w.heap.size ∧ w'.rowIs bt 5 nt (By (plusRow f g c ot n)) := by
  by_cases h : c = 0
  · subst h
    exact raddTimes_none _ _ f g ot n nt bt w ht
  · exact raddTimes_walk bt ot nt n' c1 src br ob n c2 f g c w hf hg hc ht hsrc hr hne h1 h2 hp hgl hn (beq_eq_false_iff_ne.2 (by omega))

/-- the sum of the first k shards, each times its factor -/
def sumTo (f : Nat → Nat) (M : Nat → Nat → Nat) (k : Nat) : Nat → Nat := fun p => xsum (fun x => Gf.mul (M x p) (f x)) k
theorem sumTo_lt (f : Nat → Nat) (M : Nat → Nat → Nat) (k p : Nat) : sumTo f M k p < 256 := xsum_lt (fun _ => Gf.mul_lt _ _) k
theorem sumTo_step (f : Nat → Nat) (M : Nat → Nat → Nat) (k n p : Nat) (hp : p < n) : plusRow (sumTo f M k) (M k) (f k) 0 n p = sumTo f M (k + 1) p := by
  unfold plusRow sumTo
  rw [if_pos (by omega), Nat.sub_zero]
  rfl

set_option maxRecDepth 100000 in
set_option maxHeartbeats 800000 in
theorem mixStep_any (bt n fb bf og nf cf : Nat) (src : Option Addr) (br ob c2 k : Nat) (f g : Nat → Nat) (c : Nat) (w : World) (hf : ∀ j, f j < 256) (hg : ∀ j, g j < 256) (hc : (c : Int) < 256)
    (ht : w.rowIs bt 5 n (By f)) (hsrc : ∀ k, k < n → src = some ⟨br, ob, none⟩) (hr : ∀ k, k < n → w.cell? ⟨br, ob + k, none⟩ = some (.int .u8 ((g k : Nat) : Int))) (hne : br ≠ bt)
    (hb : w.cell? ⟨fb, 0, none⟩ = some (.slice (some ⟨bf, og, none⟩) nf cf)) (hk : (k : Int) < (nf : Int)) (hfc : w.cell? ⟨bf, og + k, none⟩ = some (.int .u8 ((c : Nat) : Int)))
    (hp : Pows w) (hgl : bt ≠ 1) (hn : (n : Int) ≤ 1000000) :
    Calls Tryd.prog 151 #[.slice (some ⟨bt, 0, none⟩) n n, .int .i64 k, .slice src n c2, .pointer (some ⟨fb, 0, none⟩)] w fun e w' =>
      e = .returned (.slice (some ⟨bt, 0, none⟩) n n) ∧ Kp (fun b => b = bt) w w' ∧ w'.heap.size = w.heap.size ∧ w'.rowIs bt 5 n (By (plusRow f g c 0 n)) := by
  have HA : Hid (Calls _ _ _ w _) := raddTimes_any bt 0 n n n src br ob n c2 f g c w hf hg hc ht hsrc hr hne (by omega) (by omega) hp hgl hn
  clear ht hsrc hr hf hg hp
  go_enter Tryd.func151, Tryd.ntmps151
  go_wp2_with fail
  refine HA.out.mono ?_
  rintro e w1 ⟨rfl, k1, z1, r1⟩
  go_wp2
  go_ret
  exact ⟨rfl, k1, z1, r1⟩

set_option maxRecDepth 100000 in
set_option maxHeartbeats 1600000 in
theorem throughMix_any (s : Sh) (bt n fb bf og nf cf : Nat) (f : Nat → Nat) (w : World) (hs : Rd w s) (hL : ∀ r, r < s.G → s.L r = n) (hG : (s.G : Int) ≤ 1000) (h0 : 1 ≤ (s.G : Int))
    (hb : w.cell? ⟨fb, 0, none⟩ = some (.slice (some ⟨bf, og, none⟩) nf cf)) (hnf : (s.G : Int) ≤ (nf : Int)) (hfc : ∀ k, k < s.G → w.cell? ⟨bf, og + k, none⟩ = some (.int .u8 ((f k : Nat) : Int))) (hf : ∀ k, f k < 256)
    (ht : w.rowIs bt 5 n (By (fun _ => 0))) (h1 : s.gb ≠ bt) (h2 : ∀ r, r < s.G → s.RB r ≠ bt) (h3 : fb ≠ bt) (h4 : bf ≠ bt) (hp : Pows w) (hgl : bt ≠ 1) (hn : (n : Int) ≤ 1000000) :
    Calls Tryd.prog 150 #[.slice s.g s.G s.cap, .slice (some ⟨bt, 0, none⟩) n n, .func (.func 151) #[] #[.pointer (some ⟨fb, 0, none⟩)]] w fun e w' =>
      e = .returned (.slice (some ⟨bt, 0, none⟩) n n) ∧ Kp (fun b => b = bt) w w' ∧ w'.heap.size = w.heap.size ∧ w'.rowIs bt 5 n (By (sumTo f s.M s.G)) := by
  have HL : Hid (∀ r, r < s.G → s.L r = n) := hL
  have HF : Hid (∀ k, k < s.G → w.cell? ⟨bf, og + k, none⟩ = some (.int .u8 ((f k : Nat) : Int))) := hfc
  have HB : Hid (w.cell? ⟨fb, 0, none⟩ = some (.slice (some ⟨bf, og, none⟩) nf cf)) := hb
  clear hL hfc hb
  rw [hs.at0 (by omega)]
  go_enter Tryd.func150, Tryd.ntmps150
  go_wp2
  go_loopg [1, 11] s.G (fun gk v i wr => ∃ k : Nat, k ≤ s.G ∧ gk = s.G - k ∧ v = .slice (some ⟨bt, 0, none⟩) n n ∧ i = .int .i64 k ∧ Kp (fun b => b = bt) w wr ∧ wr.heap.size = w.heap.size ∧ wr.rowIs bt 5 n (By (sumTo f s.M k)))
  case atStart => exact ⟨0, Nat.zero_le _, rfl, rfl, rfl, Kp.refl _ _, rfl, ht⟩
  case round =>
    obtain ⟨k, hk, rfl, rfl, rfl, hK, hz, hR⟩ := hrel
    by_cases hlt : (k : Int) < (s.G : Int)
    · have e1 := hK.cellv (hs.hd k (by omega)) h1
      rw [HL.out k (by omega)] at e1
      have HM : Hid (∀ c, Calls _ _ #[_, _, .slice _ _ c, _] wr _) := fun c => mixStep_any bt n fb bf og nf cf (s.A k) (s.RB k) (s.RO k) c k _ (s.M k) (f k) wr (sumTo_lt f s.M k) (hs.byte k) (by have := hf k; omega) hR (fun j hj => hs.to k (by omega) j (by rw [HL.out k (by omega)]; exact hj))
        (fun j hj => hK.cellv (hs.cell k (by omega) j (by rw [HL.out k (by omega)]; exact hj)) (h2 k (by omega))) (h2 k (by omega)) (hK.cellv HB.out h3) (by omega) (hK.cellv (HF.out k (by omega)) h4) (hK.pows hp (fun e => hgl e.symm)) hgl hn
      go_wp2_with fail
      refine (HM.out _).mono ?_
      rintro e w1 ⟨rfl, k1, z1, r1⟩
      clear HM e1
      go_wp2
      go_roundg (s.G - (k + 1))
      case rel => exact ⟨k + 1, by omega, rfl, rfl, by go_num, hK.trans k1 (fun _ _ e => e), z1.trans hz, r1.congr (fun p hp => by simp only [By]; rw [sumTo_step _ _ _ _ _ hp])⟩
      case measure => omega
    · have e : k = s.G := by omega
      subst e
      go_wp2
      go_ret
      exact ⟨rfl, hK, hz, hR⟩

set_option maxRecDepth 100000 in
set_option maxHeartbeats 1600000 in
theorem mix_any (s : Sh) (n bf og nf cf : Nat) (f : Nat → Nat) (w : World) (hs : Rd w s) (hL : ∀ r, r < s.G → s.L r = n) (hG : (s.G : Int) ≤ 1000) (h0 : 1 ≤ (s.G : Int))
    (hnf : (s.G : Int) ≤ (nf : Int)) (hfc : ∀ k, k < s.G → w.cell? ⟨bf, og + k, none⟩ = some (.int .u8 ((f k : Nat) : Int))) (hf : ∀ k, f k < 256) (hp : Pows w) (hn : (n : Int) ≤ 1000000) (hn1 : 1 ≤ (n : Int)) :
    Calls Tryd.prog 145 #[.slice (some ⟨bf, og, none⟩) nf cf, .slice s.g s.G s.cap] w fun e w' =>
      e = .returned (.slice (some ⟨w.heap.size + 1, 0, none⟩) n n) ∧ Kp (fun _ => False) w w' ∧ w'.heap.size = w.heap.size + 2 ∧ w'.rowIs (w.heap.size + 1) 5 n (By (sumTo f s.M s.G)) := by
  have hmk := run_make_row' (P := Tryd.prog) 22 5 (.int .u8 0) 1 Tryd.underlying22 info5 rfl .i64 .i64 n (by omega) (by omega)
  have hgl := hp.lt
  have e1 := hs.hd 0 (by omega)
  rw [hL 0 (by omega)] at e1
  simp only [Nat.add_zero] at e1
  have lgb := World.block_lt_of_cell? _ _ e1
  have lbf := World.block_lt_of_cell? _ _ (hfc 0 (by omega))
  have lrb : ∀ r, r < s.G → s.RB r < w.heap.size := fun r hr => by
    have := World.block_lt_of_cell? _ _ (hs.cell r hr 0 (by rw [hL r hr]; omega))
    simpa using this
  obtain ⟨wa, hwa⟩ : ∃ x, x = w.alloc (.cells #[.slice (some ⟨bf, og, none⟩) nf cf] 22) := ⟨_, rfl⟩
  have ka : Kp (fun _ => False) w wa := by rw [hwa]; exact (Kp.refl _ _).alloc _
  have za : wa.heap.size = w.heap.size + 1 := by rw [hwa]; simp
  have ca : wa.cell? ⟨w.heap.size, 0, none⟩ = some (.slice (some ⟨bf, og, none⟩) nf cf) := by rw [hwa]; go_simp
  obtain ⟨wb, hwb⟩ : ∃ x, x = wa.alloc (.cells (madeCells #[.int .u8 0] n) 5) := ⟨_, rfl⟩
  have kb : Kp (fun _ => False) w wb := by rw [hwb]; exact ka.alloc _
  have zb : wb.heap.size = w.heap.size + 2 := by rw [hwb]; simp [za]
  have cb : wb.cell? ⟨w.heap.size, 0, none⟩ = some (.slice (some ⟨bf, og, none⟩) nf cf) := by rw [hwb]; exact ((Kp.refl (fun _ => False) wa).alloc _).cellv ca id
  have rb : wb.rowIs (w.heap.size + 1) 5 n (By (fun _ => 0)) := by rw [hwb, ← za]; exact World.rowIs_made wa (.int .u8 0) n 5
  simp only at lgb lbf
  have HT : Hid (Calls _ _ _ wb _) := throughMix_any s (w.heap.size + 1) n w.heap.size bf og nf cf f wb (hs.keep kb) hL hG h0 cb hnf (fun k hk => kb.cellv (hfc k hk) id) hf rb (by omega) (fun r hr => by have := lrb r hr; omega) (by omega) (by omega) (kb.pows hp id) (by omega) hn
  rw [hs.at0 (by omega)] at HT ⊢
  clear hL hfc lrb
  go_enter Tryd.func145, Tryd.ntmps145
  go_wp2_with fail
  rw [← hwa, ← hwb]
  refine HT.out.mono ?_
  rintro e w1 ⟨rfl, k1, z1, r1⟩
  go_wp2
  go_ret
  exact ⟨rfl, kb.trans k1 (fun _ _ e => by omega), by omega, r1⟩

/-- as Part.step, the new row at whatever new block -/
theorem Part.step2 {w wr w2 : World} {t n C r b : Nat} {B : Nat → Nat} {M : Nat → Nat → Nat} (h : Part w wr t n C r B M) (ht : w.heap.size ≤ t) (k : Kp (fun _ => False) wr w2) (hb : wr.heap.size ≤ b) (hr : w2.rowIs b 5 C (By (M r))) :
    Part w (w2.setCell ⟨t, r, none⟩ (.slice (some ⟨b, 0, none⟩) C C)) t n C (r + 1) (fun i => if i = r then b else B i) M := by
  have htl := h.top.lt
  refine ⟨(h.kept.trans k (fun _ _ e => e.elim)).setCell (fun hh => absurd hh (by show ¬ t < w.heap.size; omega)) _, ((k.row h.top id).set r _).congr (fun j _ => by rw [heads2_succ]), fun j hj => ?_, fun j hj => ?_, fun i j hi hj e => ?_⟩
  · by_cases e : j = r
    · subst e; simp only [if_true]
      exact hr.setOther (by show b ≠ t; omega) _
    · simp only [if_neg e]
      exact (k.row (h.row j (by omega)) id).setOther (by show B j ≠ t; have := h.lo j (by omega); omega) _
  · by_cases e : j = r
    · simp only [if_pos e]; omega
    · simp only [if_neg e]; exact h.lo j (by omega)
  · by_cases e1 : i = r <;> by_cases e2 : j = r
    · omega
    · simp only [if_pos e1, if_neg e2] at e
      have := (h.row j (by omega)).lt
      omega
    · simp only [if_neg e1, if_pos e2] at e
      have := (h.row i (by omega)).lt
      omega
    · simp only [if_neg e1, if_neg e2] at e
      exact h.inj i j (by omega) (by omega) e

set_option maxRecDepth 100000 in
set_option maxHeartbeats 1600000 in
theorem mixAll_any (q s : Sh) (n : Nat) (w : World) (hq : Rd w q) (hs : Rd w s) (hqL : ∀ r, r < q.G → q.L r = s.G) (hL : ∀ r, r < s.G → s.L r = n) (hqG : (q.G : Int) ≤ 1000) (hq0 : 1 ≤ (q.G : Int)) (hG : (s.G : Int) ≤ 1000) (h0 : 1 ≤ (s.G : Int)) (hp : Pows w) (hn : (n : Int) ≤ 1000000) (hn1 : 1 ≤ (n : Int)) :
    Calls Tryd.prog 126 #[.slice q.g q.G q.cap, .slice s.g s.G s.cap] w fun e w' =>
      ∃ B, e = .returned (.slice (some ⟨w.heap.size, 0, none⟩) q.G q.G) ∧ Part w w' w.heap.size q.G n q.G B (fun r k => prodTo q.M s.M s.G r k) := by
  have HQ : Hid (∀ r, r < q.G → q.L r = s.G) := hqL
  have HL : Hid (∀ r, r < s.G → s.L r = n) := hL
  have hmk := run_make_row' (P := Tryd.prog) 27 22 (.slice none 0 0) 24 Tryd.underlying27 info42 rfl .i64 .i64 q.G (by omega) (by omega)
  have hs0 := hs.at0 (by omega)
  have hq0' := hq.at0 (by omega)
  rw [hs0, hq0']
  have HS0 : Hid (s.g = some ⟨s.gb, s.go, none⟩) := hs0
  clear hqL hL hs0 hq0'
  go_enter Tryd.func126, Tryd.ntmps126
  go_wp2
  clear hmk
  go_loopg [13] q.G (fun gk i wr => ∃ (r : Nat) (B : Nat → Nat), r ≤ q.G ∧ gk = q.G - r ∧ i = .int .i64 r ∧ Part w wr w.heap.size q.G n r B (fun r k => prodTo q.M s.M s.G r k))
  case atStart => exact ⟨0, _, Nat.zero_le _, rfl, rfl, Part.start w q.G _ _⟩
  case round =>
    obtain ⟨r, B, hr, rfl, rfl, hP⟩ := hrel
    by_cases hlt : (r : Int) < (q.G : Int)
    · have f1 := hP.kept.cellv (hq.hd r (by omega)) id
      rw [HQ.out r (by omega), hq.to r (by omega) 0 (by rw [HQ.out r (by omega)]; omega)] at f1
      have hmx : Hid (∀ c, Calls _ _ #[.slice _ _ c, _] wr _) := fun c => mix_any s n (q.RB r) (q.RO r) s.G c (q.M r) wr (hs.keep hP.kept) HL.out hG h0 (by omega) (fun k hk => hP.kept.cellv (hq.cell r (by omega) k (by rw [HQ.out r (by omega)]; exact hk)) id) (hq.byte r) (hP.kept.pows hp id) hn hn1
      rw [HS0.out] at hmx
      have HG : Hid (∀ w2, Kp (fun _ => False) wr w2 → w2.frozen? ⟨w.heap.size, r, none⟩ = false ∧ w2.cell? ⟨w.heap.size, r, none⟩ = some (heads2 B n r r)) := fun w2 k => ⟨(k.row hP.top id).frozen r, (k.row hP.top id).cell (by omega)⟩
      go_wp2_with fail
      refine (hmx.out _).mono ?_
      rintro e w2 ⟨rfl, hK2, hz2, hR2⟩
      obtain ⟨g3, g4⟩ := HG.out w2 hK2
      go_wp2
      go_roundg (q.G - (r + 1))
      case rel => exact ⟨r + 1, _, by omega, rfl, by go_num, hP.step2 (Nat.le_refl _) hK2 (by omega) hR2⟩
      case measure => omega
    · have e : r = q.G := by omega
      clear hq hs HQ HL
      go_wp2
      go_ret
      subst e
      exact ⟨rfl, B, hP⟩
end Go.Proofs.YtmncocmeafcpfaaDoor.Mf

/- The walks of bytes.Equal, slices.EqualFunc and the verifier's SameTexts, where both texts are the same. -/
namespace Go.Proofs.YtmncocmeafcpfaaDoor.Mf
open Go.RowKit Go.Deep

/-- the bytes of a row, as whole numbers -/
def ints (f : Nat → Nat) (n : Nat) : List Int := (List.range n).map fun j => ((f j : Nat) : Int)
theorem ints_length (f : Nat → Nat) (n : Nat) : (ints f n).length = n := by simp [ints]
theorem ints_at (f : Nat → Nat) {n j : Nat} (h : j < n) : (ints f n).getD j 0 = ((f j : Nat) : Int) := by
  unfold ints
  rw [List.getD_eq_getElem?_getD, List.getElem?_map, List.getElem?_range h]; rfl

theorem convert_row (src : Option Addr) (br ob n c : Nat) (f : Nat → Nat) (w : World) (hsrc : ∀ k, k < n → src = some ⟨br, ob, none⟩)
    (hr : ∀ k, k < n → w.cell? ⟨br, ob + k, none⟩ = some (.int .u8 ((f k : Nat) : Int))) :
    (convert 22 9 (.slice src n c)).run Tryd.prog w = .ok (.string (strOfNums (ints f n))) w := by
  rcases Nat.eq_zero_or_pos n with hn | hn
  · subst hn
    rw [run_convert_bytes_string w 22 9 5 _ 0 c Tryd.underlying22 Tryd.underlying5 Tryd.underlying9]
    cases src <;> simp [Conv.bytesToString, loadCells]
    all_goals rfl
  · obtain rfl := hsrc 0 hn
    exact run_convert_bytes_arg (P := Tryd.prog) w 22 5 Tryd.underlying22 Tryd.underlying5 br ob n c (ints f n) (ints_length f n) (fun i hi => by rw [ints_at f hi]; exact hr i hi) 9 Tryd.underlying9

set_option maxRecDepth 100000 in
set_option maxHeartbeats 800000 in
theorem bytesEqual_run (v1 v2 : Value) (b : ByteArray) (w : World) (h1 : (convert 22 9 v1).run Tryd.prog w = .ok (.string b) w) (h2 : (convert 22 9 v2).run Tryd.prog w = .ok (.string b) w) :
    Calls Tryd.prog 18 #[v1, v2] w fun e w' => e = .returned (.bool true) ∧ w' = w := by
  go_enter Tryd.func18, Tryd.ntmps18
  go_wp2
  go_ret
  exact ⟨rfl, rfl⟩

theorem bytesEqual_same (p1 p2 : Option Addr) (b1 o1 b2 o2 n c1 c2 : Nat) (f g : Nat → Nat) (w : World) (hp1 : ∀ k, k < n → p1 = some ⟨b1, o1, none⟩) (hp2 : ∀ k, k < n → p2 = some ⟨b2, o2, none⟩)
    (h1 : ∀ k, k < n → w.cell? ⟨b1, o1 + k, none⟩ = some (.int .u8 ((f k : Nat) : Int))) (h2 : ∀ k, k < n → w.cell? ⟨b2, o2 + k, none⟩ = some (.int .u8 ((g k : Nat) : Int))) (he : ∀ k, k < n → f k = g k) :
    Calls Tryd.prog 18 #[.slice p1 n c1, .slice p2 n c2] w fun e w' => e = .returned (.bool true) ∧ w' = w :=
  bytesEqual_run _ _ _ w (convert_row p1 b1 o1 n c1 f w hp1 h1) (convert_row p2 b2 o2 n c2 f w hp2 (fun k hk => by rw [he k hk]; exact h2 k hk))

end Go.Proofs.YtmncocmeafcpfaaDoor.Mf

/- The walk of matrix.Mul: the product, or the error. -/
namespace Go.Proofs.YtmncocmeafcpfaaDoor.Mf
open Go.RowKit Go.Deep

/-- the product, when i rows are done and j terms of the next -/
def prodAt (a b : Nat → Nat → Nat) (n i j : Nat) : Nat → Nat → Nat := fun r k => if r < i then prodTo a b n r k else if r = i then prodTo a b j r k else 0
theorem prodAt_lt (a b : Nat → Nat → Nat) (n i j r k : Nat) : prodAt a b n i j r k < 256 := by
  unfold prodAt; split
  · exact prodTo_lt _ _ _ _ _
  · split
    · exact prodTo_lt _ _ _ _ _
    · omega
theorem prodAt_next (a b : Nat → Nat → Nat) (n i r k : Nat) : prodAt a b n i n r k = prodAt a b n (i + 1) 0 r k := by
  unfold prodAt
  by_cases h : r < i
  · rw [if_pos h, if_pos (by omega)]
  · rw [if_neg h]
    by_cases e : r = i
    · rw [if_pos e, if_pos (by omega)]
    · rw [if_neg e, if_neg (by omega)]
      split
      · rfl
      · rfl
theorem prodAt_start (a b : Nat → Nat → Nat) (n : Nat) : prodAt a b n 0 0 = fun _ _ => 0 := by
  funext r k; unfold prodAt
  rw [if_neg (by omega)]
  split <;> rfl
theorem prodAt_step (a b : Nat → Nat → Nat) (n i j k C : Nat) (hk : k < C) : plusRow (prodAt a b n i j i) (b j) (a i j) 0 C k = prodAt a b n i (j + 1) i k := by
  unfold plusRow prodAt
  rw [if_pos (by omega), if_neg (by omega), if_pos rfl, if_neg (by omega), if_pos rfl, Nat.sub_zero]
  rfl
theorem prodAt_other (a b : Nat → Nat → Nat) (n i j r k : Nat) (h : r ≠ i) : prodAt a b n i j r k = prodAt a b n i (j + 1) r k := by
  unfold prodAt
  rw [if_neg h, if_neg h]



set_option maxRecDepth 100000 in
set_option maxHeartbeats 1600000 in
theorem mul_ok (s t : Sh) (w : World) (hs : Rd w s) (ht : Rd w t) (ms : isM s = true) (mt : isM t = true) (hst : s.L 0 = t.G) (hp : Pows w) :
    Calls Tryd.prog 125 #[.slice s.g s.G s.cap, .slice t.g t.G t.cap] w fun e w' =>
      e = .returned (.tuple #[.slice (some ⟨w.heap.size, 0, none⟩) s.G s.G, .int .i64 0]) ∧ Kp (fun _ => False) w w' ∧ w'.heap.size = w.heap.size + 1 + s.G ∧ Mat w' w.heap.size (fun i => w.heap.size + 1 + i) s.G (t.L 0) (fun r k => prodTo s.M t.M t.G r k) := by
  obtain ⟨a1, a2, a3, a4, a5⟩ := isM_true ms
  obtain ⟨b1, b2, b3, b4, b5⟩ := isM_true mt
  have HS : Hid (Calls _ _ _ w _) := isMatrix_any s w hs
  have HT : Hid (Calls _ _ _ w _) := isMatrix_any t w ht
  rw [ms] at HS
  rw [mt] at HT
  have HG1 := hs.at0 (by omega)
  have HG2 := ht.at0 (by omega)
  rw [HG1] at HS ⊢
  rw [HG2] at HT ⊢
  have c1 := hs.hd 0 (by omega)
  have c2 := ht.hd 0 (by omega)
  simp only [Nat.add_zero] at c1 c2
  have hq : ((s.L 0 : Int) != (t.G : Int)) = false := by rw [hst]; exact bne_self_eq_false _
  have HB : Hid (∀ r, r < t.G → t.L r = t.L 0) := b5
  have HA : Hid (∀ r, r < s.G → s.L r = t.G) := fun r hr => (a5 r hr).trans hst
  have HPL := hp.lt
  clear ms mt hst HG1 HG2 a5 b5
  go_enter Tryd.func125, Tryd.ntmps125
  go_wp2_with fail
  refine HS.out.mono ?_
  rintro e w' ⟨rfl, hw⟩
  obtain rfl := hw.symm
  go_wp2_with fail
  refine HT.out.mono ?_
  rintro e w' ⟨rfl, hw⟩
  obtain rfl := hw.symm
  go_wp2_with fail
  refine (noughts_any s.G (t.L 0) _ (by omega) (by omega)).mono ?_
  rintro e w1 ⟨rfl, hK1, hz1, hM1⟩
  clear HS HT c1 c2 hq
  go_wp2
  go_loopg [37] s.G (fun gk i wr => ∃ r : Nat, r ≤ s.G ∧ gk = s.G - r ∧ i = .int .i64 r ∧ Kp (fun _ => False) w wr ∧ wr.heap.size = w.heap.size + 1 + s.G ∧ Mat wr w.heap.size (fun i => w.heap.size + 1 + i) s.G (t.L 0) (prodAt s.M t.M t.G r 0))
  case atStart => exact ⟨0, Nat.zero_le _, rfl, rfl, hK1, hz1, by rw [prodAt_start]; exact hM1⟩
  case round =>
    obtain ⟨r, hr, rfl, rfl, hK, hz, hM⟩ := hrel
    clear hK1 hz1 hM1
    by_cases hlt : (r : Int) < (s.G : Int)
    · have e1 := hK.cellv (hs.hd r (by omega)) id
      rw [HA.out r (by omega), hs.to r (by omega) 0 (by rw [HA.out r (by omega)]; omega)] at e1
      go_wp2
      go_loopg [44] t.G (fun gk i wq => ∃ j : Nat, j ≤ t.G ∧ gk = t.G - j ∧ i = .int .i64 j ∧ Kp (fun _ => False) w wq ∧ wq.heap.size = w.heap.size + 1 + s.G ∧ Mat wq w.heap.size (fun i => w.heap.size + 1 + i) s.G (t.L 0) (prodAt s.M t.M t.G r j))
      case atStart => exact ⟨0, Nat.zero_le _, rfl, rfl, hK, hz, hM⟩
      case round =>
        obtain ⟨j, hj, rfl, rfl, hK2, hz2, hM2⟩ := hrel
        clear hK hz hM e1
        by_cases hlj : (j : Int) < (t.G : Int)
        · have f2 := hK2.cellv (hs.cell r (by omega) j (by rw [HA.out r (by omega)]; omega)) id
          have f3 := hM2.top.cell (i := r) (by omega)
          have f4 := hK2.cellv (ht.hd j (by omega)) id
          have l1 := hs.byte r j
          rw [HB.out j (by omega)] at f4
          have hrow := hM2.row r (by omega)
          have hadd : Hid (∀ w' : World, w'.heap = wr.heap → Calls Tryd.prog 144 #[.slice (some ⟨w.heap.size + 1 + r, 0, none⟩) (t.L 0) (t.L 0), .slice (t.A j) (t.L 0) (t.C j), .int .u8 ((s.M r j : Nat) : Int)] w' fun e w'' =>
              e = .returned (.tuple #[]) ∧ Kp (fun b => b = w.heap.size + 1 + r) w' w'' ∧ w''.heap.size = w'.heap.size ∧ w''.rowIs (w.heap.size + 1 + r) 5 (t.L 0) (By (plusRow (prodAt s.M t.M t.G r j r) (t.M j) (s.M r j) 0 (t.L 0)))) := fun w' hw' =>
            addTimes_any (w.heap.size + 1 + r) 0 (t.L 0) (t.L 0) (t.L 0) (t.A j) (t.RB j) (t.RO j) (t.L 0) (t.C j) _ (t.M j) (s.M r j) w' (prodAt_lt _ _ _ _ _ _) (ht.byte j) (by omega) (hrow.of_block (by rw [hw'])) (fun k hk => ht.to j (by omega) k (by rw [HB.out j (by omega)]; exact hk))
              (fun k hk => by
                have := hK2.cellv (ht.cell j (by omega) k (by rw [HB.out j (by omega)]; exact hk)) id
                simpa [World.cell?, hw'] using this)
              (by have := World.block_lt_of_cell? _ _ (ht.cell j (by omega) 0 (by rw [HB.out j (by omega)]; omega)); simp at this; omega) (by omega) (by omega) ((hK2.pows hp id).heap hw') (by omega) (by omega)
          go_wp2
          go_region_with
            (go_at_call 144; refine (hadd.out _ (by rfl)).mono ?_; rintro e w2 ⟨rfl, hKa, hza, hRa⟩)
          all_goals
            go_wp2
            go_roundg (t.G - (j + 1))
            case rel => exact ⟨j + 1, by omega, rfl, by go_num, Kp.trans (S' := fun b => b = w.heap.size + 1 + r) hK2.drew hKa (fun b hb e => by omega), hza.trans hz2,
              hKa.row hM2.top (by omega), fun i hi => by
                by_cases e : i = r
                · subst e
                  exact hRa.congr (fun k hk => by simp only [By]; rw [prodAt_step _ _ _ _ _ _ _ hk])
                · exact (hKa.row (hM2.row i hi) (by omega)).congr (fun k _ => by simp only [By]; rw [prodAt_other _ _ _ _ _ _ _ e]), hM2.inj, hM2.ne, prodAt_lt _ _ _ _ _⟩
            case measure => omega
        · have e : j = t.G := by omega
          subst e
          go_wp2
          go_roundg (s.G - (r + 1))
          case rel => exact ⟨r + 1, by omega, rfl, by go_num, hK2, hz2, hM2.top, fun i hi => (hM2.row i hi).congr (fun k _ => by simp only [By]; rw [prodAt_next]), hM2.inj, hM2.ne, prodAt_lt _ _ _ _ _⟩
          case measure => omega
    · have e : r = s.G := by omega
      go_wp2
      go_ret2
      exact ⟨rfl, hK, hz, hM.top, fun i hi => (hM.row i hi).congr (fun k _ => by
        simp only [By, prodAt]
        rw [if_pos (by omega)]), hM.inj, hM.ne, prodTo_lt _ _ _⟩
end Go.Proofs.YtmncocmeafcpfaaDoor.Mf

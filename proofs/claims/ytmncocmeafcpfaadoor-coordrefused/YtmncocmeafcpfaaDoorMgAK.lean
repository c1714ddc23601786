/- Texts of this proof, joined: MfM10, MfM11, MfLan, MfMa. -/
import Derived.Test.YtmncocmeafcpfaaDoorMgAJ
import Derived.Test.YtmncocmeafcpfaaDoorMgAH
import Derived.Test.YtmncocmeafcpfaaDoorMgAI
import Derived.Maps.AppendAt
import Derived.RegionTactic
/- The walk of matrix.Invert on a square matrix: the inverse that elimination finds, or the error. -/
namespace Go.Proofs.YtmncocmeafcpfaaDoor.Mf
open Go.RowKit Go.Deep

/-- a pivot is found, or there is none -/
theorem piv_or (W : Nat → Nat → Nat) (n i : Nat) : (∃ j, Piv W n i j) ∨ NoPiv W n i := by
  have key : ∀ k, (∃ j, Piv W n i j) ∨ ∀ j, i ≤ j → j < k → j < n → W j i = 0 := by
    intro k
    induction k with
    | zero => exact Or.inr (fun j _ h => by omega)
    | succ k ih =>
      rcases ih with h | h
      · exact Or.inl h
      · by_cases hk : i ≤ k ∧ k < n ∧ W k i ≠ 0
        · exact Or.inl ⟨k, hk.1, hk.2.1, hk.2.2, fun j h1 h2 => h j h1 h2 (by omega)⟩
        · refine Or.inr (fun j h1 h2 h3 => ?_)
          by_cases e : j = k
          · subst e
            by_cases e0 : W j i = 0
            · exact e0
            · exact absurd ⟨h1, h3, e0⟩ hk
          · exact h j h1 (by omega) h3
  rcases key n with h | h
  · exact Or.inl h
  · exact Or.inr (fun j h1 h2 => h j h1 h2 h2)

/-- what stands in memory when i columns are done -/
structure Elim (w wr : World) (t n i : Nat) (A : Nat → Nat → Nat) (B : Nat → Nat) (W : Nat → Nat → Nat) : Prop where
  kept : Kp (fun _ => False) w wr
  mat : Mat wr t B n (2 * n) W
  el : El A n i W
  top : w.heap.size ≤ t
  lo : ∀ r, r < n → w.heap.size ≤ B r
theorem Elim.step {w wr w2 w3 : World} {t n i j : Nat} {A : Nat → Nat → Nat} {B : Nat → Nat} {W : Nat → Nat → Nat} (h : Elim w wr t n i A B W) (hi : i < n) (p : Piv W n i j)
    (k2 : Kp (fun b => b = t ∨ ∃ r, r < n ∧ b = B r) wr w2) (k3 : Kp (fun b => ∃ r, r < n ∧ b = exch B i j r) w2 w3) (m3 : Mat w3 t (exch B i j) n (2 * n) (cleared (brought W i j) i)) :
    Elim w w3 t n (i + 1) A (exch B i j) (cleared (brought W i j) i) := by
  have lo : ∀ r, r < n → w.heap.size ≤ exch B i j r := fun r hr => by
    obtain ⟨q, hq, e⟩ := exch_mem B hi p.2.1 hr
    rw [e]; exact h.lo q hq
  refine ⟨(h.kept.trans k2 (fun b hb e => ?_)).trans k3 (fun b hb e => ?_), m3, h.el.step hi p, h.top, lo⟩
  · rcases e with e | ⟨r, hr, e⟩
    · have := h.top; omega
    · have := h.lo r hr; omega
  · obtain ⟨r, hr, e⟩ := e
    have := lo r hr; omega

set_option maxRecDepth 100000 in
set_option maxHeartbeats 3200000 in
theorem invert_any (s : Sh) (n : Nat) (w : World) (hs : Rd w s) (hG : s.G = n) (hL : ∀ r, r < n → s.L r = n) (h1 : 1 ≤ (n : Int)) (h2 : (n : Int) ≤ 255) (hp : Pows w) :
    Calls Tryd.prog 124 #[.slice s.g n s.cap] w fun e w' =>
      Kp (fun _ => False) w w' ∧ ((e = .returned (.tuple #[.slice none 0 0, .int .i64 20]) ∧ ∃ i W, i < n ∧ El s.M n i W ∧ NoPiv W n i) ∨
        ∃ t B W, e = .returned (.tuple #[.slice (some ⟨t, 0, none⟩) n n, .int .i64 0]) ∧ El s.M n n W ∧ Mat w' t B n n (right W n)) := by
  have HS : Hid (Calls _ _ _ w _) := isMatrix_any s w hs
  have HB : Hid (Calls _ _ _ w _) := besideOnes_any s n w hs hG hL h1 h2
  have ms : isM s = true := decide_eq_true ⟨by omega, by omega, by rw [hL 0 (by omega)]; omega, by rw [hL 0 (by omega)]; omega, fun r hr => by rw [hL r (by omega), hL 0 (by omega)]⟩
  rw [ms, hG] at HS
  have c1 := hs.hd 0 (by omega)
  rw [hL 0 (by omega)] at c1
  rw [hs.at0 (by omega)] at HS HB ⊢
  simp only [Nat.add_zero] at c1
  have hgl : 1 < w.heap.size := hp.lt
  have HN := run_make_row' (P := Tryd.prog) 27 22 (.slice none 0 0) 24 Tryd.underlying27 info42 rfl .i64 .i64 n (by omega) (by omega)
  clear ms hG hL
  go_enter Tryd.func124, Tryd.ntmps124
  go_wp2_with fail
  refine HS.out.mono ?_
  rintro e w' ⟨rfl, hw⟩
  obtain rfl := hw.symm
  go_wp2_with fail
  refine HB.out.mono ?_
  rintro e w1 ⟨rfl, hK1, hM1⟩
  have hE0 : Elim w w1 w.heap.size n 0 s.M (fun i => w.heap.size + 1 + i) (wide s.M n) := ⟨hK1, hM1, .start, Nat.le_refl _, fun r _ => by omega⟩
  clear HS HB c1 hK1 hM1
  go_wp2
  go_loopg [25] n (fun gk x wr => ∃ (i : Nat) (B : Nat → Nat) (W : Nat → Nat → Nat), i ≤ n ∧ gk = n - i ∧ x = .int .i64 i ∧ Elim w wr w.heap.size n i s.M B W)
  case atStart => exact ⟨0, _, _, Nat.zero_le _, rfl, rfl, hE0⟩
  case round =>
    obtain ⟨i, B, W, hi, rfl, rfl, hE⟩ := hrel
    clear hE0
    by_cases hlt : (i : Int) < (n : Int)
    · have hpr := hE.kept.pows hp id
      have hBp : ∀ r, r < n → B r ≠ 1 := fun r hr e => by have := hE.lo r hr; omega
      rcases piv_or W n i with ⟨j, hpv⟩ | hno
      · have HPv : Hid (Piv W n i j) := hpv
        have HBr : Hid (Calls _ _ _ wr _) := bringPivot_some w.heap.size B n (2 * n) i j W wr hE.mat hlt (by omega) (by omega) hpr hpv (by omega) hBp
        clear hpv
        go_wp2_with fail
        refine HBr.out.mono ?_
        rintro e w2 ⟨rfl, hK2, hz2, hM2⟩
        have hex : ∀ r, r < n → exch B i j r ≠ 1 := fun r hr => by
          obtain ⟨q, hq, e⟩ := exch_mem B (show i < n by omega) HPv.out.2.1 hr
          rw [e]; exact hBp q hq
        have hp2 : Pows w2 := hK2.pows hpr (fun e => by
          rcases e with e | ⟨r, hr, e⟩
          · omega
          · exact hBp r hr e.symm)
        have HC : Hid (Calls _ _ _ w2 _) := clearColumn_any w.heap.size (exch B i j) n (2 * n) i _ w2 hM2 hlt (by omega) (by omega) hp2 hex
        clear HBr hex
        go_wp2_with fail
        refine HC.out.mono ?_
        rintro e w3 ⟨rfl, hK3, hz3, hM3⟩
        have hE3 := hE.step (by omega) HPv.out hK2 hK3 hM3
        clear HC hK2 hz2 hM2 hK3 hz3 hM3 hE
        go_wp2
        go_roundg (n - (i + 1))
        case rel => exact ⟨i + 1, _, _, by omega, rfl, by go_num, hE3⟩
        case measure => omega
      · have HBr : Hid (Calls _ _ _ wr _) := bringPivot_none w.heap.size B n (2 * n) i W wr hE.mat hlt (by omega) h2 hpr hno
        have HNo : Hid (NoPiv W n i) := hno
        clear hno
        go_wp2_with fail
        refine HBr.out.mono ?_
        rintro e w2 ⟨rfl, m, rfl⟩
        go_wp2
        go_ret2
        exact ⟨hE.kept.drewN m, Or.inl ⟨rfl, i, W, by omega, hE.el, HNo.out⟩⟩
    · have e : n = i := by omega
      subst e
      obtain ⟨wr0, rfl⟩ : ∃ x, x = wr := ⟨_, rfl⟩
      have hP0 := Part.start wr0 n n (right W n)
      go_wp2
      clear HN
      go_loopg [41] n (fun gk x wq => ∃ (r : Nat) (B' : Nat → Nat), r ≤ n ∧ gk = n - r ∧ x = .int .i64 r ∧ Part wr0 wq wr0.heap.size n n r B' (right W n))
      case atStart => exact ⟨0, _, Nat.zero_le _, rfl, rfl, hP0⟩
      case round =>
        obtain ⟨r, B', hr, rfl, rfl, hP⟩ := hrel
        clear hP0
        by_cases hlr : (r : Int) < (n : Int)
        · have f1 := hP.kept.cellv (hE.mat.top.cell (i := r) (by omega)) id
          have hrow := hE.mat.row r (by omega)
          have hcp : Hid (∀ c, Calls _ _ #[.slice (some ⟨B r, n, none⟩) n c] wr _) := fun c => copyRow_any (some ⟨B r, n, none⟩) (B r) n n c (right W n r) wr (fun _ _ => rfl) (fun k hk => by
            have := hP.kept.cellv (hrow.cell (i := n + k) (by omega)) id
            exact this) (by omega)
          have g2 : ∀ w2, Kp (fun _ => False) wr w2 → w2.frozen? ⟨wr0.heap.size, r, none⟩ = false ∧ w2.cell? ⟨wr0.heap.size, r, none⟩ = some (heads2 B' n r r) := fun w2 k => ⟨(k.row hP.top id).frozen r, (k.row hP.top id).cell (by omega)⟩
          have HG : Hid (∀ w2, Kp (fun _ => False) wr w2 → w2.frozen? ⟨wr0.heap.size, r, none⟩ = false ∧ w2.cell? ⟨wr0.heap.size, r, none⟩ = some (heads2 B' n r r)) := g2
          have hnn : (n : Int) ≤ 2 * (n : Int) := by omega
          clear g2 hrow
          go_wp2_with fail
          rw [show 2 * n - n = n from by omega]
          refine (hcp.out n).mono ?_
          rintro e w2 ⟨rfl, hK2, hR2⟩
          obtain ⟨g3, g4⟩ := HG.out w2 hK2
          have hPs := hP.step (Nat.le_refl _) hK2 hR2
          have HPs : Hid (Part _ _ _ _ _ _ _ _) := hPs
          clear hPs
          go_wp2
          go_roundg (n - (r + 1))
          case rel => exact ⟨r + 1, _, by omega, rfl, by go_num, HPs.out⟩
          case measure => omega
        · have e : r = n := by omega
          subst e
          go_wp2
          go_ret2
          exact ⟨hE.kept.trans hP.kept (fun _ _ e => e), Or.inr ⟨_, rfl, B', W, hE.el, hP.mat (fun i j => (hE.el.keeps hs.byte).byte _ _)⟩⟩
end Go.Proofs.YtmncocmeafcpfaaDoor.Mf

/- matrix.Invert, as the laws take it. -/
namespace Go.Proofs.YtmncocmeafcpfaaDoor.Mf
open Go.RowKit Go.Deep

theorem invertX (a : Value) (n : Nat) (A : Nat → Nat → Nat) (w : World) (ha : Mx w a n n A) (h1 : 1 ≤ n) (h2 : n ≤ 255) (hp : Pows w) :
    Calls Tryd.prog 124 #[a] w fun e w' =>
      Kp (fun _ => False) w w' ∧ ((e = .returned (.tuple #[.slice none 0 0, .int .i64 20]) ∧ ∃ i W, i < n ∧ El A n i W ∧ NoPiv W n i) ∨
        ∃ t W, e = .returned (.tuple #[.slice (some ⟨t, 0, none⟩) n n, .int .i64 0]) ∧ El A n n W ∧ Mx w' (.slice (some ⟨t, 0, none⟩) n n) n n (right W n)) := by
  obtain ⟨s, rfl, hs, hG, hsL, rfl⟩ := ha
  have := invert_any s n w hs hG hsL (by omega) (by omega) hp
  rw [hG]
  refine this.mono ?_
  rintro e w' ⟨hK, ⟨rfl, h⟩ | ⟨t, B, W, rfl, hE, hM⟩⟩
  · exact ⟨hK, Or.inl ⟨rfl, h⟩⟩
  · exact ⟨hK, Or.inr ⟨t, W, rfl, hE, hM.mx⟩⟩

/-- a matrix of which two rows are the same has no inverse from the right -/
theorem twice_none {A E : Nat → Nat → Nat} {n p q : Nat} (hp : p < n) (hq : q < n) (hpq : p ≠ q) (h : ∀ c, A p c = A q c) (hE : ∀ r c, r < n → c < n → prodTo A E n r c = ones n r c) : False := by
  have e1 := hE p p hp hp
  have e2 := hE q p hq hp
  rw [ones_self n p hp] at e1
  rw [ones_ne n q p hpq] at e2
  have : prodTo A E n p p = prodTo A E n q p := xsum_congr (fun x _ => by rw [h x])
  omega
end Go.Proofs.YtmncocmeafcpfaaDoor.Mf

/- The walk of the law MatrixAny: any rows of a code's matrix, as many as its data, have an inverse. -/
namespace Go.Proofs.YtmncocmeafcpfaaDoor.Mf
open Go.RowKit Go.Deep

def kk12 (n : Int) : Nat := 1 + ((n % 18446744073709551616) % 12).toNat
def mm6 (n : Int) : Nat := ((n % 18446744073709551616) % 6).toNat
theorem kk12_bd (n : Int) : 1 ≤ kk12 n ∧ kk12 n ≤ 12 := by unfold kk12; omega
theorem mm6_bd (n : Int) : mm6 n ≤ 5 := by unfold mm6; omega
theorem u64_wrap (n : Int) : IntKind.u64.wrap n = n % 18446744073709551616 := by simp [IntKind.wrap, IntKind.bits, IntKind.signed]
theorem kk12_eq (n : Int) : wrap64 (1 + wrap64 ((IntKind.u64.wrap n).tmod 12)) = (kk12 n : Int) := by
  rw [u64_wrap, Int.tmod_eq_emod_of_nonneg (by omega)]
  unfold wrap64 kk12; omega
theorem mm6_eq (n : Int) : wrap64 ((IntKind.u64.wrap n).tmod 6) = (mm6 n : Int) := by
  rw [u64_wrap, Int.tmod_eq_emod_of_nonneg (by omega)]
  unfold wrap64 mm6; omega

theorem info3 : (Tryd.prog.info? 3).map (fun i => (i.zero, i.size, i.bytes)) = some (some (.int .i64 0), 1, 8) := by kernel_rfl
/-- numbers, as values -/
def nums (l : Nat → Nat) (m : Nat) : List Value := (List.range m).map fun j => .int .i64 ((l j : Nat) : Int)
theorem nums_succ (l : Nat → Nat) (m i : Nat) : nums (fun j => if j = m then i else l j) (m + 1) = nums l m ++ [.int .i64 ((i : Nat) : Int)] := by
  unfold nums
  rw [List.range_succ, List.map_append]
  congr 1
  · refine List.map_congr_left (fun j hj => ?_)
    have hj' := List.mem_range.1 hj
    dsimp only
    rw [if_neg (by omega)]
  · simp
theorem nums_at (l : Nat → Nat) {m j : Nat} (h : j < m) : (nums l m)[j]? = some (.int .i64 ((l j : Nat) : Int)) := by
  unfold nums; rw [List.getElem?_map, List.getElem?_range h]; rfl
theorem sel_value {w : World} {base m : Nat} {v : Value} {xs : List Value} (h : w.ownsRow base 3 1 v (m + 1) xs) : ∃ ao cv, v = .slice ao (m + 1) cv := by
  rcases h.2 with ⟨_, h0⟩ | ⟨g, cap, cur, rfl, _⟩
  · omega
  · exact ⟨_, _, rfl⟩
theorem sel_step {l : Nat → Nat} {m i : Nat} (h : ∀ j, j < m → l j < i ∧ ∀ j', j < j' → j' < m → l j < l j') : ∀ j, j < m + 1 → (if j = m then i else l j) < i + 1 ∧ ∀ j', j < j' → j' < m + 1 → (if j = m then i else l j) < (if j' = m then i else l j') := by
  intro j hj
  by_cases e : j = m
  · rw [if_pos e]
    exact ⟨by omega, fun j' h1 h2 => by omega⟩
  · rw [if_neg e]
    have := h j (by omega)
    refine ⟨by omega, fun j' h1 h2 => ?_⟩
    by_cases e' : j' = m
    · rw [if_pos e']; exact this.1
    · rw [if_neg e']; exact this.2 j' h1 (by omega)
theorem sel_read {w : World} {base m : Nat} {v : Value} {l : Nat → Nat} (hm : 0 < m) (h : w.ownsRow base 3 1 v m (nums l m)) : Ls w v m l := by
  rcases h.2 with ⟨_, h0⟩ | ⟨g, cap, cur, rfl, hb, hh, hn, _, hcs, htk⟩
  · omega
  · refine ⟨some ⟨g, 0, none⟩, g, 0, cap, rfl, fun _ _ => rfl, fun i hi => ?_⟩
    have h1 : (cur.toList.take (m * 1))[i]? = some (.int .i64 ((l i : Nat) : Int)) := by rw [htk]; exact nums_at l hi
    rw [List.getElem?_take_of_lt (by omega), Array.getElem?_toList] at h1
    simp [World.cell?, hh, h1]
/-- elimination of any K rows of a code's matrix does not fail -/
theorem any_no_fail {K i : Nat} {l : Nat → Nat} (hK : K ≤ 256) (hl : ∀ j, j < K → l j < 256 ∧ ∀ j', j < j' → j' < K → l j < l j') {W : Nat → Nat → Nat} (h : El (fun r => gen K (l r)) K i W) (hi : i < K) : ¬ NoPiv W K i := fun hn => by
  obtain ⟨v, hv, h1, h0⟩ := h.kernel (fun _ _ => gen_lt _ _ _) hi hn
  have := any_kernel K l (fun j hj => (hl j hj).1) hK (fun j j' h1 h2 => (hl j (by omega)).2 j' h1 h2) v hv h0 i hi
  omega

end Go.Proofs.YtmncocmeafcpfaaDoor.Mf

/- The walk of the verifier's made: a small code, and the shards of data of a length. -/
namespace Go.Proofs.YtmncocmeafcpfaaDoor.Mf
open Go.RowKit Go.Deep

def nn10 (n : Int) : Nat := 1 + ((n % 18446744073709551616) % 10).toNat
theorem nn10_bd (n : Int) : 1 ≤ nn10 n ∧ nn10 n ≤ 10 := by unfold nn10; omega
theorem nn10_eq (n : Int) : wrap64 (1 + wrap64 ((IntKind.u64.wrap n).tmod 10)) = (nn10 n : Int) := by
  rw [u64_wrap, Int.tmod_eq_emod_of_nonneg (by omega)]
  unfold wrap64 nn10; omega

/-- one byte of a row that is made -/
theorem Part.setByte {w wr : World} {t n C r : Nat} {B : Nat → Nat} {M : Nat → Nat → Nat} (h : Part w wr t n C r B M) (ht : w.heap.size ≤ t) {i : Nat} (hi : i < r) (j x : Nat) :
    Part w (wr.setCell ⟨B i, j, none⟩ (.int .u8 ((x : Nat) : Int))) t n C r B (fun i' => if i' = i then (fun c => if c = j then x else M i c) else M i') := by
  have hlo := h.lo i hi
  refine ⟨h.kept.setCell (fun hh => absurd hh (by show ¬ B i < w.heap.size; omega)) _, h.top.setOther (by show t ≠ B i; omega) _, fun q hq => ?_, h.lo, h.inj⟩
  by_cases e : q = i
  · subst e
    refine ((h.row q hq).set j _).congr (fun c _ => ?_)
    simp only [By, if_true]
    split <;> rfl
  · refine ((h.row q hq).setOther (by show B q ≠ B i; exact fun e' => e (h.inj q i hq hi e')) _).congr (fun c _ => ?_)
    simp only [By, if_neg e]
theorem Part.drewN {w wr : World} {t n C r : Nat} {B : Nat → Nat} {M : Nat → Nat → Nat} (h : Part w wr t n C r B M) (m : Nat) : Part w (wr.drewN m) t n C r B M :=
  ⟨h.kept.drewN m, rowIs_drewN h.top m, fun j hj => rowIs_drewN (h.row j hj) m, h.lo, h.inj⟩
theorem Part.congr {w wr : World} {t n C r : Nat} {B : Nat → Nat} {M M' : Nat → Nat → Nat} (h : Part w wr t n C r B M) (e : ∀ i, i < r → ∀ c, c < C → M i c = M' i c) : Part w wr t n C r B M' :=
  ⟨h.kept, h.top, fun j hj => (h.row j hj).congr (fun c hc => by simp only [By]; rw [e j hj c hc]), h.lo, h.inj⟩
theorem Mat.mxTake {w : World} {t : Nat} {B : Nat → Nat} {R C : Nat} {M : Nat → Nat → Nat} (h : Mat w t B R C M) {r : Nat} (hr : r ≤ R) (cap : Nat) : Mx w (.slice (some ⟨t, 0, none⟩) r cap) r C M :=
  ⟨⟨some ⟨t, 0, none⟩, r, cap, t, 0, fun r => some ⟨B r, 0, none⟩, fun _ => C, fun _ => C, B, fun _ => 0, M⟩, rfl,
    ⟨fun _ => rfl, fun i hi => by have := h.top.cell (i := i) (by simp at hi; omega); simpa using this, fun _ _ _ _ => rfl, fun i hi c hc => by have := (h.row i (by simp at hi; omega)).cell hc; simpa using this, h.byte⟩, rfl, fun _ _ => rfl, rfl⟩

/-- the code in a variable of its own -/
theorem code_alloc (w : World) (K M : Int) : ∃ wa, wa = w.alloc (.cells #[.int .i64 K, .int .i64 M] 26) ∧ Kp (fun _ => False) w wa ∧ wa.heap.size = w.heap.size + 1 ∧ wa.cell? ⟨w.heap.size, 0, none⟩ = some (.int .i64 K) ∧ wa.cell? ⟨w.heap.size, 1, none⟩ = some (.int .i64 M) :=
  ⟨_, rfl, (Kp.refl _ _).alloc _, by simp, by go_simp, by go_simp⟩
end Go.Proofs.YtmncocmeafcpfaaDoor.Mf

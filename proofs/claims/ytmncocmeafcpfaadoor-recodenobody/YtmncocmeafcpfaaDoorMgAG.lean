/- Texts of this proof, joined: MfM11, MfLan, MfMa, MfS1. -/
import Derived.Test.YtmncocmeafcpfaaDoorMgAF
import Derived.Test.YtmncocmeafcpfaaDoorMgAE
import Derived.Maps.AppendAt
import Derived.RegionTactic
import Derived.Test.YtmncocmeafcpfaaDoorMgAB
/- matrix.Invert, as the laws take it. -/
namespace Go.Proofs.YtmncocmeafcpfaaDoor.Mf
open Go.RowKit Go.Deep

theorem invertX (a : Value) (n : Nat) (A : Nat → Nat → Nat) (w : World) (ha : Mx w a n n A) (h1 : 1 ≤ n) (h2 : n ≤ 255) (hp : Pows w) :
    Calls Tryd.prog 124 #[a] w fun e w' =>
      Kp (fun _ => False) w w' ∧ ((e = .returned (.tuple #[.slice none 0 0, .int .i64 20]) ∧ ∃ i W, i < n ∧ El A n i W ∧ NoPiv W n i) ∨
        ∃ t W, e = .returned (.tuple #[.slice (some ⟨t, 0, none⟩) n n, .int .i64 0]) ∧ El A n n W ∧ Mx w' (.slice (some ⟨t, 0, none⟩) n n) n n (right W n)) := by
  obtain ⟨s, rfl, hs, hG, hsL, rfl⟩ := ha
  have := invert_any s n w hs hG hsL (by omega) (by omega) hp
  rw [hG]
  refine this.mono ?_
  rintro e w' ⟨hK, ⟨rfl, h⟩ | ⟨t, B, W, rfl, hE, hM⟩⟩
  · exact ⟨hK, Or.inl ⟨rfl, h⟩⟩
  · exact ⟨hK, Or.inr ⟨t, W, rfl, hE, hM.mx⟩⟩

/-- a matrix of which two rows are the same has no inverse from the right -/
theorem twice_none {A E : Nat → Nat → Nat} {n p q : Nat} (hp : p < n) (hq : q < n) (hpq : p ≠ q) (h : ∀ c, A p c = A q c) (hE : ∀ r c, r < n → c < n → prodTo A E n r c = ones n r c) : False := by
  have e1 := hE p p hp hp
  have e2 := hE q p hq hp
  rw [ones_self n p hp] at e1
  rw [ones_ne n q p hpq] at e2
  have : prodTo A E n p p = prodTo A E n q p := xsum_congr (fun x _ => by rw [h x])
  omega
end Go.Proofs.YtmncocmeafcpfaaDoor.Mf

/- The walk of the law MatrixAny: any rows of a code's matrix, as many as its data, have an inverse. -/
namespace Go.Proofs.YtmncocmeafcpfaaDoor.Mf
open Go.RowKit Go.Deep

def kk12 (n : Int) : Nat := 1 + ((n % 18446744073709551616) % 12).toNat
def mm6 (n : Int) : Nat := ((n % 18446744073709551616) % 6).toNat
theorem kk12_bd (n : Int) : 1 ≤ kk12 n ∧ kk12 n ≤ 12 := by unfold kk12; omega
theorem mm6_bd (n : Int) : mm6 n ≤ 5 := by unfold mm6; omega
theorem u64_wrap (n : Int) : IntKind.u64.wrap n = n % 18446744073709551616 := by simp [IntKind.wrap, IntKind.bits, IntKind.signed]
theorem kk12_eq (n : Int) : wrap64 (1 + wrap64 ((IntKind.u64.wrap n).tmod 12)) = (kk12 n : Int) := by
  rw [u64_wrap, Int.tmod_eq_emod_of_nonneg (by omega)]
  unfold wrap64 kk12; omega
theorem mm6_eq (n : Int) : wrap64 ((IntKind.u64.wrap n).tmod 6) = (mm6 n : Int) := by
  rw [u64_wrap, Int.tmod_eq_emod_of_nonneg (by omega)]
  unfold wrap64 mm6; omega

theorem info3 : (Tryd.prog.info? 3).map (fun i => (i.zero, i.size, i.bytes)) = some (some (.int .i64 0), 1, 8) := by kernel_rfl
/-- numbers, as values -/
def nums (l : Nat → Nat) (m : Nat) : List Value := (List.range m).map fun j => .int .i64 ((l j : Nat) : Int)
theorem nums_succ (l : Nat → Nat) (m i : Nat) : nums (fun j => if j = m then i else l j) (m + 1) = nums l m ++ [.int .i64 ((i : Nat) : Int)] := by
  unfold nums
  rw [List.range_succ, List.map_append]
  congr 1
  · refine List.map_congr_left (fun j hj => ?_)
    have hj' := List.mem_range.1 hj
    dsimp only
    rw [if_neg (by omega)]
  · simp
theorem nums_at (l : Nat → Nat) {m j : Nat} (h : j < m) : (nums l m)[j]? = some (.int .i64 ((l j : Nat) : Int)) := by
  unfold nums; rw [List.getElem?_map, List.getElem?_range h]; rfl
theorem sel_value {w : World} {base m : Nat} {v : Value} {xs : List Value} (h : w.ownsRow base 3 1 v (m + 1) xs) : ∃ ao cv, v = .slice ao (m + 1) cv := by
  rcases h.2 with ⟨_, h0⟩ | ⟨g, cap, cur, rfl, _⟩
  · omega
  · exact ⟨_, _, rfl⟩
theorem sel_step {l : Nat → Nat} {m i : Nat} (h : ∀ j, j < m → l j < i ∧ ∀ j', j < j' → j' < m → l j < l j') : ∀ j, j < m + 1 → (if j = m then i else l j) < i + 1 ∧ ∀ j', j < j' → j' < m + 1 → (if j = m then i else l j) < (if j' = m then i else l j') := by
  intro j hj
  by_cases e : j = m
  · rw [if_pos e]
    exact ⟨by omega, fun j' h1 h2 => by omega⟩
  · rw [if_neg e]
    have := h j (by omega)
    refine ⟨by omega, fun j' h1 h2 => ?_⟩
    by_cases e' : j' = m
    · rw [if_pos e']; exact this.1
    · rw [if_neg e']; exact this.2 j' h1 (by omega)
theorem sel_read {w : World} {base m : Nat} {v : Value} {l : Nat → Nat} (hm : 0 < m) (h : w.ownsRow base 3 1 v m (nums l m)) : Ls w v m l := by
  rcases h.2 with ⟨_, h0⟩ | ⟨g, cap, cur, rfl, hb, hh, hn, _, hcs, htk⟩
  · omega
  · refine ⟨some ⟨g, 0, none⟩, g, 0, cap, rfl, fun _ _ => rfl, fun i hi => ?_⟩
    have h1 : (cur.toList.take (m * 1))[i]? = some (.int .i64 ((l i : Nat) : Int)) := by rw [htk]; exact nums_at l hi
    rw [List.getElem?_take_of_lt (by omega), Array.getElem?_toList] at h1
    simp [World.cell?, hh, h1]
/-- elimination of any K rows of a code's matrix does not fail -/
theorem any_no_fail {K i : Nat} {l : Nat → Nat} (hK : K ≤ 256) (hl : ∀ j, j < K → l j < 256 ∧ ∀ j', j < j' → j' < K → l j < l j') {W : Nat → Nat → Nat} (h : El (fun r => gen K (l r)) K i W) (hi : i < K) : ¬ NoPiv W K i := fun hn => by
  obtain ⟨v, hv, h1, h0⟩ := h.kernel (fun _ _ => gen_lt _ _ _) hi hn
  have := any_kernel K l (fun j hj => (hl j hj).1) hK (fun j j' h1 h2 => (hl j (by omega)).2 j' h1 h2) v hv h0 i hi
  omega

end Go.Proofs.YtmncocmeafcpfaaDoor.Mf

/- The walk of the verifier's made: a small code, and the shards of data of a length. -/
namespace Go.Proofs.YtmncocmeafcpfaaDoor.Mf
open Go.RowKit Go.Deep

def nn10 (n : Int) : Nat := 1 + ((n % 18446744073709551616) % 10).toNat
theorem nn10_bd (n : Int) : 1 ≤ nn10 n ∧ nn10 n ≤ 10 := by unfold nn10; omega
theorem nn10_eq (n : Int) : wrap64 (1 + wrap64 ((IntKind.u64.wrap n).tmod 10)) = (nn10 n : Int) := by
  rw [u64_wrap, Int.tmod_eq_emod_of_nonneg (by omega)]
  unfold wrap64 nn10; omega

/-- one byte of a row that is made -/
theorem Part.setByte {w wr : World} {t n C r : Nat} {B : Nat → Nat} {M : Nat → Nat → Nat} (h : Part w wr t n C r B M) (ht : w.heap.size ≤ t) {i : Nat} (hi : i < r) (j x : Nat) :
    Part w (wr.setCell ⟨B i, j, none⟩ (.int .u8 ((x : Nat) : Int))) t n C r B (fun i' => if i' = i then (fun c => if c = j then x else M i c) else M i') := by
  have hlo := h.lo i hi
  refine ⟨h.kept.setCell (fun hh => absurd hh (by show ¬ B i < w.heap.size; omega)) _, h.top.setOther (by show t ≠ B i; omega) _, fun q hq => ?_, h.lo, h.inj⟩
  by_cases e : q = i
  · subst e
    refine ((h.row q hq).set j _).congr (fun c _ => ?_)
    simp only [By, if_true]
    split <;> rfl
  · refine ((h.row q hq).setOther (by show B q ≠ B i; exact fun e' => e (h.inj q i hq hi e')) _).congr (fun c _ => ?_)
    simp only [By, if_neg e]
theorem Part.drewN {w wr : World} {t n C r : Nat} {B : Nat → Nat} {M : Nat → Nat → Nat} (h : Part w wr t n C r B M) (m : Nat) : Part w (wr.drewN m) t n C r B M :=
  ⟨h.kept.drewN m, rowIs_drewN h.top m, fun j hj => rowIs_drewN (h.row j hj) m, h.lo, h.inj⟩
theorem Part.congr {w wr : World} {t n C r : Nat} {B : Nat → Nat} {M M' : Nat → Nat → Nat} (h : Part w wr t n C r B M) (e : ∀ i, i < r → ∀ c, c < C → M i c = M' i c) : Part w wr t n C r B M' :=
  ⟨h.kept, h.top, fun j hj => (h.row j hj).congr (fun c hc => by simp only [By]; rw [e j hj c hc]), h.lo, h.inj⟩
theorem Mat.mxTake {w : World} {t : Nat} {B : Nat → Nat} {R C : Nat} {M : Nat → Nat → Nat} (h : Mat w t B R C M) {r : Nat} (hr : r ≤ R) (cap : Nat) : Mx w (.slice (some ⟨t, 0, none⟩) r cap) r C M :=
  ⟨⟨some ⟨t, 0, none⟩, r, cap, t, 0, fun r => some ⟨B r, 0, none⟩, fun _ => C, fun _ => C, B, fun _ => 0, M⟩, rfl,
    ⟨fun _ => rfl, fun i hi => by have := h.top.cell (i := i) (by simp at hi; omega); simpa using this, fun _ _ _ _ => rfl, fun i hi c hc => by have := (h.row i (by simp at hi; omega)).cell hc; simpa using this, h.byte⟩, rfl, fun _ _ => rfl, rfl⟩

/-- the code in a variable of its own -/
theorem code_alloc (w : World) (K M : Int) : ∃ wa, wa = w.alloc (.cells #[.int .i64 K, .int .i64 M] 26) ∧ Kp (fun _ => False) w wa ∧ wa.heap.size = w.heap.size + 1 ∧ wa.cell? ⟨w.heap.size, 0, none⟩ = some (.int .i64 K) ∧ wa.cell? ⟨w.heap.size, 1, none⟩ = some (.int .i64 M) :=
  ⟨_, rfl, (Kp.refl _ _).alloc _, by simp, by go_simp, by go_simp⟩
end Go.Proofs.YtmncocmeafcpfaaDoor.Mf

/- The walks of stripe.Length, seat and Cut. -/
namespace Go.Proofs.YtmncocmeafcpfaaDoor.Mf
open Go.RowKit Go.Deep

set_option maxRecDepth 100000 in
set_option maxHeartbeats 1600000 in
theorem length_yes (K M size : Nat) (w : World) (h1 : 1 ≤ (K : Int)) (h3 : (M : Int) ≤ 255 - (K : Int)) (hs : (size : Int) ≤ 400) :
    Calls Tryd.prog 95 #[.agg #[.int .i64 K, .int .i64 M], .int .i64 size] w fun e w' => e = .returned (.int .i64 (lenOf K size : Int)) ∧ Kp (fun _ => False) w w' := by
  obtain ⟨wa, hwa, ka, za, q1, q2⟩ := code_alloc w K M
  have HC : Hid (Calls _ _ _ wa _) := can_yes K M wa h1 (by omega) h3
  have hq := quot_eq (K := K) (size := size) (by omega)
  have hq2 := quot_le (K := K) (size := size) (by omega) (by omega)
  have HL : Hid (lenOf K size = max 1 ((size + K * 8 - 1) / (K * 8)) * 8) := rfl
  generalize (size + K * 8 - 1) / (K * 8) = Q at *
  have d1 : decide (400 < (size : Int)) = false := by simp; omega
  have d2 : ((K : Int) * 8 == 0) = false := beq_eq_false_iff_ne.2 (by omega)
  go_enter Tryd.func95, Tryd.ntmps95
  go_wp2_with fail
  rw [← hwa]
  refine HC.out.mono ?_
  rintro e w1 ⟨rfl, k1⟩
  have r1 := k1.cellv q1 id
  have r2 := k1.cellv q2 id
  have kk := ka.trans k1 (fun _ _ e => e)
  clear hwa
  go_wp2
  · go_ret
    exact ⟨by rw [show (lenOf K size : Int) = (Q : Int) * 8 from by rw [HL.out]; omega]; rfl, kk⟩
  · go_ret
    exact ⟨by rw [show (lenOf K size : Int) = 8 from by rw [HL.out]; omega]; rfl, kk⟩

set_option maxRecDepth 100000 in
set_option maxHeartbeats 1600000 in
theorem seat_any (K M i : Nat) (w : World) (h1 : 1 ≤ (K : Int)) (h2 : (K : Int) ≤ 255) (hi : (i : Int) ≤ 100000) :
    Calls Tryd.prog 117 #[.agg #[.int .i64 K, .int .i64 M], .int .i64 i] w fun e w' => e = .returned (.tuple #[.int .i64 (seatK K i : Int), .int .i64 (seatAt K i : Int)]) ∧ Kp (fun _ => False) w w' := by
  obtain ⟨wa, hwa, ka, za, q1, q2⟩ := code_alloc w K M
  obtain ⟨hq, hr⟩ := seat_eq (K := K) (i := i) (by omega)
  have hqb : i / (K * 8) ≤ i := Nat.div_le_self _ _
  have hrb : i % (K * 8) < K * 8 := Nat.mod_lt _ (by omega)
  have d2 : ((K : Int) * 8 == 0) = false := beq_eq_false_iff_ne.2 (by omega)
  have HA : Hid (seatK K i = i % (K * 8) / 8 ∧ seatAt K i = i / (K * 8) * 8 + i % (K * 8) % 8) := ⟨rfl, rfl⟩
  generalize i / (K * 8) = Q at *
  generalize i % (K * 8) = R at *
  have t1 : (R : Int).tdiv 8 = ((R / 8 : Nat) : Int) := rfl
  have t2 : (R : Int).tmod 8 = ((R % 8 : Nat) : Int) := rfl
  go_enter Tryd.func117, Tryd.ntmps117
  go_wp2
  go_region
  all_goals
    go_wp2
    go_ret2
    refine ⟨by rw [HA.out.1, HA.out.2, show ((R / 8 : Nat) : Int) = (R : Int) / 8 from by omega, show ((Q * 8 + R % 8 : Nat) : Int) = (Q : Int) * 8 + (R : Int) % 8 from by omega]; rfl, ?_⟩
    rw [← hwa]
    exact ka.drew

set_option maxRecDepth 100000 in
set_option maxHeartbeats 3200000 in
theorem cut_yes (K M la : Nat) (a : Value) (f : Nat → Nat) (w : World) (ha : Bs w a la f) (h1 : 1 ≤ (K : Int)) (h3 : (M : Int) ≤ 255 - (K : Int)) (hl : (la : Int) ≤ 400) (hp : Pows w) :
    Calls Tryd.prog 101 #[.agg #[.int .i64 K, .int .i64 M], a] w fun e w' =>
      ∃ t B, e = .returned (.tuple #[.slice (some ⟨t, 0, none⟩) (K + M) (K + M), .int .i64 0]) ∧ Kp (fun _ => False) w w' ∧ w.heap.size ≤ t ∧ (∀ i, i < K + M → w.heap.size ≤ B i) ∧ Mat w' t B (K + M) (lenOf K la) (enc K (cutAt K f la)) := by
  obtain ⟨pa, ba, oa, ca, rfl, hpa, hc, hf⟩ := ha
  obtain ⟨wa, hwa, ka, za, q1, q2⟩ := code_alloc w K M
  have HC : Hid (Calls _ _ _ wa _) := length_yes K M la wa h1 h3 hl
  obtain ⟨l1, l2⟩ := lenOf_bd (K := K) (size := la) (by omega) (by omega)
  have HSL : Hid (∀ i, i < la → seatAt K i < lenOf K la) := fun i hi => seatAt_lt (by omega) hi
  have HP : Hid (∀ k, k < la → pa = some ⟨ba, oa, none⟩) := hpa
  have HB : Hid (∀ k, k < la → w.cell? ⟨ba, oa + k, none⟩ = some (.int .u8 ((f k : Nat) : Int))) := hc
  have HF : Hid (∀ k, f k < 256) := hf
  have hmk1 := run_make_row' (P := Tryd.prog) 27 22 (.slice none 0 0) 24 Tryd.underlying27 info42 rfl .i64 .i64 K (by omega) (by omega)
  have hmk2 := run_make_row' (P := Tryd.prog) 22 5 (.int .u8 0) 1 Tryd.underlying22 info5 rfl .i64 .i64 (lenOf K la) (by omega) (by omega)
  obtain ⟨N, hN⟩ : ∃ x, x = lenOf K la := ⟨_, rfl⟩
  have HN : Hid (lenOf K la = N) := hN.symm
  rw [← hN] at HC l1 l2 HSL hmk2
  clear hpa hc hf hN
  have dN : ((N : Int) == 0) = false := beq_eq_false_iff_ne.2 (by omega)
  go_enter Tryd.func101, Tryd.ntmps101
  go_wp2_with fail
  rw [← hwa]
  refine HC.out.mono ?_
  rintro e w1 ⟨rfl, k1⟩
  have r1 := k1.cellv q1 id
  have r2 := k1.cellv q2 id
  have kk := ka.trans k1 (fun _ _ e => e)
  have hP0 := Part.start w1 K N (fun _ _ => 0)
  clear hwa HC q1 q2
  go_wp2
  clear hmk1
  go_loopg [24] K (fun gk i wr => ∃ (r : Nat) (B : Nat → Nat), r ≤ K ∧ gk = K - r ∧ i = .int .i64 r ∧ Part w1 wr w1.heap.size K N r B (fun _ _ => 0))
  case atStart => exact ⟨0, _, Nat.zero_le _, rfl, rfl, hP0⟩
  case round =>
    obtain ⟨r, B, hr, rfl, rfl, hP⟩ := hrel
    clear hP0
    by_cases hlt : (r : Int) < (K : Int)
    · have hst1 : ∀ o, (wr.alloc o).cell? ⟨w1.heap.size, r, none⟩ = some (heads2 B N r r) := fun o => (hP.top.alloc o).cell (by omega)
      have hst2 : ∀ o, (wr.alloc o).frozen? ⟨w1.heap.size, r, none⟩ = false := fun o => (hP.top.alloc o).frozen r
      have hnew : (wr.alloc (.cells (madeCells #[.int .u8 0] N) 5)).rowIs wr.heap.size 5 N (By (fun _ => 0)) := World.rowIs_made wr (.int .u8 0) N 5
      have hP1 := hP.step (Nat.le_refl _) ((Kp.refl _ _).alloc _) hnew
      clear hnew
      go_wp2
      go_roundg (K - (r + 1))
      case rel => exact ⟨r + 1, _, by omega, rfl, by go_num, hP1⟩
      case measure => omega
    · have e : r = K := by omega
      subst e
      have hP1 : Part w1 wr w1.heap.size r N r B (cutAt r f 0) := by rw [cutAt_zero]; exact hP
      clear hP hmk2
      go_wp2
      go_loopg [35] la (fun gk i wq => ∃ q : Nat, q ≤ la ∧ gk = la - q ∧ i = .int .i64 q ∧ Part w1 wq w1.heap.size r N r B (cutAt r f q))
      case atStart => exact ⟨0, Nat.zero_le _, rfl, rfl, hP1⟩
      case round =>
        obtain ⟨q, hq, rfl, rfl, hQ⟩ := hrel
        clear hP1
        by_cases hlq : (q : Int) < (la : Int)
        · obtain rfl := HP.out q (by omega)
          have c0 := hQ.kept.cellv (kk.cellv (HB.out q (by omega)) id) id
          have c1 := hQ.kept.cellv r1 id
          have c2 := hQ.kept.cellv r2 id
          have HS : Hid (Calls _ _ _ wr _) := seat_any r M q wr (by omega) (by omega) (by omega)
          go_wp2_with fail
          refine HS.out.mono ?_
          rintro e w3 ⟨rfl, k3⟩
          clear HS
          have sK := seatK_lt (K := r) (by omega) q
          have sA := HSL.out q (by omega)
          have hQ3 : Part w1 w3 w1.heap.size r N r B (cutAt r f q) := ⟨hQ.kept.trans k3 (fun _ _ e => e), k3.row hQ.top id, fun j hj => k3.row (hQ.row j hj) id, hQ.lo, hQ.inj⟩
          have hS := hQ3.setByte (Nat.le_refl _) (i := seatK r q) sK (seatAt r q) (f q)
          have HQ4 : Hid (Part _ _ _ _ _ _ _ _) := hS.congr (M' := cutAt r f (q + 1)) (fun i hi c _ => by
            rw [← cutAt_step r f q hi c]
            by_cases e : i = seatK r q
            · subst e; simp
            · simp [e])
          generalize seatK r q = SK at *
          generalize seatAt r q = SA at *
          have t1 := hQ3.top.cell (i := SK) (by omega)
          rw [show heads2 B N r SK = .slice (some ⟨B SK, 0, none⟩) N N from by simp [heads2, sK]] at t1
          have t2 := (hQ3.row SK (by omega)).cell (i := SA) (by omega)
          have t3 := (hQ3.row SK (by omega)).frozen SA
          have t4 : (SK : Int) < (r : Int) := by omega
          have t5 : (SA : Int) < (N : Int) := by omega
          clear hS hQ hQ3 c1 c2 c0
          go_wp2
          go_roundg (la - (q + 1))
          case rel => exact ⟨q + 1, by omega, rfl, by go_num, HQ4.out⟩
          case measure => omega
        · have e : q = la := by omega
          have hMt : Mat wr w1.heap.size B r N (cutAt r f la) := by subst e; exact hQ.mat (cutAt_lt HF.out _ _)
          have c1 := hQ.kept.cellv r1 id
          have c2 := hQ.kept.cellv r2 id
          have kw := kk.trans hQ.kept (fun _ _ e => e)
          have HE : Hid (Calls _ _ _ wr _) := encode_yes r M N (ofMat w1.heap.size B r N (cutAt r f la)) wr hMt.rd rfl (fun _ _ => rfl) (by omega) (by omega) (kw.pows hp id) (by omega) (by omega)
          clear hQ
          go_wp2_with fail
          refine HE.out.mono ?_
          rintro e w4 ⟨t4, B4, rfl, k4, h4, hB4, hM4⟩
          have hz := kw.size
          go_wp2
          go_ret2
          rw [HN.out]
          exact ⟨_, B4, rfl, kw.trans k4 (fun _ _ e => e), by omega, fun i hi => by have := hB4 i hi; omega, hM4⟩
end Go.Proofs.YtmncocmeafcpfaaDoor.Mf

/- Texts of this proof, joined: M11, Lan, Ma. -/
import Derived.Test.YtbmhfclknilcoaaDoorMgAH
import Derived.Test.YtbmhfclknilcoaaDoorMgAF
import Derived.Maps.AppendAt
import Derived.RegionTactic
/- matrix.Invert, as the laws take it. -/
namespace Go.Proofs.YtbmhfclknilcoaaDoor
open Go.RowKit Go.Deep

theorem invertX (a : Value) (n : Nat) (A : Nat → Nat → Nat) (w : World) (ha : Mx w a n n A) (h1 : 1 ≤ n) (h2 : n ≤ 255) (hp : Pows w) :
    Calls Tryd.prog 39 #[a] w fun e w' =>
      Kp (fun _ => False) w w' ∧ ((e = .returned (.tuple #[.slice none 0 0, .int .i64 20]) ∧ ∃ i W, i < n ∧ El A n i W ∧ NoPiv W n i) ∨
        ∃ t W, e = .returned (.tuple #[.slice (some ⟨t, 0, none⟩) n n, .int .i64 0]) ∧ El A n n W ∧ Mx w' (.slice (some ⟨t, 0, none⟩) n n) n n (right W n)) := by
  obtain ⟨s, rfl, hs, hG, hsL, rfl⟩ := ha
  have := invert_any s n w hs hG hsL (by omega) (by omega) hp
  rw [hG]
  refine this.mono ?_
  rintro e w' ⟨hK, ⟨rfl, h⟩ | ⟨t, B, W, rfl, hE, hM⟩⟩
  · exact ⟨hK, Or.inl ⟨rfl, h⟩⟩
  · exact ⟨hK, Or.inr ⟨t, W, rfl, hE, hM.mx⟩⟩

/-- a matrix of which two rows are the same has no inverse from the right -/
theorem twice_none {A E : Nat → Nat → Nat} {n p q : Nat} (hp : p < n) (hq : q < n) (hpq : p ≠ q) (h : ∀ c, A p c = A q c) (hE : ∀ r c, r < n → c < n → prodTo A E n r c = ones n r c) : False := by
  have e1 := hE p p hp hp
  have e2 := hE q p hq hp
  rw [ones_self n p hp] at e1
  rw [ones_ne n q p hpq] at e2
  have : prodTo A E n p p = prodTo A E n q p := xsum_congr (fun x _ => by rw [h x])
  omega
end Go.Proofs.YtbmhfclknilcoaaDoor

/- The walk of the law MatrixAny: any rows of a code's matrix, as many as its data, have an inverse. -/
namespace Go.Proofs.YtbmhfclknilcoaaDoor
open Go.RowKit Go.Deep

def kk12 (n : Int) : Nat := 1 + ((n % 18446744073709551616) % 12).toNat
def mm6 (n : Int) : Nat := ((n % 18446744073709551616) % 6).toNat
theorem kk12_bd (n : Int) : 1 ≤ kk12 n ∧ kk12 n ≤ 12 := by unfold kk12; omega
theorem mm6_bd (n : Int) : mm6 n ≤ 5 := by unfold mm6; omega
theorem u64_wrap (n : Int) : IntKind.u64.wrap n = n % 18446744073709551616 := by simp [IntKind.wrap, IntKind.bits, IntKind.signed]
theorem kk12_eq (n : Int) : wrap64 (1 + wrap64 ((IntKind.u64.wrap n).tmod 12)) = (kk12 n : Int) := by
  rw [u64_wrap, Int.tmod_eq_emod_of_nonneg (by omega)]
  unfold wrap64 kk12; omega
theorem mm6_eq (n : Int) : wrap64 ((IntKind.u64.wrap n).tmod 6) = (mm6 n : Int) := by
  rw [u64_wrap, Int.tmod_eq_emod_of_nonneg (by omega)]
  unfold wrap64 mm6; omega

theorem info3 : (Tryd.prog.info? 3).map (fun i => (i.zero, i.size, i.bytes)) = some (some (.int .i64 0), 1, 8) := by kernel_rfl
/-- numbers, as values -/
def nums (l : Nat → Nat) (m : Nat) : List Value := (List.range m).map fun j => .int .i64 ((l j : Nat) : Int)
theorem nums_succ (l : Nat → Nat) (m i : Nat) : nums (fun j => if j = m then i else l j) (m + 1) = nums l m ++ [.int .i64 ((i : Nat) : Int)] := by
  unfold nums
  rw [List.range_succ, List.map_append]
  congr 1
  · refine List.map_congr_left (fun j hj => ?_)
    have hj' := List.mem_range.1 hj
    dsimp only
    rw [if_neg (by omega)]
  · simp
theorem nums_at (l : Nat → Nat) {m j : Nat} (h : j < m) : (nums l m)[j]? = some (.int .i64 ((l j : Nat) : Int)) := by
  unfold nums; rw [List.getElem?_map, List.getElem?_range h]; rfl
theorem sel_value {w : World} {base m : Nat} {v : Value} {xs : List Value} (h : w.ownsRow base 3 1 v (m + 1) xs) : ∃ ao cv, v = .slice ao (m + 1) cv := by
  rcases h.2 with ⟨_, h0⟩ | ⟨g, cap, cur, rfl, _⟩
  · omega
  · exact ⟨_, _, rfl⟩
theorem sel_step {l : Nat → Nat} {m i : Nat} (h : ∀ j, j < m → l j < i ∧ ∀ j', j < j' → j' < m → l j < l j') : ∀ j, j < m + 1 → (if j = m then i else l j) < i + 1 ∧ ∀ j', j < j' → j' < m + 1 → (if j = m then i else l j) < (if j' = m then i else l j') := by
  intro j hj
  by_cases e : j = m
  · rw [if_pos e]
    exact ⟨by omega, fun j' h1 h2 => by omega⟩
  · rw [if_neg e]
    have := h j (by omega)
    refine ⟨by omega, fun j' h1 h2 => ?_⟩
    by_cases e' : j' = m
    · rw [if_pos e']; exact this.1
    · rw [if_neg e']; exact this.2 j' h1 (by omega)
theorem sel_read {w : World} {base m : Nat} {v : Value} {l : Nat → Nat} (hm : 0 < m) (h : w.ownsRow base 3 1 v m (nums l m)) : Ls w v m l := by
  rcases h.2 with ⟨_, h0⟩ | ⟨g, cap, cur, rfl, hb, hh, hn, _, hcs, htk⟩
  · omega
  · refine ⟨some ⟨g, 0, none⟩, g, 0, cap, rfl, fun _ _ => rfl, fun i hi => ?_⟩
    have h1 : (cur.toList.take (m * 1))[i]? = some (.int .i64 ((l i : Nat) : Int)) := by rw [htk]; exact nums_at l hi
    rw [List.getElem?_take_of_lt (by omega), Array.getElem?_toList] at h1
    simp [World.cell?, hh, h1]
/-- elimination of any K rows of a code's matrix does not fail -/
theorem any_no_fail {K i : Nat} {l : Nat → Nat} (hK : K ≤ 256) (hl : ∀ j, j < K → l j < 256 ∧ ∀ j', j < j' → j' < K → l j < l j') {W : Nat → Nat → Nat} (h : El (fun r => gen K (l r)) K i W) (hi : i < K) : ¬ NoPiv W K i := fun hn => by
  obtain ⟨v, hv, h1, h0⟩ := h.kernel (fun _ _ => gen_lt _ _ _) hi hn
  have := any_kernel K l (fun j hj => (hl j hj).1) hK (fun j j' h1 h2 => (hl j (by omega)).2 j' h1 h2) v hv h0 i hi
  omega

end Go.Proofs.YtbmhfclknilcoaaDoor

/- The walk of the verifier's made: a small code, and the shards of data of a length. -/
namespace Go.Proofs.YtbmhfclknilcoaaDoor
open Go.RowKit Go.Deep

def nn10 (n : Int) : Nat := 1 + ((n % 18446744073709551616) % 10).toNat
theorem nn10_bd (n : Int) : 1 ≤ nn10 n ∧ nn10 n ≤ 10 := by unfold nn10; omega
theorem nn10_eq (n : Int) : wrap64 (1 + wrap64 ((IntKind.u64.wrap n).tmod 10)) = (nn10 n : Int) := by
  rw [u64_wrap, Int.tmod_eq_emod_of_nonneg (by omega)]
  unfold wrap64 nn10; omega

/-- one byte of a row that is made -/
theorem Part.setByte {w wr : World} {t n C r : Nat} {B : Nat → Nat} {M : Nat → Nat → Nat} (h : Part w wr t n C r B M) (ht : w.heap.size ≤ t) {i : Nat} (hi : i < r) (j x : Nat) :
    Part w (wr.setCell ⟨B i, j, none⟩ (.int .u8 ((x : Nat) : Int))) t n C r B (fun i' => if i' = i then (fun c => if c = j then x else M i c) else M i') := by
  have hlo := h.lo i hi
  refine ⟨h.kept.setCell (fun hh => absurd hh (by show ¬ B i < w.heap.size; omega)) _, h.top.setOther (by show t ≠ B i; omega) _, fun q hq => ?_, h.lo, h.inj⟩
  by_cases e : q = i
  · subst e
    refine ((h.row q hq).set j _).congr (fun c _ => ?_)
    simp only [By, if_true]
    split <;> rfl
  · refine ((h.row q hq).setOther (by show B q ≠ B i; exact fun e' => e (h.inj q i hq hi e')) _).congr (fun c _ => ?_)
    simp only [By, if_neg e]
theorem Part.drewN {w wr : World} {t n C r : Nat} {B : Nat → Nat} {M : Nat → Nat → Nat} (h : Part w wr t n C r B M) (m : Nat) : Part w (wr.drewN m) t n C r B M :=
  ⟨h.kept.drewN m, rowIs_drewN h.top m, fun j hj => rowIs_drewN (h.row j hj) m, h.lo, h.inj⟩
theorem Part.congr {w wr : World} {t n C r : Nat} {B : Nat → Nat} {M M' : Nat → Nat → Nat} (h : Part w wr t n C r B M) (e : ∀ i, i < r → ∀ c, c < C → M i c = M' i c) : Part w wr t n C r B M' :=
  ⟨h.kept, h.top, fun j hj => (h.row j hj).congr (fun c hc => by simp only [By]; rw [e j hj c hc]), h.lo, h.inj⟩
theorem Mat.mxTake {w : World} {t : Nat} {B : Nat → Nat} {R C : Nat} {M : Nat → Nat → Nat} (h : Mat w t B R C M) {r : Nat} (hr : r ≤ R) (cap : Nat) : Mx w (.slice (some ⟨t, 0, none⟩) r cap) r C M :=
  ⟨⟨some ⟨t, 0, none⟩, r, cap, t, 0, fun r => some ⟨B r, 0, none⟩, fun _ => C, fun _ => C, B, fun _ => 0, M⟩, rfl,
    ⟨fun _ => rfl, fun i hi => by have := h.top.cell (i := i) (by simp at hi; omega); simpa using this, fun _ _ _ _ => rfl, fun i hi c hc => by have := (h.row i (by simp at hi; omega)).cell hc; simpa using this, h.byte⟩, rfl, fun _ _ => rfl, rfl⟩

/-- the code in a variable of its own -/
theorem code_alloc (w : World) (K M : Int) : ∃ wa, wa = w.alloc (.cells #[.int .i64 K, .int .i64 M] 23) ∧ Kp (fun _ => False) w wa ∧ wa.heap.size = w.heap.size + 1 ∧ wa.cell? ⟨w.heap.size, 0, none⟩ = some (.int .i64 K) ∧ wa.cell? ⟨w.heap.size, 1, none⟩ = some (.int .i64 M) :=
  ⟨_, rfl, (Kp.refl _ _).alloc _, by simp, by go_simp, by go_simp⟩
end Go.Proofs.YtbmhfclknilcoaaDoor

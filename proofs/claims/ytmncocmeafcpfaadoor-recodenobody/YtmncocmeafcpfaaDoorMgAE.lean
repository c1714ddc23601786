/- Texts of this proof, joined: MfM5, MfM7, MfM8, MfR2. -/
import Derived.Test.YtmncocmeafcpfaaDoorMgAC
import Derived.Maps.AppendAt
import Derived.Test.YtmncocmeafcpfaaDoorMgAD
import Derived.Test.YtmncocmeafcpfaaDoorMgAA
import Derived.StillTailTactics
/- The walk of the verifier's square: a matrix of bytes, so many each way. -/
namespace Go.Proofs.YtmncocmeafcpfaaDoor.Mf
open Go.RowKit Go.Deep

/-- A matrix in memory of its own, its headers in a block that may be longer. -/
structure Mt (w : World) (t : Nat) (B : Nat → Nat) (R C : Nat) (M : Nat → Nat → Nat) : Prop where
  top : ∀ i, i < R → w.cell? ⟨t, i, none⟩ = some (.slice (some ⟨B i, 0, none⟩) C C)
  row : ∀ i, i < R → w.rowIs (B i) 5 C (By (M i))
  inj : ∀ i j, i < R → j < R → B i = B j → i = j
  ne : ∀ i, i < R → B i ≠ t
  byte : ∀ i j, M i j < 256
abbrev ofMt (t cap : Nat) (B : Nat → Nat) (R C : Nat) (M : Nat → Nat → Nat) : Sh := ⟨some ⟨t, 0, none⟩, R, cap, t, 0, fun r => some ⟨B r, 0, none⟩, fun _ => C, fun _ => C, B, fun _ => 0, M⟩
theorem Mt.rd {w : World} {t : Nat} {B : Nat → Nat} {R C : Nat} {M : Nat → Nat → Nat} (h : Mt w t B R C M) (cap : Nat) : Rd w (ofMt t cap B R C M) :=
  ⟨fun _ => rfl, fun r hr => by have := h.top r hr; simpa [ofMt] using this, fun _ _ _ _ => rfl, fun r hr c hc => by have := (h.row r hr).cell hc; simpa [ofMt] using this, h.byte⟩
theorem Mt.keep {S : Nat → Prop} {w w' : World} {t : Nat} {B : Nat → Nat} {R C : Nat} {M : Nat → Nat → Nat} (h : Mt w t B R C M) (k : Kp S w w') (ht : ¬ S t) (hB : ∀ i, i < R → ¬ S (B i)) : Mt w' t B R C M :=
  ⟨fun i hi => k.cellv (h.top i hi) ht, fun i hi => k.row (h.row i hi) (hB i hi), h.inj, h.ne, h.byte⟩

/-- the square's entries -/
def sq (f : Nat → Nat) (la n : Nat) : Nat → Nat → Nat := fun r c => if r * n + c < la then f (r * n + c) else 0
theorem sq_lt {f : Nat → Nat} (hf : ∀ j, f j < 256) (la n r c : Nat) : sq f la n r c < 256 := by
  unfold sq; split
  · exact hf _
  · omega
/-- a row's first k entries, then noughts -/
def upTo (f : Nat → Nat) (k : Nat) : Nat → Nat := fun j => if j < k then f j else 0
theorem upTo_zero (f : Nat → Nat) : upTo f 0 = fun _ => 0 := by funext j; simp [upTo]
theorem upTo_succ (f : Nat → Nat) (k j : Nat) : upTo f (k + 1) j = if j = k then f k else upTo f k j := by
  unfold upTo
  by_cases e : j = k
  · subst e; rw [if_pos (by omega), if_pos rfl]
  · rw [if_neg e]
    by_cases h : j < k
    · rw [if_pos h, if_pos (by omega)]
    · rw [if_neg h, if_neg (by omega)]
theorem upTo_skip (f : Nat → Nat) (k j : Nat) (h : f k = 0) : upTo f (k + 1) j = upTo f k j := by
  rw [upTo_succ]; split
  · rename_i e; subst e; rw [h]; simp [upTo]
  · rfl

theorem sq_off (oa r n k : Nat) : oa + ((r : Int) * (n : Int) + (k : Int)).toNat = oa + (r * n + k) := by
  rw [show (r : Int) * (n : Int) + (k : Int) = ((r * n + k : Nat) : Int) from by simp]; rfl

/-- the headers of the rows at B -/
def hdrs (B : Nat → Nat) (n r : Nat) : List Value := (List.range r).map fun j => .slice (some ⟨B j, 0, none⟩) n n
theorem hdrs_length (B : Nat → Nat) (n r : Nat) : (hdrs B n r).length = r := by simp [hdrs]
theorem hdrs_succ (B : Nat → Nat) (n r g : Nat) : hdrs (fun j => if j = r then g else B j) n (r + 1) = hdrs B n r ++ [.slice (some ⟨g, 0, none⟩) n n] := by
  unfold hdrs
  rw [List.range_succ, List.map_append]
  congr 1
  · refine List.map_congr_left (fun j hj => ?_)
    have hj' := List.mem_range.1 hj
    simp only []
    rw [if_neg (by omega)]
  · simp
theorem hdrs_at (B : Nat → Nat) (n : Nat) {r j : Nat} (h : j < r) : (hdrs B n r)[j]? = some (.slice (some ⟨B j, 0, none⟩) n n) := by
  unfold hdrs
  rw [List.getElem?_map, List.getElem?_range h]; rfl

/-- the rows that are made, and the headers that are gathered -/
structure Gath (w wr : World) (v : Value) (n r : Nat) (B : Nat → Nat) (M : Nat → Nat → Nat) : Prop where
  kept : Kp (fun _ => False) w wr
  own : wr.ownsRow w.heap.size 22 1 v r (hdrs B n r)
  row : ∀ j, j < r → wr.rowIs (B j) 5 n (By (M j))
  lo : ∀ j, j < r → w.heap.size ≤ B j
  inj : ∀ i j, i < r → j < r → B i = B j → i = j
  ne : ∀ j, j < r → v.ownBlock ≠ some (B j)
theorem Gath.start (w : World) (n : Nat) (M : Nat → Nat → Nat) : Gath w w (.slice none 0 0) n 0 (fun _ => 0) M :=
  ⟨Kp.refl _ _, World.ownsRow_nil _ _ _ _, fun _ h => absurd h (Nat.not_lt_zero _), fun _ h => absurd h (Nat.not_lt_zero _), fun _ _ h => absurd h (Nat.not_lt_zero _), fun _ h => absurd h (Nat.not_lt_zero _)⟩
theorem grownBy_kp {w w' : World} {v : Option Nat} (h : w.grownBy w' v) : Kp (fun b => v = some b) w w' :=
  ⟨h.os, h.tape, h.output, h.size, fun k hk hn => h.block k hk (fun e => hn e.symm)⟩

theorem ownsRow_keep {w w' : World} {base : Nat} {e : TypeId} {size : Nat} {v : Value} {n : Nat} {xs : List Value} (h : w.ownsRow base e size v n xs) (k : Kp (fun _ => False) w w') : w'.ownsRow base e size v n xs := by
  obtain ⟨h1, h2⟩ := h
  refine ⟨h1, ?_⟩
  rcases h2 with h2 | ⟨g, cap, cur, hv, hg, hh, r⟩
  · exact Or.inl h2
  · exact Or.inr ⟨g, cap, cur, hv, hg, (k.block g (Array.getElem?_eq_some_iff.1 hh).1 id).trans hh, r⟩
theorem ownBlock_lt {w : World} {base : Nat} {e : TypeId} {size : Nat} {v : Value} {n : Nat} {xs : List Value} (h : w.ownsRow base e size v n xs) {g : Nat} (hg : v.ownBlock = some g) : base ≤ g ∧ g < w.heap.size := by
  rcases h.2 with ⟨rfl, _⟩ | ⟨g', cap, cur, rfl, hb, hh, _⟩
  · simp [Value.ownBlock] at hg
  · simp [Value.ownBlock] at hg
    subst hg
    exact ⟨hb, (Array.getElem?_eq_some_iff.1 hh).1⟩

/-- one row more: the row at g is new, its header is gathered -/
theorem Gath.step {w wr wq wn : World} {v v' : Value} {n r : Nat} {B : Nat → Nat} {M : Nat → Nat → Nat} {o : Obj} (h : Gath w wr v n r B M) (k : Kp (fun _ => False) wr wq) (hrow : wq.rowIs wr.heap.size 5 n (By (M r)))
    (hown : wn.ownsRow w.heap.size 22 1 v' (r + 1) (hdrs B n r ++ [.slice (some ⟨wr.heap.size, 0, none⟩) n n])) (hg : (wq.alloc o).grownBy wn v.ownBlock)
    (hv : v'.ownBlock = v.ownBlock ∨ v'.ownBlock = some (wq.alloc o).heap.size) : Gath w wn v' n (r + 1) (fun j => if j = r then wr.heap.size else B j) M := by
  have hz : wr.heap.size < wq.heap.size := hrow.lt
  have hsz : (wq.alloc o).heap.size = wq.heap.size + 1 := by simp
  have hwr := h.kept.size
  refine ⟨?_, by rw [hdrs_succ]; exact hown, fun j hj => ?_, fun j hj => ?_, fun i j hi hj e => ?_, fun j hj => ?_⟩
  · refine Kp.trans (h.kept.trans (k.alloc o) (fun _ _ e => e.elim)) (grownBy_kp hg) (fun b hb e => ?_)
    have := ownBlock_lt h.own e
    omega
  · by_cases e : j = r
    · subst e
      simp only [if_true]
      exact (grownBy_kp hg).row (hrow.alloc o) (fun e => by have := ownBlock_lt h.own e; omega)
    · simp only [if_neg e]
      exact (grownBy_kp hg).row ((k.row (h.row j (by omega)) id).alloc o) (h.ne j (by omega))
  · by_cases e : j = r
    · simp only [if_pos e]; exact hwr
    · simp only [if_neg e]; exact h.lo j (by omega)
  · by_cases e1 : i = r <;> by_cases e2 : j = r
    · omega
    · simp only [if_pos e1, if_neg e2] at e
      have := (h.row j (by omega)).lt
      omega
    · simp only [if_neg e1, if_pos e2] at e
      have := (h.row i (by omega)).lt
      omega
    · simp only [if_neg e1, if_neg e2] at e
      exact h.inj i j (by omega) (by omega) e
  · intro e
    by_cases e1 : j = r
    · simp only [if_pos e1] at e
      rcases hv with hv | hv
      · rw [hv] at e; have := ownBlock_lt h.own e; omega
      · rw [hv] at e; have := Option.some.inj e; omega
    · simp only [if_neg e1] at e
      rcases hv with hv | hv
      · rw [hv] at e; exact h.ne j (by omega) e
      · rw [hv] at e
        have := Option.some.inj e
        have := (h.row j (by omega)).lt
        omega

/-- what is gathered, as a matrix -/
theorem Gath.mt {w wr : World} {v : Value} {n r : Nat} {B : Nat → Nat} {M : Nat → Nat → Nat} (h : Gath w wr v n r B M) (hr : 0 < r) (hM : ∀ i j, M i j < 256) : ∃ t cap, v = .slice (some ⟨t, 0, none⟩) r cap ∧ w.heap.size ≤ t ∧ Mt wr t B r n M := by
  rcases h.own.2 with ⟨_, h0⟩ | ⟨g, cap, cur, rfl, hb, hh, hn, _, hcs, htk⟩
  · omega
  · refine ⟨g, cap, rfl, hb, fun i hi => ?_, h.row, h.inj, fun i hi e => h.ne i hi (by simp [Value.ownBlock, e]), hM⟩
    have h1 : (cur.toList.take (r * 1))[i]? = some (.slice (some ⟨B i, 0, none⟩) n n) := by rw [htk]; exact hdrs_at B n hi
    rw [List.getElem?_take_of_lt (by omega), Array.getElem?_toList] at h1
    simp [World.cell?, hh, h1]

end Go.Proofs.YtmncocmeafcpfaaDoor.Mf

/- Matrices as values: what the laws hand from call to call. -/
namespace Go.Proofs.YtmncocmeafcpfaaDoor.Mf
open Go.RowKit Go.Deep

/-- The value v reads as the n by m matrix M. -/
def Mx (w : World) (v : Value) (n m : Nat) (M : Nat → Nat → Nat) : Prop :=
  ∃ s : Sh, v = .slice s.g s.G s.cap ∧ Rd w s ∧ s.G = n ∧ (∀ r, r < n → s.L r = m) ∧ s.M = M
theorem Mx.keep {w w' : World} {v : Value} {n m : Nat} {M : Nat → Nat → Nat} (h : Mx w v n m M) (k : Kp (fun _ => False) w w') : Mx w' v n m M := by
  obtain ⟨s, h1, h2, h3, h4, h5⟩ := h
  exact ⟨s, h1, h2.keep k, h3, h4, h5⟩
theorem Mx.byte {w : World} {v : Value} {n m : Nat} {M : Nat → Nat → Nat} (h : Mx w v n m M) (i j : Nat) : M i j < 256 := by
  obtain ⟨s, _, h2, _, _, rfl⟩ := h
  exact h2.byte i j
theorem Mat.mx {w : World} {t : Nat} {B : Nat → Nat} {R C : Nat} {M : Nat → Nat → Nat} (h : Mat w t B R C M) : Mx w (.slice (some ⟨t, 0, none⟩) R R) R C M := ⟨ofMat t B R C M, rfl, h.rd, rfl, fun _ _ => rfl, rfl⟩
theorem Mt.mx {w : World} {t : Nat} {B : Nat → Nat} {R C : Nat} {M : Nat → Nat → Nat} (h : Mt w t B R C M) (cap : Nat) : Mx w (.slice (some ⟨t, 0, none⟩) R cap) R C M := ⟨ofMt t cap B R C M, rfl, h.rd cap, rfl, fun _ _ => rfl, rfl⟩

theorem isM_of {s : Sh} {n m : Nat} (h1 : s.G = n) (h2 : ∀ r, r < n → s.L r = m) (a : 1 ≤ n) (b : n ≤ 255) (c : 1 ≤ m) (d : m ≤ 255) : isM s = true :=
  decide_eq_true ⟨by omega, by omega, by rw [h2 0 (by omega)]; exact c, by rw [h2 0 (by omega)]; exact d, fun r hr => by rw [h2 r (by omega), h2 0 (by omega)]⟩

theorem mulX (a b : Value) (n m k : Nat) (A Bm : Nat → Nat → Nat) (w : World) (ha : Mx w a n m A) (hb : Mx w b m k Bm) (n1 : 1 ≤ n) (n2 : n ≤ 255) (m1 : 1 ≤ m) (m2 : m ≤ 255) (k1 : 1 ≤ k) (k2 : k ≤ 255) (hp : Pows w) :
    Calls Tryd.prog 125 #[a, b] w fun e w' => ∃ v, e = .returned (.tuple #[v, .int .i64 0]) ∧ Kp (fun _ => False) w w' ∧ Mx w' v n k (fun i j => prodTo A Bm m i j) := by
  obtain ⟨s, rfl, hs, rfl, hsL, rfl⟩ := ha
  obtain ⟨t, rfl, ht, rfl, htL, rfl⟩ := hb
  refine (mul_ok s t w hs ht (isM_of rfl hsL n1 n2 m1 m2) (isM_of rfl htL m1 m2 k1 k2) (hsL 0 (by omega)) hp).mono ?_
  rintro e w' ⟨rfl, hK, _, hM⟩
  rw [htL 0 (by omega)] at hM
  exact ⟨_, rfl, hK, hM.mx⟩

/-- The value v reads as la bytes f. -/
def Bs (w : World) (v : Value) (la : Nat) (f : Nat → Nat) : Prop :=
  ∃ pa ba oa ca, v = .slice pa la ca ∧ (∀ k, k < la → pa = some ⟨ba, oa, none⟩) ∧ (∀ k, k < la → w.cell? ⟨ba, oa + k, none⟩ = some (.int .u8 ((f k : Nat) : Int))) ∧ (∀ k, f k < 256)
theorem Bs.keep {w w' : World} {v : Value} {la : Nat} {f : Nat → Nat} (h : Bs w v la f) (k : Kp (fun _ => False) w w') : Bs w' v la f := by
  obtain ⟨pa, ba, oa, ca, h1, h2, h3, h4⟩ := h
  exact ⟨pa, ba, oa, ca, h1, h2, fun j hj => k.cellv (h3 j hj) id, h4⟩


/-- The value v reads as n numbers l. -/
def Ls (w : World) (v : Value) (n : Nat) (l : Nat → Nat) : Prop :=
  ∃ pa ba oa ca, v = .slice pa n ca ∧ (∀ k, k < n → pa = some ⟨ba, oa, none⟩) ∧ (∀ k, k < n → w.cell? ⟨ba, oa + k, none⟩ = some (.int .i64 ((l k : Nat) : Int)))

theorem rowsX (a v : Value) (n m k : Nat) (A : Nat → Nat → Nat) (l : Nat → Nat) (w : World) (ha : Mx w a n m A) (hl : Ls w v k l) (hb : ∀ j, j < k → l j < n) (n1 : 1 ≤ n) (n2 : n ≤ 255) (m1 : 1 ≤ m) (m2 : m ≤ 255) (k1 : 1 ≤ k) (k2 : k ≤ 255) :
    Calls Tryd.prog 123 #[a, v] w fun e w' => ∃ v', e = .returned (.tuple #[v', .int .i64 0]) ∧ Kp (fun _ => False) w w' ∧ Mx w' v' k m (fun r => A (l r)) := by
  obtain ⟨s, rfl, hs, rfl, hsL, rfl⟩ := ha
  obtain ⟨pa, ba, oa, ca, rfl, h1, h2⟩ := hl
  refine (rows_ok s pa ba oa k ca l w hs (isM_of rfl hsL n1 n2 m1 m2) h1 h2 hb (by omega) (by omega)).mono ?_
  rintro e w' ⟨B, rfl, hP⟩
  rw [hsL 0 (by omega)] at hP
  exact ⟨_, rfl, hP.kept, (hP.mat (fun i j => hs.byte _ _)).mx⟩

/-- how many each way: from 1 to 6 -/
def nn6 (n : Int) : Nat := 1 + ((n % 18446744073709551616) % 6).toNat
theorem nn6_bd (n : Int) : 1 ≤ nn6 n ∧ nn6 n ≤ 6 := by unfold nn6; omega
theorem nn6_eq (n : Int) : wrap64 (1 + wrap64 ((IntKind.u64.wrap n).tmod 6)) = (nn6 n : Int) := by
  have e : IntKind.u64.wrap n = n % 18446744073709551616 := by simp [IntKind.wrap, IntKind.bits, IntKind.signed]
  rw [e, Int.tmod_eq_emod_of_nonneg (by omega)]
  unfold wrap64 nn6; omega
end Go.Proofs.YtmncocmeafcpfaaDoor.Mf

/- The walks of matrix.besideOnes, bringPivot and clearColumn. -/
namespace Go.Proofs.YtmncocmeafcpfaaDoor.Mf
open Go.RowKit Go.Deep

theorem mixed : Tryd.prog.follows .mixedOrders = true := by kernel_rfl

/-- a row, its first n written over -/
def overRow (f g : Nat → Nat) (n : Nat) : Nat → Nat := fun j => if j < n then g j else f j

theorem kp_setRow (w : World) (g : Nat) (cs : Array Value) : Kp (fun b => b = g) w (w.setRow g cs) :=
  ⟨rfl, rfl, rfl, by simp [World.setRow], fun k _ hn => setRow_other w g k cs hn⟩

/-- a copy into a row of the program's own: what it leaves -/
theorem wpList_copy_kp {P : Program} {w : World} {ops : Array Oper} {rest : List Oper} {o : Oper} {a : Act} {Q : Exit → Act → World → Prop} (hgd : o.guard = none) (d s : Operand) (dT sT : TypeId)
    (ho : o.op = .call { callee := .builtin .copy, args := #[d, s], argTypes := #[dT, sT] }) (elem : TypeId) (hu : P.underlying dT = some (.slice elem)) (hsz : (P.info? elem).map (·.size) = some 1)
    (g dLen dCap : Nat) (br ob n sCap : Nat) (hd : a.eval d = .slice (some ⟨g, 0, none⟩) dLen dCap) (hs : a.eval s = .slice (some ⟨br, ob, none⟩) n sCap)
    (m : Nat) (t : TypeId) (f src : Nat → Nat) (hg : w.rowIs g t m (By f)) (hn : n ≤ dLen) (hm : dLen ≤ m)
    (hsrc : ∀ j, j < n → w.cell? ⟨br, ob + j, none⟩ = some (.int .u8 ((src j : Nat) : Int)))
    (h : ∀ w', Kp (fun b => b = g) w w' → w'.heap.size = w.heap.size → w'.rowIs g t m (By (overRow f src n)) → wpList P ops Q rest (a.put o.dst (goInt n)) w') : wpList P ops Q (o :: rest) a w := by
  obtain ⟨cur, hc, hcs, hcv⟩ := hg
  have hl := vals_length src n
  have := wpList_copy_own (P := P) (w := w) (ops := ops) (rest := rest) (o := o) (a := a) (Q := Q) hgd d s dT sT ho elem hu hsz g 0 dLen dCap ⟨br, ob, none⟩ n sCap hd hs cur t hc (vals src n)
    (by rw [hl]; exact (Nat.min_eq_left hn).symm) (fun j v hj => by
      obtain ⟨hlt, rfl⟩ := vals_get hj
      rw [addr_add]
      exact hsrc j hlt) (by rw [hl]; omega) (vals_one src n)
  refine this ?_
  rw [hl]
  refine h _ (kp_setRow _ _ _) (by simp [World.setRow]) ⟨_, setRow_heap w g cur _ t (0, 0) hc, ?_, fun i hi => ?_⟩
  · simp [hl]; omega
  · simp only [List.take_zero, List.nil_append, List.getElem?_toArray, Nat.zero_add]
    unfold overRow By
    dsimp only
    by_cases hin : i < n
    · rw [List.getElem?_append_left (by rw [hl]; exact hin), vals_at src hin, if_pos hin]
    · rw [List.getElem?_append_right (by rw [hl]; omega), hl, List.getElem?_drop, if_neg hin, Array.getElem?_toList, show n + (i - n) = i from by omega]
      exact hcv i hi

/-- the wide rows, when r are filled -/
def wideAt (A : Nat → Nat → Nat) (n r : Nat) : Nat → Nat → Nat := fun i c => if i < r then wide A n i c else 0
theorem wideAt_zero (A : Nat → Nat → Nat) (n : Nat) : wideAt A n 0 = fun _ _ => 0 := by funext i c; simp [wideAt]
theorem wideAt_lt {A : Nat → Nat → Nat} (hA : ∀ i j, A i j < 256) (n r i c : Nat) : wideAt A n r i c < 256 := by
  unfold wideAt; split
  · exact wide_lt hA n i c
  · omega
theorem wideAt_here (A : Nat → Nat → Nat) (n r j : Nat) : (if j = n + r then 1 else overRow (wideAt A n r r) (A r) n j) = wideAt A n (r + 1) r j := by
  unfold overRow wideAt wide
  rw [if_neg (Nat.lt_irrefl r), if_pos (Nat.lt_succ_self r)]
  by_cases h : j < n
  · rw [if_neg (by omega), if_pos h, if_pos h]
  · rw [if_neg h, if_neg h]
theorem wideAt_other (A : Nat → Nat → Nat) (n r i j : Nat) (h : i ≠ r) : wideAt A n r i j = wideAt A n (r + 1) i j := by
  unfold wideAt
  by_cases e : i < r
  · rw [if_pos e, if_pos (by omega)]
  · rw [if_neg e, if_neg (by omega)]

set_option maxRecDepth 100000 in
set_option maxHeartbeats 1600000 in
theorem besideOnes_any (s : Sh) (n : Nat) (w : World) (hs : Rd w s) (hG : s.G = n) (hL : ∀ r, r < n → s.L r = n) (h1 : 1 ≤ (n : Int)) (h2 : (n : Int) ≤ 255) :
    Calls Tryd.prog 140 #[.slice s.g n s.cap] w fun e w' =>
      e = .returned (.slice (some ⟨w.heap.size, 0, none⟩) n n) ∧ Kp (fun _ => False) w w' ∧ Mat w' w.heap.size (fun i => w.heap.size + 1 + i) n (2 * n) (wide s.M n) := by
  rw [hs.at0 (by omega)]
  have HL : Hid (∀ r, r < n → s.L r = n) := hL
  have HG : Hid (s.G = n) := hG
  clear hL hG
  go_enter Tryd.func140, Tryd.ntmps140
  go_wp2_with fail
  rw [show (2 * (n : Int)) = ((2 * n : Nat) : Int) from by simp]
  refine (noughts_any n (2 * n) _ (by omega) (by omega)).mono ?_
  rintro e w1 ⟨rfl, hK1, hz1, hM1⟩
  go_wp2
  go_loopg [14] n (fun gk i wr => ∃ r : Nat, r ≤ n ∧ gk = n - r ∧ i = .int .i64 r ∧ Kp (fun _ => False) w wr ∧ wr.heap.size = w.heap.size + 1 + n ∧ Mat wr w.heap.size (fun i => w.heap.size + 1 + i) n (2 * n) (wideAt s.M n r))
  case atStart => exact ⟨0, Nat.zero_le _, rfl, rfl, hK1, hz1, by rw [wideAt_zero]; exact hM1⟩
  case round =>
    obtain ⟨r, hr, rfl, rfl, hK, hz, hM⟩ := hrel
    clear hK1 hz1 hM1
    by_cases hlt : (r : Int) < (n : Int)
    · have hrG : r < s.G := by rw [HG.out]; omega
      have e1 := hK.cellv (hs.hd r hrG) id
      rw [HL.out r (by omega), hs.to r hrG 0 (by rw [HL.out r (by omega)]; omega)] at e1
      have e2 := hM.top.cell (i := r) (by omega)
      have hrow := hM.row r (by omega)
      have HSr : Hid (∀ j, j < n → wr.cell? ⟨s.RB r, s.RO r + j, none⟩ = some (.int .u8 ((s.M r j : Nat) : Int))) := fun j hj => hK.cellv (hs.cell r hrG j (by rw [HL.out r (by omega)]; exact hj)) id
      go_wp2_with (refine wpList_copy_kp rfl (.tmp 22) (.tmp 23) 22 22 rfl 5 Tryd.underlying22 size5 (w.heap.size + 1 + r) (2 * n) (2 * n) (s.RB r) (s.RO r) n _ rfl rfl (2 * n) 5 _ (s.M r) hrow (by omega) (Nat.le_refl _) HSr.out ?_)
      intro w2 hK2 hz2 hR2
      have g2 := hK2.cellv e2 (by show ¬ w.heap.size = w.heap.size + 1 + r; omega)
      have g3 := hR2.frozen (n + r)
      have g4 := hR2.cell (i := n + r) (by omega)
      go_wp2
      go_roundg (n - (r + 1))
      case rel => exact ⟨r + 1, by omega, rfl, by go_num, (hK.trans hK2 (fun b hb e => by omega)).setCell (fun h => absurd h (by show ¬ w.heap.size + 1 + r < w.heap.size; omega)) _, by simpa using hz2,
        (hK2.row hM.top (by omega)).setOther (by show w.heap.size ≠ w.heap.size + 1 + r; omega) _, fun i hi => by
          by_cases e : i = r
          · subst e
            exact (hR2.set (n + i) _).congr (fun j _ => by
              simp only [By]
              rw [← wideAt_here]
              split <;> rfl)
          · exact ((hK2.row (hM.row i hi) (by omega)).setOther (by show w.heap.size + 1 + i ≠ w.heap.size + 1 + r; omega) _).congr (fun j _ => by simp only [By]; rw [wideAt_other _ _ _ _ _ e]), hM.inj, hM.ne, wideAt_lt hs.byte _ _⟩
      case measure => omega
    · have e : r = n := by omega
      subst e
      go_wp2
      go_ret
      exact ⟨rfl, hK, hM.top, fun i hi => (hM.row i hi).congr (fun j _ => by simp only [By, wideAt]; rw [if_pos hi]), hM.inj, hM.ne, fun i j => wide_lt hs.byte _ i j⟩

/-- the rows, when the first k are cleared -/
def clearTo (W : Nat → Nat → Nat) (i k : Nat) : Nat → Nat → Nat := fun r => if r < k then cleared W i r else W r
theorem clearTo_zero (W : Nat → Nat → Nat) (i : Nat) : clearTo W i 0 = W := by funext r; simp [clearTo]
theorem clearTo_lt {W : Nat → Nat → Nat} (h : ∀ r c, W r c < 256) (i k r c : Nat) : clearTo W i k r c < 256 := by
  unfold clearTo; split
  · exact cleared_lt h i r c
  · exact h r c
theorem clearTo_pivot (W : Nat → Nat → Nat) (i k : Nat) : clearTo W i k i = W i := by
  unfold clearTo; split
  · funext c; unfold cleared; rw [if_pos rfl]
  · rfl
theorem clearTo_here (W : Nat → Nat → Nat) (i k : Nat) : clearTo W i k k = W k := by unfold clearTo; rw [if_neg (Nat.lt_irrefl k)]
theorem clearTo_succ (W : Nat → Nat → Nat) (i k : Nat) : clearTo W i (k + 1) k = cleared W i k := by unfold clearTo; rw [if_pos (Nat.lt_succ_self k)]
theorem clearTo_other (W : Nat → Nat → Nat) (i k r : Nat) (h : r ≠ k) : clearTo W i (k + 1) r = clearTo W i k r := by
  unfold clearTo
  by_cases e : r < k
  · rw [if_pos e, if_pos (by omega)]
  · rw [if_neg e, if_neg (by omega)]
theorem cleared_row (W : Nat → Nat → Nat) (i r n c : Nat) (hr : r ≠ i) (hc : c < i + n) : plusRow (W r) (fun j => W i (i + j)) (W r i) i n c = cleared W i r c := by
  unfold plusRow cleared
  rw [if_neg hr]
  by_cases h : i ≤ c
  · rw [if_pos ⟨h, hc⟩, if_pos h]
    dsimp only
    rw [show i + (c - i) = c from by omega]
  · rw [if_neg (by omega), if_neg h]
theorem cleared_self (W : Nat → Nat → Nat) (i : Nat) : cleared W i i = W i := by funext c; unfold cleared; rw [if_pos rfl]

set_option maxRecDepth 100000 in
set_option maxHeartbeats 1600000 in
theorem clearColumn_any (t : Nat) (B : Nat → Nat) (n C i : Nat) (W : Nat → Nat → Nat) (w : World) (hM : Mat w t B n C W) (hi : (i : Int) < (n : Int)) (hC : (n : Int) ≤ (C : Int)) (hb : (C : Int) ≤ 100000) (hp : Pows w) (hB : ∀ r, r < n → B r ≠ 1) :
    Calls Tryd.prog 142 #[.slice (some ⟨t, 0, none⟩) n n, .int .i64 i] w fun e w' =>
      e = .returned (.tuple #[]) ∧ Kp (fun b => ∃ r, r < n ∧ b = B r) w w' ∧ w'.heap.size = w.heap.size ∧ Mat w' t B n C (cleared W i) := by
  go_enter Tryd.func142, Tryd.ntmps142
  go_wp2
  go_loopg [8] n (fun gk x wr => ∃ k : Nat, k ≤ n ∧ gk = n - k ∧ x = .int .i64 k ∧ Kp (fun b => ∃ r, r < n ∧ b = B r) w wr ∧ wr.heap.size = w.heap.size ∧ Mat wr t B n C (clearTo W i k))
  case atStart => exact ⟨0, Nat.zero_le _, rfl, rfl, Kp.refl _ _, rfl, by rw [clearTo_zero]; exact hM⟩
  case round =>
    obtain ⟨k, hk, rfl, rfl, hK, hz, hR⟩ := hrel
    by_cases hlt : (k : Int) < (n : Int)
    · have e1 := hR.top.cell (i := k) (by omega)
      have e2 := hR.top.cell (i := i) (by omega)
      have e3 := (hR.row k (by omega)).cell (i := i) (by omega)
      simp only [By, clearTo_here] at e3
      by_cases hki : k = i
      · have hq : ((k : Int) != (i : Int)) = false := by rw [hki]; exact bne_self_eq_false _
        have HE : Hid (k = i) := hki
        clear hki
        go_wp2
        go_roundg (n - (k + 1))
        case rel => exact ⟨k + 1, by omega, rfl, by go_num, hK, hz, hR.top, fun r hr => by
          by_cases e : r = k
          · subst e
            have := hR.row r hr
            rw [clearTo_here] at this
            rw [clearTo_succ, HE.out, cleared_self, ← HE.out]
            exact this
          · rw [clearTo_other _ _ _ _ e]; exact hR.row r hr, hR.inj, hR.ne, clearTo_lt hM.byte _ _⟩
        case measure => omega
      · have hq : ((k : Int) != (i : Int)) = true := bne_iff_ne.2 (by omega)
        have HE : Hid (k ≠ i) := hki
        have l1 := hM.byte k i
        have hrk := hR.row k (by omega)
        have hri := hR.row i (by omega)
        rw [clearTo_here] at hrk
        rw [clearTo_pivot] at hri
        have hadd : Hid (∀ (c1 c2 : Nat) (w' : World), w'.heap = wr.heap → Calls Tryd.prog 144 #[.slice (some ⟨B k, i, none⟩) (C - i) c1, .slice (some ⟨B i, i, none⟩) (C - i) c2, .int .u8 ((W k i : Nat) : Int)] w' fun e w'' =>
            e = .returned (.tuple #[]) ∧ Kp (fun b => b = B k) w' w'' ∧ w''.heap.size = w'.heap.size ∧ w''.rowIs (B k) 5 C (By (plusRow (W k) (fun j => W i (i + j)) (W k i) i (C - i)))) := fun c1 c2 w' hw' =>
          addTimes_any (B k) i C (C - i) c1 (some ⟨B i, i, none⟩) (B i) i (C - i) c2 (W k) (fun j => W i (i + j)) (W k i) w' (hM.byte k) (fun j => hM.byte _ _) (by omega) (hrk.of_block (by rw [hw'])) (fun _ _ => rfl)
            (fun j hj => by
              have := hri.cell (i := i + j) (by omega)
              simpa [World.cell?, hw', By] using this)
            (fun e => HE.out (hR.inj i k (by omega) (by omega) e).symm) (by omega) (by omega) ((hK.pows hp (fun ⟨r, hr, e⟩ => hB r hr e.symm)).heap hw') (hB k (by omega)) (by omega)
        have hiC : (i : Int) < (C : Int) := by omega
        have hiC' : (i : Int) ≤ (C : Int) := by omega
        have hne : ((C : Int) - (i : Int) == 0) = false := beq_eq_false_iff_ne.2 (by omega)
        clear hki hrk hri
        go_wp2
        go_still_tail 13, mixed
        go_wp2_with (go_at_call 144; refine (hadd.out _ _ _ (by rfl)).mono ?_; rintro e w2 ⟨rfl, hKa, hza, hRa⟩)
        all_goals
          go_wp2
          go_roundg (n - (k + 1))
          case rel => exact ⟨k + 1, by omega, rfl, by go_num, hK.drew.trans hKa (fun b _ e => ⟨k, by omega, e⟩), hza.trans hz, hKa.row hR.top (fun e => hR.ne k (by omega) e.symm), fun r hr => by
            by_cases e : r = k
            · subst e
              rw [clearTo_succ]
              exact hRa.congr (fun c hc => by simp only [By]; rw [cleared_row W i r (C - i) c HE.out (by omega)])
            · rw [clearTo_other _ _ _ _ e]
              exact hKa.row (hR.row r hr) (fun e' => e (hR.inj r k hr (by omega) e')), hR.inj, hR.ne, clearTo_lt hM.byte _ _⟩
          case measure => omega
    · have e : k = n := by omega
      subst e
      go_wp2
      go_end0
      exact ⟨rfl, hK, hz, hR.top, fun r hr => by
        have := hR.row r hr
        unfold clearTo at this
        rw [if_pos hr] at this
        exact this, hR.inj, hR.ne, cleared_lt hM.byte _⟩
end Go.Proofs.YtmncocmeafcpfaaDoor.Mf

/- The walks of reed.Can and reed.look. -/
namespace Go.Proofs.YtmncocmeafcpfaaDoor.Mf
open Go.RowKit Go.Deep

set_option maxRecDepth 100000 in
set_option maxHeartbeats 800000 in
theorem can_yes (K M : Int) (w : World) (h1 : 1 ≤ K) (h2 : 0 ≤ M) (h3 : M ≤ 255 - K) :
    Calls Tryd.prog 112 #[.agg #[.int .i64 K, .int .i64 M]] w fun e w' => e = .returned (.bool true) ∧ Kp (fun _ => False) w w' := by
  have d1 : decide (1 ≤ K) = true := by simp; omega
  have d2 : decide (0 ≤ M) = true := by simp; omega
  have d3 : decide (M ≤ 255 - K) = true := by simp; omega
  go_enter Tryd.func112, Tryd.ntmps112
  go_wp2
  go_ret
  exact ⟨rfl, (Kp.refl _ _).alloc _⟩

set_option maxRecDepth 100000 in
set_option maxHeartbeats 800000 in
theorem can_no (K M : Int) (w : World) (hw : 1 ≤ K → wrap64 (255 - K) = 255 - K) (h : ¬ (1 ≤ K ∧ 0 ≤ M ∧ M ≤ 255 - K)) :
    Calls Tryd.prog 112 #[.agg #[.int .i64 K, .int .i64 M]] w fun e w' => e = .returned (.bool false) ∧ Kp (fun _ => False) w w' := by
  by_cases h1 : 1 ≤ K
  · have hw' := hw h1
    clear hw
    have d1 : decide (1 ≤ K) = true := by simp; omega
    by_cases h2 : 0 ≤ M
    · have d2 : decide (0 ≤ M) = true := by simp; omega
      have h3 : ¬ M ≤ 255 - K := by omega
      have d3 : decide (M ≤ 255 - K) = false := by simp; omega
      clear h
      go_enter Tryd.func112, Tryd.ntmps112
      go_wp2
      go_ret
      exact ⟨rfl, (Kp.refl _ _).alloc _⟩
    · have d2 : decide (0 ≤ M) = false := by simp; omega
      clear h
      go_enter Tryd.func112, Tryd.ntmps112
      go_wp2
      go_ret
      exact ⟨rfl, (Kp.refl _ _).alloc _⟩
  · have d1 : decide (1 ≤ K) = false := by simp; omega
    clear h hw
    go_enter Tryd.func112, Tryd.ntmps112
    go_wp2
    go_ret
    exact ⟨rfl, (Kp.refl _ _).alloc _⟩

theorem infoInt : (Tryd.prog.info? 3).map (fun i => (i.zero, i.size, i.bytes)) = some (some (.int .i64 0), 1, 8) := by kernel_rfl
/-- numbers, as values -/
def numsL (xs : List Nat) : List Value := xs.map fun j => .int .i64 ((j : Nat) : Int)
theorem numsL_length (xs : List Nat) : (numsL xs).length = xs.length := by simp [numsL]
/-- which shards are there, of the first k -/
def thereTo (L : Nat → Nat) (k : Nat) : List Nat := (List.range k).filter fun r => decide (0 < L r)
theorem thereTo_succ (L : Nat → Nat) (k : Nat) : thereTo L (k + 1) = if 0 < L k then thereTo L k ++ [k] else thereTo L k := by
  unfold thereTo
  rw [List.range_succ, List.filter_append]
  by_cases h : 0 < L k
  · rw [if_pos h]; simp [h]
  · rw [if_neg h]; simp [h]
theorem thereTo_le (L : Nat → Nat) (k : Nat) : (thereTo L k).length ≤ k := by
  have := List.length_filter_le (fun r => decide (0 < L r)) (List.range k)
  unfold thereTo; simpa using this
theorem thereTo_mem {L : Nat → Nat} {k r : Nat} : r ∈ thereTo L k ↔ r < k ∧ 0 < L r := by unfold thereTo; simp
/-- numbers of the program's own, gathered -/
structure Sel (w wr : World) (v : Value) (xs : List Nat) : Prop where
  kept : Kp (fun _ => False) w wr
  form : ∃ ao cv, v = .slice ao xs.length cv
  own : wr.ownsRow w.heap.size 3 1 v xs.length (numsL xs)
theorem sel_own_value {w : World} {base m : Nat} {v : Value} {xs : List Value} (h : w.ownsRow base 3 1 v (m + 1) xs) : ∃ ao cv, v = .slice ao (m + 1) cv := by
  rcases h.2 with ⟨_, h0⟩ | ⟨g, cap, cur, rfl, _⟩
  · omega
  · exact ⟨_, _, rfl⟩
theorem Sel.start (w : World) : Sel w w (.slice none 0 0) [] := ⟨Kp.refl _ _, ⟨none, 0, rfl⟩, World.ownsRow_nil _ _ _ _⟩
theorem Sel.ls {w wr : World} {v : Value} {xs : List Nat} (h : Sel w wr v xs) : ∃ pa ba cv, v = .slice pa xs.length cv ∧ (xs ≠ [] → pa = some ⟨ba, 0, none⟩ ∧ w.heap.size ≤ ba ∧ ba < wr.heap.size ∧ xs.length ≤ cv) ∧ ∀ k, k < xs.length → wr.cell? ⟨ba, 0 + k, none⟩ = some (.int .i64 ((xs.getD k 0 : Nat) : Int)) := by
  rcases h.own.2 with ⟨rfl, h0⟩ | ⟨g, cap, cur, rfl, hb, hh, hn, _, hcs, htk⟩
  · exact ⟨none, 0, 0, by rw [h0], fun hx => absurd (List.length_eq_zero_iff.1 h0) hx, fun k hk => by omega⟩
  · refine ⟨some ⟨g, 0, none⟩, g, cap, rfl, fun _ => ⟨rfl, hb, (Array.getElem?_eq_some_iff.1 hh).1, by omega⟩, fun i hi => ?_⟩
    have h1 : (cur.toList.take (xs.length * 1))[i]? = some (.int .i64 ((xs.getD i 0 : Nat) : Int)) := by
      rw [htk]; unfold numsL
      rw [List.getElem?_map, List.getElem?_eq_getElem hi]
      simp [hi]
    rw [List.getElem?_take_of_lt (by omega), Array.getElem?_toList] at h1
    simp [World.cell?, hh, h1]
theorem Sel.keep {w wr w2 : World} {v : Value} {xs : List Nat} (h : Sel w wr v xs) (k : Kp (fun _ => False) wr w2) : Sel w w2 v xs := ⟨h.kept.trans k (fun _ _ e => e), h.form, ownsRow_keep h.own k⟩

set_option maxRecDepth 100000 in
set_option maxHeartbeats 1600000 in
theorem lookStep1_any (w0 : World) (xs : List Nat) (v : Value) (src : Option Addr) (L c k : Nat) (w : World) (h : Sel w0 w v xs) (hx : (xs.length : Int) ≤ 1000) :
    Calls Tryd.prog 131 #[v, .int .i64 k, .slice src L c] w fun e w' => ∃ v', e = .returned v' ∧ Sel w0 w' v' (if 0 < L then xs ++ [k] else xs) := by
  obtain ⟨ti, hi0, hz0, hz1, hz2⟩ := info_parts infoInt
  obtain ⟨ao, cv, rfl⟩ := h.form
  have hO := h.own
  have hsz := h.kept.size
  by_cases hL : 0 < L
  · rw [if_pos hL]
    have d1 : decide (0 < (L : Int)) = true := by simp; omega
    have hL' : 0 < (L : Int) := by omega
    have HK : Hid (Kp (fun _ => False) w0 w) := h.kept
    clear h
    go_enter Tryd.func131, Tryd.ntmps131
    go_wp2_with (at_builtin; go_must (refine wpList_append_own_at _ rfl _ _ 23 rfl w0.heap.size 3 ti (.int .i64 0) 1 8 Tryd.underlying23 hi0 hz0 hz1 hz2 rfl (by decide) _ _ _ rfl (hO.alloc _) ⟨w.heap.size, 0, none⟩ 1 1 [.int .i64 ((k : Nat) : Int)] rfl rfl (cell_one_new _ _ _) (fun x hx => by simp at hx; subst hx; rfl) (by unfold maxLen; omega) (by omega) (by simp; omega) ?_); intro v' w3 hown' hgrow3 hnil3 hblk3)
    go_ret
    refine ⟨_, rfl, Kp.trans (HK.out.alloc _) (grownBy_kp hgrow3) (fun b hb e => by have := ownBlock_lt hO e; omega), ?_, ?_⟩
    · rw [List.length_append]; exact sel_own_value hown'
    · rw [List.length_append]
      unfold numsL at hown' ⊢
      rw [List.map_append]; exact hown'
  · rw [if_neg hL]
    have d1 : decide (0 < (L : Int)) = false := by simp; omega
    have hL' : ¬ 0 < (L : Int) := by omega
    go_enter Tryd.func131, Tryd.ntmps131
    go_wp2
    go_ret
    exact ⟨_, rfl, h⟩

set_option maxRecDepth 100000 in
set_option maxHeartbeats 1600000 in
theorem throughThere_any (s : Sh) (w : World) (hs : Rd w s) (hG : (s.G : Int) ≤ 1000) (h0 : 1 ≤ (s.G : Int)) :
    Calls Tryd.prog 130 #[.slice s.g s.G s.cap, .slice none 0 0, .func (.func 131) #[] #[]] w fun e w' => ∃ v, e = .returned v ∧ Sel w w' v (thereTo s.L s.G) := by
  rw [hs.at0 (by omega)]
  go_enter Tryd.func130, Tryd.ntmps130
  go_wp2
  go_loopg [1, 11] s.G (fun gk v i wr => ∃ k : Nat, k ≤ s.G ∧ gk = s.G - k ∧ i = .int .i64 k ∧ Sel w wr v (thereTo s.L k))
  case atStart => exact ⟨0, Nat.zero_le _, rfl, rfl, Sel.start w⟩
  case round =>
    obtain ⟨k, hk, rfl, rfl, hS⟩ := hrel
    by_cases hlt : (k : Int) < (s.G : Int)
    · have e1 := hS.kept.cellv (hs.hd k (by omega)) id
      have hle := thereTo_le s.L k
      have HM : Hid (∀ v, Sel w wr v (thereTo s.L k) → ∀ p c, Calls _ _ #[v, _, .slice p _ c] wr _) := fun v hv p c => lookStep1_any w (thereTo s.L k) v p (s.L k) c k wr hv (by omega)
      go_wp2_with fail
      refine (HM.out _ hS _ _).mono ?_
      rintro e w1 ⟨v', rfl, hS1⟩
      rw [← thereTo_succ] at hS1
      clear HM e1
      go_wp2
      go_roundg (s.G - (k + 1))
      case rel => exact ⟨k + 1, by omega, rfl, by go_num, hS1⟩
      case measure => omega
    · have e : k = s.G := by omega
      clear hs
      go_wp2
      go_ret
      subst e
      exact ⟨_, rfl, hS⟩

/-- the length that all must have: the first one's that is there -/
def len0 (L : Nat → Nat) (n : Nat) : Nat := L ((thereTo L n).headD 0)
def alikeTo (L : Nat → Nat) (n k : Nat) : Bool := decide (∀ r, r < k → L r = 0 ∨ L r = len0 L n)
theorem alikeTo_succ (L : Nat → Nat) (n k : Nat) : alikeTo L n (k + 1) = (alikeTo L n k && decide (L k = 0 ∨ L k = len0 L n)) := by
  unfold alikeTo
  rw [Bool.eq_iff_iff]
  simp only [decide_eq_true_eq, Bool.and_eq_true]
  constructor
  · intro h; exact ⟨fun r hr => h r (by omega), h k (by omega)⟩
  · intro h r hr
    by_cases e : r = k
    · rw [e]; exact h.2
    · exact h.1 r (by omega)

set_option maxRecDepth 100000 in
set_option maxHeartbeats 1600000 in
theorem lookStep2_any (s : Sh) (sb tb : Nat) (pa : Option Addr) (ba cv : Nat) (xs : List Nat) (told : Bool) (src : Option Addr) (L c k : Nat) (w : World) (hs : Rd w s)
    (h1 : w.cell? ⟨sb, 0, none⟩ = some (.slice s.g s.G s.cap)) (h2 : w.cell? ⟨tb, 0, none⟩ = some (.slice pa xs.length cv)) (hx : 0 < L → xs ≠ [])
    (h3 : xs ≠ [] → pa = some ⟨ba, 0, none⟩) (h4 : ∀ j, j < xs.length → w.cell? ⟨ba, 0 + j, none⟩ = some (.int .i64 ((xs.getD j 0 : Nat) : Int))) (h5 : ∀ r, r ∈ xs → r < s.G) :
    Calls Tryd.prog 133 #[.bool told, .int .i64 k, .slice src L c, .pointer (some ⟨sb, 0, none⟩), .pointer (some ⟨tb, 0, none⟩)] w fun e w' =>
      e = .returned (.bool (told && decide (L = 0 ∨ L = s.L (xs.headD 0)))) ∧ ∃ n, w' = w.drewN n := by
  cases told with
  | false =>
    simp only [Bool.false_and]
    clear h4 h3 h5 hs
    go_enter Tryd.func133, Tryd.ntmps133
    go_wp2
    go_quiet (fail)
    all_goals go_wp2
    all_goals go_ret
    all_goals exact ⟨rfl, _, rfl⟩
  | true =>
    simp only [Bool.true_and]
    by_cases hL : L = 0
    · subst hL
      have HD : Hid (decide (0 = 0 ∨ 0 = s.L (xs.headD 0)) = true) := by show _ = _; simp
      clear h4 h3 h5 hs hx
      go_enter Tryd.func133, Tryd.ntmps133
      go_wp2
      go_quiet (fail)
      all_goals go_wp2
      all_goals go_ret
      all_goals exact ⟨by rw [HD.out]; rfl, _, rfl⟩
    · have hxs := hx (by omega)
      obtain ⟨x, t, rfl⟩ := List.exists_cons_of_ne_nil hxs
      obtain rfl := h3 hxs
      have c1 := h4 0 (by simp)
      simp only [List.getD_cons_zero, Nat.add_zero] at c1
      have hxG : x < s.G := h5 x (by simp)
      have c2 := hs.hd x hxG
      have hg := hs.at0 (by omega)
      rw [hg] at h1
      have d0 : ((L : Int) == 0) = false := beq_eq_false_iff_ne.2 (by omega)
      have i1 : (0 : Int) < ((x :: t).length : Int) := by simp
      generalize (x :: t).length = len at h2 i1
      by_cases hq : L = s.L x
      · have d1 : ((L : Int) == (s.L x : Int)) = true := by rw [hq]; exact beq_self_eq_true _
        have HD : Hid (decide (L = 0 ∨ L = s.L ((x :: t).headD 0)) = true) := by show _ = _; simp [hq]
        clear h4 h3 h5 hs hx hq hL
        go_enter Tryd.func133, Tryd.ntmps133
        go_wp2
        go_quiet (fail)
        all_goals go_wp2
        all_goals go_ret
        all_goals exact ⟨by rw [HD.out]; rfl, _, rfl⟩
      · have d1 : ((L : Int) == (s.L x : Int)) = false := beq_eq_false_iff_ne.2 (by omega)
        have HD : Hid (decide (L = 0 ∨ L = s.L ((x :: t).headD 0)) = false) := by show _ = _; simp [hq, hL]
        clear h4 h3 h5 hs hx hq hL
        go_enter Tryd.func133, Tryd.ntmps133
        go_wp2
        go_quiet (fail)
        all_goals go_wp2
        all_goals go_ret
        all_goals exact ⟨by rw [HD.out]; rfl, _, rfl⟩
set_option maxRecDepth 100000 in
set_option maxHeartbeats 1600000 in
theorem throughAlike_any (s : Sh) (sb tb : Nat) (pa : Option Addr) (ba cv : Nat) (w : World) (hs : Rd w s) (hG : (s.G : Int) ≤ 1000) (h0 : 1 ≤ (s.G : Int))
    (h1 : w.cell? ⟨sb, 0, none⟩ = some (.slice s.g s.G s.cap)) (h2 : w.cell? ⟨tb, 0, none⟩ = some (.slice pa (thereTo s.L s.G).length cv))
    (h3 : thereTo s.L s.G ≠ [] → pa = some ⟨ba, 0, none⟩) (h4 : ∀ j, j < (thereTo s.L s.G).length → w.cell? ⟨ba, 0 + j, none⟩ = some (.int .i64 (((thereTo s.L s.G).getD j 0 : Nat) : Int))) :
    Calls Tryd.prog 132 #[.slice s.g s.G s.cap, .bool true, .func (.func 133) #[] #[.pointer (some ⟨sb, 0, none⟩), .pointer (some ⟨tb, 0, none⟩)]] w fun e w' => e = .returned (.bool (alikeTo s.L s.G s.G)) ∧ ∃ n, w' = w.drewN n := by
  have HM : Hid (∀ k, k < s.G → ∀ m told p c, Calls _ _ #[.bool told, _, .slice p _ c, _, _] (w.drewN m) _) := fun k hk m told p c => lookStep2_any s sb tb pa ba cv (thereTo s.L s.G) told p (s.L k) c k (w.drewN m) ⟨hs.at0, hs.hd, hs.to, hs.cell, hs.byte⟩ h1 h2 (fun h e => by
    have : k ∈ thereTo s.L s.G := thereTo_mem.2 ⟨hk, h⟩
    rw [e] at this; simp at this) h3 h4 (fun r hr => (thereTo_mem.1 hr).1)
  clear h1 h2 h3 h4
  rw [hs.at0 (by omega)]
  go_enter Tryd.func132, Tryd.ntmps132
  go_wp2
  go_loopg [1, 11] s.G (fun gk v i wr => ∃ k m : Nat, k ≤ s.G ∧ gk = s.G - k ∧ v = .bool (alikeTo s.L s.G k) ∧ i = .int .i64 k ∧ wr = w.drewN m)
  case atStart => exact ⟨0, 0, Nat.zero_le _, rfl, by simp [alikeTo], rfl, rfl⟩
  case round =>
    obtain ⟨k, m, hk, rfl, rfl, rfl, rfl⟩ := hrel
    by_cases hlt : (k : Int) < (s.G : Int)
    · have e1 := hs.hd k (by omega)
      have e2 : (w.drewN m).cell? ⟨s.gb, s.go + k, none⟩ = _ := e1
      have HA : Hid (alikeTo s.L s.G (k + 1) = (alikeTo s.L s.G k && decide (s.L k = 0 ∨ s.L k = len0 s.L s.G))) := alikeTo_succ _ _ _
      generalize alikeTo s.L s.G k = told at HA
      go_wp2_with fail
      refine (HM.out k (by omega) m told _ _).mono ?_
      rintro e w1 ⟨rfl, m2, rfl⟩
      have HV : Hid (Value.bool (told && decide (s.L k = 0 ∨ s.L k = s.L ((thereTo s.L s.G).headD 0))) = .bool (alikeTo s.L s.G (k + 1))) := by rw [HA.out]; exact rfl
      rw [HV.out]
      clear HV HA e1 e2
      obtain ⟨nx, hnx⟩ : ∃ x, x = alikeTo s.L s.G (k + 1) := ⟨_, rfl⟩
      have HX : Hid (nx = alikeTo s.L s.G (k + 1)) := hnx
      rw [← hnx]
      clear hnx
      go_wp2
      go_roundg (s.G - (k + 1))
      case rel => exact ⟨k + 1, m + m2, by omega, rfl, by rw [HX.out], by go_num, rfl⟩
      case measure => omega
    · have e : k = s.G := by omega
      clear hs HM
      go_wp2
      go_ret
      subst e
      exact ⟨rfl, _, rfl⟩
/-- the value v reads as the numbers xs, in memory that is newer than w's -/
def Nx (w w' : World) (v : Value) (xs : List Nat) : Prop := ∃ pa ba cv, v = .slice pa xs.length cv ∧ (xs ≠ [] → pa = some ⟨ba, 0, none⟩ ∧ w.heap.size ≤ ba ∧ xs.length ≤ cv) ∧ ∀ k, k < xs.length → w'.cell? ⟨ba, 0 + k, none⟩ = some (.int .i64 ((xs.getD k 0 : Nat) : Int))
theorem Nx.keep {w w' w2 : World} {v : Value} {xs : List Nat} (h : Nx w w' v xs) (k : Kp (fun _ => False) w' w2) : Nx w w2 v xs := by
  obtain ⟨pa, ba, cv, h1, h2, h3⟩ := h
  exact ⟨pa, ba, cv, h1, h2, fun j hj => k.cellv (h3 j hj) id⟩

set_option maxRecDepth 100000 in
set_option maxHeartbeats 1600000 in
theorem look_any (s : Sh) (w : World) (hs : Rd w s) (hG : (s.G : Int) ≤ 1000) (h0 : 1 ≤ (s.G : Int)) :
    Calls Tryd.prog 121 #[.slice s.g s.G s.cap] w fun e w' => ∃ v, e = .returned (.tuple #[v, .bool (alikeTo s.L s.G s.G)]) ∧ Kp (fun _ => False) w w' ∧ Nx w w' v (thereTo s.L s.G) := by
  obtain ⟨wa, hwa⟩ : ∃ x, x = w.alloc (.cells #[.slice s.g s.G s.cap] 27) := ⟨_, rfl⟩
  have ka : Kp (fun _ => False) w wa := by rw [hwa]; exact (Kp.refl _ _).alloc _
  have za : wa.heap.size = w.heap.size + 1 := by rw [hwa]; simp
  have ca : wa.cell? ⟨w.heap.size, 0, none⟩ = some (.slice s.g s.G s.cap) := by rw [hwa]; go_simp
  obtain ⟨wb, hwb⟩ : ∃ x, x = wa.alloc (.cells #[.slice none 0 0] 23) := ⟨_, rfl⟩
  have kab : Kp (fun _ => False) wa wb := by rw [hwb]; exact (Kp.refl _ _).alloc _
  have kb := ka.trans kab (fun _ _ e => e)
  have zb : wb.heap.size = w.heap.size + 2 := by rw [hwb]; simp [za]
  have cb := kab.cellv ca id
  have rb : wb.rowIs (w.heap.size + 1) 23 1 (fun _ => .slice none 0 0) := by
    rw [hwb, ← za]
    exact World.rowIs_alloc wa #[.slice none 0 0] 23 (fun _ => .slice none 0 0) (fun i hi => by
      have : i = 0 := by simpa using hi
      subst this; rfl)
  have HT : Hid (Calls _ _ _ wb _) := throughThere_any s wb (hs.keep kb) hG h0
  go_enter Tryd.func121, Tryd.ntmps121
  go_wp2_with fail
  rw [← hwa, ← hwb]
  refine HT.out.mono ?_
  rintro e w1 ⟨v, rfl, hS⟩
  clear HT
  have r1 := hS.kept.row rb id
  have f1 := r1.frozen 0
  have c1 := r1.cell (i := 0) (by omega)
  have c2 := hS.kept.cellv cb id
  obtain ⟨pa, ba, cv, rfl, hx1, hx2⟩ := hS.ls
  obtain ⟨w2, hw2⟩ : ∃ x, x = w1.setCell ⟨w.heap.size + 1, 0, none⟩ (.slice pa (thereTo s.L s.G).length cv) := ⟨_, rfl⟩
  have r2 : w2.rowIs (w.heap.size + 1) 23 1 (fun _ => .slice pa (thereTo s.L s.G).length cv) := by
    rw [hw2]; exact (r1.set 0 _).congr (fun i hi => by rw [if_pos (by omega)])
  have k12 : Kp (fun b => b = w.heap.size + 1) w1 w2 := by rw [hw2]; exact (Kp.refl (fun b => b = w.heap.size + 1) w1).setCell (a := ⟨w.heap.size + 1, 0, none⟩) (fun _ => rfl) _
  have c3 := k12.cellv c2 (by show w.heap.size ≠ w.heap.size + 1; omega)
  have k02 : Kp (fun _ => False) w w2 := (kb.trans hS.kept (fun _ _ e => e)).trans k12 (fun b hb e => by omega)
  have hx3 : ∀ j, j < (thereTo s.L s.G).length → w2.cell? ⟨ba, 0 + j, none⟩ = some (.int .i64 (((thereTo s.L s.G).getD j 0 : Nat) : Int)) := fun j hj => k12.cellv (hx2 j hj) (by
    have := (hx1 (fun e => by rw [e] at hj; simp at hj)).2.1
    show ba ≠ _; omega)
  have HA : Hid (Calls _ _ _ w2 _) := throughAlike_any s w.heap.size (w.heap.size + 1) pa ba cv w2 (hs.keep k02) hG h0 c3 (r2.cell (i := 0) (by omega)) (fun h => (hx1 h).1) hx3
  have f2 := r2.frozen 0
  have c4 := r2.cell (i := 0) (by omega)
  have HX : Hid (Nx wb w2 (.slice pa (thereTo s.L s.G).length cv) (thereTo s.L s.G)) := ⟨pa, ba, cv, rfl, fun h => ⟨(hx1 h).1, (hx1 h).2.1, (hx1 h).2.2.2⟩, hx3⟩
  clear hx1 hx2 hx3 hS r1 hwa hwb
  obtain ⟨xs, hxs⟩ : ∃ x, x = thereTo s.L s.G := ⟨_, rfl⟩
  have HXS : Hid (thereTo s.L s.G = xs) := hxs.symm
  rw [← hxs] at hw2 r2 c4 HX
  rw [← hxs]
  clear hxs
  go_wp2_with fail
  rw [← hw2]
  clear hw2 f1 c1 c2
  refine HA.out.mono ?_
  rintro e w3 ⟨rfl, m, rfl⟩
  have c5 : (w2.drewN m).cell? ⟨w.heap.size + 1, 0, none⟩ = some (.slice pa xs.length cv) := c4
  have f5 : (w2.drewN m).frozen? ⟨w.heap.size + 1, 0, none⟩ = false := f2
  have r5 := rowIs_drewN r2 m
  have f6 := (r5.set 0 (.slice pa xs.length cv)).cell (i := 0) (by omega)
  simp only [if_true] at f6
  obtain ⟨al, hal⟩ : ∃ x, x = alikeTo s.L s.G s.G := ⟨_, rfl⟩
  have HAL : Hid (alikeTo s.L s.G s.G = al) := hal.symm
  rw [← hal]
  clear hal
  go_wp2
  refine bodyPost_ret (v := .tuple #[.slice pa xs.length cv, .bool al]) (by simp [results, Tryd.results121, go_sem, f6]) rfl ?_
  rw [HXS.out, HAL.out]
  have k25 : Kp (fun b => b = w.heap.size + 1) w2 ((w2.drewN m).setCell ⟨w.heap.size + 1, 0, none⟩ (.slice pa xs.length cv)) := ((Kp.refl (fun b => b = w.heap.size + 1) w2).drewN m).setCell (a := ⟨w.heap.size + 1, 0, none⟩) (fun _ => rfl) _
  refine ⟨_, rfl, k02.trans k25 (fun b hb e => by omega), ?_⟩
  obtain ⟨pa', ba', cv', e1, e2, e3⟩ := HX.out
  refine ⟨pa', ba', cv', e1, fun h => ⟨(e2 h).1, by have := (e2 h).2.1; omega, (e2 h).2.2⟩, fun k hk => k25.cellv (e3 k hk) ?_⟩
  have := (e2 (fun e => by rw [e] at hk; simp at hk)).2.1
  show ba' ≠ _
  omega
end Go.Proofs.YtmncocmeafcpfaaDoor.Mf

/- How often members are chosen: the plain part. -/
import Derived.Test.YtgapfkglkmdfgaaHk
import Derived.Test.YtgapfkglkmdfgaaMz
namespace Go.Proofs.Ytgapfkglkmdfgaa
set_option linter.unusedVariables false
open Go.RowKit Go.Deep Go.Maps

def bt (mask : Int) (z : Int) : Bool := bits .and .u64 (mask / 2 ^ z.toNat) 1 == 1
/-- the first k bits' members -/
def msk (a : Int) (k : Nat) : List Int := ((List.range k).filter (fun i : Nat => bt a (i : Int))).map (fun i : Nat => (i : Int))
theorem msk_succ (a : Int) (n : Nat) : msk a (n + 1) = if bt a (n : Int) then msk a n ++ [(n : Int)] else msk a n := by
  unfold msk
  have hf : [n].filter (fun i : Nat => bt a (i : Int)) = if bt a (n : Int) then [n] else [] := by rw [List.filter_cons, List.filter_nil]
  rw [List.range_succ, List.filter_append, List.map_append, hf]
  by_cases h : bt a (n : Int) = true
  · rw [if_pos h, if_pos h]; rfl
  · rw [if_neg h, if_neg h]; simp
theorem msk_len (a : Int) (n : Nat) : (msk a n).length ≤ n := by
  unfold msk
  rw [List.length_map]
  exact Nat.le_trans (List.length_filter_le _ _) (by simp)
theorem msk_mem (a : Int) (i : Nat) (h : i < 16) : ((i : Int) ∈ msk a 16) = (bt a (i : Int) = true) := by
  unfold msk
  simp only [List.mem_map, List.mem_filter, List.mem_range, eq_iff_iff]
  constructor
  · rintro ⟨j, ⟨_, h2⟩, h3⟩
    have : j = i := by omega
    rw [← this]; exact h2
  · intro h2
    exact ⟨i, ⟨h, h2⟩, rfl⟩
theorem rs_msk (a : Int) : rs (msk a 16) = msk a 16 := by
  unfold rs rise
  conv => rhs; unfold msk
  congr 1
  refine List.filter_congr (fun i hi => ?_)
  rw [List.mem_range] at hi
  unfold setOf
  rw [List.getD_eq_getElem?_getD, List.getElem?_map, List.getElem?_range hi]
  show decide ((i : Int) ∈ msk a 16) = _
  rw [Bool.eq_iff_iff, decide_eq_true_iff, msk_mem a i hi]
theorem msk_nodup (a : Int) (n : Nat) : (msk a n).Nodup := by
  unfold msk List.Nodup
  rw [List.pairwise_map]
  exact (List.Pairwise.filter _ (List.nodup_range)).imp (fun h e => h (by omega))
/-- the places that are chosen over i seeds -/
def plc (c b n i : Nat) : List Nat := (List.range i).flatMap (fun k => (List.range n).map (fun j => (j + (b + k) % c) % c))
set_option maxRecDepth 1000000 in
theorem once : ∀ c, c < 17 → ∀ b, b < c → ∀ j, j < c → ∀ q, q < c → (List.range c).countP (fun k => (j + (b + k) % c) % c == q) = 1 := by decide +kernel
theorem plc_succ (c b n i : Nat) : plc c b n (i + 1) = plc c b n i ++ (List.range n).map (fun j => (j + (b + i) % c) % c) := by
  unfold plc
  rw [List.range_succ, List.flatMap_append]; simp
theorem plc_more (c b n q : Nat) : ∀ i, (plc c b (n + 1) i).count q = (plc c b n i).count q + (List.range i).countP (fun k => (n + (b + k) % c) % c == q)
  | 0 => rfl
  | i + 1 => by
    rw [plc_succ, plc_succ, List.count_append, List.count_append, plc_more c b n q i, List.range_succ (n := n), List.map_append, List.count_append, List.range_succ (n := i), List.countP_append]
    have h : List.count q (List.map (fun j => (j + (b + i) % c) % c) [n]) = List.countP (fun k => (n + (b + k) % c) % c == q) [i] := by
      simp [List.count_cons, List.countP_cons]
    rw [h]; omega
theorem plc_fair (c : Nat) (hc : c < 17) (b : Nat) (hb : b < c) (q : Nat) (hq : q < c) : ∀ n, n < c + 1 → (plc c b n c).count q = n
  | 0, _ => by
    have : plc c b 0 c = [] := by unfold plc; simp
    rw [this]; rfl
  | n + 1, h => by rw [plc_more, plc_fair c hc b hb q hq n (by omega), once c hc b hb n (by omega) q hq]
/-- the members that are chosen over i seeds -/
def vis (ms : List Int) (b n i : Nat) : List Int := (plc ms.length b n i).map (fun q => ms.getD q 0)
theorem count_get {ms : List Int} (hn : ms.Nodup) (q : Nat) (hq : q < ms.length) : ∀ (l : List Nat), (∀ x ∈ l, x < ms.length) → (l.map (fun x => ms.getD x 0)).count (ms.getD q 0) = l.count q
  | [], _ => rfl
  | x :: l, h => by
    have ih := count_get hn q hq l (fun y hy => h y (List.mem_cons_of_mem _ hy))
    have hx := h x (List.mem_cons_self ..)
    rw [List.map_cons, List.count_cons, List.count_cons, ih]
    congr 1
    by_cases e : x = q
    · rw [e]; simp
    · have : ms.getD x 0 ≠ ms.getD q 0 := fun e2 => by
        rw [List.getD_eq_getElem?_getD, List.getD_eq_getElem?_getD, List.getElem?_eq_getElem hx, List.getElem?_eq_getElem hq] at e2
        exact e ((List.getElem_inj hn).1 e2)
      rw [if_neg (by simpa using this), if_neg (by simpa using e)]
theorem vis_fair (a : Int) (b n : Nat) (hb : b < (msk a 16).length) (hn : n ≤ (msk a 16).length) (q : Nat) (hq : q < (msk a 16).length) : (vis (msk a 16) b n (msk a 16).length).count ((msk a 16).getD q 0) = n := by
  unfold vis
  have hl := msk_len a 16
  rw [count_get (msk_nodup a 16) q hq, plc_fair (msk a 16).length (by omega) b hb q hq n (by omega)]
  intro x hx
  unfold plc at hx
  simp only [List.mem_flatMap, List.mem_map, List.mem_range] at hx
  obtain ⟨k, _, j, _, rfl⟩ := hx
  exact Nat.mod_lt _ (by omega)
theorem beg_add (s : Int) (k c : Nat) (hs : 0 ≤ s ∧ s < 4611686018427387904) (hk : k ≤ 16) (hc : 0 < c) : beg (s + (k : Int)) c = (beg s c + k) % c := by
  unfold beg
  obtain ⟨m, rfl⟩ : ∃ m : Nat, s = (m : Int) := ⟨s.toNat, by omega⟩
  rw [show ((m : Int) + (k : Int)) % 18446744073709551616 = ((m + k : Nat) : Int) by omega, show (m : Int) % 18446744073709551616 = (m : Int) by omega, ← Int.natCast_emod, ← Int.natCast_emod, Int.toNat_natCast, Int.toNat_natCast, Nat.mod_add_mod]
theorem trn_take (a s : Int) (k n : Nat) (hs : 0 ≤ s ∧ s < 4611686018427387904) (hk : k ≤ 16) (h0 : 0 < (msk a 16).length) (hn : n ≤ (msk a 16).length) : vis (msk a 16) (beg s (msk a 16).length) n (k + 1) = vis (msk a 16) (beg s (msk a 16).length) n k ++ (trn (msk a 16) (s + (k : Int))).take n := by
  unfold vis
  rw [plc_succ, List.map_append]
  congr 1
  unfold trn
  rw [rs_msk, beg_add s k _ hs hk h0, ← List.map_take, List.take_range, Nat.min_eq_left hn, List.map_map]
  rfl
/-- how often each number is in a list, as a map has it -/
def cnt (V : List Int) (z : Int) : Option Value := if V.count z = 0 then none else some (.int .i64 (V.count z : Int))
theorem cnt_get (V : List Int) (z : Int) : (cnt V z).getD (.int .i64 0) = .int .i64 (V.count z : Int) := by
  unfold cnt
  by_cases h : V.count z = 0
  · rw [if_pos h, h]; rfl
  · rw [if_neg h]; rfl
theorem cnt_upd (V : List Int) (z : Int) : upd (cnt V) z (.int .i64 ((V.count z : Int) + 1)) = cnt (V ++ [z]) := by
  funext y
  unfold upd cnt
  rw [List.count_append]
  by_cases e : y = z
  · rw [if_pos e, e, List.count_singleton_self, if_neg (by omega)]; simp
  · have h0 : List.count y [z] = 0 := List.count_eq_zero.2 (by simpa using e)
    rw [if_neg e, h0, Nat.add_zero]
end Go.Proofs.Ytgapfkglkmdfgaa

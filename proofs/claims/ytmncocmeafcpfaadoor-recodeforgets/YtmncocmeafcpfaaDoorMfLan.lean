/- The walk of the law MatrixAny: any rows of a code's matrix, as many as its data, have an inverse. -/
import Derived.Test.YtmncocmeafcpfaaDoorMfM11
import Derived.Test.YtmncocmeafcpfaaDoorMfM12
import Derived.Maps.AppendAt
namespace Go.Proofs.YtmncocmeafcpfaaDoor.Mf
open Go.RowKit Go.Deep

def kk12 (n : Int) : Nat := 1 + ((n % 18446744073709551616) % 12).toNat
def mm6 (n : Int) : Nat := ((n % 18446744073709551616) % 6).toNat
theorem kk12_bd (n : Int) : 1 ≤ kk12 n ∧ kk12 n ≤ 12 := by unfold kk12; omega
theorem mm6_bd (n : Int) : mm6 n ≤ 5 := by unfold mm6; omega
theorem u64_wrap (n : Int) : IntKind.u64.wrap n = n % 18446744073709551616 := by simp [IntKind.wrap, IntKind.bits, IntKind.signed]
theorem kk12_eq (n : Int) : wrap64 (1 + wrap64 ((IntKind.u64.wrap n).tmod 12)) = (kk12 n : Int) := by
  rw [u64_wrap, Int.tmod_eq_emod_of_nonneg (by omega)]
  unfold wrap64 kk12; omega
theorem mm6_eq (n : Int) : wrap64 ((IntKind.u64.wrap n).tmod 6) = (mm6 n : Int) := by
  rw [u64_wrap, Int.tmod_eq_emod_of_nonneg (by omega)]
  unfold wrap64 mm6; omega

theorem info3 : (Tryd.prog.info? 3).map (fun i => (i.zero, i.size, i.bytes)) = some (some (.int .i64 0), 1, 8) := by kernel_rfl
/-- numbers, as values -/
def nums (l : Nat → Nat) (m : Nat) : List Value := (List.range m).map fun j => .int .i64 ((l j : Nat) : Int)
theorem nums_succ (l : Nat → Nat) (m i : Nat) : nums (fun j => if j = m then i else l j) (m + 1) = nums l m ++ [.int .i64 ((i : Nat) : Int)] := by
  unfold nums
  rw [List.range_succ, List.map_append]
  congr 1
  · refine List.map_congr_left (fun j hj => ?_)
    have hj' := List.mem_range.1 hj
    dsimp only
    rw [if_neg (by omega)]
  · simp
theorem nums_at (l : Nat → Nat) {m j : Nat} (h : j < m) : (nums l m)[j]? = some (.int .i64 ((l j : Nat) : Int)) := by
  unfold nums; rw [List.getElem?_map, List.getElem?_range h]; rfl
theorem sel_value {w : World} {base m : Nat} {v : Value} {xs : List Value} (h : w.ownsRow base 3 1 v (m + 1) xs) : ∃ ao cv, v = .slice ao (m + 1) cv := by
  rcases h.2 with ⟨_, h0⟩ | ⟨g, cap, cur, rfl, _⟩
  · omega
  · exact ⟨_, _, rfl⟩
theorem sel_step {l : Nat → Nat} {m i : Nat} (h : ∀ j, j < m → l j < i ∧ ∀ j', j < j' → j' < m → l j < l j') : ∀ j, j < m + 1 → (if j = m then i else l j) < i + 1 ∧ ∀ j', j < j' → j' < m + 1 → (if j = m then i else l j) < (if j' = m then i else l j') := by
  intro j hj
  by_cases e : j = m
  · rw [if_pos e]
    exact ⟨by omega, fun j' h1 h2 => by omega⟩
  · rw [if_neg e]
    have := h j (by omega)
    refine ⟨by omega, fun j' h1 h2 => ?_⟩
    by_cases e' : j' = m
    · rw [if_pos e']; exact this.1
    · rw [if_neg e']; exact this.2 j' h1 (by omega)
theorem sel_read {w : World} {base m : Nat} {v : Value} {l : Nat → Nat} (hm : 0 < m) (h : w.ownsRow base 3 1 v m (nums l m)) : Ls w v m l := by
  rcases h.2 with ⟨_, h0⟩ | ⟨g, cap, cur, rfl, hb, hh, hn, _, hcs, htk⟩
  · omega
  · refine ⟨some ⟨g, 0, none⟩, g, 0, cap, rfl, fun _ _ => rfl, fun i hi => ?_⟩
    have h1 : (cur.toList.take (m * 1))[i]? = some (.int .i64 ((l i : Nat) : Int)) := by rw [htk]; exact nums_at l hi
    rw [List.getElem?_take_of_lt (by omega), Array.getElem?_toList] at h1
    simp [World.cell?, hh, h1]
/-- elimination of any K rows of a code's matrix does not fail -/
theorem any_no_fail {K i : Nat} {l : Nat → Nat} (hK : K ≤ 256) (hl : ∀ j, j < K → l j < 256 ∧ ∀ j', j < j' → j' < K → l j < l j') {W : Nat → Nat → Nat} (h : El (fun r => gen K (l r)) K i W) (hi : i < K) : ¬ NoPiv W K i := fun hn => by
  obtain ⟨v, hv, h1, h0⟩ := h.kernel (fun _ _ => gen_lt _ _ _) hi hn
  have := any_kernel K l (fun j hj => (hl j hj).1) hK (fun j j' h1 h2 => (hl j (by omega)).2 j' h1 h2) v hv h0 i hi
  omega

end Go.Proofs.YtmncocmeafcpfaaDoor.Mf

/- The walk of the law LeadChooses. -/
import Derived.Test.YtjpdbhkggcojaaaEi
import Derived.Test.YtjpdbhkggcojaaaEf
namespace Go.Proofs.Ytjpdbhkggcojaaa
set_option linter.unusedVariables false
open Go.RowKit Go.Deep Go.Maps

def mm (q : Nat) (n : Int) : Nat := ((n % 18446744073709551616) % (q : Int)).toNat
theorem mm_lt (q : Nat) (n : Int) (hq : 0 < q) : mm q n < q := by
  unfold mm
  have h1 := Int.emod_nonneg (n % 18446744073709551616) (show (q : Int) ≠ 0 by omega)
  have h2 := Int.emod_lt_of_pos (n % 18446744073709551616) (show (0 : Int) < (q : Int) by omega)
  omega
theorem mm_eq (q : Nat) (n : Int) (hq : 0 < q) (hq2 : q ≤ 1000) : wrap64 ((IntKind.u64.wrap n).tmod (q : Int)) = (mm q n : Int) := by
  have e1 : IntKind.u64.wrap n = n % 18446744073709551616 := by rfl
  have h0 : 0 ≤ n % 18446744073709551616 := Int.emod_nonneg _ (by decide)
  rw [e1, Int.tmod_eq_emod_of_nonneg h0]
  have h1 := Int.emod_nonneg (n % 18446744073709551616) (show (q : Int) ≠ 0 by omega)
  have h2 := Int.emod_lt_of_pos (n % 18446744073709551616) (show (0 : Int) < (q : Int) by omega)
  unfold mm wrap64
  omega

/-- each number twice -/
def dbl : Nat → List Int
  | 0 => []
  | n + 1 => dbl n ++ [(n : Int), (n : Int)]
theorem dbl_len : ∀ n, (dbl n).length = n * 2
  | 0 => rfl
  | n + 1 => by show (dbl n ++ [(n : Int), (n : Int)]).length = _; rw [List.length_append, dbl_len n]; simp; omega
def nums (n : Nat) : List Int := (List.range n).map (fun i : Nat => (i : Int))
theorem nums_nodup (n : Nat) : (nums n).Nodup := List.Pairwise.map _ (fun a b h e => h (Int.natCast_inj.1 e)) List.nodup_range
theorem nums_mem (n : Nat) (x : Int) : x ∈ nums n ↔ 0 ≤ x ∧ x < n := by
  unfold nums
  rw [List.mem_map]
  constructor
  · rintro ⟨i, hi, rfl⟩
    have := List.mem_range.1 hi
    omega
  · rintro ⟨h0, h1⟩
    exact ⟨x.toNat, List.mem_range.2 (by omega), by omega⟩
theorem dbl_mem : ∀ (n : Nat) (x : Int), x ∈ dbl n ↔ 0 ≤ x ∧ x < n
  | 0, x => ⟨fun h => (by cases h), fun h => (by omega)⟩
  | n + 1, x => by
    show x ∈ dbl n ++ [(n : Int), (n : Int)] ↔ _
    rw [List.mem_append, dbl_mem n]
    simp only [List.mem_cons, List.not_mem_nil, or_false, or_self]
    omega
/-- how many of the first n are there -/
def cnt (n : Nat) (acc : List Bool) : Nat := (nums n).countP (hasN acc)
theorem maj_dbl (n : Nat) (acc : List Bool) : maj acc (dbl n) = decide (n < 2 * cnt n acc) := by
  rw [maj_of acc (nums_nodup n) (fun x => by rw [nums_mem, dbl_mem])]
  have : (nums n).length = n := by simp [nums]
  rw [this]
  rfl
theorem cnt_le (n : Nat) (acc : List Bool) : cnt n acc ≤ n := by
  unfold cnt
  have h1 := List.countP_le_length (p := hasN acc) (l := nums n)
  have : (nums n).length = n := by simp [nums]
  omega
theorem hasN_set (acc : List Bool) (h : acc.length = 16) (k : Nat) (hk : k < 16) (x : Int) : hasN (acc.set k true) x = (hasN acc x || decide (x = k)) := by
  unfold hasN
  by_cases h0 : 0 ≤ x
  · rw [decide_eq_true h0, List.getD_eq_getElem?_getD, List.getD_eq_getElem?_getD, List.getElem?_set]
    by_cases e : k = x.toNat
    · have : x = k := by omega
      rw [if_pos e, if_pos (by omega), decide_eq_true this]
      simp
    · have : ¬ x = k := by omega
      rw [if_neg e, decide_eq_false this]
      simp
  · rw [decide_eq_false h0]
    have : ¬ x = k := by omega
    rw [decide_eq_false this]
    rfl
theorem count_one (n : Nat) (k : Nat) (hk : k < n) : ∀ f : Int → Bool, f k = false → (nums n).countP (fun x => f x || decide (x = (k : Int))) = (nums n).countP f + 1 := by
  intro f hf
  have hp : (nums n).Perm ((k : Int) :: (nums n).erase (k : Int)) := List.perm_cons_erase ((nums_mem n k).2 (by omega))
  have hnd : ((k : Int) :: (nums n).erase (k : Int)).Nodup := hp.nodup_iff.1 (nums_nodup n)
  have hno : (k : Int) ∉ (nums n).erase (k : Int) := (List.nodup_cons.1 hnd).1
  rw [hp.countP_eq, hp.countP_eq, List.countP_cons, List.countP_cons, hf]
  have e1 : ((nums n).erase (k : Int)).countP (fun x => f x || decide (x = (k : Int))) = ((nums n).erase (k : Int)).countP f := by
    apply List.countP_congr
    intro x hx
    have : ¬ x = (k : Int) := fun e => hno (e ▸ hx)
    rw [decide_eq_false this, Bool.or_false]
  rw [e1]
  simp
theorem cnt_set (n : Nat) (acc : List Bool) (h : acc.length = 16) (k : Nat) (hk : k < 16) : cnt n (acc.set k true) = cnt n acc + (if k < n ∧ hasN acc k = false then 1 else 0) := by
  unfold cnt
  have e0 : (nums n).countP (hasN (acc.set k true)) = (nums n).countP (fun x => hasN acc x || decide (x = (k : Int))) := by
    apply List.countP_congr
    intro x _
    rw [hasN_set acc h k hk]
  rw [e0]
  by_cases hkn : k < n
  · by_cases hh : hasN acc k = false
    · rw [if_pos ⟨hkn, hh⟩, count_one n k hkn _ hh]
    · rw [if_neg (fun e => hh e.2), Nat.add_zero]
      apply List.countP_congr
      intro x _
      by_cases e : x = (k : Int)
      · subst e
        have : hasN acc k = true := by simpa using hh
        rw [this]; rfl
      · rw [decide_eq_false e, Bool.or_false]
  · rw [if_neg (fun e => hkn e.1), Nat.add_zero]
    apply List.countP_congr
    intro x hx
    have := (nums_mem n x).1 hx
    rw [decide_eq_false (by omega), Bool.or_false]
/-- who has been met -/
def metT (n : Nat) (acc : List Bool) : Int → Option Value := fun z => if z < n ∧ hasN acc z = true then some (.bool true) else none
theorem metT_set (n : Nat) (acc : List Bool) (h : acc.length = 16) (k : Nat) (hk : k < 16) (hkn : k < n) : upd (metT n acc) k (.bool true) = metT n (acc.set k true) := by
  funext z
  unfold upd metT
  rw [hasN_set acc h k hk]
  by_cases e : z = (k : Int)
  · rw [if_pos e, if_pos ⟨by omega, by rw [decide_eq_true e, Bool.or_true]⟩]
  · rw [if_neg e, decide_eq_false e, Bool.or_false]
theorem metT_skip (n : Nat) (acc : List Bool) (h : acc.length = 16) (k : Nat) (hk : k < 16) (hkn : ¬ k < n) : metT n acc = metT n (acc.set k true) := by
  funext z
  unfold metT
  rw [hasN_set acc h k hk]
  by_cases hz : z < n
  · rw [decide_eq_false (by omega), Bool.or_false]
  · rw [if_neg (fun e => hz e.1), if_neg (fun e => hz e.1)]
theorem met_some (n : Nat) (acc : List Bool) (k : Nat) (hkn : k < n) : (metT n acc k).isSome = hasN acc k := by
  unfold metT
  cases hh : hasN acc k with
  | true => rw [if_pos ⟨by omega, rfl⟩]; rfl
  | false => rw [if_neg (fun e => by cases e.2)]; rfl
theorem met_put {n : Nat} {acc : List Bool} {k c : Nat} (h : acc.length = 16) (hk : k < 16) (hkn : k < n) (hc : c = cnt n acc) : c + (if (metT n acc k).isSome then 0 else 1) = cnt n (acc.set k true) := by
  rw [cnt_set n acc h k hk, met_some n acc k hkn, hc]
  cases hh : hasN acc k with
  | true => simp
  | false => simp [hkn]
theorem uMB : Try.prog.underlying 58 = some (.map 3 4) := Try.underlying58
theorem rep_none (n : Nat) : metT n (List.replicate 16 false) = fun _ => none := by
  funext z
  unfold metT
  rw [if_neg]
  rintro ⟨_, h⟩
  unfold hasN at h
  rw [List.getD_eq_getElem?_getD, List.getElem?_replicate] at h
  split at h <;> simp at h
theorem rep_cnt (n : Nat) : cnt n (List.replicate 16 false) = 0 := by
  unfold cnt
  rw [List.countP_eq_zero]
  intro x _ h
  unfold hasN at h
  rw [List.getD_eq_getElem?_getD, List.getElem?_replicate] at h
  split at h <;> simp at h
theorem updO_upd (O : Int → Option (Pq × Value)) (z : Int) (x y : Pq × Value) : updO (updO O z x) z y = updO O z y := by
  funext u
  unfold updO
  by_cases e : u = z
  · rw [if_pos e, if_pos e]
  · rw [if_neg e, if_neg e, if_neg e]
def cid (n : Int) : Cs0 := ⟨n, 0, ⟨#[]⟩, 0, 0, 0, 0, 0, 0, 0, 0⟩
/-- a try with one proposal, at 3 -/
def Tc (w : World) (t mb mp qp : Nat) (acc : List Bool) : Prop := ∃ nv, Tr w t mb mp 0 qp 0 1 1 1 4 (List.replicate 16 false) (fun _ => none) (updO (fun _ => none) 3 (⟨cid 5, [], acc⟩, nv))
theorem Tc.keep {S : Nat → Prop} {w w' : World} {t mb mp qp : Nat} {acc : List Bool} (h : Tc w t mb mp qp acc) (k : Kp S w w') (h1 : ¬ S t) (h2 : ¬ S mb) (h3 : ¬ S mp) : Tc w' t mb mp qp acc := by
  obtain ⟨nv, hT⟩ := h
  refine ⟨nv, hT.lv.keep k h1, hT.len, hT.b.keep k h2, hT.o.keep k h3, hT.ne, fun _ _ e => (by cases e), fun z x hx => ?_, hT.pos⟩
  obtain ⟨⟨p, cap, e, hf, hn⟩, hl⟩ := hT.no z x hx
  have hx0 := hx
  unfold updO at hx0
  by_cases ez : z = 3
  · rw [if_pos ez] at hx0
    injection hx0 with hx0
    subst hx0
    exact ⟨⟨p, cap, e, fun j u hu => (by simp at hu), hn⟩, hl⟩
  · rw [if_neg ez] at hx0; cases hx0
theorem tc_acc {w : World} {t mb mp qp : Nat} {acc : List Bool} (h : Tc w t mb mp qp acc) (n : Nat) (hn : n < 16) (hq : qp < 4611686018427387904) :
    Calls Try.prog 15 #[.pointer (some ⟨t, 0, none⟩), .int .i64 (n : Int), .int .i64 3] w fun e w' => e = .returned (.int .i64 0) ∧ Kp (fun b => b = mp) w w' ∧ Tc w' t mb mp (qp + 1) (acc.set n true) := by
  obtain ⟨nv, hT⟩ := h
  refine (taccepted_ok hT n hn 3 (by omega) (⟨cid 5, [], acc⟩, nv) (by unfold updO; rw [if_pos rfl]) hq).mono ?_
  rintro e w' ⟨rfl, k, hT'⟩
  rw [updO_upd] at hT'
  exact ⟨rfl, k, nv, hT'⟩
theorem tc_cho {w : World} {t mb mp qp : Nat} {acc : List Bool} (h : Tc w t mb mp qp acc) (p : Option Addr) (cap L : Nat) (zs : List Int) (hL : L = zs.length) (hI : Fl w (· < w.heap.size) p (zs.map encI)) (hreach : zs.length * 8 ≤ 140737488355328) :
    Calls Try.prog 24 #[.pointer (some ⟨t, 0, none⟩), .int .i64 3, .slice p L cap] w fun e w' => e = .returned (.bool (maj acc zs)) ∧ Kp (fun _ => False) w w' := by
  subst hL
  obtain ⟨nv, hT⟩ := h
  exact tchosen_ok hT 3 (by omega) p cap zs hI hreach
theorem tc_cho2 {w : World} {t mb mp qp : Nat} {acc : List Bool} (h : Tc w t mb mp qp acc) (p : Option Addr) (cap L : Nat) (zs : List Int) (hL : L = zs.length) (hI : Fl w (· < w.heap.size) p (zs.map encI)) (hreach : zs.length * 8 ≤ 140737488355328) (hm : maj (List.replicate 16 false) zs = false) :
    Calls Try.prog 24 #[.pointer (some ⟨t, 0, none⟩), .int .i64 2, .slice p L cap] w fun e w' => e = .returned (.bool false) ∧ Kp (fun _ => False) w w' := by
  subst hL
  obtain ⟨nv, hT⟩ := h
  have := tchosen_ok hT 2 (by omega) p cap zs hI hreach
  have e : ((updO (fun _ => none) 3 (⟨cid 5, [], acc⟩, nv) 2).getD (pq0, nil0)).1.acc = List.replicate 16 false := by
    unfold updO; rw [if_neg (by decide)]; rfl
  rw [e, hm] at this
  exact this
theorem tc_next {w : World} {t mb mp qp : Nat} {acc : List Bool} (h : Tc w t mb mp qp acc) : Calls Try.prog 26 #[.pointer (some ⟨t, 0, none⟩)] w fun e w' => e = .returned (.int .i64 4) ∧ w' = w := by
  obtain ⟨nv, hT⟩ := h
  exact tnext_ok hT
end Go.Proofs.Ytjpdbhkggcojaaa

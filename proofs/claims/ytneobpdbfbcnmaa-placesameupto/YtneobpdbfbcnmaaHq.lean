/- Reverse; append onto one's own, and what it leaves of the old row. -/
import Derived.Test.YtneobpdbfbcnmaaHpa
import Derived.BigRegion
namespace Go.Proofs.Ytneobpdbfbcnmaa
set_option linter.unusedVariables false
open Go.RowKit Go.Deep

section
variable {P : Program} (w : World)
/-- append of whatever, onto a slice of one's own -/
theorem run_app2 (base : Nat) (t tx ty e : TypeId) (i : TypeInfo) (z : Value) (size bytes : Nat) (ht : P.underlying t = some (.slice e)) (hi : P.info? e = some i) (hz : i.zero = some z)
    (hsize : i.size = size) (hby : i.bytes = bytes) (hzs : z.cells.size = size) (hsz : 0 < size)
    (v : Value) (n : Nat) (xs : List Value) (hown : w.ownsRow base e size v n xs)
    (x : Value) (m : Nat) (news : List Value) (hs : Src P size tx x m news w)
    (h63 : n + m ≤ maxLen) (hbytes : (n + m) * bytes ≤ 140737488355328) (hbase : base ≤ w.heap.size) :
    ∃ v' w', (Builtin.append_ #[t, tx] ty #[v, x]).run P w = .ok v' w' ∧ w'.ownsRow base e size v' (n + m) (xs ++ news) ∧ ((w.grownBy w' v.ownBlock ∧ v'.ownBlock = v.ownBlock) ∨ w.grownBy w' none) := by
  subst hsize
  subst hby
  have hl := hs.newsLen
  have h1 := hs.one
  have hsmall : n + m ≤ 9223372036854775807 := by simp only [maxLen] at h63; omega
  have hlen : (xs ++ news).length = (n + m) * i.size := by rw [List.length_append, hown.1, hl, Nat.add_mul]
  have grown : ∀ (old : Nat), old < n + m → ∀ (row : Option Nat),
      (w.drew.alloc (.cells ((xs ++ news).toArray ++ Builtin.zeroCells z.cells (grownCap w (n + m) old e - (n + m))) e)).ownsRow base e i.size
        (.slice (some ⟨w.heap.size, 0, none⟩) (n + m) (grownCap w (n + m) old e)) (n + m) (xs ++ news) ∧
      w.grownBy (w.drew.alloc (.cells ((xs ++ news).toArray ++ Builtin.zeroCells z.cells (grownCap w (n + m) old e - (n + m))) e)) row := by
    intro old ho row
    have hge := grownCap_ge w (n + m) old e
    have hcm : grownCap w (n + m) old e ≤ maxLen := grownCap_le_maxLen w (n + m) old e h63
    refine ⟨⟨hlen, .inr ⟨w.heap.size, _, _, rfl, hbase, heap_alloc_new w.drew _, hge, hcm, ?_, ?_⟩⟩, ⟨rfl, rfl, rfl, by simp, fun k hk _ => heap_alloc_old w.drew _ hk⟩⟩
    · simp only [Array.size_append, List.size_toArray, size_zeroCells, hzs, hlen, ← Nat.add_mul]
      congr 1
      omega
    · simp only [Array.toList_append]
      rw [← hlen]
      exact List.take_left
  rcases hown.2 with ⟨rfl, rfl⟩ | ⟨g, cap, cur, rfl, hbg, hg, hnc, hcm, hcs, htake⟩
  · have hx : xs = [] := List.eq_nil_of_length_eq_zero (by simpa using hown.1)
    subst hx
    by_cases hm : m = 0
    · subst hm
      have hn : news = [] := List.eq_nil_of_length_eq_zero (by simpa using hl)
      subst hn
      refine ⟨.slice none 0 0, w, ?_, World.ownsRow_nil w base e i.size, Or.inr ⟨rfl, rfl, rfl, Nat.le_refl _, fun _ _ _ => rfl⟩⟩
      rcases hs.kind with ⟨e', hk⟩ | hk <;> simp [Builtin.append_, run_underlying ht, run_underlying hk, sizeOf, typeInfo, hi, hs.len, hs.cells]
    · have hr := run_append_grow_src (P := P) w t tx ty e i z ht hi hz none 0 0 [] (run_firstCells_none w.drew i.size 0 0 0) x m news hs (by omega) (by omega) (growslice_fits (by omega) hbytes)
      have hgr := grown 0 (by omega) none
      exact ⟨_, _, hr, hgr.1, Or.inr hgr.2⟩
  · by_cases hroom : n + m ≤ cap
    · have hfit : n * i.size + news.length ≤ cur.size := by rw [hl, hcs, ← Nat.add_mul]; exact Nat.mul_le_mul_right _ hroom
      have hst := run_storeCells_at P g (n * i.size) e news 0 cur w hg (by simpa using hfit) h1
      simp only [Nat.add_zero] at hst
      have hr : (Builtin.append_ #[t, tx] ty #[.slice (some ⟨g, 0, none⟩) n cap, x]).run P w =
          .ok (.slice (some ⟨g, 0, none⟩) (n + m) cap) (w.setRow g (cur.toList.take (n * i.size) ++ news ++ cur.toList.drop (n * i.size + news.length)).toArray) := by
        rcases hs.kind with ⟨e', hk⟩ | hk <;> simp [Builtin.append_, run_underlying ht, run_underlying hk, sizeOf, typeInfo, hi, hs.len, hs.cells, hroom, Addr.add_lit, hst]
      refine ⟨_, _, hr, ⟨hlen, .inr ⟨g, cap, _, rfl, hbg, setRow_heap w g cur _ e _ hg, hroom, hcm, ?_, ?_⟩⟩, Or.inl ⟨⟨rfl, rfl, rfl, by simp, fun k _ hk => setRow_other w g k _ (fun e => hk (by simp [Value.ownBlock, e]))⟩, rfl⟩⟩
      · simp only [List.size_toArray, List.length_append, List.length_take, List.length_drop, Array.length_toList]
        omega
      · rw [htake, ← hlen]
        exact List.take_left
    · have holds : ∀ j u, xs[j]? = some u → w.drew.cell? ((⟨g, 0, none⟩ : Addr).add j) = some u := by simpa using hown.cells (g := g) rfl
      have hr := run_append_grow_src (P := P) w t tx ty e i z ht hi hz (some ⟨g, 0, none⟩) n cap xs (run_firstCells_some w.drew i.size n ⟨g, 0, none⟩ n cap xs hown.1 holds) x m news hs (by omega) (by omega) (growslice_fits (by omega) hbytes)
      have hgr := grown cap (by omega) none
      exact ⟨_, _, hr, hgr.1, Or.inr hgr.2⟩
end
theorem setOf_ext {xs ys : List Int} (h : ∀ z, z ∈ xs ↔ z ∈ ys) : setOf xs = setOf ys := by
  unfold setOf
  exact List.map_congr_left (fun i _ => by rw [decide_eq_decide]; exact h _)
theorem rs_ext {xs ys : List Int} (h : ∀ z, z ∈ xs ↔ z ∈ ys) : rs xs = rs ys := by unfold rs; rw [setOf_ext h]
theorem trn_ext {xs ys : List Int} (s : Int) (h : ∀ z, z ∈ xs ↔ z ∈ ys) : trn xs s = trn ys s := by unfold trn; rw [rs_ext h]
theorem set2_mem {l : List Int} {i j : Nat} (hi : i < l.length) (hj : j < l.length) (z : Int) : z ∈ (l.set i l[j]).set j l[i] ↔ z ∈ l := by
  have key : ∀ (m : List Int), m = (l.set i l[j]).set j l[i] → ∀ k, m[k]? = if k = j then some l[i] else if k = i then some l[j] else l[k]? := fun m hm k => by
    rw [hm, List.getElem?_set, List.getElem?_set]
    simp only [List.length_set]
    by_cases e1 : k = j
    · subst e1; rw [if_pos rfl, if_pos hj, if_pos rfl]
    · have e1' : ¬ j = k := fun e => e1 e.symm
      rw [if_neg e1', if_neg e1]
      by_cases e2 : k = i
      · subst e2; rw [if_pos rfl, if_pos hi, if_pos rfl]
      · have e2' : ¬ i = k := fun e => e2 e.symm
        rw [if_neg e2', if_neg e2]
  have key := key _ rfl
  constructor
  · intro h
    obtain ⟨k, hk⟩ := List.mem_iff_getElem?.1 h
    rw [key k] at hk
    by_cases e1 : k = j
    · rw [if_pos e1] at hk; injection hk with hk; rw [← hk]; exact List.getElem_mem hi
    · rw [if_neg e1] at hk
      by_cases e2 : k = i
      · rw [if_pos e2] at hk; injection hk with hk; rw [← hk]; exact List.getElem_mem hj
      · rw [if_neg e2] at hk; exact List.mem_of_getElem? hk
  · intro h
    obtain ⟨k, hk⟩ := List.mem_iff_getElem?.1 h
    by_cases e1 : k = i
    · refine List.mem_of_getElem? (i := j) ?_
      rw [key j, if_pos rfl]
      rw [e1, List.getElem?_eq_getElem hi] at hk
      exact hk
    · by_cases e2 : k = j
      · refine List.mem_of_getElem? (i := i) ?_
        rw [key i]
        rw [e2, List.getElem?_eq_getElem hj] at hk
        by_cases e3 : i = j
        · exfalso; omega
        · rw [if_neg e3, if_pos rfl]; exact hk
      · refine List.mem_of_getElem? (i := k) ?_
        rw [key k, if_neg e2, if_neg e1]; exact hk

end Go.Proofs.Ytneobpdbfbcnmaa

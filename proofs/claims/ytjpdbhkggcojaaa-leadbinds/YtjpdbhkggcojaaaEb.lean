/- lead.nodes: has, majority. -/
import Derived.Test.YtjpdbhkggcojaaaEa
import Derived.Test.YtjpdbhkggcojaaaSh
namespace Go.Proofs.Ytjpdbhkggcojaaa
set_option linter.unusedVariables false
open Go.RowKit Go.Deep Go.Maps Go.Shelf

/-- the numbers, rising -/
def srt (zs : List Int) : List Int := zs.mergeSort (fun x y => decide (x ≤ y))
/-- each number once, rising -/
def each (zs : List Int) : List Int := Lib.compact (srt zs)
theorem srt_len (zs : List Int) : (srt zs).length = zs.length := List.length_mergeSort zs
theorem srt_mem (zs : List Int) (x : Int) : x ∈ srt zs ↔ x ∈ zs := (List.mergeSort_perm zs _).mem_iff
theorem srt_le (zs : List Int) : (srt zs).Pairwise (fun x y => x ≤ y) := by
  have := List.pairwise_mergeSort (le := fun (x y : Int) => decide (x ≤ y)) (fun a b c h1 h2 => by simp at *; omega) (fun a b => by simp; omega) zs
  exact this.imp (fun h => of_decide_eq_true h)
theorem compact_facts (d : Array Int) (hs : ∀ i j, i ≤ j → j < d.size → d[i]! ≤ d[j]!) : ∀ m, m ≤ d.size → (∀ x, x ∈ Lib.compactUpTo d m ↔ ∃ j, j < m ∧ d[j]! = x) ∧ (Lib.compactUpTo d m).Pairwise (fun x y => x < y)
  | 0, _ => ⟨fun x => ⟨fun h => (by simp [Lib.compactUpTo] at h), fun ⟨j, hj, _⟩ => absurd hj (Nat.not_lt_zero _)⟩, by simp [Lib.compactUpTo]⟩
  | m + 1, hm => by
    obtain ⟨h1, h2⟩ := compact_facts d hs m (by omega)
    rw [Lib.compactUpTo_succ]
    by_cases hk : Lib.keeps d m = true
    · rw [if_pos hk]
      refine ⟨fun x => ?_, ?_⟩
      · rw [List.mem_append, h1, List.mem_singleton]
        constructor
        · rintro (⟨j, hj, e⟩ | e)
          · exact ⟨j, by omega, e⟩
          · exact ⟨m, by omega, e.symm⟩
        · rintro ⟨j, hj, e⟩
          by_cases hjm : j = m
          · right; rw [← e, hjm]
          · left; exact ⟨j, by omega, e⟩
      · refine List.pairwise_append.2 ⟨h2, List.pairwise_singleton _ _, fun x hx y hy => ?_⟩
        rw [List.mem_singleton] at hy
        subst hy
        obtain ⟨j, hj, rfl⟩ := (h1 x).1 hx
        have ha := hs j (m - 1) (by omega) (by omega)
        have hb := hs (m - 1) m (by omega) (by omega)
        have hc : d[m]! ≠ d[m - 1]! := by
          have := of_decide_eq_true hk
          rcases this with h | h
          · omega
          · exact h
        omega
    · rw [if_neg hk, List.append_nil]
      refine ⟨fun x => ?_, h2⟩
      rw [h1]
      constructor
      · rintro ⟨j, hj, e⟩
        exact ⟨j, by omega, e⟩
      · rintro ⟨j, hj, e⟩
        by_cases hjm : j = m
        · subst hjm
          have hh : ¬ (j = 0 ∨ d[j]! ≠ d[j - 1]!) := fun h => hk (decide_eq_true h)
          refine ⟨j - 1, by omega, ?_⟩
          rw [← e]
          by_cases he : d[j]! = d[j - 1]!
          · exact he.symm
          · exact absurd (Or.inr he) hh
        · exact ⟨j, by omega, e⟩
theorem each_facts (zs : List Int) : (∀ x, x ∈ each zs ↔ x ∈ zs) ∧ (each zs).Pairwise (fun x y => x < y) := by
  have hg : ∀ j, j < (srt zs).length → (srt zs).toArray[j]! = (srt zs).getD j 0 := fun j hj => by
    rw [getElem!_pos (srt zs).toArray j (by simpa using hj), List.getD_eq_getElem?_getD, List.getElem?_eq_getElem hj]
    simp
  have hs : ∀ i j, i ≤ j → j < (srt zs).toArray.size → (srt zs).toArray[i]! ≤ (srt zs).toArray[j]! := fun i j hij hj => by
    have hj' : j < (srt zs).length := by simpa using hj
    rw [hg i (by omega), hg j hj', List.getD_eq_getElem?_getD, List.getD_eq_getElem?_getD, List.getElem?_eq_getElem hj', List.getElem?_eq_getElem (show i < (srt zs).length by omega)]
    by_cases e : i = j
    · subst e; exact Int.le_refl _
    · exact List.pairwise_iff_getElem.1 (srt_le zs) i j (by omega) hj' (by omega)
  obtain ⟨h1, h2⟩ := compact_facts (srt zs).toArray hs (srt zs).length (by simp)
  refine ⟨fun x => ?_, h2⟩
  rw [← srt_mem zs x]
  show x ∈ Lib.compactUpTo _ _ ↔ _
  rw [h1]
  constructor
  · rintro ⟨j, hj, rfl⟩
    rw [hg j hj, List.getD_eq_getElem?_getD, List.getElem?_eq_getElem hj]
    exact List.getElem_mem hj
  · intro hx
    obtain ⟨j, hj, rfl⟩ := List.getElem_of_mem hx
    exact ⟨j, hj, by rw [hg j hj, List.getD_eq_getElem?_getD, List.getElem?_eq_getElem hj]; rfl⟩
theorem each_mem (zs : List Int) (x : Int) : x ∈ each zs ↔ x ∈ zs := (each_facts zs).1 x
theorem each_nodup (zs : List Int) : (each zs).Nodup := (each_facts zs).2.imp (fun h => Int.ne_of_lt h)
theorem nodup_len_le : ∀ (l m : List Int), l.Nodup → (∀ x ∈ l, x ∈ m) → l.length ≤ m.length
  | [], m, _, _ => Nat.zero_le _
  | x :: l, m, hn, hs => by
    have hx : x ∈ m := hs x List.mem_cons_self
    have hn' := List.nodup_cons.1 hn
    have := nodup_len_le l (m.erase x) hn'.2 (fun y hy => (List.mem_erase_of_ne (fun e => hn'.1 (by rw [← e]; exact hy))).2 (hs y (List.mem_cons_of_mem _ hy)))
    rw [List.length_erase_of_mem hx] at this
    have h0 : 0 < m.length := List.length_pos_of_mem hx
    simp only [List.length_cons]
    omega
theorem each_len (zs : List Int) : (each zs).length ≤ zs.length := nodup_len_le _ _ (each_nodup zs) (fun x hx => (each_mem zs x).1 hx)

theorem values_ok (p : Option Addr) (n c : Nat) (w : World) : Calls Try.prog 48 #[.slice p n c] w fun e w' => e = .returned (.func (.func 53) #[] #[.pointer (some ⟨w.heap.size, 0, none⟩)]) ∧ w' = w.alloc (.cells #[.slice p n c] 23) := by
  go_enter Try.func48, Try.ntmps48
  go_wp2
  go_ret
  exact ⟨rfl, rfl⟩

set_option maxHeartbeats 800000 in
theorem collect_vals (Bs cap : Nat) (p : Option Addr) (zs : List Int) (hreach : zs.length * 8 ≤ 140737488355328) (w : World) (hBs : Bs < w.heap.size) (hc : w.cell? ⟨Bs, 0, none⟩ = some (.slice p zs.length cap)) (hI : Fl w (· < w.heap.size) p (zs.map encI)) :
    Calls Try.prog 49 #[.func (.func 53) #[] #[.pointer (some ⟨Bs, 0, none⟩)]] w fun e w' => ∃ v, e = .returned v ∧ w'.ownsRow w.heap.size 3 1 v zs.length (zs.map encI) ∧ Below w.heap.size w w' := by
  have H : Hid (Calls _ _ _ w _) := (callsIn_wide (n := 4)).1 (apvals Bs cap p zs hreach w hBs hc hI)
  clear hI hc hreach
  go_enter Try.func49, Try.ntmps49
  go_wp2_with (go_at_call 54; refine H.out.mono ?_; rintro e w' ⟨v, rfl, hrow, hb⟩)
  go_ret
  exact ⟨v, rfl, hrow, hb⟩

theorem sort_some (blk off cap : Nat) (ss : List Int) (W : World) (hH : Sort.Holds (Value.int .i64) W blk off ss.toArray) (hblk : blk < W.heap.size) (hsz : ss.length < 4611686018427387904) :
    Calls Try.prog 50 #[.slice (some ⟨blk, off, none⟩) ss.length cap] W fun e w' => e = .returned (.tuple #[]) ∧ ∃ n os, w' = Sort.grow (Sort.putRow (Value.int .i64) (Sort.ahead W n) blk off (ss.mergeSort fun x y => decide (x ≤ y)).toArray) os := AnyM.slices_Sort_int Try.sortA blk off cap ss W hH hblk hsz
theorem sort_none (p : Option Addr) (cap : Nat) (W : World) : Calls Try.prog 50 #[.slice p 0 cap] W fun e w' => e = .returned (.tuple #[]) ∧ w' = W := AnyM.slices_Sort_int_none Try.sortA p cap W

set_option maxHeartbeats 800000 in
theorem sorted_vals (Bs cap : Nat) (p : Option Addr) (zs : List Int) (hreach : zs.length * 8 ≤ 140737488355328) (w : World) (hBs : Bs < w.heap.size) (hc : w.cell? ⟨Bs, 0, none⟩ = some (.slice p zs.length cap)) (hI : Fl w (· < w.heap.size) p (zs.map encI)) :
    Calls Try.prog 43 #[.func (.func 53) #[] #[.pointer (some ⟨Bs, 0, none⟩)]] w fun e w' => ∃ v, e = .returned v ∧ w'.ownsRow w.heap.size 3 1 v zs.length ((srt zs).map encI) ∧ Below w.heap.size w w' := by
  have H : Hid (Calls _ _ _ w _) := collect_vals Bs cap p zs hreach w hBs hc hI
  have HR : Hid (zs.length * 8 ≤ 140737488355328) := hreach
  clear hI hc hreach
  go_enter Try.func43, Try.ntmps43
  go_wp2_with (go_at_call 49; refine H.out.mono ?_; rintro e W ⟨v, rfl, hrow, hb⟩; go_frame)
  rcases hrow.2 with ⟨rfl, hz⟩ | ⟨gb, cap, cur, rfl, hbase, hgb, r1, r2, r3, r4⟩
  · have hss : zs = [] := List.eq_nil_of_length_eq_zero hz
    subst hss
    have HN : Hid (Calls _ _ _ W _) := sort_none none 0 W
    go_wp2_with (go_at_call 50; refine HN.out.mono ?_; rintro e w' ⟨rfl, rfl⟩)
    go_ret
    exact ⟨.slice none 0 0, rfl, by simpa [srt] using hrow, hb⟩
  · have hH : Sort.Holds encZ W gb 0 zs.toArray := holds_of_block_i hgb (by simpa using r4)
    have hgl : gb < W.heap.size := (Array.getElem?_eq_some_iff.1 hgb).1
    have HS : Hid (Calls _ _ _ W _) := sort_some gb 0 cap zs W hH hgl (by have := HR.out; omega)
    have HF : Hid (∀ n os, (Sort.grow (Sort.putRow encZ (Sort.ahead W n) gb 0 (srt zs).toArray) os).ownsRow w.heap.size 3 1 (.slice (some ⟨gb, 0, none⟩) zs.length cap) zs.length ((srt zs).map encZ)) := fun n os => ownsRow_sorted_i (srt_len zs) hbase hgb r1 r2 r3
    have HG : Hid (w.heap.size ≤ gb) := hbase
    clear hH hgb hrow r1 r2 r3 r4 hbase hgl
    go_wp2_with (go_at_call 50; refine HS.out.mono ?_; rintro e w' ⟨rfl, nn, os, rfl⟩)
    go_ret
    exact ⟨_, rfl, HF.out nn os, hb.grown (grownBy_sorted_i _) hb.size (fun j hj => by cases hj; exact HG.out)⟩

theorem kp_putRow (w : World) (q g off : Nat) (d : Array Int) : Kp (fun b => b = g) w (Sort.putRow (Value.int .i64) (Sort.ahead w q) g off d) := by
  refine ⟨rfl, rfl, rfl, by simp [Sort.putRow, Sort.mapBlock, Sort.ahead], fun k hk hne => ?_⟩
  have : ¬ g = k := fun e => hne e.symm
  simp [Sort.putRow, Sort.mapBlock, Sort.ahead, Array.getElem?_modify, this]
theorem compact_own (base n : Nat) (v : Value) (ss : List Int) (w : World) (h : w.ownsRow base 3 1 v n (ss.map encI)) (hs : ss.length ≤ 9223372036854775807) :
    Calls Try.prog 47 #[v] w fun e w' => ∃ q cap, e = .returned (.slice q (Lib.compact ss).length cap) ∧ Fl w' (fun b => base ≤ b ∧ b < w'.heap.size) q ((Lib.compact ss).map encI) ∧ Kp (fun b => base ≤ b) w w' := by
  have hl : ss.length = n := by have := h.1; simpa using this
  subst hl
  rcases h.2 with ⟨rfl, hz⟩ | ⟨gb, cap, cur, rfl, hbase, hgb, r1, r2, r3, r4⟩
  · have hss : ss = [] := List.eq_nil_of_length_eq_zero hz
    subst hss
    refine (AnyG.slices_Compact_int_empty Try.compactA none 0 w).mono fun e w' ⟨he, hw⟩ => ⟨none, 0, he, fun j u hu => ?_, hw ▸ Kp.refl _ _⟩
    simp [Lib.compact, Lib.compactUpTo] at hu
  · have hH : Sort.Holds encZ w gb 0 ss.toArray := holds_of_block_i hgb (by simpa using r4)
    have hgl : gb < w.heap.size := (Array.getElem?_eq_some_iff.1 hgb).1
    have hle : (Lib.compact ss).length ≤ ss.length := by
      unfold Lib.compact Lib.compactUpTo
      rw [List.length_map]
      exact Nat.le_trans (List.length_filter_le _ _) (by simp)
    refine (AnyG.slices_Compact_int Try.compactA gb 0 cap ss w hH hs r1).mono fun e w' ⟨he, q, hw⟩ => ⟨_, _, he, fun j u hu => ⟨gb, 0, rfl, ⟨hbase, ?_⟩, ?_⟩, ?_⟩
    · have := (kp_putRow w q gb 0 (Lib.compact ss ++ List.replicate (ss.length - (Lib.compact ss).length) 0).toArray).size
      rw [hw]
      exact Nat.lt_of_lt_of_le hgl this
    · have hj : j < (Lib.compact ss).length := by have := (List.getElem?_eq_some_iff.1 hu).1; simpa using this
      have := (Sort.holds_putRow encZ _ gb 0 ss.toArray (Lib.compact ss ++ List.replicate (ss.length - (Lib.compact ss).length) 0).toArray (Sort.holds_ahead encZ w q gb 0 ss.toArray hH) (by simp; omega) j (by simp; omega)).1
      rw [hw, this, getElem!_pos _ j (by simp; omega)]
      rw [List.getElem?_map, List.getElem?_eq_getElem hj] at hu
      injection hu with hu
      rw [← hu]
      simp [List.getElem_append_left hj]
    · rw [hw]
      exact (kp_putRow w q gb 0 _).mono (fun b _ e => by rw [e]; exact hbase)

/-- are a number's node among them -/
def hasN (pr : List Bool) (n : Int) : Bool := decide (0 ≤ n) && pr.getD n.toNat false
abbrev bools (pr : List Bool) : List Value := pr.map Value.bool
theorem hasN_neg {pr : List Bool} {n : Int} (h : ¬ 0 ≤ n) : hasN pr n = false := by unfold hasN; rw [decide_eq_false h]; rfl
theorem hasN_big {pr : List Bool} {n : Int} (hp : pr.length = 16) (h : ¬ n < 16) : hasN pr n = false := by
  unfold hasN
  rw [List.getD_eq_getElem?_getD, List.getElem?_eq_none (by omega)]
  simp
set_option maxRecDepth 100000 in
theorem isNode_ok (n : Int) (w : World) : Calls Try.prog 34 #[.int .i64 n] w fun e w' => e = .returned (.bool (decide (0 ≤ n) && decide (n < 16))) ∧ w' = w := by
  by_cases h0 : 0 ≤ n
  · by_cases h1 : n < 16
    · go_enter Try.func34, Try.ntmps34
      go_wp2
      go_ret
      exact ⟨by rw [decide_eq_true (show 0 ≤ n by omega), decide_eq_true (show n < 16 by omega)]; rfl, rfl⟩
    · go_enter Try.func34, Try.ntmps34
      go_wp2
      go_ret
      exact ⟨by rw [decide_eq_false (show ¬ n < 16 by omega)]; rfl, rfl⟩
  · go_enter Try.func34, Try.ntmps34
    go_wp2
    go_ret
    exact ⟨by have : ¬ 0 ≤ n := by omega
              rw [decide_eq_false this]; rfl, rfl⟩

set_option maxRecDepth 100000 in
set_option maxHeartbeats 800000 in
theorem nhas_ok (pr : List Bool) (hp : pr.length = 16) (n : Int) (w : World) : Calls Try.prog 35 #[.agg (bools pr).toArray, .int .i64 n] w fun e w' => e = .returned (.bool (hasN pr n)) ∧ Kp (fun _ => False) w w' := by
  have HI : Hid (∀ u, Calls _ _ _ u _) := isNode_ok n
  by_cases h0 : 0 ≤ n
  · by_cases h1 : n < 16
    · obtain ⟨k, rfl⟩ : ∃ k : Nat, n = (k : Int) := ⟨n.toNat, by omega⟩
      have hk : k < 16 := by omega
      rw [decide_eq_true h0, decide_eq_true h1] at HI
      have hcell : (w.alloc (.cells (bools pr).toArray 61)).cell? ⟨w.heap.size, k, none⟩ = some (.bool (hasN pr k)) := (Lv.new w (bools pr).toArray 61).cell (by
        show ((bools pr).toArray.toList)[k]? = _
        rw [List.getElem?_map, List.getElem?_eq_getElem (by omega)]
        unfold hasN
        rw [decide_eq_true h0, Int.toNat_natCast, List.getD_eq_getElem?_getD, List.getElem?_eq_getElem (by omega)]
        rfl)
      obtain ⟨bv, hbv⟩ : ∃ bv, bv = hasN pr k := ⟨_, rfl⟩
      rw [← hbv] at hcell ⊢
      clear hp h0 hbv
      go_enter Try.func35, Try.ntmps35
      go_wp2_with (go_at_call 34; refine (HI.out _).mono ?_; rintro e w' ⟨rfl, rfl⟩)
      go_ret
      exact ⟨rfl, (Kp.refl _ _).alloc _⟩
    · rw [decide_eq_true h0, decide_eq_false h1] at HI
      rw [hasN_big hp h1]
      go_enter Try.func35, Try.ntmps35
      go_wp2_with (go_at_call 34; refine (HI.out _).mono ?_; rintro e w' ⟨rfl, rfl⟩)
      go_ret
      exact ⟨rfl, (Kp.refl _ _).alloc _⟩
  · rw [decide_eq_false h0] at HI
    rw [hasN_neg h0]
    go_enter Try.func35, Try.ntmps35
    go_wp2_with (go_at_call 34; refine (HI.out _).mono ?_; rintro e w' ⟨rfl, rfl⟩)
    go_ret
    exact ⟨rfl, (Kp.refl _ _).alloc _⟩

/-- a majority of the numbers -/
def maj (pr : List Bool) (zs : List Int) : Bool := decide ((each zs).length < 2 * (each zs).countP (hasN pr))
set_option maxRecDepth 100000 in
set_option maxHeartbeats 1600000 in
theorem majority_ok (pr : List Bool) (hp : pr.length = 16) (p : Option Addr) (cap : Nat) (zs : List Int) (w : World) (hI : Fl w (· < w.heap.size) p (zs.map encI)) (hreach : zs.length * 8 ≤ 140737488355328) :
    Calls Try.prog 41 #[.agg (bools pr).toArray, .slice p zs.length cap] w fun e w' => e = .returned (.bool (maj pr zs)) ∧ Kp (fun _ => False) w w' := by
  have HV : Hid (∀ u, Calls _ _ _ u _) := values_ok p zs.length cap
  have HH : Hid (∀ n u, Calls _ _ _ u _) := nhas_ok pr hp
  obtain ⟨bl, hbl⟩ : ∃ bl, bl = (bools pr).toArray := ⟨_, rfl⟩
  have HBL : Hid (bl = (bools pr).toArray ∧ bl.size = 16) := ⟨hbl, by rw [hbl]; simp [hp]⟩
  rw [← hbl] at HH ⊢
  obtain ⟨ml, hml⟩ : ∃ ml, ml = maj pr zs := ⟨_, rfl⟩
  have HML : Hid (ml = maj pr zs) := hml
  rw [← hml]
  have HF : Hid (Fl w (· < w.heap.size) p (zs.map encI)) := hI
  have HR : Hid (zs.length * 8 ≤ 140737488355328) := hreach
  obtain ⟨L, hL⟩ : ∃ L, L = zs.length := ⟨_, rfl⟩
  have HL : Hid (L = zs.length) := hL
  rw [← hL] at HV ⊢
  clear hbl hml hI hreach hp hL
  go_enter Try.func41, Try.ntmps41
  go_wp2_with fail
  obtain ⟨u, hu⟩ : ∃ x, x = w.alloc (.cells bl 61) := ⟨_, rfl⟩
  rw [← hu]
  have HLB : Hid (Lv u w.heap.size bl.toList) := by rw [hu]; exact Lv.new w _ _
  have k0 : Kp (fun _ => False) w u := by rw [hu]; exact (Kp.refl _ _).alloc _
  clear hu
  obtain ⟨g, hg⟩ : ∃ g, g = w.heap.size := ⟨_, rfl⟩
  rw [← hg] at HLB ⊢
  have HG : Hid (w.heap.size ≤ g ∧ g < u.heap.size) := ⟨by omega, HLB.out.lt (by rw [Array.length_toList, HBL.out.2]; decide)⟩
  clear hg
  refine (HV.out u).mono ?_
  rintro e u1 ⟨rfl, hu1⟩
  have k1 : Kp (fun _ => False) u u1 := by rw [hu1]; exact (Kp.refl _ _).alloc _
  have HS : Hid (Calls Try.prog 43 #[.func (.func 53) #[] #[.pointer (some ⟨u.heap.size, 0, none⟩)]] u1 fun e w' => ∃ v, e = .returned v ∧ w'.ownsRow u1.heap.size 3 1 v zs.length ((srt zs).map encI) ∧ Below u1.heap.size u1 w') := by
    have kk := k0.trans k1 (fun _ _ e => e)
    refine sorted_vals u.heap.size cap p zs HR.out u1 ?_ ?_ ((HF.out.keep kk (fun _ _ => id)).mono (fun b hb => Nat.lt_of_lt_of_le hb kk.size))
    · rw [hu1]; simp
    · rw [hu1]
      have := (Lv.new u #[.slice p L cap] 23).cell (j := 0) rfl
      rw [HL.out] at this
      rw [HL.out]
      exact this
  clear hu1 HV
  go_wp2_with fail
  refine HS.out.mono ?_
  rintro e u2 ⟨v, rfl, hrow, hb2⟩
  have k2 : Kp (fun _ => False) u1 u2 := Kp.of_below hb2
  have HC : Hid (Calls _ _ _ u2 _) := compact_own u1.heap.size zs.length v (srt zs) u2 hrow (by rw [srt_len]; have := HR.out; omega)
  clear HS hrow hb2
  go_wp2_with fail
  refine HC.out.mono ?_
  rintro e u3 ⟨q, cq, rfl, hfl, k3⟩
  have k03 : Kp (fun _ => False) w u3 := ((k0.trans k1 (fun _ _ e => e)).trans k2 (fun _ _ e => e)).trans k3 (fun b hb e => by have := k0.size; have := k1.size; omega)
  have HL3 : Hid (Lv u3 g bl.toList) := ((HLB.out.keep k1 id).keep k2 id).keep k3 (fun e => by have := HG.out; have := k1.size; omega)
  obtain ⟨es, hes⟩ : ∃ es, es = each zs := ⟨_, rfl⟩
  have hes' : Lib.compact (srt zs) = es := hes.symm
  rw [hes'] at hfl ⊢
  have HE : Hid (Fl u3 (fun b => u1.heap.size ≤ b ∧ b < u3.heap.size) q (es.map encI)) := hfl
  have HES : Hid (es = each zs) := hes
  obtain ⟨N, hN⟩ : ∃ N, N = es.length := ⟨_, rfl⟩
  have HN : Hid (N = es.length ∧ N * 8 ≤ 140737488355328) := ⟨hN, by rw [hN, hes]; have := each_len zs; have := HR.out; omega⟩
  rw [← hN]
  clear hN hes hes' hfl HC HLB k1 k2 k3 k0
  have hN9 : (N : Int) ≤ 17592186044416 := by have := HN.out.2; omega
  go_wp2
  go_loopg [6, 15] N (fun gk cv iv wr => ∃ (k c : Nat), k ≤ N ∧ gk = N - k ∧ iv = .int .i64 k ∧ cv = .int .i64 c ∧ Hid (c = (es.take k).countP (hasN pr)) ∧ Hid (c ≤ k) ∧ Kp (fun _ => False) u3 wr)
  case atStart => exact ⟨0, 0, by omega, rfl, rfl, rfl, by show _ = _; simp, Nat.le_refl _, Kp.refl _ _⟩
  case round =>
    obtain ⟨k, c, hk, rfl, rfl, rfl, hc, hck, kr⟩ := hrel
    by_cases hlt : (k : Int) < (N : Int)
    · have hkz : k < es.length := by rw [← HN.out.1]; omega
      obtain ⟨b, off, rfl, hb, hcl⟩ := HE.out k (encI es[k]) (by rw [List.getElem?_map, List.getElem?_eq_getElem hkz]; rfl)
      have hcx := kr.cellv hcl id
      obtain ⟨z, hz⟩ : ∃ z, z = es[k] := ⟨_, rfl⟩
      have HT : Hid (es.take (k + 1) = es.take k ++ [z]) := by rw [hz]; exact take_snoc hkz
      rw [← hz] at hcx
      have HLr : Hid (Lv wr g bl.toList) := HL3.out.keep kr id
      have HHz : Hid (∀ u, Calls _ _ _ u _) := HH.out z
      have HZ : Hid ((es.take (k + 1)).countP (hasN pr) = c + (if hasN pr z then 1 else 0)) := by
        show _ = _
        rw [HT.out, List.countP_append, ← hc.out, List.countP_singleton]
      obtain ⟨bz, hbz⟩ : ∃ bz, bz = hasN pr z := ⟨_, rfl⟩
      rw [← hbz] at HZ HHz
      clear hcl hz hbz hkz
      have hc9 : (c : Int) ≤ 17592186044416 := by have := hck.out; omega
      cases bz with
      | true =>
        go_wp2_with (first
          | (refine wpList_load_all rfl 61 _ rfl 16 g bl.toList rfl HLr.out ⟨_, Try.underlying61, rfl⟩ (by kernel_rfl) (by rw [Array.length_toList, HBL.out.2]) ?_; rw [Array.toArray_toList])
          | (go_at_call 35; refine (HHz.out _).mono ?_; rintro e w4 ⟨rfl, k4⟩))
        go_roundg (N - (k + 1))
        case rel => exact ⟨k + 1, c + 1, by omega, rfl, by go_num, by go_num, HZ.out.symm, by show _ ≤ _; have := hck.out; omega, kr.trans k4 (fun _ _ e => e)⟩
        case measure => omega
      | false =>
        go_wp2_with (first
          | (refine wpList_load_all rfl 61 _ rfl 16 g bl.toList rfl HLr.out ⟨_, Try.underlying61, rfl⟩ (by kernel_rfl) (by rw [Array.length_toList, HBL.out.2]) ?_; rw [Array.toArray_toList])
          | (go_at_call 35; refine (HHz.out _).mono ?_; rintro e w4 ⟨rfl, k4⟩))
        go_roundg (N - (k + 1))
        case rel => exact ⟨k + 1, c, by omega, rfl, by go_num, rfl, HZ.out.symm, by show _ ≤ _; have := hck.out; omega, kr.trans k4 (fun _ _ e => e)⟩
        case measure => omega
    · obtain rfl : k = N := by omega
      have hcN := hc.out
      rw [List.take_of_length_le (by have := HN.out.1; omega)] at hcN
      have hmj : ml = decide ((k : Int) - (c : Int) < (c : Int)) := by
        rw [HML.out]
        unfold maj
        rw [← HES.out, ← hcN, ← HN.out.1]
        by_cases h : k < 2 * c
        · rw [decide_eq_true h, decide_eq_true (by omega)]
        · rw [decide_eq_false h, decide_eq_false (by omega)]
      have hw1 : wrap64 ((k : Int) - (c : Int)) = (k : Int) - (c : Int) := by have := hck.out; unfold wrap64; omega
      have HMJ : Hid (ml = decide ((k : Int) - (c : Int) < (c : Int))) := hmj
      clear hmj hcN hc hN9
      go_wp2
      go_ret
      exact ⟨by rw [HMJ.out]; rfl, k03.trans kr (fun _ _ e => e)⟩
end Go.Proofs.Ytjpdbhkggcojaaa

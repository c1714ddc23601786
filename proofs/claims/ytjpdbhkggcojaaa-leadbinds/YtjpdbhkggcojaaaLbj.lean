/- What the walk of LeadBinds leans on. -/
import Derived.Test.YtjpdbhkggcojaaaEl
import Derived.Test.YtjpdbhkggcojaaaLch
namespace Go.Proofs.Ytjpdbhkggcojaaa
set_option linter.unusedVariables false
open Go.RowKit Go.Deep Go.Maps

theorem map_no_cell {w : World} {m q c : Nat} {T : Int → Option Value} (h : Mm w m q c T) (o : Nat) : w.cell? ⟨m, o, none⟩ = none := by
  obtain ⟨D, ⟨es, clock, hb, r⟩, h2⟩ := h
  simp [World.cell?, hb]
theorem Fl.notmap {Z : Nat → Prop} {w : World} {p : Option Addr} {cells : List Value} {m q c : Nat} {T : Int → Option Value} (h : Fl w Z p cells) (hm : Mm w m q c T) : Fl w (fun b => Z b ∧ b ≠ m) p cells := fun j u hu => by
  obtain ⟨b, o, e, hz, hc⟩ := h j u hu
  refine ⟨b, o, e, ⟨hz, fun eb => ?_⟩, hc⟩
  subst eb
  rw [map_no_cell hm] at hc
  cases hc
theorem Ni.notmap {Z : Nat → Prop} {w : World} {zs : List Int} {nv : Value} {m q c : Nat} {T : Int → Option Value} (h : Ni w Z zs nv) (hm : Mm w m q c T) : Ni w (fun b => Z b ∧ b ≠ m) zs nv := by
  obtain ⟨p, cap, e, hf, hn⟩ := h
  exact ⟨p, cap, e, hf.notmap hm, hn⟩
/-- another map is written -/
theorem Tr.keepM {w w' : World} {t mb mp qb qp cb cp : Nat} {bal frm nxt : Int} {pr : List Bool} {B : Int → Option (Vo × Value)} {O : Int → Option (Pq × Value)} {m q c : Nat} {T : Int → Option Value} (h : Tr w t mb mp qb qp cb cp bal frm nxt pr B O) (hm : Mm w m q c T) (k : Kp (fun b => b = m) w w') (h1 : t ≠ m) (h2 : mb ≠ m) (h3 : mp ≠ m) : Tr w' t mb mp qb qp cb cp bal frm nxt pr B O :=
  ⟨h.lv.keep k h1, h.len, h.b.keep k h2, h.o.keep k h3, h.ne, fun z x hx => (((h.nb z x hx).notmap hm).keep k (fun b hb e => hb.2 e)).mono (fun b hb => hb.1), fun z x hx => ⟨(((h.no z x hx).1.notmap hm).keep k (fun b hb e => hb.2 e)).mono (fun b hb => hb.1), (h.no z x hx).2⟩, h.pos⟩
/-- the numbers of what is proposed -/
def Wo (O : Int → Option (Pq × Value)) : Int → Option Value := fun z => (O z).map (fun x => .int .i64 x.1.c.id)
theorem wo_upd (O : Int → Option (Pq × Value)) (z : Int) (x : Pq × Value) : upd (Wo O) z (.int .i64 x.1.c.id) = Wo (updO O z x) := by
  funext y
  unfold upd Wo updO
  by_cases e : y = z
  · rw [if_pos e, if_pos e]; rfl
  · rw [if_neg e, if_neg e]
theorem uMI : Try.prog.underlying 53 = some (.map 3 3) := Try.underlying53
theorem zInt (w : World) : (zeroValue 3).run Try.prog w = .ok (.int .i64 0) w := by kernel_rfl
theorem szDl : (Try.prog.info? 38).map (·.size) = some 16 := by kernel_rfl
theorem dsDl : ∃ d, Try.prog.underlying 38 = some d ∧ d.isRow = true := ⟨_, Try.underlying38, rfl⟩
theorem key_range {w : World} {m q : Nat} {D : DataW Value} (h : w.ownsMap Try.prog 3 idR m q D) {z : Int} (hz : Maps.has D (.int .i64 z) = true) : -9223372036854775808 ≤ z ∧ z ≤ 9223372036854775807 := by
  obtain ⟨es, rfl, hp, _⟩ := h.entries intLaw
  obtain ⟨es', e, hko⟩ := h.keysOf
  obtain rfl : es = es' := by simpa using e
  rw [has_eq, List.any_eq_true] at hz
  obtain ⟨p, hp', hs⟩ := hz
  obtain ⟨v, hv⟩ := hko p hp'
  obtain ⟨x, hx1, hx, hwf⟩ := Maps.keyOf_i64 Try.underlying3 hv
  rw [hx] at hs
  have ea : x = z := by simpa [Lit.sameKey] using hs
  rw [ea] at hwf
  exact wf_range hwf
def dl0 : Dl := ⟨0, 0, 0, cs00, [], []⟩
theorem dc_one (x : Dl) {nv vv : Value} (h : nv.oneCell' = true) (h' : vv.oneCell' = true) : (dcell x nv vv).toArray.all (·.oneCell') = true := all_oneCell_toArray (fun v hv => by
  simp only [dcell, List.mem_cons, List.mem_append, List.not_mem_nil, or_false] at hv
  rcases hv with rfl | rfl | rfl | hv | rfl
  · rfl
  · rfl
  · rfl
  · rcases hv with rfl | rfl | rfl | rfl | rfl | rfl | rfl | rfl | rfl | rfl | rfl | rfl <;> first | rfl | exact h
  · exact h')
/-- a vote as the law makes it -/
def nrm (v : Vo) : Vo × Value := (⟨1 + ((mm 4 v.slot : Nat) : Int), ((mm 8 v.ballot : Nat) : Int), cid ((mm 8 v.ballot : Nat) : Int), []⟩, nil0)
/-- the ballots that bind -/
def bb (b : Int → Option Vo) : Int → Option Value := fun z => (b z).map (fun v => .int .i64 v.ballot)
def Idb (b : Int → Option Vo) : Prop := ∀ z v, b z = some v → v.c.id = v.ballot
/-- the state of the law -/
def Sb (w : World) (t mb mp m j : Nat) (D : Nat → Dl) : Prop := ∃ nxt pr B qb cb qm cm, Tr w t mb mp qb 0 cb 0 9 1 nxt pr B (fun _ => none) ∧ qb ≤ j * 1034834473200 ∧ 1 ≤ nxt ∧ Mm w m qm cm (bb (plainB B)) ∧ qm ≤ j * 1034834473200 ∧ Idb (plainB B) ∧ ∀ n : Nat, n < 16 → (hasN pr n = true ↔ ∃ i, i < j ∧ (D i).node = n)
theorem Sb.keep {w w' : World} {t mb mp m j : Nat} {D : Nat → Dl} (h : Sb w t mb mp m j D) (k : Kp (fun _ => False) w w') : Sb w' t mb mp m j D := by
  obtain ⟨nxt, pr, B, qb, cb, qm, cm, hT, h1, h2, hM, h3⟩ := h
  exact ⟨nxt, pr, B, qb, cb, qm, cm, hT.keep k, h1, h2, hM.keep k id, h3⟩
theorem Sb.lt {w : World} {t mb mp m j : Nat} {D : Nat → Dl} (h : Sb w t mb mp m j D) : t < w.heap.size ∧ mb < w.heap.size ∧ mp < w.heap.size ∧ m < w.heap.size := by
  obtain ⟨nxt, pr, B, qb, cb, qm, cm, hT, h1, h2, hM, h3⟩ := h
  exact ⟨hT.lt.1, hT.lt.2.1, hT.lt.2.2, hM.lt⟩
theorem sb_start {w : World} {t mb mp m : Nat} {D : Nat → Dl} (hT : Tr w t mb mp 0 0 0 0 9 1 1 (List.replicate 16 false) (fun _ => none) (fun _ => none)) (hM : Mm w m 0 0 (bb (fun _ => none))) : Sb w t mb mp m 0 D := by
  refine ⟨1, _, _, 0, 0, 0, 0, hT, by omega, by omega, hM, by omega, fun z v h => (by cases h), fun n hn => ⟨fun h => ?_, fun ⟨i, hi, _⟩ => absurd hi (Nat.not_lt_zero _)⟩⟩
  unfold hasN at h
  rw [List.getD_eq_getElem?_getD, List.getElem?_replicate] at h
  split at h <;> simp at h
theorem bb_skip {b : Int → Option Vo} {v : Vo} (h : ahead (b v.slot) v = true) : cntV b v = b := by unfold cntV; rw [if_pos h]
theorem bb_step {b : Int → Option Vo} {v : Vo} (h : ahead (b v.slot) v = false) : bb (cntV b v) = upd (bb b) v.slot (.int .i64 v.ballot) := by
  funext z
  unfold bb cntV upd
  rw [if_neg (by rw [h]; decide)]
  by_cases e : z = v.slot
  · rw [if_pos e, if_pos e]; rfl
  · rw [if_neg e, if_neg e]
theorem idb_step {b : Int → Option Vo} {v : Vo} (h : Idb b) (hv : v.c.id = v.ballot) : Idb (cntV b v) := by
  unfold cntV
  by_cases ha : ahead (b v.slot) v = true
  · rw [if_pos ha]; exact h
  · rw [if_neg ha]
    intro z x hx
    replace hx : (if z = v.slot then some v else b z) = some x := hx
    by_cases e : z = v.slot
    · rw [if_pos e] at hx
      injection hx with hx
      subst hx
      exact hv
    · rw [if_neg e] at hx
      exact h z x hx
theorem idb_cnts (frm : Int) : ∀ (l : List Vo) (b : Int → Option Vo) (n : Int), Idb b → (∀ v ∈ l, v.c.id = v.ballot) → Idb (cnts frm b n l).1
  | [], b, n, h, _ => h
  | v :: l, b, n, h, hl => by
    simp only [cnts]
    by_cases hf : frm ≤ v.slot
    · rw [if_pos hf]; exact idb_cnts frm l _ _ (idb_step h (hl v List.mem_cons_self)) (fun x hx => hl x (List.mem_cons_of_mem _ hx))
    · rw [if_neg hf]; exact idb_cnts frm l _ _ h (fun x hx => hl x (List.mem_cons_of_mem _ hx))
theorem cnts_nx (frm : Int) : ∀ (l : List Vo) (b : Int → Option Vo) (n : Int), n ≤ (cnts frm b n l).2
  | [], b, n => Int.le_refl _
  | v :: l, b, n => by
    simp only [cnts]
    by_cases hf : frm ≤ v.slot
    · rw [if_pos hf]
      have := cnts_nx frm l (cntV b v) (cntN b n v)
      have h2 : n ≤ cntN b n v := by unfold cntN; split <;> omega
      omega
    · rw [if_neg hf]; exact cnts_nx frm l _ _
theorem qsum {q j V : Nat} (h : q ≤ j * 1034834473200) (hj : j ≤ 16) (hV : V ≤ 1034834473200) : q + V < 4611686018427387904 :=
  Nat.lt_of_le_of_lt (Nat.add_le_add (Nat.le_trans h (Nat.mul_le_mul_right _ hj)) hV) (by decide)
theorem qnext {q q' j V : Nat} (h : q ≤ j * 1034834473200) (h' : q' ≤ q + V) (hV : V ≤ 1034834473200) : q' ≤ (j + 1) * 1034834473200 := by
  rw [Nat.add_mul, Nat.one_mul]
  exact Nat.le_trans h' (Nat.add_le_add h hV)
theorem vn_nrm (w : World) (Z : Nat → Prop) (l : List Vo) : Vn w Z (l.map nrm) := fun x hx => by
  obtain ⟨v, _, rfl⟩ := List.mem_map.1 hx
  exact ⟨none, 0, rfl, fun j u hu => (by simp [nrm] at hu), by simp [nrm]⟩
theorem nrm_slots (l : List Vo) : ∀ x ∈ l.map nrm, -9223372036854775808 ≤ x.1.slot ∧ x.1.slot ≤ 9223372036854775807 := fun x hx => by
  obtain ⟨v, _, rfl⟩ := List.mem_map.1 hx
  have := mm_lt 4 v.slot (by omega)
  show -9223372036854775808 ≤ 1 + ((mm 4 v.slot : Nat) : Int) ∧ 1 + ((mm 4 v.slot : Nat) : Int) ≤ 9223372036854775807
  omega
theorem nrm_one (l : List Vo) : ∀ x ∈ l.map nrm, 1 ≤ x.1.slot := fun x hx => by
  obtain ⟨v, _, rfl⟩ := List.mem_map.1 hx
  show 1 ≤ 1 + ((mm 4 v.slot : Nat) : Int)
  omega
theorem nrm_ids (l : List Vo) : ∀ v ∈ (l.map nrm).map (·.1), v.c.id = v.ballot := fun v hv => by
  obtain ⟨x, hx, rfl⟩ := List.mem_map.1 hv
  obtain ⟨u, _, rfl⟩ := List.mem_map.1 hx
  rfl
theorem ahead_some {b : Option Vo} {v : Vo} (h : ahead b v = true) : ∃ x, b = some x ∧ v.ballot ≤ x.ballot := by
  cases b with
  | none => cases h
  | some x => exact ⟨x, rfl, of_decide_eq_true h⟩
theorem ahead_not {b : Int → Option Vo} {s : Int} {v x : Vo} (hb : b s = some x) (h : ahead (b s) v = false) : x.ballot < v.ballot := by
  rw [hb] at h
  have := of_decide_eq_false h
  omega
theorem le_next {q j : Nat} (h : q ≤ j * 1034834473200) : q ≤ (j + 1) * 1034834473200 := Nat.le_trans h (Nat.mul_le_mul_right _ (Nat.le_succ _))
theorem sb_old {D : Nat → Dl} {pr : List Bool} {j : Nat} (h : ∀ n : Nat, n < 16 → (hasN pr n = true ↔ ∃ i, i < j ∧ (D i).node = n)) (hj : ∀ n : Nat, n < 16 → (D j).node = n → hasN pr n = true) : ∀ n : Nat, n < 16 → (hasN pr n = true ↔ ∃ i, i < j + 1 ∧ (D i).node = n) := fun n hn =>
  ⟨fun hh => by obtain ⟨i, hi, e⟩ := (h n hn).1 hh; exact ⟨i, by omega, e⟩, fun ⟨i, hi, e⟩ => by
    by_cases ei : i = j
    · subst ei; exact hj n hn e
    · exact (h n hn).2 ⟨i, by omega, e⟩⟩
theorem sb_new {D : Nat → Dl} {pr : List Bool} {j k : Nat} (hl : pr.length = 16) (hk : k < 16) (h : ∀ n : Nat, n < 16 → (hasN pr n = true ↔ ∃ i, i < j ∧ (D i).node = n)) (hj : (D j).node = (k : Int)) : ∀ n : Nat, n < 16 → (hasN (pr.set k true) n = true ↔ ∃ i, i < j + 1 ∧ (D i).node = n) := fun n hn => by
  rw [hasN_set pr hl k hk]
  constructor
  · intro hh
    rcases Bool.or_eq_true_iff.1 hh with hh | hh
    · obtain ⟨i, hi, e⟩ := (h n hn).1 hh
      exact ⟨i, by omega, e⟩
    · exact ⟨j, by omega, by rw [hj, of_decide_eq_true hh]⟩
  · rintro ⟨i, hi, e⟩
    by_cases ei : i = j
    · subst ei
      rw [hj] at e
      rw [decide_eq_true e.symm, Bool.or_true]
    · rw [(h n hn).2 ⟨i, by omega, e⟩]; rfl
theorem slice_do (p : Option Addr) (n c r : Nat) (hr : r ≤ c) (w : World) :
    (Instr.slice 22 (.slice p n c) none (some (.int .i64 (r : Int))) none).run Try.prog w = .ok (.slice p r c) w := by
  have hi0 : (Try.prog.info? 38).map (fun i => i.size) = some 16 := szDl
  obtain ⟨i, hi, hz⟩ := Option.map_eq_some_iff.1 hi0
  have h2 : (0 : Int) ≤ r ∧ (r : Int) ≤ (c : Int) := by omega
  simp [Instr.slice, Instr.sliceBounds, Instr.sliceBound, asIntOf, run_underlying Try.underlying22, sizeOf, typeInfo, hi, hr]
  cases p <;> simp [Addr.add]
/-- none of the first k has the node -/
def frb (D : Nat → Dl) (n : Int) (k : Nat) : Bool := (List.range k).all (fun i => (D i).node != n)
theorem frb_succ (D : Nat → Dl) (n : Int) (k : Nat) : frb D n (k + 1) = (frb D n k && ((D k).node != n)) := by
  unfold frb
  rw [List.range_succ, List.all_append]
  simp
theorem frb_iff (D : Nat → Dl) (n : Int) (k : Nat) : frb D n k = true ↔ ¬ ∃ i, i < k ∧ (D i).node = n := by
  unfold frb
  rw [List.all_eq_true]
  constructor
  · rintro h ⟨i, hi, e⟩
    have := h i (List.mem_range.2 hi)
    simp [e] at this
  · intro h i hi
    have := List.mem_range.1 hi
    simp only [bne_iff_ne, ne_eq]
    exact fun e => h ⟨i, this, e⟩
end Go.Proofs.Ytjpdbhkggcojaaa

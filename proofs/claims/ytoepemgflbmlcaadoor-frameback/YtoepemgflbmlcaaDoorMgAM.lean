/- Texts of this proof, joined: Fw, Fu. -/
import Derived.Test.YtoepemgflbmlcaaDoorMgAI
import Derived.RegionTactic
import Derived.BigRegion
/- The walks of frame.Wrap and of the reference's Wrap. -/
namespace Go.Proofs.YtoepemgflbmlcaaDoor
open Go.RowKit Go.Deep

theorem make_cap (n : Nat) (hn : n ≤ 1000000) (w : World) : (Instr.makeSlice 28 (.int .i64 0) (.int .i64 (3 + (n : Int) + 4))).run Tryd.prog w = .ok (.slice (some ⟨w.heap.size, 0, none⟩) 0 (3 + n + 4)) (w.alloc (.cells (madeCells #[.int .u8 0] (3 + n + 4)) 5)) := by
  obtain ⟨i, hi, hz⟩ := Option.map_eq_some_iff.1 info5
  simp only [Prod.mk.injEq] at hz
  obtain ⟨hz, hs, hb⟩ := hz
  have hr := run_make (P := Tryd.prog) w 28 5 i (.int .u8 0) Tryd.underlying28 hi hz .i64 .i64 0 (3 + (n : Int) + 4) (by omega) (by omega) (by rw [hb]; omega) (by omega)
  rw [hr]
  have e : (3 + (n : Int) + 4).toNat = 3 + n + 4 := by omega
  simp only [e, hs]
  congr 4
  simp
theorem rb_new (w : World) (xs : List Nat) (hx : ∀ x ∈ xs, x < 256) : Rb (w.alloc (.cells (vl xs).toArray 5)) (some ⟨w.heap.size, 0, none⟩) xs.length xs :=
  ⟨rfl, hx, fun j hj => ⟨w.heap.size, 0, rfl, by
    have := vl_get hj
    have hh : (w.alloc (.cells (vl xs).toArray 5)).heap[w.heap.size]? = _ := heap_alloc_new w _
    rw [Nat.zero_add]
    unfold World.cell?
    simp only [hh]
    simpa using this⟩⟩

/-- what stands ahead of the sum -/
def hdr (xs : List Nat) : List Nat := 163 :: xs.length / 256 :: xs.length % 256 :: xs
/-- bytes in a frame -/
def frm (xs : List Nat) : List Nat := hdr xs ++ big (Crc.sum (hdr xs)) 4
theorem hdr_byte {xs : List Nat} (h : ∀ x ∈ xs, x < 256) (hl : xs.length ≤ 65535) : ∀ x ∈ hdr xs, x < 256 := fun x hx => by
  simp only [hdr, List.mem_cons] at hx
  rcases hx with rfl | rfl | rfl | hx
  · omega
  · omega
  · omega
  · exact h x hx
theorem frm_byte {xs : List Nat} (h : ∀ x ∈ xs, x < 256) (hl : xs.length ≤ 65535) : ∀ x ∈ frm xs, x < 256 := fun x hx => by
  rcases List.mem_append.1 hx with hx | hx
  · exact hdr_byte h hl x hx
  · exact big_byte _ _ x hx
theorem hdr_length (xs : List Nat) : (hdr xs).length = xs.length + 3 := by simp [hdr]
theorem frm_length (xs : List Nat) : (frm xs).length = xs.length + 7 := by simp [frm, hdr, big_length]
theorem rb_three (w : World) (n : Nat) (hn : n ≤ 65535) : Rb (w.alloc (.cells #[.int .u8 163, .int .u8 ((n : Int) / 256), .int .u8 ((n : Int) % 256)] 5)) (some ⟨w.heap.size, 0, none⟩) 3 [163, n / 256, n % 256] := by
  have := rb_new w [163, n / 256, n % 256] (fun x hx => by simp only [List.mem_cons, List.not_mem_nil, or_false] at hx; omega)
  simpa [vl] using this
theorem big4 (s : Nat) : big s 4 = [s / 16777216 % 256, s / 65536 % 256, s / 256 % 256, s % 256] := by
  unfold big
  simp [List.range_succ, List.range_zero]
theorem rb_four (w : World) (s : Nat) (hs : s < 4294967296) : Rb (w.alloc (.cells #[.int .u8 ((s : Int) / 16777216), .int .u8 ((s : Int) / 65536 % 256), .int .u8 ((s : Int) / 256 % 256), .int .u8 ((s : Int) % 256)] 5)) (some ⟨w.heap.size, 0, none⟩) 4 (big s 4) := by
  have := rb_new w (big s 4) (big_byte _ _)
  rw [big_length] at this
  rw [big4] at this ⊢
  have e : (s : Int) / 16777216 % 256 = (s : Int) / 16777216 := by omega
  simpa [vl, e] using this

set_option maxRecDepth 100000 in
set_option maxHeartbeats 400000 in
theorem wrap_yes (p : Option Addr) (n c : Nat) (xs : List Nat) (w : World) (h : Rb w p n xs) (h1 : 1 ≤ (n : Int)) (h2 : (n : Int) ≤ 65535) (ht : Turns w) :
    Calls Tryd.prog 20 #[.slice p n c] w fun e w' => ∃ v, e = .returned (.tuple #[v, .int .i64 0]) ∧ Kp (fun _ => False) w w' ∧ Ow w' w.heap.size v (frm xs) := by
  have hmk := make_cap n (by omega)
  have HO : Hid (∀ o, Ow ((w.alloc (.cells (madeCells #[.int .u8 0] (3 + n + 4)) 5)).alloc o) w.heap.size (.slice (some ⟨w.heap.size, 0, none⟩) 0 (3 + n + 4)) []) := fun o => World.ownsRow.alloc (World.ownsRow_made w _ (3 + n + 4) (Nat.le_refl _) (by unfold maxLen; omega) (by simp [madeCells])) o
  go_enter Tryd.func20, Tryd.ntmps20
  go_wp2_with (first
    | (at_builtin; refine wpList_append_bytes _ rfl _ _ rfl w.heap.size (.slice (some ⟨w.heap.size, 0, none⟩) 0 (3 + n + 4)) [] rfl (HO.out _) (some ⟨w.heap.size + 1, 0, none⟩) 3 3 [163, n / 256, n % 256] rfl (by have := rb_three (w.alloc (.cells (madeCells #[.int .u8 0] (3 + n + 4)) 5)) n (by omega); simpa using this) (by simp) (by simp; omega) ?_
       intro v3 w3 ho3 hk3 hb3
       have k3 : Kp (fun _ => False) w w3 := Kp.app (((Kp.refl _ _).alloc _).alloc _) (HO.out _) hk3
       have r3 := h.keep0 k3
       have z3 := k3.size)
    | (at_builtin; refine wpList_append_bytes _ rfl _ _ rfl w.heap.size v3 _ rfl ho3 p n c xs rfl r3 (by simp; omega) z3 ?_
       intro v4 w4 ho4 hk4 hb4
       have k4 : Kp (fun _ => False) w w4 := Kp.app k3 ho3 hk4))
  have e4 : [] ++ [163, n / 256, n % 256] ++ xs = hdr xs := by simp [hdr, h.len]
  have hby := hdr_byte h.byte (by rw [h.len]; omega)
  rw [e4] at ho4
  obtain ⟨p4, c4, rfl, hc4, r4, _⟩ := ho4.rb hby
  have hl4 : (hdr xs).length = n + 3 := by rw [hdr_length, h.len]
  refine (sum_any p4 _ c4 _ _ r4 (by rw [hl4]; omega) (ht.keep0 k4)).mono ?_
  rintro e w' ⟨rfl, rfl⟩
  have HL : Hid (_ = _) := hl4
  clear hl4
  have hs := Crc.sum_lt hby
  have HF : Hid (frm xs = hdr xs ++ big (Crc.sum (hdr xs)) 4) := rfl
  obtain ⟨s, hse⟩ : ∃ s, s = Crc.sum (hdr xs) := ⟨_, rfl⟩
  rw [← hse] at hs HF ⊢
  clear hse
  have HA : Hid (∀ o, Ow (w'.alloc o) w.heap.size (.slice p4 (hdr xs).length c4) (hdr xs)) := fun o => World.ownsRow.alloc ho4 o
  have z4 := k4.size
  clear ho4 r4 hk4 hb4 ho3 hk3 hb3
  go_wp2_with (at_builtin; refine wpList_append_bytes _ rfl _ _ rfl w.heap.size _ (hdr xs) rfl (HA.out _) (some ⟨w'.heap.size, 0, none⟩) 4 4 (big s 4) rfl (rb_four w' s (by omega)) (by have := HL.out; omega) (by simp; omega) ?_; intro v5 w5 ho5 hk5 hb5)
  go_ret2
  rw [← HF.out] at ho5
  exact ⟨_, rfl, Kp.app (k4.alloc _) (HA.out _) hk5, ho5⟩

set_option maxRecDepth 100000 in
set_option maxHeartbeats 400000 in
theorem wrap_no (p : Option Addr) (n c : Nat) (w : World) (h : (n : Int) < 1 ∨ 65535 < (n : Int)) :
    Calls Tryd.prog 20 #[.slice p n c] w fun e w' => e = .returned (.tuple #[.slice none 0 0, .int .i64 1]) ∧ w' = w := by
  rcases h with h | h
  · go_enter Tryd.func20, Tryd.ntmps20
    go_wp2
    go_ret2
    exact ⟨rfl, rfl⟩
  · go_enter Tryd.func20, Tryd.ntmps20
    go_wp2
    go_ret2
    exact ⟨rfl, rfl⟩

set_option maxRecDepth 100000 in
set_option maxHeartbeats 400000 in
theorem refWrap_no (p : Option Addr) (n c : Nat) (w : World) (h : (n : Int) < 1 ∨ 65535 < (n : Int)) :
    Calls Tryd.prog 35 #[.slice p n c] w fun e w' => e = .returned (.tuple #[.slice none 0 0, .int .i64 1]) ∧ w' = w := by
  rcases h with h | h
  · go_enter Tryd.func35, Tryd.ntmps35
    go_wp2
    go_ret2
    exact ⟨rfl, rfl⟩
  · go_enter Tryd.func35, Tryd.ntmps35
    go_wp2
    go_ret2
    exact ⟨rfl, rfl⟩

theorem big2 (n : Nat) (h : n ≤ 65535) : big n 2 = [n / 256, n % 256] := by
  unfold big
  simp [List.range_succ, List.range_zero]
  omega

set_option maxRecDepth 100000 in
set_option maxHeartbeats 400000 in
theorem refWrap_yes (p : Option Addr) (n c : Nat) (xs : List Nat) (w : World) (h : Rb w p n xs) (h1 : 1 ≤ (n : Int)) (h2 : (n : Int) ≤ 65535) :
    Calls Tryd.prog 35 #[.slice p n c] w fun e w' => ∃ v, e = .returned (.tuple #[v, .int .i64 0]) ∧ Kp (fun _ => False) w w' ∧ Ow w' w.heap.size v (frm xs) := by
  have hby := hdr_byte h.byte (by rw [h.len]; omega)
  have HL : Hid ((hdr xs).length = n + 3) := by show _ = _; rw [hdr_length, h.len]
  have HE : Hid ([163] ++ big n 2 ++ xs = hdr xs) := by show _ = _; rw [big2 n (by omega)]; simp [hdr, h.len]
  have HO : Hid (Ow (w.alloc (.cells #[.int .u8 163] 5)) w.heap.size (.slice (some ⟨w.heap.size, 0, none⟩) 1 1) [163]) := World.ownsRow_lit w #[.int .u8 163] 1 (Nat.le_refl _) (by unfold maxLen; omega) rfl
  go_enter Tryd.func35, Tryd.ntmps35
  go_wp2_with fail
  refine (big_any n 2 _ (by omega) (by omega)).mono ?_
  rintro e w1 ⟨rfl, k1, z1, ho1⟩
  have k1' : Kp (fun _ => False) w w1 := ((Kp.refl _ _).alloc _).trans k1 (fun _ _ e => e)
  have HO1 : Hid (Ow w1 w.heap.size (.slice (some ⟨w.heap.size, 0, none⟩) 1 1) [163]) := ownsRow_keep HO.out k1 (fun _ _ => id)
  obtain ⟨p1, c1, e1, _, r1, _⟩ := ho1.rb (big_byte n 2)
  have z1' := k1'.size
  rw [big_length] at r1
  injection e1 with e1 e2 e3
  subst e1
  clear e2 e3
  clear ho1 z1 HO
  have hw1 : (w.alloc (.cells #[.int .u8 163] 5)).heap.size = w.heap.size + 1 := by simp
  rw [hw1] at r1 ⊢
  clear hw1
  go_wp2_with (first
    | (at_builtin; refine wpList_append_bytes _ rfl _ _ rfl w.heap.size (.slice (some ⟨w.heap.size, 0, none⟩) 1 1) [163] rfl HO1.out (some ⟨w.heap.size + 1, 0, none⟩) 2 2 (big n 2) rfl r1 (by simp) z1' ?_
       intro v3 w3 ho3 hk3 hb3
       have k3 : Kp (fun _ => False) w w3 := Kp.app k1' HO1.out hk3
       have r3 := h.keep0 k3
       have z3 := k3.size)
    | (at_builtin; refine wpList_append_bytes _ rfl _ _ rfl w.heap.size v3 _ rfl ho3 p n c xs rfl r3 (by simp [big_length]; omega) z3 ?_
       intro v4 w4 ho4 hk4 hb4
       have k4 : Kp (fun _ => False) w w4 := Kp.app k3 ho3 hk4))
  rw [HE.out] at ho4
  obtain ⟨p4, c4, rfl, hc4, r4, _⟩ := ho4.rb hby
  refine (refSum_any p4 _ c4 _ _ r4 (by rw [HL.out]; omega)).mono ?_
  rintro e w' ⟨rfl, rfl⟩
  have hs := Crc.sum_lt hby
  have HF : Hid (frm xs = hdr xs ++ big (Crc.sum (hdr xs)) 4) := rfl
  obtain ⟨s, hse⟩ : ∃ s, s = Crc.sum (hdr xs) := ⟨_, rfl⟩
  rw [← hse] at hs HF ⊢
  clear hse
  clear r4 hk4 hb4 ho3 hk3 hb3
  go_wp2_with fail
  refine (big_any s 4 _ (by omega) (by omega)).mono ?_
  rintro e w5 ⟨rfl, k5, z5, ho5⟩
  have HA : Hid (Ow w5 w.heap.size (.slice p4 (hdr xs).length c4) (hdr xs)) := ownsRow_keep ho4 k5 (fun _ _ => id)
  obtain ⟨p5, c5, e5, _, r5, _⟩ := ho5.rb (big_byte s 4)
  rw [big_length] at r5
  injection e5 with e5 e6 e7
  subst e5
  clear e6 e7
  have k5' := k4.trans k5 (fun _ _ e => e)
  have z5' := k5'.size
  clear ho5 ho4 z5
  go_wp2_with (at_builtin; refine wpList_append_bytes _ rfl _ _ rfl w.heap.size _ (hdr xs) rfl HA.out (some ⟨w'.heap.size, 0, none⟩) 4 4 (big s 4) rfl r5 (by have := HL.out; omega) z5' ?_; intro v6 w6 ho6 hk6 hb6)
  go_ret2
  rw [← HF.out] at ho6
  exact ⟨_, rfl, Kp.app k5' HA.out hk6, ho6⟩

/-- what a frame tells: the bytes, or none; the error -/
def wrB (xs : List Nat) : List Nat := if 1 ≤ xs.length ∧ xs.length ≤ 65535 then frm xs else []
def wrE (xs : List Nat) : Nat := if 1 ≤ xs.length ∧ xs.length ≤ 65535 then 0 else 1
theorem wrB_byte {xs : List Nat} (h : ∀ x ∈ xs, x < 256) : ∀ x ∈ wrB xs, x < 256 := by
  unfold wrB
  split
  · exact frm_byte h (by omega)
  · intro x hx; cases hx
theorem wrap_any (p : Option Addr) (n c : Nat) (xs : List Nat) (w : World) (h : Rb w p n xs) (ht : Turns w) :
    Calls Tryd.prog 20 #[.slice p n c] w fun e w' => ∃ v, e = .returned (.tuple #[v, .int .i64 (wrE xs : Nat)]) ∧ Kp (fun _ => False) w w' ∧ Ow w' w.heap.size v (wrB xs) := by
  have hl := h.len
  by_cases h1 : 1 ≤ xs.length ∧ xs.length ≤ 65535
  · unfold wrE wrB
    rw [if_pos h1, if_pos h1]
    exact wrap_yes p n c xs w h (by omega) (by omega) ht
  · unfold wrE wrB
    rw [if_neg h1, if_neg h1]
    refine (wrap_no p n c w (by omega)).mono ?_
    rintro e w' ⟨rfl, rfl⟩
    exact ⟨_, rfl, Kp.refl _ _, World.ownsRow_nil _ _ _ _⟩
theorem refWrap_any (p : Option Addr) (n c : Nat) (xs : List Nat) (w : World) (h : Rb w p n xs) :
    Calls Tryd.prog 35 #[.slice p n c] w fun e w' => ∃ v, e = .returned (.tuple #[v, .int .i64 (wrE xs : Nat)]) ∧ Kp (fun _ => False) w w' ∧ Ow w' w.heap.size v (wrB xs) := by
  have hl := h.len
  by_cases h1 : 1 ≤ xs.length ∧ xs.length ≤ 65535
  · unfold wrE wrB
    rw [if_pos h1, if_pos h1]
    exact refWrap_yes p n c xs w h (by omega) (by omega)
  · unfold wrE wrB
    rw [if_neg h1, if_neg h1]
    refine (refWrap_no p n c w (by omega)).mono ?_
    rintro e w' ⟨rfl, rfl⟩
    exact ⟨_, rfl, Kp.refl _ _, World.ownsRow_nil _ _ _ _⟩
end Go.Proofs.YtoepemgflbmlcaaDoor

/- Slices of bytes; the walks of frame.highestFirst, look, Unwrap and of the reference's Unwrap. -/
namespace Go.Proofs.YtoepemgflbmlcaaDoor
open Go.RowKit Go.Deep

theorem slice_lh (p : Option Addr) (n c l r : Nat) (hl : l ≤ r) (hr : r ≤ c) (w : World) :
    (Instr.slice 28 (.slice p n c) (some (.int .i64 (l : Int))) (some (.int .i64 (r : Int))) none).run Tryd.prog w = .ok (.slice (if c = l then p else p.map (·.add (l * 1))) (r - l) (c - l)) w := by
  obtain ⟨i, hi, hz⟩ := Option.map_eq_some_iff.1 info5
  simp only [Prod.mk.injEq] at hz
  obtain ⟨hz, hs, hb⟩ := hz
  have h1 : (0 : Int) ≤ l ∧ (l : Int) ≤ (r : Int) := by omega
  have h2 : (0 : Int) ≤ r ∧ (r : Int) ≤ (c : Int) := by omega
  simp [Instr.slice, Instr.sliceBounds, Instr.sliceBound, asIntOf, run_underlying Tryd.underlying28, sizeOf, typeInfo, hi, hs, hl, hr]
theorem slice_h (p : Option Addr) (n c r : Nat) (hr : r ≤ c) (w : World) :
    (Instr.slice 28 (.slice p n c) none (some (.int .i64 (r : Int))) none).run Tryd.prog w = .ok (.slice (if c = 0 then p else p.map (·.add (0 * 1))) (r - 0) (c - 0)) w := by
  obtain ⟨i, hi, hz⟩ := Option.map_eq_some_iff.1 info5
  simp only [Prod.mk.injEq] at hz
  obtain ⟨hz, hs, hb⟩ := hz
  have h2 : (0 : Int) ≤ r ∧ (r : Int) ≤ (c : Int) := by omega
  simp [Instr.slice, Instr.sliceBounds, Instr.sliceBound, asIntOf, run_underlying Tryd.underlying28, sizeOf, typeInfo, hi, hr]
theorem slice_l (p : Option Addr) (n c l : Nat) (hl : l ≤ n) (w : World) :
    (Instr.slice 28 (.slice p n c) (some (.int .i64 (l : Int))) none none).run Tryd.prog w = .ok (.slice (if c = l then p else p.map (·.add (l * 1))) (n - l) (c - l)) w := by
  obtain ⟨i, hi, hz⟩ := Option.map_eq_some_iff.1 info5
  simp only [Prod.mk.injEq] at hz
  obtain ⟨hz, hs, hb⟩ := hz
  simp [Instr.slice, Instr.sliceBounds, Instr.sliceBound, asIntOf, run_underlying Tryd.underlying28, sizeOf, typeInfo, hi, hs, hl]

theorem slice_first (p : Option Addr) (n c r : Nat) (hr : r ≤ c) (w : World) :
    (Instr.slice 28 (.slice p n c) none (some (.int .i64 (r : Int))) none).run Tryd.prog w = .ok (.slice p r c) w := by
  rw [slice_h p n c r hr w]
  cases p <;> simp [Addr.add]

/-- the number of bytes, the highest first -/
def hf (xs : List Nat) : Nat := xs.foldl (fun n x => n * 256 + x) 0
theorem hf_snoc (xs : List Nat) (x : Nat) : hf (xs ++ [x]) = hf xs * 256 + x := by simp [hf]
theorem hf_lt : ∀ (n : Nat) (xs : List Nat), xs.length = n → (∀ x ∈ xs, x < 256) → hf xs < 256 ^ n
  | 0, xs, h, _ => by rw [List.eq_nil_of_length_eq_zero h]; decide
  | n + 1, xs, h, hb => by
    obtain ⟨ys, y, rfl⟩ : ∃ ys y, xs = ys ++ [y] := ⟨xs.dropLast, xs.getLast (by intro e; subst e; simp at h), (List.dropLast_concat_getLast _).symm⟩
    have := hf_lt n ys (by simpa using h) (fun x hx => hb x (by simp [hx]))
    have hy := hb y (by simp)
    rw [hf_snoc, Nat.pow_succ]
    omega
theorem big_succ (n w : Nat) : big n (w + 1) = big (n / 256) w ++ [n % 256] := by
  unfold big
  rw [List.range_succ, List.map_append]
  congr 1
  · refine List.map_congr_left (fun j hj => ?_)
    have hj' := List.mem_range.1 hj
    rw [Nat.div_div_eq_div_mul, ← Nat.pow_succ', show w + 1 - 1 - j = w - 1 - j + 1 from by omega]
  · simp
theorem hf_big : ∀ (w n : Nat), n < 256 ^ w → hf (big n w) = n
  | 0, n, h => by have : n = 0 := by simpa using h
                  subst this; rfl
  | w + 1, n, h => by
    rw [big_succ, hf_snoc, hf_big w (n / 256) (by rw [Nat.pow_succ] at h; omega)]; omega
theorem big_hf : ∀ (w : Nat) (xs : List Nat), xs.length = w → (∀ x ∈ xs, x < 256) → big (hf xs) w = xs
  | 0, xs, h, _ => by rw [List.eq_nil_of_length_eq_zero h]; rfl
  | w + 1, xs, h, hb => by
    obtain ⟨ys, y, rfl⟩ : ∃ ys y, xs = ys ++ [y] := ⟨xs.dropLast, xs.getLast (by intro e; subst e; simp at h), (List.dropLast_concat_getLast _).symm⟩
    have hy := hb y (by simp)
    rw [hf_snoc, big_succ, show (hf ys * 256 + y) / 256 = hf ys from by omega, show (hf ys * 256 + y) % 256 = y from by omega, big_hf w ys (by simpa using h) (fun x hx => hb x (by simp [hx]))]
theorem hf_eq_iff {xs : List Nat} {s : Nat} (h4 : xs.length = 4) (hb : ∀ x ∈ xs, x < 256) (hs : s < 2 ^ 32) : hf xs = s ↔ xs = big s 4 := by
  constructor
  · rintro rfl; exact (big_hf 4 xs h4 hb).symm
  · rintro rfl; exact hf_big 4 s (by omega)

theorem u64_or_shift (n x : Nat) (hn : n < 256 ^ 7) (hx : x < 256) : bits .or .u64 (IntKind.u64.wrap ((n : Int) * 256)) ((x : Nat) : Int) = ((n * 256 + x : Nat) : Int) := by
  have e : IntKind.u64.wrap ((n : Int) * 256) = ((n * 256 : Nat) : Int) := by
    have : IntKind.u64.wrap ((n : Int) * 256) = ((n : Int) * 256) % 18446744073709551616 := by simp [IntKind.wrap, IntKind.bits, IntKind.signed]
    rw [this]; omega
  rw [e, u64_or_nat _ _ (by omega) (by omega)]
  congr 1
  have := Nat.two_pow_add_eq_or_of_lt (i := 8) (b := x) (by omega) n
  rw [Nat.mul_comm n 256, show (256 : Nat) = 2 ^ 8 from rfl, ← this]
theorem pow256 : ∀ k, k ≤ 7 → 256 ^ k ≤ 256 ^ 7 := fun k hk => Nat.pow_le_pow_right (by omega) hk

set_option maxRecDepth 100000 in
set_option maxHeartbeats 400000 in
theorem highest_any (p : Option Addr) (n c : Nat) (xs : List Nat) (w : World) (h : Rb w p n xs) (hn : (n : Int) ≤ 8) :
    Calls Tryd.prog 64 #[.slice p n c] w fun e w' => e = .returned (.int .u64 ((hf xs : Nat) : Int)) ∧ w' = w := by
  go_enter Tryd.func64, Tryd.ntmps64
  go_wp2
  go_loopw [3, 8] (fun s i w' => ∃ k : Nat, k ≤ n ∧ i = .int .i64 k ∧ s = .int .u64 ((hf (xs.take k) : Nat) : Int) ∧ w' = w) (fun _ i _ => n - (intOf i).toNat)
  case atStart => exact ⟨0, Nat.zero_le _, rfl, rfl, rfl⟩
  case round =>
    obtain ⟨k, hk, rfl, rfl, rfl⟩ := hrel
    by_cases hlt : (k : Int) < (n : Int)
    · obtain ⟨b, o, rfl, hb⟩ := h.pt (by omega)
      have hc := hb k (by omega)
      have hx := h.byteAt k
      have HR : Hid (hf (xs.take (k + 1)) = hf (xs.take k) * 256 + xs.getD k 0) := by show _ = _; rw [take_snoc (by rw [h.len]; omega), hf_snoc]
      have hs := hf_lt k (xs.take k) (by rw [List.length_take, h.len]; omega) (h.take_byte k)
      have HS : Hid (hf (xs.take k) < 256 ^ 7) := Nat.lt_of_lt_of_le hs (pow256 k (by omega))
      obtain ⟨x, hxe⟩ : ∃ x, x = xs.getD k 0 := ⟨_, rfl⟩
      obtain ⟨s, hse⟩ : ∃ s, s = hf (xs.take k) := ⟨_, rfl⟩
      rw [← hxe] at hc hx HR
      rw [← hse] at HS HR ⊢
      clear hxe hse hb h hs
      have HE : Hid (_ = _) := u64_or_shift s x HS.out hx
      go_wp2
      go_roundw
      case rel => exact ⟨k + 1, by omega, by go_num, by rw [HR.out]; exact congrArg (Value.int .u64) HE.out, trivial⟩
      case measure => simp [intOf]; omega
    · have e : k = n := by omega
      subst e
      have HT : Hid (xs.take k = xs) := List.take_of_length_le (by rw [h.len]; omega)
      go_wp2
      go_ret
      exact ⟨ret_num (by rw [HT.out]), rfl⟩
/-- the length that a frame tells -/
def lkN (xs : List Nat) : Nat := xs.getD 1 0 * 256 + xs.getD 2 0
/-- what is wrong with the frame at the beginning -/
def lkE (xs : List Nat) : Nat :=
  if xs.length = 0 then 50
  else if xs.getD 0 0 ≠ 163 then 51
  else if xs.length < 3 then 50
  else if lkN xs = 0 then 51
  else if xs.length < lkN xs + 7 then 50
  else if (xs.take (3 + lkN xs + 4)).drop (3 + lkN xs) ≠ big (Crc.sum (xs.take (3 + lkN xs))) 4 then 52
  else 0
def lkP (xs : List Nat) : Nat := if lkE xs = 0 then 3 + lkN xs else 0

theorem i64_or_shift (a x : Nat) (ha : a < 256) (hx : x < 256) : bits .or .i64 ((a : Int) * 256) ((x : Nat) : Int) = ((a * 256 + x : Nat) : Int) := by
  have hor : a * 256 ||| x = a * 256 + x := by
    have := Nat.two_pow_add_eq_or_of_lt (i := 8) (b := x) (by omega) a
    rw [Nat.mul_comm a 256, show (256 : Nat) = 2 ^ 8 from rfl, ← this]
  rw [show (a : Int) * 256 = ((a * 256 : Nat) : Int) from by omega]
  show IntKind.i64.wrap ((BitVec.ofInt 64 ((a * 256 : Nat) : Int) ||| BitVec.ofInt 64 (x : Int)).toNat : Int) = _
  rw [BitVec.toNat_or, ofInt_u64 x (by omega), ofInt_u64 (a * 256) (by omega), hor, IntKind.wrap_i64]
  omega

set_option maxRecDepth 100000 in
set_option maxHeartbeats 1600000 in
theorem look_any (p : Option Addr) (n c : Nat) (xs : List Nat) (w : World) (h : Rb w p n xs) (hc : n ≤ c) (hn : (n : Int) ≤ 1000000000000000) (ht : Turns w) :
    Calls Tryd.prog 49 #[.slice p n c] w fun e w' => e = .returned (.tuple #[.int .i64 ((lkP xs : Nat) : Int), .int .i64 ((lkE xs : Nat) : Int)]) ∧ ∃ m, w' = w.drewN m := by
  have hl := h.len
  by_cases h0 : n = 0
  · subst h0
    have e1 : lkE xs = 50 := by unfold lkE; rw [if_pos hl]
    have e2 : lkP xs = 0 := by unfold lkP; rw [e1, if_neg (by omega)]
    rw [e1, e2]
    clear e1 e2 hl
    go_enter Tryd.func49, Tryd.ntmps49
    go_wp2
    go_ret2
    exact ⟨rfl, 0, rfl⟩
  obtain ⟨b, o, rfl, hb⟩ := h.pt (by omega)
  have hn0 : ((n : Int) == 0) = false := by rw [beq_eq_false_iff_ne]; omega
  have c0 := hb 0 (by omega)
  rw [Nat.add_zero] at c0
  have b0 := h.byteAt 0
  obtain ⟨x0, hx0⟩ : ∃ x, x = xs.getD 0 0 := ⟨_, rfl⟩
  rw [← hx0] at c0 b0
  by_cases h1 : x0 = 163
  · by_cases h2 : (n : Int) < 3
    · have e1 : lkE xs = 50 := by unfold lkE; rw [if_neg (by omega), if_neg (by rw [← hx0]; simpa using h1), if_pos (by omega)]
      have e2 : lkP xs = 0 := by unfold lkP; rw [e1, if_neg (by omega)]
      rw [e1, e2]
      clear e1 e2 hl hx0
      subst h1
      go_enter Tryd.func49, Tryd.ntmps49
      go_wp2
      go_ret2
      exact ⟨rfl, 0, rfl⟩
    · have c1 := hb 1 (by omega)
      have c2 := hb 2 (by omega)
      have b1 := h.byteAt 1
      have b2 := h.byteAt 2
      have HN : Hid (lkN xs = xs.getD 1 0 * 256 + xs.getD 2 0) := rfl
      have HE : Hid (lkE xs = if lkN xs = 0 then 51
        else if xs.length < lkN xs + 7 then 50
        else if (xs.take (3 + lkN xs + 4)).drop (3 + lkN xs) ≠ big (Crc.sum (xs.take (3 + lkN xs))) 4 then 52
        else 0) := by
          show _ = _
          unfold lkE
          rw [if_neg (by omega), if_neg (by rw [← hx0]; simpa using h1), if_neg (by omega)]
      have HP : Hid (lkP xs = if lkE xs = 0 then 3 + lkN xs else 0) := rfl
      obtain ⟨E, hE⟩ : ∃ E, E = lkE xs := ⟨_, rfl⟩
      obtain ⟨Q, hQ⟩ : ∃ Q, Q = lkP xs := ⟨_, rfl⟩
      obtain ⟨x1, hx1⟩ : ∃ x, x = xs.getD 1 0 := ⟨_, rfl⟩
      obtain ⟨x2, hx2⟩ : ∃ x, x = xs.getD 2 0 := ⟨_, rfl⟩
      rw [← hx1] at c1 b1 HN
      rw [← hx2] at c2 b2 HN
      rw [← hE] at HE HP
      rw [← hQ] at HP
      rw [← hE, ← hQ]
      subst h1
      have or1 := i64_or_shift x1 x2 b1 b2
      obtain ⟨N, hN⟩ : ∃ N, N = x1 * 256 + x2 := ⟨_, rfl⟩
      rw [← hN] at or1 HN
      have hNb : (N : Int) < 65536 := by omega
      rw [HN.out] at HE HP
      clear hE hQ hx1 hx2 hx0 hN HN
      by_cases h3 : N = 0
      · have HE1 : Hid (E = 51) := by rw [HE.out, if_pos h3]; exact rfl
        have HP1 : Hid (Q = 0) := by rw [HP.out, HE1.out]; exact rfl
        have d3 : ((N : Int) == 0) = true := by rw [beq_iff_eq]; omega
        clear h3 hl hb
        go_enter Tryd.func49, Tryd.ntmps49
        go_wp2
        go_quiet (fail)
        go_wp2
        go_ret2
        exact ⟨by rw [HE1.out, HP1.out]; rfl, _, rfl⟩
      · have d3 : ((N : Int) == 0) = false := by rw [beq_eq_false_iff_ne]; omega
        by_cases h4 : (n : Int) < 3 + (N : Int) + 4
        · have HE1 : Hid (E = 50) := by rw [HE.out, if_neg h3, if_pos (by omega)]; exact rfl
          have HP1 : Hid (Q = 0) := by rw [HP.out, HE1.out]; exact rfl
          clear h3 hl hb
          go_enter Tryd.func49, Tryd.ntmps49
          go_wp2
          go_quiet (fail)
          go_wp2
          go_ret2
          exact ⟨by rw [HE1.out, HP1.out]; rfl, _, rfl⟩
        · have s1 := slice_lh (some ⟨b, o, none⟩) n c (3 + N) (3 + N + 4) (by omega) (by omega)
          have s2 := slice_h (some ⟨b, o, none⟩) n c (3 + N) (by omega)
          have r1 := h.part hc (l := 3 + N) (r := 3 + N + 4) (by omega) (by omega)
          have r2 := h.part hc (l := 0) (r := 3 + N) (by omega) (by omega)
          obtain ⟨p1, hp1⟩ : ∃ p1, p1 = if c = 3 + N then some (⟨b, o, none⟩ : Addr) else (some (⟨b, o, none⟩ : Addr)).map (·.add ((3 + N) * 1)) := ⟨_, rfl⟩
          obtain ⟨p2, hp2⟩ : ∃ p2, p2 = if c = 0 then some (⟨b, o, none⟩ : Addr) else (some (⟨b, o, none⟩ : Addr)).map (·.add (0 * 1)) := ⟨_, rfl⟩
          rw [← hp1] at s1 r1
          rw [← hp2] at s2 r2
          clear hp1 hp2
          rw [List.drop_zero] at r2
          have e34 : 3 + N + 4 - (3 + N) = 4 := by omega
          rw [e34] at s1 r1
          rw [Nat.sub_zero, Nat.sub_zero] at s2
          rw [Nat.sub_zero] at r2
          have HC1 : Hid (∀ cc w', w'.heap = w.heap → Calls Tryd.prog 64 #[.slice p1 4 cc] w' fun e w'' => e = .returned (.int .u64 ((hf ((xs.take (3 + N + 4)).drop (3 + N)) : Nat) : Int)) ∧ w'' = w') := fun cc w' hw => highest_any p1 4 cc _ w' ⟨r1.len, r1.byte, fun j hj => by obtain ⟨b, o, e, hc⟩ := r1.cell j hj; exact ⟨b, o, e, by simpa [World.cell?, hw] using hc⟩⟩ (by omega)
          have HC2 : Hid (∀ cc w', w'.heap = w.heap → Calls Tryd.prog 36 #[.slice p2 (3 + N) cc] w' fun e w'' => e = .returned (.int .u32 ((Crc.sum (xs.take (3 + N)) : Nat) : Int)) ∧ w'' = w') := fun cc w' hw => sum_any p2 (3 + N) cc _ w' ⟨r2.len, r2.byte, fun j hj => by obtain ⟨b, o, e, hc⟩ := r2.cell j hj; exact ⟨b, o, e, by simpa [World.cell?, hw] using hc⟩⟩ (by omega) (fun k hk => by simpa [World.cell?, hw] using ht k hk)
          have hs := Crc.sum_lt r2.byte
          have HI : Hid (_ ↔ _) := hf_eq_iff r1.len r1.byte hs
          obtain ⟨H, hH⟩ : ∃ H, H = hf ((xs.take (3 + N + 4)).drop (3 + N)) := ⟨_, rfl⟩
          obtain ⟨s, hS⟩ : ∃ s, s = Crc.sum (xs.take (3 + N)) := ⟨_, rfl⟩
          rw [← hH] at HC1 HI
          rw [← hS] at HC2 HI hs HE
          have hs' : (s : Int) < 4294967296 := by omega
          have HN3 : Hid (¬ N = 0) := h3
          have HN4 : Hid (¬ xs.length < N + 7) := by show ¬ _; omega
          have e3 : ((3 + N : Nat) : Int) = 3 + (N : Int) := by omega
          have e7 : ((3 + N + 4 : Nat) : Int) = 3 + (N : Int) + 4 := by omega
          rw [e3, e7] at s1
          rw [e3] at s2
          have hwr : IntKind.i64.wrap (3 + (N : Int) + 4) = 3 + (N : Int) + 4 := by rw [IntKind.wrap_i64]; omega
          have h4' : decide ((n : Int) < 3 + (N : Int) + 4) = false := by rw [decide_eq_false_iff_not]; omega
          clear hH hS h3 hl hb r1 r2 ht h e34 e3 e7 hs h4
          go_enter Tryd.func49, Tryd.ntmps49
          go_wp2
          go_quiet (fail)
          obtain ⟨w1, hw1⟩ : ∃ w1, w1 = w.drewN nq := ⟨_, rfl⟩
          rw [← hw1]
          have hh1 : w1.heap = w.heap := by rw [hw1]; rfl
          have HW1 : Hid (_ = _) := hw1
          clear hw1
          go_wp2
          go_quiet ((first | (go_at_call 64; exact Calls.quiet_of_same (HC1.out _ _ (by simpa using hh1))) | (go_at_call 36; exact Calls.quiet_of_same (HC2.out _ _ (by simpa using hh1)))))
          have hd : ∃ m, w1.drewN nq = w.drewN m := ⟨_, by rw [HW1.out, World.drewN_drewN]⟩
          have HD : Hid (∃ m, w1.drewN nq = w.drewN m) := hd
          clear hd HW1 hh1 hwr s1 s2 or1 hs' HC1 HC2 h4' hn0 c0 c1 c2 hNb
          by_cases h5 : H = s
          · have HE1 : Hid (E = 0) := by rw [HE.out, if_neg HN3.out, if_neg HN4.out, if_neg (by rw [Decidable.not_not]; exact HI.out.1 h5)]; exact rfl
            have HP1 : Hid (Q = 3 + N) := by rw [HP.out, HE1.out]; exact rfl
            have d5 : ((H : Int) != (s : Int)) = false := by rw [h5]; simp
            clear h5
            go_wp2
            go_ret2
            exact ⟨by rw [HE1.out, HP1.out]; rfl, HD.out⟩
          · have HE1 : Hid (E = 52) := by rw [HE.out, if_neg HN3.out, if_neg HN4.out, if_pos (fun e => h5 (HI.out.2 e))]; exact rfl
            have HP1 : Hid (Q = 0) := by rw [HP.out, HE1.out]; exact rfl
            have d5 : ((H : Int) != (s : Int)) = true := by rw [bne_iff_ne]; omega
            clear h5
            go_wp2
            go_ret2
            exact ⟨by rw [HE1.out, HP1.out]; rfl, HD.out⟩
  · have e1 : lkE xs = 51 := by unfold lkE; rw [if_neg (by omega), if_pos (by rw [← hx0]; exact h1)]
    have e2 : lkP xs = 0 := by unfold lkP; rw [e1, if_neg (by omega)]
    rw [e1, e2]
    have d1 : ((x0 : Int) == 163) = false := by rw [beq_eq_false_iff_ne]; omega
    have hpos : 0 < n := by omega
    clear e1 e2 hl hx0 h1 h0
    go_enter Tryd.func49, Tryd.ntmps49
    go_wp2
    go_ret2
    exact ⟨rfl, 0, rfl⟩
end Go.Proofs.YtoepemgflbmlcaaDoor

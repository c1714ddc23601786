/- The walks of frame.Wrap and of the reference's Wrap. -/
import Derived.Test.YtoepemgflbmlcaaDoorFs
namespace Go.Proofs.YtoepemgflbmlcaaDoor
open Go.RowKit Go.Deep

theorem make_cap (n : Nat) (hn : n ≤ 1000000) (w : World) : (Instr.makeSlice 28 (.int .i64 0) (.int .i64 (3 + (n : Int) + 4))).run Tryd.prog w = .ok (.slice (some ⟨w.heap.size, 0, none⟩) 0 (3 + n + 4)) (w.alloc (.cells (madeCells #[.int .u8 0] (3 + n + 4)) 5)) := by
  obtain ⟨i, hi, hz⟩ := Option.map_eq_some_iff.1 info5
  simp only [Prod.mk.injEq] at hz
  obtain ⟨hz, hs, hb⟩ := hz
  have hr := run_make (P := Tryd.prog) w 28 5 i (.int .u8 0) Tryd.underlying28 hi hz .i64 .i64 0 (3 + (n : Int) + 4) (by omega) (by omega) (by rw [hb]; omega) (by omega)
  rw [hr]
  have e : (3 + (n : Int) + 4).toNat = 3 + n + 4 := by omega
  simp only [e, hs]
  congr 4
  simp
theorem rb_new (w : World) (xs : List Nat) (hx : ∀ x ∈ xs, x < 256) : Rb (w.alloc (.cells (vl xs).toArray 5)) (some ⟨w.heap.size, 0, none⟩) xs.length xs :=
  ⟨rfl, hx, fun j hj => ⟨w.heap.size, 0, rfl, by
    have := vl_get hj
    have hh : (w.alloc (.cells (vl xs).toArray 5)).heap[w.heap.size]? = _ := heap_alloc_new w _
    rw [Nat.zero_add]
    unfold World.cell?
    simp only [hh]
    simpa using this⟩⟩

/-- what stands ahead of the sum -/
def hdr (xs : List Nat) : List Nat := 163 :: xs.length / 256 :: xs.length % 256 :: xs
/-- bytes in a frame -/
def frm (xs : List Nat) : List Nat := hdr xs ++ big (Crc.sum (hdr xs)) 4
theorem hdr_byte {xs : List Nat} (h : ∀ x ∈ xs, x < 256) (hl : xs.length ≤ 65535) : ∀ x ∈ hdr xs, x < 256 := fun x hx => by
  simp only [hdr, List.mem_cons] at hx
  rcases hx with rfl | rfl | rfl | hx
  · omega
  · omega
  · omega
  · exact h x hx
theorem frm_byte {xs : List Nat} (h : ∀ x ∈ xs, x < 256) (hl : xs.length ≤ 65535) : ∀ x ∈ frm xs, x < 256 := fun x hx => by
  rcases List.mem_append.1 hx with hx | hx
  · exact hdr_byte h hl x hx
  · exact big_byte _ _ x hx
theorem hdr_length (xs : List Nat) : (hdr xs).length = xs.length + 3 := by simp [hdr]
theorem frm_length (xs : List Nat) : (frm xs).length = xs.length + 7 := by simp [frm, hdr, big_length]
theorem rb_three (w : World) (n : Nat) (hn : n ≤ 65535) : Rb (w.alloc (.cells #[.int .u8 163, .int .u8 ((n : Int) / 256), .int .u8 ((n : Int) % 256)] 5)) (some ⟨w.heap.size, 0, none⟩) 3 [163, n / 256, n % 256] := by
  have := rb_new w [163, n / 256, n % 256] (fun x hx => by simp only [List.mem_cons, List.not_mem_nil, or_false] at hx; omega)
  simpa [vl] using this
theorem big4 (s : Nat) : big s 4 = [s / 16777216 % 256, s / 65536 % 256, s / 256 % 256, s % 256] := by
  unfold big
  simp [List.range_succ, List.range_zero]
theorem rb_four (w : World) (s : Nat) (hs : s < 4294967296) : Rb (w.alloc (.cells #[.int .u8 ((s : Int) / 16777216), .int .u8 ((s : Int) / 65536 % 256), .int .u8 ((s : Int) / 256 % 256), .int .u8 ((s : Int) % 256)] 5)) (some ⟨w.heap.size, 0, none⟩) 4 (big s 4) := by
  have := rb_new w (big s 4) (big_byte _ _)
  rw [big_length] at this
  rw [big4] at this ⊢
  have e : (s : Int) / 16777216 % 256 = (s : Int) / 16777216 := by omega
  simpa [vl, e] using this

set_option maxRecDepth 100000 in
set_option maxHeartbeats 400000 in
theorem wrap_yes (p : Option Addr) (n c : Nat) (xs : List Nat) (w : World) (h : Rb w p n xs) (h1 : 1 ≤ (n : Int)) (h2 : (n : Int) ≤ 65535) (ht : Turns w) :
    Calls Tryd.prog 20 #[.slice p n c] w fun e w' => ∃ v, e = .returned (.tuple #[v, .int .i64 0]) ∧ Kp (fun _ => False) w w' ∧ Ow w' w.heap.size v (frm xs) := by
  have hmk := make_cap n (by omega)
  have HO : Hid (∀ o, Ow ((w.alloc (.cells (madeCells #[.int .u8 0] (3 + n + 4)) 5)).alloc o) w.heap.size (.slice (some ⟨w.heap.size, 0, none⟩) 0 (3 + n + 4)) []) := fun o => World.ownsRow.alloc (World.ownsRow_made w _ (3 + n + 4) (Nat.le_refl _) (by unfold maxLen; omega) (by simp [madeCells])) o
  go_enter Tryd.func20, Tryd.ntmps20
  go_wp2_with (first
    | (at_builtin; refine wpList_append_bytes _ rfl _ _ rfl w.heap.size (.slice (some ⟨w.heap.size, 0, none⟩) 0 (3 + n + 4)) [] rfl (HO.out _) (some ⟨w.heap.size + 1, 0, none⟩) 3 3 [163, n / 256, n % 256] rfl (by have := rb_three (w.alloc (.cells (madeCells #[.int .u8 0] (3 + n + 4)) 5)) n (by omega); simpa using this) (by simp) (by simp; omega) ?_
       intro v3 w3 ho3 hk3 hb3
       have k3 : Kp (fun _ => False) w w3 := Kp.app (((Kp.refl _ _).alloc _).alloc _) (HO.out _) hk3
       have r3 := h.keep0 k3
       have z3 := k3.size)
    | (at_builtin; refine wpList_append_bytes _ rfl _ _ rfl w.heap.size v3 _ rfl ho3 p n c xs rfl r3 (by simp; omega) z3 ?_
       intro v4 w4 ho4 hk4 hb4
       have k4 : Kp (fun _ => False) w w4 := Kp.app k3 ho3 hk4))
  have e4 : [] ++ [163, n / 256, n % 256] ++ xs = hdr xs := by simp [hdr, h.len]
  have hby := hdr_byte h.byte (by rw [h.len]; omega)
  rw [e4] at ho4
  obtain ⟨p4, c4, rfl, hc4, r4, _⟩ := ho4.rb hby
  have hl4 : (hdr xs).length = n + 3 := by rw [hdr_length, h.len]
  refine (sum_any p4 _ c4 _ _ r4 (by rw [hl4]; omega) (ht.keep0 k4)).mono ?_
  rintro e w' ⟨rfl, rfl⟩
  have HL : Hid (_ = _) := hl4
  clear hl4
  have hs := Crc.sum_lt hby
  have HF : Hid (frm xs = hdr xs ++ big (Crc.sum (hdr xs)) 4) := rfl
  obtain ⟨s, hse⟩ : ∃ s, s = Crc.sum (hdr xs) := ⟨_, rfl⟩
  rw [← hse] at hs HF ⊢
  clear hse
  have HA : Hid (∀ o, Ow (w'.alloc o) w.heap.size (.slice p4 (hdr xs).length c4) (hdr xs)) := fun o => World.ownsRow.alloc ho4 o
  have z4 := k4.size
  clear ho4 r4 hk4 hb4 ho3 hk3 hb3
  go_wp2_with (at_builtin; refine wpList_append_bytes _ rfl _ _ rfl w.heap.size _ (hdr xs) rfl (HA.out _) (some ⟨w'.heap.size, 0, none⟩) 4 4 (big s 4) rfl (rb_four w' s (by omega)) (by have := HL.out; omega) (by simp; omega) ?_; intro v5 w5 ho5 hk5 hb5)
  go_ret2
  rw [← HF.out] at ho5
  exact ⟨_, rfl, Kp.app (k4.alloc _) (HA.out _) hk5, ho5⟩

set_option maxRecDepth 100000 in
set_option maxHeartbeats 400000 in
theorem wrap_no (p : Option Addr) (n c : Nat) (w : World) (h : (n : Int) < 1 ∨ 65535 < (n : Int)) :
    Calls Tryd.prog 20 #[.slice p n c] w fun e w' => e = .returned (.tuple #[.slice none 0 0, .int .i64 1]) ∧ w' = w := by
  rcases h with h | h
  · go_enter Tryd.func20, Tryd.ntmps20
    go_wp2
    go_ret2
    exact ⟨rfl, rfl⟩
  · go_enter Tryd.func20, Tryd.ntmps20
    go_wp2
    go_ret2
    exact ⟨rfl, rfl⟩

set_option maxRecDepth 100000 in
set_option maxHeartbeats 400000 in
theorem refWrap_no (p : Option Addr) (n c : Nat) (w : World) (h : (n : Int) < 1 ∨ 65535 < (n : Int)) :
    Calls Tryd.prog 35 #[.slice p n c] w fun e w' => e = .returned (.tuple #[.slice none 0 0, .int .i64 1]) ∧ w' = w := by
  rcases h with h | h
  · go_enter Tryd.func35, Tryd.ntmps35
    go_wp2
    go_ret2
    exact ⟨rfl, rfl⟩
  · go_enter Tryd.func35, Tryd.ntmps35
    go_wp2
    go_ret2
    exact ⟨rfl, rfl⟩

theorem big2 (n : Nat) (h : n ≤ 65535) : big n 2 = [n / 256, n % 256] := by
  unfold big
  simp [List.range_succ, List.range_zero]
  omega

set_option maxRecDepth 100000 in
set_option maxHeartbeats 400000 in
theorem refWrap_yes (p : Option Addr) (n c : Nat) (xs : List Nat) (w : World) (h : Rb w p n xs) (h1 : 1 ≤ (n : Int)) (h2 : (n : Int) ≤ 65535) :
    Calls Tryd.prog 35 #[.slice p n c] w fun e w' => ∃ v, e = .returned (.tuple #[v, .int .i64 0]) ∧ Kp (fun _ => False) w w' ∧ Ow w' w.heap.size v (frm xs) := by
  have hby := hdr_byte h.byte (by rw [h.len]; omega)
  have HL : Hid ((hdr xs).length = n + 3) := by show _ = _; rw [hdr_length, h.len]
  have HE : Hid ([163] ++ big n 2 ++ xs = hdr xs) := by show _ = _; rw [big2 n (by omega)]; simp [hdr, h.len]
  have HO : Hid (Ow (w.alloc (.cells #[.int .u8 163] 5)) w.heap.size (.slice (some ⟨w.heap.size, 0, none⟩) 1 1) [163]) := World.ownsRow_lit w #[.int .u8 163] 1 (Nat.le_refl _) (by unfold maxLen; omega) rfl
  go_enter Tryd.func35, Tryd.ntmps35
  go_wp2_with fail
  refine (big_any n 2 _ (by omega) (by omega)).mono ?_
  rintro e w1 ⟨rfl, k1, z1, ho1⟩
  have k1' : Kp (fun _ => False) w w1 := ((Kp.refl _ _).alloc _).trans k1 (fun _ _ e => e)
  have HO1 : Hid (Ow w1 w.heap.size (.slice (some ⟨w.heap.size, 0, none⟩) 1 1) [163]) := ownsRow_keep HO.out k1 (fun _ _ => id)
  obtain ⟨p1, c1, e1, _, r1, _⟩ := ho1.rb (big_byte n 2)
  have z1' := k1'.size
  rw [big_length] at r1
  injection e1 with e1 e2 e3
  subst e1
  clear e2 e3
  clear ho1 z1 HO
  have hw1 : (w.alloc (.cells #[.int .u8 163] 5)).heap.size = w.heap.size + 1 := by simp
  rw [hw1] at r1 ⊢
  clear hw1
  go_wp2_with (first
    | (at_builtin; refine wpList_append_bytes _ rfl _ _ rfl w.heap.size (.slice (some ⟨w.heap.size, 0, none⟩) 1 1) [163] rfl HO1.out (some ⟨w.heap.size + 1, 0, none⟩) 2 2 (big n 2) rfl r1 (by simp) z1' ?_
       intro v3 w3 ho3 hk3 hb3
       have k3 : Kp (fun _ => False) w w3 := Kp.app k1' HO1.out hk3
       have r3 := h.keep0 k3
       have z3 := k3.size)
    | (at_builtin; refine wpList_append_bytes _ rfl _ _ rfl w.heap.size v3 _ rfl ho3 p n c xs rfl r3 (by simp [big_length]; omega) z3 ?_
       intro v4 w4 ho4 hk4 hb4
       have k4 : Kp (fun _ => False) w w4 := Kp.app k3 ho3 hk4))
  rw [HE.out] at ho4
  obtain ⟨p4, c4, rfl, hc4, r4, _⟩ := ho4.rb hby
  refine (refSum_any p4 _ c4 _ _ r4 (by rw [HL.out]; omega)).mono ?_
  rintro e w' ⟨rfl, rfl⟩
  have hs := Crc.sum_lt hby
  have HF : Hid (frm xs = hdr xs ++ big (Crc.sum (hdr xs)) 4) := rfl
  obtain ⟨s, hse⟩ : ∃ s, s = Crc.sum (hdr xs) := ⟨_, rfl⟩
  rw [← hse] at hs HF ⊢
  clear hse
  clear r4 hk4 hb4 ho3 hk3 hb3
  go_wp2_with fail
  refine (big_any s 4 _ (by omega) (by omega)).mono ?_
  rintro e w5 ⟨rfl, k5, z5, ho5⟩
  have HA : Hid (Ow w5 w.heap.size (.slice p4 (hdr xs).length c4) (hdr xs)) := ownsRow_keep ho4 k5 (fun _ _ => id)
  obtain ⟨p5, c5, e5, _, r5, _⟩ := ho5.rb (big_byte s 4)
  rw [big_length] at r5
  injection e5 with e5 e6 e7
  subst e5
  clear e6 e7
  have k5' := k4.trans k5 (fun _ _ e => e)
  have z5' := k5'.size
  clear ho5 ho4 z5
  go_wp2_with (at_builtin; refine wpList_append_bytes _ rfl _ _ rfl w.heap.size _ (hdr xs) rfl HA.out (some ⟨w'.heap.size, 0, none⟩) 4 4 (big s 4) rfl r5 (by have := HL.out; omega) z5' ?_; intro v6 w6 ho6 hk6 hb6)
  go_ret2
  rw [← HF.out] at ho6
  exact ⟨_, rfl, Kp.app k5' HA.out hk6, ho6⟩

/-- what a frame tells: the bytes, or none; the error -/
def wrB (xs : List Nat) : List Nat := if 1 ≤ xs.length ∧ xs.length ≤ 65535 then frm xs else []
def wrE (xs : List Nat) : Nat := if 1 ≤ xs.length ∧ xs.length ≤ 65535 then 0 else 1
theorem wrB_byte {xs : List Nat} (h : ∀ x ∈ xs, x < 256) : ∀ x ∈ wrB xs, x < 256 := by
  unfold wrB
  split
  · exact frm_byte h (by omega)
  · intro x hx; cases hx
theorem wrap_any (p : Option Addr) (n c : Nat) (xs : List Nat) (w : World) (h : Rb w p n xs) (ht : Turns w) :
    Calls Tryd.prog 20 #[.slice p n c] w fun e w' => ∃ v, e = .returned (.tuple #[v, .int .i64 (wrE xs : Nat)]) ∧ Kp (fun _ => False) w w' ∧ Ow w' w.heap.size v (wrB xs) := by
  have hl := h.len
  by_cases h1 : 1 ≤ xs.length ∧ xs.length ≤ 65535
  · unfold wrE wrB
    rw [if_pos h1, if_pos h1]
    exact wrap_yes p n c xs w h (by omega) (by omega) ht
  · unfold wrE wrB
    rw [if_neg h1, if_neg h1]
    refine (wrap_no p n c w (by omega)).mono ?_
    rintro e w' ⟨rfl, rfl⟩
    exact ⟨_, rfl, Kp.refl _ _, World.ownsRow_nil _ _ _ _⟩
theorem refWrap_any (p : Option Addr) (n c : Nat) (xs : List Nat) (w : World) (h : Rb w p n xs) :
    Calls Tryd.prog 35 #[.slice p n c] w fun e w' => ∃ v, e = .returned (.tuple #[v, .int .i64 (wrE xs : Nat)]) ∧ Kp (fun _ => False) w w' ∧ Ow w' w.heap.size v (wrB xs) := by
  have hl := h.len
  by_cases h1 : 1 ≤ xs.length ∧ xs.length ≤ 65535
  · unfold wrE wrB
    rw [if_pos h1, if_pos h1]
    exact refWrap_yes p n c xs w h (by omega) (by omega)
  · unfold wrE wrB
    rw [if_neg h1, if_neg h1]
    refine (refWrap_no p n c w (by omega)).mono ?_
    rintro e w' ⟨rfl, rfl⟩
    exact ⟨_, rfl, Kp.refl _ _, World.ownsRow_nil _ _ _ _⟩
end Go.Proofs.YtoepemgflbmlcaaDoor

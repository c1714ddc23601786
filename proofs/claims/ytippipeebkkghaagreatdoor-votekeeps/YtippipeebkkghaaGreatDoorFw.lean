/- The walks of frame.Wrap and of the reference's Wrap. -/
import Derived.Test.YtippipeebkkghaaGreatDoorFs
namespace Go.Proofs.YtippipeebkkghaaGreatDoor
open Go.RowKit Go.Deep

set_option maxRecDepth 100000 in
theorem make_cap (n : Nat) (hn : n ≤ 1000000) (w : World) : (Instr.makeSlice 75 (.int .i64 0) (.int .i64 (3 + (n : Int) + 4))).run Tryz.prog w = .ok (.slice (some ⟨w.heap.size, 0, none⟩) 0 (3 + n + 4)) (w.alloc (.cells (madeCells #[.int .u8 0] (3 + n + 4)) 5)) := by
  obtain ⟨i, hi, hz⟩ := Option.map_eq_some_iff.1 info5
  simp only [Prod.mk.injEq] at hz
  obtain ⟨hz, hs, hb⟩ := hz
  have hr := run_make (P := Tryz.prog) w 75 5 i (.int .u8 0) Tryz.underlying75 hi hz .i64 .i64 0 (3 + (n : Int) + 4) (by omega) (by omega) (by rw [hb]; omega) (by omega)
  rw [hr]
  have e : (3 + (n : Int) + 4).toNat = 3 + n + 4 := by omega
  simp only [e, hs]
  congr 4
  simp
theorem rb_new (w : World) (xs : List Nat) (hx : ∀ x ∈ xs, x < 256) : Rb (w.alloc (.cells (vl xs).toArray 5)) (some ⟨w.heap.size, 0, none⟩) xs.length xs :=
  ⟨rfl, hx, fun j hj => ⟨w.heap.size, 0, rfl, by
    have := vl_get hj
    have hh : (w.alloc (.cells (vl xs).toArray 5)).heap[w.heap.size]? = _ := heap_alloc_new w _
    rw [Nat.zero_add]
    unfold World.cell?
    simp only [hh]
    simpa using this⟩⟩

/-- what stands ahead of the sum -/
def hdr (xs : List Nat) : List Nat := 163 :: xs.length / 256 :: xs.length % 256 :: xs
/-- bytes in a frame -/
def frm (xs : List Nat) : List Nat := hdr xs ++ big (Crc.sum (hdr xs)) 4
theorem hdr_byte {xs : List Nat} (h : ∀ x ∈ xs, x < 256) (hl : xs.length ≤ 65535) : ∀ x ∈ hdr xs, x < 256 := fun x hx => by
  simp only [hdr, List.mem_cons] at hx
  rcases hx with rfl | rfl | rfl | hx
  · omega
  · omega
  · omega
  · exact h x hx
theorem frm_byte {xs : List Nat} (h : ∀ x ∈ xs, x < 256) (hl : xs.length ≤ 65535) : ∀ x ∈ frm xs, x < 256 := fun x hx => by
  rcases List.mem_append.1 hx with hx | hx
  · exact hdr_byte h hl x hx
  · exact big_byte _ _ x hx
theorem hdr_length (xs : List Nat) : (hdr xs).length = xs.length + 3 := by simp [hdr]
theorem frm_length (xs : List Nat) : (frm xs).length = xs.length + 7 := by simp [frm, hdr, big_length]
theorem rb_three (w : World) (n : Nat) (hn : n ≤ 65535) : Rb (w.alloc (.cells #[.int .u8 163, .int .u8 ((n : Int) / 256), .int .u8 ((n : Int) % 256)] 5)) (some ⟨w.heap.size, 0, none⟩) 3 [163, n / 256, n % 256] := by
  have := rb_new w [163, n / 256, n % 256] (fun x hx => by simp only [List.mem_cons, List.not_mem_nil, or_false] at hx; omega)
  simpa [vl] using this
theorem big4 (s : Nat) : big s 4 = [s / 16777216 % 256, s / 65536 % 256, s / 256 % 256, s % 256] := by
  unfold big
  simp [List.range_succ, List.range_zero]
theorem rb_four (w : World) (s : Nat) (hs : s < 4294967296) : Rb (w.alloc (.cells #[.int .u8 ((s : Int) / 16777216), .int .u8 ((s : Int) / 65536 % 256), .int .u8 ((s : Int) / 256 % 256), .int .u8 ((s : Int) % 256)] 5)) (some ⟨w.heap.size, 0, none⟩) 4 (big s 4) := by
  have := rb_new w (big s 4) (big_byte _ _)
  rw [big_length] at this
  rw [big4] at this ⊢
  have e : (s : Int) / 16777216 % 256 = (s : Int) / 16777216 := by omega
  simpa [vl, e] using this

theorem big2 (n : Nat) (h : n ≤ 65535) : big n 2 = [n / 256, n % 256] := by
  unfold big
  simp [List.range_succ, List.range_zero]
  omega

end Go.Proofs.YtippipeebkkghaaGreatDoor

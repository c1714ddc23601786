/- Texts of this proof, joined: Pl6, Pc. -/
import Derived.Test.YtblaabjjcanifaaGreatDoorMgAW
import Derived.Test.YtblaabjjcanifaaGreatDoorMgAI
import Derived.Lib.MinMax
/- The verifier's written, with what the sectors were. -/
namespace Go.Proofs.YtblaabjjcanifaaGreatDoor
open Go.RowKit Go.Deep Go.Maps

/-- the durable bytes of a sector -/
def secOf (dur : List Nat) (i : Nat) : List Nat := (dur.drop (i * 64)).take 64
/-- the block of a slice's cells -/
def blkOf : Value → Option Nat
  | .slice (some a) _ _ => some a.block
  | _ => none
def capOf : Value → Nat
  | .slice _ _ c => c
  | _ => 0
/-- a slice that lies elsewhere than at t2, and has its 64 bytes -/
def Vok (t2 : Nat) (v : Value) : Prop := blkOf v ≠ some t2 ∧ 64 ≤ capOf v
/-- what the sectors were: texts of 64 bytes each at row t2, which is no other's -/
structure Wv (w : World) (b d m t t2 : Nat) (N : Nat → List Nat) : Prop where
  top : ∃ cp V, 6 ≤ cp ∧ w.rowIs t2 22 cp V ∧ ∀ r, r < 6 → ∃ bb o c, V r = .slice (some ⟨bb, o, none⟩) 64 c ∧ 64 ≤ c ∧ Rb w (some ⟨bb, o, none⟩) 64 (N r) ∧ bb ≠ t2 ∧ bb ≠ t ∧ bb ≠ d ∧ bb ≠ m ∧ bb ≠ b
  ne : t2 ≠ b ∧ t2 ≠ d ∧ t2 ≠ m ∧ t2 ≠ t
theorem Wv.keep {S : Nat → Prop} {w w' : World} {b d m t t2 : Nat} {N : Nat → List Nat} (h : Wv w b d m t t2 N) (k : Kp S w w') (hS : ∀ x, S x → x = b ∨ x = d ∨ x = m ∨ x = t) : Wv w' b d m t t2 N := by
  obtain ⟨cp, V, hc, hr, hv⟩ := h.top
  obtain ⟨n1, n2, n3, n4⟩ := h.ne
  refine ⟨⟨cp, V, hc, k.row hr (fun e => by rcases hS _ e with h1 | h1 | h1 | h1 <;> contradiction), fun r hr => ?_⟩, h.ne⟩
  obtain ⟨bb, o, c, h1, hcc, h2, h3, h4, h5, h6, h7⟩ := hv r hr
  exact ⟨bb, o, c, h1, hcc, h2.keep k (fun a ha _ e => by cases ha; rcases hS _ e with h1 | h1 | h1 | h1 <;> contradiction), h3, h4, h5, h6, h7⟩
theorem Wv.of_gt {w : World} {base b d m t : Nat} {v : Value} {xs : List Value} {N : Nat → List Nat} (h : Gt w base v 6 xs N) (hN : ∀ r, r < 6 → (N r).length = 64) (hb : b < base) (hd : d < base) (hm : m < base) (ht : t < base) : ∃ t2 c2, v = .slice (some ⟨t2, 0, none⟩) 6 c2 ∧ base ≤ t2 ∧ t2 < w.heap.size ∧ 6 ≤ c2 ∧ Wv w b d m t t2 N := by
  rcases h.own.2 with ⟨_, e2⟩ | ⟨g, cap, cur, e, hg, hh, h1, h2, h3, h4⟩
  · omega
  · subst e
    refine ⟨g, cap, rfl, hg, (Array.getElem?_eq_some_iff.1 hh).1, h1, ⟨cap, fun j => (cur[j]?).getD (.slice none 0 0), h1, ⟨cur, hh, by omega, fun j hj => ?_⟩, fun r hr => ?_⟩, by omega, by omega, by omega, by omega⟩
    · dsimp only; rw [Array.getElem?_eq_getElem (by omega)]; rfl
    · obtain ⟨p, n, c, ex, rb, hc, hp⟩ := h.txt r hr
      have hn : n = 64 := by rw [← rb.len]; exact hN r hr
      subst hn
      obtain ⟨bb, o, rfl, _⟩ := rb.pt (by omega)
      have h5 : (cur.toList.take (6 * 1))[r]? = xs[r]? := by rw [h4]
      rw [List.getElem?_take_of_lt (by omega), Array.getElem?_toList, ex] at h5
      have := hp _ rfl
      have hne : g ≠ bb := fun e => this.2.2 (by rw [e]; rfl)
      have hbb := this.1
      simp only at hbb
      exact ⟨bb, o, c, by dsimp only; rw [h5]; rfl, hc, rb, fun e => hne e.symm, by omega, by omega, by omega, by omega⟩
/-- what written leaves -/
structure Wst2 (w w' : World) (b d m q t t2 : Nat) : Prop where
  kp : Kp (fun _ => False) w w'
  many : (q : Int) ≤ 9223372036854775807
  lo : w.heap.size ≤ b ∧ w.heap.size ≤ d ∧ w.heap.size ≤ m ∧ w.heap.size ≤ t ∧ w.heap.size ≤ t2
  ex : ∃ (V : Nat → Value) (N : Nat → List Nat) (dur : List Nat) (T : Nat → Option (List Nat)), Pt w' b d m 6 q dur T ∧ Nows w' b d m t 6 V N ∧ (∀ i, i < 6 → N i = nowOf dur T i) ∧ (∀ i, i < 6 → Vok t2 (V i)) ∧ Wv w' b d m t t2 (secOf dur)

end Go.Proofs.YtblaabjjcanifaaGreatDoor

/- The walks of a plate's settle and Crash. -/
namespace Go.Proofs.YtblaabjjcanifaaGreatDoor
open Go.RowKit Go.Deep Go.Maps

/-- what was written at a number -/
def Tz (T : Nat → Option (List Nat)) (i : Int) : Option (List Nat) := if 0 ≤ i then T i.toNat else none
theorem Tz_nat (T : Nat → Option (List Nat)) (i : Nat) : Tz T (i : Int) = T i := by
  unfold Tz
  rw [if_pos (Int.natCast_nonneg i)]
  rfl
theorem mp_none {D : DataW (List Nat)} {n : Nat} {T : Nat → Option (List Nat)}
    (h2 : (∀ i, i < n → (T i = none → Maps.has D (ik i) = false) ∧ ∀ xs, T i = some xs → Sec xs ∧ Maps.has D (ik i) = true ∧ ∀ z, D.atKey (ik i) z = .held xs) ∧ (∀ kl, Maps.has D kl = true → ∃ i, i < n ∧ kl = ik i) ∧ ∀ i, n ≤ i → T i = none)
    {i : Int} (h : Tz T i = none) : Maps.has D (.int .i64 i) = false := by
  cases hh : Maps.has D (.int .i64 i) with
  | false => rfl
  | true =>
    obtain ⟨k, hk, e⟩ := h2.2.1 _ hh
    injection e with _ e
    subst e
    rw [Tz_nat] at h
    have := (h2.1 k hk).1 h
    rw [hh] at this
    cases this
theorem mp_some {n : Nat} {T : Nat → Option (List Nat)} (h3 : ∀ i, n ≤ i → T i = none) {i : Int} {xs : List Nat} (h : Tz T i = some xs) : ∃ k : Nat, k < n ∧ i = (k : Int) ∧ T k = some xs := by
  unfold Tz at h
  split at h
  · rename_i h0
    refine ⟨i.toNat, ?_, by omega, h⟩
    rcases Nat.lt_or_ge i.toNat n with hl | hl
    · exact hl
    · rw [h3 _ hl] at h; cases h
  · cases h
/-- the first c bytes of a sector are others -/
def setSec (dur : List Nat) (k c : Nat) (xs : List Nat) : List Nat := (List.range dur.length).map (fun j => if k * 64 ≤ j ∧ j < k * 64 + c then xs.getD (j - k * 64) 0 else dur.getD j 0)
theorem setSec_len (dur : List Nat) (k c : Nat) (xs : List Nat) : (setSec dur k c xs).length = dur.length := by simp [setSec]
theorem setSec_get {dur : List Nat} {k c : Nat} {xs : List Nat} {j : Nat} (hj : j < dur.length) : (setSec dur k c xs).getD j 0 = if k * 64 ≤ j ∧ j < k * 64 + c then xs.getD (j - k * 64) 0 else dur.getD j 0 := by
  unfold setSec
  rw [List.getD_eq_getElem?_getD, List.getElem?_map, List.getElem?_range hj]; rfl
theorem setSec_byte {dur : List Nat} {k c : Nat} {xs : List Nat} (hd : ∀ x ∈ dur, x < 256) (hx : ∀ x ∈ xs, x < 256) : ∀ x ∈ setSec dur k c xs, x < 256 := by
  intro x hx'
  unfold setSec at hx'
  obtain ⟨j, hj, rfl⟩ := List.mem_map.1 hx'
  split
  · exact byte_getD hx _
  · exact byte_getD hd _
theorem Pt.newdur {w w' : World} {b d m n q : Nat} {dur dur' : List Nat} {T : Nat → Option (List Nat)} (h : Pt w b d m n q dur T) (k : Kp (fun x => x = d) w w') (hr : Dr w' d n (fun j => dur'.getD j 0)) (hl : dur'.length = n * 64) (hb : ∀ x ∈ dur', x < 256) : Pt w' b d m n q dur' T :=
  ⟨k.cellv h.c0 h.bd, (by obtain ⟨cp, hc, c1⟩ := h.c1; exact ⟨cp, hc, k.cellv c1 h.bd⟩), k.cellv h.c2 h.bd, k.cellv h.c3 h.bd, fun j => by rw [World.frozen?_of_block (w := w) (k.block b h.lt h.bd)]; exact h.fz j, hr, hl, hb, h.mp.keep k (fun e => h.dm e.symm), h.bd, h.bm, h.dm, h.n1, h.n2⟩
/-- how many bytes are kept of a torn sector -/
def torn64 (n : Int) : Nat := (min (max n 0) 64).toNat

theorem slice_arr (g c : Nat) (hc : c ≤ 64) (w : World) : (Instr.sliceAt 157 (.pointer (some ⟨g, 0, none⟩)) none (some (.int .i64 (c : Int))) none).run Tryz.prog w = .ok (.slice (some ⟨g, 0, none⟩) c 64) w := by
  obtain ⟨i, hi, hz⟩ := Option.map_eq_some_iff.1 info5
  simp only [Prod.mk.injEq] at hz
  simp [Instr.sliceAt, Instr.sliceBounds, Instr.sliceBound, asIntOf, run_underlying Tryz.underlying157, sizeOf, typeInfo, hi, hc, Addr.add]
  rfl

/-- what is durable when a number's sector is settled -/
def settleD (dur : List Nat) (T : Nat → Option (List Nat)) (i : Int) (c : Nat) : List Nat := match Tz T i with
  | some xs => setSec dur i.toNat c xs
  | none => dur

/-- numbers, as they lie -/
def Rz (w : World) (p : Option Addr) (zs : List Int) : Prop := ∀ j, j < zs.length → ∃ b o, p = some ⟨b, o, none⟩ ∧ w.cell? ⟨b, o + j, none⟩ = some (.int .i64 (zs.getD j 0))
/-- what is durable when the sectors of many numbers are settled -/
def settleL (dur : List Nat) (T : Nat → Option (List Nat)) (zs : List Int) : List Nat := zs.foldl (fun a z => settleD a T z 64) dur
theorem settleL_take {dur : List Nat} {T : Nat → Option (List Nat)} {zs : List Int} {k : Nat} (hk : k < zs.length) : settleL dur T (zs.take (k + 1)) = settleD (settleL dur T (zs.take k)) T (zs.getD k 0) 64 := by
  unfold settleL
  rw [List.take_add_one, List.getElem?_eq_getElem hk, List.foldl_append, List.getD_eq_getElem?_getD, List.getElem?_eq_getElem hk]
  rfl
def crashD (dur : List Nat) (T : Nat → Option (List Nat)) (zs : List Int) (i n : Int) : List Nat := settleD (settleL dur T zs) T i (torn64 n)

end Go.Proofs.YtblaabjjcanifaaGreatDoor

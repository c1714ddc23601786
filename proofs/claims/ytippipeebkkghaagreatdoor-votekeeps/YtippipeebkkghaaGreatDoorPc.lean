/- The walks of a plate's settle and Crash. -/
import Derived.Test.YtippipeebkkghaaGreatDoorPl4
import Derived.Lib.MinMax
namespace Go.Proofs.YtippipeebkkghaaGreatDoor
open Go.RowKit Go.Deep Go.Maps

/-- what was written at a number -/
def Tz (T : Nat → Option (List Nat)) (i : Int) : Option (List Nat) := if 0 ≤ i then T i.toNat else none
theorem Tz_nat (T : Nat → Option (List Nat)) (i : Nat) : Tz T (i : Int) = T i := by
  unfold Tz
  rw [if_pos (Int.natCast_nonneg i)]
  rfl
theorem mp_none {D : DataW (List Nat)} {n : Nat} {T : Nat → Option (List Nat)}
    (h2 : (∀ i, i < n → (T i = none → Maps.has D (ik i) = false) ∧ ∀ xs, T i = some xs → Sec xs ∧ Maps.has D (ik i) = true ∧ ∀ z, D.atKey (ik i) z = .held xs) ∧ (∀ kl, Maps.has D kl = true → ∃ i, i < n ∧ kl = ik i) ∧ ∀ i, n ≤ i → T i = none)
    {i : Int} (h : Tz T i = none) : Maps.has D (.int .i64 i) = false := by
  cases hh : Maps.has D (.int .i64 i) with
  | false => rfl
  | true =>
    obtain ⟨k, hk, e⟩ := h2.2.1 _ hh
    injection e with _ e
    subst e
    rw [Tz_nat] at h
    have := (h2.1 k hk).1 h
    rw [hh] at this
    cases this
theorem mp_some {n : Nat} {T : Nat → Option (List Nat)} (h3 : ∀ i, n ≤ i → T i = none) {i : Int} {xs : List Nat} (h : Tz T i = some xs) : ∃ k : Nat, k < n ∧ i = (k : Int) ∧ T k = some xs := by
  unfold Tz at h
  split at h
  · rename_i h0
    refine ⟨i.toNat, ?_, by omega, h⟩
    rcases Nat.lt_or_ge i.toNat n with hl | hl
    · exact hl
    · rw [h3 _ hl] at h; cases h
  · cases h
/-- the first c bytes of a sector are others -/
def setSec (dur : List Nat) (k c : Nat) (xs : List Nat) : List Nat := (List.range dur.length).map (fun j => if k * 64 ≤ j ∧ j < k * 64 + c then xs.getD (j - k * 64) 0 else dur.getD j 0)
theorem setSec_len (dur : List Nat) (k c : Nat) (xs : List Nat) : (setSec dur k c xs).length = dur.length := by simp [setSec]
theorem setSec_get {dur : List Nat} {k c : Nat} {xs : List Nat} {j : Nat} (hj : j < dur.length) : (setSec dur k c xs).getD j 0 = if k * 64 ≤ j ∧ j < k * 64 + c then xs.getD (j - k * 64) 0 else dur.getD j 0 := by
  unfold setSec
  rw [List.getD_eq_getElem?_getD, List.getElem?_map, List.getElem?_range hj]; rfl
theorem setSec_byte {dur : List Nat} {k c : Nat} {xs : List Nat} (hd : ∀ x ∈ dur, x < 256) (hx : ∀ x ∈ xs, x < 256) : ∀ x ∈ setSec dur k c xs, x < 256 := by
  intro x hx'
  unfold setSec at hx'
  obtain ⟨j, hj, rfl⟩ := List.mem_map.1 hx'
  split
  · exact byte_getD hx _
  · exact byte_getD hd _
theorem Pt.newdur {w w' : World} {b d m n q : Nat} {dur dur' : List Nat} {T : Nat → Option (List Nat)} (h : Pt w b d m n q dur T) (k : Kp (fun x => x = d) w w') (hr : Dr w' d n (fun j => dur'.getD j 0)) (hl : dur'.length = n * 64) (hb : ∀ x ∈ dur', x < 256) : Pt w' b d m n q dur' T :=
  ⟨k.cellv h.c0 h.bd, (by obtain ⟨cp, hc, c1⟩ := h.c1; exact ⟨cp, hc, k.cellv c1 h.bd⟩), k.cellv h.c2 h.bd, k.cellv h.c3 h.bd, fun j => by rw [World.frozen?_of_block (w := w) (k.block b h.lt h.bd)]; exact h.fz j, hr, hl, hb, h.mp.keep k (fun e => h.dm e.symm), h.bd, h.bm, h.dm, h.n1, h.n2⟩
/-- how many bytes are kept of a torn sector -/
def torn64 (n : Int) : Nat := (min (max n 0) 64).toNat

set_option maxRecDepth 100000 in
set_option maxHeartbeats 800000 in
theorem settle_none {w : World} {b d m N q : Nat} {dur : List Nat} {T : Nat → Option (List Nat)} (h : Pt w b d m N q dur T) (i n : Int) (hw : (Lit.int .i64 i).wf = true) (hT : Tz T i = none) :
    Calls Tryz.prog 26 #[.pointer (some ⟨b, 0, none⟩), .int .i64 i, .int .i64 n] w fun e w' => e = .returned (.tuple #[]) ∧ Kp (fun _ => False) w w' := by
  have c2 := h.c2
  obtain ⟨D, hown, hDD⟩ := h.mp
  have hh := mp_none hDD hT
  have hkey : keyOf Tryz.prog 3 (.int .i64 i) = some (.int .i64 i) := keyOf_int_mk Tryz.underlying3 hw
  clear hDD h hT hw
  go_enter Tryz.func26, Tryz.ntmps26
  go_wp2_with (first
    | (at_lookup; go_must (refine wpList_lookup_sec rfl _ _ rfl m q D rfl hown _ _ rfl hkey ?_); intro ys hys hat)
    | (refine wpList_store_sec rfl _ _ rfl _ rfl ys hys rfl rfl ?_))
  go_end0
  exact ⟨rfl, (Kp.refl _ _).alloc _⟩

theorem slice_arr (g c : Nat) (hc : c ≤ 64) (w : World) : (Instr.sliceAt 88 (.pointer (some ⟨g, 0, none⟩)) none (some (.int .i64 (c : Int))) none).run Tryz.prog w = .ok (.slice (some ⟨g, 0, none⟩) c 64) w := by
  obtain ⟨i, hi, hz⟩ := Option.map_eq_some_iff.1 info5
  simp only [Prod.mk.injEq] at hz
  simp [Instr.sliceAt, Instr.sliceBounds, Instr.sliceBound, asIntOf, run_underlying Tryz.underlying88, sizeOf, typeInfo, hi, hc, Addr.add]
  rfl

set_option maxRecDepth 100000 in
set_option maxHeartbeats 800000 in
theorem settle_some {w : World} {b d m N q : Nat} {dur : List Nat} {T : Nat → Option (List Nat)} (h : Pt w b d m N q dur T) (i : Nat) (n : Int) (hi : (i : Int) < (N : Int)) (xs : List Nat) (hT : T i = some xs) :
    Calls Tryz.prog 26 #[.pointer (some ⟨b, 0, none⟩), .int .i64 (i : Int), .int .i64 n] w fun e w' => e = .returned (.tuple #[]) ∧ Kp (fun x => x = d) w w' ∧ Pt w' b d m N q (setSec dur i (torn64 n) xs) T := by
  have c2 := h.c2
  have hn2 : (N : Int) ≤ 8192 := by have := h.n2; omega
  obtain ⟨D, hown, hDD⟩ := h.mp
  obtain ⟨hsx, hh, hax⟩ := (hDD.1 i (by omega)).2 xs hT
  have hkey := ik_key i (by omega)
  have HP : Hid (Pt w b d m N q dur T) := h
  obtain ⟨c, hc⟩ : ∃ c, c = torn64 n := ⟨_, rfl⟩
  have hcn : min (max n 0) 64 = (c : Int) := by rw [hc]; unfold torn64; omega
  have hc64 : c ≤ 64 := by rw [hc]; unfold torn64; omega
  rw [← hc]
  clear hDD h
  go_enter Tryz.func26, Tryz.ntmps26
  go_wp2_with (first
    | (at_lookup; go_must (refine wpList_lookup_sec rfl _ _ rfl m q D rfl hown _ _ rfl hkey ?_); intro ys hys hat)
    | (refine wpList_store_sec rfl _ _ rfl _ rfl ys hys rfl rfl ?_))
  have hyx : ys = xs := by rw [hax] at hat; injection hat with hat; exact hat.symm
  subst hyx
  clear hat hax hsx hc hh hkey
  obtain ⟨w2, hw2⟩ : ∃ x, x = w.alloc (.cells (vl ys).toArray 88) := ⟨_, rfl⟩
  rw [← hw2]
  have hrs := sec_new_rb w hys 88
  rw [← hw2] at hrs
  have k2 : Kp (fun _ => False) w w2 := by rw [hw2]; exact (Kp.refl _ _).alloc _
  refine wp_region_still_tail 7 (by kernel_rfl) (by kernel_rfl) ?_
  obtain ⟨wd, hwd⟩ : ∃ x : World, x = { w2 with drawn := w2.drawn + 1 } := ⟨_, rfl⟩
  have kd : Kp (fun _ => False) w2 wd := by rw [hwd]; exact (Kp.refl _ _).drew
  rw [← hwd]
  have k1d := k2.trans kd (fun _ _ e => e)
  have HPd : Hid (Pt wd b d m N q dur T) := HP.out.keep k1d id id id
  have HSc : Hid (Calls _ _ _ wd _) := sector_ok HPd.out i hi
  have HRs : Hid (Rb wd (some ⟨w.heap.size, 0, none⟩) c (ys.take c)) := by
    have hr := hrs.keep0 kd
    obtain ⟨bb, oo, e, hcell⟩ := hr.pt (by omega)
    cases e
    exact ⟨by rw [List.length_take, hys.1]; omega, fun x hx => hys.2 x (List.mem_of_mem_take hx), fun j hj => ⟨_, _, rfl, by
      rw [hcell j (by omega), List.getD_eq_getElem?_getD, List.getD_eq_getElem?_getD, List.getElem?_take_of_lt hj]⟩⟩
  have hsl := fun w => slice_arr w2.heap.size c hc64 w
  have hsl := slice_arr w.heap.size c hc64
  have HY : Hid (Sec ys) := hys
  clear hwd hw2 hrs hown c2 hys
  simp only [List.take_succ_cons, List.take_zero, List.drop_succ_cons, List.drop_zero]
  iterate 2 still_step
  still_call HSc.out
  iterate 4 still_step
  refine wpStill_nil ?_
  refine wpList_copy_dr rfl _ _ rfl d i N 64 w.heap.size 0 64 c hc64 rfl rfl _ HPd.out.row (by omega) _ HRs.out ?_
  intro w3 k3 hz3 r3
  have HR : Hid (Kp (fun x => x = d) w w3 ∧ Pt w3 b d m N q (setSec dur i c ys) T) := by
    refine ⟨(k1d.mono (fun _ _ e => e.elim)).trans k3 (fun _ _ e => e), HPd.out.newdur k3 (r3.congr (fun j hj => ?_)) ?_ ?_⟩
    · rw [setSec_get (by rw [HPd.out.len]; exact hj)]
      by_cases h1 : i * 64 ≤ j ∧ j < i * 64 + c
      · rw [if_pos h1, if_pos h1, List.getD_eq_getElem?_getD, List.getD_eq_getElem?_getD, List.getElem?_take_of_lt (by omega)]
      · rw [if_neg h1, if_neg h1]
    · rw [setSec_len]; exact HPd.out.len
    · exact setSec_byte HPd.out.byte HY.out.2
  clear r3 HPd HRs HSc k3
  go_wp2
  go_end0
  exact ⟨rfl, HR.out⟩

/-- what is durable when a number's sector is settled -/
def settleD (dur : List Nat) (T : Nat → Option (List Nat)) (i : Int) (c : Nat) : List Nat := match Tz T i with
  | some xs => setSec dur i.toNat c xs
  | none => dur

theorem settle_any {w : World} {b d m N q : Nat} {dur : List Nat} {T : Nat → Option (List Nat)} (h : Pt w b d m N q dur T) (i n : Int) (hw : (Lit.int .i64 i).wf = true) :
    Calls Tryz.prog 26 #[.pointer (some ⟨b, 0, none⟩), .int .i64 i, .int .i64 n] w fun e w' => e = .returned (.tuple #[]) ∧ Kp (fun x => x = d) w w' ∧ Pt w' b d m N q (settleD dur T i (torn64 n)) T := by
  cases hT : Tz T i with
  | none =>
    refine (settle_none h i n hw hT).mono ?_
    rintro e w' ⟨rfl, k⟩
    refine ⟨rfl, k.mono (fun _ _ e => e.elim), ?_⟩
    unfold settleD
    rw [hT]
    exact h.keep k id id id
  | some xs =>
    obtain ⟨D, hown, hDD⟩ := h.mp
    obtain ⟨k, hk, rfl, hTk⟩ := mp_some hDD.2.2 hT
    refine (settle_some h k n (by omega) xs hTk).mono ?_
    rintro e w' ⟨rfl, kk, hp⟩
    refine ⟨rfl, kk, ?_⟩
    unfold settleD
    rw [hT]
    exact hp

/-- numbers, as they lie -/
def Rz (w : World) (p : Option Addr) (zs : List Int) : Prop := ∀ j, j < zs.length → ∃ b o, p = some ⟨b, o, none⟩ ∧ w.cell? ⟨b, o + j, none⟩ = some (.int .i64 (zs.getD j 0))
/-- what is durable when the sectors of many numbers are settled -/
def settleL (dur : List Nat) (T : Nat → Option (List Nat)) (zs : List Int) : List Nat := zs.foldl (fun a z => settleD a T z 64) dur
theorem settleL_take {dur : List Nat} {T : Nat → Option (List Nat)} {zs : List Int} {k : Nat} (hk : k < zs.length) : settleL dur T (zs.take (k + 1)) = settleD (settleL dur T (zs.take k)) T (zs.getD k 0) 64 := by
  unfold settleL
  rw [List.take_add_one, List.getElem?_eq_getElem hk, List.foldl_append, List.getD_eq_getElem?_getD, List.getElem?_eq_getElem hk]
  rfl
def crashD (dur : List Nat) (T : Nat → Option (List Nat)) (zs : List Int) (i n : Int) : List Nat := settleD (settleL dur T zs) T i (torn64 n)

set_option maxRecDepth 100000 in
set_option maxHeartbeats 1600000 in
theorem crash_ok {w : World} {b d m N q : Nat} {dur : List Nat} {T : Nat → Option (List Nat)} (h : Pt w b d m N q dur T) (p : Option Addr) (cap : Nat) (zs : List Int) (i n : Int) (hz : ∀ w', Kp (fun x => x = d) w w' → Rz w' p zs) (hzw : ∀ z ∈ zs, (Lit.int .i64 z).wf = true) (hw : (Lit.int .i64 i).wf = true) (hl : (zs.length : Int) ≤ 9223372036854775807) :
    Calls Tryz.prog 7 #[.pointer (some ⟨b, 0, none⟩), .slice p zs.length cap, .int .i64 i, .int .i64 n] w fun e w' => e = .returned (.int .i64 0) ∧ Kp (fun x => x = d ∨ x = m) w w' ∧ Pt w' b d m N 0 (crashD dur T zs i n) (fun _ => none) := by
  have H : Hid (Calls _ _ _ w _) := state_ok h
  have HP : Hid (Pt w b d m N q dur T) := h
  have HZ : Hid _ := hz
  have HZW : Hid _ := hzw
  have HW : Hid (_ = true) := hw
  have HLn : Hid ((zs.length : Int) ≤ 9223372036854775807) := hl
  obtain ⟨L, hL⟩ : ∃ L, L = zs.length := ⟨_, rfl⟩
  rw [← hL]
  rw [← hL] at hl
  have HLL : Hid (L = zs.length) := hL
  clear h hz hzw hw hL
  go_enter Tryz.func7, Tryz.ntmps7
  go_wp2_with (go_at_call 25; refine H.out.mono ?_; rintro e w' ⟨rfl, hw⟩; obtain rfl := hw.symm)
  go_loopg [19] L (fun gk x wr => ∃ k : Nat, k ≤ L ∧ gk = L - k ∧ x = .int .i64 k ∧ Kp (fun x => x = d) w wr ∧ Hid (Pt wr b d m N q (settleL dur T (zs.take k)) T))
  case atStart => exact ⟨0, Nat.zero_le _, rfl, rfl, Kp.refl _ _, HP.out⟩
  case round =>
    obtain ⟨k, hk, rfl, rfl, hK, hPk⟩ := hrel
    by_cases hlt : (k : Int) < (L : Int)
    · obtain ⟨zb, zo, rfl, zc⟩ := HZ.out wr hK k (by have := HLL.out; omega)
      have hmem : zs.getD k 0 ∈ zs := by
        have hkl : k < zs.length := by have := HLL.out; omega
        rw [List.getD_eq_getElem?_getD, List.getElem?_eq_getElem hkl]; exact List.getElem_mem hkl
      have HSe : Hid (Calls _ _ _ wr _) := settle_any hPk.out (zs.getD k 0) 64 (HZW.out _ hmem)
      have HT1 : Hid (settleL dur T (zs.take (k + 1)) = _) := settleL_take (dur := dur) (T := T) (zs := zs) (k := k) (by have := HLL.out; omega)
      generalize zs.getD k 0 = z at *
      clear hmem HZW HZ
      go_wp2_with (go_at_call 26; refine HSe.out.mono ?_; rintro e w1 ⟨rfl, k1, hP1⟩)
      have HPn : Hid (Pt w1 b d m N q (settleL dur T (zs.take (k + 1))) T) := by
        show Pt _ _ _ _ _ _ _ _
        rw [HT1.out]; exact hP1
      clear hP1 HT1 HSe zc
      go_roundg (L - (k + 1))
      case rel => exact ⟨k + 1, by omega, rfl, by go_num, hK.trans k1 (fun _ _ e => e), HPn.out⟩
      case measure => omega
    · have e : k = zs.length := by have := HLL.out; omega
      have HP2 : Hid (Pt wr b d m N q (settleL dur T zs) T) := by
        have := hPk.out
        rw [e, List.take_length] at this
        exact this
      have HSe : Hid (Calls _ _ _ wr _) := settle_any HP2.out i n HW.out
      have c2 := HP2.out.c2
      clear hPk HZW HZ e
      go_wp2_with fail
      refine HSe.out.mono ?_
      rintro e w1 ⟨rfl, k1, hP1⟩
      have c21 := hP1.c2
      obtain ⟨D, hown, hDD⟩ := hP1.mp
      have HP1 : Hid _ := hP1
      clear hP1 c2 HSe hDD
      go_wp2_with (refine wpList_clear_map rfl _ rfl m q D rfl hown ?_; intro w2 hown2 k2)
      go_ret
      refine ⟨rfl, ?_, ?_⟩
      · exact ((hK.trans k1 (fun _ _ e => e)).mono (S' := fun x => x = d ∨ x = m) (fun _ _ e => Or.inl e)).trans k2 (fun _ _ e => Or.inr e)
      · exact HP1.out.newmap k2 ⟨_, hown2, fun i _ => ⟨fun _ => rfl, fun xs h => (by cases h)⟩, fun kl h => (by cases h), fun _ _ => rfl⟩
end Go.Proofs.YtippipeebkkghaaGreatDoor

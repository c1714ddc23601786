/- Texts of this proof, joined: MfCn, MfS2, MfSr, MfFx. -/
import Derived.Test.YtmncocmeafcpfaaDoorMgAK
import Derived.Test.YtmncocmeafcpfaaDoorMgAE
import Derived.Test.YtmncocmeafcpfaaDoorMgAG
import Derived.Test.YtmncocmeafcpfaaDoorMgAI
import Derived.Deep.RegionLaw
import Derived.Deep.Slices
import Derived.SizedLaws
/- A slice of bytes that came in, as the laws' walks take it. -/
namespace Go.Proofs.YtmncocmeafcpfaaDoor.Mf
open Go.ChangeShapes Go.WideShapes Go.ChangeAt Go.RowKit
theorem bs_of_ns {w : World} {v : Value} {n : Nat} {z : Nat → Int} (h : Ns .u8 w v n z) : ∃ f, Bs w v n f := by
  obtain ⟨pa, ba, oa, ca, h1, h2, h3, h4, _⟩ := h
  refine ⟨fun j => if j < n then (z j).toNat else 0, pa, ba, oa, ca, h1, h2, fun j hj => ?_, fun j => ?_⟩
  · have := bounds_u8 (h4 j hj)
    dsimp only
    rw [h3 j hj, if_pos hj, Int.toNat_of_nonneg this.1]
  · dsimp only
    by_cases hj : j < n
    · have := bounds_u8 (h4 j hj)
      rw [if_pos hj]; omega
    · rw [if_neg hj]; omega
end Go.Proofs.YtmncocmeafcpfaaDoor.Mf

/- The walk of the verifier's code; what the laws of stripe take. -/
namespace Go.Proofs.YtmncocmeafcpfaaDoor.Mf
open Go.RowKit Go.Deep

/-- The value v reads as la bytes f, with room for them. -/
def Bc (w : World) (v : Value) (la : Nat) (f : Nat → Nat) : Prop :=
  ∃ pa ba oa ca, v = .slice pa la ca ∧ (∀ k, k < la → pa = some ⟨ba, oa, none⟩) ∧ (∀ k, k < la → w.cell? ⟨ba, oa + k, none⟩ = some (.int .u8 ((f k : Nat) : Int))) ∧ (∀ k, f k < 256) ∧ la ≤ ca
theorem bc_of_ns {w : World} {v : Value} {n : Nat} {z : Nat → Int} (h : Ns .u8 w v n z) : ∃ f, Bc w v n f := by
  obtain ⟨f, hb⟩ := bs_of_ns h
  obtain ⟨pa, ba, oa, ca, h1, h2, h3, h4, _, h6⟩ := h
  obtain ⟨pa', ba', oa', ca', e1, e2, e3, e4⟩ := hb
  refine ⟨f, pa', ba', oa', ca', e1, e2, e3, e4, ?_⟩
  rw [h1] at e1
  have := congrArg (fun v => match v with | Value.slice _ _ c => c | _ => 0) e1
  simp only at this
  omega
end Go.Proofs.YtmncocmeafcpfaaDoor.Mf

/- The reference's stripes, Length and Cut. -/
namespace Go.Proofs.YtmncocmeafcpfaaDoor.Mf
open Go.RowKit Go.Deep

set_option maxRecDepth 100000 in
set_option maxHeartbeats 1600000 in
theorem refStripes_yes (K M size : Nat) (w : World) (h1 : 1 ≤ (K : Int)) (h3 : (M : Int) ≤ 255 - (K : Int)) (hs : (size : Int) ≤ 400) :
    Calls Tryd.prog 45 #[.agg #[.int .i64 K, .int .i64 M], .int .i64 size] w fun e w' => e = .returned (.int .i64 (stripesOf K size : Int)) ∧ Kp (fun _ => False) w w' := by
  have hq := quot_eq (K := K) (size := size) (by omega)
  have hq2 := quot_le (K := K) (size := size) (by omega) (by omega)
  have HL : Hid (stripesOf K size = max 1 ((size + K * 8 - 1) / (K * 8))) := rfl
  generalize (size + K * 8 - 1) / (K * 8) = Q at *
  have d2 : ((K : Int) * 8 == 0) = false := beq_eq_false_iff_ne.2 (by omega)
  go_enter Tryd.func45, Tryd.ntmps45
  go_wp2
  · go_ret
    exact ⟨by rw [show (stripesOf K size : Int) = (Q : Int) from by rw [HL.out]; omega]; rfl, (Kp.refl _ _).alloc _⟩
  · go_ret
    exact ⟨by rw [show (stripesOf K size : Int) = 1 from by rw [HL.out]; omega]; rfl, (Kp.refl _ _).alloc _⟩

set_option maxRecDepth 100000 in
set_option maxHeartbeats 1600000 in
theorem refLength_yes (K M size : Nat) (w : World) (h1 : 1 ≤ (K : Int)) (h3 : (M : Int) ≤ 255 - (K : Int)) (hs : (size : Int) ≤ 400) :
    Calls Tryd.prog 44 #[.agg #[.int .i64 K, .int .i64 M], .int .i64 size] w fun e w' => e = .returned (.int .i64 (lenOf K size : Int)) ∧ Kp (fun _ => False) w w' := by
  obtain ⟨wa, hwa, ka, za, q1, q2⟩ := code_alloc w K M
  have HC : Hid (Calls _ _ _ wa _) := refCan_yes K M wa h1 (by omega) h3
  have d1 : decide (400 < (size : Int)) = false := by simp; omega
  have HS : Hid (∀ w, Calls _ _ _ w _) := fun w => refStripes_yes K M size w h1 h3 hs
  have hsb : (stripesOf K size : Int) ≤ 50 := by have := quot_le (K := K) (size := size) (by omega) (by omega); unfold stripesOf; omega
  have HL : Hid (lenOf K size = stripesOf K size * 8) := rfl
  generalize stripesOf K size = Q at *
  go_enter Tryd.func44, Tryd.ntmps44
  go_wp2_with fail
  rw [← hwa]
  refine HC.out.mono ?_
  rintro e w1 ⟨rfl, k1⟩
  have r1 := k1.cellv q1 id
  have r2 := k1.cellv q2 id
  have kk := ka.trans k1 (fun _ _ e => e)
  clear hwa
  go_wp2_with fail
  refine (HS.out _).mono ?_
  rintro e w2 ⟨rfl, k2⟩
  go_wp2
  go_ret
  exact ⟨by rw [show (lenOf K size : Int) = 8 * (Q : Int) from by rw [HL.out]; omega]; rfl, kk.trans k2 (fun _ _ e => e)⟩

set_option maxRecDepth 100000 in
set_option maxHeartbeats 1600000 in
theorem refLength_no (K M size : Int) (w : World) (h : ¬ ((1 ≤ K ∧ 0 ≤ M ∧ M ≤ 255 - K) ∧ 0 ≤ size ∧ size ≤ 400)) :
    Calls Tryd.prog 44 #[.agg #[.int .i64 K, .int .i64 M], .int .i64 size] w fun e w' => e = .returned (.int .i64 0) ∧ Kp (fun _ => False) w w' := by
  obtain ⟨wa, hwa, ka, za, q1, q2⟩ := code_alloc w K M
  by_cases hc : 1 ≤ K ∧ 0 ≤ M ∧ M ≤ 255 - K
  · have HC : Hid (Calls _ _ _ wa _) := refCan_yes K M wa hc.1 hc.2.1 hc.2.2
    have hs : size < 0 ∨ 400 < size := by omega
    rcases hs with hs | hs
    · clear h hc
      go_enter Tryd.func44, Tryd.ntmps44
      go_wp2_with fail
      rw [← hwa]
      refine HC.out.mono ?_
      rintro e w1 ⟨rfl, k1⟩
      clear hwa
      go_wp2
      go_ret
      exact ⟨rfl, ka.trans k1 (fun _ _ e => e)⟩
    · have hs' : ¬ size < 0 := by omega
      clear h hc
      go_enter Tryd.func44, Tryd.ntmps44
      go_wp2_with fail
      rw [← hwa]
      refine HC.out.mono ?_
      rintro e w1 ⟨rfl, k1⟩
      clear hwa
      go_wp2
      go_ret
      exact ⟨rfl, ka.trans k1 (fun _ _ e => e)⟩
  · have HC : Hid (Calls _ _ _ wa _) := refCan_no K M wa hc
    clear h hc
    go_enter Tryd.func44, Tryd.ntmps44
    go_wp2_with fail
    rw [← hwa]
    refine HC.out.mono ?_
    rintro e w1 ⟨rfl, k1⟩
    clear hwa
    go_wp2
    go_ret
    exact ⟨rfl, ka.trans k1 (fun _ _ e => e)⟩

set_option maxRecDepth 100000 in
set_option maxHeartbeats 1600000 in
theorem length_no (K M size : Int) (w : World) (hw : 1 ≤ K → wrap64 (255 - K) = 255 - K) (h : ¬ ((1 ≤ K ∧ 0 ≤ M ∧ M ≤ 255 - K) ∧ 0 ≤ size ∧ size ≤ 400)) :
    Calls Tryd.prog 95 #[.agg #[.int .i64 K, .int .i64 M], .int .i64 size] w fun e w' => e = .returned (.int .i64 0) ∧ Kp (fun _ => False) w w' := by
  obtain ⟨wa, hwa, ka, za, q1, q2⟩ := code_alloc w K M
  by_cases hc : 1 ≤ K ∧ 0 ≤ M ∧ M ≤ 255 - K
  · have HC : Hid (Calls _ _ _ wa _) := can_yes K M wa hc.1 hc.2.1 hc.2.2
    have hs : size < 0 ∨ 400 < size := by omega
    rcases hs with hs | hs
    · clear h hc hw
      go_enter Tryd.func95, Tryd.ntmps95
      go_wp2_with fail
      rw [← hwa]
      refine HC.out.mono ?_
      rintro e w1 ⟨rfl, k1⟩
      clear hwa
      go_wp2
      go_ret
      exact ⟨rfl, ka.trans k1 (fun _ _ e => e)⟩
    · have hs' : ¬ size < 0 := by omega
      clear h hc hw
      go_enter Tryd.func95, Tryd.ntmps95
      go_wp2_with fail
      rw [← hwa]
      refine HC.out.mono ?_
      rintro e w1 ⟨rfl, k1⟩
      clear hwa
      go_wp2
      go_ret
      exact ⟨rfl, ka.trans k1 (fun _ _ e => e)⟩
  · have HC : Hid (Calls _ _ _ wa _) := can_no K M wa hw hc
    clear h hc hw
    go_enter Tryd.func95, Tryd.ntmps95
    go_wp2_with fail
    rw [← hwa]
    refine HC.out.mono ?_
    rintro e w1 ⟨rfl, k1⟩
    clear hwa
    go_wp2
    go_ret
    exact ⟨rfl, ka.trans k1 (fun _ _ e => e)⟩

set_option maxRecDepth 100000 in
set_option maxHeartbeats 1600000 in
theorem cut_no (K M : Int) (p : Option Addr) (la ca : Nat) (w : World) (hw : 1 ≤ K → wrap64 (255 - K) = 255 - K) (h : ¬ ((1 ≤ K ∧ 0 ≤ M ∧ M ≤ 255 - K) ∧ (la : Int) ≤ 400)) :
    Calls Tryd.prog 101 #[.agg #[.int .i64 K, .int .i64 M], .slice p la ca] w fun e w' => e = .returned (.tuple #[.slice none 0 0, .int .i64 1]) ∧ Kp (fun _ => False) w w' := by
  obtain ⟨wa, hwa, ka, za, q1, q2⟩ := code_alloc w K M
  have HC : Hid (Calls _ _ _ wa _) := length_no K M la wa hw (by omega)
  clear h hw
  go_enter Tryd.func101, Tryd.ntmps101
  go_wp2_with fail
  rw [← hwa]
  refine HC.out.mono ?_
  rintro e w1 ⟨rfl, k1⟩
  clear hwa
  go_wp2
  go_ret2
  exact ⟨rfl, ka.trans k1 (fun _ _ e => e)⟩

set_option maxRecDepth 100000 in
set_option maxHeartbeats 1600000 in
theorem refCut_no (K M : Int) (p : Option Addr) (la ca : Nat) (w : World) (h : ¬ ((1 ≤ K ∧ 0 ≤ M ∧ M ≤ 255 - K) ∧ (la : Int) ≤ 400)) :
    Calls Tryd.prog 13 #[.agg #[.int .i64 K, .int .i64 M], .slice p la ca] w fun e w' => e = .returned (.tuple #[.slice none 0 0, .int .i64 1]) ∧ Kp (fun _ => False) w w' := by
  obtain ⟨wa, hwa, ka, za, q1, q2⟩ := code_alloc w K M
  have HC : Hid (Calls _ _ _ wa _) := refLength_no K M la wa (by omega)
  clear h
  go_enter Tryd.func13, Tryd.ntmps13
  go_wp2_with fail
  rw [← hwa]
  refine HC.out.mono ?_
  rintro e w1 ⟨rfl, k1⟩
  clear hwa
  go_wp2
  go_ret2
  exact ⟨rfl, ka.trans k1 (fun _ _ e => e)⟩
end Go.Proofs.YtmncocmeafcpfaaDoor.Mf

/- How texts of bytes come in, as the walks take them. -/
namespace Go.Proofs.YtmncocmeafcpfaaDoor.Mf
open Go.ChangeShapes Go.WideShapes Go.ChangeAt Go.RowKit Go.Deep

/-- The value v reads as the texts s; none of them is longer than any memory. -/
structure Tw (w : World) (v : Value) (s : Sh) : Prop where
  val : v = .slice s.g s.G s.cap
  rd : Rd w s
  cap : s.G ≤ s.cap
  lc : ∀ r, r < s.G → s.L r ≤ s.C r
  big : s.G * 24 ≤ 140737488355328
  long : ∀ r, r < s.G → s.L r ≤ 140737488355328

theorem weights_in {H : Type} {P : Program} {e : TypeId} {d : DataW H} : ∀ {l : List (DataW H)}, d ∈ l → ∀ n, n ∈ d.weights P e → n ∈ DataW.weightsAll P e l
  | [], h, _, _ => by cases h
  | x :: r, h, n, hn => by
    simp only [DataW.weightsAll, List.mem_append]
    rcases List.mem_cons.1 h with e | h
    · rw [← e]; exact Or.inl hn
    · exact Or.inr (weights_in h n hn)
/-- what the rows' sizes say of a parameter that is texts -/
theorem sized_texts {H : Type} {ts : List TypeId} {ds : List (DataW H)} {j : Nat} {elems spare : List (DataW H)} (h : (DataW.weightsEach Tryd.prog ts ds).all (· ≤ reachBytes) = true) (ht : ts[j]? = some 27) (hd : ds[j]? = some (.slice elems spare)) :
    (elems.length + spare.length) * 24 ≤ 140737488355328 ∧ ∀ e' s', DataW.slice e' s' ∈ elems → e'.length + s'.length ≤ 140737488355328 := by
  have hr : reachBytes ≤ 140737488355328 := by have := reachBytes_lt; omega
  have b1 : Tryd.prog.bytesOf 22 = 24 := by kernel_rfl
  have b2 : Tryd.prog.bytesOf 5 = 1 := by kernel_rfl
  refine ⟨?_, fun e' s' hx => ?_⟩
  · have := sized_slice h ht hd Tryd.underlying27
    rw [b1] at this; omega
  · have h2 := List.all_eq_true.1 h _ (DataW.weights_mem_each ht hd ((e'.length + s'.length) * Tryd.prog.bytesOf 5) (by
      simp only [DataW.weights, Tryd.underlying27, List.mem_cons, List.mem_append]
      exact Or.inr (Or.inl (weights_in hx _ (by simp [DataW.weights, Tryd.underlying22])))))
    have h3 := of_decide_eq_true h2
    rw [b2] at h3; omega

theorem texts_of_trod {H : Type} {enc : TypeId × Value → H} {W : World} {a : Option Addr} {len cap : Nat} {d : DataW H} {p : List MemPlace}
    (h : DataW.Trod enc Tryd.prog W 0 (fun _ => true) true 27 (.slice a len cap) d p)
    (hw : ∀ elems spare, d = .slice elems spare → (elems.length + spare.length) * 24 ≤ 140737488355328 ∧ ∀ e' s', DataW.slice e' s' ∈ elems → e'.length + s'.length ≤ 140737488355328) : ∃ s, Tw W (.slice a len cap) s := by
  obtain ⟨fuel, hf⟩ := h
  rcases open_slice1 Tryd.underlying27 (by kernel_rfl) hf with ⟨hcs, _⟩ | ⟨x, l, c, m, n, V, D, Pl, hcs, _, hl, hm, hmm, hx, hel⟩
  · simp [Value.cells] at hcs
    obtain ⟨rfl, rfl, rfl⟩ := hcs
    exact ⟨⟨none, 0, 0, 0, 0, fun _ => none, fun _ => 0, fun _ => 0, fun _ => 0, fun _ => 0, fun _ _ => 0⟩, rfl, ⟨fun h => absurd h (Nat.lt_irrefl _), fun r h => absurd h (Nat.not_lt_zero _), fun r h => absurd h (Nat.not_lt_zero _), fun r h => absurd h (Nat.not_lt_zero _), fun _ _ => by simp⟩, Nat.le_refl _, fun r h => absurd h (Nat.not_lt_zero _), by simp, fun r h => absurd h (Nat.not_lt_zero _)⟩
  · simp [Value.cells] at hcs
    obtain ⟨rfl, rfl, rfl⟩ := hcs
    have hmc : m = cap := by simpa using hmm
    obtain ⟨hd, _⟩ := Prod.mk.inj hx
    obtain ⟨w1, w2⟩ := hw _ _ hd
    simp only [List.length_map, List.length_range] at w1
    obtain ⟨F, hF⟩ := choose_lt (α := Option Addr × Nat × Nat × Nat × Nat × (Nat → Nat)) (n := len) (p := fun i t => V i = .slice t.1 t.2.1 t.2.2.1 ∧ (∀ k, k < t.2.1 → t.1 = some ⟨t.2.2.2.1, t.2.2.2.2.1, none⟩) ∧ (∀ k, k < t.2.1 → W.cell? ⟨t.2.2.2.1, t.2.2.2.2.1 + k, none⟩ = some (.int .u8 ((t.2.2.2.2.2 k : Nat) : Int))) ∧ (∀ k, t.2.2.2.2.2 k < 256) ∧ t.2.1 ≤ t.2.2.1 ∧ t.2.1 ≤ 140737488355328) (fun i hi => by
      obtain ⟨_, ht⟩ := hel i (by omega)
      rcases open_ints Tryd.underlying22 Tryd.underlying5 (by kernel_rfl) ht with ⟨hv, _⟩ | ⟨y, l', c', zs, hv, hxx, hl', _, hz, hDx, hcell, hwz⟩
      · have hv' : V i = .slice none 0 0 := by simpa using hv
        exact ⟨(none, 0, 0, 0, 0, fun _ => 0), hv', fun k hk => absurd hk (Nat.not_lt_zero _), fun k hk => absurd hk (Nat.not_lt_zero _), fun _ => by simp, Nat.le_refl _, by simp⟩
      · have hv' : V i = .slice (some y) l' c' := by simpa using hv
        have htr : DataW.Trod enc Tryd.prog W 0 (fun _ => true) true 22 (.slice (some y) l' c') (D i) (Pl i) := ⟨n, by rw [hv] at ht; simpa [Value.cells] using ht⟩
        obtain ⟨zs', hr⟩ := row_of_trod (k := .u8) Tryd.underlying22 Tryd.underlying5 (by kernel_rfl) htr
        obtain ⟨f, pa, ba, oa, ca, e1, e2, e3, e4⟩ := bs_of_ns (ns_of_row hr)
        simp only [Value.slice.injEq] at e1
        obtain ⟨rfl, _, rfl⟩ := e1
        refine ⟨(some y, l', c', ba, oa, f), hv', e2, e3, e4, hl', ?_⟩
        have hlen := w2 (lits .u8 (zs.take l')) (lits .u8 (zs.drop l')) (by
          refine List.mem_map.2 ⟨i, List.mem_range.2 hi, ?_⟩
          exact (Prod.mk.inj hDx).1)
        simp only [lits, List.length_map, List.length_take, List.length_drop] at hlen
        simp at hz
        show l' ≤ _
        omega)
    obtain ⟨b, off, spot⟩ := x
    by_cases h0 : len = 0
    · subst h0
      exact ⟨⟨some ⟨b, off, spot⟩, 0, cap, 0, 0, fun _ => none, fun _ => 0, fun _ => 0, fun _ => 0, fun _ => 0, fun _ _ => 0⟩, rfl, ⟨fun h => absurd h (Nat.lt_irrefl _), fun r h => absurd h (Nat.not_lt_zero _), fun r h => absurd h (Nat.not_lt_zero _), fun r h => absurd h (Nat.not_lt_zero _), fun _ _ => by simp⟩, Nat.zero_le _, fun r h => absurd h (Nat.not_lt_zero _), by simp, fun r h => absurd h (Nat.not_lt_zero _)⟩
    · have hc0 := (hel 0 (by omega)).1
      have hspot : spot = none := by simpa [Addr.add] using World.cell?_spot hc0
      subst hspot
      refine ⟨⟨some ⟨b, off, none⟩, len, cap, b, off, fun i => (F i).1, fun i => (F i).2.1, fun i => (F i).2.2.1, fun i => (F i).2.2.2.1, fun i => (F i).2.2.2.2.1, fun i => if i < len then (F i).2.2.2.2.2 else fun _ => 0⟩, rfl, ⟨fun _ => rfl, fun r hr => ?_, fun r hr c hc => (hF r hr).2.1 c hc, fun r hr c hc => ?_, fun r c => ?_⟩, hl, fun r hr => (hF r hr).2.2.2.2.1, by show len * 24 ≤ _; omega, fun r hr => (hF r hr).2.2.2.2.2⟩
      · have h1 := (hel r (by simp only at hr; omega)).1
        rw [(hF r hr).1] at h1
        rw [show (⟨b, off, none⟩ : Addr).add r = ⟨b, off + r, none⟩ from by simp [Addr.add]] at h1
        exact h1
      · have := (hF r hr).2.2.1 c hc
        simp only at hr
        simp only [if_pos hr]
        exact this
      · simp only
        split
        · rename_i hr; exact (hF r hr).2.2.2.1 c
        · simp
end Go.Proofs.YtmncocmeafcpfaaDoor.Mf

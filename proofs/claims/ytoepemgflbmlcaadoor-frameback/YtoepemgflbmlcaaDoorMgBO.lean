/- Texts of this proof, joined: Pa1, Fv. -/
import Derived.Test.YtoepemgflbmlcaaDoorMgBM
import Derived.Test.YtoepemgflbmlcaaDoorMgBG
import Derived.Test.YtoepemgflbmlcaaDoorMgAM
import Derived.Deep.RegionWith
/- FrameOnce, plain: what is read is written so. -/
namespace Go.Proofs.YtoepemgflbmlcaaDoor
set_option linter.unusedVariables false
set_option linter.unusedSimpArgs false

theorem keyB_str {s : List Nat} (h : ∀ x ∈ s, x < 256) : keyB (str s) = s := by
  have e : keyB (str s) = s.map id := by
    unfold keyB str
    rw [strOfNums_data, List.map_map, List.map_map]
    refine List.map_congr_left (fun x hx => ?_)
    show (UInt8.ofNat (Int.toNat (x : Int))).toNat = x
    rw [Int.toNat_natCast]
    exact UInt8.toNat_ofNat_of_lt' (h x hx)
  rw [e, List.map_id]
theorem ints_back (ns : List Nat) : (intsOf ns).map Int.toNat = ns := by
  unfold intsOf
  rw [List.map_map]
  have : (Int.toNat ∘ fun x : Nat => (x : Int)) = id := by funext x; exact Int.toNat_natCast x
  rw [this, List.map_id]
theorem cpOf_csOf {c : Cp} (h : ∀ x ∈ c.key, x < 256) : cpOf (csOf c) (intsOf c.nodes) = c := by
  unfold cpOf csOf
  dsimp only
  rw [keyB_str h, ints_back]
  simp only [Int.toNat_natCast]
theorem key_mem {c : Cp} {x : Nat} (h : x ∈ c.key) : x ∈ cmdB c := by
  unfold cmdB
  exact List.mem_append_right _ (List.mem_append_left _ h)
theorem mpOf_msOf {m : Mp} (h : ∀ x ∈ m.c.key, x < 256) (hv : ∀ v ∈ m.votes, ∀ x ∈ v.c.key, x < 256) : mpOf (msOf m) = m := by
  unfold mpOf msOf
  dsimp only
  rw [cpOf_csOf h, List.map_map]
  have : m.votes.map (vpOf ∘ voOf) = m.votes := by
    have h1 : m.votes.map (vpOf ∘ voOf) = m.votes.map id := List.map_congr_left (fun v hm => by
      show vpOf (voOf v) = v
      unfold vpOf voOf
      dsimp only
      rw [cpOf_csOf (hv v hm), Int.toNat_natCast, Int.toNat_natCast])
    rw [h1, List.map_id]
  rw [this]
  simp only [Int.toNat_natCast]
/-- a command that is read: it is written so -/
theorem okC_back {xs : List Nat} {c : Cp} (hb : ∀ x ∈ xs, x < 256) (h : okC xs = some c) : mayC (csOf c) (intsOf c.nodes) = true ∧ c.fit ∧ cmdB (cpOf (csOf c) (intsOf c.nodes)) = xs := by
  unfold okC at h
  obtain ⟨⟨c', t⟩, h1, h2⟩ := Option.bind_eq_some_iff.1 h
  dsimp only at h2
  split at h2
  · rename_i hc
    injection h2 with h2
    subst h2
    obtain ⟨e, hf, _⟩ := rdCmd_back hb h1
    rw [hc.1, List.append_nil] at e
    refine ⟨hc.2, hf, ?_⟩
    rw [cpOf_csOf (fun x hx => hb x (by rw [e]; exact key_mem hx)), ← e]
  · cases h2
theorem okM_back {xs : List Nat} {m : Mp} (hb : ∀ x ∈ xs, x < 256) (h : okM xs = some m) : mayM (msOf m) = true ∧ m.fit ∧ msgB (mpOf (msOf m)) = xs := by
  unfold okM at h
  obtain ⟨⟨c', t⟩, h1, h2⟩ := Option.bind_eq_some_iff.1 h
  dsimp only at h2
  split at h2
  · rename_i hc
    injection h2 with h2
    subst h2
    obtain ⟨e, hf, _, _⟩ := rdMsg_back hb h1
    rw [hc.1, List.append_nil] at e
    refine ⟨hc.2, hf, ?_⟩
    have hk : ∀ x ∈ c'.c.key, x < 256 := fun x hx => hb x (by
      rw [e]
      unfold msgB
      exact List.mem_append_right _ (List.mem_append_right _ (List.mem_append_left _ (key_mem hx))))
    have hv : ∀ v ∈ c'.votes, ∀ x ∈ v.c.key, x < 256 := fun v hm x hx => hb x (by
      rw [e]
      unfold msgB
      refine List.mem_append_right _ (List.mem_append_right _ (List.mem_append_right _ (List.mem_append_right _ (List.mem_append_left _ ?_))))
      unfold votesB
      exact List.mem_flatMap.2 ⟨v, hm, by unfold voteB; exact List.mem_append_right _ (key_mem hx)⟩)
    rw [mpOf_msOf hk hv, ← e]
  · cases h2
/-- the error of reading, plain -/
def erC (xs : List Nat) : Int := if (okC xs).isSome then 0 else 51
def erM (xs : List Nat) : Int := if (okM xs).isSome then 0 else 51
theorem AtRes.once {xs : List Nat} {w : World} {e : Ending} {w' : World} (hb : ∀ x ∈ xs, x < 256) (h : AtRes xs w e w') : ∃ xa : Array Value, e = .returned (.tuple #[.agg xa, .int .i64 (erC xs)]) ∧ xa.toList.length = 12 ∧ xa.toList.toArray.all (·.oneCell') = true ∧ (erC xs = 0 → ∀ u, Kp (fun _ => False) w' u → Calls Tryd.prog 7 #[.agg xa] u fun e w' => ∃ q m cap, e = .returned (.tuple #[.slice q m cap, .int .i64 0]) ∧ Rb w' q m xs ∧ Kp (fun _ => False) u w') := by
  unfold AtRes at h
  unfold erC
  cases hm : okC xs with
  | none =>
    rw [hm] at h
    exact ⟨_, h, rfl, cmd_one ⟨0, 0, ⟨#[]⟩, 0, 0, 0, 0, 0, 0, 0, 0⟩ (v := .slice none 0 0) rfl, fun e => (by cases e)⟩
  | some c =>
    rw [hm] at h
    obtain ⟨q, cap, he, hf⟩ := h
    obtain ⟨h1, h2, h3⟩ := okC_back hb hm
    have hl : (intsOf c.nodes).length = c.nodes.length := intsOf_len _
    refine ⟨_, he, rfl, cmd_one _ rfl, fun _ u k => ?_⟩
    refine (fcmd_ok (csOf c) _ q c.nodes.length cap (intsOf c.nodes) u (hf.keep k (fun _ _ => id)) (fun b hb => Nat.lt_of_lt_of_le hb.2 k.size) hl.symm (by have := h2.l; omega) (by have := (good_csOf h2).2.2; omega) ⟨(good_csOf h2).1, (good_csOf h2).2.1⟩).mono ?_
    rintro e9 w9 ⟨hr, k9⟩
    unfold CmdRes at hr
    rw [if_pos h1, h3] at hr
    obtain ⟨v, he9, ho⟩ := hr
    obtain ⟨q9, c9, hv, hmc, hrb, _⟩ := ho.rb hb
    exact ⟨q9, _, c9, by rw [he9, hv], hrb, k9⟩
theorem MtRes.once {xs : List Nat} {w : World} {e : Ending} {w' : World} (hb : ∀ x ∈ xs, x < 256) (h : MtRes xs w e w') : ∃ xa : Array Value, e = .returned (.tuple #[.agg xa, .int .i64 (erM xs)]) ∧ xa.toList.length = 24 ∧ xa.toList.toArray.all (·.oneCell') = true ∧ (erM xs = 0 → ∀ u, Kp (fun _ => False) w' u → Calls Tryd.prog 14 #[.agg xa] u fun e w' => ∃ q m cap, e = .returned (.tuple #[.slice q m cap, .int .i64 0]) ∧ Rb w' q m xs ∧ Kp (fun _ => False) u w') := by
  unfold MtRes at h
  unfold erM
  cases hm : okM xs with
  | none =>
    rw [hm] at h
    exact ⟨zeroM, h, rfl, zeroM_one, fun e => (by cases e)⟩
  | some m =>
    rw [hm] at h
    obtain ⟨v, he, hf⟩ := h
    obtain ⟨h1, h2, h3⟩ := okM_back hb hm
    obtain ⟨xa, rfl, hx1, hx2⟩ := hf.form
    refine ⟨xa, he, hx1, hx2, fun _ u k => ?_⟩
    refine (fmsg_ok _ (msOf m) (.agg xa) u (hf.keep k (fun _ _ => id)) (fun b hb => Nat.lt_of_lt_of_le hb.2 k.size) (good_msOf h2)).mono ?_
    rintro e9 w9 ⟨hr, k9⟩
    unfold MsgRes at hr
    rw [if_pos h1, h3] at hr
    obtain ⟨v, he9, ho⟩ := hr
    obtain ⟨q9, c9, hv, hmc, hrb, _⟩ := ho.rb hb
    exact ⟨q9, _, c9, by rw [he9, hv], hrb, k9⟩
end Go.Proofs.YtoepemgflbmlcaaDoor

/- The walks of frame.Unwrap and of the reference's Unwrap. -/
namespace Go.Proofs.YtoepemgflbmlcaaDoor
open Go.RowKit Go.Deep

def unB (xs : List Nat) : List Nat := if lkE xs = 0 then (xs.take (3 + lkN xs)).drop 3 else []
def unR (xs : List Nat) : List Nat := if lkE xs = 0 then xs.drop (3 + lkN xs + 4) else []
theorem lkE_zero {xs : List Nat} (h : lkE xs = 0) : lkN xs + 7 ≤ xs.length := by
  unfold lkE at h
  split at h
  · simp at h
  split at h
  · simp at h
  split at h
  · simp at h
  split at h
  · simp at h
  split at h
  · simp at h
  · omega
theorem Rb.world {w w' : World} {p : Option Addr} {n : Nat} {xs : List Nat} (h : Rb w p n xs) (hw : w'.heap = w.heap) : Rb w' p n xs :=
  ⟨h.len, h.byte, fun j hj => by obtain ⟨b, o, e, hc⟩ := h.cell j hj; exact ⟨b, o, e, by simpa [World.cell?, hw] using hc⟩⟩

set_option maxRecDepth 100000 in
set_option maxHeartbeats 1600000 in
theorem unwrap_any (p : Option Addr) (n c : Nat) (xs : List Nat) (w : World) (h : Rb w p n xs) (hc : n ≤ c) (hn : Hid (n ≤ 140737488355328)) (ht : Turns w) :
    Calls Tryd.prog 21 #[.slice p n c] w fun e w' => ∃ v1 v2, e = .returned (.tuple #[v1, v2, .int .i64 ((lkE xs : Nat) : Int)]) ∧ Kp (fun _ => False) w w' ∧ Ow w' w.heap.size v1 (unB xs) ∧ Ow w' w.heap.size v2 (unR xs) := by
  have HL : Hid (Calls _ _ _ w _) := look_any p n c xs w h hc (by have := hn.out; omega) ht
  by_cases hE : lkE xs = 0
  · have hlen := lkE_zero hE
    have hl := h.len
    have e1 : lkP xs = 3 + lkN xs := by unfold lkP; rw [if_pos hE]
    have e2 : unB xs = (xs.take (3 + lkN xs)).drop 3 := by unfold unB; rw [if_pos hE]
    have e3 : unR xs = xs.drop (3 + lkN xs + 4) := by unfold unR; rw [if_pos hE]
    rw [hE, e1] at HL
    rw [hE, e2, e3]
    obtain ⟨N, hN⟩ : ∃ N, N = lkN xs := ⟨_, rfl⟩
    rw [← hN] at HL hlen ⊢
    have s1 := slice_lh p n c 3 (3 + N) (by omega) (by omega)
    have s2 := slice_l p n c (3 + N + 4) (by omega)
    have r1 := h.part hc (l := 3) (r := 3 + N) (by omega) (by omega)
    have r2 := h.part hc (l := 3 + N + 4) (r := n) (by omega) (by omega)
    obtain ⟨p1, hp1⟩ : ∃ p1, p1 = if c = 3 then p else p.map (·.add (3 * 1)) := ⟨_, rfl⟩
    obtain ⟨p2, hp2⟩ : ∃ p2, p2 = if c = 3 + N + 4 then p else p.map (·.add ((3 + N + 4) * 1)) := ⟨_, rfl⟩
    rw [← hp1] at s1 r1
    rw [← hp2] at s2 r2
    rw [List.take_of_length_le (l := xs) (i := n) (by omega)] at r2
    have e3 : ((3 + N : Nat) : Int) = 3 + (N : Int) := by omega
    have e7 : ((3 + N + 4 : Nat) : Int) = 3 + (N : Int) + 4 := by omega
    have e33 : ((3 : Nat) : Int) = 3 := rfl
    have eN : 3 + N - 3 = N := by omega
    rw [eN] at s1 r1
    rw [e3, e33] at s1
    rw [e7] at s2
    rw [e3] at HL
    obtain ⟨L2, hL2⟩ : ∃ L2, L2 = n - (3 + N + 4) := ⟨_, rfl⟩
    obtain ⟨C2, hC2⟩ : ∃ C2, C2 = c - (3 + N + 4) := ⟨_, rfl⟩
    obtain ⟨C1, hC1⟩ : ∃ C1, C1 = c - 3 := ⟨_, rfl⟩
    have HL2 : Hid (L2 ≤ n) := by show _ ≤ _; omega
    rw [← hL2] at s2 r2
    rw [← hC2] at s2
    rw [← hC1] at s1
    clear hC1 hC2 hL2
    have hwr : IntKind.i64.wrap (3 + (N : Int) + 4) = 3 + (N : Int) + 4 := by rw [IntKind.wrap_i64]; have := hn.out; omega
    have HC1 : Hid (∀ cc w', Kp (fun _ => False) w w' → Calls Tryd.prog 19 #[.slice p1 N cc] w' fun e w'' => ∃ v, e = .returned v ∧ Kp (fun _ => False) w' w'' ∧ Ow w'' w'.heap.size v ((xs.take (3 + N)).drop 3)) :=
      fun cc w' k => clone_any p1 N cc _ w' (r1.keep0 k) (by have := hn.out; show _ ≤ _; omega)
    have HC2 : Hid (∀ cc w', Kp (fun _ => False) w w' → Calls Tryd.prog 19 #[.slice p2 L2 cc] w' fun e w'' => ∃ v, e = .returned v ∧ Kp (fun _ => False) w' w'' ∧ Ow w'' w'.heap.size v (xs.drop (3 + N + 4))) :=
      fun cc w' k => clone_any p2 L2 cc _ w' (r2.keep0 k) (by have := hn.out; have := HL2.out; show _ ≤ _; omega)
    clear r1 r2 hp1 hp2 e3 e7 e33 eN hN hlen hl h hE e1 e2 ht hc
    go_enter Tryd.func21, Tryd.ntmps21
    go_wp2_with fail
    refine HL.out.mono ?_
    rintro e w1 ⟨rfl, m, hw1⟩
    have k1 : Kp (fun _ => False) w w1 := by rw [hw1]; exact (Kp.refl _ _).drewN _
    clear hw1 HL
    go_wp2
    go_region_with
      (first
        | (go_at_call 19; have k3 := k2; refine (HC2.out _ _ k3).mono ?_; rintro e wb ⟨vb, rfl, kb, ob⟩)
        | (go_at_call 19; refine (HC1.out _ _ k1.drew).mono ?_; rintro e wa ⟨va, rfl, ka, oa⟩; have k2 := k1.drew.trans ka (fun _ _ e => e)))
    all_goals go_wp2
    all_goals go_ret3
    all_goals exact ⟨va, vb, rfl, k2.trans kb (fun _ _ e => e), ownsRow_base (ownsRow_keep oa kb (fun _ _ => id)) k1.size, ownsRow_base ob k2.size⟩
  · have e1 : lkP xs = 0 := by unfold lkP; rw [if_neg hE]
    have e2 : unB xs = [] := by unfold unB; rw [if_neg hE]
    have e3 : unR xs = [] := by unfold unR; rw [if_neg hE]
    rw [e1] at HL
    rw [e2, e3]
    obtain ⟨E, hEe⟩ : ∃ E, E = lkE xs := ⟨_, rfl⟩
    rw [← hEe] at HL hE ⊢
    have d1 : ((E : Int) != 0) = true := by rw [bne_iff_ne]; omega
    clear e1 e2 e3 hEe hE h ht
    go_enter Tryd.func21, Tryd.ntmps21
    go_wp2_with fail
    refine HL.out.mono ?_
    rintro e w1 ⟨rfl, m, hw1⟩
    have k1 : Kp (fun _ => False) w w1 := by rw [hw1]; exact (Kp.refl _ _).drewN _
    clear hw1 HL
    go_wp2
    go_ret3
    exact ⟨_, _, rfl, k1, World.ownsRow_nil _ _ _ _, World.ownsRow_nil _ _ _ _⟩
end Go.Proofs.YtoepemgflbmlcaaDoor

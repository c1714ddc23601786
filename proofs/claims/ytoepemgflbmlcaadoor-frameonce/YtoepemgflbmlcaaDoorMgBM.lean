/- Texts of this proof, joined: Pa1, Pa2. -/
import Derived.Test.YtoepemgflbmlcaaDoorMgBI
import Derived.Test.YtoepemgflbmlcaaDoorMgBL
/- FrameOnce, plain: what is read is written so. -/
namespace Go.Proofs.YtoepemgflbmlcaaDoor
set_option linter.unusedVariables false
set_option linter.unusedSimpArgs false

theorem keyB_str {s : List Nat} (h : ∀ x ∈ s, x < 256) : keyB (str s) = s := by
  have e : keyB (str s) = s.map id := by
    unfold keyB str
    rw [strOfNums_data, List.map_map, List.map_map]
    refine List.map_congr_left (fun x hx => ?_)
    show (UInt8.ofNat (Int.toNat (x : Int))).toNat = x
    rw [Int.toNat_natCast]
    exact UInt8.toNat_ofNat_of_lt' (h x hx)
  rw [e, List.map_id]
theorem ints_back (ns : List Nat) : (intsOf ns).map Int.toNat = ns := by
  unfold intsOf
  rw [List.map_map]
  have : (Int.toNat ∘ fun x : Nat => (x : Int)) = id := by funext x; exact Int.toNat_natCast x
  rw [this, List.map_id]
theorem cpOf_csOf {c : Cp} (h : ∀ x ∈ c.key, x < 256) : cpOf (csOf c) (intsOf c.nodes) = c := by
  unfold cpOf csOf
  dsimp only
  rw [keyB_str h, ints_back]
  simp only [Int.toNat_natCast]
theorem key_mem {c : Cp} {x : Nat} (h : x ∈ c.key) : x ∈ cmdB c := by
  unfold cmdB
  exact List.mem_append_right _ (List.mem_append_left _ h)
theorem mpOf_msOf {m : Mp} (h : ∀ x ∈ m.c.key, x < 256) (hv : ∀ v ∈ m.votes, ∀ x ∈ v.c.key, x < 256) : mpOf (msOf m) = m := by
  unfold mpOf msOf
  dsimp only
  rw [cpOf_csOf h, List.map_map]
  have : m.votes.map (vpOf ∘ voOf) = m.votes := by
    have h1 : m.votes.map (vpOf ∘ voOf) = m.votes.map id := List.map_congr_left (fun v hm => by
      show vpOf (voOf v) = v
      unfold vpOf voOf
      dsimp only
      rw [cpOf_csOf (hv v hm), Int.toNat_natCast, Int.toNat_natCast])
    rw [h1, List.map_id]
  rw [this]
  simp only [Int.toNat_natCast]
/-- a command that is read: it is written so -/
theorem okC_back {xs : List Nat} {c : Cp} (hb : ∀ x ∈ xs, x < 256) (h : okC xs = some c) : mayC (csOf c) (intsOf c.nodes) = true ∧ c.fit ∧ cmdB (cpOf (csOf c) (intsOf c.nodes)) = xs := by
  unfold okC at h
  obtain ⟨⟨c', t⟩, h1, h2⟩ := Option.bind_eq_some_iff.1 h
  dsimp only at h2
  split at h2
  · rename_i hc
    injection h2 with h2
    subst h2
    obtain ⟨e, hf, _⟩ := rdCmd_back hb h1
    rw [hc.1, List.append_nil] at e
    refine ⟨hc.2, hf, ?_⟩
    rw [cpOf_csOf (fun x hx => hb x (by rw [e]; exact key_mem hx)), ← e]
  · cases h2
theorem okM_back {xs : List Nat} {m : Mp} (hb : ∀ x ∈ xs, x < 256) (h : okM xs = some m) : mayM (msOf m) = true ∧ m.fit ∧ msgB (mpOf (msOf m)) = xs := by
  unfold okM at h
  obtain ⟨⟨c', t⟩, h1, h2⟩ := Option.bind_eq_some_iff.1 h
  dsimp only at h2
  split at h2
  · rename_i hc
    injection h2 with h2
    subst h2
    obtain ⟨e, hf, _, _⟩ := rdMsg_back hb h1
    rw [hc.1, List.append_nil] at e
    refine ⟨hc.2, hf, ?_⟩
    have hk : ∀ x ∈ c'.c.key, x < 256 := fun x hx => hb x (by
      rw [e]
      unfold msgB
      exact List.mem_append_right _ (List.mem_append_right _ (List.mem_append_left _ (key_mem hx))))
    have hv : ∀ v ∈ c'.votes, ∀ x ∈ v.c.key, x < 256 := fun v hm x hx => hb x (by
      rw [e]
      unfold msgB
      refine List.mem_append_right _ (List.mem_append_right _ (List.mem_append_right _ (List.mem_append_right _ (List.mem_append_left _ ?_))))
      unfold votesB
      exact List.mem_flatMap.2 ⟨v, hm, by unfold voteB; exact List.mem_append_right _ (key_mem hx)⟩)
    rw [mpOf_msOf hk hv, ← e]
  · cases h2
/-- the error of reading, plain -/
def erC (xs : List Nat) : Int := if (okC xs).isSome then 0 else 51
def erM (xs : List Nat) : Int := if (okM xs).isSome then 0 else 51
theorem AtRes.once {xs : List Nat} {w : World} {e : Ending} {w' : World} (hb : ∀ x ∈ xs, x < 256) (h : AtRes xs w e w') : ∃ xa : Array Value, e = .returned (.tuple #[.agg xa, .int .i64 (erC xs)]) ∧ xa.toList.length = 12 ∧ xa.toList.toArray.all (·.oneCell') = true ∧ (erC xs = 0 → ∀ u, Kp (fun _ => False) w' u → Calls Tryd.prog 7 #[.agg xa] u fun e w' => ∃ q m cap, e = .returned (.tuple #[.slice q m cap, .int .i64 0]) ∧ Rb w' q m xs ∧ Kp (fun _ => False) u w') := by
  unfold AtRes at h
  unfold erC
  cases hm : okC xs with
  | none =>
    rw [hm] at h
    exact ⟨_, h, rfl, cmd_one ⟨0, 0, ⟨#[]⟩, 0, 0, 0, 0, 0, 0, 0, 0⟩ (v := .slice none 0 0) rfl, fun e => (by cases e)⟩
  | some c =>
    rw [hm] at h
    obtain ⟨q, cap, he, hf⟩ := h
    obtain ⟨h1, h2, h3⟩ := okC_back hb hm
    have hl : (intsOf c.nodes).length = c.nodes.length := intsOf_len _
    refine ⟨_, he, rfl, cmd_one _ rfl, fun _ u k => ?_⟩
    refine (fcmd_ok (csOf c) _ q c.nodes.length cap (intsOf c.nodes) u (hf.keep k (fun _ _ => id)) (fun b hb => Nat.lt_of_lt_of_le hb.2 k.size) hl.symm (by have := h2.l; omega) (by have := (good_csOf h2).2.2; omega) ⟨(good_csOf h2).1, (good_csOf h2).2.1⟩).mono ?_
    rintro e9 w9 ⟨hr, k9⟩
    unfold CmdRes at hr
    rw [if_pos h1, h3] at hr
    obtain ⟨v, he9, ho⟩ := hr
    obtain ⟨q9, c9, hv, hmc, hrb, _⟩ := ho.rb hb
    exact ⟨q9, _, c9, by rw [he9, hv], hrb, k9⟩
theorem MtRes.once {xs : List Nat} {w : World} {e : Ending} {w' : World} (hb : ∀ x ∈ xs, x < 256) (h : MtRes xs w e w') : ∃ xa : Array Value, e = .returned (.tuple #[.agg xa, .int .i64 (erM xs)]) ∧ xa.toList.length = 24 ∧ xa.toList.toArray.all (·.oneCell') = true ∧ (erM xs = 0 → ∀ u, Kp (fun _ => False) w' u → Calls Tryd.prog 14 #[.agg xa] u fun e w' => ∃ q m cap, e = .returned (.tuple #[.slice q m cap, .int .i64 0]) ∧ Rb w' q m xs ∧ Kp (fun _ => False) u w') := by
  unfold MtRes at h
  unfold erM
  cases hm : okM xs with
  | none =>
    rw [hm] at h
    exact ⟨zeroM, h, rfl, zeroM_one, fun e => (by cases e)⟩
  | some m =>
    rw [hm] at h
    obtain ⟨v, he, hf⟩ := h
    obtain ⟨h1, h2, h3⟩ := okM_back hb hm
    obtain ⟨xa, rfl, hx1, hx2⟩ := hf.form
    refine ⟨xa, he, hx1, hx2, fun _ u k => ?_⟩
    refine (fmsg_ok _ (msOf m) (.agg xa) u (hf.keep k (fun _ _ => id)) (fun b hb => Nat.lt_of_lt_of_le hb.2 k.size) (good_msOf h2)).mono ?_
    rintro e9 w9 ⟨hr, k9⟩
    unfold MsgRes at hr
    rw [if_pos h1, h3] at hr
    obtain ⟨v, he9, ho⟩ := hr
    obtain ⟨q9, c9, hv, hmc, hrb, _⟩ := ho.rb hb
    exact ⟨q9, _, c9, by rw [he9, hv], hrb, k9⟩
end Go.Proofs.YtoepemgflbmlcaaDoor

/- FrameOnce. -/
namespace Go.Proofs.YtoepemgflbmlcaaDoor
set_option linter.unusedVariables false
set_option linter.unusedSimpArgs false
open Go.RowKit Go.Deep

set_option maxRecDepth 100000 in
set_option maxHeartbeats 3200000 in
theorem frameOnce_walk (p : Option Addr) (n cap : Nat) (xs : List Nat) (w : World) (h : Rb w p n xs) (hnc : n ≤ cap) (hcap : Hid (cap ≤ 140737488355328)) (ht : Turns w) :
    Calls Tryd.prog 6 #[.slice p n cap] w fun e w' => e = .returned (.bool true) ∧ Kp (fun _ => False) w w' := by
  have HM1 : Hid (∀ u, Kp (fun _ => False) w u → Calls Tryd.prog 16 #[.slice p n cap] u fun e w' => MtRes xs u e w' ∧ Kp (fun _ => False) u w') := fun u k => readmsg_ok p n cap xs u (h.keep0 k) hnc (by have := hcap.out; omega)
  have HM2 : Hid (∀ u, Kp (fun _ => False) w u → Calls Tryd.prog 17 #[.slice p n cap] u fun e w' => MtRes xs u e w' ∧ Kp (fun _ => False) u w') := fun u k => xreadmsg_ok p n cap xs u (h.keep0 k) hnc (by have := hcap.out; omega)
  have HR1 : Hid (∀ u, Kp (fun _ => False) w u → Calls Tryd.prog 9 #[.slice p n cap] u fun e w' => AtRes xs u e w' ∧ Kp (fun _ => False) u w') := fun u k => readcmd_ok p n cap xs u (h.keep0 k) hnc (by have := hcap.out; omega)
  have HR2 : Hid (∀ u, Kp (fun _ => False) w u → Calls Tryd.prog 10 #[.slice p n cap] u fun e w' => AtRes xs u e w' ∧ Kp (fun _ => False) u w') := fun u k => xreadcmd_ok p n cap xs u (h.keep0 k) hnc (by have := hcap.out; omega)
  have HW : Hid (∀ u, Kp (fun _ => False) w u → Calls Tryd.prog 13 #[.slice none 0 0] u fun e w' => e = .returned (.bool true) ∧ Kp (fun _ => False) u w') := fun u k => frameWraps_walk none 0 0 [] u (Rb.nil _ _) (Nat.le_refl _) (Nat.zero_le _) (ht.keep0 k)
  have HB : Hid (∀ x ∈ xs, x < 256) := h.byte
  have HP : Hid (Rb w p n xs) := h
  have HK0 : Hid (Kp (fun _ => False) w w) := Kp.refl _ _
  clear h hnc hcap ht
  obtain ⟨dC, hdC, hdR⟩ := dsCmd
  obtain ⟨dM, hdM, hdN⟩ := dsMsg
  obtain ⟨em, hem⟩ : ∃ x, x = erM xs := ⟨_, rfl⟩
  obtain ⟨ec, hec⟩ : ∃ x, x = erC xs := ⟨_, rfl⟩
  have HEm : Hid (em = erM xs) := hem
  have HEc : Hid (ec = erC xs) := hec
  clear hem hec
  go_enter Tryd.func6, Tryd.ntmps6
  go_wp2_with fail
  refine (HM1.out w HK0.out).mono ?_
  rintro e9 w1 ⟨hr, k1⟩
  obtain ⟨xa, rfl, la, oa, ca⟩ := hr.once HB.out
  rw [← HEm.out] at ca ⊢
  have HXl : Hid (xa.toList.length = 24) := la
  have HX1 : Hid (xa.toList.toArray.all (·.oneCell') = true) := oa
  have HXc : Hid (em = 0 → ∀ u, Kp (fun _ => False) w1 u → Calls Tryd.prog 14 #[.agg xa] u fun e w' => ∃ q m cap, e = .returned (.tuple #[.slice q m cap, .int .i64 0]) ∧ Rb w' q m xs ∧ Kp (fun _ => False) u w') := ca
  have HK1 : Hid (Kp (fun _ => False) w w1) := k1
  clear hr k1 la oa ca
  go_upto_region 2 with (refine wpList_store_all rfl 40 _ _ rfl 24 w1.heap.size zeroM.toList xa.toList rfl (by rw [Array.toArray_toList]; rfl) (by exact Lv.new w1 _ _) szMsg rfl HXl.out HX1.out ?_; intro w2 hl2 k2)
  have k12 : Kp (fun _ => False) w1 w2 := ((Kp.refl (fun _ => False) w1).alloc (.cells zeroM 40)).trans k2 (fun b hb e => by omega)
  obtain ⟨g1, hg1⟩ : ∃ x, x = w1.heap.size := ⟨_, rfl⟩
  rw [← hg1] at hl2 ⊢
  have HK2 : Hid (Kp (fun _ => False) w w2 ∧ Kp (fun _ => False) w1 w2) := ⟨HK1.out.trans k12 (fun _ _ e => e), k12⟩
  have HL2 : Hid (Lv w2 g1 xa.toList) := hl2
  clear k2 k12 hl2 hg1
  go_wp2_with fail
  refine (HR1.out w2 HK2.out.1).mono ?_
  rintro e9 w3 ⟨hr, k3⟩
  obtain ⟨xb, rfl, lb, ob, cb⟩ := hr.once HB.out
  rw [← HEc.out] at cb ⊢
  have HYl : Hid (xb.toList.length = 12) := lb
  have HY1 : Hid (xb.toList.toArray.all (·.oneCell') = true) := ob
  have HYc : Hid (ec = 0 → ∀ u, Kp (fun _ => False) w3 u → Calls Tryd.prog 7 #[.agg xb] u fun e w' => ∃ q m cap, e = .returned (.tuple #[.slice q m cap, .int .i64 0]) ∧ Rb w' q m xs ∧ Kp (fun _ => False) u w') := cb
  have HK3 : Hid (Kp (fun _ => False) w w3 ∧ Kp (fun _ => False) w1 w3) := ⟨HK2.out.1.trans k3 (fun _ _ e => e), HK2.out.2.trans k3 (fun _ _ e => e)⟩
  have HL3 : Hid (Lv w3 g1 xa.toList) := HL2.out.keep k3 id
  clear hr k3 lb ob cb
  go_upto_region 3 with (refine wpList_store_all rfl 27 _ _ rfl 12 w3.heap.size zeroC.toList xb.toList rfl (by rw [Array.toArray_toList]; rfl) (by exact Lv.new w3 _ _) szCmd rfl HYl.out HY1.out ?_; intro w4 hl4 k4)
  have k34 : Kp (fun _ => False) w3 w4 := ((Kp.refl (fun _ => False) w3).alloc (.cells zeroC 27)).trans k4 (fun b hb e => by omega)
  obtain ⟨g2, hg2⟩ : ∃ x, x = w3.heap.size := ⟨_, rfl⟩
  rw [← hg2] at hl4 ⊢
  have HK4 : Hid (Kp (fun _ => False) w w4 ∧ Kp (fun _ => False) w1 w4 ∧ Kp (fun _ => False) w3 w4) := ⟨HK3.out.1.trans k34 (fun _ _ e => e), HK3.out.2.trans k34 (fun _ _ e => e), k34⟩
  have HL4 : Hid (Lv w4 g1 xa.toList ∧ Lv w4 g2 xb.toList) := ⟨HL3.out.keep k34 id, hl4⟩
  clear k4 k34 hl4 hg2
  go_wp2_with fail
  refine (HM2.out w4 HK4.out.1).mono ?_
  rintro e9 w5 ⟨hr, k5⟩
  obtain ⟨xc, rfl, lc, oc, _⟩ := hr.once HB.out
  rw [← HEm.out]
  have HZl : Hid (xc.toList.length = 24) := lc
  have HZ1 : Hid (xc.toList.toArray.all (·.oneCell') = true) := oc
  have HK5 : Hid (Kp (fun _ => False) w w5 ∧ Kp (fun _ => False) w1 w5 ∧ Kp (fun _ => False) w3 w5) := ⟨HK4.out.1.trans k5 (fun _ _ e => e), HK4.out.2.1.trans k5 (fun _ _ e => e), HK4.out.2.2.trans k5 (fun _ _ e => e)⟩
  have HL5 : Hid (Lv w5 g1 xa.toList ∧ Lv w5 g2 xb.toList) := ⟨HL4.out.1.keep k5 id, HL4.out.2.keep k5 id⟩
  clear hr k5 lc oc
  go_upto_region 4 with (refine wpList_store_all rfl 40 _ _ rfl 24 w5.heap.size zeroM.toList xc.toList rfl (by rw [Array.toArray_toList]; rfl) (by exact Lv.new w5 _ _) szMsg rfl HZl.out HZ1.out ?_; intro w6 hl6 k6)
  have k56 : Kp (fun _ => False) w5 w6 := ((Kp.refl (fun _ => False) w5).alloc (.cells zeroM 40)).trans k6 (fun b hb e => by omega)
  have HK6 : Hid (Kp (fun _ => False) w w6 ∧ Kp (fun _ => False) w1 w6 ∧ Kp (fun _ => False) w3 w6) := ⟨HK5.out.1.trans k56 (fun _ _ e => e), HK5.out.2.1.trans k56 (fun _ _ e => e), HK5.out.2.2.trans k56 (fun _ _ e => e)⟩
  have HL6 : Hid (Lv w6 g1 xa.toList ∧ Lv w6 g2 xb.toList) := ⟨HL5.out.1.keep k56 id, HL5.out.2.keep k56 id⟩
  clear k6 k56 hl6
  go_wp2_with fail
  refine (HR2.out w6 HK6.out.1).mono ?_
  rintro e9 w7 ⟨hr, k7⟩
  obtain ⟨xd, rfl, ld, od, _⟩ := hr.once HB.out
  rw [← HEc.out]
  have HVl : Hid (xd.toList.length = 12) := ld
  have HV1 : Hid (xd.toList.toArray.all (·.oneCell') = true) := od
  have HK7 : Hid (Kp (fun _ => False) w w7 ∧ Kp (fun _ => False) w1 w7 ∧ Kp (fun _ => False) w3 w7) := ⟨HK6.out.1.trans k7 (fun _ _ e => e), HK6.out.2.1.trans k7 (fun _ _ e => e), HK6.out.2.2.trans k7 (fun _ _ e => e)⟩
  have HL7 : Hid (Lv w7 g1 xa.toList ∧ Lv w7 g2 xb.toList) := ⟨HL6.out.1.keep k7 id, HL6.out.2.keep k7 id⟩
  clear hr k7 ld od
  go_upto_region 5 with (refine wpList_store_all rfl 27 _ _ rfl 12 w7.heap.size zeroC.toList xd.toList rfl (by rw [Array.toArray_toList]; rfl) (by exact Lv.new w7 _ _) szCmd rfl HVl.out HV1.out ?_; intro w8 hl8 k8)
  have k78 : Kp (fun _ => False) w7 w8 := ((Kp.refl (fun _ => False) w7).alloc (.cells zeroC 27)).trans k8 (fun b hb e => by omega)
  have HK8 : Hid (Kp (fun _ => False) w w8 ∧ Kp (fun _ => False) w1 w8 ∧ Kp (fun _ => False) w3 w8) := ⟨HK7.out.1.trans k78 (fun _ _ e => e), HK7.out.2.1.trans k78 (fun _ _ e => e), HK7.out.2.2.trans k78 (fun _ _ e => e)⟩
  have HL8 : Hid (Lv w8 g1 xa.toList ∧ Lv w8 g2 xb.toList) := ⟨HL7.out.1.keep k78 id, HL7.out.2.keep k78 id⟩
  clear k8 k78 hl8
  go_upto_region 7 with fail
  have HE1 : Hid (em = 0 ∨ em = 51) := by
    show _ ∨ _
    rw [HEm.out]
    unfold erM
    split
    · exact Or.inl rfl
    · exact Or.inr rfl
  have HE2 : Hid (ec = 0 ∨ ec = 51) := by
    show _ ∨ _
    rw [HEc.out]
    unfold erC
    split
    · exact Or.inl rfl
    · exact Or.inr rfl
  clear HEm HEc
  rcases HE1.out with e | e
  · subst e
    have HC : Hid (Calls _ _ _ w8 _) := HXc.out rfl w8 HK8.out.2.1
    go_wp2_with (refine wpList_load_all rfl 40 _ rfl 24 g1 xa.toList rfl HL8.out.1 ⟨dM, hdM, hdN⟩ szMsg HXl.out ?_; rw [Array.toArray_toList])
    refine HC.out.mono ?_
    rintro e9 wx ⟨qx, mx1, cx, rfl, bx1, kx⟩
    have HKx : Hid (Kp (fun _ => False) w wx ∧ Kp (fun _ => False) w3 wx) := ⟨HK8.out.1.trans kx (fun _ _ e => e), HK8.out.2.2.trans kx (fun _ _ e => e)⟩
    have HLx : Hid (Lv wx g2 xb.toList) := HL8.out.2.keep kx id
    have HE : Hid (Calls _ _ _ wx _) := bytes_same qx p mx1 n cx cap xs wx bx1 (HP.out.keep0 HKx.out.1)
    clear bx1 kx HC
    go_wp2_with fail
    refine HE.out.mono ?_
    rintro e9 w9 ⟨rfl, hw9⟩
    have hw8 := hw9.symm
    subst hw8
    clear hw9 HE
    go_upto_region 11 with fail
    rcases HE2.out with e | e
    · subst e
      have HC : Hid (Calls _ _ _ wx _) := HYc.out rfl wx HKx.out.2
      go_wp2_with (refine wpList_load_all rfl 27 _ rfl 12 g2 xb.toList rfl HLx.out ⟨dC, hdC, hdR⟩ szCmd HYl.out ?_; rw [Array.toArray_toList])
      refine HC.out.mono ?_
      rintro e9 wy ⟨qy, my, cy, rfl, by1, ky⟩
      have HKy : Hid (Kp (fun _ => False) w wy) := HKx.out.1.trans ky (fun _ _ e => e)
      have HE : Hid (Calls _ _ _ wy _) := bytes_same qy p my n cy cap xs wy by1 (HP.out.keep0 HKy.out)
      clear by1 ky HC
      go_wp2_with fail
      refine HE.out.mono ?_
      rintro e9 w9 ⟨rfl, hw9⟩
      have hw8 := hw9.symm
      subst hw8
      clear hw9 HE
      go_wp2_with fail
      refine (HW.out _ HKy.out).mono ?_
      rintro e9 wv ⟨rfl, kv⟩
      have HKv : Hid (Kp (fun _ => False) w wv) := HKy.out.trans kv (fun _ _ e => e)
      clear kv
      go_wp2_with fail
      go_ret
      exact ⟨rfl, HKv.out⟩
    · subst e
      go_wp2_with fail
      refine (HW.out _ HKx.out.1).mono ?_
      rintro e9 wv ⟨rfl, kv⟩
      have HKv : Hid (Kp (fun _ => False) w wv) := HKx.out.1.trans kv (fun _ _ e => e)
      clear kv
      go_wp2_with fail
      go_ret
      exact ⟨rfl, HKv.out⟩
  · subst e
    go_upto_region 11 with fail
    rcases HE2.out with e | e
    · subst e
      have HC : Hid (Calls _ _ _ w8 _) := HYc.out rfl w8 HK8.out.2.2
      go_wp2_with (refine wpList_load_all rfl 27 _ rfl 12 g2 xb.toList rfl HL8.out.2 ⟨dC, hdC, hdR⟩ szCmd HYl.out ?_; rw [Array.toArray_toList])
      refine HC.out.mono ?_
      rintro e9 wy ⟨qy, my, cy, rfl, by1, ky⟩
      have HKy : Hid (Kp (fun _ => False) w wy) := HK8.out.1.trans ky (fun _ _ e => e)
      have HE : Hid (Calls _ _ _ wy _) := bytes_same qy p my n cy cap xs wy by1 (HP.out.keep0 HKy.out)
      clear by1 ky HC
      go_wp2_with fail
      refine HE.out.mono ?_
      rintro e9 w9 ⟨rfl, hw9⟩
      have hw8 := hw9.symm
      subst hw8
      clear hw9 HE
      go_wp2_with fail
      refine (HW.out _ HKy.out).mono ?_
      rintro e9 wv ⟨rfl, kv⟩
      have HKv : Hid (Kp (fun _ => False) w wv) := HKy.out.trans kv (fun _ _ e => e)
      clear kv
      go_wp2_with fail
      go_ret
      exact ⟨rfl, HKv.out⟩
    · subst e
      go_wp2_with fail
      refine (HW.out _ HK8.out.1).mono ?_
      rintro e9 wv ⟨rfl, kv⟩
      have HKv : Hid (Kp (fun _ => False) w wv) := HK8.out.1.trans kv (fun _ _ e => e)
      clear kv
      go_wp2_with fail
      go_ret
      exact ⟨rfl, HKv.out⟩
end Go.Proofs.YtoepemgflbmlcaaDoor

/- Texts of this proof, joined: Pb5, Pb6. -/
import Derived.Test.YtoepemgflbmlcaaDoorMgBN
import Derived.Test.YtoepemgflbmlcaaDoorMgBO
import Derived.Test.YtoepemgflbmlcaaDoorMgBP
import Derived.Test.YtoepemgflbmlcaaDoorMgBQ
import Derived.Test.YtoepemgflbmlcaaDoorMgAU
import Derived.Lib.MinMax
/- FrameBack: what is written is read as it was (plain); an append, and an Unwrap, of a little more than may be handed in. -/
namespace Go.Proofs.YtoepemgflbmlcaaDoor
set_option linter.unusedVariables false
set_option linter.unusedSimpArgs false
open Go.RowKit Go.Deep

theorem str_keyB (k : ByteArray) : str (keyB k) = k := by
  have e : (str (keyB k)).data.toList = k.data.toList := by
    unfold keyB str
    rw [strOfNums_data, List.map_map, List.map_map]
    have : (((fun n => UInt8.ofNat n.toNat) ∘ (fun x : Nat => ((x : Nat) : Int))) ∘ fun x : UInt8 => x.toNat) = id := by
      funext x
      show UInt8.ofNat (Int.toNat ((x.toNat : Nat) : Int)) = x
      rw [Int.toNat_natCast]
      exact UInt8.ofNat_toNat
    rw [this, List.map_id]
  cases k with | mk d =>
  cases h : str (keyB ⟨d⟩) with | mk d2 =>
  rw [h] at e
  congr 1
  exact Array.toList_inj.1 e
theorem ints_toNat {zs : List Int} (h : ∀ z ∈ zs, 0 ≤ z) : intsOf (zs.map Int.toNat) = zs := by
  unfold intsOf
  rw [List.map_map]
  have : zs.map ((fun x : Nat => (x : Int)) ∘ Int.toNat) = zs.map id := List.map_congr_left (fun z hz => by
    show ((z.toNat : Nat) : Int) = z
    exact Int.toNat_of_nonneg (h z hz))
  rw [this, List.map_id]
theorem csOf_cpOf {c : Cs0} {zs : List Int} (h : mayC c zs = true) (hs : 0 ≤ c.sum) : csOf (cpOf c zs) = c ∧ intsOf (cpOf c zs).nodes = zs := by
  have hF := mayC_full h
  have hn := hF.n
  simp only [List.mem_cons, List.not_mem_nil, or_false, forall_eq_or_imp, forall_eq] at hn
  obtain ⟨m0, m1, m3, m4, m5, m6, m7, m9, m10⟩ := hn
  refine ⟨?_, ints_toNat (fun z hz => (hF.z z hz).1)⟩
  unfold csOf cpOf
  dsimp only
  rw [str_keyB, Int.toNat_of_nonneg m0.1, Int.toNat_of_nonneg m1.1, Int.toNat_of_nonneg m3.1, Int.toNat_of_nonneg m4.1, Int.toNat_of_nonneg m5.1, Int.toNat_of_nonneg m6.1, Int.toNat_of_nonneg m7.1, Int.toNat_of_nonneg m9.1, Int.toNat_of_nonneg m10.1, Int.toNat_of_nonneg hs]
theorem cpOf_fit {c : Cs0} {zs : List Int} (h : mayC c zs = true) (hs : 0 ≤ c.sum ∧ c.sum < 4294967296) : (cpOf c zs).fit := by
  have hF := mayC_full h
  have hn := hF.n
  simp only [List.mem_cons, List.not_mem_nil, or_false, forall_eq_or_imp, forall_eq] at hn
  have hmx : mx = 1152921504606846976 := rfl
  refine ⟨fun x hx => ?_, by show c.sum.toNat ≤ _; omega, by show (keyB c.key).length ≤ 8; rw [keyB_len]; exact hF.key, by show (zs.map Int.toNat).length ≤ 255; rw [List.length_map]; exact hF.len, fun x hx => ?_⟩
  · simp only [cpOf, List.mem_cons, List.not_mem_nil, or_false] at hx
    omega
  · obtain ⟨z, hz, rfl⟩ := List.mem_map.1 (show x ∈ zs.map Int.toNat from hx)
    have := hF.z z hz
    omega
theorem okC_cmdB {c : Cs0} {zs : List Int} (h : mayC c zs = true) (hs : 0 ≤ c.sum ∧ c.sum < 4294967296) : okC (cmdB (cpOf c zs)) = some (cpOf c zs) := by
  have h1 := rdCmd_num (cpOf_fit h hs) []
  rw [List.append_nil] at h1
  unfold okC
  rw [h1]
  dsimp only [Option.bind_some]
  obtain ⟨e1, e2⟩ := csOf_cpOf h hs.1
  rw [e1, e2, if_pos ⟨rfl, h⟩]
theorem msOf_mpOf {μ : Ms} (h : mayM μ = true) (hg : goodM μ) : msOf (mpOf μ) = μ := by
  have hF := mayM_full h
  have hn := hF.n
  simp only [List.mem_cons, List.not_mem_nil, or_false, forall_eq_or_imp, forall_eq] at hn
  obtain ⟨m0, m1, m2, m3, m4, m5, m6, m7, m8⟩ := hn
  obtain ⟨e1, e2⟩ := csOf_cpOf hF.c hg.1.1
  have ev : (μ.votes.map vpOf).map voOf = μ.votes := by
    rw [List.map_map]
    have h1 : μ.votes.map (voOf ∘ vpOf) = μ.votes.map id := List.map_congr_left (fun v hv => by
      obtain ⟨p1, p2, p3⟩ := mayVo_parts (hF.v v hv)
      obtain ⟨f1, f2⟩ := csOf_cpOf p3 (hg.2 v hv).1
      show voOf (vpOf v) = v
      unfold voOf vpOf
      dsimp only
      rw [f1, f2, Int.toNat_of_nonneg p1.1, Int.toNat_of_nonneg p2.1])
    rw [h1, List.map_id]
  obtain ⟨s, nodes, votes, bytes⟩ := μ
  obtain ⟨k0, k1, k2, k3, k4, k5, k6, k7, k8, ok, c⟩ := s
  unfold msOf mpOf
  dsimp only at m0 m1 m2 m3 m4 m5 m6 m7 m8 e1 e2 ev ⊢
  rw [e1, e2, ev, Int.toNat_of_nonneg m0.1, Int.toNat_of_nonneg m1.1, Int.toNat_of_nonneg m2.1, Int.toNat_of_nonneg m3.1, Int.toNat_of_nonneg m4.1, Int.toNat_of_nonneg m5.1, Int.toNat_of_nonneg m6.1, Int.toNat_of_nonneg m7.1, Int.toNat_of_nonneg m8.1]
theorem mpOf_fit {μ : Ms} (h : mayM μ = true) (hg : goodM μ) : (mpOf μ).fit := by
  have hF := mayM_full h
  have hn := hF.n
  simp only [List.mem_cons, List.not_mem_nil, or_false, forall_eq_or_imp, forall_eq] at hn
  have hmx : mx = 1152921504606846976 := rfl
  refine ⟨fun x hx => ?_, cpOf_fit hF.c ⟨hg.1.1, hg.1.2.1⟩, by show (μ.votes.map vpOf).length ≤ _; rw [List.length_map]; exact hF.v9, fun v hv => ?_, hF.b9⟩
  · simp only [mpOf, List.mem_cons, List.not_mem_nil, or_false] at hx
    omega
  · obtain ⟨x, hx, rfl⟩ := List.mem_map.1 (show v ∈ μ.votes.map vpOf from hv)
    obtain ⟨p1, p2, p3⟩ := mayVo_parts (hF.v x hx)
    exact ⟨by show x.slot.toNat ≤ _; omega, by show x.ballot.toNat ≤ _; omega, cpOf_fit p3 ⟨(hg.2 x hx).1, (hg.2 x hx).2.1⟩⟩
theorem okM_msgB {μ : Ms} (h : mayM μ = true) (hg : goodM μ) : okM (msgB (mpOf μ)) = some (mpOf μ) := by
  have h1 := rdMsg_num (mpOf_fit h hg) []
  rw [List.append_nil] at h1
  unfold okM
  rw [h1]
  dsimp only [Option.bind_some]
  rw [msOf_mpOf h hg, if_pos ⟨rfl, h⟩]
theorem mtR_msgB {μ : Ms} (h : mayM μ = true) (hg : goodM μ) : mtR (msgB (mpOf μ)) = (μ, 0) := by
  unfold mtR
  rw [okM_msgB h hg]
  dsimp only
  rw [msOf_mpOf h hg]
theorem atR_cmdB {c : Cs0} {zs : List Int} (h : mayC c zs = true) (hs : 0 ≤ c.sum ∧ c.sum < 4294967296) : atR (cmdB (cpOf c zs)) = (c, zs, 0) := by
  unfold atR
  rw [okC_cmdB h hs]
  obtain ⟨e1, e2⟩ := csOf_cpOf h hs.1
  dsimp only
  rw [e1, e2]

theorem growBy_ge {need : Nat} : ∀ (r c : Nat), need ≤ c → Builtin.growBy need r c = c
  | 0, c, _ => rfl
  | r + 1, c, h => by unfold Builtin.growBy; rw [if_pos h]
theorem growBy_le {need : Nat} : ∀ (r c : Nat), c < need → Builtin.growBy need r c ≤ need + (need + 768) / 4
  | 0, c, h => by show c ≤ _; omega
  | r + 1, c, h => by
    unfold Builtin.growBy
    rw [if_neg (by omega)]
    rcases Nat.lt_or_ge (c + (c + 768) / 4) need with h1 | h1
    · exact growBy_le r _ h1
    · rw [growBy_ge r _ h1]
      have : (c + 768) / 4 ≤ (need + 768) / 4 := Nat.div_le_div_right (by omega)
      omega
theorem fits_wide {need old : Nat} (h : old < need) (hn : need ≤ 150000000000000) : Builtin.nextslicecap need old * 1 ≤ 281474976710656 := by
  unfold Builtin.nextslicecap
  split
  · omega
  · split
    · omega
    · have := growBy_le (need := need) 4 old h
      have h2 : (need + 768) / 4 ≤ (150000000000000 + 768) / 4 := Nat.div_le_div_right (by omega)
      omega
section
variable {P : Program} (w : World)
theorem run_append_own_srcF (base : Nat) (t tx ty e : TypeId) (i : TypeInfo) (z : Value) (size bytes : Nat) (ht : P.underlying t = some (.slice e)) (hi : P.info? e = some i) (hz : i.zero = some z)
    (hsize : i.size = size) (hby : i.bytes = bytes) (hzs : z.cells.size = size) (hsz : 0 < size)
    (v : Value) (n : Nat) (xs : List Value) (hown : w.ownsRow base e size v n xs)
    (x : Value) (m : Nat) (news : List Value) (hs : Src P size tx x m news w)
    (h63 : n + m ≤ maxLen) (hfit : ∀ old, old < n + m → Builtin.nextslicecap (n + m) old * bytes ≤ 281474976710656) (hbase : base ≤ w.heap.size) :
    ∃ v' w', (Builtin.append_ #[t, tx] ty #[v, x]).run P w = .ok v' w' ∧ w'.ownsRow base e size v' (n + m) (xs ++ news) ∧ w.grownBy w' v.ownBlock ∧ (v'.ownBlock = v.ownBlock ∨ v'.ownBlock = some w.heap.size) := by
  subst hsize
  subst hby
  have hl := hs.newsLen
  have h1 := hs.one
  have hsmall : n + m ≤ 9223372036854775807 := by simp only [maxLen] at h63; omega
  have hlen : (xs ++ news).length = (n + m) * i.size := by rw [List.length_append, hown.1, hl, Nat.add_mul]
  have grown : ∀ (old : Nat), old < n + m → ∀ (row : Option Nat),
      (w.drew.alloc (.cells ((xs ++ news).toArray ++ Builtin.zeroCells z.cells (grownCap w (n + m) old e - (n + m))) e)).ownsRow base e i.size
        (.slice (some ⟨w.heap.size, 0, none⟩) (n + m) (grownCap w (n + m) old e)) (n + m) (xs ++ news) ∧
      w.grownBy (w.drew.alloc (.cells ((xs ++ news).toArray ++ Builtin.zeroCells z.cells (grownCap w (n + m) old e - (n + m))) e)) row := by
    intro old ho row
    have hge := grownCap_ge w (n + m) old e
    have hcm : grownCap w (n + m) old e ≤ maxLen := grownCap_le_maxLen w (n + m) old e h63
    refine ⟨⟨hlen, .inr ⟨w.heap.size, _, _, rfl, hbase, heap_alloc_new w.drew _, hge, hcm, ?_, ?_⟩⟩, ⟨rfl, rfl, rfl, by simp, fun k hk _ => heap_alloc_old w.drew _ hk⟩⟩
    · simp only [Array.size_append, List.size_toArray, size_zeroCells, hzs, hlen, ← Nat.add_mul]
      congr 1
      omega
    · simp only [Array.toList_append]
      rw [← hlen]
      exact List.take_left
  rcases hown.2 with ⟨rfl, rfl⟩ | ⟨g, cap, cur, rfl, hbg, hg, hnc, hcm, hcs, htake⟩
  · have hx : xs = [] := List.eq_nil_of_length_eq_zero (by simpa using hown.1)
    subst hx
    by_cases hm : m = 0
    · subst hm
      have hn : news = [] := List.eq_nil_of_length_eq_zero (by simpa using hl)
      subst hn
      refine ⟨.slice none 0 0, w, ?_, World.ownsRow_nil w base e i.size, ⟨rfl, rfl, rfl, Nat.le_refl _, fun _ _ _ => rfl⟩, Or.inl rfl⟩
      rcases hs.kind with ⟨e', hk⟩ | hk <;> simp [Builtin.append_, run_underlying ht, run_underlying hk, sizeOf, typeInfo, hi, hs.len, hs.cells]
    · have hr := run_append_grow_src (P := P) w t tx ty e i z ht hi hz none 0 0 [] (run_firstCells_none w.drew i.size 0 0 0) x m news hs (by omega) (by omega) (by have := hfit 0 (by omega); simpa using this)
      have hgr := grown 0 (by omega) (Value.ownBlock (.slice none 0 0))
      exact ⟨_, _, hr, hgr.1, hgr.2, Or.inr rfl⟩
  · by_cases hroom : n + m ≤ cap
    · have hfit : n * i.size + news.length ≤ cur.size := by rw [hl, hcs, ← Nat.add_mul]; exact Nat.mul_le_mul_right _ hroom
      have hst := run_storeCells_at P g (n * i.size) e news 0 cur w hg (by simpa using hfit) h1
      simp only [Nat.add_zero] at hst
      have hr : (Builtin.append_ #[t, tx] ty #[.slice (some ⟨g, 0, none⟩) n cap, x]).run P w =
          .ok (.slice (some ⟨g, 0, none⟩) (n + m) cap) (w.setRow g (cur.toList.take (n * i.size) ++ news ++ cur.toList.drop (n * i.size + news.length)).toArray) := by
        rcases hs.kind with ⟨e', hk⟩ | hk <;> simp [Builtin.append_, run_underlying ht, run_underlying hk, sizeOf, typeInfo, hi, hs.len, hs.cells, hroom, Addr.add_lit, hst]
      refine ⟨_, _, hr, ⟨hlen, .inr ⟨g, cap, _, rfl, hbg, setRow_heap w g cur _ e _ hg, hroom, hcm, ?_, ?_⟩⟩, ⟨rfl, rfl, rfl, by simp, fun k _ hk => setRow_other w g k _ (fun e => hk (by simp [Value.ownBlock, e]))⟩, Or.inl rfl⟩
      · simp only [List.size_toArray, List.length_append, List.length_take, List.length_drop, Array.length_toList]
        omega
      · rw [htake, ← hlen]
        exact List.take_left
    · have holds : ∀ j u, xs[j]? = some u → w.drew.cell? ((⟨g, 0, none⟩ : Addr).add j) = some u := by simpa using hown.cells (g := g) rfl
      have hr := run_append_grow_src (P := P) w t tx ty e i z ht hi hz (some ⟨g, 0, none⟩) n cap xs (run_firstCells_some w.drew i.size n ⟨g, 0, none⟩ n cap xs hown.1 holds) x m news hs (by omega) (by omega) (hfit _ (by omega))
      have hgr := grown cap (by omega) (Value.ownBlock (.slice (some ⟨g, 0, none⟩) n cap))
      exact ⟨_, _, hr, hgr.1, hgr.2, Or.inr rfl⟩
end
/-- an append of bytes onto one's own, of a little more than may be handed in -/
theorem run_append_wide (w : World) (base : Nat) (v : Value) (xs : List Nat) (hown : Ow w base v xs) (p : Option Addr) (m c : Nat) (ys : List Nat) (hr : Rb w p m ys) (hlen : xs.length + m ≤ 150000000000000) (hbase : base ≤ w.heap.size) :
    ∃ v' w', (Builtin.append_ #[28, 28] 28 #[v, .slice p m c]).run Tryd.prog w = .ok v' w' ∧ Ow w' base v' (xs ++ ys) ∧ Kp (fun b => v.ownBlock = some b) w w' := by
  obtain ⟨ti, hi0, hz0, hz1, hz2⟩ := info_parts info5
  obtain ⟨v', w', h1, h2, h3, h4⟩ := run_append_own_srcF (P := Tryd.prog) w base 28 28 28 5 ti (.int .u8 0) 1 1 Tryd.underlying28 hi0 hz0 hz1 hz2 rfl (by decide) v xs.length (vl xs) hown _ m (vl ys) (hr.src c) (by unfold maxLen; omega) (fun old ho => fits_wide ho hlen) hbase
  refine ⟨v', w', h1, ?_, grownBy_kp h3⟩
  have e : (xs ++ ys).length = xs.length + m := by rw [List.length_append, hr.len]
  unfold Ow
  rw [e, vl_append]
  exact h2
/-- what is one's own, with its room -/
theorem Ow.rbc {w : World} {base : Nat} {v : Value} {xs : List Nat} (h : Ow w base v xs) (hx : ∀ x ∈ xs, x < 256) : ∃ p c, v = .slice p xs.length c ∧ xs.length ≤ c ∧ Rb w p xs.length xs ∧ Hid (c ≤ maxLen) := by
  obtain ⟨p, c, e, h1, h2, _⟩ := h.rb hx
  refine ⟨p, c, e, h1, h2, ?_⟩
  rcases h.2 with ⟨e2, _⟩ | ⟨g, cap, cur, e2, _, _, _, hm, _⟩
  · rw [e] at e2
    simp only [Value.slice.injEq] at e2
    have := e2.2.2
    show c ≤ _
    omega
  · rw [e] at e2
    simp only [Value.slice.injEq] at e2
    have := e2.2.2
    show c ≤ _
    omega

set_option maxRecDepth 100000 in
set_option maxHeartbeats 1600000 in
/-- Unwrap of a frame with up to as much behind it as may be handed in -/
theorem unwrap_good (p : Option Addr) (n c : Nat) (xs : List Nat) (w : World) (h : Rb w p n xs) (hc : n ≤ c) (hn : Hid (n ≤ 150000000000000)) (ht : Turns w) (hE : lkE xs = 0) (hN9 : Hid (lkN xs ≤ 65535)) (hR9 : Hid (n ≤ lkN xs + 7 + 140737488355328)) :
    Calls Tryd.prog 21 #[.slice p n c] w fun e w' => ∃ v1 v2, e = .returned (.tuple #[v1, v2, .int .i64 0]) ∧ Kp (fun _ => False) w w' ∧ Ow w' w.heap.size v1 (unB xs) ∧ Ow w' w.heap.size v2 (unR xs) := by
  have HL : Hid (Calls _ _ _ w _) := look_any p n c xs w h hc (by have := hn.out; omega) ht
  · have hlen := lkE_zero hE
    have hl := h.len
    have e1 : lkP xs = 3 + lkN xs := by unfold lkP; rw [if_pos hE]
    have e2 : unB xs = (xs.take (3 + lkN xs)).drop 3 := by unfold unB; rw [if_pos hE]
    have e3 : unR xs = xs.drop (3 + lkN xs + 4) := by unfold unR; rw [if_pos hE]
    rw [hE, e1] at HL
    rw [e2, e3]
    obtain ⟨N, hN⟩ : ∃ N, N = lkN xs := ⟨_, rfl⟩
    rw [← hN] at HL hlen hN9 hR9 ⊢
    have s1 := slice_lh p n c 3 (3 + N) (by omega) (by omega)
    have s2 := slice_l p n c (3 + N + 4) (by omega)
    have r1 := h.part hc (l := 3) (r := 3 + N) (by omega) (by omega)
    have r2 := h.part hc (l := 3 + N + 4) (r := n) (by omega) (by omega)
    obtain ⟨p1, hp1⟩ : ∃ p1, p1 = if c = 3 then p else p.map (·.add (3 * 1)) := ⟨_, rfl⟩
    obtain ⟨p2, hp2⟩ : ∃ p2, p2 = if c = 3 + N + 4 then p else p.map (·.add ((3 + N + 4) * 1)) := ⟨_, rfl⟩
    rw [← hp1] at s1 r1
    rw [← hp2] at s2 r2
    rw [List.take_of_length_le (l := xs) (i := n) (by omega)] at r2
    have e3 : ((3 + N : Nat) : Int) = 3 + (N : Int) := by omega
    have e7 : ((3 + N + 4 : Nat) : Int) = 3 + (N : Int) + 4 := by omega
    have e33 : ((3 : Nat) : Int) = 3 := rfl
    have eN : 3 + N - 3 = N := by omega
    rw [eN] at s1 r1
    rw [e3, e33] at s1
    rw [e7] at s2
    rw [e3] at HL
    obtain ⟨L2, hL2⟩ : ∃ L2, L2 = n - (3 + N + 4) := ⟨_, rfl⟩
    obtain ⟨C2, hC2⟩ : ∃ C2, C2 = c - (3 + N + 4) := ⟨_, rfl⟩
    obtain ⟨C1, hC1⟩ : ∃ C1, C1 = c - 3 := ⟨_, rfl⟩
    have HL2 : Hid (L2 ≤ 140737488355328) := by have := hR9.out; show _ ≤ _; omega
    rw [← hL2] at s2 r2
    rw [← hC2] at s2
    rw [← hC1] at s1
    clear hC1 hC2 hL2
    have hwr : IntKind.i64.wrap (3 + (N : Int) + 4) = 3 + (N : Int) + 4 := by rw [IntKind.wrap_i64]; have := hn.out; omega
    have HC1 : Hid (∀ cc w', Kp (fun _ => False) w w' → Calls Tryd.prog 19 #[.slice p1 N cc] w' fun e w'' => ∃ v, e = .returned v ∧ Kp (fun _ => False) w' w'' ∧ Ow w'' w'.heap.size v ((xs.take (3 + N)).drop 3)) :=
      fun cc w' k => clone_any p1 N cc _ w' (r1.keep0 k) (by have := hN9.out; show _ ≤ _; omega)
    have HC2 : Hid (∀ cc w', Kp (fun _ => False) w w' → Calls Tryd.prog 19 #[.slice p2 L2 cc] w' fun e w'' => ∃ v, e = .returned v ∧ Kp (fun _ => False) w' w'' ∧ Ow w'' w'.heap.size v (xs.drop (3 + N + 4))) :=
      fun cc w' k => clone_any p2 L2 cc _ w' (r2.keep0 k) (by have := HL2.out; show _ ≤ _; omega)
    clear r1 r2 hp1 hp2 e3 e7 e33 eN hN hlen hl h hE e1 e2 ht hc
    go_enter Tryd.func21, Tryd.ntmps21
    go_wp2_with fail
    refine HL.out.mono ?_
    rintro e w1 ⟨rfl, m, hw1⟩
    have k1 : Kp (fun _ => False) w w1 := by rw [hw1]; exact (Kp.refl _ _).drewN _
    clear hw1 HL
    go_wp2
    go_region_with
      (first
        | (go_at_call 19; have k3 := k2; refine (HC2.out _ _ k3).mono ?_; rintro e wb ⟨vb, rfl, kb, ob⟩)
        | (go_at_call 19; refine (HC1.out _ _ k1.drew).mono ?_; rintro e wa ⟨va, rfl, ka, oa⟩; have k2 := k1.drew.trans ka (fun _ _ e => e)))
    all_goals go_wp2
    all_goals go_ret3
    all_goals exact ⟨va, vb, rfl, k2.trans kb (fun _ _ e => e), ownsRow_base (ownsRow_keep oa kb (fun _ _ => id)) k1.size, ownsRow_base ob k2.size⟩
end Go.Proofs.YtoepemgflbmlcaaDoor

/- FrameBack: its walk. -/
namespace Go.Proofs.YtoepemgflbmlcaaDoor
set_option linter.unusedVariables false
set_option linter.unusedSimpArgs false
open Go.RowKit Go.Deep

theorem wpList_append_wide {ops : Array Oper} {rest : List Oper} {o : Oper} {a : Act} {Q : Exit → Act → World → Prop} (w : World) (hgd : o.guard = none) (s y : Operand)
    (ho : o.op = .call { callee := .builtin .append, args := #[s, y], argTypes := #[28, 28] }) (hty : o.type = 28)
    (base : Nat) (v : Value) (xs : List Nat) (hs : a.eval s = v) (hown : Ow w base v xs)
    (p : Option Addr) (m c : Nat) (ys : List Nat) (hx : a.eval y = .slice p m c) (hr : Rb w p m ys)
    (hlen : xs.length + m ≤ 150000000000000) (hbase : base ≤ w.heap.size)
    (h : ∀ v' w', Ow w' base v' (xs ++ ys) → Kp (fun b => v.ownBlock = some b) w w' → wpList Tryd.prog ops Q rest (a.put o.dst v') w') :
    wpList Tryd.prog ops Q (o :: rest) a w := by
  refine wpList_plain hgd fun K hK => ?_
  obtain ⟨v', w', hrn, h2, h3⟩ := run_append_wide w base v xs hown p m c ys hr hlen hbase
  unfold Oper.wp execOp
  simp only [ho, hty, resolve, invoke, builtin, Sem.run_bind, Sem.run_pure, Result.andThen_ok, List.map_toArray, List.map_cons, List.map_nil, hs, hx, hrn]
  exact hK _ _ (h v' w' h2 h3)

theorem wpList_ldr {ops : Array Oper} {rest : List Oper} {op : Oper} {a : Act} {w : World} {Q : Exit → Act → World → Prop} (hw : Region.wanted op (yielded ops a.tmps) = true) (ty : TypeId) (x : Operand) (ho : op.op = .load ty x)
    (b o : Nat) (hx : a.eval x = .pointer (some ⟨b, o, none⟩)) (cs : List Value) (d : TypeDesc) (hc : w.rangeAt b o cs)
    (hu : Tryd.prog.underlying ty = some d) (hd : d.isRow = true) (hi : (Tryd.prog.info? ty).map (·.size) = some cs.length)
    (h : wpList Tryd.prog ops Q rest (a.put op.dst (.agg cs.toArray)) w) : wpList Tryd.prog ops Q (op :: rest) a w :=
  wpList_step fun K hK => by simp only [hw, if_true]; exact wp_load_mid ty x ho b o hx cs d hc hu hd hi (hK _ _ h)

set_option maxRecDepth 100000 in
set_option maxHeartbeats 3200000 in
theorem frameBack_walk (p : Option Addr) (n c : Nat) (xs : List Nat) (pr : Option Addr) (nr cr : Nat) (rs : List Nat) (xa : Array Value) (w : World) (h : Rb w p n xs) (hc : n ≤ c) (hn : Hid (n ≤ 140737488355328)) (hr : Rb w pr nr rs) (hcr : nr ≤ cr) (hnr : Hid (nr ≤ 140737488355328)) (hm : ∃ μ : Ms, Mr w (· < w.heap.size) μ (.agg xa) ∧ goodM μ) (ht : Turns w) :
    Calls Tryd.prog 5 #[.slice p n c, .slice pr nr cr, .agg xa] w fun e w' => e = .returned (.bool true) ∧ Kp (fun _ => False) w w' := by
  obtain ⟨μ, hμ, hg⟩ := hm
  obtain ⟨r, hr0⟩ : ∃ r, r = min n 5000 := ⟨_, rfl⟩
  have hmin : min (n : Int) 5000 = (r : Int) := by rw [hr0]; omega
  have HRr : Hid (r ≤ 5000 ∧ r ≤ c) := ⟨by omega, by omega⟩
  have HX : Hid ((xs.take r).length = r) := by show _ = _; rw [List.length_take, h.len]; omega
  have HB : Hid (∀ x ∈ xs.take r ++ [1], x < 256) := fun x hx => by
    rcases List.mem_append.1 hx with hx | hx
    · exact h.byte x (List.mem_of_mem_take hx)
    · simp only [List.mem_cons, List.not_mem_nil, or_false] at hx; omega
  have HR0 : Hid (Rb w p r (xs.take r)) := h.first (by omega)
  have sl := slice_first p n c r (by omega)
  have HP : Hid (Rb w pr nr rs) := hr
  have HC1 : Hid (∀ u, Kp (fun _ => False) w u → Calls Tryd.prog 14 #[.agg xa] u fun e w' => MsgRes μ u e w' ∧ Kp (fun _ => False) u w') := fun u k => fmsg_ok _ μ _ u (hμ.keep k (fun _ _ => id)) (fun b hb => Nat.lt_of_lt_of_le hb k.size) hg
  have HC2 : Hid (∀ u, Kp (fun _ => False) w u → Calls Tryd.prog 22 #[.agg xa] u fun e w' => e = .returned (.bool (mayM μ)) ∧ Kp (fun _ => False) u w') := fun u k => xmayMsg_ok _ μ _ u (hμ.keep k (fun _ _ => id)) hg
  have HS : Hid (goodM μ ∧ ∀ x ∈ μ.bytes, x < 256) := ⟨hg, by obtain ⟨_, _, _, _, _, _, _, _, _, _, _, _, _, _, _, h8, _⟩ := hμ; exact h8⟩
  have HMu : Hid (Mr w (· < w.heap.size) μ (.agg xa)) := hμ
  have HT : Hid (Turns w) := ht
  obtain ⟨u0, hu0⟩ : ∃ x, x = w.alloc (.cells xa 40) := ⟨_, rfl⟩
  have HK0 : Hid (Kp (fun _ => False) w u0) := by rw [hu0]; exact (Kp.refl _ _).alloc _
  have HL0 : Hid (Lv u0 w.heap.size xa.toList) := by rw [hu0]; exact Lv.new w _ _
  have HXl : Hid (xa.toList.length = 24) := by obtain ⟨p, cp, pv, cv, l, pb, cb, e, _⟩ := hμ; injection e with e; rw [e]; rfl
  clear hμ hg h hr hc ht hr0 hcr
  obtain ⟨dM, hdM, hdMr⟩ := dsMsg
  obtain ⟨dC, hdC, hdCr⟩ := dsCmd
  go_enter Tryd.func5, Tryd.ntmps5
  go_upto_region 1 with fail
  rw [← hu0]
  clear hu0
  go_wp2_with fail
  refine (clone_any p r c (xs.take r) u0 (HR0.out.keep0 HK0.out) (by show _ ≤ _; have := HRr.out; omega)).mono ?_
  rintro e w1 ⟨v1, rfl, k1, o1⟩
  obtain ⟨w2, hw2⟩ : ∃ x, x = w1.alloc (.cells #[.int .u8 1] 5) := ⟨_, rfl⟩
  have z1 : w2.heap.size = w1.heap.size + 1 := by rw [hw2]; simp
  have HO2 : Hid (Ow w2 u0.heap.size v1 (xs.take r)) := by rw [hw2]; exact World.ownsRow.alloc o1 _
  have k12 : Kp (fun _ => False) u0 w2 := by rw [hw2]; exact k1.alloc _
  have HK2 : Hid (Kp (fun _ => False) u0 w2) := k12
  have HL1 : Hid (Rb w2 (some ⟨w1.heap.size, 0, none⟩) 1 [1]) := by rw [hw2]; exact rb_lit1 w1 1 (by omega)
  clear o1 k1 k12 z1
  go_wp2_with (at_builtin; rw [← hw2]; refine wpList_append_bytes _ rfl _ _ rfl u0.heap.size v1 (xs.take r) rfl HO2.out (some ⟨w1.heap.size, 0, none⟩) 1 1 [1] rfl HL1.out (by have := HX.out; have := HRr.out; omega) HK2.out.size ?_
               intro v2 w3 o3 k3 _)
  have HK3 : Hid (Kp (fun _ => False) u0 w3) := Kp.app HK2.out HO2.out k3
  obtain ⟨ys, hys⟩ : ∃ ys, ys = xs.take r ++ [1] := ⟨_, rfl⟩
  rw [← hys] at o3 HB
  have HY : Hid (ys.length = r + 1) := by show _ = _; rw [hys, List.length_append, HX.out]; rfl
  obtain ⟨p2, c2, rfl, hc2, r2, _⟩ := o3.rb HB.out
  obtain ⟨y, hy⟩ : ∃ y, y = ys.length := ⟨_, rfl⟩
  have HYy : Hid (y = ys.length ∧ y = r + 1) := ⟨hy, by rw [hy]; exact HY.out⟩
  rw [← hy] at r2 hc2 ⊢
  have HR3 : Hid (Rb w3 p2 y ys) := r2
  clear hys HX HO2 k3 o3 r2 hw2 HL1 HK2 hc2 sl hmin hy HR0
  go_wp2_with fail
  refine (wrap_yes p2 _ c2 ys w3 HR3.out (by have := HYy.out; omega) (by have := HYy.out; have := HRr.out; omega) (HT.out.keep0 (HK0.out.trans HK3.out (fun _ _ e => e)))).mono ?_
  rintro e w4 ⟨v4, rfl, k4, o4⟩
  have HK4 : Hid (Kp (fun _ => False) u0 w4) := HK3.out.trans k4 (fun _ _ e => e)
  have HR4 : Hid (Rb w4 p2 y ys) := HR3.out.keep0 k4
  have HFb : Hid (∀ x ∈ frm ys, x < 256) := frm_byte HB.out (by have := HYy.out; have := HRr.out; omega)
  obtain ⟨p4, c4, rfl, hc4, r4, _⟩ := o4.rb HFb.out
  obtain ⟨F, hF⟩ : ∃ F, F = (frm ys).length := ⟨_, rfl⟩
  have HF : Hid (F = (frm ys).length ∧ F = y + 7) := ⟨hF, by rw [hF, frm_length, HYy.out.1]⟩
  rw [← hF] at r4 hc4 ⊢
  have HR5 : Hid (Rb w4 p4 F (frm ys)) := r4
  clear k4 o4 r4 hF hc4 HR3
  go_wp2_with fail
  refine (clone_any p4 F c4 (frm ys) w4 HR5.out (by show _ ≤ _; have := HF.out; have := HYy.out; have := HRr.out; omega)).mono ?_
  rintro e w5 ⟨v5, rfl, k5, o5⟩
  have HK5 : Hid (Kp (fun _ => False) u0 w5) := HK4.out.trans k5 (fun _ _ e => e)
  have HO5 : Hid (Ow w5 w4.heap.size v5 (frm ys)) := o5
  have HK45 : Hid (Kp (fun _ => False) w4 w5) := k5
  clear k5 o5 HR5
  go_wp2_with (at_builtin; refine wpList_append_wide _ rfl _ _ rfl rfl w4.heap.size v5 (frm ys) rfl HO5.out pr nr cr rs rfl ((HP.out.keep0 HK0.out).keep0 HK5.out) (by have := HF.out; have := HYy.out; have := HRr.out; have := hnr.out; omega) HK45.out.size ?_
               intro v6 w6 o6 k6)
  have k46 := Kp.app HK45.out HO5.out k6
  have HK6 : Hid (Kp (fun _ => False) u0 w6) := HK4.out.trans k46 (fun _ _ e => e)
  have HR6 : Hid (Rb w6 p2 y ys) := HR4.out.keep0 k46
  have HGb : Hid (∀ x ∈ frm ys ++ rs, x < 256) := fun x hx => by
    rcases List.mem_append.1 hx with hx | hx
    · exact HFb.out x hx
    · exact HP.out.byte x hx
  obtain ⟨p6, c6, rfl, hc6, r6, _⟩ := o6.rb HGb.out
  obtain ⟨G, hG⟩ : ∃ G, G = (frm ys ++ rs).length := ⟨_, rfl⟩
  have HG : Hid (G = F + nr) := by show _ = _; rw [hG, List.length_append, HF.out.1, HP.out.len]
  rw [← hG] at r6 hc6 ⊢
  have HR7 : Hid (Rb w6 p6 G (frm ys ++ rs) ∧ G ≤ c6) := ⟨r6, hc6⟩
  clear k6 k46 o6 r6 hG hc6 HO5 HK45 HK4 HR4
  go_wp2_with fail
  have h1y : 1 ≤ ys.length := by have := HYy.out; omega
  have hlk : lkN (frm ys ++ rs) = ys.length := lkN_frame' ys rs
  refine (unwrap_good p6 G c6 _ w6 HR7.out.1 HR7.out.2 (by show _ ≤ _; have := HG.out; have := HF.out; have := HYy.out; have := HRr.out; have := hnr.out; omega) (HT.out.keep0 (HK0.out.trans HK6.out (fun _ _ e => e))) (lk_frame ys rs h1y) (by show _ ≤ _; rw [hlk]; have := HYy.out; have := HRr.out; omega) (by show _ ≤ _; rw [hlk]; have := HG.out; have := HF.out; have := HYy.out; have := hnr.out; omega)).mono ?_
  rintro e w7 ⟨v7, v8, rfl, k7, o7, o8⟩
  rw [unB_frame ys rs h1y] at o7
  rw [unR_frame ys rs h1y] at o8
  obtain ⟨p7, c7, rfl, _, r7, _⟩ := o7.rb HB.out
  obtain ⟨p8, c8, rfl, _, r8, _⟩ := o8.rb (fun x hx => HP.out.byte x hx)
  have hrl : rs.length = nr := HP.out.len
  rw [hrl] at r8 ⊢
  rw [← HYy.out.1] at r7 ⊢
  have HK7 : Hid (Kp (fun _ => False) u0 w7) := HK6.out.trans k7 (fun _ _ e => e)
  have HE1 : Hid (Calls _ _ _ w7 _) := bytes_same p7 p2 y y c7 c2 ys w7 r7 (HR6.out.keep0 k7)
  have HE2 : Hid (Calls _ _ _ w7 _) := bytes_same p8 pr nr nr c8 cr rs w7 r8 ((HP.out.keep0 HK0.out).keep0 HK7.out)
  clear k7 o7 o8 r7 r8 hrl HR6 HR7 h1y hlk HGb HFb HG
  go_wp2_with fail
  refine HE1.out.mono ?_
  rintro e9 w9 ⟨rfl, hw9⟩
  have hw8 := hw9.symm
  subst hw8
  clear hw9 HE1
  go_wp2_with fail
  refine HE2.out.mono ?_
  rintro e9 w9 ⟨rfl, hw9⟩
  have hw8 := hw9.symm
  subst hw8
  clear hw9 HE2
  have HKw : Hid (Kp (fun _ => False) w w7) := HK0.out.trans HK7.out (fun _ _ e => e)
  have HL7 : Hid (Lv w7 w.heap.size xa.toList) := HL0.out.keep HK7.out id
  clear HK7 HK6 HK5 HK3 HK0 HL0 HF HYy HY HRr HB
  go_upto_region 6 with fail
  go_wp2_with (refine wpList_load_all rfl 40 _ rfl 24 w.heap.size xa.toList rfl HL7.out ⟨dM, hdM, hdMr⟩ szMsg HXl.out ?_; rw [Array.toArray_toList])
  refine (HC1.out w7 HKw.out).mono ?_
  rintro e9 w8 ⟨hres, k8⟩
  have HK8 : Hid (Kp (fun _ => False) w w8) := HKw.out.trans k8 (fun _ _ e => e)
  have HL8 : Hid (Lv w8 w.heap.size xa.toList) := HL7.out.keep k8 id
  clear k8 HL7 HKw HC1
  obtain ⟨B, hB⟩ : ∃ b, b = mayM μ := ⟨_, rfl⟩
  rw [← hB] at HC2
  unfold MsgRes at hres
  rw [← hB] at hres
  cases B with
  | false =>
    rw [if_neg (by simp)] at hres
    subst hres
    clear hB
    go_wp2_with (refine wpList_load_all rfl 40 _ rfl 24 w.heap.size xa.toList rfl HL8.out ⟨dM, hdM, hdMr⟩ szMsg HXl.out ?_; rw [Array.toArray_toList])
    refine (HC2.out w8 HK8.out).mono ?_
    rintro e9 w9 ⟨rfl, k9⟩
    have HK9 : Hid (Kp (fun _ => False) w w9) := HK8.out.trans k9 (fun _ _ e => e)
    clear k9
    go_wp2_with fail
    go_ret
    exact ⟨rfl, HK9.out⟩
  | true =>
    rw [if_pos rfl] at hres
    obtain ⟨v8, he, o8⟩ := hres
    obtain ⟨q8, c8, rfl, hc8, r8, hx8⟩ := Ow.rbc o8 (msgB_byte hB.symm HS.out.1 HS.out.2)
    subst he
    have HM1 : Hid (mayM μ = true) := hB.symm
    clear hB o8
    obtain ⟨N8, hN8⟩ : ∃ x, x = (msgB (mpOf μ)).length := ⟨_, rfl⟩
    rw [← hN8] at hc8 r8 ⊢
    have HR8 : Hid (Rb w8 q8 N8 (msgB (mpOf μ)) ∧ N8 ≤ c8 ∧ (c8 : Int) ≤ 9223372036854775807) := ⟨r8, hc8, by have := hx8.out; simp only [maxLen] at this; omega⟩
    clear hc8 r8 hx8 hN8
    go_wp2_with (refine wpList_load_all rfl 40 _ rfl 24 w.heap.size xa.toList rfl HL8.out ⟨dM, hdM, hdMr⟩ szMsg HXl.out ?_; rw [Array.toArray_toList])
    refine (HC2.out w8 HK8.out).mono ?_
    rintro e9 w9 ⟨rfl, k9⟩
    have HK9 : Hid (Kp (fun _ => False) w w9) := HK8.out.trans k9 (fun _ _ e => e)
    have HL9 : Hid (Lv w9 w.heap.size xa.toList) := HL8.out.keep k9 id
    have HR9 : Hid (Rb w9 q8 N8 (msgB (mpOf μ))) := HR8.out.1.keep0 k9
    clear k9 HL8 HC2 HK8
    go_wp2_with fail
    refine (readmsg_ok q8 N8 c8 _ w9 HR9.out HR8.out.2.1 HR8.out.2.2).mono ?_
    rintro e9 w10 ⟨hr, k10⟩
    obtain ⟨xb, rfl, f10, l10, o10⟩ := hr.norm
    rw [mtR_msgB HM1.out HS.out.1] at f10 ⊢
    have HXbl : Hid (xb.toList.length = 24) := l10
    have HXb1 : Hid (xb.toList.toArray.all (·.oneCell') = true) := o10
    have HK10 : Hid (Kp (fun _ => False) w w10) := HK9.out.trans k10 (fun _ _ e => e)
    have HL10 : Hid (Lv w10 w.heap.size xa.toList) := HL9.out.keep k10 id
    have HF10 : Hid (Mr w10 (fun _ => True) μ (.agg xb)) := f10
    clear k10 f10 l10 o10 hr HL9 HR9 HR8 HK9
    go_upto_region 10 with (refine wpList_store_all rfl 40 _ _ rfl 24 w10.heap.size zeroM.toList xb.toList rfl (by rw [Array.toArray_toList]; rfl) (by exact Lv.new w10 _ _) szMsg rfl HXbl.out HXb1.out ?_; intro w11 hl11 k11)
    have kk : Kp (fun _ => False) w10 w11 := ((Kp.refl (fun _ => False) w10).alloc (.cells zeroM 40)).trans k11 (fun b hb e => by omega)
    obtain ⟨g, hg⟩ : ∃ x, x = w10.heap.size := ⟨_, rfl⟩
    rw [← hg] at hl11 ⊢
    have HK11 : Hid (Kp (fun _ => False) w w11) := HK10.out.trans kk (fun _ _ e => e)
    have HL11 : Hid (Lv w11 w.heap.size xa.toList ∧ Lv w11 g xb.toList) := ⟨HL10.out.keep kk id, hl11⟩
    have HF11 : Hid (Mr w11 (fun _ => True) μ (.agg xb)) := HF10.out.keep kk (fun _ _ => id)
    clear k11 kk hl11 hg HL10 HF10 HK10
    obtain ⟨pc, cp, pv, cv, lv, pb, cb, hxa, f1, f2, _⟩ := HMu.out
    have hxa2 : xa = msgA μ.s (.slice pc μ.nodes.length cp) (.slice pv lv.length cv) (.slice pb μ.bytes.length cb) := by injection hxa
    have HXd : Hid ((xa.toList.drop 10).take 12 = (cmdA μ.s.c (.slice pc μ.nodes.length cp)).toList) := by show _ = _; rw [hxa2]; rfl
    have HFl : Hid (Fl w (· < w.heap.size) pc (μ.nodes.map encI) ∧ μ.nodes.length * 8 ≤ 140737488355328) := ⟨f1, f2⟩
    obtain ⟨xd, hxd⟩ : ∃ x, x = cmdA μ.s.c (.slice pc μ.nodes.length cp) := ⟨_, rfl⟩
    have HXd2 : Hid (xd = cmdA μ.s.c (.slice pc μ.nodes.length cp)) := hxd
    rw [← hxd] at HXd
    clear hxa hxa2 f1 f2 hxd
    have HCc : Hid (∀ u, Kp (fun _ => False) w u → Calls Tryd.prog 7 #[.agg xd] u fun e w' => CmdRes μ.s.c μ.nodes u e w' ∧ Kp (fun _ => False) u w') := fun u k => by
      rw [HXd2.out]
      exact fcmd_ok μ.s.c _ pc μ.nodes.length cp μ.nodes u (HFl.out.1.keep k (fun _ _ => id)) (fun b hb => Nat.lt_of_lt_of_le hb k.size) rfl (by have := HFl.out.2; omega) HS.out.1.1.2.2 ⟨HS.out.1.1.1, HS.out.1.1.2.1⟩
    go_wp2_with (refine wpList_load_lv rfl 27 _ rfl w.heap.size 10 12 xa.toList dC HL11.out.1 rfl hdC hdCr szCmd (by rw [HXl.out]; decide) ?_; rw [HXd.out, Array.toArray_toList])
    refine (HCc.out w11 HK11.out).mono ?_
    rintro e9 w12 ⟨hres, k12⟩
    have HmC : Hid (mayC μ.s.c μ.nodes = true) := (mayM_full HM1.out).c
    have HSs : Hid (0 ≤ μ.s.c.sum ∧ μ.s.c.sum < 4294967296) := ⟨HS.out.1.1.1, HS.out.1.1.2.1⟩
    unfold CmdRes at hres
    rw [if_pos HmC.out] at hres
    obtain ⟨v12, he, o12⟩ := hres
    obtain ⟨q12, c12, rfl, hc12, r12, hx12⟩ := Ow.rbc o12 (cmdB_byte HmC.out HSs.out)
    subst he
    obtain ⟨N12, hN12⟩ : ∃ x, x = (cmdB (cpOf μ.s.c μ.nodes)).length := ⟨_, rfl⟩
    rw [← hN12] at hc12 r12 ⊢
    have HR12 : Hid (Rb w12 q12 N12 (cmdB (cpOf μ.s.c μ.nodes)) ∧ N12 ≤ c12 ∧ (c12 : Int) ≤ 9223372036854775807) := ⟨r12, hc12, by have := hx12.out; simp only [maxLen] at this; omega⟩
    have HK12 : Hid (Kp (fun _ => False) w w12) := HK11.out.trans k12 (fun _ _ e => e)
    have HL12 : Hid (Lv w12 w.heap.size xa.toList ∧ Lv w12 g xb.toList) := ⟨HL11.out.1.keep k12 id, HL11.out.2.keep k12 id⟩
    have HF12 : Hid (Mr w12 (fun _ => True) μ (.agg xb)) := HF11.out.keep k12 (fun _ _ => id)
    clear k12 o12 hc12 r12 hx12 hN12 HL11 HF11 HK11 HCc
    go_wp2_with fail
    refine (readcmd_ok q12 N12 c12 _ w12 HR12.out.1 HR12.out.2.1 HR12.out.2.2).mono ?_
    rintro e9 w13 ⟨hr, k13⟩
    obtain ⟨q13, c13, rfl, f13, l13⟩ := hr.norm (cmdB_byte HmC.out HSs.out)
    rw [atR_cmdB HmC.out HSs.out] at f13 l13 ⊢
    obtain ⟨xc, hxc⟩ : ∃ x, x = cmdA μ.s.c (.slice q13 μ.nodes.length c13) := ⟨_, rfl⟩
    have HXc : Hid (xc = cmdA μ.s.c (.slice q13 μ.nodes.length c13)) := hxc
    have HXcl : Hid (xc.toList.length = 12) := by rw [hxc]; rfl
    have HXc1 : Hid (xc.toList.toArray.all (·.oneCell') = true) := by rw [hxc]; exact cmd_one _ rfl
    dsimp only
    rw [← hxc]
    have HK13 : Hid (Kp (fun _ => False) w w13) := HK12.out.trans k13 (fun _ _ e => e)
    have HL13 : Hid (Lv w13 w.heap.size xa.toList ∧ Lv w13 g xb.toList) := ⟨HL12.out.1.keep k13 id, HL12.out.2.keep k13 id⟩
    have HF13 : Hid (Mr w13 (fun _ => True) μ (.agg xb) ∧ Fl w13 (fun _ => True) q13 (μ.nodes.map encI)) := ⟨HF12.out.keep k13 (fun _ _ => id), f13⟩
    clear k13 f13 l13 hr hxc HL12 HF12 HK12 HR12
    go_upto_region 12 with (refine wpList_store_all rfl 27 _ _ rfl 12 w13.heap.size zeroC.toList xc.toList rfl (by rw [Array.toArray_toList]; rfl) (by exact Lv.new w13 _ _) szCmd rfl HXcl.out HXc1.out ?_; intro w14 hl14 k14)
    have kk : Kp (fun _ => False) w13 w14 := ((Kp.refl (fun _ => False) w13).alloc (.cells zeroC 27)).trans k14 (fun b hb e => by omega)
    obtain ⟨g2, hg2⟩ : ∃ x, x = w13.heap.size := ⟨_, rfl⟩
    rw [← hg2] at hl14 ⊢
    have HK14 : Hid (Kp (fun _ => False) w w14) := HK13.out.trans kk (fun _ _ e => e)
    have HL14 : Hid (Lv w14 w.heap.size xa.toList ∧ Lv w14 g xb.toList ∧ Lv w14 g2 xc.toList) := ⟨HL13.out.1.keep kk id, HL13.out.2.keep kk id, hl14⟩
    have HF14 : Hid (Mr w14 (fun _ => True) μ (.agg xb) ∧ Fl w14 (fun _ => True) q13 (μ.nodes.map encI)) := ⟨HF13.out.1.keep kk (fun _ _ => id), HF13.out.2.keep kk (fun _ _ => id)⟩
    have HSm : Hid (Calls Tryd.prog 18 #[.agg xa, .agg xb] w14 fun e w' => e = .returned (.bool true) ∧ Kp (fun _ => False) w14 w') := same_msg _ _ μ _ _ w14 (HMu.out.keep HK14.out (fun _ _ => id)) HF14.out.1
    clear k14 kk hl14 hg2 HL13 HF13 HK13
    go_wp2_with (first
      | (refine wpList_ldr (by first | rfl | go_simp) 40 _ rfl w.heap.size 0 rfl xa.toList dM HL14.out.1.r hdM hdMr (by rw [szMsg, HXl.out]) ?_; rw [Array.toArray_toList])
      | (refine wpList_ldr (by first | rfl | go_simp) 40 _ rfl g 0 rfl xb.toList dM HL14.out.2.1.r hdM hdMr (by rw [szMsg, HXbl.out]) ?_; rw [Array.toArray_toList]))
    refine HSm.out.mono ?_
    rintro e9 w15 ⟨rfl, k15⟩
    have HK15 : Hid (Kp (fun _ => False) w w15) := HK14.out.trans k15 (fun _ _ e => e)
    have HL15 : Hid (Lv w15 w.heap.size xa.toList ∧ Lv w15 g2 xc.toList) := ⟨HL14.out.1.keep k15 id, HL14.out.2.2.keep k15 id⟩
    have HRg : Hid (w15.rangeAt w.heap.size 10 xd.toList) := fun j v hv => by
      have e1 := HXd.out
      rw [← e1] at hv
      have hj : j < 12 := by
        have := (List.getElem?_eq_some_iff.1 hv).1
        rw [List.length_take] at this
        omega
      rw [List.getElem?_take_of_lt hj, List.getElem?_drop] at hv
      have := HL15.out.1.r (10 + j) v hv
      rwa [Nat.zero_add] at this
    have HSc : Hid (Calls Tryd.prog 12 #[.agg xc, .agg xd] w15 fun e w' => e = .returned (.bool true) ∧ Kp (fun _ => False) w15 w') := by
      rw [HXc.out, HXd2.out]
      exact same_cmd μ.s.c (fun _ => True) _ q13 pc c13 cp μ.nodes w15 (HF14.out.2.keep k15 (fun _ _ => id)) (HFl.out.1.keep HK15.out (fun _ _ => id)) HFl.out.2
    have HXdl : Hid (xd.toList.length = 12) := by rw [HXd2.out]; rfl
    clear k15 HK14 HL14 HF14 HSm
    go_wp2_with (first
      | (refine wpList_ldr (by first | rfl | go_simp) 27 _ rfl g2 0 rfl xc.toList dC HL15.out.2.r hdC hdCr (by rw [szCmd, HXcl.out]) ?_; rw [Array.toArray_toList])
      | (refine wpList_ldr (by first | rfl | go_simp) 27 _ rfl w.heap.size 10 rfl xd.toList dC HRg.out hdC hdCr (by rw [szCmd, HXdl.out]) ?_; rw [Array.toArray_toList]))
    refine HSc.out.mono ?_
    rintro e9 w16 ⟨rfl, k16⟩
    have HK16 : Hid (Kp (fun _ => False) w w16) := HK15.out.trans k16 (fun _ _ e => e)
    clear k16
    go_wp2_with fail
    go_ret
    exact ⟨rfl, HK16.out⟩
end Go.Proofs.YtoepemgflbmlcaaDoor

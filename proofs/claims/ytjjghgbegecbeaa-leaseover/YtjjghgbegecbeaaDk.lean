/- A clock ticks. -/
import Derived.Test.YtjjghgbegecbeaaDt
import Derived.WideKeyEntry
namespace Go.Proofs.Ytjjghgbegecbeaa
set_option linter.unusedVariables false
set_option linter.unusedSimpArgs false
open Go.RowKit Go.Deep Go.Maps

/-- the leads behind a tick of n, as far as clocks below k go -/
def tickTo (n k : Nat) (L : Nat → Nat → Nat) (a b : Nat) : Nat := if a = n ∧ b ≠ n ∧ b < k then L a b + 1 else if b = n ∧ a ≠ n ∧ a < k then L a b - 2 else L a b
def tickT (n : Nat) (T : Nat → Nat) (a : Nat) : Nat := if a = n then T a + 1 else T a
theorem tickTo_zero (n : Nat) (L : Nat → Nat → Nat) (a b : Nat) : tickTo n 0 L a b = L a b := by unfold tickTo; rw [if_neg (by omega), if_neg (by omega)]
theorem tickTo_self (n : Nat) (L : Nat → Nat → Nat) (a b : Nat) : tickTo n (n + 1) L a b = tickTo n n L a b := by
  unfold tickTo
  by_cases h1 : a = n ∧ b ≠ n ∧ b < n
  · rw [if_pos h1, if_pos (by omega)]
  · rw [if_neg h1, if_neg (by omega)]
    by_cases h2 : b = n ∧ a ≠ n ∧ a < n
    · rw [if_pos h2, if_pos (by omega)]
    · rw [if_neg h2, if_neg (by omega)]
theorem tickTo_at1 (n k : Nat) (L : Nat → Nat → Nat) (ne : k ≠ n) : tickTo n k L n k = L n k := by unfold tickTo; rw [if_neg (by omega), if_neg (by omega)]
theorem tickTo_at2 (n k : Nat) (L : Nat → Nat → Nat) (ne : k ≠ n) : tickTo n k L k n = L k n := by unfold tickTo; rw [if_neg (by omega), if_neg (by omega)]
theorem tickTo_next (n k : Nat) (L : Nat → Nat → Nat) (ne : k ≠ n) (a b : Nat) :
    (if a = k ∧ b = n then L k n - 2 else if a = n ∧ b = k then L n k + 1 else tickTo n k L a b) = tickTo n (k + 1) L a b := by
  unfold tickTo
  by_cases h1 : a = k ∧ b = n
  · obtain ⟨rfl, rfl⟩ := h1
    rw [if_pos ⟨rfl, rfl⟩, if_neg (by omega), if_pos ⟨rfl, ne, by omega⟩]
  · rw [if_neg h1]
    by_cases h2 : a = n ∧ b = k
    · obtain ⟨rfl, rfl⟩ := h2
      rw [if_pos ⟨rfl, rfl⟩, if_pos (by omega)]
    · rw [if_neg h2]
      by_cases h3 : a = n ∧ b ≠ n ∧ b < k
      · rw [if_pos h3, if_pos (by omega)]
      · rw [if_neg h3, if_neg (c := a = n ∧ b ≠ n ∧ b < k + 1) (by omega)]
        by_cases h4 : b = n ∧ a ≠ n ∧ a < k
        · rw [if_pos h4, if_pos (by omega)]
        · rw [if_neg h4, if_neg (c := b = n ∧ a ≠ n ∧ a < k + 1) (by omega)]
theorem tickTo_lead (h : List Nat) (n N a b : Nat) (ha : a < N) (hb : b < N) : tickTo n N (lead h) a b = lead (n :: h) a b := by
  unfold tickTo
  by_cases h1 : a = n ∧ b ≠ n ∧ b < N
  · rw [if_pos h1]
    obtain ⟨rfl, h2, _⟩ := h1
    exact (lead_tick h _ b h2).symm
  · rw [if_neg h1]
    by_cases h3 : b = n ∧ a ≠ n ∧ a < N
    · rw [if_pos h3]
      obtain ⟨rfl, h4, _⟩ := h3
      exact (lead_ticked h _ a h4).symm
    · rw [if_neg h3]
      by_cases e : a = n
      · have : b = n := by
          by_cases e2 : b = n
          · exact e2
          · exact (h1 ⟨e, e2, hb⟩).elim
        subst e
        subst this
        rw [lead_self, lead_self]
      · by_cases e2 : b = n
        · exact (h3 ⟨e2, e, ha⟩).elim
        · exact (lead_other h n a b e e2).symm

set_option maxRecDepth 100000 in
theorem look_lead {w : World} {m N : Nat} {L : Nat → Nat → Nat} (h : Lm w m N L) (hN : N ≤ 16) (i j : Nat) (hi : i < N) (hj : j < N) :
    (Instr.lookup 78 (.map (some m)) (pv i j) false).run Try.prog w = .ok (.int .i64 ((L i j : Nat) : Int)) w := by
  obtain ⟨D, hown, h2⟩ := h
  obtain ⟨c, hc1, hc2, _⟩ := hown.lookup_int pairLaw Try.underlying78 Try.underlying3 (zeroInt w) (pk_key i j (by omega) (by omega))
  rw [h2.1 i j hi hj] at hc2
  injection hc2 with hc2
  injection hc2 with _ hc2
  rw [hc1, hc2]
theorem Lm.of_block {w w' : World} {m N : Nat} {L : Nat → Nat → Nat} (h : Lm w m N L) (e : w'.heap[m]? = w.heap[m]?) : Lm w' m N L := by
  obtain ⟨D, ⟨es, clock, hb, r⟩, h2⟩ := h
  exact ⟨D, ⟨es, clock, e.trans hb, r⟩, h2⟩
theorem kp_setBlock (w : World) (m : Nat) (o : Obj) : Kp (fun x => x = m) w (ChangeMaps.setBlock w m o) :=
  ⟨rfl, rfl, rfl, by simp [ChangeMaps.setBlock], fun k _ hk => by
    show (w.heap.setIfInBounds m o)[k]? = _
    rw [Array.getElem?_setIfInBounds_ne (fun e => hk e.symm)]⟩
set_option maxRecDepth 100000 in
/-- 'm[k]' is there, or is laid as 0; what is stored at it then is the map's -/
theorem entry_run {w : World} {m N : Nat} {L : Nat → Nat → Nat} (h : Lm w m N L) (hN : N ≤ 16) (i j : Nat) (hi : i < N) (hj : j < N) :
    ∃ (v0 : Value) (st : Nat) (w1 : World), (Instr.mapEntry 78 (.map (some m)) (pv i j)).run Try.prog w = .ok (.tuple #[v0, goInt st]) w1 ∧ Kp (fun x => x = m) w w1 ∧ Lm w1 m N L ∧
      ∀ w2 : World, w2.heap[m]? = w1.heap[m]? → ∀ c : Nat, (c : Int) ≤ 1000 → ∃ w3, (Instr.entryStore 78 (.map (some m)) (goInt st) (.int .i64 (c : Int))).run Try.prog w2 = .ok () w3 ∧ Kp (fun x => x = m) w2 w3 ∧ Lm w3 m N (fun a b => if a = i ∧ b = j then c else L a b) := by
  have hlm := h
  have hlt := h.lt
  obtain ⟨D, hown, h2⟩ := h
  have hNN : N * N ≤ 256 := Nat.le_trans (Nat.mul_le_mul hN hN) (by decide)
  have hkey := pk_key i j (by omega) (by omega)
  have hown' := hown
  have hM := hown.isMap
  obtain ⟨es, clock, hb, F, hs, hD⟩ := hown'
  obtain ⟨v0, st, es1, clock1, hrun, hv, hst⟩ := WideElems.entry_then_store (z := .int .i64 0) pairKey Try.underlying78 zeroInt hb F hkey
  have hb1 : (ChangeMaps.setBlock w m (.map es1 clock1)).heap[m]? = some (.map es1 clock1) := by
    show (w.heap.setIfInBounds m _)[m]? = _
    rw [Array.getElem?_setIfInBounds_self_of_lt hlt]
  have hup : ∀ (c : Nat), (c : Int) ≤ 1000 → ∃ w', (Instr.mapUpdate 78 (.map (some m)) (pv i j) (.int .i64 (c : Int))).run Try.prog w = .ok () w' ∧ Lm w' m N (fun a b => if a = i ∧ b = j then c else L a b) := fun c hc => by
    obtain ⟨w', hr, r1, r2⟩ := hown.update pairLaw Try.underlying78 (by unfold maxLen; omega) hkey (plainElem_int Try.underlying3 (WalkArith.wf_i64 (n := (c : Int)) (by omega)))
    exact ⟨w', hr, Lm.put hi hj hN h2 hM r1⟩
  refine ⟨v0, st, _, hrun, kp_setBlock _ _ _, ?_, fun w2 hw2 c hc => ?_⟩
  · rcases pairKey.find w hkey es.toList F.keys with ⟨h1, h3⟩ | ⟨q, e0, h1, h3, h4⟩
    · obtain ⟨w', hr, r1⟩ := hup 0 (by omega)
      have hr2 : (Instr.mapUpdate 78 (.map (some m)) (pv i j) (.int .i64 ((0 : Nat) : Int))).run Try.prog w = .ok () (ChangeMaps.setBlock w m (.map (es.push ⟨pv i j, .int .i64 0, clock⟩) (clock + 1))) := by
        simp [Instr.mapUpdate, run_underlying Try.underlying78, MapKept.run_getObj_map hb, pairKey.check w false hkey, h1, MapKept.run_setObj_map _ hb, Result.andThen, ChangeMaps.setBlock]
      have hr3 : (Instr.mapEntry 78 (.map (some m)) (pv i j)).run Try.prog w = .ok (.tuple #[.int .i64 0, goInt clock]) (ChangeMaps.setBlock w m (.map (es.push ⟨pv i j, .int .i64 0, clock⟩) (clock + 1))) := by
        simp [Instr.mapEntry, run_underlying Try.underlying78, MapKept.run_getObj_map hb, pairKey.check w false hkey, h1, zeroInt, MapKept.run_setObj_map _ hb, Result.andThen, ChangeMaps.setBlock]
      rw [hrun] at hr3
      rw [hr] at hr2
      injection hr3 with _ hr3
      injection hr2 with _ hr2
      rw [hr3, ← hr2]
      have hz : L i j = 0 := by
        obtain ⟨c, hc1, hc2, _⟩ := hown.lookup_int pairLaw Try.underlying78 Try.underlying3 (zeroInt w) hkey
        have hl : (Instr.lookup 78 (.map (some m)) (pv i j) false).run Try.prog w = .ok (.int .i64 0) w := by
          simp [Instr.lookup, run_underlying Try.underlying78, MapKept.run_getObj_map hb, pairKey.check w _ hkey, h1, zeroInt, Result.andThen]
        rw [hc1] at hl
        injection hl with hl _
        injection hl with _ hl
        rw [h2.1 i j hi hj, hl] at hc2
        injection hc2 with hc2
        injection hc2 with _ hc2
        omega
      exact r1.congr (fun a b _ _ => by
        by_cases e : a = i ∧ b = j
        · rw [if_pos e, e.1, e.2, hz]
        · rw [if_neg e])
    · have hj' : es[q]? = some e0 := by simpa using h3
      have hsame : es.modify q (fun e => { e with key := pv i j }) = es := by
        apply Array.ext'
        rw [Array.toList_modify, ChangeMaps.modify_eq_set _ _ _ _ h3]
        have : ({ e0 with key := pv i j } : MapEntry) = e0 := by rw [← h4]
        rw [this]
        exact WideElems.set_self _ _ _ h3
      have hr3 : (Instr.mapEntry 78 (.map (some m)) (pv i j)).run Try.prog w = .ok (.tuple #[e0.val, goInt e0.born]) (ChangeMaps.setBlock w m (.map es clock)) := by
        simp [Instr.mapEntry, run_underlying Try.underlying78, MapKept.run_getObj_map hb, pairKey.check w false hkey, h1, hj', h4, pairKey.stays w hkey, hsame, MapKept.run_setObj_map _ hb, Result.andThen, ChangeMaps.setBlock]
      rw [hrun] at hr3
      injection hr3 with _ hr3
      rw [hr3]
      refine hlm.of_block ?_
      rw [hb]
      show (w.heap.setIfInBounds m _)[m]? = _
      rw [Array.getElem?_setIfInBounds_self_of_lt hlt]
  · obtain ⟨es', clock', hr1, hr2⟩ := hst w2 (.int .i64 (c : Int)) (hw2.trans hb1)
    obtain ⟨w', hr, r1⟩ := hup c hc
    rw [hr] at hr2
    injection hr2 with _ hr2
    rw [hr2] at r1
    have hlt2 : m < w2.heap.size := (Array.getElem?_eq_some_iff.1 (hw2.trans hb1)).1
    refine ⟨_, hr1, kp_setBlock _ _ _, r1.of_block ?_⟩
    show (w2.heap.setIfInBounds m _)[m]? = (w.heap.setIfInBounds m _)[m]?
    rw [Array.getElem?_setIfInBounds_self_of_lt hlt2, Array.getElem?_setIfInBounds_self_of_lt hlt]

set_option maxRecDepth 100000 in
set_option maxHeartbeats 1600000 in
theorem cktick_ok0 {w : World} {b t m N : Nat} {T : Nat → Nat} {L : Nat → Nat → Nat} (h : Ck w b t m N T L) (n : Nat) (hn : (n : Int) < (N : Int)) (hm : ∀ o, o < N → L n o < 2) (hL : ∀ o, o < N → L o n ≤ 2) (hT : (T n : Int) ≤ 4611686018427387904) :
    Calls Try.prog 26 #[.pointer (some ⟨b, 0, none⟩), .int .i64 (n : Int)] w fun e w' => e = .returned (.int .i64 0) ∧ Kp (fun x => x = t ∨ x = m) w w' ∧ Ck w' b t m N (tickT n T) (tickTo n N L) := by
  have H0 := why_ok h n hn
  rw [if_pos hm] at H0
  have H : Hid (Calls _ _ _ w _) := H0
  have HC : Hid (Ck w b t m N T L) := h
  have hN16 : (N : Int) ≤ 16 := by have := h.n2; omega
  have HM : Hid (∀ o, o < N → L n o < 2) := hm
  have HL : Hid (∀ o, o < N → L o n ≤ 2) := hL
  have HT : Hid ((T n : Int) ≤ 4611686018427387904) := hT
  have hw1 : IntKind.i64.wrap ((T n : Int) + 1) = (T n : Int) + 1 := by rw [IntKind.wrap_i64]; omega
  have hbt : ¬ b = t := h.bt
  have htb : ¬ t = b := fun e => h.bt e.symm
  clear h hm hL hT H0
  go_enter Try.func26, Try.ntmps26
  go_wp2_with (go_at_call 41; refine H.out.mono ?_; rintro e w1 ⟨rfl, k1⟩; have HC1 : Hid (Ck w1 b t m N T L) := HC.out.keep k1 id id id; have c0 := HC1.out.c0; have c1 := HC1.out.c1; have cn := HC1.out.row.cell (i := n) (by omega); have fn := HC1.out.row.frozen n)

  have kset : Kp (fun x => x = t ∨ x = m) w (w1.setCell ⟨t, n, none⟩ (.int .i64 ((T n : Int) + 1))) := (k1.mono (fun _ _ e => e.elim)).setCell (fun _ => Or.inl rfl) _
  have HC2 : Hid (Ck (w1.setCell ⟨t, n, none⟩ (.int .i64 ((T n : Int) + 1))) b t m N (tickT n T) (tickTo n 0 L)) := by
    have h1 := HC1.out
    have ks : Kp (fun x => x = t) w1 (w1.setCell ⟨t, n, none⟩ (.int .i64 ((T n : Int) + 1))) := (Kp.refl (fun x => x = t) _).setCell (fun _ => rfl) _
    refine ⟨ks.cellv h1.c0 h1.bt, ks.cellv h1.c1 h1.bt, (h1.row.set n _).congr (fun i _ => ?_), (h1.mp.keep ks (fun e => h1.tm e.symm)).congr (fun a b _ _ => (tickTo_zero n L a b).symm), h1.bt, h1.bm, h1.tm, h1.n1, h1.n2⟩
    unfold tickT
    by_cases e : i = n
    · subst e; rw [if_pos rfl, if_pos rfl]; simp
    · rw [if_neg e, if_neg e]
  obtain ⟨w2, hw2⟩ : ∃ x, x = w1.setCell ⟨t, n, none⟩ (.int .i64 ((T n : Int) + 1)) := ⟨_, rfl⟩
  rw [← hw2] at kset HC2 ⊢
  clear hw2 HC1 c0 c1 cn fn k1 HC H hw1 HT hbt htb
  go_loopg [27] N (fun gk i wr => ∃ k : Nat, k ≤ N ∧ gk = N - k ∧ i = .int .i64 k ∧ Kp (fun x => x = t ∨ x = m) w wr ∧ Hid (Ck wr b t m N (tickT n T) (tickTo n k L)))
  case atStart => exact ⟨0, Nat.zero_le _, rfl, rfl, kset, HC2⟩
  case round =>
    obtain ⟨k, hk, rfl, rfl, kr, HCr⟩ := hrel
    clear HC2 kset
    by_cases hlt : (k : Int) < (N : Int)
    · by_cases hkn : k = n
      · subst hkn
        go_wp2
        go_roundg (N - (k + 1))
        case rel => exact ⟨k + 1, by omega, rfl, by go_num, kr, (by
          have h1 := HCr.out
          exact ⟨h1.c0, h1.c1, h1.row, h1.mp.congr (fun a b _ _ => (tickTo_self k L a b).symm), h1.bt, h1.bm, h1.tm, h1.n1, h1.n2⟩)⟩
        case measure => omega
      · have hkn' : ¬ (k : Int) = (n : Int) := by omega
        have dkn : decide ((k : Int) = (n : Int)) = false := decide_eq_false hkn'
        have c1 := HCr.out.c1
        have hL1 : (L n k : Int) ≤ 1 := by have := HM.out k (by omega); omega
        have hw1 : IntKind.i64.wrap ((L n k : Int) + 1) = (L n k : Int) + 1 := by rw [IntKind.wrap_i64]; omega
        have hw2 : IntKind.i64.wrap ((L k n : Int) - 2) = (L k n : Int) - 2 := by rw [IntKind.wrap_i64]; have := HL.out k (by omega); omega
        have hmx : max ((L k n : Int) - 2) 0 = ((L k n - 2 : Nat) : Int) := by omega
        have HLk : Hid (L k n ≤ 2) := HL.out k (by omega)
        obtain ⟨l1, hl1⟩ : ∃ x, x = L n k := ⟨_, rfl⟩
        obtain ⟨l2, hl2⟩ : ∃ x, x = L k n := ⟨_, rfl⟩
        have HX1 : Hid (tickTo n k L n k = l1) := by rw [hl1]; exact tickTo_at1 n k L hkn
        have HX2 : Hid (tickTo n k L k n = l2) := by rw [hl2]; exact tickTo_at2 n k L hkn
        have HX3 : Hid (∀ a b, (if a = k ∧ b = n then l2 - 2 else if a = n ∧ b = k then l1 + 1 else tickTo n k L a b) = tickTo n (k + 1) L a b) := by rw [hl1, hl2]; exact tickTo_next n k L hkn
        rw [← hl1] at hw1 hL1
        rw [← hl2] at hw2 hmx HLk
        clear hl1 hl2
        have HS0 : Hid (∀ z, Kp (fun x => x = m) wr z → z.cell? ⟨b, 1, none⟩ = some (.map (some m))) := fun z kz => kz.cellv HCr.out.c1 HCr.out.bm
        have hnN : n < N := by omega
        have hkN : k < N := by omega
        go_wp2_with fail
        have HEn : Hid (∀ z, Lm z m N (tickTo n k L) → ∃ (v0 : Value) (st : Nat) (z1 : World), (Instr.mapEntry 78 (.map (some m)) (pv n k)).run Try.prog z = .ok (.tuple #[v0, goInt st]) z1 ∧ Kp (fun x => x = m) z z1 ∧ Lm z1 m N (tickTo n k L) ∧
            ∃ z3, (Instr.entryStore 78 (.map (some m)) (.int .i64 (st : Int)) (.int .i64 ((l1 : Int) + 1))).run Try.prog z1 = .ok () z3 ∧ Kp (fun x => x = m) z1 z3 ∧ Lm z3 m N (fun a b => if a = n ∧ b = k then l1 + 1 else tickTo n k L a b)) := fun z hz => by
          obtain ⟨v0, st, z1, e1, e2, e3, e4⟩ := entry_run hz HCr.out.n2 n k hnN hkN
          obtain ⟨z3, e5, e6, e7⟩ := e4 z1 rfl (l1 + 1) (by omega)
          exact ⟨v0, st, z1, e1, e2, e3, z3, (by rw [← e5]; rfl), e6, e7⟩
        have HLk1 : Hid (∀ z, Lm z m N (tickTo n k L) → (Instr.lookup 78 (.map (some m)) (pv n k) false).run Try.prog z = .ok (.int .i64 (l1 : Int)) z) := fun z hz => by
          have := look_lead hz HCr.out.n2 n k hnN hkN
          rw [HX1.out] at this
          exact this
        have HF : Hid (∀ z1 z2, Kp (fun x => x = t ∨ x = m) w z1 → Kp (fun x => x = m) wr z2 → Lm z2 m N (fun a b => if a = n ∧ b = k then l1 + 1 else tickTo n k L a b) → Ck z2 b t m N (tickT n T) (fun a b => if a = n ∧ b = k then l1 + 1 else tickTo n k L a b)) := fun z1 z2 _ kz hz => by
          have h1 := HCr.out
          exact ⟨kz.cellv h1.c0 h1.bm, kz.cellv h1.c1 h1.bm, kz.row h1.row h1.tm, hz, h1.bt, h1.bm, h1.tm, h1.n1, h1.n2⟩
        have kd0 : Kp (fun x => x = m) wr wr.drew := (Kp.refl _ _).drew
        have HM0 : Hid (Lm wr.drew m N (tickTo n k L)) := HCr.out.mp.of_block rfl
        obtain ⟨wd, hwd⟩ : ∃ x, x = wr.drew := ⟨_, rfl⟩
        refine wp_region_held_drew (S := (fun z => z.cell? ⟨b, 1, none⟩ = some (.map (some m)))) (by kernel_rfl) (HS0.out _ kd0) (fun hHeld => ?_)
        rw [← hwd] at kd0 HM0 hHeld ⊢
        clear hwd c1
        simp only [List.size_toArray, List.length_cons, List.length_nil, Nat.zero_add, Nat.reduceAdd]
        refine wpAnyH_take (i := 0) (v := ?zv0) (List.getElem?_toArray.trans rfl) (by kernel_rfl) (by kernel_rfl) (by kernel_rfl) (fun _ _ _ h => h) (Or.inl ⟨by rfl, ?zy0⟩) (by assumption) ?zr0
        case zy0 => (intro w hSw; (try dsimp only at hSw); go_simp; try with_reducible rfl)
        simp only [Act.put, List.setIfInBounds_toArray, List.set_cons_zero, List.set_cons_succ]
        refine wpAnyH_take (i := 1) (v := ?zv1) (List.getElem?_toArray.trans rfl) (by kernel_rfl) (by kernel_rfl) (by kernel_rfl) (fun _ _ _ h => h) (Or.inl ⟨by rfl, ?zy1⟩) (by assumption) ?zr1
        case zy1 => (intro w hSw; (try dsimp only at hSw); go_simp; try with_reducible rfl)
        simp only [Act.put, List.setIfInBounds_toArray, List.set_cons_zero, List.set_cons_succ]
        refine wpAnyH_take (i := 2) (v := ?zv2) (List.getElem?_toArray.trans rfl) (by kernel_rfl) (by kernel_rfl) (by kernel_rfl) (fun _ _ _ h => h) (Or.inl ⟨by rfl, ?zy2⟩) (by assumption) ?zr2
        case zy2 => (intro w hSw; (try dsimp only at hSw); go_simp; try with_reducible rfl)
        simp only [Act.put, List.setIfInBounds_toArray, List.set_cons_zero, List.set_cons_succ]
        refine wpAnyH_take (i := 3) (v := ?zv3) (List.getElem?_toArray.trans rfl) (by kernel_rfl) (by kernel_rfl) (by kernel_rfl) (fun _ _ _ h => h) (Or.inl ⟨by rfl, ?zy3⟩) (by assumption) ?zr3
        case zy3 => (intro w hSw; (try dsimp only at hSw); go_simp; try with_reducible rfl)
        simp only [Act.put, List.setIfInBounds_toArray, List.set_cons_zero, List.set_cons_succ]
        refine wpAnyH_take (i := 4) (v := ?zv4) (List.getElem?_toArray.trans rfl) (by kernel_rfl) (by kernel_rfl) (by kernel_rfl) (fun _ _ _ h => h) (Or.inl ⟨by rfl, ?zy4⟩) (by assumption) ?zr4
        case zy4 => (intro w hSw; (try dsimp only at hSw); go_simp; try with_reducible rfl)
        simp only [Act.put, List.setIfInBounds_toArray, List.set_cons_zero, List.set_cons_succ]
        refine wpAnyH_take (i := 5) (v := ?zv5) (List.getElem?_toArray.trans rfl) (by kernel_rfl) (by kernel_rfl) (by kernel_rfl) (fun _ _ _ h => h) (Or.inl ⟨by rfl, ?zy5⟩) (by assumption) ?zr5
        case zy5 => (intro w hSw; (try dsimp only at hSw); go_simp; try with_reducible rfl)
        simp only [Act.put, List.setIfInBounds_toArray, List.set_cons_zero, List.set_cons_succ]
        refine wpAnyH_take (i := 6) (v := ?zv6) (List.getElem?_toArray.trans rfl) (by kernel_rfl) (by kernel_rfl) (by kernel_rfl) (fun _ _ _ h => h) (Or.inl ⟨by rfl, ?zy6⟩) (by assumption) ?zr6
        case zy6 => (intro w hSw; (try dsimp only at hSw); go_simp; try with_reducible rfl)
        simp only [Act.put, List.setIfInBounds_toArray, List.set_cons_zero, List.set_cons_succ]
        obtain ⟨v0, st, z1, e1, q1, m1, z3, e3, q3, m3⟩ := HEn.out wd HM0.out
        have kz1 := kd0.trans q1 (fun _ _ e => e)
        have kz3 := kz1.trans q3 (fun _ _ e => e)
        have HC3 : Hid (Ck z3 b t m N (tickT n T) (fun a b => if a = n ∧ b = k then l1 + 1 else tickTo n k L a b)) := HF.out wr z3 kr kz3 m3
        have kw3 : Kp (fun x => x = t ∨ x = m) w z3 := kr.trans kz3 (fun _ _ e => Or.inr e)
        clear HF HEn
        refine wpAnyH_ready (rs := [7, 9]) (by kernel_rfl) (by simp) ?_
        refine AllReadyH.cons rfl (fun Ka hKa => ?_) (AllReadyH.cons rfl (fun Kc hKc => ?_) AllReadyH.nil)
        · have hlk := HLk1.out wd HM0.out
          go_simp
          refine hKa.out _ _ hHeld (fun hHeld => ?_)
          clear hKa Ka hlk
          refine wpAnyH_take (i := 8) (v := ?zva8) (List.getElem?_toArray.trans rfl) (by kernel_rfl) (by kernel_rfl) (by kernel_rfl) (fun _ _ _ h => h) (Or.inl ⟨by rfl, ?zya8⟩) (by assumption) ?zra8
          case zya8 => (intro w hSw; (try dsimp only at hSw); go_simp; try with_reducible rfl)
          simp only [Act.put, List.setIfInBounds_toArray, List.set_cons_zero, List.set_cons_succ]
          refine wpAnyH_ready (rs := [9]) (by kernel_rfl) (by simp) ?_
          refine AllReadyH.cons rfl (fun Kb hKb => ?_) AllReadyH.nil
          go_simp
          refine hKb.out _ _ (HS0.out _ kz1) (fun hHeld => ?_)
          clear hKb Kb
          refine wpAnyH_take (i := 10) (v := ?zva10) (List.getElem?_toArray.trans rfl) (by kernel_rfl) (by kernel_rfl) (by kernel_rfl) (fun _ _ _ h => h) (Or.inl ⟨by rfl, ?zya10⟩) (by assumption) ?zra10
          case zya10 => (intro w hSw; (try dsimp only at hSw); go_simp; try with_reducible rfl)
          simp only [Act.put, List.setIfInBounds_toArray, List.set_cons_zero, List.set_cons_succ]
          refine wpAnyH_ready (rs := [11]) (by kernel_rfl) (by simp) ?_
          refine AllReadyH.cons rfl (fun Kb hKb => ?_) AllReadyH.nil
          go_simp
          refine hKb.out _ _ (HS0.out _ kz3) (fun hHeld => ?_)
          refine wpAnyH_done (by kernel_rfl) ?_ _
          clear hKb Kb hHeld
          have c1z := HC3.out.c1
          go_wp2_with fail
          refine wp_region_still_tail 17 (by kernel_rfl) (by kernel_rfl) ?_
          have HC4 : Hid (Ck { z3 with drawn := z3.drawn + 1 } b t m N (tickT n T) (fun a b => if a = n ∧ b = k then l1 + 1 else tickTo n k L a b)) := HC3.out.keep (S := fun _ => False) ((Kp.refl _ _).drew) id id id
          have kw4 : Kp (fun x => x = t ∨ x = m) w { z3 with drawn := z3.drawn + 1 } := kw3.drew
          obtain ⟨w4, hw4⟩ : ∃ x, x = { z3 with drawn := z3.drawn + 1 } := ⟨_, rfl⟩
          rw [← hw4] at HC4 kw4 ⊢
          have c14 := HC4.out.c1
          have hlk4 : (Instr.lookup 78 (.map (some m)) (pv k n) false).run Try.prog w4 = .ok (.int .i64 (l2 : Int)) w4 := by
            have := look_lead HC4.out.mp HC4.out.n2 k n hkN hnN
            rw [if_neg (fun e => hkn e.1), HX2.out] at this
            exact this
          clear hw4 c1z HC3 kw3 e1 e3 q1 q3 m1 m3 kz1 kz3
          simp only [List.take_succ_cons, List.take_zero, List.drop_succ_cons, List.drop_zero]
          iterate 17 still_step
          refine wpStill_nil ?_
          clear hlk4 c14
          refine wpList_store_lead rfl _ _ _ rfl m N _ HC4.out.mp HC4.out.n2 rfl k n (l2 - 2) hkN hnN rfl (by have := HLk.out; omega) rfl ?_
          intro w5 h5 k5
          have HC5 : Hid (Ck w5 b t m N (tickT n T) (tickTo n (k + 1) L)) := by
            have h4 := HC4.out
            exact ⟨k5.cellv h4.c0 h4.bm, k5.cellv h4.c1 h4.bm, k5.row h4.row h4.tm, h5.congr (fun a b _ _ => HX3.out a b), h4.bt, h4.bm, h4.tm, h4.n1, h4.n2⟩
          have kw5 : Kp (fun x => x = t ∨ x = m) w w5 := kw4.trans k5 (fun _ _ e => Or.inr e)
          clear h5 k5 HC4 kw4
          go_wp2
          go_roundg (N - (k + 1))
          case rel => exact ⟨k + 1, by omega, rfl, by go_num, kw5, HC5⟩
          case measure => omega
        · go_simp
          refine hKc.out _ _ (HS0.out _ kz1) (fun hHeld => ?_)
          clear hKc Kc
          refine wpAnyH_take (i := 10) (v := ?zvb10) (List.getElem?_toArray.trans rfl) (by kernel_rfl) (by kernel_rfl) (by kernel_rfl) (fun _ _ _ h => h) (Or.inl ⟨by rfl, ?zyb10⟩) (by assumption) ?zrb10
          case zyb10 => (intro w hSw; (try dsimp only at hSw); go_simp; try with_reducible rfl)
          simp only [Act.put, List.setIfInBounds_toArray, List.set_cons_zero, List.set_cons_succ]
          refine wpAnyH_ready (rs := [7]) (by kernel_rfl) (by simp) ?_
          refine AllReadyH.cons rfl (fun Kb hKb => ?_) AllReadyH.nil
          have hlk := HLk1.out z1 m1
          go_simp
          refine hKb.out _ _ (HS0.out _ kz1) (fun hHeld => ?_)
          clear hKb Kb hlk
          refine wpAnyH_take (i := 8) (v := ?zvb8) (List.getElem?_toArray.trans rfl) (by kernel_rfl) (by kernel_rfl) (by kernel_rfl) (fun _ _ _ h => h) (Or.inl ⟨by rfl, ?zyb8⟩) (by assumption) ?zrb8
          case zyb8 => (intro w hSw; (try dsimp only at hSw); go_simp; try with_reducible rfl)
          simp only [Act.put, List.setIfInBounds_toArray, List.set_cons_zero, List.set_cons_succ]
          refine wpAnyH_ready (rs := [11]) (by kernel_rfl) (by simp) ?_
          refine AllReadyH.cons rfl (fun Kb hKb => ?_) AllReadyH.nil
          go_simp
          refine hKb.out _ _ (HS0.out _ kz3) (fun hHeld => ?_)
          refine wpAnyH_done (by kernel_rfl) ?_ _
          clear hKb Kb hHeld
          have c1z := HC3.out.c1
          go_wp2_with fail
          refine wp_region_still_tail 17 (by kernel_rfl) (by kernel_rfl) ?_
          have HC4 : Hid (Ck { z3 with drawn := z3.drawn + 1 } b t m N (tickT n T) (fun a b => if a = n ∧ b = k then l1 + 1 else tickTo n k L a b)) := HC3.out.keep (S := fun _ => False) ((Kp.refl _ _).drew) id id id
          have kw4 : Kp (fun x => x = t ∨ x = m) w { z3 with drawn := z3.drawn + 1 } := kw3.drew
          obtain ⟨w4, hw4⟩ : ∃ x, x = { z3 with drawn := z3.drawn + 1 } := ⟨_, rfl⟩
          rw [← hw4] at HC4 kw4 ⊢
          have c14 := HC4.out.c1
          have hlk4 : (Instr.lookup 78 (.map (some m)) (pv k n) false).run Try.prog w4 = .ok (.int .i64 (l2 : Int)) w4 := by
            have := look_lead HC4.out.mp HC4.out.n2 k n hkN hnN
            rw [if_neg (fun e => hkn e.1), HX2.out] at this
            exact this
          clear hw4 c1z HC3 kw3 e1 e3 q1 q3 m1 m3 kz1 kz3
          simp only [List.take_succ_cons, List.take_zero, List.drop_succ_cons, List.drop_zero]
          iterate 17 still_step
          refine wpStill_nil ?_
          clear hlk4 c14
          refine wpList_store_lead rfl _ _ _ rfl m N _ HC4.out.mp HC4.out.n2 rfl k n (l2 - 2) hkN hnN rfl (by have := HLk.out; omega) rfl ?_
          intro w5 h5 k5
          have HC5 : Hid (Ck w5 b t m N (tickT n T) (tickTo n (k + 1) L)) := by
            have h4 := HC4.out
            exact ⟨k5.cellv h4.c0 h4.bm, k5.cellv h4.c1 h4.bm, k5.row h4.row h4.tm, h5.congr (fun a b _ _ => HX3.out a b), h4.bt, h4.bm, h4.tm, h4.n1, h4.n2⟩
          have kw5 : Kp (fun x => x = t ∨ x = m) w w5 := kw4.trans k5 (fun _ _ e => Or.inr e)
          clear h5 k5 HC4 kw4
          go_wp2
          go_roundg (N - (k + 1))
          case rel => exact ⟨k + 1, by omega, rfl, by go_num, kw5, HC5⟩
          case measure => omega
    · go_wp2
      go_ret
      refine ⟨rfl, kr, ?_⟩
      have h1 := HCr.out
      obtain rfl : k = N := by omega
      exact h1


end Go.Proofs.Ytjjghgbegecbeaa
